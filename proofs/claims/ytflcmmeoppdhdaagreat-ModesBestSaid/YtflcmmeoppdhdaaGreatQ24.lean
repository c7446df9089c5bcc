/-
  Layer 18: the reference's Code. · slices.Reverse of bytes, over a row of one's own. · Layer 18: the program's encoder: give, in, turned.
-/
import Derived.Test.YtflcmmeoppdhdaaGreatQ03
import Derived.Test.YtflcmmeoppdhdaaGreatQ17
import Derived.Test.YtflcmmeoppdhdaaGreatQ20
import Derived.Test.YtflcmmeoppdhdaaGreatQ21
import Derived.Test.YtflcmmeoppdhdaaGreatQ22
import Derived.Test.YtflcmmeoppdhdaaGreatQ23
import Derived.Lib.OwnBridge
import Derived.Lib.SlicesMore
import Derived.Sort.WalkB12
import Derived.Deep.LoopGhost
import Derived.BigRegion
import Derived.Deep.AppendLies
import Derived.Deep.RegionLaw
namespace Go.Proofs.YtflcmmeoppdhdaaGreat
open Go.RowKit Go.Sort Go.Shelf

/-- Letters by their shares. -/
def letL (r : List Int) (l : List UInt8) : List (Nat × Nat) := l.map fun b => ((fPre r b.toNat).toNat, (r.getD b.toNat 0).toNat)
theorem letL_cons (r : List Int) (b : UInt8) (l : List UInt8) : letL r (b :: l) = ((fPre r b.toNat).toNat, (r.getD b.toNat 0).toNat) :: letL r l := rfl
/-- Shares of a text: each of its letters has one. -/
structure SharesOf (l : List UInt8) (r : List Int) : Prop where
  len : r.length = 256
  nn : ∀ x ∈ r, 0 ≤ x
  sum : r.sum = 4096
  some : ∀ b ∈ l, 1 ≤ r.getD b.toNat 0
theorem shares_of {l : List UInt8} {r : List Int} (h0 : 0 < l.length) (h1 : l.length ≤ 4000) (h : NormR (cntL l) 4096 r) : SharesOf l r := by
  have hle := cntL_le l
  have hnn := fun x hx => (hle x hx).1
  have hmany : many (cntL l) ≤ 4096 := by have := many_le (cntL l); rw [cntL_len] at this; omega
  have hpos : 0 < (cntL l).sum := by
    obtain ⟨a, t, rfl⟩ := List.exists_cons_of_length_pos h0
    have h2 := cntL_mem (l := a :: t) (b := a) List.mem_cons_self
    have hlt : a.toNat < (cntL (a :: t)).length := by rw [cntL_len]; exact a.toNat_lt
    have h4 := le_sum12 hnn hlt
    have e : (cntL (a :: t)).getD a.toNat 0 = (cntL (a :: t))[a.toNat] := by simp [List.getD_eq_getElem?_getD, hlt]
    omega
  obtain ⟨hal, hs⟩ := h.keeps hnn (by decide) hpos hmany
  refine ⟨hal.1.trans (cntL_len l), all_nn14 hal, hs, fun b hb => ?_⟩
  have h2 := cntL_mem hb
  have h3 := hal.2 b.toNat (by rw [cntL_len]; exact b.toNat_lt)
  obtain ⟨g1, g2⟩ := h3
  have : r.getD b.toNat 0 ≠ 0 := fun e => by
    have := g2.1 e
    omega
  omega
theorem SharesOf.letter {l : List UInt8} {r : List Int} (h : SharesOf l r) {b : UInt8} (hb : b ∈ l) : okL ((fPre r b.toNat).toNat, (r.getD b.toNat 0).toNat) ∧ (((fPre r b.toNat).toNat : Nat) : Int) = fPre r b.toNat ∧ (((r.getD b.toNat 0).toNat : Nat) : Int) = r.getD b.toNat 0 := by
  have hlt : b.toNat < r.length := by rw [h.len]; exact b.toNat_lt
  have h1 := h.some b hb
  have h2 := fPre_nn h.nn b.toNat
  have h3 := fPre_le h.nn (b.toNat + 1)
  have h4 := fPre_succ r b.toNat hlt
  have e : r.getD b.toNat 0 = r[b.toNat] := by simp [List.getD_eq_getElem?_getD, hlt]
  have h5 := h.sum
  refine ⟨⟨by simp only; omega, by simp only; omega⟩, by omega, by omega⟩
theorem SharesOf.letters {l : List UInt8} {r : List Int} (h : SharesOf l r) (l' : List UInt8) (hs : ∀ b ∈ l', b ∈ l) : ∀ p ∈ letL r l', okL p := fun p hp => by
  obtain ⟨b, hb, rfl⟩ := List.mem_map.1 hp
  exact (h.letter (hs b hb)).1
theorem SharesOf.may {l : List UInt8} {r : List Int} (h : SharesOf l r) : ∀ x ∈ r, 0 ≤ x ∧ x ≤ 65536 := fun x hx => by
  obtain ⟨i, hi, rfl⟩ := List.getElem_of_mem hx
  have h1 := le_sum12 h.nn hi
  have h2 := h.nn _ hx
  have := h.sum
  omega
/-- A letter goes in, as the walk says it. -/
theorem in_vals {f s y : Nat} (hs : 1 ≤ s) (hf : f + s ≤ 4096) (hy : y < s * 524288) : ∃ q m q4 qf : Nat, (y : Int) / (s : Int) = (q : Int) ∧ (y : Int).tdiv (s : Int) = (q : Int) ∧ (y : Int) % (s : Int) = (m : Int) ∧ (y : Int).tmod (s : Int) = (m : Int) ∧ IntKind.i64.wrap (q : Int) = (q : Int) ∧ IntKind.i64.wrap ((q : Int) * 4096) = (q4 : Int) ∧ IntKind.i64.wrap ((q4 : Int) + (f : Int)) = (qf : Int) ∧ IntKind.i64.wrap ((qf : Int) + (m : Int)) = ((inX f s y : Nat) : Int) ∧ IntKind.i64.wrap (m : Int) = (m : Int) := by
  have h5 : y / s < 524288 := (Nat.div_lt_iff_lt_mul (by omega)).2 (by rw [Nat.mul_comm]; exact hy)
  have h6 : y % s < s := Nat.mod_lt y (by omega)
  have e : inX f s y = y / s * 4096 + f + y % s := rfl
  have d1 : (y : Int) / (s : Int) = ((y / s : Nat) : Int) := (Int.natCast_ediv _ _).symm
  have d2 : (y : Int) % (s : Int) = ((y % s : Nat) : Int) := (Int.natCast_emod _ _).symm
  obtain ⟨q, hq⟩ : ∃ q, q = y / s := ⟨_, rfl⟩
  obtain ⟨m, hm⟩ : ∃ m, m = y % s := ⟨_, rfl⟩
  rw [← hq] at h5 e d1
  rw [← hm] at h6 e d2
  refine ⟨q, m, q * 4096, q * 4096 + f, d1, ?_, d2, ?_, ?_, ?_, ?_, ?_, ?_⟩
  · rw [Int.tdiv_eq_ediv_of_nonneg (by omega)]; exact d1
  · rw [Int.tmod_eq_emod_of_nonneg (by omega)]; exact d2
  · rw [IntKind.wrap_i64]; omega
  · rw [IntKind.wrap_i64]; omega
  · rw [IntKind.wrap_i64]; omega
  · rw [e, IntKind.wrap_i64]; omega
  · rw [IntKind.wrap_i64]; omega
/-- A state's four bytes, as the walk says them. -/
theorem st_vals {x : Nat} (hx : x < 2147483648) : ∃ a b c d e f g : Nat, (x : Int) / 16777216 = (a : Int) ∧ (x : Int) / 65536 = (b : Int) ∧ (x : Int) / 256 = (c : Int) ∧ IntKind.u8.wrap (a : Int) = (d : Int) ∧ IntKind.u8.wrap (b : Int) = (e : Int) ∧ IntKind.u8.wrap (c : Int) = (f : Int) ∧ IntKind.u8.wrap (x : Int) = (g : Int) ∧ be4 x = [d, e, f, g] ∧ d < 256 ∧ e < 256 ∧ f < 256 ∧ g < 256 := by
  refine ⟨x / 16777216, x / 65536, x / 256, x / 16777216, x / 65536 % 256, x / 256 % 256, x % 256, ?_, ?_, ?_, ?_, ?_, ?_, ?_, rfl, by omega, by omega, by omega, by omega⟩
  · omega
  · omega
  · omega
  · rw [IntKind.wrap_u8]; omega
  · rw [IntKind.wrap_u8]; omega
  · rw [IntKind.wrap_u8]; omega
  · rw [IntKind.wrap_u8]; omega
/-- What holds as the bytes that went out are laid, the last one first. -/
def RCOut (w : World) (Q : List UInt8) (x : Nat) (T : List Nat) (ov iv : Value) (wr : World) : Prop :=
  ∃ k : Nat, k ≤ T.length ∧ iv = .int .i64 ((k : Int) - 1) ∧ wr.ownsRow w.heap.size 5 1 ov (Q.length + 4 + (T.length - k)) (bvs (Q ++ u8s (be4 x ++ T.take (T.length - k)))) ∧ Below w.heap.size w wr
theorem u8s_snoc (o : List Nat) (c : Nat) : u8s (o ++ [c]) = u8s o ++ [UInt8.ofNat c] := by simp [u8s]
/-- What Code tells. -/
def RansSays (l : List UInt8) (B : List UInt8) : Prop := ∃ (r : List Int) (x : Nat) (T : List Nat), NormR (cntL l) 4096 r ∧ RansIn (letL r l) x T ∧ B = hPut r ++ u8s (be4 x ++ T)
theorem RansSays.one {l : List UInt8} {B B' : List UInt8} (h : RansSays l B) (h' : RansSays l B') : B = B' := by
  obtain ⟨r, x, T, h1, h2, rfl⟩ := h
  obtain ⟨r', x', T', h1', h2', rfl⟩ := h'
  obtain rfl := h1.one h1'
  obtain ⟨rfl, rfl⟩ := h2.one h2'
  rfl
/-- What holds at the head of a round of Code. -/
def RCRel (w : World) (l : List UInt8) (r : List Int) (xv wv iv : Value) (wr : World) : Prop :=
  ∃ (k x : Nat) (T : List Nat), k ≤ l.length ∧ iv = .int .i64 ((k : Int) - 1) ∧ xv = .int .i64 (x : Int) ∧ RansIn (letL r (l.drop k)) x T ∧ wr.ownsRow w.heap.size 5 1 wv T.length (bvs (u8s T.reverse)) ∧ Below w.heap.size w wr
def RCIn (w : World) (s y : Nat) (T o : List Nat) (xv wv : Value) (wr : World) : Prop :=
  ∃ (x1 : Nat) (o1 o2 : List Nat), xv = .int .i64 (x1 : Int) ∧ o1 ++ o2 = o ∧ Goes s x1 o2 y ∧ x1 < 2147483648 ∧ wr.ownsRow w.heap.size 5 1 wv (T.length + o1.length) (bvs (u8s (T.reverse ++ o1))) ∧ Below w.heap.size w wr
section
variable {w : World} {A : Option Addr} {n m : Nat} {l : List UInt8}
set_option maxHeartbeats 2000000 in
set_option maxRecDepth 100000 in
theorem ransRef_any (hr : Rd w w.heap.size A (bvs l)) (hn : l.length = n) (h0 : 0 < n) (hn1 : n ≤ 4000) :
    Calls Tryz.prog 20 #[.slice A n m] w fun e w' => ∃ (v : Value) (B : List UInt8), e = .returned v ∧ RansSays l B ∧ B.length ≤ 20000 ∧ w'.ownsRow w.heap.size 5 1 v B.length (bvs B) ∧ Below w.heap.size w w' := by
  obtain ⟨i0, hi0, hz0, hz1, hz2⟩ := info_parts info_u8r
  have C1 := Lib.hid (rnCount_any (m := m) hr hn (by omega))
  have hbad : (cntL l).any nBad = false := by
    rw [List.any_eq_false]
    intro x hx
    have := cntL_le l x hx
    simp [nBad]
    omega
  have hm1 : many (cntL l) ≤ ((2 ^ 12 : Nat) : Int) := by have := many_le (cntL l); rw [cntL_len] at this; omega
  have hm0 : many (cntL l) ≠ 0 := fun h => by
    obtain ⟨a, t, rfl⟩ := List.exists_cons_of_length_pos (show 0 < l.length by omega)
    have hnn := fun x hx => (cntL_le (a :: t) x hx).1
    have h2 := cntL_mem (l := a :: t) (b := a) List.mem_cons_self
    have h3 := many_zero hnn h
    have hlt : a.toNat < (cntL (a :: t)).length := by rw [cntL_len]; exact a.toNat_lt
    have h4 := le_sum12 hnn hlt
    have e : (cntL (a :: t)).getD a.toNat 0 = (cntL (a :: t))[a.toNat] := by simp [List.getD_eq_getElem?_getD, hlt]
    omega
  have C2 := Lib.hid (fun (W : World) (g : Nat) (h : Rd W W.heap.size (some ⟨g, 0, none⟩) (zvs (cntL l))) => rnNorm_ok (m := 256) 12 (2 ^ 12) (by decide) (by decide) rfl hbad h (cntL_len l) (by decide) hm0 hm1)
  have HSH := Lib.hid (fun (r : List Int) (h : NormR (cntL l) ((2 ^ 12 : Nat) : Int) r) => shares_of (l := l) (by omega) (by omega) h)
  have HR := Lib.hid hr
  have HN := Lib.hid hn
  clear hr hn hbad hm1 hm0
  go_enter Tryz.func20, Tryz.ntmps20
  go_wp2_with fail
  refine C1.out.mono ?_
  rintro _ w1 ⟨g, rfl, -, hk1, hb1⟩
  have HK1 := Lib.hid hk1
  have HB1 := Lib.hid hb1
  clear hk1 hb1 C1
  go_wp2_with fail
  refine (C2.out w1 g (Rd.of_blk HK1.out)).mono ?_
  rintro _ w2 ⟨g2, cap, r, rfl, hnr, hown2, hb2⟩
  have HNR := Lib.hid hnr
  have HS := Lib.hid (HSH.out r hnr)
  have HB2 := Lib.hid (HB1.out.trans (hb2.mono HB1.out.size))
  have HRR := Lib.hid (Rd.of_own hown2)
  have hgs2 : w.heap.size ≤ w2.heap.size := HB2.out.size
  clear hnr hown2 hb2 C2 HSH HK1 HB1
  have HREL := Lib.hid (show RCRel w2 l r (.int .i64 ((8388608 : Nat) : Int)) (.slice none 0 0) (.int .i64 ((n : Int) - 1)) w2 from ⟨n, 8388608, [], by rw [HN.out]; exact Nat.le_refl _, rfl, rfl, by rw [List.drop_of_length_le (by rw [HN.out]; exact Nat.le_refl _)]; exact .none, World.ownsRow_nil _ _ _ _, Below.refl _ _⟩)
  go_wp2
  go_loopw [5, 6, 7] (RCRel w2 l r) (fun _ _ i _ => (intOf i + 1).toNat)
  case atStart => exact HREL.out
  case round =>
    clear HREL
    obtain ⟨k, x, T, hk, rfl, rfl, hin, hown, hb⟩ := hrel
    have hsub : ∀ b ∈ l.drop k, b ∈ l := fun b hb => List.mem_of_mem_drop hb
    have hTl := hin.len (HS.out.letters _ hsub)
    have hrg := hin.range (HS.out.letters _ hsub)
    obtain ⟨A1, c1, rfl, -, -, -⟩ := own_form hown
    have HIN := Lib.hid hin
    have HOWN := Lib.hid hown
    have HB := Lib.hid hb
    have HRG := Lib.hid hrg
    have HRW := Lib.hid ((HRR.out.below hb).more hb.size)
    have hTl2 : T.length ≤ 8000 := by
      have : (letL r (l.drop k)).length ≤ 4000 := by unfold letL; rw [List.length_map, List.length_drop]; have := HN.out; omega
      omega
    clear hin hown hb hrg hTl hsub
    by_cases hlt : 0 < k
    · obtain ⟨j, rfl⟩ : ∃ j, k = j + 1 := ⟨k - 1, by omega⟩
      have hjl : j < l.length := by omega
      have hkj : (((j + 1 : Nat) : Int) - 1) = (j : Int) := by omega
      simp only [hkj]
      have hd : l.drop j = l[j] :: l.drop (j + 1) := List.drop_eq_getElem_cons hjl
      obtain ⟨ab, ao, rfl, hab, hcell0⟩ := HR.out j _ (bvs_get l j hjl)
      have hcell := ((HB2.out.trans (HB.out.mono hgs2)).cell (p := ⟨ab, ao + j, none⟩) hab).trans hcell0
      obtain ⟨⟨hs1, hs2⟩, hf1, hf2⟩ := HS.out.letter (b := l[j]) (List.getElem_mem hjl)
      have hb256 : l[j].toNat < 256 := l[j].toNat_lt
      obtain ⟨b, hb⟩ : ∃ b, b = l[j]'hjl := ⟨_, rfl⟩
      rw [← hb] at hcell hd hs1 hs2 hf1 hf2 hb256
      have hbr : b.toNat < r.length := by rw [HS.out.len]; exact hb256
      have hrb : r.getD b.toNat 0 = r[b.toNat] := by simp [List.getD_eq_getElem?_getD, hbr]
      have C3 := Lib.hid (rsOf_at (m := cap) b.toNat HRW.out HS.out.len (by decide) HS.out.nn (by have := HS.out.sum; omega) hbr)
      rw [← hrb, ← hf1, ← hf2] at C3
      simp only at hs1 hs2
      obtain ⟨f, hff⟩ : ∃ f, f = (fPre r b.toNat).toNat := ⟨_, rfl⟩
      obtain ⟨s, hss⟩ : ∃ s, s = (r.getD b.toNat 0).toNat := ⟨_, rfl⟩
      rw [← hff] at hs2 C3
      rw [← hss] at hs1 hs2 C3
      obtain ⟨o, y, hg⟩ := goes_all hs1 x
      have hyr := hg.range (by have := HRG.out.1; omega)
      have hol := goes_few hs1 2 x o y hg (by have := HRG.out.2.1; omega)
      have HIN2 := Lib.hid (show RansIn (letL r (l.drop j)) (inX f s y) (o.reverse ++ T) by rw [hd, letL_cons, ← hff, ← hss]; exact .letter f s _ x T o y HIN.out hg)
      have HG := Lib.hid hg
      have hji : (0 : Int) ≤ (j : Int) := by omega
      have hj63 : (j : Int) < (n : Int) := by have := HN.out; omega
      clear hcell0 hd hb hff hss hf1 hf2 hg hrb hbr
      go_wp2_with fail
      refine C3.out.mono ?_
      rintro _ w4 ⟨rfl, hb4⟩
      have HOWN4 := Lib.hid (own_kept HOWN.out hb4)
      have HB4 := Lib.hid (HB.out.trans (hb4.mono HB.out.size))
      have hi4 := HG.out.range (by have := HRG.out.1; omega)
      clear hb4 C3 hcell HOWN HB HRW
      have HREL2 := Lib.hid (show RCIn w2 s y T o (.int .i64 (x : Int)) (.slice A1 T.length c1) w4 from ⟨x, [], o, rfl, rfl, HG.out, HRG.out.2.1, by rw [List.append_nil]; exact HOWN4.out, HB4.out⟩)
      go_wp2
      go_loopw [5, 6] (RCIn w2 s y T o) (fun x _ _ => (intOf x).toNat)
      case atStart => exact HREL2.out
      case round =>
        clear HREL2 HOWN4 HB4
        obtain ⟨x1, o1, o2, rfl, ho, hg, hx1, hown, hb⟩ := hrel
        obtain ⟨A5, c5, rfl, -, -, -⟩ := own_form hown
        have hbs := hb.size
        have hol1 := congrArg List.length ho
        rw [List.length_append] at hol1
        have HO := Lib.hid ho
        have HG1 := Lib.hid hg
        have HOWN := Lib.hid hown
        have HB := Lib.hid hb
        clear ho hg hown hb
        by_cases hmore : s * 524288 ≤ x1
        · obtain ⟨o3, ho3, hg3⟩ : ∃ o3, o2 = x1 % 256 :: o3 ∧ Goes s (x1 / 256) o3 y := by
            cases HG1.out with
            | stop _ h => omega
            | more _ o3 _ _ hr => exact ⟨o3, rfl, hr⟩
          have HG3 := Lib.hid hg3
          have HO3 := Lib.hid ho3
          have hmi : (s : Int) * 524288 ≤ (x1 : Int) := by omega
          obtain ⟨c, hc⟩ : ∃ c, c = x1 % 256 := ⟨_, rfl⟩
          have hc1 : (x1 : Int) % 256 = (c : Int) := by omega
          have hc2 : (x1 : Int).tmod 256 = (c : Int) := by rw [Int.tmod_eq_emod_of_nonneg (by omega)]; exact hc1
          have hc3 : IntKind.u8.wrap (c : Int) = (c : Int) := by rw [IntKind.wrap_u8]; omega
          have hc256 : c < 256 := by omega
          obtain ⟨d, hd⟩ : ∃ d, d = x1 / 256 := ⟨_, rfl⟩
          have hd1 : (x1 : Int) / 256 = (d : Int) := by omega
          have hd2 : (x1 : Int).tdiv 256 = (d : Int) := by rw [Int.tdiv_eq_ediv_of_nonneg (by omega)]; exact hd1
          have HC := Lib.hid hc
          have HD := Lib.hid hd
          have hdx : d < x1 := by omega
          have hd31 : d < 2147483648 := by omega
          have hs4 : s ≤ 4096 := by omega
          clear hg3 ho3 hc hd
          go_wp2_with ((with_reducible show wpList _ _ _ (({ dst := some 46, op := _, type := _, pos := _, after := _, guard := _ } : Oper) :: _) _ _); go_must (refine wpList_app rfl (.tmp 41) (.tmp 45) 22 rfl w2.heap.size 5 i0 (.int .u8 0) 1 1 Tryz.underlying22 hi0 hz0 hz1 hz2 rfl (by decide) _ _ _ rfl (HOWN.out.alloc _) _ _ 1 1 _ rfl (Rd.new _ _ _) rfl (by intro u hu; simp at hu; subst hu; rfl) (by simp only [maxLen]; omega) (by omega) (by simp; omega) ?_; intro v6 w6 hown6 hg6; have hb6 : Below w2.heap.size w2 w6 := (HB.out.alloc hbs _).grown hg6 (by simp; omega) (own_block HOWN.out); clear hg6))
          go_roundw
          case rel => exact ⟨d, o1 ++ [x1 % 256], o3, by go_num, by rw [← HO.out, HO3.out, List.append_assoc]; rfl, by rw [HD.out]; exact HG3.out, hd31, by rw [← List.append_assoc, bvs_u8s _ (by omega), ← HC.out]; simpa [Nat.add_assoc] using hown6, hb6⟩
          case measure => simp [intOf]; omega
        · obtain ⟨rfl, rfl⟩ : o2 = [] ∧ x1 = y := by
            cases HG1.out with
            | stop => exact ⟨rfl, rfl⟩
            | more _ _ _ h _ => exact absurd h hmore
          have hoo := HO.out
          rw [List.append_nil] at hoo
          subst hoo
          obtain ⟨q, mm, q4, qf, d1, d2, d3, d4, d5, d6, d7, d8, d9⟩ := in_vals hs1 hs2 hi4.2
          have hmi : ¬ (s : Int) * 524288 ≤ (x1 : Int) := by omega
          have hs0 : ¬ (s : Int) = 0 := by omega
          have hs0n : ¬ s = 0 := by omega
          have hs4 : s ≤ 4096 := by omega
          have HB2 := Lib.hid hb256
          go_wp2
          refine wp_region_still_lit (by kernel_rfl) (by kernel_rfl) ?_
          repeat still_step
          refine wpStill_nil ?_
          change Exit.inBlock 1 (Exit.then _ _) Exit.normal _ wr.drew
          clear d1 d2 d3 d4 d5 d6 d7 d8 d9 hmi hs0 hs0n
          obtain ⟨X, hX⟩ : ∃ X, X = inX f s x1 := ⟨_, rfl⟩
          rw [← hX] at HIN2
          simp only [← hX]
          clear hX
          go_wp2
          go_roundw
          case rel => exact ⟨j, X, o1.reverse ++ T, by omega, by go_num, rfl, HIN2.out, by rw [show (o1.reverse ++ T).length = T.length + o1.length by simp; omega, List.reverse_append, List.reverse_reverse]; exact own_drew HOWN.out, HB.out.drew⟩
          case measure => simp [intOf]; try omega
    · obtain rfl : k = 0 := by omega
      obtain ⟨Wr, hWr⟩ : ∃ Wr, Wr = wr := ⟨_, rfl⟩
      subst hWr
      rw [List.drop_zero] at HIN
      have hk0 : (((0 : Nat) : Int) - 1) = -1 := rfl
      simp only [hk0]
      have C4 := Lib.hid (rhPut_any (m := cap) HRW.out HS.out.len (by decide) HS.out.may)
      have hql := hPutF_len r 0 HS.out.may (by rw [HS.out.len]; decide)
      rw [HS.out.len] at hql
      obtain ⟨Q, hQ⟩ : ∃ Q, Q = hPut r := ⟨_, rfl⟩
      have hQl : Q.length ≤ 5130 := by rw [hQ]; exact hql
      have HQ := Lib.hid hQ
      rw [← hQ] at C4
      clear hQ hql
      go_wp2_with fail
      refine C4.out.mono ?_
      rintro _ w4 ⟨v4, rfl, hown4, hb4⟩
      obtain ⟨A4, c4, rfl, -, -, -⟩ := own_form hown4
      obtain ⟨a, b, c, d, e, f, p, e1, e2, e3, e4, e5, e6, e7, e8, f1, f2, f3, f4⟩ := st_vals HRG.out.2.1
      have HOWN4 := Lib.hid hown4
      have HWT := Lib.hid (Rd.of_own HOWN.out)
      have HB4 := Lib.hid hb4
      have HE8 := Lib.hid e8
      have hx31 := HRG.out.2.1
      have hbs4 := hb4.size
      have HT256 := Lib.hid HRG.out.2.2
      clear hown4 hb4 C4 e8
      go_wp2_with ((with_reducible show wpList _ _ _ (({ dst := some 73, op := _, type := _, pos := _, after := _, guard := _ } : Oper) :: _) _ _); go_must (refine wpList_app rfl (.tmp 60) (.tmp 72) 22 rfl Wr.heap.size 5 i0 (.int .u8 0) 1 1 Tryz.underlying22 hi0 hz0 hz1 hz2 rfl (by decide) _ _ _ rfl (HOWN4.out.alloc _) _ _ 4 4 [.int .u8 (d : Int), .int .u8 (e : Int), .int .u8 (f : Int), .int .u8 (p : Int)] rfl (Rd.new _ _ _) rfl (by intro u hu; simp at hu; rcases hu with rfl | rfl | rfl | rfl <;> rfl) (by simp only [maxLen]; omega) (by omega) (by simp; omega) ?_; intro v5 w5 hown5 hg5; have hb5 : Below Wr.heap.size Wr w5 := (HB4.out.alloc hbs4 _).grown hg5 (by simp; omega) (own_block HOWN4.out); clear hg5; have HOWN5 := Lib.hid hown5; have HB5 := Lib.hid hb5; clear hown5 hb5))
      have h45 : bvs Q ++ [Value.int .u8 (d : Int), Value.int .u8 (e : Int), Value.int .u8 (f : Int), Value.int .u8 (p : Int)] = bvs (Q ++ u8s (be4 x)) := by
        have h := u8s_four [] f1 f2 f3 f4
        rw [List.nil_append] at h
        rw [bvs_append, HE8.out, h]
        rfl
      have HREL3 := Lib.hid (show RCOut Wr Q x T v5 (.int .i64 ((T.length : Int) - 1)) w5 from ⟨T.length, Nat.le_refl _, rfl, by rw [Nat.sub_self, List.take_zero, List.append_nil, ← h45]; exact HOWN5.out, HB5.out⟩)
      clear h45 e1 e2 e3 e4 e5 e6 e7 f1 f2 f3 f4 HOWN5 HB5 HOWN4 HB4 HE8
      go_loopw [10, 11] (RCOut Wr Q x T) (fun _ i _ => (intOf i + 1).toNat)
      case atStart => exact HREL3.out
      case round =>
        clear HREL3
        obtain ⟨k, hk, rfl, hown, hb⟩ := hrel
        have hbs := hb.size
        obtain ⟨A6, c6, rfl, -, -, -⟩ := own_form hown
        have HOWN6 := Lib.hid hown
        have HB6 := Lib.hid hb
        clear hown hb
        by_cases hlt : 0 < k
        · obtain ⟨j, rfl⟩ : ∃ j, k = j + 1 := ⟨k - 1, by omega⟩
          have hkj : (((j + 1 : Nat) : Int) - 1) = (j : Int) := by omega
          simp only [hkj]
          have hjT : T.length - (j + 1) < T.length := by omega
          have hjr : j < (u8s T.reverse).length := by rw [u8s_length, List.length_reverse]; omega
          have hrev : T.reverse[j]'(by rw [List.length_reverse]; omega) = T[T.length - (j + 1)] := by
            rw [List.getElem_reverse]; congr 1; omega
          obtain ⟨ab, ao, rfl, hab, hcell0⟩ := HWT.out j _ (bvs_get _ j hjr)
          have hcell := (HB6.out.cell (p := ⟨ab, ao + j, none⟩) hab).trans hcell0
          have hc256 := HT256.out _ (List.getElem_mem hjT)
          have hu : ((u8s T.reverse)[j]'hjr).toNat = T[T.length - (j + 1)] := by
            simp only [u8s, List.getElem_map, hrev, UInt8.toNat_ofNat']
            exact Nat.mod_eq_of_lt hc256
          rw [hu] at hcell
          have htk : T.take (T.length - j) = T.take (T.length - (j + 1)) ++ [T[T.length - (j + 1)]] := by
            rw [show T.length - j = T.length - (j + 1) + 1 by omega, List.take_add_one, List.getElem?_eq_getElem hjT]; rfl
          obtain ⟨c, hc⟩ : ∃ c, c = T[T.length - (j + 1)]'hjT := ⟨_, rfl⟩
          rw [← hc] at hcell hc256 htk
          have HTK := Lib.hid htk
          have hjT2 : (j : Int) < (T.length : Int) := by omega
          have hji : (0 : Int) ≤ (j : Int) := by omega
          have hlen1 : Q.length + 4 + (T.length - (j + 1)) ≤ 20000 := by omega
          obtain ⟨u, hu2⟩ : ∃ u, u = Q.length + 4 + (T.length - (j + 1)) := ⟨_, rfl⟩
          have hu3 : Q.length + 4 + (T.length - j) = u + 1 := by omega
          rw [← hu2] at HOWN6 hlen1
          simp only [← hu2]
          have HU := Lib.hid hu3
          clear hcell0 hrev hu htk hc hu2 hu3 hjr
          go_wp2_with ((with_reducible show wpList _ _ _ (({ dst := some 87, op := _, type := _, pos := _, after := _, guard := _ } : Oper) :: _) _ _); go_must (refine wpList_app rfl (.tmp 81) (.tmp 86) 22 rfl Wr.heap.size 5 i0 (.int .u8 0) 1 1 Tryz.underlying22 hi0 hz0 hz1 hz2 rfl (by decide) _ _ _ rfl (HOWN6.out.alloc _) _ _ 1 1 _ rfl (Rd.new _ _ _) rfl (by intro u hu; simp at hu; subst hu; rfl) (by simp only [maxLen]; omega) (by omega) (by simp; omega) ?_; intro v7 w7 hown7 hg7; have hb7 : Below Wr.heap.size Wr w7 := (HB6.out.alloc hbs _).grown hg7 (by simp; omega) (own_block HOWN6.out); clear hg7))
          go_roundw
          case rel => exact ⟨j, by omega, by go_num, by rw [HU.out, HTK.out, ← List.append_assoc, u8s_snoc, ← List.append_assoc, bvs_append, show bvs [UInt8.ofNat c] = [Value.int .u8 (c : Int)] by simpa [u8s, bvs] using bvs_u8s [] hc256]; exact hown7, hb7⟩
          case measure => simp [intOf]; try omega
        · obtain rfl : k = 0 := by omega
          have hk0 : (((0 : Nat) : Int) - 1) = -1 := rfl
          simp only [hk0]
          have HO := HOWN6.out
          rw [Nat.sub_zero, List.take_length] at HO
          simp only [Nat.sub_zero]
          have HO2 := Lib.hid HO
          clear HO HOWN6
          go_wp2
          go_ret
          have hlen : (Q ++ u8s (be4 x ++ T)).length = Q.length + 4 + T.length := by rw [List.length_append, u8s_length, List.length_append]; simp [be4]; omega
          refine ⟨_, Q ++ u8s (be4 x ++ T), rfl, ⟨r, x, T, HNR.out, HIN.out, by rw [HQ.out]⟩, by rw [hlen]; omega, ?_, HB2.out.trans ((HB.out.trans (HB6.out.mono HB.out.size)).mono hgs2)⟩
          rw [hlen]
          exact own_more HO2.out (Nat.le_trans hgs2 HB.out.size)
set_option maxRecDepth 100000 in
set_option maxHeartbeats 1000000 in
theorem ransRef_nil (hr : Rd w w.heap.size A (bvs [])) :
    Calls Tryz.prog 20 #[.slice A (0 : Nat) m] w fun e w' => e = .returned (.slice none 0 0) ∧ Below w.heap.size w w' := by
  have C1 := Lib.hid (rnCount_any (m := m) hr rfl (by decide))
  have hc : cntL [] = List.replicate 256 0 := rfl
  have hbad : (cntL []).any nBad = false := by rw [hc]; decide +kernel
  have hm0 : many (cntL []) = 0 := by rw [hc]; decide +kernel
  have C2 := Lib.hid (fun (W : World) (g : Nat) (h : Rd W W.heap.size (some ⟨g, 0, none⟩) (zvs (cntL []))) => rnNorm_arg ((12 : Nat) : Int) 3 (.inr rfl) (rnCheck_any (m := 256) 12 _ (by decide) (by decide) rfl h (cntL_len []) (by decide) 3 (.inr ⟨hbad, .inl ⟨.inl hm0, rfl⟩⟩)))
  clear hr hc hbad hm0
  go_enter Tryz.func20, Tryz.ntmps20
  go_wp2_with fail
  refine C1.out.mono ?_
  rintro _ w1 ⟨g, rfl, -, hk1, hb1⟩
  have HK1 := Lib.hid hk1
  have HB1 := Lib.hid hb1
  clear hk1 hb1 C1
  go_wp2_with fail
  refine (C2.out w1 g (Rd.of_blk HK1.out)).mono ?_
  rintro _ w' ⟨rfl, hw⟩
  obtain rfl : _ = w' := hw.symm
  unfold NoShares
  go_wp2
  go_ret
  exact ⟨rfl, HB1.out⟩
end
end Go.Proofs.YtflcmmeoppdhdaaGreat
namespace Go.Proofs.YtflcmmeoppdhdaaGreat
open Go.RowKit Go.Sort Go.Lib

abbrev encB : Int → Value := fun x => Value.int .u8 x
set_option maxHeartbeats 2000000 in
set_option maxRecDepth 100000 in
theorem rev_arr (blk cap : Nat) (d : Array Int) (w : World) (hH : Holds encB w blk 0 d) (hsz : d.size ≤ 1000000) :
    Calls Tryz.prog 127 #[.slice (some ⟨blk, 0, none⟩) d.size cap] w fun e w' => e = .returned (.tuple #[]) ∧ ∃ n, w' = putRow encB (Sort.ahead w n) blk 0 d.reverse := by
  go_enter Tryz.func127, Tryz.ntmps127
  go_wp2
  go_loopg [2, 3] d.size (fun k s2 s3 wr => ∃ (i jn : Nat) (jz : Int) (dk : Array Int) (n : Nat), s2 = .int .i64 i ∧ s3 = .int .i64 jz ∧ ((i : Int) < jz → jz = jn ∧ jn < d.size) ∧ (¬ (i : Int) < jz → ¬ i < jn) ∧ jn - i ≤ k ∧
    dk.size = d.size ∧ wr = putRow encB (Sort.ahead w n) blk 0 dk ∧ reverseLoop i jn dk = reverseLoop 0 (d.size - 1) d)
  case atStart => exact ⟨0, d.size - 1, (d.size : Int) - 1, d, 0, rfl, rfl, fun h => ⟨by omega, by omega⟩, fun h => by omega, by omega, rfl, (putRow_self encB w blk 0 d hH).symm, rfl⟩
  case round =>
    obtain ⟨i, jn, jz, dk, n, rfl, rfl, h1, h2, hk, hds, hwr, heq⟩ := hrel
    by_cases hlt : (i : Int) < jz
    · obtain ⟨rfl, hjn⟩ := h1 hlt
      have hij : i < jn := by omega
      have hHk : Holds encB wr blk 0 dk := by rw [hwr]; exact holds_putRow encB _ blk 0 d dk (holds_ahead encB w n blk 0 d hH) hds
      obtain ⟨ci, fi⟩ := hHk i (by omega)
      obtain ⟨cj, fj⟩ := hHk jn (by omega)
      rw [Nat.zero_add] at ci fi cj fj
      have hii : (i : Int) < (d.size : Int) := by omega
      have hjj : (jn : Int) < (d.size : Int) := by omega
      have A := Lib.hid hwr
      have HEQ := Lib.hid heq
      have HDS := Lib.hid hds
      have hne : i ≠ jn := by omega
      clear hwr hHk hH h1 h2 heq hds
      go_wp2
      go_region
      all_goals go_wp2
      all_goals go_roundg (jn - 1 - (i + 1))
      case measure => omega
      case rel =>
        have heq := HEQ.out
        rw [reverseLoop, if_pos hij] at heq
        have hsw := swap_world encB (blk := blk) (off := 0) (show i < dk.size by have := HDS.out; omega) (show jn < dk.size by have := HDS.out; omega) A.out (x := encB dk[jn]!) (y := encB dk[i]!) rfl rfl
        rw [Nat.zero_add, Nat.zero_add] at hsw
        exact ⟨i + 1, jn - 1, (jn : Int) - 1, swp dk i jn, n + 1, by simp, rfl, fun h => ⟨by omega, by omega⟩, fun h => by omega, Nat.le_refl _, by rw [size_swp]; exact HDS.out, hsw, heq⟩
    · have hnot := h2 hlt
      go_wp2
      refine bodyPost_end (results_none rfl _ _ _) rfl ?_
      refine ⟨rfl, n, ?_⟩
      rw [reverseLoop, if_neg hnot] at heq
      rw [← Lib.reverseLoop_reverse, ← heq]
theorem bvs_enc (l : List UInt8) : bvs l = (l.map fun b => (b.toNat : Int)).map encB := by simp [bvs, encB]
/-- Of a row of one's own. -/
theorem rev_own {w : World} {B cap : Nat} {A : Option Addr} {l : List UInt8} (h : w.ownsRow B 5 1 (.slice A l.length cap) l.length (bvs l)) (hl : l.length ≤ 1000000) (hne : l ≠ []) :
    Calls Tryz.prog 127 #[.slice A l.length cap] w fun e w' => e = .returned (.tuple #[]) ∧ w'.ownsRow B 5 1 (.slice A l.length cap) l.length (bvs l.reverse) ∧ Below B w w' ∧ OnlyT B [5] w w' := by
  have h0 := h
  rw [bvs_enc] at h
  obtain ⟨g, c2, hv, hg, hgl, hn, hc, hlen, hH⟩ := holds_of_ownsRow h (fun e => by
    injection e with _ e2 _
    exact hne (List.length_eq_zero_iff.1 e2))
  injection hv with e1 _ e3
  subst e1 e3
  have hs : ((l.map fun b => (b.toNat : Int)).toArray).size = l.length := by simp
  have hC := rev_arr g cap (l.map fun b => (b.toNat : Int)).toArray w hH (by rw [hs]; exact hl)
  rw [hs] at hC
  refine hC.mono ?_
  rintro e w' ⟨rfl, n, rfl⟩
  have hrev : (l.map fun b => (b.toNat : Int)).toArray.reverse = (l.reverse.map fun b => (b.toNat : Int)).toArray := by simp
  rw [hrev]
  have hown := ownsRow_putRow (q := n) (k := l.length) (ys := l.reverse.map fun b => (b.toNat : Int)) h (by simp) (Nat.le_refl _)
  rw [List.take_of_length_le (by simp), ← bvs_enc] at hown
  have hb := below_putRow (enc := encB) (q := n) (d := (l.reverse.map fun b => (b.toNat : Int)).toArray) (Below.refl B w) hg
  refine ⟨rfl, hown, hb, ⟨hb.os, hb.tape, hb.output, hb.size, fun k hk hkt => ?_⟩⟩
  have hty := (own_type h0 g rfl).2
  have hgk : g ≠ k := fun e => by
    subst e
    rcases hkt with h1 | h1
    · omega
    · exact h1 _ (by simp) hty
  simp [putRow, mapBlock, Sort.ahead, Array.getElem?_modify, hgk]
end Go.Proofs.YtflcmmeoppdhdaaGreat
namespace Go.Proofs.YtflcmmeoppdhdaaGreat
open Go.RowKit Go.Sort

/-- The encoder at E: a state, and the bytes that went out, in a row of its own. -/
def EncS (w : World) (E x : Nat) (O : List UInt8) : Prop :=
  ∃ v, Blk w E 127 [.int .i64 (x : Int), v] ∧ w.ownsRow (E + 1) 5 1 v O.length (bvs O)
def encRT : List TypeId := [127, 5]
section
variable {w : World} {E x : Nat} {O : List UInt8}
theorem EncS.below {w' : World} (h : EncS w E x O) (hb : Below w.heap.size w w') : EncS w' E x O := by
  obtain ⟨v, hbl, hown⟩ := h
  exact ⟨v, hbl.grow hb, own_kept hown hb⟩
theorem EncS.same {w' : World} (h : EncS w E x O) (e : w'.heap = w.heap) : EncS w' E x O := by
  obtain ⟨v, hbl, hown⟩ := h
  refine ⟨v, hbl.same e, hown.1, ?_⟩
  rw [e]; exact hown.2
theorem EncS.lt (h : EncS w E x O) : E < w.heap.size := by
  obtain ⟨v, hbl, -⟩ := h
  exact hbl.lt
theorem own_setCellR {base e size n : Nat} {v : Value} {xs : List Value} {p : Addr} {u : Value} (h : w.ownsRow base e size v n xs) (hp : p.block < base) : (w.setCell p u).ownsRow base e size v n xs := by
  refine ⟨h.1, ?_⟩
  rcases h.2 with h0 | ⟨g, cap, cur, rfl, hbg, hg, rest⟩
  · exact .inl h0
  · exact .inr ⟨g, cap, cur, rfl, hbg, by rw [Below.heap_setCell w p u g (by omega)]; exact hg, rest⟩
theorem EncS.setX (h : EncS w E x O) (y : Nat) : EncS (w.setCell ⟨E, 0, none⟩ (.int .i64 (y : Int))) E y O ∧ OnlyT E encRT w (w.setCell ⟨E, 0, none⟩ (.int .i64 (y : Int))) := by
  obtain ⟨v, hb, hown⟩ := h
  exact ⟨⟨v, hb.set_ 0 _, own_setCellR hown (Nat.lt_succ_self _)⟩, OnlyT.set_ hb (Nat.le_refl _) _ (by simp [encRT])⟩
theorem give_end {A1 : Option Addr} {c1 c g7 cap7 : Nat} {w7 : World} (hown : w.ownsRow (E + 1) 5 1 (.slice A1 O.length c1) O.length (bvs O)) (hx : c < 256)
    (hb7 : Blk w7 E 127 [.int .i64 (x : Int), .slice A1 O.length c1]) (hg7 : World.grownBy (w.drew.alloc (.cells #[.int .u8 (c : Int)] 5)) w7 (Value.slice A1 O.length c1).ownBlock)
    (hown7 : w7.ownsRow (E + 1) 5 1 (.slice (some ⟨g7, 0, none⟩) (O.length + 1) cap7) (O.length + 1) (bvs O ++ [.int .u8 (c : Int)])) :
    EncS (w7.setCell ⟨E, 1, none⟩ (.slice (some ⟨g7, 0, none⟩) (O.length + 1) cap7)) E x (O ++ [UInt8.ofNat c]) ∧ OnlyT E encRT w (w7.setCell ⟨E, 1, none⟩ (.slice (some ⟨g7, 0, none⟩) (O.length + 1) cap7)) := by
  have h1 : OnlyT E encRT w (w.drew.alloc (.cells #[.int .u8 (c : Int)] 5)) := OnlyT.of_below ((Below.refl _ _).drew.alloc (Nat.le_refl _) _)
  have h2 : OnlyT E encRT (w.drew.alloc (.cells #[.int .u8 (c : Int)] 5)) w7 := OnlyT.grown hg7 (fun k hk => by
    obtain ⟨a, b⟩ := own_type (own_kept hown ((Below.refl w.heap.size w).drew.alloc (Nat.le_refl _) (.cells #[.int .u8 (c : Int)] 5))) k hk
    exact ⟨by omega, b⟩) (by simp [encRT])
  refine ⟨⟨_, hb7.set_ 1 _, ?_⟩, (h1.trans h2).trans (OnlyT.set_ hb7 (Nat.le_refl _) _ (by simp [encRT]))⟩
  have e : bvs (O ++ [UInt8.ofNat c]) = bvs O ++ [.int .u8 (c : Int)] := by
    rw [bvs_append]; simp [bvs, UInt8.toNat_ofNat', Nat.mod_eq_of_lt hx]
  rw [e, List.length_append, List.length_singleton]
  exact own_setCellR hown7 (Nat.lt_succ_self _)
set_option maxHeartbeats 2000000 in
set_option maxRecDepth 100000 in
theorem ransGive_any (h : EncS w E x O) (ho : O.length ≤ 100000) :
    Calls Tryz.prog 126 #[.pointer (some ⟨E, 0, none⟩)] w fun e w' => e = .returned (.tuple #[]) ∧ EncS w' E (x / 256) (O ++ [UInt8.ofNat (x % 256)]) ∧ OnlyT E encRT w w' := by
  obtain ⟨v, hb, hown⟩ := h
  obtain ⟨A1, c1, rfl, -, -, -⟩ := own_form hown
  obtain ⟨i0, hi0, hz0, hz1, hz2⟩ := info_parts info_u8r
  obtain ⟨c, hc, hc2⟩ : ∃ c, c = x % 256 ∧ c < 256 := ⟨_, rfl, by omega⟩
  obtain ⟨d, hd⟩ : ∃ d, d = x / 256 := ⟨_, rfl⟩
  have e1 : IntKind.u8.wrap (x : Int) = (c : Int) := by rw [IntKind.wrap_u8]; omega
  have e2 : (x : Int) % 256 = (c : Int) := by omega
  have e3 : (x : Int) / 2 ^ 8 = (d : Int) := by omega
  have e4 : (x : Int) / 256 = (d : Int) := by omega
  have hc0 := hb.cell 0
  have hc1 := hb.cell 1
  have hf0 := hb.frozen 0
  have hf1 := hb.frozen 1
  simp only [List.getElem?_cons_zero, List.getElem?_cons_succ] at hc0 hc1
  have HB := Lib.hid hb
  have HOWN := Lib.hid hown
  have HO := Lib.hid ho
  rw [← hc, ← hd]
  have HX := Lib.hid hc2
  have hgl : E < w.heap.size := hb.lt
  clear hb hown ho hc hc2 hd
  go_enter Tryz.func126, Tryz.ntmps126
  go_wp2
  go_region_law (refine step_append_lies _ (by rfl) _ _ _ (by rfl) (E + 1) 5 i0 (.int .u8 0) 1 1 Tryz.underlying22 hi0 hz0 hz1 hz2 rfl (by decide) _ _ _ (by rfl) ((own_drew HOWN.out).alloc _) _ 1 1 [.int .u8 (c : Int)] (by rfl) (by rfl) (World.news_of_block (heap_alloc_new _ _)) (by intro u hu; simp at hu; subst hu; rfl) (by decide) (by simp only [maxLen]; have := HO.out; omega) (by have := HO.out; omega) (by have := HB.out.lt; simp; omega) _ rfl ?_; intro g7 cap7 w7 hown7 hgr7 hat7 hlt7; have hrow := own_block HOWN.out; have hb7 : Blk w7 E 127 [.int .i64 (x : Int), .slice A1 O.length c1] := blk_row ((HB.out.same (w' := w.drew) rfl).alloc_ _) hgr7 (fun r e => by have := hrow r e; omega); have hc7 := hb7.cell 0; have hc8 := hb7.cell 1; have hf7 := hb7.frozen 0; have hf8 := hb7.frozen 1; simp only [List.getElem?_cons_zero, List.getElem?_cons_succ] at hc7 hc8; have HB7 := Lib.hid hb7; have HG7 := Lib.hid hgr7; have HOWN7 := Lib.hid hown7; clear hb7 hgr7 hown7 hat7 hlt7 hrow)
  all_goals
    obtain ⟨hE, hO⟩ := give_end HOWN.out HX.out HB7.out HG7.out HOWN7.out
    clear hc0 hc1 hf0 hf1 HB7 HG7 HOWN7 hc7 hc8 hf7 hf8
    generalize World.setCell w7 ⟨E, 1, none⟩ _ = w8 at *
    obtain ⟨v8, hb8, hown8⟩ := hE
    have HE := Lib.hid (show EncS w8 E x (O ++ [UInt8.ofNat c]) from ⟨v8, hb8, hown8⟩)
    have HO8 := Lib.hid hO
    have hc0 := hb8.cell 0
    have hf0 := hb8.frozen 0
    simp only [List.getElem?_cons_zero] at hc0
    clear hb8 hown8 hO
    go_wp2
    refine bodyPost_end (results_none rfl _ _ _) rfl ?_
    exact ⟨rfl, (HE.out.setX d).1, HO8.out.trans (HE.out.setX d).2⟩
/-- The state, as the world has it. -/
def encX (w : World) (E : Nat) : Nat := match w.cell? ⟨E, 0, none⟩ with
  | some (.int _ i) => i.toNat
  | _ => 0
theorem EncS.state (h : EncS w E x O) : encX w E = x := by
  obtain ⟨v, hb, -⟩ := h
  have hc := hb.cell 0
  simp only [List.getElem?_cons_zero] at hc
  unfold encX
  rw [hc]
  simp
/-- What holds at the head of a round of in. -/
def InRel (w : World) (E s y : Nat) (O : List UInt8) (o : List Nat) (wr : World) : Prop :=
  ∃ (x1 : Nat) (o1 o2 : List Nat), o1 ++ o2 = o ∧ Goes s x1 o2 y ∧ x1 < 2147483648 ∧ EncS wr E x1 (O ++ u8s o1) ∧ OnlyT E encRT w wr
set_option maxHeartbeats 2000000 in
set_option maxRecDepth 100000 in
theorem ransIn_any {f s y : Nat} {o : List Nat} (h : EncS w E x O) (hx : x < 2147483648) (hs : 1 ≤ s) (hf : f + s ≤ 4096) (hr : s * 2048 ≤ x) (ho : O.length ≤ 90000) (hg : Goes s x o y) :
    Calls Tryz.prog 81 #[.pointer (some ⟨E, 0, none⟩), .int .i64 (f : Int), .int .i64 (s : Int)] w fun e w' => e = .returned (.tuple #[]) ∧ EncS w' E (inX f s y) (O ++ u8s o) ∧ OnlyT E encRT w w' := by
  have hyr := hg.range hr
  have hol := goes_few hs 2 x o y hg (by omega)
  have HREL := Lib.hid (show InRel w E s y O o w from ⟨x, [], o, rfl, hg, hx, by rw [show u8s [] = [] from rfl, List.append_nil]; exact h, OnlyT.refl _ _ _⟩)
  have HYR := Lib.hid hyr
  have HO := Lib.hid (And.intro ho hol)
  have hs4 : (s : Int) ≤ 4096 := by omega
  have hs1 : (1 : Int) ≤ (s : Int) := by omega
  have hsw : IntKind.i64.wrap ((s : Int) * 524288) = (s : Int) * 524288 := by rw [IntKind.wrap_i64]; omega
  have HS := Lib.hid (And.intro hs hf)
  clear h hx hr ho hg hyr hol
  go_enter Tryz.func81, Tryz.ntmps81
  go_wp2
  go_loopw [] (InRel w E s y O o) (fun wr => encX wr E)
  case atStart => exact HREL.out
  case round =>
    clear HREL
    obtain ⟨x1, o1, o2, hoo, hg, hx1, he, hot⟩ := hrel
    have hmx := he.state
    have hol := congrArg List.length hoo
    rw [List.length_append] at hol
    have C := Lib.hid (ransGive_any he (by rw [List.length_append, u8s_length]; have := HO.out; omega))
    have HE := Lib.hid he
    have HOT := Lib.hid hot
    obtain ⟨v, hb, -⟩ := id he
    have hgl := hb.lt
    have hc0 := hb.cell 0
    have hf0 := hb.frozen 0
    simp only [List.getElem?_cons_zero] at hc0
    have HOO := Lib.hid hoo
    have HG := Lib.hid hg
    have HMX := Lib.hid hmx
    have HGL := Lib.hid hgl
    clear hoo hg he hot hb hmx hol
    by_cases hmore : s * 524288 ≤ x1
    · obtain ⟨o3, ho3, hg3⟩ : ∃ o3, o2 = x1 % 256 :: o3 ∧ Goes s (x1 / 256) o3 y := by
        cases HG.out with
        | stop _ h => omega
        | more _ o3 _ _ hr => exact ⟨o3, rfl, hr⟩
      have hmi : (s : Int) * 524288 ≤ (x1 : Int) := by omega
      have HG3 := Lib.hid (And.intro ho3 hg3)
      have hd31 : x1 / 256 < 2147483648 ∧ x1 / 256 < x1 := by omega
      have HD := Lib.hid hd31
      clear hd31 ho3 hg3
      go_wp2_with fail
      refine C.out.mono ?_
      rintro _ w5 ⟨rfl, he5, ho5⟩
      have HE5 := Lib.hid he5
      have HO5 := Lib.hid (HOT.out.trans ho5)
      clear he5 ho5 C HE HOT hc0 hf0
      go_wp2
      go_roundw
      case rel => exact ⟨x1 / 256, o1 ++ [x1 % 256], o3, by rw [List.append_assoc, ← HOO.out, HG3.out.1]; rfl, HG3.out.2, HD.out.1, by rw [u8s_snoc, ← List.append_assoc]; exact HE5.out, HO5.out⟩
      case measure => rw [HE5.out.state, HMX.out]; exact HD.out.2
    · obtain ⟨rfl, rfl⟩ : o2 = [] ∧ x1 = y := by
        cases HG.out with
        | stop => exact ⟨rfl, rfl⟩
        | more _ _ _ h _ => exact absurd h hmore
      have hoo := HOO.out
      rw [List.append_nil] at hoo
      subst hoo
      obtain ⟨q, mm, q4, qf, d1, d2, d3, d4, d5, d6, d7, d8, d9⟩ := in_vals HS.out.1 HS.out.2 HYR.out.2
      have hmi : ¬ (s : Int) * 524288 ≤ (x1 : Int) := by omega
      have hs0 : ¬ (s : Int) = 0 := by omega
      have hs0n : ¬ s = 0 := by omega
      obtain ⟨X, hX⟩ : ∃ X, X = inX f s x1 := ⟨_, rfl⟩
      rw [← hX] at d8
      have HX := Lib.hid hX
      clear C hX
      go_wp2
      go_region
      all_goals (go_wp2; refine bodyPost_end (results_none rfl _ _ _) rfl ?_)
      all_goals exact ⟨rfl, by rw [← HX.out]; exact (HE.out.setX X).1.same rfl, (HOT.out.trans (HE.out.setX X).2).drew⟩
end
end Go.Proofs.YtflcmmeoppdhdaaGreat
