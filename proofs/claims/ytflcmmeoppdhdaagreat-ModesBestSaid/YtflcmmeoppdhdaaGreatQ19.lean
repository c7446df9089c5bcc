/-
  Layer 20: the reference's Of. · Layer 22: lens of a text. · Layer 22: the program's Code.
-/
import Derived.Test.YtflcmmeoppdhdaaGreatQ09
import Derived.Test.YtflcmmeoppdhdaaGreatQ14
import Derived.Test.YtflcmmeoppdhdaaGreatQ17
import Derived.Test.YtflcmmeoppdhdaaGreatQ18
import Derived.Deep.LoopGhost
namespace Go.Proofs.YtflcmmeoppdhdaaGreat
open Go.RowKit Go.Sort Go.Shelf

/-- The first j halved, the others as they were. -/
def inH (c : List Int) (j : Nat) : List Int := (c.take j).map halfI ++ c.drop j
theorem inH_zero (c : List Int) : inH c 0 = c := by simp [inH]
theorem inH_all (c : List Int) : inH c c.length = c.map halfI := by simp [inH]
theorem inH_get (c : List Int) {j : Nat} (h : j < c.length) : (inH c j)[j]? = some c[j] := by
  have hl : ((c.take j).map halfI).length = j := by simp; omega
  unfold inH
  rw [List.getElem?_append_right (by omega), hl, Nat.sub_self, List.drop_eq_getElem_cons h]; rfl
theorem inH_set (c : List Int) {j : Nat} (h : j < c.length) : (inH c j).set j (halfI c[j]) = inH c (j + 1) := by
  have hl : ((c.take j).map halfI).length = j := by simp; omega
  unfold inH
  rw [List.set_append_right _ _ (by omega), hl, Nat.sub_self, List.drop_eq_getElem_cons h, List.set_cons_zero, List.take_add_one, List.getElem?_eq_getElem h, List.map_append, List.append_assoc]
  rfl
/-- The greatest, 0 if there is none above it. -/
def mxL (l : List Int) : Int := l.foldl max 0
theorem mxL_take (l : List Int) {j : Nat} (h : j < l.length) : mxL (l.take (j + 1)) = max (mxL (l.take j)) l[j] := by
  unfold mxL; rw [List.take_add_one, List.getElem?_eq_getElem h, List.foldl_append]; rfl
theorem foldl_max_le (l : List Int) : ∀ a M : Int, l.foldl max a ≤ M ↔ a ≤ M ∧ ∀ x ∈ l, x ≤ M := by
  induction l with
  | nil => intro a M; simp
  | cons x l ih =>
    intro a M
    rw [List.foldl_cons, ih]
    constructor
    · rintro ⟨h1, h2⟩
      refine ⟨by omega, fun y hy => ?_⟩
      rcases List.mem_cons.1 hy with rfl | hy
      · omega
      · exact h2 y hy
    · rintro ⟨h1, h2⟩
      exact ⟨by have := h2 x List.mem_cons_self; omega, fun y hy => h2 y (List.mem_cons_of_mem _ hy)⟩
theorem mxL_short (o : List Int) : mxL o ≤ 15 ↔ Short o := by
  unfold mxL Short; rw [foldl_max_le]; exact ⟨fun h => h.2, fun h => ⟨by decide, h⟩⟩
theorem zvs_get' (l : List Int) {k : Nat} {x : Int} (h : l[k]? = some x) : (zvs l)[k]? = some (.int .i64 x) := by rw [zvs_get, h]; rfl
section
variable {w : World} {A : Option Addr} {n m : Nat} {c : List Int}
set_option maxHeartbeats 4000000 in
set_option maxRecDepth 100000 in
theorem ref_Of (hr : Rd w w.heap.size A (zvs c)) (hn : c.length = n) (hn1 : n ≤ 1500) :
    Calls Tryz.prog 74 #[.slice A n m] w fun e w' => ((e = .returned (.slice none 0 0) ∧ c.any nBad = true) ∨ ∃ v out, e = .returned v ∧ c.any nBad = false ∧ LensOfR c out ∧ LensV w.heap.size out v w') ∧ Below w.heap.size w w' := by
  obtain ⟨i1, hi1, hy0, hy1, hy2⟩ := info_parts info_int12
  have HR := Lib.hid hr
  have HC := Lib.hid hn
  clear hr hn
  go_enter Tryz.func74, Tryz.ntmps74
  go_wp2
  go_loopw [3, 4] (fun v i wr => ∃ k : Nat, k ≤ n ∧ i = .int .i64 (k : Int) ∧ Good (c.take k) ∧ wr.ownsRow w.heap.size 3 1 v k (zvs (c.take k)) ∧ Below w.heap.size w wr) (fun _ i _ => n - (intOf i).toNat)
  case atStart => exact ⟨0, Nat.zero_le _, rfl, fun x hx => by simp at hx, World.ownsRow_nil _ _ _ _, Below.refl _ _⟩
  case round =>
    obtain ⟨k, hk, rfl, hg, hown, hb⟩ := hrel
    obtain ⟨A1, c1, rfl, hnc, hcm, hG⟩ := own_form hown
    have hbs := hb.size
    have HG := Lib.hid hg
    have HOWN := Lib.hid hown
    have HB := Lib.hid hb
    by_cases hlt : k < n
    · have hkc : k < c.length := by have := HC.out; omega
      obtain ⟨b, off, rfl, -, hcell⟩ := cell_of_rd (HR.out.below hb) hkc
      have hki : (k : Int) < (n : Int) := by omega
      have htk : c.take (k + 1) = c.take k ++ [c[k]] := by rw [List.take_add_one, List.getElem?_eq_getElem hkc]; rfl
      have hmem : c[k] ∈ c := List.getElem_mem hkc
      obtain ⟨x, hxx⟩ : ∃ x, x = c[k]'hkc := ⟨_, rfl⟩
      rw [← hxx] at hcell htk hmem
      have HTK := Lib.hid (And.intro htk hmem)
      clear hg hown hb htk hmem hxx
      by_cases hbad : nBad x = true
      · have HEND := Lib.hid (show c.any nBad = true from List.any_eq_true.2 ⟨x, HTK.out.2, hbad⟩)
        by_cases h0 : x < 0
        · clear hbad
          go_wp2
          go_ret
          exact ⟨.inl ⟨rfl, by first | exact HEND.out | simpa using HEND.out⟩, HB.out⟩
        · have h1 : 1099511627776 < x := by simp [nBad] at hbad; omega
          clear hbad
          go_wp2
          go_ret
          exact ⟨.inl ⟨rfl, by first | exact HEND.out | simpa using HEND.out⟩, HB.out⟩
      · have h0 : ¬ x < 0 := by simp [nBad] at hbad; omega
        have h1 : ¬ 1099511627776 < x := by simp [nBad] at hbad; omega
        have HGN := Lib.hid (show Good (c.take (k + 1)) from fun y hy => by
          rw [HTK.out.1] at hy
          rcases List.mem_append.1 hy with h | h
          · exact HG.out y h
          · rw [List.mem_singleton] at h; omega)
        clear hbad
        go_wp2_with ((with_reducible show wpList _ _ _ (({ dst := some 36, op := _, type := _, pos := _, after := _, guard := _ } : Oper) :: _) _ _); go_must (refine wpList_app rfl (.tmp 30) (.tmp 35) 53 rfl w.heap.size 3 i1 (.int .i64 0) 1 8 Tryz.underlying53 hi1 hy0 hy1 hy2 rfl (by decide) _ _ _ rfl (HOWN.out.alloc _) _ _ 1 1 [Value.int .i64 x] rfl (Rd.new _ _ _) rfl (by intro u hu; simp at hu; subst hu; rfl) (by simp only [maxLen]; omega) (by omega) (by simp; omega) ?_; intro v2 w2 hown2 hg2; have hb2 := (HB.out.alloc hbs (.cells #[.int .i64 x] 3)).grown hg2 (by simp; omega) (own_block HOWN.out); clear hg2))
        have HEND := Lib.hid (And.intro (show w2.ownsRow w.heap.size 3 1 v2 (k + 1) (zvs (c.take (k + 1))) by
          rw [HTK.out.1]
          have e : zvs (c.take k ++ [x]) = zvs (c.take k) ++ [.int .i64 x] := by simp [zvs]
          rw [e]; exact hown2) hb2)
        clear hown2 hb2
        go_wp2
        go_roundw
        case rel => exact ⟨k + 1, by omega, by go_num, HGN.out, HEND.out.1, HEND.out.2⟩
        case measure => simp [intOf]; omega
    · obtain rfl : k = n := by omega
      rw [List.take_of_length_le (by have := HC.out; omega)] at hg hown
      have HG2 := Lib.hid hg
      have HOWN2 := Lib.hid hown
      obtain ⟨v3, hv3⟩ : ∃ v, v = Value.slice A1 k c1 := ⟨_, rfl⟩
      have hnb := good_bad.2 hg
      have HNB := Lib.hid hnb
      clear hg hown hb HG HOWN hnb hi1 hy0 hy1 hy2
      go_wp2
      go_loopg [] (c.sum.toNat) (fun gg wr => ∃ cur : List Int, wr.ownsRow w.heap.size 3 1 (.slice A1 k c1) k (zvs cur) ∧ cur.length = k ∧ Good cur ∧ (∀ r, LensOfR cur r → LensOfR c r) ∧ Below w.heap.size w wr ∧ cur.sum.toNat = gg)
      case atStart => exact ⟨c, HOWN2.out, HC.out, HG2.out, fun _ h => h, HB.out, rfl⟩
      case round =>
        clear HOWN2 HG2
        obtain ⟨cur, hown, hlen, hg, hway, hb, hgg⟩ := hrel
        have C := Lib.hid (ref_depths (m := c1) (Rd.of_own hown) hlen (by omega) hg)
        have HREL := Lib.hid (And.intro hown (And.intro hlen (And.intro hg (And.intro hway (And.intro hb hgg)))))
        obtain ⟨Wr, hWr⟩ : ∃ W, W = wr := ⟨_, rfl⟩
        subst hWr
        clear hown hlen hg hway hb hgg
        go_wp2_with fail
        refine C.out.mono ?_
        rintro _ w2 ⟨v2, o, rfl, hd, hlv, hb2⟩
        obtain ⟨g2, n2, rfl, hn2, hg2, hblk2⟩ := id hlv
        have HD := Lib.hid hd
        have hol : o.length = k := by rw [hd.len]; exact HREL.out.2.1
        obtain rfl : k = n2 := by omega
        have HBLK := Lib.hid hblk2
        have HB2 := Lib.hid hb2
        have HLV := Lib.hid (hlv.more (HREL.out.2.2.2.2.1.size))
        have HOL := Lib.hid hol
        clear hd hlv hb2 hg2 hblk2 hn2 hol C
        go_wp2
        go_loopw [6, 7] (fun d i wq => ∃ j : Nat, j ≤ k ∧ d = .int .i64 (mxL (o.take j)) ∧ i = .int .i64 (j : Int) ∧ wq = w2) (fun _ i _ => k - (intOf i).toNat)
        case atStart => exact ⟨0, Nat.zero_le _, rfl, rfl, rfl⟩
        case round =>
          obtain ⟨j, hj, rfl, rfl, hwq⟩ := hrel
          subst hwq
          by_cases hjk : j < k
          · have hjo : j < o.length := by have := HOL.out; omega
            have hcell := HBLK.out.cell j
            rw [zvs_get' o (List.getElem?_eq_getElem hjo)] at hcell
            have hm := mxL_take o hjo
            obtain ⟨x, hx⟩ : ∃ x, x = o[j]'hjo := ⟨_, rfl⟩
            obtain ⟨mx, hmx⟩ : ∃ mx, mx = mxL (o.take j) := ⟨_, rfl⟩
            rw [← hx] at hcell hm
            rw [← hmx] at hm ⊢
            have HM := Lib.hid hm
            have hki : (j : Int) < (k : Int) := by omega
            clear hx hmx hm
            go_wp2
            go_roundw
            case rel => exact ⟨j + 1, by omega, by rw [HM.out], by go_num, by first | trivial | rfl⟩
            case measure => simp [intOf]; omega
          · obtain rfl : k = j := by omega
            rw [List.take_of_length_le (by have := HOL.out; omega)]
            obtain ⟨mx, hmx⟩ : ∃ mx, mx = mxL o := ⟨_, rfl⟩
            rw [← hmx]
            have hms := mxL_short o
            rw [← hmx] at hms
            by_cases hs : mx ≤ 15
            · have HEND := Lib.hid (And.intro HNB.out (And.intro (HREL.out.2.2.2.1 o (.done _ o HD.out (hms.1 hs))) (And.intro HLV.out (HREL.out.2.2.2.2.1.trans (HB2.out.mono HREL.out.2.2.2.2.1.size)))))
              clear hmx hms
              go_wp2
              go_ret
              exact ⟨.inr ⟨_, o, rfl, by first | exact HEND.out.1 | simpa using HEND.out.1, HEND.out.2.1, HEND.out.2.2.1⟩, HEND.out.2.2.2⟩
            · have hns : ¬ Short o := fun h => hs (hms.2 h)
              have HLESS := Lib.hid (deep_less HD.out (fun x hx => (HREL.out.2.2.1 x hx).1) (by rw [HREL.out.2.1]; exact hn1) hns)
              have HNS := Lib.hid hns
              have HOWN3 := Lib.hid (own_kept HREL.out.1 HB2.out)
              have HB3 := Lib.hid (HREL.out.2.2.2.2.1.trans (HB2.out.mono HREL.out.2.2.2.2.1.size))
              clear hmx hms hns
              go_wp2
              go_loopw [8] (fun i wq => ∃ j : Nat, j ≤ k ∧ i = .int .i64 (j : Int) ∧ wq.ownsRow w.heap.size 3 1 (.slice A1 k c1) k (zvs (inH cur j)) ∧ Below w.heap.size w wq) (fun i _ => k - (intOf i).toNat)
              case atStart => exact ⟨0, Nat.zero_le _, rfl, by rw [inH_zero]; exact HOWN3.out, HB3.out⟩
              case round =>
                clear HOWN3 HB3
                obtain ⟨j, hj, rfl, hown, hb⟩ := hrel
                have HOWN := Lib.hid hown
                have HB9 := Lib.hid hb
                by_cases hjk : j < k
                · obtain ⟨g, rfl, hgB⟩ : ∃ g, A1 = some ⟨g, 0, none⟩ ∧ w.heap.size ≤ g := by
                    rcases hG with h | h
                    · omega
                    · obtain ⟨g, h1, h2, -⟩ := h; exact ⟨g, h1, h2⟩
                  have hjc : j < cur.length := by have := HREL.out.2.1; omega
                  have hgood := HREL.out.2.2.1 _ (List.getElem_mem hjc)
                  have hcell := own_at hown (zvs_get' _ (inH_get cur hjc))
                  have hfr := hown.frozenAt j
                  have hset := hown.stored j (.int .i64 (halfI cur[j]))
                  rw [zvs_set, inH_set cur hjc] at hset
                  have e1 : (cur[j] + 1).tdiv 2 = halfI cur[j] := by unfold halfI; rw [Int.tdiv_eq_ediv_of_nonneg (by omega)]
                  have hb5 := hb.setCell (p := ⟨g, j, none⟩) hgB (.int .i64 (halfI cur[j]))
                  obtain ⟨h, hh⟩ : ∃ h, h = halfI cur[j] := ⟨_, rfl⟩
                  have hh2 := half_le hgood.1
                  rw [← hh] at hset hb5 e1 hh2
                  obtain ⟨x, hx⟩ : ∃ x, x = cur[j]'hjc := ⟨_, rfl⟩
                  rw [← hx] at hcell e1 hh2 hgood
                  have HS := Lib.hid (And.intro hset.1 hb5)
                  have hki : (j : Int) < (k : Int) := by omega
                  clear hown hb hset hb5 hh hx HOWN HB9
                  go_wp2
                  go_roundw
                  case rel => exact ⟨j + 1, by omega, by go_num, HS.out.1, HS.out.2⟩
                  case measure => simp [intOf]; omega
                · obtain rfl : k = j := by omega
                  rw [show inH cur k = cur.map halfI from by rw [← HREL.out.2.1, inH_all]] at hown
                  have HOWN4 := Lib.hid hown
                  clear hown hb HOWN
                  go_wp2
                  go_roundg ((cur.map halfI).sum.toNat)
                  case measure =>
                    have h1 := HLESS.out
                    have h2 := (good_sum (good_half HREL.out.2.2.1)).1
                    have h3 := HREL.out.2.2.2.2.2
                    omega
                  case rel => exact ⟨cur.map halfI, HOWN4.out, by rw [List.length_map]; exact HREL.out.2.1, good_half HREL.out.2.2.1, fun r hr => HREL.out.2.2.2.1 r (.half cur o r HD.out HNS.out hr), HB9.out, rfl⟩
end
end Go.Proofs.YtflcmmeoppdhdaaGreat
namespace Go.Proofs.YtflcmmeoppdhdaaGreat
open Go.RowKit Go.Sort Go.Shelf

theorem intL_natL {o : List Int} (h : ∀ x ∈ o, 0 ≤ x) : intL (natL o) = o := by
  unfold intL natL
  rw [List.map_map]
  conv => rhs; rw [← List.map_id o]
  refine List.map_congr_left fun x hx => ?_
  have := h x hx
  simp only [Function.comp, id]
  omega
theorem cntL_good {l : List UInt8} (h : l.length ≤ 1500) : Good (cntL l) := fun x hx => by have := cntL_le l x hx; omega
theorem cntL_nn (l : List UInt8) : ∀ x ∈ cntL l, 0 ≤ x := fun x hx => (cntL_le l x hx).1
/-- Lens of a text: none too long, whole, and each of its letters has one. -/
structure LensT (l : List UInt8) (o : List Nat) : Prop where
  len : o.length = 256
  le : ∀ x ∈ o, x ≤ 15
  kraft : ends (lenC o) 15 ≤ 32768
  some : ∀ b ∈ l, 1 ≤ o.getD b.toNat 0
theorem posL_some {l : List UInt8} (h : l ≠ []) : 1 ≤ (posL (cntL l)).length := by
  obtain ⟨b, t, rfl⟩ := List.exists_cons_of_ne_nil h
  have h2 := cntL_mem (l := b :: t) (b := b) List.mem_cons_self
  have hlt : b.toNat < (cntL (b :: t)).length := by rw [cntL_len]; exact b.toNat_lt
  have : (cntL (b :: t))[b.toNat] ∈ posL (cntL (b :: t)) := by
    unfold posL
    rw [List.mem_filter]
    refine ⟨List.getElem_mem hlt, ?_⟩
    have e : (cntL (b :: t)).getD b.toNat 0 = (cntL (b :: t))[b.toNat] := by simp [List.getD_eq_getElem?_getD, hlt]
    rw [e] at h2
    simpa using h2
  exact List.length_pos_of_mem this
theorem lensT_of {l : List UInt8} {o : List Int} (hl : l ≠ []) (h : LensOfR (cntL l) o) : LensT l (natL o) := by
  have hnn := cntL_nn l
  have hok := cBad_none.1 (lens_ok h hnn)
  have hlen := h.len.trans (cntL_len l)
  have hw := whole_most (lens_whole h hnn (posL_some hl))
  refine ⟨by rw [natL_len]; exact hlen, fun x hx => ?_, ?_, fun b hb => ?_⟩
  · obtain ⟨y, hy, rfl⟩ := List.mem_map.1 hx
    have := hok y hy
    omega
  · rw [← kraft_ends]; exact hw
  · have h2 := cntL_mem hb
    have hlt : b.toNat < (cntL l).length := by rw [cntL_len]; exact b.toNat_lt
    have hlo : b.toNat < o.length := by rw [hlen]; exact b.toNat_lt
    have h3 := lens_at h hnn hlo hlt
    have e : (cntL l).getD b.toNat 0 = (cntL l)[b.toNat] := by simp [List.getD_eq_getElem?_getD, hlt]
    rw [natL_get o hlo]
    omega
end Go.Proofs.YtflcmmeoppdhdaaGreat
namespace Go.Proofs.YtflcmmeoppdhdaaGreat
open Go.RowKit Go.Sort Go.Shelf

section
variable {w : World} {A : Option Addr} {n m : Nat} {l : List UInt8}
set_option maxHeartbeats 1000000 in
theorem huffCode_nil (w : World) (A : Option Addr) (m : Nat) : Calls Tryz.prog 49 #[.slice A 0 m] w fun e w' => e = .returned (.slice none 0 0) ∧ w' = w := by
  go_enter Tryz.func49, Tryz.ntmps49
  go_wp2
  go_ret
  exact ⟨rfl, rfl⟩
set_option maxHeartbeats 4000000 in
set_option maxRecDepth 100000 in
theorem huffCode_any (hr : Rd w w.heap.size A (bvs l)) (hn : l.length = n) (h1 : 1 ≤ n) (hn1 : n ≤ 1500) :
    Calls Tryz.prog 49 #[.slice A n m] w fun e w' => ∃ o bs, LensOfR (cntL l) o ∧ Packs bs (huffB (natL o) l) ∧ NewBy w bs e w' := by
  have hne : l ≠ [] := fun e => by rw [e] at hn; simp at hn; omega
  have C1 := Lib.hid (normCount_any (m := m) hr hn (by omega))
  have HR := Lib.hid hr
  have HN := Lib.hid (And.intro hn hne)
  have hni : ¬ (n : Int) = 0 := by omega
  clear hr hn hne
  go_enter Tryz.func49, Tryz.ntmps49
  go_wp2_with fail
  refine C1.out.mono ?_
  rintro e w1 ⟨g1, rfl, -, hk1, hb1⟩
  have C2 := Lib.hid (lens_Of (m := 256) (Rd.of_blk hk1) (cntL_len l) (by decide) (cntL_good (by have := HN.out.1; omega)))
  have HB1 := Lib.hid hb1
  clear hk1 hb1 C1
  go_wp2_with fail
  refine C2.out.mono ?_
  rintro e w2 ⟨v2, o, rfl, ho, hv, hb2⟩
  have hnn := cntL_nn l
  have hol := ho.len.trans (cntL_len l)
  obtain ⟨g2, n2, rfl, hn2, -, hblk⟩ := hv
  obtain rfl : n2 = 256 := by omega
  have hok := lens_ok ho hnn
  have C3 := Lib.hid (canonMake_ok (m := 256) (Rd.of_blk hblk) hol (by decide) hok (lens_whole ho hnn (posL_some HN.out.2)))
  have hT := lensT_of HN.out.2 ho
  rw [← intL_natL (fun x hx => (cBad_none.1 hok x hx).1)] at hblk
  have HO := Lib.hid ho
  obtain ⟨on, hon⟩ : ∃ on, on = natL o := ⟨_, rfl⟩
  rw [← hon] at C3 hT hblk
  have HT := Lib.hid hT
  have HON := Lib.hid hon
  have HK2 := Lib.hid hblk
  have HB2 := Lib.hid (HB1.out.trans (hb2.mono HB1.out.size))
  clear hb2 hnn hol hn2 hok ho hblk hT hon C2 HB1
  go_wp2_with fail
  refine C3.out.mono ?_
  rintro e w3 ⟨E, g', M, S, rfl, hord, hca, hb3⟩
  obtain ⟨w4, hw4⟩ : ∃ w4, w4 = w3.alloc (.cells #[.slice none 0 0, .int .i64 0] 159) := ⟨_, rfl⟩
  have hg4 : Blk w4 w3.heap.size 159 [.slice none 0 0, .int .i64 0] := by rw [hw4]; exact heap_alloc_new w3 _
  have hb4 : Below w3.heap.size w3 w4 := by rw [hw4]; exact (Below.refl _ _).alloc (Nat.le_refl _) _
  have HCA := Lib.hid hca
  have HORD := Lib.hid hord
  have HK3 := Lib.hid (HK2.out.grow hb3)
  have HB3 := Lib.hid (HB2.out.trans (hb3.mono HB2.out.size))
  have HW4 := Lib.hid hw4
  have HWR4 := Lib.hid (WrO.new (B := w4.heap.size) hg4 (Nat.le_refl _))
  have HB4 := Lib.hid hb4
  have HK4 := Lib.hid (HK3.out.grow hb4)
  have hlt4 : w3.heap.size < w4.heap.size := hg4.lt
  clear hb3 hca hord hg4 hb4 hw4 C3 HK2 HB2
  go_wp2_with fail
  rw [← HW4.out]
  have hrg := HK3.out.lt
  obtain ⟨G, hG⟩ : ∃ G, G = w3.heap.size := ⟨_, rfl⟩
  have HG := Lib.hid hG
  rw [← hG] at HWR4 hlt4 hrg ⊢
  refine (layLens_any (m := 256) w4 HWR4.out HK4.out (by omega) HT.out.len (by decide) HT.out.le (by simp)).mono ?_
  rintro e w5 ⟨rfl, hw5, ho5⟩
  have HW5 := Lib.hid (show WrO w5 w4.heap.size G (lensB on ++ lettersB on (l.take 0)) by rw [List.take_zero, show lettersB on [] = [] from rfl, List.append_nil]; exact hw5)
  have HB5 := Lib.hid (show Below w3.heap.size w3 w5 from HB4.out.trans (ho5.below (by omega) (by omega) (by omega)))
  obtain ⟨S4, hS4⟩ : ∃ S4, S4 = w4.heap.size := ⟨_, rfl⟩
  rw [← hS4] at HW5 hlt4
  have HS4 := Lib.hid hS4
  clear hw5 ho5 HB4 HK4 HWR4 HW4 hG hS4
  go_wp2
  go_loopw [29] (fun i wr => ∃ k : Nat, k ≤ n ∧ i = .int .i64 (k : Int) ∧ WrO wr S4 G (lensB on ++ lettersB on (l.take k)) ∧ Below w3.heap.size w3 wr) (fun i _ => n - (intOf i).toNat)
  case atStart => exact ⟨0, Nat.zero_le _, rfl, HW5.out, HB5.out⟩
  case round =>
    clear HW5 HB5
    obtain ⟨k, hk, rfl, hwr, hb⟩ := hrel
    have HWR := Lib.hid hwr
    have HB := Lib.hid hb
    have hll : (lensB on ++ lettersB on (l.take k)).length ≤ 30000 := by
      have h1 := lensB_len on
      have h2 := lettersB_len HT.out.le (l.take k)
      have h3 := HT.out.len
      rw [List.length_append]
      rw [List.length_take] at h2
      omega
    have HLL := Lib.hid hll
    by_cases hlt : k < n
    · have hkl : k < l.length := by have := HN.out.1; omega
      have hri := ((HR.out.below HB3.out).more HB3.out.size).below hb
      obtain ⟨ab, ao, rfl, hab, hcell⟩ := hri k _ (bvs_get l k hkl)
      have hsm := HT.out.some _ (List.getElem_mem hkl)
      have hnx := lettersB_next on l hkl
      unfold letB at hnx
      have hblt := (l[k]'hkl).toNat_lt
      obtain ⟨b, hbe⟩ : ∃ b, b = (l[k]'hkl).toNat := ⟨_, rfl⟩
      rw [← hbe] at hcell hsm hnx hblt
      have hbl : b < on.length := by have := HT.out.len; omega
      have hs15 : on.getD b 0 ≤ 15 := by
        rw [List.getD_eq_getElem?_getD, List.getElem?_eq_getElem hbl]
        exact HT.out.le _ (List.getElem_mem hbl)
      have hcp := codeL_pow HT.out.kraft hbl hsm hs15
      have hc2 : codeL on b < 9223372036854775808 := Nat.lt_of_lt_of_le hcp (Nat.le_trans (Nat.pow_le_pow_right (n := 2) (by decide) hs15) (by decide))
      have C4 := codesOf_in (HCA.out.grow hb) b (by omega)
      rw [pat_code HORD.out hbl, if_pos (by omega)] at C4
      unfold codeP at C4
      simp only at C4
      obtain ⟨c, hc⟩ : ∃ c, c = codeL on b := ⟨_, rfl⟩
      obtain ⟨s, hs⟩ : ∃ s, s = on.getD b 0 := ⟨_, rfl⟩
      rw [← hc, ← hs] at C4 hnx
      rw [← hc] at hc2
      rw [← hs] at hs15
      have C4 := Lib.hid C4
      have HNX := Lib.hid hnx
      have hki : (k : Int) < (n : Int) := by omega
      have hbw := Lib.hid (show IntKind.i64.wrap (b : Int) = (b : Int) by rw [IntKind.wrap_i64]; omega)
      clear hwr hb hri hsm hnx hbe hbl hcp hc hs hll
      go_wp2_with fail
      first | rw [hbw.out] | skip
      refine C4.out.mono ?_
      rintro e w6 ⟨rfl, q, rfl⟩
      have HWD := Lib.hid (HWR.out.kept (below_drawn wr q))
      have HBD := Lib.hid (below_drewN HB.out q)
      clear C4 HWR HB hcell
      go_wp2_with fail
      refine (layCode_any G S4 _ c s _ HWD.out (by have := HLL.out; omega) hc2 (by omega)).mono ?_
      rintro e w7 ⟨rfl, hw7, ho7⟩
      have HW7 := Lib.hid (show WrO w7 S4 G (lensB on ++ lettersB on (l.take (k + 1))) by rw [HNX.out, ← List.append_assoc]; exact hw7)
      have HB7 := Lib.hid (HBD.out.trans (ho7.below (by have := HG.out; omega) (by have := HG.out; omega) HBD.out.size))
      clear hw7 ho7 HWD HBD
      go_wp2
      go_roundw
      case rel => exact ⟨k + 1, by omega, by go_num, HW7.out, HB7.out⟩
      case measure => simp [intOf]; omega
    · obtain rfl : k = n := by omega
      rw [List.take_of_length_le (Nat.le_of_eq HN.out.1)] at hwr hll
      have C5 := Lib.hid (oBytes_any G S4 _ wr hwr (by omega))
      have HBW := Lib.hid (HB3.out.trans (HB.out.mono HB3.out.size))
      clear hwr hb hll HWR HLL
      go_wp2_with fail
      refine C5.out.mono ?_
      rintro e w6 ⟨bs, hp, v6, rfl, hown, hb6⟩
      have HE := Lib.hid (And.intro hp (And.intro (own_more hown HBW.out.size) (HBW.out.trans (hb6.mono HBW.out.size))))
      clear hp hown hb6 C5
      go_wp2
      go_ret
      exact ⟨o, bs, HO.out, by rw [← HON.out]; exact HE.out.1, _, rfl, HE.out.2.1, HE.out.2.2⟩
end
end Go.Proofs.YtflcmmeoppdhdaaGreat
