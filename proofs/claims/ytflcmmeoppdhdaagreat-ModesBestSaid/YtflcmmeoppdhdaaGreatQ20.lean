/-
  Layer 22: the reference's Bits and Code. · Layer 22: the program takes lens. · Layer 22: the program takes letters. · Layer 22: the program's Decode, of what was coded and bits behind it. · Layer 22: what bytes are coded as, as one relation; both sides and the way back told by it. · Plain mathematics of layer 18: a letter goes into a state, and comes out. Written ahead of the code.
-/
import Derived.Test.YtflcmmeoppdhdaaGreatQ01
import Derived.Test.YtflcmmeoppdhdaaGreatQ05
import Derived.Test.YtflcmmeoppdhdaaGreatQ06
import Derived.Test.YtflcmmeoppdhdaaGreatQ09
import Derived.Test.YtflcmmeoppdhdaaGreatQ14
import Derived.Test.YtflcmmeoppdhdaaGreatQ15
import Derived.Test.YtflcmmeoppdhdaaGreatQ19
import Derived.Maps.AppendAt
import Derived.Lib.QuietBelow
import Derived.BigQuiet
import Derived.Lib.BitFns
namespace Go.Proofs.YtflcmmeoppdhdaaGreat
open Go.RowKit Go.Sort Go.Shelf

section
variable {P : Program}
/-- append onto a row of the call's own: where it lies then. -/
theorem wpList_appA {w : World} {ops : Array Oper} {rest : List Oper} {o : Oper} {a : Act} {Q : Exit → Act → World → Prop} (hgd : o.guard = none) (s x : Operand) (t : TypeId)
    (ho : o.op = .call { callee := .builtin .append, args := #[s, x], argTypes := #[t, t] })
    (base : Nat) (e : TypeId) (i : TypeInfo) (z : Value) (size bytes : Nat) (ht : P.underlying t = some (.slice e)) (hi : P.info? e = some i) (hz : i.zero = some z)
    (hsize : i.size = size) (hby : i.bytes = bytes) (hzs : z.cells.size = size) (hsz : 0 < size)
    (v : Value) (n : Nat) (xs : List Value) (hs : a.eval s = v) (hown : w.ownsRow base e size v n xs)
    (ad : Addr) (m c : Nat) (news : List Value) (hx : a.eval x = .slice (some ad) m c) (hr : ∀ j u, news[j]? = some u → w.cell? (ad.add j) = some u) (hm : news.length = m * size) (h1 : ∀ u ∈ news, u.oneCell' = true)
    (h63 : n + m ≤ maxLen) (hbytes : (n + m) * bytes ≤ 140737488355328) (hbase : base ≤ w.heap.size)
    (h : ∀ v' w', w'.ownsRow base e size v' (n + m) (xs ++ news) → w.grownBy w' v.ownBlock → (v'.ownBlock = v.ownBlock ∨ v'.ownBlock = some w.heap.size) → wpList P ops Q rest (a.put o.dst v') w') : wpList P ops Q (o :: rest) a w := by
  refine wpList_plain hgd fun K hK => ?_
  obtain ⟨v', w', hrun, h2, h3, -, h4⟩ := run_append_own_at (P := P) w base t o.type e i z size bytes ht hi hz hsize hby hzs hsz v n xs hown ad m c news hm hr h1 h63 hbytes hbase
  unfold Oper.wp execOp
  simp only [ho, resolve, invoke, builtin, Sem.run_bind, Sem.run_pure, Result.andThen_ok, List.map_toArray, List.map_cons, List.map_nil, hs, hx, hrun]
  exact hK _ _ (h v' w' h2 h3 h4)
end
section
variable {w : World} {A : Option Addr} {n m : Nat} {l : List UInt8}
/-- The reference's codes of lens of a text. -/
theorem outC_code {on : List Nat} (h15 : ∀ x ∈ on, x ≤ 15) {i : Nat} (hi : i < on.length) (h1 : 1 ≤ on.getD i 0) : (outC on 16 0)[i]? = some ((codeL on i : Nat) : Int) := by
  rw [outC_get on 16 0 hi]
  have hx : on.getD i 0 ≤ 15 := by
    rw [List.getD_eq_getElem?_getD, List.getElem?_eq_getElem hi]
    exact h15 _ (List.getElem_mem hi)
  rw [if_pos (.inl ⟨h1, by omega⟩)]
/-- A row of a code's bits, in new memory. -/
def TurnedAt (B c s : Nat) (v : Value) (w : World) : Prop := ∃ A c', v = .slice A s c' ∧ Rd w w.heap.size A (ivs (bitsOf c s)) ∧ ∀ b off, A = some ⟨b, off, none⟩ → B ≤ b
theorem TurnedAt.grow (B c s : Nat) (v : Value) (w w' : World) (h : TurnedAt B c s v w) (hb : Below w.heap.size w w') : TurnedAt B c s v w' := by
  obtain ⟨A, c', h1, h2, h3⟩ := h
  exact ⟨A, c', h1, (h2.below hb).more hb.size, h3⟩
theorem codeB_next (c s j : Nat) (h : j < s) : (codeB c s).take (s - j) = (codeB c s).take (s - (j + 1)) ++ [c.testBit j] := by
  have e : s - j = (s - (j + 1)) + 1 := by omega
  rw [e, List.take_add_one, codeB_get c s _ (by omega), show s - 1 - (s - (j + 1)) = j by omega]
  rfl
theorem grown_rd {w w' : World} {row : Option Nat} {A : Option Addr} {xs : List Value} (hg : w.grownBy w' row) (hr : Rd w w.heap.size A xs) (hA : ∀ b off, A = some ⟨b, off, none⟩ → row ≠ some b) : Rd w' w'.heap.size A xs := fun k u hu => by
  obtain ⟨b, off, rfl, hb, hc⟩ := hr k u hu
  exact ⟨b, off, rfl, Nat.lt_of_lt_of_le hb hg.size, (World.cell?_of_block (hg.block b hb (fun e => hA b off rfl e.symm))).trans hc⟩
theorem turned_of {B c s : Nat} {w w' : World} {e : Ending} (hB : B ≤ w.heap.size) (h : NewI w (bitsOf c s) e w') : ∃ v, e = .returned v ∧ TurnedAt B c s v w' ∧ Below w.heap.size w w' := by
  obtain ⟨v, rfl, hown, ho⟩ := h
  rw [bitsOf_length] at hown
  obtain ⟨A, c', rfl, -, -, -⟩ := own_form hown
  refine ⟨_, rfl, ⟨A, c', rfl, Rd.of_own hown, fun b off e => ?_⟩, ho.below (Nat.le_refl _)⟩
  subst e
  have := own_block hown b rfl
  omega
theorem new_cells (w : World) (x : Value) (t : TypeId) : ∀ j u, [x][j]? = some u → (w.alloc (.cells #[x] t)).cell? (Addr.add ⟨w.heap.size, 0, none⟩ j) = some u := by
  obtain ⟨ad, h1, h2⟩ := (Rd.new w #[x] t).pos (by simp)
  injection h1 with h1
  subst h1
  exact h2
set_option maxHeartbeats 4000000 in
set_option maxRecDepth 100000 in
theorem refBits_any (hr : Rd w w.heap.size A (bvs l)) (hn : l.length = n) (h1 : 1 ≤ n) (hn1 : n ≤ 400) :
    Calls Tryz.prog 42 #[.slice A n m] w fun e w' => ∃ o v, LensOfR (cntL l) o ∧ e = .returned v ∧ w'.ownsRow w.heap.size 3 1 v (huffB (natL o) l).length (ivs (huffB (natL o) l)) ∧ Below w.heap.size w w' := by
  obtain ⟨i0, hi, hz0, hz1, hz2⟩ := info_parts info_int12
  have hne : l ≠ [] := fun e => by rw [e] at hn; simp at hn; omega
  have C1 := Lib.hid (rnCount_any (m := m) hr hn (by omega))
  have HR := Lib.hid hr
  have HN := Lib.hid (And.intro hn hne)
  clear hr hn hne
  go_enter Tryz.func42, Tryz.ntmps42
  go_wp2_with fail
  refine C1.out.mono ?_
  rintro e w1 ⟨g1, rfl, -, hk1, hb1⟩
  have C2 := Lib.hid (ref_Of (m := 256) (Rd.of_blk hk1) (cntL_len l) (by decide))
  have HB1 := Lib.hid hb1
  have hgd := good_bad.2 (cntL_good (l := l) (by have := HN.out.1; omega))
  have HGD := Lib.hid hgd
  clear hk1 hb1 C1 hgd
  go_wp2_with fail
  refine C2.out.mono ?_
  rintro e w2 ⟨he, hb2⟩
  obtain ⟨v2, o, rfl, ho, hv⟩ : ∃ v o, e = .returned v ∧ LensOfR (cntL l) o ∧ LensV w1.heap.size o v w2 := by
    rcases he with ⟨-, h⟩ | ⟨v, out, h1, -, h2, h3⟩
    · rw [HGD.out] at h; cases h
    · exact ⟨v, out, h1, h2, h3⟩
  have hnn := cntL_nn l
  have hol := ho.len.trans (cntL_len l)
  obtain ⟨g2, n2, rfl, hn2, -, hblk⟩ := hv
  obtain rfl : n2 = 256 := by omega
  have hok := lens_ok ho hnn
  have C3 := Lib.hid (ref_codes (m := 256) (Rd.of_blk hblk) hol (by decide))
  have hT := lensT_of HN.out.2 ho
  rw [← intL_natL (fun x hx => (cBad_none.1 hok x hx).1)] at hblk
  have HO := Lib.hid ho
  obtain ⟨on, hon⟩ : ∃ on, on = natL o := ⟨_, rfl⟩
  rw [← hon] at C3 hT hblk
  have HT := Lib.hid hT
  have HON := Lib.hid hon
  have HK2 := Lib.hid hblk
  have HB2 := Lib.hid (HB1.out.trans (hb2.mono HB1.out.size))
  clear he hb2 hnn hol hn2 hok ho hblk hT hon C2 HB1 HGD
  go_wp2_with fail
  refine C3.out.mono ?_
  rintro e w3 ⟨v3, rfl, hv3, hb3⟩
  obtain ⟨g3, n3, rfl, hn3, -, hk3⟩ := hv3
  rw [outC_len, HT.out.len] at hn3
  subst hn3
  have HC3 := Lib.hid (Rd.of_blk hk3)
  have HL3 := Lib.hid (Rd.of_blk (HK2.out.grow hb3))
  have HB3 := Lib.hid (HB2.out.trans (hb3.mono HB2.out.size))
  have HR3 := Lib.hid ((HR.out.below HB3.out).more HB3.out.size)
  clear hk3 hb3 C3 HK2 HB2 HR
  obtain ⟨S, hS⟩ : ∃ S, S = w3.heap.size := ⟨_, rfl⟩
  rw [← hS] at HC3 HL3 HR3
  have HS := Lib.hid hS
  clear hS
  go_wp2
  go_loopw [5, 6] (fun v i wr => ∃ k : Nat, k ≤ 256 ∧ i = .int .i64 (k : Int) ∧ wr.ownsRow S 3 1 v (lensB (on.take k)).length (ivs (lensB (on.take k))) ∧ Below S w3 wr ∧ S ≤ wr.heap.size) (fun _ i _ => 256 - (intOf i).toNat)
  case atStart => exact ⟨0, Nat.zero_le _, rfl, World.ownsRow_nil _ _ _ _, Below.refl _ _, by rw [HS.out]; exact Nat.le_refl _⟩
  case round =>
    obtain ⟨k, hk, rfl, hown, hb, hsz⟩ := hrel
    by_cases hlt : k < 256
    · have hko : k < on.length := by rw [HT.out.len]; exact hlt
      obtain ⟨ab, ao, he, hab, hcell⟩ := (HL3.out.below hb) k _ (intL_get on hko)
      injection he with he
      injection he with he1 he2
      subst he1 he2
      rw [Nat.zero_add] at hcell
      have hnx := lensB_next on hko
      have hx15 := HT.out.le _ (List.getElem_mem hko)
      obtain ⟨x, hx⟩ : ∃ x, x = on[k] := ⟨_, rfl⟩
      rw [← hx] at hcell hnx hx15
      have hll := lensB_len (on.take k)
      rw [List.length_take] at hll
      obtain ⟨LB, hLB⟩ : ∃ LB, LB = lensB (on.take k) := ⟨_, rfl⟩
      rw [← hLB] at hown hnx hll
      obtain ⟨N, hN⟩ : ∃ N, N = LB.length := ⟨_, rfl⟩
      rw [← hN] at hown hll
      have hN1 : N ≤ 1280 := by omega
      have HNN := Lib.hid hN
      have HOWN := Lib.hid hown
      have HB := Lib.hid hb
      have HNX := Lib.hid hnx
      have hki : (k : Int) < 256 := by omega
      have H0 := Lib.hid (And.intro hab hcell)
      clear hown hb hx hnx hLB hN hll hko
      by_cases hx0 : x = 0
      · subst hx0
        have HLB := Lib.hid (show lenB 0 = [false] from rfl)
        clear hx15
        go_wp2_with (at_builtin; go_must (refine wpList_app rfl (.tmp 24) (.tmp 25) 53 rfl S 3 i0 (.int .i64 0) 1 8 Tryz.underlying53 hi hz0 hz1 hz2 rfl (by decide) _ _ _ rfl (HOWN.out.alloc _) _ _ 1 1 _ rfl (Rd.new _ _ _) rfl (by intro u hu; simp at hu; subst hu; rfl) (by simp only [maxLen]; omega) (by omega) (by simp; omega) ?_; intro v1 w4 hown1 hg1; have hb1 : Below S w3 w4 := (HB.out.alloc hsz _).grown hg1 (by simp; omega) (own_block HOWN.out); have hsz1 : S ≤ w4.heap.size := Nat.le_trans hsz (Nat.le_trans (by simp) hg1.size); have HO1 := Lib.hid (And.intro hown1 (And.intro hb1 hsz1)); clear hg1 hown1 hb1 hsz1))
        go_roundw
        case rel => exact ⟨k + 1, by omega, by go_num, by rw [HNX.out, HLB.out, List.length_append, ivs_append, ← HNN.out]; exact HO1.out.1, HO1.out.2.1, HO1.out.2.2⟩
        case measure => simp [intOf]; omega
      · have hxi : ¬ (x : Int) = 0 := by omega
        have HLB := Lib.hid (show lenB x = [true] ++ bitsOf x 4 by unfold lenB; rw [if_neg hx0]; rfl)
        have CB := Lib.hid (fun W => rfBits_any x 4 W (by omega) (by decide))
        have hxw := Lib.hid (show IntKind.u64.wrap (x : Int) = (x : Int) by rw [IntKind.wrap_u64]; omega)
        go_wp2_with (at_builtin; go_must (refine wpList_app rfl (.tmp 27) (.tmp 28) 53 rfl S 3 i0 (.int .i64 0) 1 8 Tryz.underlying53 hi hz0 hz1 hz2 rfl (by decide) _ _ _ rfl (HOWN.out.alloc _) _ _ 1 1 _ rfl (Rd.new _ _ _) rfl (by intro u hu; simp at hu; subst hu; rfl) (by simp only [maxLen]; omega) (by omega) (by simp; omega) ?_; intro v1 w4 hown1 hg1; have hb1 : Below S w3 w4 := (HB.out.alloc hsz _).grown hg1 (by simp; omega) (own_block HOWN.out); have hsz1 : S ≤ w4.heap.size := Nat.le_trans hsz (Nat.le_trans (by simp) hg1.size); have HO1 := Lib.hid (And.intro hown1 (And.intro hb1 hsz1)); have hcell := (hb1.cell (p := ⟨g2, k, none⟩) H0.out.1).trans ((HB.out.cell (p := ⟨g2, k, none⟩) H0.out.1).symm.trans H0.out.2); clear hg1 hown1 hb1 hsz1))
        refine (CB.out w4).mono ?_
        rintro _ w5 ⟨v5, rfl, hown5, ho5⟩
        rw [bitsOf_length] at hown5
        obtain ⟨A5, c5, rfl, -, -, -⟩ := own_form hown5
        have hbb5 := ho5.below (Nat.le_refl _)
        have HS5 := Lib.hid (Rd.of_own hown5)
        have HO5 := Lib.hid (And.intro (own_kept HO1.out.1 hbb5) (And.intro (HO1.out.2.1.trans (hbb5.mono HO1.out.2.2)) (Nat.le_trans HO1.out.2.2 hbb5.size)))
        clear hown5 ho5 hbb5 HO1 CB hcell
        go_wp2_with (at_builtin; go_must (refine wpList_app rfl (.tmp 30) (.tmp 36) 53 rfl S 3 i0 (.int .i64 0) 1 8 Tryz.underlying53 hi hz0 hz1 hz2 rfl (by decide) _ _ _ rfl HO5.out.1 _ _ 4 c5 _ rfl HS5.out (by rw [ivs_length, bitsOf_length]) (ivs_one _) (by simp only [maxLen]; omega) (by omega) HO5.out.2.2 ?_; intro v6 w6 hown6 hg6; have HO6 := Lib.hid (And.intro hown6 (And.intro (HO5.out.2.1.grown hg6 HO5.out.2.2 (own_block HO5.out.1)) (Nat.le_trans HO5.out.2.2 hg6.size))); clear hown6 hg6))
        have HE := Lib.hid (show w6.ownsRow S 3 1 v6 (lensB (on.take (k + 1))).length (ivs (lensB (on.take (k + 1)))) by
          have h6 : w6.ownsRow S 3 1 v6 (N + 1 + 4) (ivs LB ++ ivs [true] ++ ivs (bitsOf x 4)) := HO6.out.1
          have e1 : ivs (lensB (on.take (k + 1))) = ivs LB ++ ivs [true] ++ ivs (bitsOf x 4) := by rw [HNX.out, HLB.out, ivs_append, ivs_append, List.append_assoc]
          have e2 : (lensB (on.take (k + 1))).length = N + 1 + 4 := by rw [HNX.out, HLB.out, List.length_append, List.length_append, bitsOf_length, ← HNN.out, Nat.add_assoc]; rfl
          rw [e1, e2]
          exact h6)
        go_roundw
        case rel => exact ⟨k + 1, by omega, by go_num, HE.out, HO6.out.2.1, HO6.out.2.2⟩
        case measure => simp [intOf]; omega
    · obtain rfl : k = 256 := by omega
      rw [List.take_of_length_le (Nat.le_of_eq HT.out.len)] at hown
      have HST := Lib.hid (show wr.ownsRow S 3 1 u5 (lensB on ++ lettersB on (l.take 0)).length (ivs (lensB on ++ lettersB on (l.take 0))) by rw [List.take_zero, show lettersB on [] = [] from rfl, List.append_nil]; exact hown)
      have HSB := Lib.hid (And.intro hb hsz)
      clear hown hb hsz hlt hk
      go_wp2
      go_loopw [5, 7] (fun v i wr => ∃ k : Nat, k ≤ n ∧ i = .int .i64 (k : Int) ∧ wr.ownsRow S 3 1 v (lensB on ++ lettersB on (l.take k)).length (ivs (lensB on ++ lettersB on (l.take k))) ∧ Below S w3 wr ∧ S ≤ wr.heap.size) (fun _ i _ => n - (intOf i).toNat)
      case atStart => exact ⟨0, Nat.zero_le _, rfl, HST.out, HSB.out.1, HSB.out.2⟩
      case round =>
        clear HST HSB
        obtain ⟨k, hk, rfl, hown, hb, hsz⟩ := hrel
        by_cases hlt : k < n
        · have hkl : k < l.length := by have := HN.out.1; omega
          obtain ⟨ab, ao, rfl, hab, hcell⟩ := (HR3.out.below hb) k _ (bvs_get l k hkl)
          have hsm := HT.out.some _ (List.getElem_mem hkl)
          have hnx := lettersB_next on l hkl
          unfold letB at hnx
          have hblt := (l[k]'hkl).toNat_lt
          obtain ⟨b, hbe⟩ : ∃ b, b = (l[k]'hkl).toNat := ⟨_, rfl⟩
          rw [← hbe] at hcell hsm hnx hblt
          have hbl : b < on.length := by have := HT.out.len; omega
          have hs15 : on.getD b 0 ≤ 15 := by
            rw [List.getD_eq_getElem?_getD, List.getElem?_eq_getElem hbl]
            exact HT.out.le _ (List.getElem_mem hbl)
          have hcp := codeL_pow HT.out.kraft hbl hsm hs15
          have hc2 : codeL on b < 9223372036854775808 := Nat.lt_of_lt_of_le hcp (Nat.le_trans (Nat.pow_le_pow_right (n := 2) (by decide) hs15) (by decide))
          obtain ⟨ab1, ao1, he1, hab1, hcc⟩ := (HC3.out.below hb) b _ (zvs_getC _ (outC_code HT.out.le hbl hsm))
          injection he1 with he1
          injection he1 with he1 he2
          subst he1 he2
          rw [Nat.zero_add] at hcc
          obtain ⟨ab2, ao2, he1, hab2, hcs⟩ := (HL3.out.below hb) b _ (intL_get on hbl)
          injection he1 with he1
          injection he1 with he1 he2
          subst he1 he2
          rw [Nat.zero_add, show on[b] = on.getD b 0 by rw [List.getD_eq_getElem?_getD, List.getElem?_eq_getElem hbl]; rfl] at hcs
          obtain ⟨c, hc⟩ : ∃ c, c = codeL on b := ⟨_, rfl⟩
          obtain ⟨s, hs⟩ : ∃ s, s = on.getD b 0 := ⟨_, rfl⟩
          rw [← hc] at hcc hnx hc2
          rw [← hs] at hcs hnx hs15 hsm
          obtain ⟨P, hP⟩ : ∃ P, P = lensB on ++ lettersB on (l.take k) := ⟨_, rfl⟩
          have hPl : P.length ≤ 30000 := by
            have h1 := lensB_len on
            have h2 := lettersB_len HT.out.le (l.take k)
            have h3 := HT.out.len
            rw [hP, List.length_append]
            rw [List.length_take] at h2
            omega
          have hnx2 : lensB on ++ lettersB on (l.take (k + 1)) = P ++ codeB c s := by rw [hnx, hP, List.append_assoc]
          rw [← hP] at hown
          have HNX := Lib.hid hnx2
          have HPL := Lib.hid hPl
          have HOWN := Lib.hid hown
          have HB := Lib.hid (And.intro hb hsz)
          have H0 := Lib.hid (And.intro (And.intro (Nat.lt_of_lt_of_le hab hsz) hcell) (And.intro (And.intro (Nat.lt_of_lt_of_le hab1 hsz) hcc) (And.intro (Nat.lt_of_lt_of_le hab2 hsz) hcs)))
          have CB := Lib.hid (fun W => rfBits_any c s W (by omega) (by omega))
          have hcw := Lib.hid (show IntKind.u64.wrap (c : Int) = (c : Int) by rw [IntKind.wrap_u64]; omega)
          have hki : (k : Int) < (n : Int) := by omega
          have hbi : (b : Int) < 256 := by omega
          clear hown hb hcell hcc hcs hab hab1 hab2 hbe hbl hcp hc hs hP hPl hnx hnx2 hblt
          obtain ⟨Wr, hWr⟩ : ∃ Wr, Wr = wr := ⟨_, rfl⟩
          subst hWr
          go_wp2
          refine wp_region_grow [⟨44, [], .is (.slice (some ⟨g3, 0, none⟩) 256 256)⟩,
            ⟨45, [], .is (.slice (some ⟨ab, ao, none⟩) n m)⟩,
            ⟨46, [], .is (.int .i64 (k : Int))⟩,
            ⟨47, [1, 2], .is (.pointer (some ⟨ab, ao + k, none⟩))⟩,
            ⟨48, [3], .is (.int .u8 (b : Int))⟩,
            ⟨49, [0, 4], .is (.pointer (some ⟨g3, b, none⟩))⟩,
            ⟨50, [5], .is (.int .i64 (c : Int))⟩,
            ⟨51, [6], .is (.int .u64 (c : Int))⟩,
            ⟨52, [], .is (.slice (some ⟨g2, 0, none⟩) 256 256)⟩,
            ⟨53, [], .is (.slice (some ⟨ab, ao, none⟩) n m)⟩,
            ⟨54, [], .is (.int .i64 (k : Int))⟩,
            ⟨55, [9, 10], .is (.pointer (some ⟨ab, ao + k, none⟩))⟩,
            ⟨56, [11], .is (.int .u8 (b : Int))⟩,
            ⟨57, [8, 12], .is (.pointer (some ⟨g2, b, none⟩))⟩,
            ⟨58, [13], .is (.int .i64 (s : Int))⟩,
            ⟨59, [7, 14], .such (TurnedAt Wr.heap.size c s) (TurnedAt.grow Wr.heap.size c s)⟩,
            ⟨8, [15], .such (TurnedAt Wr.heap.size c s) (TurnedAt.grow Wr.heap.size c s)⟩]
            [(4, .slice (some ⟨g3, 0, none⟩) 256 256), (0, .slice (some ⟨ab, ao, none⟩) n m), (7, .int .i64 (k : Int)), (3, .slice (some ⟨g2, 0, none⟩) 256 256)] (by kernel_rfl) (by kernel_rfl) (by kernel_rfl) (by kernel_rfl) (by kernel_rfl) ⟨rfl, rfl, rfl, rfl, trivial⟩ ?_ ?_
          · repeat' (first | exact OblGAll.nil | refine OblGAll.cons ?_ ?_)
            all_goals (intro ev yi w' hB hc hf ho hn; simp only [OutsSay, NeedSay, rowAt, Fact.says, and_true] at ho hn)
            all_goals (have q1 := (hB.cell (p := ⟨ab, ao + k, none⟩) H0.out.1.1).trans H0.out.1.2; have q2 := (hB.cell (p := ⟨g3, b, none⟩) H0.out.2.1.1).trans H0.out.2.1.2; have q3 := (hB.cell (p := ⟨g2, b, none⟩) H0.out.2.2.1).trans H0.out.2.2.2)
            all_goals (try ((simp [OpSays, execOp, Region.wanted, Fact.says, go_sem, ho, hn, Below.refl, q1, q2, q3, hki, hbi, hcw.out]; done)))
            · rw [if_pos (by simp [Region.wanted])]
              exact says_call Tryz.call55 (vs := #[.int .u64 (c : Int), .int .i64 (s : Int)]) rfl hf (by simp [hn]) ((CB.out w').mono fun e w2 h => turned_of hB.size h)
          · intro X w4 hb4 hx
            obtain ⟨A8, c8, h8, hrd8, hA8⟩ : TurnedAt Wr.heap.size c s (X 16) w4 := hx 16 (by decide)
            clear hx
            obtain ⟨ab8, ao8, rfl, hab8, -⟩ := hrd8 0 (.int .i64 ((c.testBit 0).toNat : Int)) (by rw [ivs_get (bitsOf_get c s 0 (by omega))])
            have hne8 : u5.ownBlock ≠ some ab8 := fun h => by
              have h1 := hA8 ab8 ao8 rfl
              have h2 := (HOWN.out.lt ab8 h).2
              omega
            have HST := Lib.hid (And.intro (own_kept HOWN.out hb4) (And.intro (HB.out.1.trans (hb4.mono HB.out.2)) (And.intro (Nat.le_trans HB.out.2 hb4.size) (And.intro hrd8 hne8))))
            simp only [layAll, List.setIfInBounds_toArray, List.set_cons_succ, List.set_cons_zero, h8]
            clear h8 hrd8 hne8 hA8 hb4 HOWN HB H0 hab8 CB hcw hbi
            go_wp2
            go_loopw [5, 9] (fun v i wr' => ∃ j : Nat, j ≤ s ∧ i = .int .i64 ((j : Int) - 1) ∧ wr'.ownsRow S 3 1 v (P ++ (codeB c s).take (s - j)).length (ivs (P ++ (codeB c s).take (s - j))) ∧ Below S w3 wr' ∧ S ≤ wr'.heap.size ∧ Rd wr' wr'.heap.size (some ⟨ab8, ao8, none⟩) (ivs (bitsOf c s)) ∧ v.ownBlock ≠ some ab8) (fun _ i _ => (intOf i + 1).toNat)
            case atStart => exact ⟨s, Nat.le_refl _, by first | rfl | go_num, by rw [Nat.sub_self, List.take_zero, List.append_nil]; exact HST.out.1, HST.out.2.1, HST.out.2.2.1, HST.out.2.2.2.1, HST.out.2.2.2.2⟩
            case round =>
              clear HST
              obtain ⟨j, hj, hji, hown, hb, hsz, hrd, hne⟩ := hrel
              rcases j with _ | j
              · rw [show (((0 : Nat) : Int) - 1) = -1 from rfl] at hji
                subst hji
                rw [Nat.sub_zero, List.take_of_length_le (Nat.le_of_eq (codeB_len c s))] at hown
                have HE := Lib.hid (And.intro hown (And.intro hb hsz))
                clear hown hb hsz hrd hne
                go_wp2
                go_roundw
                case rel =>
                  refine ⟨_, _, _, _, _, _, _, _, _, _, _, _, _, _, _, _, _, _, _, _, _, _, _, _, _, _, _, _, _, _, _, _, _, _, _, _, _, _, _, _, ?_, rfl⟩
                  exact ⟨k + 1, by omega, by first | rfl | go_num, by rw [HNX.out]; exact HE.out.1, HE.out.2.1, HE.out.2.2⟩
                case measure => simp [intOf]; omega
              · rw [show (((j + 1 : Nat) : Int) - 1) = (j : Int) by omega] at hji
                subst hji
                obtain ⟨b9, o9, he9, hab9, hcell⟩ := hrd j _ (ivs_get (bitsOf_get c s j (by omega)))
                injection he9 with he9
                injection he9 with he1 he2
                subst he1 he2
                have hnx := codeB_next c s j (by omega)
                have hQl : (P ++ (codeB c s).take (s - (j + 1))).length ≤ 40000 := by
                  have := HPL.out
                  rw [List.length_append, List.length_take, codeB_len]
                  omega
                obtain ⟨Q, hQ⟩ : ∃ Q, Q = P ++ (codeB c s).take (s - (j + 1)) := ⟨_, rfl⟩
                have hnx2 : P ++ (codeB c s).take (s - j) = Q ++ [c.testBit j] := by rw [hnx, hQ, List.append_assoc]
                rw [← hQ] at hown hQl
                obtain ⟨NQ, hNQ⟩ : ∃ NQ, NQ = Q.length := ⟨_, rfl⟩
                rw [← hNQ] at hown hQl
                have HNX2 := Lib.hid (And.intro hnx2 hNQ)
                have HOWN := Lib.hid hown
                have HB := Lib.hid hb
                have HRD := Lib.hid (And.intro hrd hne)
                obtain ⟨bt, hbt⟩ : ∃ bt, bt = c.testBit j := ⟨_, rfl⟩
                rw [← hbt] at hcell HNX2
                have hj0 : (0 : Int) ≤ (j : Int) := by omega
                have hjs : (j : Int) < (s : Int) := by omega
                clear hown hb hrd hne hnx hnx2 hQ hNQ hbt
                go_wp2_with (at_builtin; go_must (refine wpList_appA rfl (.tmp 67) (.tmp 72) 53 rfl S 3 i0 (.int .i64 0) 1 8 Tryz.underlying53 hi hz0 hz1 hz2 rfl (by decide) _ _ _ rfl (HOWN.out.alloc _) _ 1 1 _ rfl (new_cells _ _ _) rfl (by intro u hu; simp at hu; subst hu; rfl) (by simp only [maxLen]; omega) (by omega) (by simp; omega) ?_; intro v1 w5 hown1 hg1 hat1; have HO1 := Lib.hid (And.intro hown1 (And.intro ((HB.out.alloc hsz _).grown hg1 (by simp; omega) (own_block HOWN.out)) (And.intro (Nat.le_trans hsz (Nat.le_trans (by simp) hg1.size)) (And.intro (grown_rd hg1 ((HRD.out.1.alloc (Nat.le_refl _) _).more (by simp)) (fun b off e => by injection e with e; injection e with e1 e2; rw [← e1]; exact HRD.out.2)) (show v1.ownBlock ≠ some ab8 from fun h => by rcases hat1 with h1 | h1; exact HRD.out.2 (h1.symm.trans h); rw [h] at h1; injection h1 with h1; simp at h1; omega))))); clear hg1 hown1 hat1))
                go_roundw
                case rel => exact ⟨j, by omega, by go_num, by
                  have e9 : P.length + min (s - j) (codeB c s).length = NQ + 1 := by
                    have e8 := congrArg List.length HNX2.out.1
                    rw [List.length_append, List.length_append, List.length_take, ← HNX2.out.2] at e8
                    exact e8
                  rw [e9, HNX2.out.1, ivs_append]; exact HO1.out.1, HO1.out.2.1, HO1.out.2.2.1, HO1.out.2.2.2.1, HO1.out.2.2.2.2⟩
                case measure => simp [intOf]; omega
        · obtain rfl : k = n := by omega
          rw [List.take_of_length_le (Nat.le_of_eq HN.out.1)] at hown
          have HE := Lib.hid (And.intro hown hb)
          clear hown hb
          go_wp2
          go_ret
          exact ⟨o, _, HO.out, rfl, by rw [← HON.out]; exact own_more HE.out.1 (by rw [HS.out]; exact HB3.out.size), HB3.out.trans (by have := HE.out.2; rw [HS.out] at this; exact this.mono HB3.out.size)⟩
set_option maxHeartbeats 1000000 in
theorem refCode_nil (w : World) (A : Option Addr) (m : Nat) : Calls Tryz.prog 23 #[.slice A 0 m] w fun e w' => e = .returned (.slice none 0 0) ∧ w' = w := by
  go_enter Tryz.func23, Tryz.ntmps23
  go_wp2
  go_ret
  exact ⟨rfl, rfl⟩
set_option maxHeartbeats 1000000 in
set_option maxRecDepth 100000 in
theorem refCode_any (hr : Rd w w.heap.size A (bvs l)) (hn : l.length = n) (h1 : 1 ≤ n) (hn1 : n ≤ 400) :
    Calls Tryz.prog 23 #[.slice A n m] w fun e w' => ∃ o bs, LensOfR (cntL l) o ∧ Packs bs (huffB (natL o) l) ∧ NewBy w bs e w' := by
  have C1 := Lib.hid (refBits_any (m := m) hr hn h1 hn1)
  have HN := Lib.hid hn
  have hni : ¬ (n : Int) = 0 := by omega
  clear hr hn
  go_enter Tryz.func23, Tryz.ntmps23
  go_wp2_with fail
  refine C1.out.mono ?_
  rintro e w1 ⟨o, v, ho, rfl, hown, hb⟩
  have hT := lensT_of (fun e => by have := HN.out; rw [e] at this; simp at this; omega) ho
  have hlen : (huffB (natL o) l).length ≤ 30000 := by
    have h1 := lensB_len (natL o)
    have h2 := lettersB_len hT.le l
    have h3 := hT.len
    have h4 := HN.out
    unfold huffB
    rw [List.length_append]
    omega
  obtain ⟨L, hL⟩ : ∃ L, L = huffB (natL o) l := ⟨_, rfl⟩
  rw [← hL] at hown hlen
  have HL := Lib.hid (And.intro hL ho)
  obtain ⟨A1, c1, rfl, -, -, -⟩ := own_form hown
  have C2 := Lib.hid (rfBytes_any A1 L.length c1 L w1 (Rd.of_own hown) rfl (by omega))
  have HB := Lib.hid hb
  clear hown hb hlen hL ho hT C1
  go_wp2_with fail
  refine C2.out.mono ?_
  rintro e w2 ⟨bs, hp, v2, rfl, hown, hb⟩
  have HE := Lib.hid (And.intro hp (And.intro (own_more hown HB.out.size) (HB.out.trans (hb.mono HB.out.size))))
  clear hp hown hb C2
  go_wp2
  go_ret
  exact ⟨o, bs, HL.out.2, by rw [← HL.out.1]; exact HE.out.1, _, rfl, HE.out.2.1, HE.out.2.2⟩
end
end Go.Proofs.YtflcmmeoppdhdaaGreat
namespace Go.Proofs.YtflcmmeoppdhdaaGreat
open Go.RowKit Go.Sort Go.Shelf

end Go.Proofs.YtflcmmeoppdhdaaGreat
namespace Go.Proofs.YtflcmmeoppdhdaaGreat
open Go.RowKit Go.Sort Go.Shelf

end Go.Proofs.YtflcmmeoppdhdaaGreat
namespace Go.Proofs.YtflcmmeoppdhdaaGreat
open Go.RowKit Go.Sort Go.Shelf

theorem bytes_none (w : World) : IsBytes [] (.slice none 0 0) w := ⟨none, 0, rfl, Nat.le_refl _, Rd.nil_ _ _ _⟩
section
variable {w : World} {A : Option Addr} {n m N : Nat} {pl l : List UInt8} {o : List Int} {R : List Bool}
end
end Go.Proofs.YtflcmmeoppdhdaaGreat
namespace Go.Proofs.YtflcmmeoppdhdaaGreat
open Go.RowKit Go.Sort Go.Shelf

theorem calls_someH {P : Program} {f : FuncId} {args : Array Value} {w : World} {R : Ending → World → Prop} (h : Calls P f args w R) : ∃ e w', R e w' :=
  let ⟨e, w', _, r, _⟩ := h []
  ⟨e, w', r⟩
def NewH (w : World) (Q : List UInt8) (e : Ending) (w' : World) : Prop := ∃ v, e = .returned v ∧ IsBytes Q v w' ∧ Below w.heap.size w w'
def HuffQ (l Q : List UInt8) : Prop := (l = [] ∧ Q = []) ∨ (l ≠ [] ∧ ∃ o, LensOfR (cntL l) o ∧ Packs Q (huffB (natL o) l))
theorem huffCode_q {l Q : List UInt8} (hQ : HuffQ l Q) (hl : l.length ≤ 1500) (v : Value) (w : World) (h : IsBytes l v w) : Calls Tryz.prog 49 #[v] w (NewH w Q) := by
  obtain ⟨A, c, rfl, hc, hr⟩ := h
  rcases hQ with ⟨rfl, rfl⟩ | ⟨h1, o, h2, h3⟩
  · refine (huffCode_nil w A c).mono ?_
    rintro e w' ⟨rfl, rfl⟩
    exact ⟨_, rfl, bytes_none _, Below.refl _ _⟩
  · refine (huffCode_any hr rfl (List.length_pos_iff.2 h1) hl).mono ?_
    rintro e w' ⟨o', B, ho', hp, v, rfl, hown, hb⟩
    obtain rfl := ho'.one h2
    obtain rfl := hp.unique h3
    exact ⟨v, rfl, IsBytes.of_own hown, hb⟩
theorem huffRef_q {l Q : List UInt8} (hQ : HuffQ l Q) (hl : l.length ≤ 400) (v : Value) (w : World) (h : IsBytes l v w) : Calls Tryz.prog 23 #[v] w (NewH w Q) := by
  obtain ⟨A, c, rfl, hc, hr⟩ := h
  rcases hQ with ⟨rfl, rfl⟩ | ⟨h1, o, h2, h3⟩
  · refine (refCode_nil w A c).mono ?_
    rintro e w' ⟨rfl, rfl⟩
    exact ⟨_, rfl, bytes_none _, Below.refl _ _⟩
  · refine (refCode_any hr rfl (List.length_pos_iff.2 h1) hl).mono ?_
    rintro e w' ⟨o', B, ho', hp, v, rfl, hown, hb⟩
    obtain rfl := ho'.one h2
    obtain rfl := hp.unique h3
    exact ⟨v, rfl, IsBytes.of_own hown, hb⟩
theorem huffQ_some {l : List UInt8} (hl : l.length ≤ 1500) {A : Option Addr} {w : World} (hr : Rd w w.heap.size A (bvs l)) : ∃ Q, HuffQ l Q := by
  by_cases h : l = []
  · exact ⟨[], .inl ⟨h, rfl⟩⟩
  · obtain ⟨e, w', o, B, ho, hp, -⟩ := calls_someH (huffCode_any (m := 0) hr rfl (List.length_pos_iff.2 h) hl)
    exact ⟨B, .inr ⟨h, o, ho, hp⟩⟩
/- the fixed calls -/
end Go.Proofs.YtflcmmeoppdhdaaGreat
namespace Go.Proofs.YtflcmmeoppdhdaaGreat

/-- The bytes that go out ahead of a letter of this share, the first one first. -/
inductive Goes (s : Nat) : Nat → List Nat → Nat → Prop
  | stop (x : Nat) (h : x < s * 524288) : Goes s x [] x
  | more (x : Nat) (o : List Nat) (y : Nat) (h : s * 524288 ≤ x) (hr : Goes s (x / 256) o y) : Goes s x (x % 256 :: o) y
theorem Goes.one {s x : Nat} {o o' : List Nat} {y y' : Nat} (h : Goes s x o y) (h' : Goes s x o' y') : o = o' ∧ y = y' := by
  induction h generalizing o' y' with
  | stop x h =>
    cases h' with
    | stop => exact ⟨rfl, rfl⟩
    | more _ _ _ hh => omega
  | more x o y hh hr ih =>
    cases h' with
    | stop _ h => omega
    | more _ o2 _ _ hr2 =>
      obtain ⟨e1, e2⟩ := ih hr2
      exact ⟨by rw [e1], e2⟩
theorem goes_all {s : Nat} (hs : 1 ≤ s) : ∀ x : Nat, ∃ o y, Goes s x o y := by
  intro x
  induction x using Nat.strongRecOn with
  | _ x ih =>
    by_cases h : x < s * 524288
    · exact ⟨[], x, .stop x h⟩
    · obtain ⟨o, y, hg⟩ := ih (x / 256) (by omega)
      exact ⟨_, y, .more x o y (by omega) hg⟩
theorem Goes.bytes {s x : Nat} {o : List Nat} {y : Nat} (h : Goes s x o y) : ∀ b ∈ o, b < 256 := by
  induction h with
  | stop => intro b hb; simp at hb
  | more x o y hh hr ih =>
    intro b hb
    rcases List.mem_cons.1 hb with rfl | hb
    · omega
    · exact ih b hb
theorem Goes.range {s x : Nat} {o : List Nat} {y : Nat} (h : Goes s x o y) : s * 2048 ≤ x → s * 2048 ≤ y ∧ y < s * 524288 := by
  induction h with
  | stop x h => intro h1; exact ⟨h1, h⟩
  | more x o y hh hr ih =>
    intro _
    have h2 : s * 2048 ≤ x / 256 := (Nat.le_div_iff_mul_le (by decide)).2 (by rw [Nat.mul_assoc]; exact hh)
    exact ih h2
/-- A letter goes in. -/
def inX (f s y : Nat) : Nat := y / s * 4096 + f + y % s
theorem inX_range {f s y : Nat} (hs : 1 ≤ s) (hf : f + s ≤ 4096) (h1 : s * 2048 ≤ y) (h2 : y < s * 524288) : 8388608 ≤ inX f s y ∧ inX f s y < 2147483648 := by
  have h3 : y % s < s := Nat.mod_lt y (by omega)
  have h4 : 2048 ≤ y / s := (Nat.le_div_iff_mul_le (by omega)).2 (by rw [Nat.mul_comm]; exact h1)
  have h5 : y / s < 524288 := (Nat.div_lt_iff_lt_mul (by omega)).2 (by rw [Nat.mul_comm]; exact h2)
  unfold inX
  omega
/-- Letters (first, share), the state behind them, and the bytes that went out, the last one first. -/
inductive RansIn : List (Nat × Nat) → Nat → List Nat → Prop
  | none : RansIn [] 8388608 []
  | letter (f s : Nat) (l : List (Nat × Nat)) (x : Nat) (T : List Nat) (o : List Nat) (y : Nat) (h : RansIn l x T) (hg : Goes s x o y) : RansIn ((f, s) :: l) (inX f s y) (o.reverse ++ T)
/-- Letters as they may be. -/
def okL (p : Nat × Nat) : Prop := 1 ≤ p.2 ∧ p.1 + p.2 ≤ 4096
theorem RansIn.range {l : List (Nat × Nat)} {x : Nat} {T : List Nat} (h : RansIn l x T) : (∀ p ∈ l, okL p) → 8388608 ≤ x ∧ x < 2147483648 ∧ ∀ b ∈ T, b < 256 := by
  induction h with
  | none => intro _; exact ⟨Nat.le_refl _, by decide, by simp⟩
  | letter f s l x T o y h hg ih =>
    intro hp
    obtain ⟨p1, p2⟩ := hp (f, s) List.mem_cons_self
    simp only at p1 p2
    obtain ⟨i1, i2, i3⟩ := ih fun q hq => hp q (List.mem_cons_of_mem _ hq)
    obtain ⟨g1, g2⟩ := hg.range (by omega)
    obtain ⟨j1, j2⟩ := inX_range p1 p2 g1 g2
    refine ⟨j1, j2, fun b hb => ?_⟩
    rcases List.mem_append.1 hb with hb | hb
    · exact hg.bytes b (List.mem_reverse.1 hb)
    · exact i3 b hb
theorem RansIn.one {l : List (Nat × Nat)} {x x' : Nat} {T T' : List Nat} (h : RansIn l x T) (h' : RansIn l x' T') : x = x' ∧ T = T' := by
  induction h generalizing x' T' with
  | none => cases h'; exact ⟨rfl, rfl⟩
  | letter f s l x T o y h hg ih =>
    cases h' with
    | letter _ _ _ x2 T2 o2 y2 h2 hg2 =>
      obtain ⟨rfl, rfl⟩ := ih h2
      obtain ⟨rfl, rfl⟩ := hg.one hg2
      exact ⟨rfl, rfl⟩
theorem goes_few {s : Nat} (hs : 1 ≤ s) : ∀ (k x : Nat) (o : List Nat) (y : Nat), Goes s x o y → x < 256 ^ k * 524288 → o.length ≤ k := by
  intro k
  induction k with
  | zero =>
    intro x o y h hx
    cases h with
    | stop => exact Nat.le_refl _
    | more _ _ _ hh => simp only [Nat.pow_zero, Nat.one_mul] at hx; omega
  | succ k ih =>
    intro x o y h hx
    cases h with
    | stop => exact Nat.zero_le _
    | more _ o2 _ hh hr =>
      have h2 : x / 256 < 256 ^ k * 524288 := (Nat.div_lt_iff_lt_mul (by decide)).2 (by rw [Nat.pow_succ] at hx; rw [Nat.mul_assoc, Nat.mul_comm 524288, ← Nat.mul_assoc]; exact hx)
      have := ih _ _ _ hr h2
      simp only [List.length_cons]
      omega
theorem RansIn.len {l : List (Nat × Nat)} {x : Nat} {T : List Nat} (h : RansIn l x T) : (∀ p ∈ l, okL p) → T.length ≤ 2 * l.length := by
  induction h with
  | none => intro _; exact Nat.le_refl _
  | letter f s l x T o y h hg ih =>
    intro hp
    have h1 := ih fun q hq => hp q (List.mem_cons_of_mem _ hq)
    have h2 := h.range fun q hq => hp q (List.mem_cons_of_mem _ hq)
    have h3 := goes_few (hp (f, s) List.mem_cons_self).1 2 x o y hg (by omega)
    simp only [List.length_append, List.length_reverse, List.length_cons]
    omega
end Go.Proofs.YtflcmmeoppdhdaaGreat
