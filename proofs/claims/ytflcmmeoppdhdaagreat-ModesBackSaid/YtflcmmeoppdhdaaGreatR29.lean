/-
  Layer 17: the span: step, may, settled, cut, narrow (over any function that is handed on). · Layer 17: narrow, over any function that is handed on. · Layer 17: the program's encoder: Begin, lay, Put, Bytes.
-/
import Derived.Test.YtflcmmeoppdhdaaGreatR03
import Derived.Test.YtflcmmeoppdhdaaGreatR05
import Derived.Test.YtflcmmeoppdhdaaGreatR21
import Derived.Test.YtflcmmeoppdhdaaGreatR23
import Derived.Test.YtflcmmeoppdhdaaGreatR28
import Derived.Deep.QuietTactic
import Derived.Deep.LoopGhost
import Derived.Shelf.Abstract
import Derived.Deep.AppendLies
import Derived.Deep.RegionLaw
import Derived.BigRegion
namespace Go.Proofs.YtflcmmeoppdhdaaGreat
open Go.RowKit Go.Sort

section
variable {w : World} {g : Nat} {t : TypeId} {L R : Nat} {rest : List Value}
set_option maxHeartbeats 1000000 in
set_option maxRecDepth 100000 in
theorem spStep_bad (total : Int) (h : total < 1 ∨ 65536 < total) (v : Value) :
    Calls Tryz.prog 190 #[v, .int .i64 total] w fun e w' => e = .returned (.int .u32 0) ∧ w' = w := by
  by_cases h1 : total < 1
  · clear h
    go_enter Tryz.func190, Tryz.ntmps190
    go_wp2
    go_ret
    exact ⟨rfl, rfl⟩
  · have h2 : 65536 < total := by omega
    clear h
    go_enter Tryz.func190, Tryz.ntmps190
    go_wp2
    go_ret
    exact ⟨rfl, rfl⟩
set_option maxHeartbeats 1000000 in
set_option maxRecDepth 100000 in
theorem spStep_ok (T : Nat) (h1 : 1 ≤ T) (h2 : T ≤ 65536) (hR : R < 4294967296) (hb : w.cell? ⟨g, 1, none⟩ = some (.int .u32 (R : Int))) :
    Calls Tryz.prog 190 #[.pointer (some ⟨g, 0, none⟩), .int .i64 (T : Int)] w fun e w' => e = .returned (.int .u32 ((R / T : Nat) : Int)) ∧ w' = w := by
  have hle : R / T ≤ R := Nat.div_le_self _ _
  obtain ⟨r, hr⟩ : ∃ r, r = R / T := ⟨_, rfl⟩
  rw [← hr] at hle ⊢
  have hd : (R : Int) / (T : Int) = (r : Int) := by rw [hr]; exact (Int.natCast_ediv _ _).symm
  have hw : IntKind.u32.wrap ((R : Int) / (T : Int)) = (r : Int) := by rw [hd, IntKind.wrap_u32]; omega
  have ht : IntKind.u32.wrap (T : Int) = (T : Int) := by rw [IntKind.wrap_u32]; omega
  have t0 : ¬ (T : Int) = 0 := by omega
  have t1 : ¬ (T : Int) < 1 := by omega
  have t2 : ¬ 65536 < (T : Int) := by omega
  have t3 : ¬ T = 0 := by omega
  clear hr hle hd h1 h2 hR
  go_enter Tryz.func190, Tryz.ntmps190
  go_wp2
  go_ret
  exact ⟨by first | rfl | rw [hw], rfl⟩
set_option maxHeartbeats 1000000 in
set_option maxRecDepth 100000 in
theorem spMay_any (low size total : Int) (hs : size ≤ 9223372036854775807) (hR : 65536 ≤ R) (hR2 : R < 4294967296) (hb : w.cell? ⟨g, 1, none⟩ = some (.int .u32 (R : Int))) :
    Calls Tryz.prog 179 #[.pointer (some ⟨g, 0, none⟩), .int .i64 low, .int .i64 size, .int .i64 total] w fun e w' => e = .returned (.bool (mayP low size total)) ∧ w' = w := by
  by_cases h1 : 0 ≤ low
  · by_cases h2 : 1 ≤ size
    · by_cases h3 : total < 1 ∨ 65536 < total
      · have HQ := Lib.hid (show mayP low size total = false by simp only [mayP, Bool.and_eq_false_iff, decide_eq_false_iff_not]; omega)
        have C1 := Lib.hid (spStep_bad (w := w) total h3 (.pointer (some ⟨g, 0, none⟩)))
        clear h3
        go_enter Tryz.func179, Tryz.ntmps179
        go_wp2_with fail
        refine C1.out.mono ?_
        rintro _ _ ⟨rfl, rfl⟩
        go_wp2
        go_ret
        exact ⟨by rw [HQ.out]; rfl, rfl⟩
      · obtain ⟨T, rfl⟩ := Int.eq_ofNat_of_zero_le (show 0 ≤ total by omega)
        have hT1 : 1 ≤ T := by omega
        have hT2 : T ≤ 65536 := by omega
        have hr : 0 < R / T := Nat.div_pos (by omega) (by omega)
        have C1 := Lib.hid (spStep_ok (w := w) (g := g) T hT1 hT2 hR2 hb)
        obtain ⟨r, hrr⟩ : ∃ r, r = R / T := ⟨_, rfl⟩
        rw [← hrr] at C1 hr
        have hri : (0 : Int) < (r : Int) := by omega
        have hw : wrap64 ((T : Int) - size) = (T : Int) - size := IntWalk.wrap64_in _ (by omega)
        by_cases h4 : low ≤ (T : Int) - size
        · have HQ := Lib.hid (show mayP low size T = true by simp only [mayP, Bool.and_eq_true, decide_eq_true_eq]; omega)
          clear h3 hT1 hT2 hrr
          go_enter Tryz.func179, Tryz.ntmps179
          go_wp2_with fail
          refine C1.out.mono ?_
          rintro _ _ ⟨rfl, rfl⟩
          go_wp2
          go_ret
          exact ⟨by rw [HQ.out]; rfl, rfl⟩
        · have HQ := Lib.hid (show mayP low size T = false by simp only [mayP, Bool.and_eq_false_iff, decide_eq_false_iff_not]; omega)
          have h5 : decide (low ≤ (T : Int) - size) = false := by simp; omega
          clear h3 hT1 hT2 hrr h4
          go_enter Tryz.func179, Tryz.ntmps179
          go_wp2_with fail
          refine C1.out.mono ?_
          rintro _ _ ⟨rfl, rfl⟩
          go_wp2
          go_ret
          exact ⟨by rw [HQ.out]; rfl, rfl⟩
    · have HQ := Lib.hid (show mayP low size total = false by simp [mayP, h2])
      go_enter Tryz.func179, Tryz.ntmps179
      go_wp2
      go_ret
      exact ⟨by rw [HQ.out]; rfl, rfl⟩
  · have HQ := Lib.hid (show mayP low size total = false by simp [mayP, h1])
    go_enter Tryz.func179, Tryz.ntmps179
    go_wp2
    go_ret
    exact ⟨by rw [HQ.out]; rfl, rfl⟩
/-- What the walk says of the highest bytes. -/
theorem same_vals32 {L R : Nat} (hL : L < 4294967296) : ∃ x m y : Nat, IntKind.u32.wrap ((L : Int) / 16777216) = (x : Int) ∧ IntKind.u32.wrap ((L : Int) + (R : Int)) = (m : Int) ∧ IntKind.u32.wrap ((m : Int) / 16777216) = (y : Int) ∧ (SameB L R ↔ x = y) ∧ x = L / 16777216 ∧ x < 256 := by
  refine ⟨L / 16777216, (L + R) % 4294967296, (L + R) % 4294967296 / 16777216, ?_, ?_, ?_, Iff.rfl, rfl, by omega⟩
  · rw [IntKind.wrap_u32]; omega
  · rw [IntKind.wrap_u32]; omega
  · rw [IntKind.wrap_u32]; omega
set_option maxHeartbeats 1000000 in
set_option maxRecDepth 100000 in
theorem spSettled_any (hL : L < 4294967296) (hc0 : w.cell? ⟨g, 0, none⟩ = some (.int .u32 (L : Int))) (hc1 : w.cell? ⟨g, 1, none⟩ = some (.int .u32 (R : Int))) :
    Calls Tryz.prog 211 #[.pointer (some ⟨g, 0, none⟩)] w fun e w' => e = .returned (.bool (decide (SameB L R))) ∧ w' = w.drew := by
  obtain ⟨x, m, y, e1, e2, e3, e4, e5, e6⟩ := same_vals32 (R := R) hL
  have hxy : ((x : Int) == (y : Int)) = decide (SameB L R) := by
    by_cases h : SameB L R
    · rw [e4.1 h]; simp [h]
    · simp [h]; intro he; exact h (e4.2 (by omega))
  obtain ⟨s, hs⟩ : ∃ s, s = decide (SameB L R) := ⟨_, rfl⟩
  rw [← hs] at hxy ⊢
  clear hs e4 e5 e6 hL
  go_enter Tryz.func211, Tryz.ntmps211
  go_wp2
  refine wp_region_still_lit (by kernel_rfl) (by kernel_rfl) ?_
  repeat still_step
  refine wpStill_nil ?_
  change Exit.then _ _ _ _ w.drew
  clear e1 e2 e3
  go_wp2
  go_ret
  exact ⟨rfl, rfl⟩
set_option maxHeartbeats 1000000 in
set_option maxRecDepth 100000 in
theorem spCut_no (hR : 65536 ≤ R) (hc1 : w.cell? ⟨g, 1, none⟩ = some (.int .u32 (R : Int))) :
    Calls Tryz.prog 212 #[.pointer (some ⟨g, 0, none⟩)] w fun e w' => e = .returned (.bool false) ∧ w' = w := by
  have h : decide ((65536 : Int) ≤ (R : Int)) = true := by simp; omega
  clear hR
  go_enter Tryz.func212, Tryz.ntmps212
  go_wp2
  go_ret
  exact ⟨rfl, rfl⟩
set_option maxHeartbeats 1000000 in
set_option maxRecDepth 100000 in
theorem spCut_yes (hL : L < 4294967296) (hR : R < 65536) (hc0 : w.cell? ⟨g, 0, none⟩ = some (.int .u32 (L : Int))) (hc1 : w.cell? ⟨g, 1, none⟩ = some (.int .u32 (R : Int))) (hf1 : w.frozen? ⟨g, 1, none⟩ = false) :
    Calls Tryz.prog 212 #[.pointer (some ⟨g, 0, none⟩)] w fun e w' => e = .returned (.bool true) ∧ w' = w.setCell ⟨g, 1, none⟩ (.int .u32 ((65536 - L % 65536 : Nat) : Int)) := by
  have h : decide ((65536 : Int) ≤ (R : Int)) = false := by simp; omega
  obtain ⟨m, hm⟩ : ∃ m, m = L % 65536 := ⟨_, rfl⟩
  obtain ⟨c, hc⟩ : ∃ c, c = 65536 - L % 65536 := ⟨_, rfl⟩
  have e1 : (L : Int).tmod 65536 = (m : Int) := by rw [Int.tmod_eq_emod_of_nonneg (by omega)]; omega
  have e2 : (L : Int) % 65536 = (m : Int) := by omega
  have e3 : IntKind.u32.wrap (65536 - (m : Int)) = (c : Int) := by rw [IntKind.wrap_u32]; omega
  rw [← hc]
  clear hR hm hc hL
  go_enter Tryz.func212, Tryz.ntmps212
  go_wp2
  go_ret
  exact ⟨rfl, rfl⟩
end
end Go.Proofs.YtflcmmeoppdhdaaGreat
namespace Go.Proofs.YtflcmmeoppdhdaaGreat
open Go.RowKit Go.Sort Go.Shelf

/-- What holds while bytes move: o have moved, L and R stand in the first two cells of block g; function K, of the object at g, lets the next one move. -/
structure SpanJ (g K : Nat) (J : List Nat → Nat → Nat → World → Prop) : Prop where
  cell0 : ∀ {o L R w}, J o L R w → w.cell? ⟨g, 0, none⟩ = some (.int .u32 (L : Int))
  cell1 : ∀ {o L R w}, J o L R w → w.cell? ⟨g, 1, none⟩ = some (.int .u32 (R : Int))
  frozen0 : ∀ {o L R w}, J o L R w → w.frozen? ⟨g, 0, none⟩ = false
  frozen1 : ∀ {o L R w}, J o L R w → w.frozen? ⟨g, 1, none⟩ = false
  set0 : ∀ {o L R w} (L' : Nat), J o L R w → J o L' R (w.setCell ⟨g, 0, none⟩ (.int .u32 (L' : Int)))
  set1 : ∀ {o L R w} (R' : Nat), J o L R w → J o L R' (w.setCell ⟨g, 1, none⟩ (.int .u32 (R' : Int)))
  drew : ∀ {o L R w}, J o L R w → J o L R w.drew
  move : ∀ {o L R w}, J o L R w → L < 4294967296 → o.length < 7 → Calls Tryz.prog K #[.pointer (some ⟨g, 0, none⟩)] w fun e w' => e = .returned (.tuple #[]) ∧ J (o ++ [L / 16777216]) L R w'
/-- 256 times as much, in 32 bits, as the walk says it. -/
theorem shift_vals (L : Nat) : ∃ l : Nat, IntKind.u32.wrap ((L : Int) * 256) = (l : Int) ∧ (L : Int) * 256 % 4294967296 = (l : Int) ∧ l = 256 * L % 4294967296 := by
  refine ⟨256 * L % 4294967296, ?_, by omega, rfl⟩
  rw [IntKind.wrap_u32]; omega
/-- What holds at the head of a round. -/
def SpRel (J : List Nat → Nat → Nat → World → Prop) (o : List Nat) (A B : Nat) (gg : Nat) (wr : World) : Prop :=
  ∃ (L R : Nat) (o1 o2 : List Nat), o1 ++ o2 = o ∧ Moves L R o2 A B ∧ InSpan L R ∧ J o1 L R wr ∧ o2.length = gg
set_option maxHeartbeats 2000000 in
set_option maxRecDepth 100000 in
theorem spNarrow_any {w : World} {g K : Nat} {J : List Nat → Nat → Nat → World → Prop} (HJ : SpanJ g K J) (hE : Enters Tryz.prog K) {L R low size total A B : Nat} {o : List Nat} (hj : J [] L R w) (hi : InSpan L R) (hR : 65536 ≤ R) (h1 : 1 ≤ size) (h2 : low + size ≤ total) (h3 : total ≤ 65536)
    (hm : Moves (L + low * (R / total)) (size * (R / total)) o A B) :
    Calls Tryz.prog 180 #[.pointer (some ⟨g, 0, none⟩), .int .i64 (low : Int), .int .i64 (size : Int), .int .i64 (total : Int), .func (.func K) #[.pointer (some ⟨g, 0, none⟩)] #[]] w fun e w' => e = .returned (.tuple #[]) ∧ J o A B w' := by
  obtain ⟨n1, n2, n3, n4⟩ := narrow_span hi hR h1 h2 h3
  have hR2 : R < 4294967296 := by obtain ⟨a, b, c, d⟩ := hi; omega
  have C1 := Lib.hid (spStep_ok (w := w) (g := g) total (by omega) h3 hR2 (HJ.cell1 hj))
  have HJJ := Lib.hid hj
  have HH := Lib.hid HJ
  have HE := Lib.hid hE
  have hlow : low < 4294967296 := by omega
  have hsize : size < 4294967296 := by omega
  have hL := hi.1
  have hadd : (low + size) * (R / total) = low * (R / total) + size * (R / total) := Nat.add_mul ..
  obtain ⟨r, hr⟩ : ∃ r, r = R / total := ⟨_, rfl⟩
  rw [← hr] at hm n1 n2 n3 n4 hadd C1
  obtain ⟨lr, hlr⟩ : ∃ lr, lr = low * r := ⟨_, rfl⟩
  obtain ⟨S, hS⟩ : ∃ S, S = size * r := ⟨_, rfl⟩
  rw [← hlr, ← hS] at hm n4 hadd
  rw [← hlr] at n3
  have hml : IntKind.u32.wrap ((r : Int) * (low : Int)) = (lr : Int) := by rw [← Int.natCast_mul, Nat.mul_comm, ← hlr, IntKind.wrap_u32]; omega
  have hms : IntKind.u32.wrap ((r : Int) * (size : Int)) = (S : Int) := by rw [← Int.natCast_mul, Nat.mul_comm, ← hS, IntKind.wrap_u32]; omega
  obtain ⟨q, hqq⟩ : ∃ q, q = L + lr := ⟨_, rfl⟩
  rw [← hqq] at hm n4 n3
  have hq : IntKind.u32.wrap ((L : Int) + (lr : Int)) = (q : Int) := by rw [IntKind.wrap_u32]; omega
  have hwl : IntKind.u32.wrap (low : Int) = (low : Int) := by rw [IntKind.wrap_u32]; omega
  have hws : IntKind.u32.wrap (size : Int) = (size : Int) := by rw [IntKind.wrap_u32]; omega
  have HM := Lib.hid hm
  have HN := Lib.hid n4
  have hol := hm.few n4
  have HOL := Lib.hid hol
  have hc0 := HJ.cell0 hj
  have hf0 := HJ.frozen0 hj
  have hc1 := HJ.cell1 hj
  have hf1 := HJ.frozen1 hj
  clear hr hlr hS hqq n1 n2 n3 n4 hadd hm hj hi hR h1 h2 h3 hR2 hlow hsize hL hol HJ hE
  go_enter Tryz.func180, Tryz.ntmps180
  go_wp2_with fail
  refine C1.out.mono ?_
  rintro _ w0 ⟨rfl, hw0⟩
  subst w0
  clear C1
  go_wp2
  have HREL := Lib.hid (show SpRel J o A B o.length ((w.setCell ⟨g, 0, none⟩ (.int .u32 (q : Int))).setCell ⟨g, 1, none⟩ (.int .u32 (S : Int))) from ⟨q, S, [], o, rfl, HM.out, HN.out, HH.out.set1 S (HH.out.set0 q HJJ.out), rfl⟩)
  clear hc0 hf0 hc1 hf1 hml hms hq hwl hws HM HN HJJ
  go_loopg [] o.length (fun gg wr => SpRel J o A B gg wr)
  case atStart => exact HREL.out
  case round =>
    clear HREL
    obtain ⟨L1, R1, o1, o2, ho, hm, hi, hj, hg⟩ := hrel
    have hLb := hi.1
    have hRb : R1 < 4294967296 := by obtain ⟨a, b, c, d⟩ := hi; omega
    have C2 := Lib.hid (spSettled_any (w := wr) (g := g) (R := R1) hLb (HH.out.cell0 hj) (HH.out.cell1 hj))
    have HJ1 := Lib.hid (HH.out.drew hj)
    have HMV := Lib.hid hm
    have HSP := Lib.hid hi
    have HO := Lib.hid ho
    have HG := Lib.hid hg
    clear hm hi hj ho hg
    by_cases hs : SameB L1 R1
    · rw [show decide (SameB L1 R1) = true by simp [hs]] at C2
      obtain ⟨o3, ho3, HM3⟩ : ∃ o3, o2 = L1 / 16777216 :: o3 ∧ Hid (Moves (256 * L1 % 4294967296) (256 * cutR L1 R1 % 4294967296) o3 A B) := by
        cases HMV.out with
        | stop _ _ hh _ => exact absurd hs hh
        | move _ _ o3 _ _ _ hr => exact ⟨o3, rfl, Lib.hid hr⟩
      have hms := move_span HSP.out (.inl hs)
      rw [show cutR L1 R1 = R1 by unfold cutR; rw [if_pos hs]] at HM3 hms
      have HS2 := Lib.hid hms.2.2.2
      have HO3 := Lib.hid ho3
      have hol : o1.length < 7 := by have := congrArg List.length HO.out; rw [List.length_append, ho3, List.length_cons] at this; have := HOL.out; omega
      have C3 := Lib.hid (HH.out.move HJ1.out hLb hol)
      obtain ⟨l1, f1, f2, f3⟩ := shift_vals L1
      obtain ⟨l2, g1, g2, g3⟩ := shift_vals R1
      rw [← f3, ← g3] at HM3 HS2
      clear hms ho3 f3 g3 hol hs HMV HSP
      go_wp2_with fail
      refine C2.out.mono ?_
      rintro _ _ ⟨rfl, rfl⟩
      go_wp2_with fail
      rw [HE.out]
      refine C3.out.mono ?_
      rintro _ w2 ⟨rfl, hj2⟩
      have HJ2 := Lib.hid hj2
      have hc0 := HH.out.cell0 hj2
      have hf0 := HH.out.frozen0 hj2
      have hc1 := HH.out.cell1 hj2
      have hf1 := HH.out.frozen1 hj2
      clear hj2 C2 C3 HJ1
      go_wp2
      go_roundg (o3.length)
      case measure => have h1 := HO3.out; have h2 := HG.out; rw [h1, List.length_cons] at h2; omega
      case rel => exact ⟨l1, l2, o1 ++ [L1 / 16777216], o3, by rw [← HO.out, HO3.out]; simp, HM3.out, HS2.out, HH.out.set1 l2 (HH.out.set0 l1 HJ2.out), rfl⟩
    · rw [show decide (SameB L1 R1) = false by simp [hs]] at C2
      by_cases hR : R1 < 65536
      · obtain ⟨o3, ho3, HM3⟩ : ∃ o3, o2 = L1 / 16777216 :: o3 ∧ Hid (Moves (256 * L1 % 4294967296) (256 * cutR L1 R1 % 4294967296) o3 A B) := by
          cases HMV.out with
          | stop _ _ _ hh => omega
          | move _ _ o3 _ _ _ hr => exact ⟨o3, rfl, Lib.hid hr⟩
        have hms := move_span HSP.out (.inr hR)
        rw [show cutR L1 R1 = 65536 - L1 % 65536 by unfold cutR; rw [if_neg hs]] at HM3 hms
        have HS2 := Lib.hid hms.2.2.2
        have HO3 := Lib.hid ho3
        have hol : o1.length < 7 := by have := congrArg List.length HO.out; rw [List.length_append, ho3, List.length_cons] at this; have := HOL.out; omega
        have C4 := Lib.hid (spCut_yes (w := wr.drew) (g := g) hLb hR (HH.out.cell0 HJ1.out) (HH.out.cell1 HJ1.out) (HH.out.frozen1 HJ1.out))
        have hj3 := HH.out.set1 (65536 - L1 % 65536) HJ1.out
        obtain ⟨c, hc⟩ : ∃ c, c = 65536 - L1 % 65536 := ⟨_, rfl⟩
        rw [← hc] at HM3 HS2 C4 hj3
        obtain ⟨w1, hw1⟩ : ∃ w1, w1 = wr.drew.setCell ⟨g, 1, none⟩ (.int .u32 (c : Int)) := ⟨_, rfl⟩
        rw [← hw1] at C4 hj3
        have C3 := Lib.hid (HH.out.move hj3 hLb hol)
        obtain ⟨l1, f1, f2, f3⟩ := shift_vals L1
        obtain ⟨l2, g1, g2, g3⟩ := shift_vals c
        rw [← f3, ← g3] at HM3 HS2
        clear hms ho3 f3 g3 hol hs HMV HSP hj3 hw1 hc hR
        go_wp2_with fail
        refine C2.out.mono ?_
        rintro _ _ ⟨rfl, rfl⟩
        go_wp2_with fail
        refine C4.out.mono ?_
        rintro _ w3 ⟨rfl, hw3⟩
        subst w3
        go_wp2_with fail
        rw [HE.out]
        refine C3.out.mono ?_
        rintro _ w2 ⟨rfl, hj2⟩
        have HJ2 := Lib.hid hj2
        have hc0 := HH.out.cell0 hj2
        have hf0 := HH.out.frozen0 hj2
        have hc1 := HH.out.cell1 hj2
        have hf1 := HH.out.frozen1 hj2
        clear hj2 C2 C3 C4 HJ1
        go_wp2
        go_roundg (o3.length)
        case measure => have h1 := HO3.out; have h2 := HG.out; rw [h1, List.length_cons] at h2; omega
        case rel => exact ⟨l1, l2, o1 ++ [L1 / 16777216], o3, by rw [← HO.out, HO3.out]; simp, HM3.out, HS2.out, HH.out.set1 l2 (HH.out.set0 l1 HJ2.out), rfl⟩
      · obtain ⟨ho2, hA, hB⟩ : o2 = [] ∧ L1 = A ∧ R1 = B := by
          cases HMV.out with
          | stop _ _ _ _ => exact ⟨rfl, rfl, rfl⟩
          | move _ _ o3 _ _ hh hr => rcases hh with hh | hh
                                     · exact absurd hh hs
                                     · exact absurd hh hR
        have C4 := Lib.hid (spCut_no (w := wr.drew) (g := g) (R := R1) (by omega) (HH.out.cell1 HJ1.out))
        have HEND := Lib.hid (show J o A B wr.drew by have h := HJ1.out; have e := HO.out; rw [ho2, List.append_nil] at e; rw [← e, ← hA, ← hB]; exact h)
        clear hs HMV HSP hR ho2 hA hB HO HG HJ1
        go_wp2_with fail
        refine C2.out.mono ?_
        rintro _ _ ⟨rfl, rfl⟩
        go_wp2_with fail
        refine C4.out.mono ?_
        rintro _ w3 ⟨rfl, hw3⟩
        subst w3
        clear C2 C4
        go_wp2
        refine bodyPost_end (results_none rfl _ _ _) rfl ?_
        exact ⟨rfl, HEND.out⟩
end Go.Proofs.YtflcmmeoppdhdaaGreat
namespace Go.Proofs.YtflcmmeoppdhdaaGreat
open Go.RowKit Go.Sort Go.Shelf

/-- The program's encoder at E: a span, and the bytes that went out, in a row of its own. -/
def EncAt (w : World) (E L R : Nat) (o : List Nat) : Prop :=
  ∃ v, Blk w E 238 [.int .u32 (L : Int), .int .u32 (R : Int), v] ∧ w.ownsRow (E + 1) 5 1 v o.length (bvs (u8s o))
def encT : List TypeId := [238, 5]
section
variable {w : World} {E L R : Nat} {o : List Nat}
theorem EncAt.only {B : Nat} {ts : List TypeId} {w' : World} (h : EncAt w E L R o) (ho : OnlyT B ts w w') (h1 : 238 ∉ ts) (h2 : 5 ∉ ts) : EncAt w' E L R o := by
  obtain ⟨v, hb, hown⟩ := h
  exact ⟨v, hb.only ho h1, own_only hown ho h2⟩
theorem EncAt.below {w' : World} (h : EncAt w E L R o) (hb : Below w.heap.size w w') : EncAt w' E L R o := by
  obtain ⟨v, hbl, hown⟩ := h
  exact ⟨v, hbl.grow hb, own_kept hown hb⟩
theorem EncAt.same {w' : World} (h : EncAt w E L R o) (e : w'.heap = w.heap) : EncAt w' E L R o := by
  obtain ⟨v, hbl, hown⟩ := h
  refine ⟨v, hbl.same e, hown.1, ?_⟩
  rw [e]; exact hown.2
theorem EncAt.lt (h : EncAt w E L R o) : E < w.heap.size := by
  obtain ⟨v, hbl, -⟩ := h
  exact hbl.lt
theorem own_setCell {base e size n : Nat} {v : Value} {xs : List Value} {p : Addr} {u : Value} (h : w.ownsRow base e size v n xs) (hp : p.block < base) : (w.setCell p u).ownsRow base e size v n xs := by
  refine ⟨h.1, ?_⟩
  rcases h.2 with h0 | ⟨g, cap, cur, rfl, hbg, hg, rest⟩
  · exact .inl h0
  · exact .inr ⟨g, cap, cur, rfl, hbg, by rw [Below.heap_setCell w p u g (by omega)]; exact hg, rest⟩
theorem encLay_end {A1 : Option Addr} {c1 x g7 cap7 : Nat} {w7 : World} (hown : w.ownsRow (E + 1) 5 1 (.slice A1 o.length c1) o.length (bvs (u8s o))) (hx : x < 256)
    (hb7 : Blk w7 E 238 [.int .u32 (L : Int), .int .u32 (R : Int), .slice A1 o.length c1]) (hg7 : World.grownBy (w.drew.alloc (.cells #[.int .u8 (x : Int)] 5)) w7 (Value.slice A1 o.length c1).ownBlock)
    (hown7 : w7.ownsRow (E + 1) 5 1 (.slice (some ⟨g7, 0, none⟩) (o.length + 1) cap7) (o.length + 1) (bvs (u8s o) ++ [.int .u8 (x : Int)])) :
    EncAt (w7.setCell ⟨E, 2, none⟩ (.slice (some ⟨g7, 0, none⟩) (o.length + 1) cap7)) E L R (o ++ [x]) ∧ OnlyT E encT w (w7.setCell ⟨E, 2, none⟩ (.slice (some ⟨g7, 0, none⟩) (o.length + 1) cap7)) := by
  have h1 : OnlyT E encT w (w.drew.alloc (.cells #[.int .u8 (x : Int)] 5)) := OnlyT.of_below ((Below.refl _ _).drew.alloc (Nat.le_refl _) _)
  have h2 : OnlyT E encT (w.drew.alloc (.cells #[.int .u8 (x : Int)] 5)) w7 := OnlyT.grown hg7 (fun k hk => by
    obtain ⟨a, b⟩ := own_type (own_kept hown ((Below.refl w.heap.size w).drew.alloc (Nat.le_refl _) (.cells #[.int .u8 (x : Int)] 5))) k hk
    exact ⟨by omega, b⟩) (by simp [encT])
  refine ⟨⟨_, hb7.set_ 2 _, ?_⟩, (h1.trans h2).trans (OnlyT.set_ hb7 (Nat.le_refl _) _ (by simp [encT]))⟩
  rw [bvs_u8s o hx, List.length_append, List.length_singleton]
  exact own_setCell hown7 (Nat.lt_succ_self _)
set_option maxHeartbeats 2000000 in
set_option maxRecDepth 100000 in
theorem encLay_any (h : EncAt w E L R o) (hL : L < 4294967296) (ho : o.length ≤ 100000) :
    Calls Tryz.prog 181 #[.pointer (some ⟨E, 0, none⟩)] w fun e w' => e = .returned (.tuple #[]) ∧ EncAt w' E L R (o ++ [L / 16777216]) ∧ OnlyT E encT w w' := by
  obtain ⟨v, hb, hown⟩ := h
  obtain ⟨A1, c1, rfl, -, -, -⟩ := own_form hown
  obtain ⟨i0, hi0, hz0, hz1, hz2⟩ := info_parts info_u8r
  obtain ⟨x, hx, hx2⟩ : ∃ x, x = L / 16777216 ∧ x < 256 := ⟨_, rfl, by omega⟩
  have e1 : IntKind.u32.wrap ((L : Int) / 16777216) = (x : Int) := by rw [IntKind.wrap_u32]; omega
  have e2 : IntKind.u8.wrap (x : Int) = (x : Int) := by rw [IntKind.wrap_u8]; omega
  have hc0 := hb.cell 0
  have hc2 := hb.cell 2
  have hf2 := hb.frozen 2
  simp only [List.getElem?_cons_zero, List.getElem?_cons_succ] at hc0 hc2
  have HB := Lib.hid hb
  have HOWN := Lib.hid hown
  have HO := Lib.hid ho
  rw [← hx]
  have HX := Lib.hid hx2
  have hgl : E < w.heap.size := hb.lt
  clear hb hown ho hx hx2 hL
  go_enter Tryz.func181, Tryz.ntmps181
  go_wp2
  go_region_law (refine step_append_lies _ (by rfl) _ _ _ (by rfl) (E + 1) 5 i0 (.int .u8 0) 1 1 Tryz.underlying22 hi0 hz0 hz1 hz2 rfl (by decide) _ _ _ (by rfl) ((own_drew HOWN.out).alloc _) _ 1 1 [.int .u8 (x : Int)] (by rfl) (by rfl) (World.news_of_block (heap_alloc_new _ _)) (by intro u hu; simp at hu; subst hu; rfl) (by decide) (by simp only [maxLen]; have := HO.out; omega) (by have := HO.out; omega) (by have := HB.out.lt; simp; omega) _ rfl ?_; intro g7 cap7 w7 hown7 hgr7 hat7 hlt7; have hrow := own_block HOWN.out; have hb7 : Blk w7 E 238 [.int .u32 (L : Int), .int .u32 (R : Int), .slice A1 o.length c1] := blk_row ((HB.out.same (w' := w.drew) rfl).alloc_ _) hgr7 (fun r e => by have := hrow r e; omega); have hc7 := hb7.cell 2; have hf7 := hb7.frozen 2; simp only [List.getElem?_cons_zero, List.getElem?_cons_succ] at hc7; have HB7 := Lib.hid hb7; have HG7 := Lib.hid hgr7; have HOWN7 := Lib.hid hown7; clear hb7 hgr7 hown7 hat7 hlt7 hrow)
  all_goals (go_wp2; refine bodyPost_end (results_none rfl _ _ _) rfl ?_; refine ⟨rfl, ?_⟩)
  all_goals exact encLay_end HOWN.out HX.out HB7.out HG7.out HOWN7.out
theorem span_size : (Tryz.prog.info? 235).map (·.size) = some 2 := by kernel_rfl
set_option maxHeartbeats 1000000 in
theorem rcFirst_any (w : World) : Calls Tryz.prog 175 #[] w fun e w' => e = .returned (.agg #[.int .u32 0, .int .u32 4294967295]) ∧ Below w.heap.size w w' := by
  have hb := (Below.refl w.heap.size w).alloc (Nat.le_refl _) (.cells #[.int .u32 0, .int .u32 4294967295] 235)
  go_enter Tryz.func175, Tryz.ntmps175
  go_wp2
  exact bodyPost_ret (v := .agg #[.int .u32 0, .int .u32 4294967295]) (results_cell_row Tryz.results175 _ _ w.heap.size 235 _ (0, 0) _ rfl (heap_alloc_new w _) Tryz.underlying235 rfl span_size) rfl ⟨rfl, hb⟩
set_option maxHeartbeats 1000000 in
theorem rcBegin_any (w : World) : Calls Tryz.prog 131 #[] w fun e w' => ∃ E, e = .returned (.pointer (some ⟨E, 0, none⟩)) ∧ w.heap.size ≤ E ∧ EncAt w' E 0 4294967295 [] ∧ Below w.heap.size w w' := by
  have C := Lib.hid (rcFirst_any w)
  go_enter Tryz.func131, Tryz.ntmps131
  go_wp2_with fail
  refine C.out.mono ?_
  rintro _ w1 ⟨rfl, hb⟩
  go_wp2
  go_ret
  exact ⟨w1.heap.size, rfl, hb.size, ⟨.slice none 0 0, heap_alloc_new w1 _, World.ownsRow_nil _ _ _ _⟩, hb.alloc hb.size _⟩
theorem enc_span (ho : o.length ≤ 90000) : SpanJ E 181 (fun o2 L' R' w' => EncAt w' E L' R' (o ++ o2) ∧ OnlyT E encT w w') where
  cell0 := fun {o2 L' R' w'} ⟨⟨v, hb, _⟩, _⟩ => hb.cell 0
  cell1 := fun {o2 L' R' w'} ⟨⟨v, hb, _⟩, _⟩ => hb.cell 1
  frozen0 := fun {o2 L' R' w'} ⟨⟨v, hb, _⟩, _⟩ => hb.frozen 0
  frozen1 := fun {o2 L' R' w'} ⟨⟨v, hb, _⟩, _⟩ => hb.frozen 1
  set0 := fun {o2 L' R' w'} L2 ⟨⟨v, hb, hown⟩, ho⟩ => ⟨⟨v, hb.set_ 0 _, own_setCell hown (Nat.lt_succ_self _)⟩, ho.trans (OnlyT.set_ hb (Nat.le_refl _) _ (by simp [encT]))⟩
  set1 := fun {o2 L' R' w'} R2 ⟨⟨v, hb, hown⟩, ho⟩ => ⟨⟨v, hb.set_ 1 _, own_setCell hown (Nat.lt_succ_self _)⟩, ho.trans (OnlyT.set_ hb (Nat.le_refl _) _ (by simp [encT]))⟩
  drew := fun {o2 L' R' w'} ⟨h, ho⟩ => ⟨h.same rfl, ho.drew⟩
  move := fun {o2 L' R' w'} ⟨h2, ho2⟩ hL h7 => (encLay_any h2 hL (by rw [List.length_append]; omega)).mono fun e w2 ⟨h3, h4, h5⟩ => ⟨h3, by rw [← List.append_assoc]; exact h4, ho2.trans h5⟩
set_option maxHeartbeats 1000000 in
theorem encPut_ok {low size total A B : Nat} {o2 : List Nat} (h : EncAt w E L R o) (ho : o.length ≤ 90000) (hi : InSpan L R) (hR : 65536 ≤ R) (h1 : 1 ≤ size) (h2 : low + size ≤ total) (h3 : total ≤ 65536) (hm : Moves (L + low * (R / total)) (size * (R / total)) o2 A B) :
    Calls Tryz.prog 135 #[.pointer (some ⟨E, 0, none⟩), .int .i64 (low : Int), .int .i64 (size : Int), .int .i64 (total : Int)] w fun e w' => e = .returned (.int .i64 0) ∧ EncAt w' E A B (o ++ o2) ∧ OnlyT E encT w w' := by
  have hR2 : R < 4294967296 := by obtain ⟨a, b, c, d⟩ := hi; omega
  obtain ⟨v, hb, -⟩ := id h
  have C := Lib.hid (spMay_any (w := w) (g := E) (low : Int) (size : Int) (total : Int) (by omega) hR hR2 (hb.cell 1))
  rw [mayP_iff.2 ⟨h1, h2, h3⟩] at C
  have D := Lib.hid (spNarrow_any (w := w) (enc_span ho) (enters_of Tryz.func181 (by kernel_rfl) rfl) ⟨by rw [List.append_nil]; exact h, OnlyT.refl _ _ _⟩ hi hR h1 h2 h3 hm)
  clear hb hR hR2 hm hi h1 h2 h3 h ho
  go_enter Tryz.func135, Tryz.ntmps135
  go_wp2_with fail
  refine C.out.mono ?_
  rintro _ w0 ⟨rfl, hw0⟩
  subst w0
  go_wp2_with fail
  refine D.out.mono ?_
  rintro _ w2 ⟨rfl, h4, h5⟩
  have H := Lib.hid (And.intro h4 h5)
  clear h4 h5 C D
  go_wp2
  go_ret
  exact ⟨rfl, H.out⟩
set_option maxHeartbeats 1000000 in
set_option maxRecDepth 100000 in
theorem encBytes_any (h : EncAt w E L R o) (hL : L < 4294967296) (ho : o.length ≤ 90000) :
    Calls Tryz.prog 132 #[.pointer (some ⟨E, 0, none⟩)] w fun e w' => ∃ v, e = .returned v ∧ w'.ownsRow w.heap.size 5 1 v (o ++ be4 L).length (bvs (u8s (o ++ be4 L))) ∧ Below w.heap.size w w' := by
  obtain ⟨i0, hi0, hz0, hz1, hz2⟩ := info_parts info_u8r
  obtain ⟨v, hb, hown⟩ := h
  obtain ⟨A1, c1, rfl, -, -, -⟩ := own_form hown
  have C := Lib.hid (clone_all A1 o.length c1 (u8s o) w (Rd.of_own hown) (u8s_length o) (by omega))
  have hc2 := hb.cell 2
  simp only [List.getElem?_cons_zero, List.getElem?_cons_succ] at hc2
  have HB := Lib.hid hb
  have hgl := hb.lt
  have HO := Lib.hid ho
  have HL := Lib.hid hL
  clear hb hown ho hL
  go_enter Tryz.func132, Tryz.ntmps132
  go_wp2_with fail
  refine C.out.mono ?_
  rintro _ w1 ⟨v1, rfl, hown1, hb1⟩
  rw [u8s_length] at hown1
  have HREL := Lib.hid (And.intro hown1 hb1)
  clear hown1 hb1 C hc2
  go_wp2
  go_loopw [3, 12] (fun b i wr => ∃ k : Nat, k ≤ 4 ∧ i = .int .i64 (k : Int) ∧ wr.ownsRow w.heap.size 5 1 b (o ++ (be4 L).take k).length (bvs (u8s (o ++ (be4 L).take k))) ∧ Below w.heap.size w wr) (fun _ i _ => 4 - (intOf i).toNat)
  case atStart => exact ⟨0, by decide, rfl, by simpa using HREL.out.1, HREL.out.2⟩
  case round =>
    clear HREL
    obtain ⟨k, hk, rfl, hown, hbl⟩ := hrel
    obtain ⟨A2, c2, rfl, -, -, -⟩ := own_form hown
    have HOWN := Lib.hid hown
    have HBL := Lib.hid hbl
    have hc0 := (HB.out.below hbl hgl).cell 0
    simp only [List.getElem?_cons_zero] at hc0
    clear hown hbl
    rcases (by omega : k = 0 ∨ k = 1 ∨ k = 2 ∨ k = 3 ∨ k = 4) with rfl | rfl | rfl | rfl | rfl
    · obtain ⟨s, hs⟩ : ∃ s, s = L % 4294967296 := ⟨_, rfl⟩
      obtain ⟨b, hb⟩ : ∃ b, b = s / 16777216 := ⟨_, rfl⟩
      have hlt : b < 256 := by omega
      have hbe : (be4 L).take 1 = (be4 L).take 0 ++ [b] := by have := HL.out; simp [be4]; omega
      have HBE := Lib.hid hbe
      have e1 : (L : Int) % 4294967296 = (s : Int) := by omega
      have e2 : (s : Int) / 16777216 = (b : Int) := by omega
      have e3 : IntKind.u32.wrap ((s : Int) / 16777216) = (b : Int) := by rw [IntKind.wrap_u32]; omega
      have e4 : IntKind.u8.wrap (b : Int) = (b : Int) := by rw [IntKind.wrap_u8]; omega
      have HLT := Lib.hid hlt
      have hl1 : (o ++ (be4 L).take 0).length ≤ 100000 := by have := HO.out; simp [be4]; omega
      clear hs hb hlt hbe hk
      go_wp2_with ((with_reducible show wpList _ _ _ (({ dst := some 27, op := _, type := _, pos := _, after := _, guard := _ } : Oper) :: _) _ _); go_must (refine wpList_app rfl (.tmp 15) (.tmp 26) 22 rfl w.heap.size 5 i0 (.int .u8 0) 1 1 Tryz.underlying22 hi0 hz0 hz1 hz2 rfl (by decide) _ _ _ rfl (HOWN.out.alloc _) _ _ 1 1 _ rfl (Rd.new _ _ _) rfl (by intro u hu; simp at hu; subst hu; rfl) (by simp only [maxLen]; omega) (by omega) (by have := HBL.out.size; simp; omega) ?_; intro v3 w3 hown3 hg3; have hrow := own_block HOWN.out; have hb3 := (HBL.out.alloc HBL.out.size (.cells #[.int .u8 (b : Int)] 5)).grown hg3 (by have := HBL.out.size; simp; omega) hrow; clear hg3 hrow))
      have HB3 := Lib.hid hb3
      have h3 : w3.ownsRow w.heap.size 5 1 v3 (o ++ (be4 L).take 1).length (bvs (u8s (o ++ (be4 L).take 1))) := by
        rw [HBE.out, ← List.append_assoc, bvs_u8s _ HLT.out, List.length_append, List.length_singleton]; exact hown3
      have H3 := Lib.hid h3
      clear h3 hown3 hb3 hl1 e1 e2 e3 e4 HLT
      go_wp2
      go_roundw
      case rel => exact ⟨1, by decide, rfl, H3.out, HB3.out⟩
      case measure => simp [intOf]
    · obtain ⟨s, hs⟩ : ∃ s, s = L * 256 % 4294967296 := ⟨_, rfl⟩
      obtain ⟨b, hb⟩ : ∃ b, b = s / 16777216 := ⟨_, rfl⟩
      have hlt : b < 256 := by omega
      have hbe : (be4 L).take 2 = (be4 L).take 1 ++ [b] := by have := HL.out; simp [be4]; omega
      have HBE := Lib.hid hbe
      have e1 : (L : Int) * 256 % 4294967296 = (s : Int) := by omega
      have e2 : (s : Int) / 16777216 = (b : Int) := by omega
      have e3 : IntKind.u32.wrap ((s : Int) / 16777216) = (b : Int) := by rw [IntKind.wrap_u32]; omega
      have e4 : IntKind.u8.wrap (b : Int) = (b : Int) := by rw [IntKind.wrap_u8]; omega
      have HLT := Lib.hid hlt
      have hl1 : (o ++ (be4 L).take 1).length ≤ 100000 := by have := HO.out; simp [be4]; omega
      clear hs hb hlt hbe hk
      go_wp2_with ((with_reducible show wpList _ _ _ (({ dst := some 27, op := _, type := _, pos := _, after := _, guard := _ } : Oper) :: _) _ _); go_must (refine wpList_app rfl (.tmp 15) (.tmp 26) 22 rfl w.heap.size 5 i0 (.int .u8 0) 1 1 Tryz.underlying22 hi0 hz0 hz1 hz2 rfl (by decide) _ _ _ rfl (HOWN.out.alloc _) _ _ 1 1 _ rfl (Rd.new _ _ _) rfl (by intro u hu; simp at hu; subst hu; rfl) (by simp only [maxLen]; omega) (by omega) (by have := HBL.out.size; simp; omega) ?_; intro v3 w3 hown3 hg3; have hrow := own_block HOWN.out; have hb3 := (HBL.out.alloc HBL.out.size (.cells #[.int .u8 (b : Int)] 5)).grown hg3 (by have := HBL.out.size; simp; omega) hrow; clear hg3 hrow))
      have HB3 := Lib.hid hb3
      have h3 : w3.ownsRow w.heap.size 5 1 v3 (o ++ (be4 L).take 2).length (bvs (u8s (o ++ (be4 L).take 2))) := by
        rw [HBE.out, ← List.append_assoc, bvs_u8s _ HLT.out, List.length_append, List.length_singleton]; exact hown3
      have H3 := Lib.hid h3
      clear h3 hown3 hb3 hl1 e1 e2 e3 e4 HLT
      go_wp2
      go_roundw
      case rel => exact ⟨2, by decide, rfl, H3.out, HB3.out⟩
      case measure => simp [intOf]
    · obtain ⟨s, hs⟩ : ∃ s, s = L * 65536 % 4294967296 := ⟨_, rfl⟩
      obtain ⟨b, hb⟩ : ∃ b, b = s / 16777216 := ⟨_, rfl⟩
      have hlt : b < 256 := by omega
      have hbe : (be4 L).take 3 = (be4 L).take 2 ++ [b] := by have := HL.out; simp [be4]; omega
      have HBE := Lib.hid hbe
      have e1 : (L : Int) * 65536 % 4294967296 = (s : Int) := by omega
      have e2 : (s : Int) / 16777216 = (b : Int) := by omega
      have e3 : IntKind.u32.wrap ((s : Int) / 16777216) = (b : Int) := by rw [IntKind.wrap_u32]; omega
      have e4 : IntKind.u8.wrap (b : Int) = (b : Int) := by rw [IntKind.wrap_u8]; omega
      have HLT := Lib.hid hlt
      have hl1 : (o ++ (be4 L).take 2).length ≤ 100000 := by have := HO.out; simp [be4]; omega
      clear hs hb hlt hbe hk
      go_wp2_with ((with_reducible show wpList _ _ _ (({ dst := some 27, op := _, type := _, pos := _, after := _, guard := _ } : Oper) :: _) _ _); go_must (refine wpList_app rfl (.tmp 15) (.tmp 26) 22 rfl w.heap.size 5 i0 (.int .u8 0) 1 1 Tryz.underlying22 hi0 hz0 hz1 hz2 rfl (by decide) _ _ _ rfl (HOWN.out.alloc _) _ _ 1 1 _ rfl (Rd.new _ _ _) rfl (by intro u hu; simp at hu; subst hu; rfl) (by simp only [maxLen]; omega) (by omega) (by have := HBL.out.size; simp; omega) ?_; intro v3 w3 hown3 hg3; have hrow := own_block HOWN.out; have hb3 := (HBL.out.alloc HBL.out.size (.cells #[.int .u8 (b : Int)] 5)).grown hg3 (by have := HBL.out.size; simp; omega) hrow; clear hg3 hrow))
      have HB3 := Lib.hid hb3
      have h3 : w3.ownsRow w.heap.size 5 1 v3 (o ++ (be4 L).take 3).length (bvs (u8s (o ++ (be4 L).take 3))) := by
        rw [HBE.out, ← List.append_assoc, bvs_u8s _ HLT.out, List.length_append, List.length_singleton]; exact hown3
      have H3 := Lib.hid h3
      clear h3 hown3 hb3 hl1 e1 e2 e3 e4 HLT
      go_wp2
      go_roundw
      case rel => exact ⟨3, by decide, rfl, H3.out, HB3.out⟩
      case measure => simp [intOf]
    · obtain ⟨s, hs⟩ : ∃ s, s = L * 16777216 % 4294967296 := ⟨_, rfl⟩
      obtain ⟨b, hb⟩ : ∃ b, b = s / 16777216 := ⟨_, rfl⟩
      have hlt : b < 256 := by omega
      have hbe : (be4 L).take 4 = (be4 L).take 3 ++ [b] := by have := HL.out; simp [be4]; omega
      have HBE := Lib.hid hbe
      have e1 : (L : Int) * 16777216 % 4294967296 = (s : Int) := by omega
      have e2 : (s : Int) / 16777216 = (b : Int) := by omega
      have e3 : IntKind.u32.wrap ((s : Int) / 16777216) = (b : Int) := by rw [IntKind.wrap_u32]; omega
      have e4 : IntKind.u8.wrap (b : Int) = (b : Int) := by rw [IntKind.wrap_u8]; omega
      have HLT := Lib.hid hlt
      have hl1 : (o ++ (be4 L).take 3).length ≤ 100000 := by have := HO.out; simp [be4]; omega
      clear hs hb hlt hbe hk
      go_wp2_with ((with_reducible show wpList _ _ _ (({ dst := some 27, op := _, type := _, pos := _, after := _, guard := _ } : Oper) :: _) _ _); go_must (refine wpList_app rfl (.tmp 15) (.tmp 26) 22 rfl w.heap.size 5 i0 (.int .u8 0) 1 1 Tryz.underlying22 hi0 hz0 hz1 hz2 rfl (by decide) _ _ _ rfl (HOWN.out.alloc _) _ _ 1 1 _ rfl (Rd.new _ _ _) rfl (by intro u hu; simp at hu; subst hu; rfl) (by simp only [maxLen]; omega) (by omega) (by have := HBL.out.size; simp; omega) ?_; intro v3 w3 hown3 hg3; have hrow := own_block HOWN.out; have hb3 := (HBL.out.alloc HBL.out.size (.cells #[.int .u8 (b : Int)] 5)).grown hg3 (by have := HBL.out.size; simp; omega) hrow; clear hg3 hrow))
      have HB3 := Lib.hid hb3
      have h3 : w3.ownsRow w.heap.size 5 1 v3 (o ++ (be4 L).take 4).length (bvs (u8s (o ++ (be4 L).take 4))) := by
        rw [HBE.out, ← List.append_assoc, bvs_u8s _ HLT.out, List.length_append, List.length_singleton]; exact hown3
      have H3 := Lib.hid h3
      clear h3 hown3 hb3 hl1 e1 e2 e3 e4 HLT
      go_wp2
      go_roundw
      case rel => exact ⟨4, by decide, rfl, H3.out, HB3.out⟩
      case measure => simp [intOf]
    · have h4 : (be4 L).take 4 = be4 L := rfl
      rw [h4] at HOWN
      clear h4 hk hc0
      go_wp2
      go_ret
      exact ⟨_, rfl, HOWN.out, HBL.out⟩
end
end Go.Proofs.YtflcmmeoppdhdaaGreat
