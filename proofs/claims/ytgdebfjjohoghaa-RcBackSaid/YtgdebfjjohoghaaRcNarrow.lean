/- Layer 17: narrow, over any function that is handed on. -/
import Derived.Test.YtgdebfjjohoghaaRcSpan
import Derived.Shelf.Abstract
namespace Go.Proofs.Ytgdebfjjohoghaa
open Go.RowKit Go.Sort Go.Shelf

/-- What holds while bytes move: o have moved, L and R stand in the first two cells of block g; function K, of the object at g, lets the next one move. -/
structure SpanJ (g K : Nat) (J : List Nat → Nat → Nat → World → Prop) : Prop where
  cell0 : ∀ {o L R w}, J o L R w → w.cell? ⟨g, 0, none⟩ = some (.int .u32 (L : Int))
  cell1 : ∀ {o L R w}, J o L R w → w.cell? ⟨g, 1, none⟩ = some (.int .u32 (R : Int))
  frozen0 : ∀ {o L R w}, J o L R w → w.frozen? ⟨g, 0, none⟩ = false
  frozen1 : ∀ {o L R w}, J o L R w → w.frozen? ⟨g, 1, none⟩ = false
  set0 : ∀ {o L R w} (L' : Nat), J o L R w → J o L' R (w.setCell ⟨g, 0, none⟩ (.int .u32 (L' : Int)))
  set1 : ∀ {o L R w} (R' : Nat), J o L R w → J o L R' (w.setCell ⟨g, 1, none⟩ (.int .u32 (R' : Int)))
  drew : ∀ {o L R w}, J o L R w → J o L R w.drew
  move : ∀ {o L R w}, J o L R w → L < 4294967296 → o.length < 7 → Calls Try.prog K #[.pointer (some ⟨g, 0, none⟩)] w fun e w' => e = .returned (.tuple #[]) ∧ J (o ++ [L / 16777216]) L R w'
/-- 256 times as much, in 32 bits, as the walk says it. -/
theorem shift_vals (L : Nat) : ∃ l : Nat, IntKind.u32.wrap ((L : Int) * 256) = (l : Int) ∧ (L : Int) * 256 % 4294967296 = (l : Int) ∧ l = 256 * L % 4294967296 := by
  refine ⟨256 * L % 4294967296, ?_, by omega, rfl⟩
  rw [IntKind.wrap_u32]; omega
/-- What holds at the head of a round. -/
def SpRel (J : List Nat → Nat → Nat → World → Prop) (o : List Nat) (A B : Nat) (gg : Nat) (wr : World) : Prop :=
  ∃ (L R : Nat) (o1 o2 : List Nat), o1 ++ o2 = o ∧ Moves L R o2 A B ∧ InSpan L R ∧ J o1 L R wr ∧ o2.length = gg
set_option maxHeartbeats 2000000 in
set_option maxRecDepth 100000 in
theorem spNarrow_any {w : World} {g K : Nat} {J : List Nat → Nat → Nat → World → Prop} (HJ : SpanJ g K J) (hE : Enters Try.prog K) {L R low size total A B : Nat} {o : List Nat} (hj : J [] L R w) (hi : InSpan L R) (hR : 65536 ≤ R) (h1 : 1 ≤ size) (h2 : low + size ≤ total) (h3 : total ≤ 65536)
    (hm : Moves (L + low * (R / total)) (size * (R / total)) o A B) :
    Calls Try.prog 23 #[.pointer (some ⟨g, 0, none⟩), .int .i64 (low : Int), .int .i64 (size : Int), .int .i64 (total : Int), .func (.func K) #[.pointer (some ⟨g, 0, none⟩)] #[]] w fun e w' => e = .returned (.tuple #[]) ∧ J o A B w' := by
  obtain ⟨n1, n2, n3, n4⟩ := narrow_span hi hR h1 h2 h3
  have hR2 : R < 4294967296 := by obtain ⟨a, b, c, d⟩ := hi; omega
  have C1 := Lib.hid (spStep_ok (w := w) (g := g) total (by omega) h3 hR2 (HJ.cell1 hj))
  have HJJ := Lib.hid hj
  have HH := Lib.hid HJ
  have HE := Lib.hid hE
  have hlow : low < 4294967296 := by omega
  have hsize : size < 4294967296 := by omega
  have hL := hi.1
  have hadd : (low + size) * (R / total) = low * (R / total) + size * (R / total) := Nat.add_mul ..
  obtain ⟨r, hr⟩ : ∃ r, r = R / total := ⟨_, rfl⟩
  rw [← hr] at hm n1 n2 n3 n4 hadd C1
  obtain ⟨lr, hlr⟩ : ∃ lr, lr = low * r := ⟨_, rfl⟩
  obtain ⟨S, hS⟩ : ∃ S, S = size * r := ⟨_, rfl⟩
  rw [← hlr, ← hS] at hm n4 hadd
  rw [← hlr] at n3
  have hml : IntKind.u32.wrap ((r : Int) * (low : Int)) = (lr : Int) := by rw [← Int.natCast_mul, Nat.mul_comm, ← hlr, IntKind.wrap_u32]; omega
  have hms : IntKind.u32.wrap ((r : Int) * (size : Int)) = (S : Int) := by rw [← Int.natCast_mul, Nat.mul_comm, ← hS, IntKind.wrap_u32]; omega
  obtain ⟨q, hqq⟩ : ∃ q, q = L + lr := ⟨_, rfl⟩
  rw [← hqq] at hm n4 n3
  have hq : IntKind.u32.wrap ((L : Int) + (lr : Int)) = (q : Int) := by rw [IntKind.wrap_u32]; omega
  have hwl : IntKind.u32.wrap (low : Int) = (low : Int) := by rw [IntKind.wrap_u32]; omega
  have hws : IntKind.u32.wrap (size : Int) = (size : Int) := by rw [IntKind.wrap_u32]; omega
  have HM := Lib.hid hm
  have HN := Lib.hid n4
  have hol := hm.few n4
  have HOL := Lib.hid hol
  have hc0 := HJ.cell0 hj
  have hf0 := HJ.frozen0 hj
  have hc1 := HJ.cell1 hj
  have hf1 := HJ.frozen1 hj
  clear hr hlr hS hqq n1 n2 n3 n4 hadd hm hj hi hR h1 h2 h3 hR2 hlow hsize hL hol HJ hE
  go_enter Try.func23, Try.ntmps23
  go_wp2_with fail
  refine C1.out.mono ?_
  rintro _ w0 ⟨rfl, hw0⟩
  subst w0
  clear C1
  go_wp2
  have HREL := Lib.hid (show SpRel J o A B o.length ((w.setCell ⟨g, 0, none⟩ (.int .u32 (q : Int))).setCell ⟨g, 1, none⟩ (.int .u32 (S : Int))) from ⟨q, S, [], o, rfl, HM.out, HN.out, HH.out.set1 S (HH.out.set0 q HJJ.out), rfl⟩)
  clear hc0 hf0 hc1 hf1 hml hms hq hwl hws HM HN HJJ
  go_loopg [] o.length (fun gg wr => SpRel J o A B gg wr)
  case atStart => exact HREL.out
  case round =>
    clear HREL
    obtain ⟨L1, R1, o1, o2, ho, hm, hi, hj, hg⟩ := hrel
    have hLb := hi.1
    have hRb : R1 < 4294967296 := by obtain ⟨a, b, c, d⟩ := hi; omega
    have C2 := Lib.hid (spSettled_any (w := wr) (g := g) (R := R1) hLb (HH.out.cell0 hj) (HH.out.cell1 hj))
    have HJ1 := Lib.hid (HH.out.drew hj)
    have HMV := Lib.hid hm
    have HSP := Lib.hid hi
    have HO := Lib.hid ho
    have HG := Lib.hid hg
    clear hm hi hj ho hg
    by_cases hs : SameB L1 R1
    · rw [show decide (SameB L1 R1) = true by simp [hs]] at C2
      obtain ⟨o3, ho3, HM3⟩ : ∃ o3, o2 = L1 / 16777216 :: o3 ∧ Hid (Moves (256 * L1 % 4294967296) (256 * cutR L1 R1 % 4294967296) o3 A B) := by
        cases HMV.out with
        | stop _ _ hh _ => exact absurd hs hh
        | move _ _ o3 _ _ _ hr => exact ⟨o3, rfl, Lib.hid hr⟩
      have hms := move_span HSP.out (.inl hs)
      rw [show cutR L1 R1 = R1 by unfold cutR; rw [if_pos hs]] at HM3 hms
      have HS2 := Lib.hid hms.2.2.2
      have HO3 := Lib.hid ho3
      have hol : o1.length < 7 := by have := congrArg List.length HO.out; rw [List.length_append, ho3, List.length_cons] at this; have := HOL.out; omega
      have C3 := Lib.hid (HH.out.move HJ1.out hLb hol)
      obtain ⟨l1, f1, f2, f3⟩ := shift_vals L1
      obtain ⟨l2, g1, g2, g3⟩ := shift_vals R1
      rw [← f3, ← g3] at HM3 HS2
      clear hms ho3 f3 g3 hol hs HMV HSP
      go_wp2_with fail
      refine C2.out.mono ?_
      rintro _ _ ⟨rfl, rfl⟩
      go_wp2_with fail
      rw [HE.out]
      refine C3.out.mono ?_
      rintro _ w2 ⟨rfl, hj2⟩
      have HJ2 := Lib.hid hj2
      have hc0 := HH.out.cell0 hj2
      have hf0 := HH.out.frozen0 hj2
      have hc1 := HH.out.cell1 hj2
      have hf1 := HH.out.frozen1 hj2
      clear hj2 C2 C3 HJ1
      go_wp2
      go_roundg (o3.length)
      case measure => have h1 := HO3.out; have h2 := HG.out; rw [h1, List.length_cons] at h2; omega
      case rel => exact ⟨l1, l2, o1 ++ [L1 / 16777216], o3, by rw [← HO.out, HO3.out]; simp, HM3.out, HS2.out, HH.out.set1 l2 (HH.out.set0 l1 HJ2.out), rfl⟩
    · rw [show decide (SameB L1 R1) = false by simp [hs]] at C2
      by_cases hR : R1 < 65536
      · obtain ⟨o3, ho3, HM3⟩ : ∃ o3, o2 = L1 / 16777216 :: o3 ∧ Hid (Moves (256 * L1 % 4294967296) (256 * cutR L1 R1 % 4294967296) o3 A B) := by
          cases HMV.out with
          | stop _ _ _ hh => omega
          | move _ _ o3 _ _ _ hr => exact ⟨o3, rfl, Lib.hid hr⟩
        have hms := move_span HSP.out (.inr hR)
        rw [show cutR L1 R1 = 65536 - L1 % 65536 by unfold cutR; rw [if_neg hs]] at HM3 hms
        have HS2 := Lib.hid hms.2.2.2
        have HO3 := Lib.hid ho3
        have hol : o1.length < 7 := by have := congrArg List.length HO.out; rw [List.length_append, ho3, List.length_cons] at this; have := HOL.out; omega
        have C4 := Lib.hid (spCut_yes (w := wr.drew) (g := g) hLb hR (HH.out.cell0 HJ1.out) (HH.out.cell1 HJ1.out) (HH.out.frozen1 HJ1.out))
        have hj3 := HH.out.set1 (65536 - L1 % 65536) HJ1.out
        obtain ⟨c, hc⟩ : ∃ c, c = 65536 - L1 % 65536 := ⟨_, rfl⟩
        rw [← hc] at HM3 HS2 C4 hj3
        obtain ⟨w1, hw1⟩ : ∃ w1, w1 = wr.drew.setCell ⟨g, 1, none⟩ (.int .u32 (c : Int)) := ⟨_, rfl⟩
        rw [← hw1] at C4 hj3
        have C3 := Lib.hid (HH.out.move hj3 hLb hol)
        obtain ⟨l1, f1, f2, f3⟩ := shift_vals L1
        obtain ⟨l2, g1, g2, g3⟩ := shift_vals c
        rw [← f3, ← g3] at HM3 HS2
        clear hms ho3 f3 g3 hol hs HMV HSP hj3 hw1 hc hR
        go_wp2_with fail
        refine C2.out.mono ?_
        rintro _ _ ⟨rfl, rfl⟩
        go_wp2_with fail
        refine C4.out.mono ?_
        rintro _ w3 ⟨rfl, hw3⟩
        subst w3
        go_wp2_with fail
        rw [HE.out]
        refine C3.out.mono ?_
        rintro _ w2 ⟨rfl, hj2⟩
        have HJ2 := Lib.hid hj2
        have hc0 := HH.out.cell0 hj2
        have hf0 := HH.out.frozen0 hj2
        have hc1 := HH.out.cell1 hj2
        have hf1 := HH.out.frozen1 hj2
        clear hj2 C2 C3 C4 HJ1
        go_wp2
        go_roundg (o3.length)
        case measure => have h1 := HO3.out; have h2 := HG.out; rw [h1, List.length_cons] at h2; omega
        case rel => exact ⟨l1, l2, o1 ++ [L1 / 16777216], o3, by rw [← HO.out, HO3.out]; simp, HM3.out, HS2.out, HH.out.set1 l2 (HH.out.set0 l1 HJ2.out), rfl⟩
      · obtain ⟨ho2, hA, hB⟩ : o2 = [] ∧ L1 = A ∧ R1 = B := by
          cases HMV.out with
          | stop _ _ _ _ => exact ⟨rfl, rfl, rfl⟩
          | move _ _ o3 _ _ hh hr => rcases hh with hh | hh
                                     · exact absurd hh hs
                                     · exact absurd hh hR
        have C4 := Lib.hid (spCut_no (w := wr.drew) (g := g) (R := R1) (by omega) (HH.out.cell1 HJ1.out))
        have HEND := Lib.hid (show J o A B wr.drew by have h := HJ1.out; have e := HO.out; rw [ho2, List.append_nil] at e; rw [← e, ← hA, ← hB]; exact h)
        clear hs HMV HSP hR ho2 hA hB HO HG HJ1
        go_wp2_with fail
        refine C2.out.mono ?_
        rintro _ _ ⟨rfl, rfl⟩
        go_wp2_with fail
        refine C4.out.mono ?_
        rintro _ w3 ⟨rfl, hw3⟩
        subst w3
        clear C2 C4
        go_wp2
        refine bodyPost_end (results_none rfl _ _ _) rfl ?_
        exact ⟨rfl, HEND.out⟩
end Go.Proofs.Ytgdebfjjohoghaa
