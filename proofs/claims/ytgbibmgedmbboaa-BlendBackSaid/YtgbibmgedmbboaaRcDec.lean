/- Layer 17: the reference: May, Narrow. · Layer 17: the reference's decoder. -/
import Derived.Test.YtgbibmgedmbboaaRcState
import Derived.Test.YtgbibmgedmbboaaInts
import Derived.Test.YtgbibmgedmbboaaU8s
import Derived.Deep.QuietTactic
namespace Go.Proofs.Ytgbibmgedmbboaa
open Go.RowKit Go.Sort

/-- May a part be? -/
def mayP (low size total : Int) : Bool := decide (0 ≤ low) && decide (1 ≤ size) && decide (total ≤ 65536) && decide (low ≤ 65536) && decide (size ≤ 65536) && decide (low + size ≤ total)
theorem mayP_yes {low size total : Int} (h : mayP low size total = true) : 0 ≤ low ∧ 1 ≤ size ∧ low + size ≤ total ∧ total ≤ 65536 := by
  simp only [mayP, Bool.and_eq_true, decide_eq_true_eq] at h
  omega
theorem mayP_no {low size total : Int} (h : mayP low size total = false) : low < 0 ∨ size < 1 ∨ total < low + size ∨ 65536 < total := by
  simp only [mayP, Bool.and_eq_false_iff, decide_eq_false_iff_not] at h
  omega
section
variable {w : World}
/-- 256 times as much, in 32 bits, as the walk says it. -/
theorem times_vals {L : Nat} (hL : L ≤ 4294967296) : ∃ M l : Nat, IntKind.u64.wrap (256 * (L : Int)) = (M : Int) ∧ (M : Int).tmod 4294967296 = (l : Int) ∧ (M : Int) % 4294967296 = (l : Int) ∧ l = 256 * L % 4294967296 := by
  refine ⟨256 * L, 256 * L % 4294967296, ?_, ?_, ?_, rfl⟩
  · rw [IntKind.wrap_u64]; omega
  · rw [Int.tmod_eq_emod_of_nonneg (by omega)]; omega
  · omega
/-- What the walk says of the highest bytes. -/
theorem same_vals {L R : Nat} (hL : L < 4294967296) (hR : R ≤ 4294967296) : ∃ x s m y : Nat, IntKind.u64.wrap ((L : Int) / 16777216) = (x : Int) ∧ IntKind.u64.wrap ((L : Int) + (R : Int)) = (s : Int) ∧ (s : Int).tmod 4294967296 = (m : Int) ∧ (s : Int) % 4294967296 = (m : Int) ∧ IntKind.u64.wrap ((m : Int) / 16777216) = (y : Int) ∧ (SameB L R ↔ x = y) ∧ x = L / 16777216 ∧ x < 256 := by
  refine ⟨L / 16777216, L + R, (L + R) % 4294967296, (L + R) % 4294967296 / 16777216, ?_, ?_, ?_, ?_, ?_, Iff.rfl, rfl, by omega⟩
  · rw [IntKind.wrap_u64]; omega
  · rw [IntKind.wrap_u64]; omega
  · rw [Int.tmod_eq_emod_of_nonneg (by omega)]; omega
  · omega
  · rw [IntKind.wrap_u64]; omega
/-- What holds as bytes move. -/
def NarRel (w : World) (g : Nat) (t : TypeId) (rest : List Value) (o : List Nat) (A B : Nat) (v : Value) (wr : World) : Prop :=
  ∃ (L R : Nat) (o1 o2 : List Nat), o1 ++ o2 = o ∧ Moves L R o2 A B ∧ InSpan L R ∧ wr.ownsRow w.heap.size 5 1 v o1.length (bvs (u8s o1)) ∧ Blk wr g t (.int .u64 (L : Int) :: .int .u64 (R : Int) :: rest) ∧ TurnsB g g w wr
end
end Go.Proofs.Ytgbibmgedmbboaa
namespace Go.Proofs.Ytgbibmgedmbboaa
open Go.RowKit Go.Sort

section
variable {w : World} {D K : Nat} {L R C E : Nat} {B : List Nat}
theorem size_u8d : (Try.prog.info? 5).map (·.size) = some 1 := by kernel_rfl
theorem come_vals {C b : Nat} (hC : C < 4294967296) (hb : b < 256) : ∃ M N c : Nat, IntKind.u64.wrap (256 * (C : Int)) = (M : Int) ∧ IntKind.u64.wrap ((M : Int) + (b : Int)) = (N : Int) ∧ (N : Int).tmod 4294967296 = (c : Int) ∧ (N : Int) % 4294967296 = (c : Int) ∧ IntKind.u64.wrap (b : Int) = (b : Int) ∧ c = (256 * C + b) % 4294967296 := by
  refine ⟨256 * C, 256 * C + b, (256 * C + b) % 4294967296, ?_, ?_, ?_, ?_, ?_, rfl⟩
  · rw [IntKind.wrap_u64]; omega
  · rw [IntKind.wrap_u64]; omega
  · rw [Int.tmod_eq_emod_of_nonneg (by omega)]; omega
  · omega
  · rw [IntKind.wrap_u64]; omega
theorem find_vals {L R C T : Nat} (hL : L < 4294967296) (hR : R ≤ 4294967296) (hC : C < 4294967296) (hT : 1 ≤ T) (hTR : T ≤ R) : ∃ X Y Z r n : Nat, IntKind.u64.wrap ((C : Int) + 4294967296) = (X : Int) ∧ IntKind.u64.wrap ((X : Int) - (L : Int)) = (Y : Int) ∧ (Y : Int).tmod 4294967296 = (Z : Int) ∧ (Y : Int) % 4294967296 = (Z : Int) ∧ IntKind.u64.wrap ((R : Int) / (T : Int)) = (r : Int) ∧ ¬ r = 0 ∧ IntKind.u64.wrap ((Z : Int) / (r : Int)) = (n : Int) ∧ n < 4294967296 ∧ n = (C + 4294967296 - L) % 4294967296 / (R / T) := by
  have hr : 1 ≤ R / T := (Nat.le_div_iff_mul_le (by omega)).2 (by omega)
  have hrle : R / T ≤ R := Nat.div_le_self _ _
  have hdc : (R : Int) / (T : Int) = ((R / T : Nat) : Int) := (Int.natCast_ediv _ _).symm
  obtain ⟨r, hrr⟩ : ∃ r, r = R / T := ⟨_, rfl⟩
  rw [← hrr] at hr hrle hdc ⊢
  obtain ⟨Z, hZ⟩ : ∃ Z, Z = (C + 4294967296 - L) % 4294967296 := ⟨_, rfl⟩
  have hlt : Z < 4294967296 := by rw [hZ]; exact Nat.mod_lt _ (by decide)
  have hdc2 : (Z : Int) / (r : Int) = ((Z / r : Nat) : Int) := (Int.natCast_ediv _ _).symm
  have hle : Z / r ≤ Z := Nat.div_le_self _ _
  rw [← hZ]
  obtain ⟨q, hq⟩ : ∃ q, q = Z / r := ⟨_, rfl⟩
  rw [← hq] at hle hdc2 ⊢
  refine ⟨C + 4294967296, C + 4294967296 - L, Z, r, q, ?_, ?_, ?_, ?_, ?_, by omega, ?_, by omega, rfl⟩
  · rw [IntKind.wrap_u64]; omega
  · rw [IntKind.wrap_u64]; omega
  · rw [Int.tmod_eq_emod_of_nonneg (by omega)]; omega
  · omega
  · rw [hdc, IntKind.wrap_u64]; omega
  · rw [hdc2, IntKind.wrap_u64]; omega
/-- A span within a decoder, narrowed; then as many bytes come as moved. -/
theorem mayP_iff {low size total : Nat} : mayP (low : Int) (size : Int) (total : Int) = true ↔ 1 ≤ size ∧ low + size ≤ total ∧ total ≤ 65536 := by
  simp only [mayP, Bool.and_eq_true, decide_eq_true_eq]
  omega
end
end Go.Proofs.Ytgbibmgedmbboaa
