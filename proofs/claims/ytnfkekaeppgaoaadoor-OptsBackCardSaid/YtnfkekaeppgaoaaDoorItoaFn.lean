/- strconv.Itoa of numbers that are not below nought: the shelf's contract in our words; the library's table. -/
import Derived.Test.YtnfkekaeppgaoaaDoorItoaLay
import Derived.Test.YtnfkekaeppgaoaaDoorOptRef
import Derived.Lib.AppendIntMem
namespace Go.Proofs.YtnfkekaeppgaoaaDoor
open Go.RowKit Go.Sort Go.Shelf

/-- The library's table of powers of ten, whatever is done from block B on. -/
def TabT (B : Nat) (w : World) : Prop := Lib.TabBelow Tryd.prog B w "internal/strconv.uint64pow10" .u64 Lib.pow10Tab
theorem TabT.on {B : Nat} {w w' : World} (h : TabT B w) (hb : Below B w w') : TabT B w' := Lib.TabBelow.on h hb
theorem TabT.up {B B' : Nat} {w : World} (h : TabT B w) (hB : B ≤ B') : TabT B' w := fun w' hb => h w' (hb.mono hB)
theorem decDigits_digL : ∀ n : Nat, Lib.decDigits n = digL n
  | n => by
    by_cases h : n ≤ 9
    · rw [Lib.decDigits, dif_pos (by omega), digL_one h]
    · rw [Lib.decDigits, dif_neg (by omega), digL_more h, decDigits_digL (n / 10)]
termination_by n => n
decreasing_by omega
theorem itoa_any {n : Nat} (hn : n ≤ 1000000000000) {B : Nat} {w : World} (ht : TabT B w) : Calls Tryd.prog 17 #[.int .i64 (n : Int)] w fun e w' => e = .returned (.string (strA (digL n))) ∧ Below w.heap.size w w' := by
  refine (Any.strconv_Itoa sItoa (n : Int) (by omega) (by omega) w ht.here).mono fun e w' h => ?_
  obtain ⟨rfl, k, os, rfl⟩ := h
  refine ⟨?_, Lib.below_grow _ w (Nat.le_refl _) k os⟩
  rw [Lib.itoa_nonneg, decDigits_digL]
  rfl
end Go.Proofs.YtnfkekaeppgaoaaDoor
