/- A sum's four bytes, as word.Lay lays them. -/
import Derived.Test.YtcjjlkfenlmmlaaHeadFour
import Derived.Test.YtcjjlkfenlmmlaaWordLay
namespace Go.Proofs.Ytcjjlkfenlmmlaa
open Go.RowKit

theorem ofNat_mod256 (n : Nat) : UInt8.ofNat (n % 256) = UInt8.ofNat n := by
  refine UInt8.toNat.inj ?_
  rw [UInt8.toNat_ofNat', UInt8.toNat_ofNat']
  omega
theorem lay4 (n : Nat) : layW 4 [n] ++ [] = fourL n := by
  rw [List.append_nil]
  show leB 4 n ++ [] = _
  rw [List.append_nil]
  simp only [leB, fourL, ofNat_mod256, Nat.div_div_eq_div_mul]
end Go.Proofs.Ytcjjlkfenlmmlaa
