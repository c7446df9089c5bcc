/- Contracts of the number functions of layer 2: Len64, Size, Fold, Unfold. -/
import Derived.Test.YtcjjlkfenlmmlaaProg
import Derived.Test.YtcjjlkfenlmmlaaBase
import Derived.Test.YtcjjlkfenlmmlaaBitMath
import Derived.Lib.Strings
import Derived.Lib.Slices
import Derived.Lib.Small
import Derived.Lib.Walk
namespace Go.Proofs.Ytcjjlkfenlmmlaa
open Go.RowKit

/-- one way through Len64: the table's byte of y, y being x without its lowest k bits -/
theorem len_way (x y : Int) (k d : Nat) (hd : d = 2 ^ k) (h0 : 0 ≤ x) (h1 : x ≤ 18446744073709551615) (hy : y.toNat = x.toNat / d) (hx : k = 0 ∨ d ≤ x.toNat) :
    (k : Int) + (Lib.bitLen y.toNat : Int) = (Lib.bitLen x.toNat : Int) := by
  rw [hy]
  subst hd
  rcases hx with rfl | hx
  · simp
  · rw [Lib.bitLen_shift k x.toNat hx (by omega)]; omega

theorem tab_size : Lib.len8tab.size = 256 := by kernel_rfl
theorem tab_at (i : Nat) (h : i < Lib.len8tab.size) : (Lib.len8tab[i]'h).toNat = Lib.bitLen i := by
  have key : ∀ j : Fin 256, (Lib.len8tab[j.val]'(by rw [tab_size]; exact j.isLt)).toNat = Lib.bitLen j.val := by decide +kernel
  exact key ⟨i, by rw [tab_size] at h; exact h⟩
/-- what one way through Len64 hands back -/
theorem len_end (x y : Int) (k d : Nat) (hd : d = 2 ^ k) (hk : k ≤ 56) (h0 : 0 ≤ x) (h1 : x ≤ 18446744073709551615) (hy : y.toNat = x.toNat / d) (hx : k = 0 ∨ d ≤ x.toNat) (h : y.toNat < Lib.len8tab.size) :
    wrap64 ((k : Int) + wrap64 ((Lib.len8tab[y.toNat]'h).toNat : Int)) = (Lib.bitLen x.toNat : Int) := by
  have e := len_way x y k d hd h0 h1 hy hx
  have l := Lib.bitLen_le8 ⟨y.toNat, by rw [tab_size] at h; exact h⟩
  simp only at l
  rw [tab_at, IntWalk.wrap64_in (Lib.bitLen y.toNat : Int) (by omega), IntWalk.wrap64_in _ (by omega), e]

set_option maxHeartbeats 4000000 in
set_option maxRecDepth 100000 in
theorem len64_any (x : Int) (w : World) (h0 : 0 ≤ x) (h1 : x ≤ 18446744073709551615) :
    Calls Try.prog 40 #[.int .u64 x] w fun e w' => e = .returned (.int .i64 (Lib.bitLen x.toNat)) ∧ w = w' := by
  have hts := tab_size
  go_enter Try.func40, Try.ntmps40
  go_wp2
  all_goals (go_ret; refine ⟨ret_int ?_, rfl⟩)
  all_goals first
    | exact len_end x (x / 4294967296 / 65536 / 256) 56 72057594037927936 (by decide) (by decide) h0 h1 (by omega) (by omega) _
    | exact len_end x (x / 4294967296 / 65536) 48 281474976710656 (by decide) (by decide) h0 h1 (by omega) (by omega) _
    | exact len_end x (x / 4294967296 / 256) 40 1099511627776 (by decide) (by decide) h0 h1 (by omega) (by omega) _
    | exact len_end x (x / 4294967296) 32 4294967296 (by decide) (by decide) h0 h1 (by omega) (by omega) _
    | exact len_end x (x / 65536 / 256) 24 16777216 (by decide) (by decide) h0 h1 (by omega) (by omega) _
    | exact len_end x (x / 65536) 16 65536 (by decide) (by decide) h0 h1 (by omega) (by omega) _
    | exact len_end x (x / 256) 8 256 (by decide) (by decide) h0 h1 (by omega) (by omega) _
    | exact (congrArg wrap64 (Int.zero_add _).symm).trans (len_end x x 0 1 (by decide) (by decide) h0 h1 (by omega) (by omega) _)

set_option maxHeartbeats 400000 in
theorem lebSize_any (n : Int) (w : World) (h0 : 0 ≤ n) (h1 : n ≤ 18446744073709551615) :
    Calls Try.prog 33 #[.int .u64 n] w fun e w' => e = .returned (.int .i64 ((lput n.toNat).length : Nat)) ∧ w = w' := by
  have hl := lput_len n.toNat (by omega)
  have hb : Lib.bitLen n.toNat ≤ 64 := Lib.bitLenAux_le 64 _ 64 (by omega)
  have hb' : ((Lib.bitLen n.toNat : Nat) : Int) ≤ 64 := by omega
  have hb0 : 0 ≤ ((Lib.bitLen n.toNat : Nat) : Int) := by omega
  have H := Lib.hid hl
  clear hl hb
  go_enter Try.func33, Try.ntmps33
  go_wp2_with (go_at_call 40; refine (len64_any _ _ h0 h1).mono ?_; rintro e w' ⟨rfl, rfl⟩)
  go_ret
  exact ⟨ret_int (by rw [H.out]; omega), rfl⟩
end Go.Proofs.Ytcjjlkfenlmmlaa
