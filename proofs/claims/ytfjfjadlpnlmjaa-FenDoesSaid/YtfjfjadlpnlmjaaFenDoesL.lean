/- Layer 12: the law FenDoes, whatever comes in. -/
import Derived.Test.YtfjfjadlpnlmjaaFenDoes
namespace Go.Proofs.Ytfjfjadlpnlmjaa
open Go.RowKit

set_option maxHeartbeats 1000000 in
set_option maxRecDepth 100000 in
theorem fenDoes_law (n : Int) (A : Option Addr) (L m : Nat) (ss : List S3) (w : World) (hr : RdS3 w w.heap.size A ss) (hok : ∀ s ∈ ss, S3Ok s) (hL : ss.length = L) (hL63 : L ≤ 9223372036854775807) :
    Calls Try.prog 3 #[.int .i64 n, .slice A L m] w (Yes w) := by
  have CK := Lib.hid fenKnown_any
  by_cases h60 : 60 < n
  · clear hr hok hL
    go_enter Try.func3, Try.ntmps3
    go_wp2_with fail
    refine (CK.out _).mono ?_
    rintro e w' ⟨rfl, hb⟩
    go_wp2
    go_ret
    exact ⟨rfl, hb⟩
  by_cases hL60 : 60 < L
  · have h2 : (60 : Int) < (L : Int) := by omega
    clear hr hok hL
    go_enter Try.func3, Try.ntmps3
    go_wp2_with fail
    refine (CK.out _).mono ?_
    rintro e w' ⟨rfl, hb⟩
    go_wp2
    go_ret
    exact ⟨rfl, hb⟩
  by_cases h1 : n < 1
  · have h2 : ¬ ((60 : Int) < (L : Int)) := by omega
    have CN := Lib.hid (fun w => fenNew_bad n w (.inl h1))
    clear hr hok hL
    go_enter Try.func3, Try.ntmps3
    go_wp2_with fail
    refine (CN.out _).mono ?_
    rintro e w' ⟨rfl, hw⟩
    obtain rfl : _ = w' := hw.symm
    go_wp2_with fail
    refine (CK.out _).mono ?_
    rintro e w' ⟨rfl, hb⟩
    go_wp2
    go_ret
    exact ⟨rfl, hb⟩
  obtain ⟨k, rfl⟩ := Int.eq_ofNat_of_zero_le (show 0 ≤ n by omega)
  exact fenDoes_some k (by omega) (by omega) A L m ss w hr hok hL (by omega)
end Go.Proofs.Ytfjfjadlpnlmjaa
