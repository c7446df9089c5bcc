/- leb.Get of what lies from a place on. -/
import Derived.Test.YtcjjlkfenlmmlaaLebGet
import Derived.Test.YtcjjlkfenlmmlaaInts
namespace Go.Proofs.Ytcjjlkfenlmmlaa
open Go.RowKit

theorem lget_ok {l : List UInt8} {k j e : Nat} (h : lget l = (k, j, e)) : k < 18446744073709551616 ∧ j ≤ l.length ∧ (e = 0 → 0 < j) := by
  rcases lget_told l with ⟨q, h1, h2, h3, -⟩ | h1 | h1
  · rw [h] at h1
    simp only [Prod.mk.injEq] at h1
    obtain ⟨rfl, rfl, rfl⟩ := h1
    exact ⟨h2, h3, fun _ => lput_pos _⟩
  · rw [h] at h1
    simp only [Prod.mk.injEq] at h1
    obtain ⟨rfl, rfl, rfl⟩ := h1
    exact ⟨by decide, Nat.zero_le _, fun h => by cases h⟩
  · rw [h] at h1
    simp only [Prod.mk.injEq] at h1
    obtain ⟨rfl, rfl, rfl⟩ := h1
    exact ⟨by decide, Nat.zero_le _, fun h => by cases h⟩
section
variable {w : World} {B : Nat} {A : Option Addr} {n m : Nat} {l : List UInt8}
theorem rd_from {at_ : Nat} (hr : Rd w B A (bvs l)) (hn : l.length = n) (hnm : n ≤ m) (hat : at_ ≤ n) : Rd w B (if m = at_ then A else Option.map (fun x => x.add at_) A) (bvs (l.drop at_)) := by
  by_cases h : m = at_
  · rw [List.drop_of_length_le (by omega)]; exact Rd.nil_ _ _ _
  · rw [if_neg h, ← bvs_drop]; exact hr.drop at_
theorem lebGet_from {at_ : Nat} {k j e : Nat} (hr : Rd w w.heap.size A (bvs l)) (hn : l.length = n) (hnm : n ≤ m) (hn1 : n ≤ 1000000) (hat : at_ ≤ n) (hg : lget (l.drop at_) = (k, j, e)) (W : World) (hW : W.heap = w.heap) :
    Calls Try.prog 36 #[.slice (if m = at_ then A else Option.map (fun x => x.add at_) A) (n - at_) (m - at_)] W fun e' w' => e' = .returned (.tuple #[.int .u64 k, .int .i64 j, .int .i64 e]) ∧ w' = W :=
  (lebGet_any _ _ _ (l.drop at_) W (rd_from (rd_same (by rw [hW]; exact hr) hW) hn hnm hat) (by rw [List.length_drop, hn]) (by omega) k j e hg).mono fun _ _ h => ⟨h.1, h.2.symm⟩
end
end Go.Proofs.Ytcjjlkfenlmmlaa
