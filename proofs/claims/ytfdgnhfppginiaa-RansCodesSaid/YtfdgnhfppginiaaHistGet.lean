/- Layer 16: Get: shares of bytes. -/
import Derived.Test.YtfdgnhfppginiaaHistPut
import Derived.Test.YtfdgnhfppginiaaLebGet
import Derived.Deep.QuietTactic
namespace Go.Proofs.Ytfdgnhfppginiaa
open Go.RowKit Go.Sort Go.Shelf

/-- A taker: the bytes, how many are taken, whether one was wrong. -/
def TakerAt (w : World) (T : Nat) (A : Option Addr) (n m : Nat) (at_ : Nat) (bad : Bool) : Prop :=
  Blk w T 110 [.slice A n m, .int .i64 (at_ : Int), .bool bad]
theorem lget_ok {l : List UInt8} {k j e : Nat} (h : lget l = (k, j, e)) : k < 18446744073709551616 ∧ j ≤ l.length ∧ (e = 0 → 0 < j) := by
  rcases lget_told l with ⟨q, h1, h2, h3, -⟩ | h1 | h1
  · rw [h] at h1
    simp only [Prod.mk.injEq] at h1
    obtain ⟨rfl, rfl, rfl⟩ := h1
    exact ⟨h2, h3, fun _ => lput_pos _⟩
  · rw [h] at h1
    simp only [Prod.mk.injEq] at h1
    obtain ⟨rfl, rfl, rfl⟩ := h1
    exact ⟨by decide, Nat.zero_le _, fun h => by cases h⟩
  · rw [h] at h1
    simp only [Prod.mk.injEq] at h1
    obtain ⟨rfl, rfl, rfl⟩ := h1
    exact ⟨by decide, Nat.zero_le _, fun h => by cases h⟩
section
variable {w : World} {B T : Nat} {A : Option Addr} {n m : Nat} {l : List UInt8}
theorem rd_from {at_ : Nat} (hr : Rd w B A (bvs l)) (hn : l.length = n) (hnm : n ≤ m) (hat : at_ ≤ n) : Rd w B (if m = at_ then A else Option.map (fun x => x.add at_) A) (bvs (l.drop at_)) := by
  by_cases h : m = at_
  · rw [List.drop_of_length_le (by omega)]; exact Rd.nil_ _ _ _
  · rw [if_neg h, ← bvs_drop]; exact hr.drop at_
theorem lebGet_from {at_ : Nat} {k j e : Nat} (hr : Rd w w.heap.size A (bvs l)) (hn : l.length = n) (hnm : n ≤ m) (hn1 : n ≤ 1000000) (hat : at_ ≤ n) (hg : lget (l.drop at_) = (k, j, e)) (W : World) (hW : W.heap = w.heap) :
    Calls Try.prog 97 #[.slice (if m = at_ then A else Option.map (fun x => x.add at_) A) (n - at_) (m - at_)] W fun e' w' => e' = .returned (.tuple #[.int .u64 k, .int .i64 j, .int .i64 e]) ∧ w' = W :=
  (lebGet_any _ _ _ (l.drop at_) W (rd_from (rd_same (by rw [hW]; exact hr) hW) hn hnm hat) (by rw [List.length_drop, hn]) (by omega) k j e hg).mono fun _ _ h => ⟨h.1, h.2.symm⟩
set_option maxHeartbeats 1000000 in
set_option maxRecDepth 100000 in
theorem histNext_ok {at_ k j below : Nat} {bad : Bool} (ht : TakerAt w T A n m at_ bad) (hr : Rd w w.heap.size A (bvs l)) (hn : l.length = n) (hnm : n ≤ m) (hn1 : n ≤ 1000000) (hat : at_ ≤ n) (hg : lget (l.drop at_) = (k, j, 0)) (hk : k < below) (hb : below ≤ 65536) :
    Calls Try.prog 79 #[.pointer (some ⟨T, 0, none⟩), .int .i64 (below : Int)] w fun e w' => e = .returned (.int .i64 (k : Int)) ∧ TakerAt w' T A n m (at_ + j) bad ∧ OnlyT T [110] w w' := by
  unfold TakerAt at ht ⊢
  have hjl := (lget_ok hg).2.1
  rw [List.length_drop] at hjl
  have hj1 : at_ + j ≤ 1000000 := by omega
  have hc0 := ht.cell 0
  have hc1 := ht.cell 1
  have hc2 := ht.cell 2
  have hf1 := ht.frozen 1
  simp only [List.getElem?_cons_zero, List.getElem?_cons_succ] at hc0 hc1 hc2
  have HT := Lib.hid ht
  have HR := Lib.hid hr
  have HN := Lib.hid hn
  have HG := Lib.hid hg
  have hati : (at_ : Int) ≤ (n : Int) := by omega
  have hmi : (n : Int) ≤ (m : Int) := by omega
  have C := Lib.hid (lebGet_from hr hn hnm hn1 hat hg)
  clear ht hr hn hg hjl
  go_enter Try.func79, Try.ntmps79
  go_wp2
  go_quiet ((go_at_call 97; exact quietOf C.out))
  go_wp2
  all_goals go_ret
  all_goals try subst_vars
  all_goals refine ⟨rfl, ?_, ((OnlyT.refl T [110] w).drewN nq).trans (OnlyT.set_ (HT.out.same (w' := w.drewN nq) rfl) (Nat.le_refl _) _ (by simp))⟩
  all_goals (have hs := (HT.out.same (w' := w.drewN nq) rfl).set_ 1 (.int .i64 ((at_ + j : Nat) : Int)); exact hs)
set_option maxHeartbeats 1000000 in
set_option maxRecDepth 100000 in
theorem histNext_bad {at_ k j e below : Nat} {bad : Bool} (ht : TakerAt w T A n m at_ bad) (hr : Rd w w.heap.size A (bvs l)) (hn : l.length = n) (hnm : n ≤ m) (hn1 : n ≤ 1000000) (hat : at_ ≤ n) (hg : lget (l.drop at_) = (k, j, e)) (hk : e ≠ 0 ∨ below ≤ k) (hb : below ≤ 65536) :
    Calls Try.prog 79 #[.pointer (some ⟨T, 0, none⟩), .int .i64 (below : Int)] w fun e w' => e = .returned (.int .i64 0) ∧ TakerAt w' T A n m at_ true ∧ OnlyT T [110] w w' := by
  unfold TakerAt at ht ⊢
  have hk64 := (lget_ok hg).1
  have hc0 := ht.cell 0
  have hc1 := ht.cell 1
  have hc2 := ht.cell 2
  have hf2 := ht.frozen 2
  simp only [List.getElem?_cons_zero, List.getElem?_cons_succ] at hc0 hc1 hc2
  have HT := Lib.hid ht
  have hati : (at_ : Int) ≤ (n : Int) := by omega
  have hmi : (n : Int) ≤ (m : Int) := by omega
  have C := Lib.hid (lebGet_from hr hn hnm hn1 hat hg)
  clear ht hr hn hg
  by_cases he : e = 0
  · subst he
    have hki : (below : Int) ≤ (k : Int) := by omega
    clear hk
    go_enter Try.func79, Try.ntmps79
    go_wp2
    go_quiet ((go_at_call 97; exact quietOf C.out))
    go_wp2
    all_goals go_ret
    all_goals try subst_vars
    all_goals exact ⟨rfl, (HT.out.same (w' := w.drewN nq) rfl).set_ 2 _, ((OnlyT.refl T [110] w).drewN nq).trans (OnlyT.set_ (HT.out.same (w' := w.drewN nq) rfl) (Nat.le_refl _) _ (by simp))⟩
  · have hei : ¬ ((e : Int) = 0) := by omega
    clear hk he
    go_enter Try.func79, Try.ntmps79
    go_wp2
    go_quiet ((go_at_call 97; exact quietOf C.out))
    go_wp2
    all_goals go_ret
    all_goals try subst_vars
    all_goals exact ⟨rfl, (HT.out.same (w' := w.drewN nq) rfl).set_ 2 _, ((OnlyT.refl T [110] w).drewN nq).trans (OnlyT.set_ (HT.out.same (w' := w.drewN nq) rfl) (Nat.le_refl _) _ (by simp))⟩
end
end Go.Proofs.Ytfdgnhfppginiaa
