/- slices.Clone of ints. General: no code of the project. -/
import Derived.Test.YtcilehndnbnmkaaInts
import Derived.Deep.DeepMust
namespace Go.Proofs.Ytcilehndnbnmkaa
open Go.RowKit Go.Sort

theorem run_eq_nilI {P : Program} (w : World) (t e : TypeId) (a : Option Addr) (n c : Nat) (h : P.underlying t = some (.slice e)) :
    (binOp .eql t (.slice a n c) (.slice none 0 0)).run P w = .ok (.bool a.isNone) w := by
  simp only [binOp]
  simp [Op.equal, Op.maxDepth, Lib.run_equalIn_slice_nil w 9999 t e a n c 0 0 h]

set_option maxHeartbeats 1000000 in
/-- A clone of numbers that are there. -/
theorem cloneI_any (a : Addr) (n c B : Nat) (l : List Int) (w : World) (hr : Rd w B (some a) (zvs l)) (hB : B ≤ w.heap.size) (hn : l.length = n) (hn1 : n ≤ 1000000000000) :
    Calls Try.prog 34 #[.slice (some a) n c] w fun e w' => ∃ v, e = .returned v ∧ w'.ownsRow w.heap.size 3 1 v n (zvs l) ∧ Below w.heap.size w w' := by
  obtain ⟨i0, hi, hz0, hz1, hz2⟩ := info_parts info_int12
  have hcl : (zvs l).length = n * 1 := by rw [zvs_length, hn, Nat.mul_one]
  have HCL := Lib.hid hcl
  have HN := Lib.hid hn
  have HBB := Lib.hid hB
  clear hcl hn hB
  have heq : (binOp .eql 41 (.slice (some a) n c) (.slice none 0 0)).run Try.prog w = .ok (.bool false) w := run_eq_nilI w _ _ (some a) n c Try.underlying41
  go_enter Try.func34, Try.ntmps34
  go_wp2_with (at_builtin; go_must (refine wpList_app rfl (.tmp 5) (.tmp 6) 41 rfl w.heap.size 3 i0 (.int .i64 0) 1 8 Try.underlying41 hi hz0 hz1 hz2 rfl (by decide) _ 0 [] rfl (World.ownsRow_made w #[] 0 (Nat.le_refl _) (Nat.zero_le _) rfl) w.heap.size _ n _ (zvs l) rfl ((hr.more HBB.out).alloc (Nat.le_refl _) _) HCL.out (zvs_one _) (by simp only [maxLen]; omega) (by omega) (by simp) ?_; intro v2 w2 hown2 hg2; rw [Nat.zero_add, List.nil_append] at hown2; have hb2 : Below w.heap.size w w2 := ((Below.refl _ _).alloc (Nat.le_refl _) _).grown hg2 (by simp) (own_block (World.ownsRow_made (e := 3) (size := 1) w #[] 0 (Nat.le_refl _) (Nat.zero_le _) rfl))))
  go_ret
  exact ⟨_, rfl, hown2, hb2⟩
end Go.Proofs.Ytcilehndnbnmkaa
