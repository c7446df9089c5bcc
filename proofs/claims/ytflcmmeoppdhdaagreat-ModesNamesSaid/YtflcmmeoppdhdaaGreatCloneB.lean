/- slices.Clone and bytes.Clone of bytes. General: no code of the project. -/
import Derived.Test.YtflcmmeoppdhdaaGreatProg
import Derived.Test.YtflcmmeoppdhdaaGreatBase
import Derived.Deep.DeepMust
namespace Go.Proofs.YtflcmmeoppdhdaaGreat
open Go.RowKit

theorem info_u8' : (Tryz.prog.info? 5).map (fun i => (i.zero, i.size, i.bytes)) = some (some (.int .u8 0), 1, 1) := by kernel_rfl
/-- What hands back the bytes l in new memory. -/
def NewBy (w : World) (l : List UInt8) (e : Ending) (w' : World) : Prop :=
  ∃ v, e = .returned v ∧ w'.ownsRow w.heap.size 5 1 v l.length (bvs l) ∧ Below w.heap.size w w'

theorem run_eq_nil {P : Program} (w : World) (t e : TypeId) (a : Option Addr) (n c : Nat) (h : P.underlying t = some (.slice e)) :
    (binOp .eql t (.slice a n c) (.slice none 0 0)).run P w = .ok (.bool a.isNone) w := by
  simp only [binOp]
  simp [Op.equal, Op.maxDepth, Lib.run_equalIn_slice_nil w 9999 t e a n c 0 0 h]

set_option maxHeartbeats 1000000 in
theorem clone_all (A : Option Addr) (n c : Nat) (l : List UInt8) (w : World) (hr : Rd w w.heap.size A (bvs l)) (hn : l.length = n) (hn1 : n ≤ 140737488355000) :
    Calls Tryz.prog 164 #[.slice A n c] w (NewBy w l) := by
  cases A with
  | none =>
    have hl : l = [] := by
      cases l with
      | nil => rfl
      | cons a r => obtain ⟨_, _, e, _⟩ := hr 0 _ (bvs_get (a :: r) 0 (by simp)); cases e
    subst hl
    obtain rfl : 0 = n := by simpa using hn
    have heq : (binOp .eql 22 (.slice none 0 c) (.slice none 0 0)).run Tryz.prog w = .ok (.bool true) w := run_eq_nil w _ _ none 0 c Tryz.underlying22
    go_enter Tryz.func164, Tryz.ntmps164
    go_wp2
    go_ret
    exact ⟨_, rfl, World.ownsRow_nil _ _ _ _, Below.refl _ _⟩
  | some a =>
    obtain ⟨i0, hi, hz0, hz1, hz2⟩ := info_parts info_u8'
    have hcl : (bvs l).length = n * 1 := by rw [bvs_length, hn, Nat.mul_one]
    have HCL := Lib.hid hcl
    have HN := Lib.hid hn
    clear hcl hn
    have heq : (binOp .eql 22 (.slice (some a) n c) (.slice none 0 0)).run Tryz.prog w = .ok (.bool false) w := run_eq_nil w _ _ (some a) n c Tryz.underlying22
    go_enter Tryz.func164, Tryz.ntmps164
    go_wp2_with (at_builtin; go_must (refine wpList_app rfl (.tmp 5) (.tmp 6) 22 rfl w.heap.size 5 i0 (.int .u8 0) 1 1 Tryz.underlying22 hi hz0 hz1 hz2 rfl (by decide) _ 0 [] rfl (World.ownsRow_made w #[] 0 (Nat.le_refl _) (Nat.zero_le _) rfl) w.heap.size _ n _ (bvs l) rfl (hr.alloc (Nat.le_refl _) _) HCL.out (bvs_one _) (by simp only [maxLen]; omega) (by omega) (by simp) ?_; intro v2 w2 hown2 hg2; rw [Nat.zero_add, List.nil_append] at hown2; have hb2 : Below w.heap.size w w2 := ((Below.refl _ _).alloc (Nat.le_refl _) _).grown hg2 (by simp) (own_block (World.ownsRow_made (e := 5) (size := 1) w #[] 0 (Nat.le_refl _) (Nat.zero_le _) rfl))))
    go_ret
    exact ⟨_, rfl, by rw [HN.out]; exact hown2, hb2⟩
theorem clone_any (A : Option Addr) (n c : Nat) (l : List UInt8) (w : World) (hr : Rd w w.heap.size A (bvs l)) (hn : l.length = n) (hn1 : n ≤ 140737488355000) (_ : A = none → c = 0) :
    Calls Tryz.prog 164 #[.slice A n c] w (NewBy w l) := clone_all A n c l w hr hn hn1
set_option maxHeartbeats 1000000 in
/-- bytes.Clone has the same text. -/
theorem bcloneB_any (A : Option Addr) (n c : Nat) (l : List UInt8) (w : World) (hr : Rd w w.heap.size A (bvs l)) (hn : l.length = n) (hn1 : n ≤ 140737488355000) :
    Calls Tryz.prog 274 #[.slice A n c] w (NewBy w l) := by
  cases A with
  | none =>
    have hl : l = [] := by
      cases l with
      | nil => rfl
      | cons a r => obtain ⟨_, _, e, _⟩ := hr 0 _ (bvs_get (a :: r) 0 (by simp)); cases e
    subst hl
    obtain rfl : 0 = n := by simpa using hn
    have heq : (binOp .eql 22 (.slice none 0 c) (.slice none 0 0)).run Tryz.prog w = .ok (.bool true) w := run_eq_nil w _ _ none 0 c Tryz.underlying22
    go_enter Tryz.func274, Tryz.ntmps274
    go_wp2
    go_ret
    exact ⟨_, rfl, World.ownsRow_nil _ _ _ _, Below.refl _ _⟩
  | some a =>
    obtain ⟨i0, hi, hz0, hz1, hz2⟩ := info_parts info_u8'
    have hcl : (bvs l).length = n * 1 := by rw [bvs_length, hn, Nat.mul_one]
    have HCL := Lib.hid hcl
    have HN := Lib.hid hn
    clear hcl hn
    have heq : (binOp .eql 22 (.slice (some a) n c) (.slice none 0 0)).run Tryz.prog w = .ok (.bool false) w := run_eq_nil w _ _ (some a) n c Tryz.underlying22
    go_enter Tryz.func274, Tryz.ntmps274
    go_wp2_with (at_builtin; go_must (refine wpList_app rfl (.tmp 5) (.tmp 6) 22 rfl w.heap.size 5 i0 (.int .u8 0) 1 1 Tryz.underlying22 hi hz0 hz1 hz2 rfl (by decide) _ 0 [] rfl (World.ownsRow_made w #[] 0 (Nat.le_refl _) (Nat.zero_le _) rfl) w.heap.size _ n _ (bvs l) rfl (hr.alloc (Nat.le_refl _) _) HCL.out (bvs_one _) (by simp only [maxLen]; omega) (by omega) (by simp) ?_; intro v2 w2 hown2 hg2; rw [Nat.zero_add, List.nil_append] at hown2; have hb2 : Below w.heap.size w w2 := ((Below.refl _ _).alloc (Nat.le_refl _) _).grown hg2 (by simp) (own_block (World.ownsRow_made (e := 5) (size := 1) w #[] 0 (Nat.le_refl _) (Nat.zero_le _) rfl))))
    go_ret
    exact ⟨_, rfl, by rw [HN.out]; exact hown2, hb2⟩
end Go.Proofs.YtflcmmeoppdhdaaGreat
