/-
  Plain mathematics of layer 4: the words of bytes, and what is left behind them. · slices.Clone and bytes.Clone of bytes. General: no code of the project.
-/
import Derived.Test.YtflcmmeoppdhdaaGreatR02
import Derived.Test.YtflcmmeoppdhdaaGreatR04
import Derived.Test.YtflcmmeoppdhdaaGreatProg
import Derived.Deep.DeepMust
namespace Go.Proofs.YtflcmmeoppdhdaaGreat

/-- The words of bytes, and what is left behind them. -/
def wordsOf (W : Nat) (l : List UInt8) : List Nat := wordsN (l.length / W) W l
def restOf (W : Nat) (l : List UInt8) : List UInt8 := l.drop (l.length / W * W)
theorem wordsOf_len (W : Nat) (l : List UInt8) : (wordsOf W l).length = l.length / W := wordsN_len _ _ _
theorem restOf_len (W : Nat) (l : List UInt8) : (restOf W l).length = l.length - l.length / W * W := by simp [restOf]
theorem words_of_lay {W : Nat} (hW : 0 < W) (ws : List Nat) (rest : List UInt8) (hr : rest.length < W) :
    wordsOf W (layW W ws ++ rest) = ws.map (· % 256 ^ W) ∧ restOf W (layW W ws ++ rest) = rest := by
  have hd : (layW W ws ++ rest).length / W = ws.length := by
    rw [List.length_append, layW_len, Nat.add_comm, Nat.add_mul_div_right _ _ hW, Nat.div_eq_of_lt hr, Nat.zero_add]
  unfold wordsOf restOf
  rw [hd]
  refine ⟨words_layW W ws rest, ?_⟩
  rw [List.drop_left' (layW_len W ws)]
theorem rest_lt {W : Nat} (hW : 0 < W) (l : List UInt8) : (restOf W l).length < W := by
  rw [restOf_len]
  have h1 := Nat.div_add_mod l.length W
  have h2 := Nat.mod_lt l.length hW
  rw [Nat.mul_comm] at h1
  omega
theorem lay_words {W : Nat} (l : List UInt8) : layW W (wordsOf W l) ++ restOf W l = l := by
  unfold wordsOf restOf
  rw [layW_words _ _ _ (Nat.div_mul_le_self _ _), List.take_append_drop]
theorem wordsOf_lt {W : Nat} (hW : 0 < W) (l : List UInt8) : ∀ x ∈ wordsOf W l, x < 256 ^ W := by
  have h := words_of_lay hW (wordsOf W l) (restOf W l) (rest_lt hW l)
  rw [lay_words] at h
  intro x hx
  rw [h.1] at hx
  obtain ⟨y, _, rfl⟩ := List.mem_map.1 hx
  exact Nat.mod_lt _ (Nat.pow_pos (by decide))
end Go.Proofs.YtflcmmeoppdhdaaGreat
namespace Go.Proofs.YtflcmmeoppdhdaaGreat
open Go.RowKit

theorem info_u8' : (Tryz.prog.info? 5).map (fun i => (i.zero, i.size, i.bytes)) = some (some (.int .u8 0), 1, 1) := by kernel_rfl
/-- What hands back the bytes l in new memory. -/
def NewBy (w : World) (l : List UInt8) (e : Ending) (w' : World) : Prop :=
  ∃ v, e = .returned v ∧ w'.ownsRow w.heap.size 5 1 v l.length (bvs l) ∧ Below w.heap.size w w'

theorem run_eq_nil {P : Program} (w : World) (t e : TypeId) (a : Option Addr) (n c : Nat) (h : P.underlying t = some (.slice e)) :
    (binOp .eql t (.slice a n c) (.slice none 0 0)).run P w = .ok (.bool a.isNone) w := by
  simp only [binOp]
  simp [Op.equal, Op.maxDepth, Lib.run_equalIn_slice_nil w 9999 t e a n c 0 0 h]

set_option maxHeartbeats 1000000 in
theorem clone_all (A : Option Addr) (n c : Nat) (l : List UInt8) (w : World) (hr : Rd w w.heap.size A (bvs l)) (hn : l.length = n) (hn1 : n ≤ 140737488355000) :
    Calls Tryz.prog 164 #[.slice A n c] w (NewBy w l) := by
  cases A with
  | none =>
    have hl : l = [] := by
      cases l with
      | nil => rfl
      | cons a r => obtain ⟨_, _, e, _⟩ := hr 0 _ (bvs_get (a :: r) 0 (by simp)); cases e
    subst hl
    obtain rfl : 0 = n := by simpa using hn
    have heq : (binOp .eql 22 (.slice none 0 c) (.slice none 0 0)).run Tryz.prog w = .ok (.bool true) w := run_eq_nil w _ _ none 0 c Tryz.underlying22
    go_enter Tryz.func164, Tryz.ntmps164
    go_wp2
    go_ret
    exact ⟨_, rfl, World.ownsRow_nil _ _ _ _, Below.refl _ _⟩
  | some a =>
    obtain ⟨i0, hi, hz0, hz1, hz2⟩ := info_parts info_u8'
    have hcl : (bvs l).length = n * 1 := by rw [bvs_length, hn, Nat.mul_one]
    have HCL := Lib.hid hcl
    have HN := Lib.hid hn
    clear hcl hn
    have heq : (binOp .eql 22 (.slice (some a) n c) (.slice none 0 0)).run Tryz.prog w = .ok (.bool false) w := run_eq_nil w _ _ (some a) n c Tryz.underlying22
    go_enter Tryz.func164, Tryz.ntmps164
    go_wp2_with (at_builtin; go_must (refine wpList_app rfl (.tmp 5) (.tmp 6) 22 rfl w.heap.size 5 i0 (.int .u8 0) 1 1 Tryz.underlying22 hi hz0 hz1 hz2 rfl (by decide) _ 0 [] rfl (World.ownsRow_made w #[] 0 (Nat.le_refl _) (Nat.zero_le _) rfl) w.heap.size _ n _ (bvs l) rfl (hr.alloc (Nat.le_refl _) _) HCL.out (bvs_one _) (by simp only [maxLen]; omega) (by omega) (by simp) ?_; intro v2 w2 hown2 hg2; rw [Nat.zero_add, List.nil_append] at hown2; have hb2 : Below w.heap.size w w2 := ((Below.refl _ _).alloc (Nat.le_refl _) _).grown hg2 (by simp) (own_block (World.ownsRow_made (e := 5) (size := 1) w #[] 0 (Nat.le_refl _) (Nat.zero_le _) rfl))))
    go_ret
    exact ⟨_, rfl, by rw [HN.out]; exact hown2, hb2⟩
theorem clone_any (A : Option Addr) (n c : Nat) (l : List UInt8) (w : World) (hr : Rd w w.heap.size A (bvs l)) (hn : l.length = n) (hn1 : n ≤ 140737488355000) (_ : A = none → c = 0) :
    Calls Tryz.prog 164 #[.slice A n c] w (NewBy w l) := clone_all A n c l w hr hn hn1
set_option maxHeartbeats 1000000 in
/-- bytes.Clone has the same text. -/
theorem bcloneB_any (A : Option Addr) (n c : Nat) (l : List UInt8) (w : World) (hr : Rd w w.heap.size A (bvs l)) (hn : l.length = n) (hn1 : n ≤ 140737488355000) :
    Calls Tryz.prog 274 #[.slice A n c] w (NewBy w l) := by
  cases A with
  | none =>
    have hl : l = [] := by
      cases l with
      | nil => rfl
      | cons a r => obtain ⟨_, _, e, _⟩ := hr 0 _ (bvs_get (a :: r) 0 (by simp)); cases e
    subst hl
    obtain rfl : 0 = n := by simpa using hn
    have heq : (binOp .eql 22 (.slice none 0 c) (.slice none 0 0)).run Tryz.prog w = .ok (.bool true) w := run_eq_nil w _ _ none 0 c Tryz.underlying22
    go_enter Tryz.func274, Tryz.ntmps274
    go_wp2
    go_ret
    exact ⟨_, rfl, World.ownsRow_nil _ _ _ _, Below.refl _ _⟩
  | some a =>
    obtain ⟨i0, hi, hz0, hz1, hz2⟩ := info_parts info_u8'
    have hcl : (bvs l).length = n * 1 := by rw [bvs_length, hn, Nat.mul_one]
    have HCL := Lib.hid hcl
    have HN := Lib.hid hn
    clear hcl hn
    have heq : (binOp .eql 22 (.slice (some a) n c) (.slice none 0 0)).run Tryz.prog w = .ok (.bool false) w := run_eq_nil w _ _ (some a) n c Tryz.underlying22
    go_enter Tryz.func274, Tryz.ntmps274
    go_wp2_with (at_builtin; go_must (refine wpList_app rfl (.tmp 5) (.tmp 6) 22 rfl w.heap.size 5 i0 (.int .u8 0) 1 1 Tryz.underlying22 hi hz0 hz1 hz2 rfl (by decide) _ 0 [] rfl (World.ownsRow_made w #[] 0 (Nat.le_refl _) (Nat.zero_le _) rfl) w.heap.size _ n _ (bvs l) rfl (hr.alloc (Nat.le_refl _) _) HCL.out (bvs_one _) (by simp only [maxLen]; omega) (by omega) (by simp) ?_; intro v2 w2 hown2 hg2; rw [Nat.zero_add, List.nil_append] at hown2; have hb2 : Below w.heap.size w w2 := ((Below.refl _ _).alloc (Nat.le_refl _) _).grown hg2 (by simp) (own_block (World.ownsRow_made (e := 5) (size := 1) w #[] 0 (Nat.le_refl _) (Nat.zero_le _) rfl))))
    go_ret
    exact ⟨_, rfl, by rw [HN.out]; exact hown2, hb2⟩
end Go.Proofs.YtflcmmeoppdhdaaGreat
