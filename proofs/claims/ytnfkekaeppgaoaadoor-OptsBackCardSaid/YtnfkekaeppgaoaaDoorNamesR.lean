/- The modes' names, as the document says them: a row of strings; which mode has a name; the reference's Names (layer 27). -/
import Derived.Test.YtnfkekaeppgaoaaDoorProg
import Derived.Test.YtnfkekaeppgaoaaDoorBase
import Derived.Test.YtnfkekaeppgaoaaDoorInts
import Derived.Laws.Rows
import Derived.OwnWalk
namespace Go.Proofs.YtnfkekaeppgaoaaDoor
open Go.RowKit Go.Sort

/-- The name of mode k. -/
def nmA : Nat → ByteArray
  | 0 => ⟨#[115, 116, 111, 114, 101, 100]⟩
  | 1 => ⟨#[114, 105, 99, 101]⟩
  | 2 => ⟨#[114, 97, 110, 115]⟩
  | 3 => ⟨#[97, 100, 97, 112, 116]⟩
  | 4 => ⟨#[98, 108, 101, 110, 100]⟩
  | 5 => ⟨#[104, 117, 102, 102]⟩
  | _ => ⟨#[97, 117, 116, 111]⟩
theorem size_names : (Tryd.prog.info? 38).map (·.size) = some 7 := by kernel_rfl
def namesV : Value := .agg #[.string (nmA 0), .string (nmA 1), .string (nmA 2), .string (nmA 3), .string (nmA 4), .string (nmA 5), .string (nmA 6)]
def namesL : List Value := [.string (nmA 0), .string (nmA 1), .string (nmA 2), .string (nmA 3), .string (nmA 4), .string (nmA 5), .string (nmA 6)]
theorem names_at {k : Nat} (hk : k < 7) : namesL[k]? = some (.string (nmA k)) := by
  rcases (show k = 0 ∨ k = 1 ∨ k = 2 ∨ k = 3 ∨ k = 4 ∨ k = 5 ∨ k = 6 by omega) with rfl | rfl | rfl | rfl | rfl | rfl | rfl <;> rfl
set_option maxRecDepth 100000 in
set_option maxHeartbeats 1000000 in
theorem refNames_any (w : World) : Calls Tryd.prog 19 #[] w fun e w' => e = .returned namesV ∧ Below w.heap.size w w' := by
  go_enter Tryd.func19, Tryd.ntmps19
  go_wp2
  exact bodyPost_ret (v := namesV) (results_cell_row Tryd.results19 _ _ w.heap.size 38 _ (0, 0) _ rfl (heap_alloc_new w _) Tryd.underlying38 rfl size_names) rfl ⟨rfl, (Below.refl _ _).alloc (Nat.le_refl _) _⟩
/-- The names as a row in new memory. -/
theorem names_row (w : World) : Blk (w.alloc (.cells #[.string (nmA 0), .string (nmA 1), .string (nmA 2), .string (nmA 3), .string (nmA 4), .string (nmA 5), .string (nmA 6)] 38)) w.heap.size 38 namesL ∧ Below w.heap.size w (w.alloc (.cells #[.string (nmA 0), .string (nmA 1), .string (nmA 2), .string (nmA 3), .string (nmA 4), .string (nmA 5), .string (nmA 6)] 38)) :=
  ⟨heap_alloc_new w _, (Below.refl _ _).alloc (Nat.le_refl _) _⟩
/-- Of seven modes p has this name (7: none). -/
def NameAt (s : ByteArray) (p : Nat) : Prop := p ≤ 7 ∧ ∀ k, k < 7 → ((nmA k).toList == s.toList) = decide (k = p)
theorem nmA_apart : ∀ k, k < 7 → ∀ j, j < 7 → ((nmA k).data.toList == (nmA j).data.toList) = decide (k = j) := by decide
theorem nameAt_self {p : Nat} (hp : p < 7) : NameAt (nmA p) p := ⟨by omega, fun k hk => by rw [ByteArray.toList_eq, ByteArray.toList_eq]; exact nmA_apart k hk p hp⟩
theorem nameAt_some (s : ByteArray) : ∃ p, NameAt s p := by
  by_cases h : ∃ p, p < 7 ∧ (nmA p).toList = s.toList
  · obtain ⟨p, hp, he⟩ := h
    exact ⟨p, by omega, fun k hk => by rw [← he]; exact (nameAt_self hp).2 k hk⟩
  · refine ⟨7, by decide, fun k hk => ?_⟩
    rw [decide_eq_false (by omega), beq_eq_false_iff_ne]
    exact fun e => h ⟨k, hk, e⟩
end Go.Proofs.YtnfkekaeppgaoaaDoor
