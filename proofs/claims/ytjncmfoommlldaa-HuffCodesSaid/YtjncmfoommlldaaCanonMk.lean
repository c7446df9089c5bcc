/- Layer 21: the program's codes. -/
import Derived.Test.YtjncmfoommlldaaCanonFn
namespace Go.Proofs.Ytjncmfoommlldaa
open Go.RowKit Go.Sort Go.Shelf

/-- Codes at E: a row of codes, one a letter, and a map from codes to letters. -/
structure CAt (w : World) (E g M n : Nat) (cs : List Pr) (es : List (Pr × Nat)) : Prop where
  box : Blk w E 57 [.slice (some ⟨g, 0, none⟩) n n, .map (some M)]
  row : Blk w g 59 (pvs cs)
  len : cs.length = n
  map : MapC w M es
section
variable {w w' : World} {E g M n : Nat} {cs : List Pr} {es : List (Pr × Nat)}
theorem CAt.grow (h : CAt w E g M n cs es) (hb : Below w.heap.size w w') : CAt w' E g M n cs es := ⟨h.box.grow hb, h.row.grow hb, h.len, h.map.grow hb⟩
theorem CAt.same (h : CAt w E g M n cs es) (e : w'.heap = w.heap) : CAt w' E g M n cs es := ⟨h.box.same e, h.row.same e, h.len, h.map.same e⟩
theorem codesOf_nil (i : Int) (w : World) : Calls Try.prog 15 #[.pointer none, .int .i64 i] w fun e w' => e = .returned (.tuple #[.int .i64 0, .int .i64 0]) ∧ w' = w := by
  go_enter Try.func15, Try.ntmps15
  go_wp2
  go_ret2
  exact ⟨rfl, rfl⟩
theorem codesLetter_nil (x y : Int) (w : World) : Calls Try.prog 42 #[.pointer none, .int .i64 x, .int .i64 y] w fun e w' => e = .returned (.tuple #[.int .i64 0, .bool false]) ∧ w' = w := by
  go_enter Try.func42, Try.ntmps42
  go_wp2
  go_ret2
  exact ⟨rfl, rfl⟩
set_option maxHeartbeats 1000000 in
set_option maxRecDepth 100000 in
theorem codesOf_out (h : CAt w E g M n cs es) (i : Nat) (hi : n ≤ i) : Calls Try.prog 15 #[.pointer (some ⟨E, 0, none⟩), .int .i64 (i : Int)] w fun e w' => e = .returned (.tuple #[.int .i64 0, .int .i64 0]) ∧ w' = w := by
  have c0 := h.box.cell 0
  simp only [List.getElem?_cons_zero] at c0
  have hii : (n : Int) ≤ (i : Int) := by omega
  clear h
  go_enter Try.func15, Try.ntmps15
  go_wp2
  go_ret2
  exact ⟨rfl, rfl⟩
set_option maxHeartbeats 1000000 in
set_option maxRecDepth 100000 in
theorem codesOf_in (h : CAt w E g M n cs es) (i : Nat) (hi : i < n) : Calls Try.prog 15 #[.pointer (some ⟨E, 0, none⟩), .int .i64 (i : Int)] w fun e w' => e = .returned (.tuple #[.int .i64 ((pat cs i).1 : Int), .int .i64 ((pat cs i).2 : Int)]) ∧ ∃ q, w' = w.drewN q := by
  have c0 := h.box.cell 0
  simp only [List.getElem?_cons_zero] at c0
  have r0 := h.row.cell (i * 2)
  have r1 := h.row.cell (i * 2 + 1)
  rw [pvs_get0 _ _ (by rw [h.len]; exact hi)] at r0
  rw [pvs_get1 _ _ (by rw [h.len]; exact hi)] at r1
  have hii : (i : Int) < (n : Int) := by omega
  obtain ⟨x, hx⟩ : ∃ x, x = (pat cs i).1 := ⟨_, rfl⟩
  obtain ⟨y, hy⟩ : ∃ y, y = (pat cs i).2 := ⟨_, rfl⟩
  rw [← hx] at r0 ⊢
  rw [← hy] at r1 ⊢
  clear h hx hy
  go_enter Try.func15, Try.ntmps15
  go_wp2
  go_quiet (fail)
  go_wp2
  go_ret2
  exact ⟨rfl, _, rfl⟩
/-- What Letter tells. -/
def letV (o : Option (Nat × Value)) : Value := match o with
  | some r => .tuple #[r.2, .bool true]
  | none => .tuple #[.int .i64 0, .bool false]
set_option maxHeartbeats 1000000 in
set_option maxRecDepth 100000 in
theorem codesLetter (h : CAt w E g M n cs es) (x y : Int) : Calls Try.prog 42 #[.pointer (some ⟨E, 0, none⟩), .int .i64 x, .int .i64 y] w fun e w' => e = .returned (letV (findC x y es 0)) ∧ w' = w := by
  have c1 := h.box.cell 1
  simp only [List.getElem?_cons_succ, List.getElem?_cons_zero] at c1
  have hrun := run_cget w M es h.map x y
  unfold codeVI at hrun
  obtain ⟨o, ho⟩ : ∃ o, o = findC x y es 0 := ⟨_, rfl⟩
  rw [← ho] at hrun ⊢
  clear ho h
  cases o with
  | none =>
    simp only at hrun
    unfold letV
    go_enter Try.func42, Try.ntmps42
    go_wp2
    go_ret2
    exact ⟨rfl, rfl⟩
  | some r =>
    simp only at hrun
    unfold letV
    simp only
    go_enter Try.func42, Try.ntmps42
    go_wp2
    go_ret2
    exact ⟨rfl, rfl⟩
set_option maxHeartbeats 2000000 in
set_option maxRecDepth 100000 in
theorem codesGive (h : CAt w E g M n cs es) (hne : E ≠ g) (i : Nat) (hi : i < n) (k : Pr) (hk : ∀ p ∈ es, p.1 ≠ k) :
    Calls Try.prog 34 #[.pointer (some ⟨E, 0, none⟩), .int .i64 (i : Int), codeV k] w fun e w' => e = .returned (.tuple #[]) ∧ CAt w' E g M n (cs.set i k) (es ++ [(k, i)]) ∧ (w'.os = w.os ∧ w'.tape = w.tape ∧ w'.output = w.output ∧ w.heap.size ≤ w'.heap.size ∧ ∀ j, j < w.heap.size → j ≠ g → j ≠ M → w'.heap[j]? = w.heap[j]?) := by
  obtain ⟨a, b⟩ := k
  have c0 := h.box.cell 0
  have c1 := h.box.cell 1
  simp only [List.getElem?_cons_succ, List.getElem?_cons_zero] at c0 c1
  have r0 := h.row.cell (i * 2)
  have r1 := h.row.cell (i * 2 + 1)
  rw [pvs_get0 _ _ (by rw [h.len]; exact hi)] at r0
  rw [pvs_get1 _ _ (by rw [h.len]; exact hi)] at r1
  have f0 := h.row.frozen (i * 2)
  have f1 := h.row.frozen (i * 2 + 1)
  have hii : (i : Int) < (n : Int) := by omega
  have hE := h.box.lt
  have hg := h.row.lt
  have hM := h.map.lt
  have H := Lib.hid h
  obtain ⟨x, hx⟩ : ∃ x, x = (pat cs i).1 := ⟨_, rfl⟩
  obtain ⟨y, hy⟩ : ∃ y, y = (pat cs i).2 := ⟨_, rfl⟩
  rw [← hx] at r0
  rw [← hy] at r1
  have HK := Lib.hid hk
  clear h hx hy hk
  unfold codeV codeVI
  simp only
  go_enter Try.func34, Try.ntmps34
  go_wp2
  go_region
  have hMg : M ≠ g := fun e => by
    have h1 := H.out.map
    have h2 := H.out.row
    unfold MapC at h1; unfold Blk at h2
    rw [e] at h1; rw [h1] at h2; cases h2
  have hb1 : Blk ((((w.setCell ⟨g, i * 2, none⟩ (.int .i64 (a : Int))).setCell ⟨g, i * 2 + 1, none⟩ (.int .i64 (b : Int))).alloc (.cells #[.int .i64 (a : Int), .int .i64 (b : Int)] 59)).drew) E 57 [.slice (some ⟨g, 0, none⟩) n n, .map (some M)] := (((H.out.box.setOther _ _ hne).setOther _ _ hne).alloc_ _).drew_
  have hr1 : Blk ((((w.setCell ⟨g, i * 2, none⟩ (.int .i64 (a : Int))).setCell ⟨g, i * 2 + 1, none⟩ (.int .i64 (b : Int))).alloc (.cells #[.int .i64 (a : Int), .int .i64 (b : Int)] 59)).drew) g 59 (pvs (cs.set i (a, b))) := by
    rw [← pvs_set cs (a, b) i (by rw [H.out.len]; exact hi)]
    exact (((H.out.row.set_ _ _).set_ _ _).alloc_ _).drew_
  have hm1 : MapC ((((w.setCell ⟨g, i * 2, none⟩ (.int .i64 (a : Int))).setCell ⟨g, i * 2 + 1, none⟩ (.int .i64 (b : Int))).alloc (.cells #[.int .i64 (a : Int), .int .i64 (b : Int)] 59)).drew) M es := ((((H.out.map.set _ _ hMg).set _ _ hMg).grow ((Below.refl _ _).alloc (Nat.le_refl _) _))).same rfl
  have hx1 : Blk ((((w.setCell ⟨g, i * 2, none⟩ (.int .i64 (a : Int))).setCell ⟨g, i * 2 + 1, none⟩ (.int .i64 (b : Int))).alloc (.cells #[.int .i64 (a : Int), .int .i64 (b : Int)] 59)).drew) w.heap.size 59 [.int .i64 (a : Int), .int .i64 (b : Int)] := by
    have h := heap_alloc_new ((w.setCell ⟨g, i * 2, none⟩ (.int .i64 (a : Int))).setCell ⟨g, i * 2 + 1, none⟩ (.int .i64 (b : Int))) (.cells #[.int .i64 (a : Int), .int .i64 (b : Int)] 59)
    rw [show ((w.setCell ⟨g, i * 2, none⟩ (.int .i64 (a : Int))).setCell ⟨g, i * 2 + 1, none⟩ (.int .i64 (b : Int))).heap.size = w.heap.size by simp [World.setCell]] at h
    exact h
  have hfr : ∀ j, j < w.heap.size → j ≠ g → ((((w.setCell ⟨g, i * 2, none⟩ (.int .i64 (a : Int))).setCell ⟨g, i * 2 + 1, none⟩ (.int .i64 (b : Int))).alloc (.cells #[.int .i64 (a : Int), .int .i64 (b : Int)] 59)).drew).heap[j]? = w.heap[j]? := fun j hj hjg => by
    have h1 := ((Below.refl ((w.setCell ⟨g, i * 2, none⟩ (.int .i64 (a : Int))).setCell ⟨g, i * 2 + 1, none⟩ (.int .i64 (b : Int))).heap.size ((w.setCell ⟨g, i * 2, none⟩ (.int .i64 (a : Int))).setCell ⟨g, i * 2 + 1, none⟩ (.int .i64 (b : Int)))).alloc (Nat.le_refl _) (.cells #[.int .i64 (a : Int), .int .i64 (b : Int)] 59)).block j (by simpa [World.setCell] using hj)
    exact h1.trans ((Below.heap_setCell _ _ _ j hjg).trans (Below.heap_setCell _ _ _ j hjg))
  have hsz : w.heap.size ≤ ((((w.setCell ⟨g, i * 2, none⟩ (.int .i64 (a : Int))).setCell ⟨g, i * 2 + 1, none⟩ (.int .i64 (b : Int))).alloc (.cells #[.int .i64 (a : Int), .int .i64 (b : Int)] 59)).drew).heap.size := by simp [World.setCell]
  have HOS := Lib.hid (show (((((w.setCell ⟨g, i * 2, none⟩ (.int .i64 (a : Int))).setCell ⟨g, i * 2 + 1, none⟩ (.int .i64 (b : Int))).alloc (.cells #[.int .i64 (a : Int), .int .i64 (b : Int)] 59)).drew).os = w.os ∧ ((((w.setCell ⟨g, i * 2, none⟩ (.int .i64 (a : Int))).setCell ⟨g, i * 2 + 1, none⟩ (.int .i64 (b : Int))).alloc (.cells #[.int .i64 (a : Int), .int .i64 (b : Int)] 59)).drew).tape = w.tape ∧ ((((w.setCell ⟨g, i * 2, none⟩ (.int .i64 (a : Int))).setCell ⟨g, i * 2 + 1, none⟩ (.int .i64 (b : Int))).alloc (.cells #[.int .i64 (a : Int), .int .i64 (b : Int)] 59)).drew).output = w.output) from ⟨rfl, rfl, rfl⟩)
  have HFR := Lib.hid hfr
  clear r0 r1 f0 f1 c0 c1 hfr
  generalize ((((w.setCell ⟨g, i * 2, none⟩ (.int .i64 (a : Int))).setCell ⟨g, i * 2 + 1, none⟩ (.int .i64 (b : Int))).alloc (.cells #[.int .i64 (a : Int), .int .i64 (b : Int)] 59)).drew) = W1 at hb1 hr1 hm1 hx1 hsz HOS HFR ⊢
  obtain ⟨w2, hrun, hm2, hg2⟩ := run_cput W1.drew M es (hm1.same rfl) (a, b) i HK.out
  unfold codeV codeVI at hrun
  simp only at hrun
  have c1 := hb1.cell 1
  have x0 := hx1.cell 0
  have x1 := hx1.cell 1
  simp only [List.getElem?_cons_succ, List.getElem?_cons_zero] at c1 x0 x1
  have hEM : E ≠ M := fun e => by
    have h1 := H.out.map
    have h2 := H.out.box
    unfold MapC at h1; unfold Blk at h2
    rw [← e] at h1; rw [h1] at h2; cases h2
  have HEND := Lib.hid (show CAt w2 E g M n (cs.set i (a, b)) (es ++ [((a, b), i)]) ∧ (w2.os = w.os ∧ w2.tape = w.tape ∧ w2.output = w.output ∧ w.heap.size ≤ w2.heap.size ∧ ∀ j, j < w.heap.size → j ≠ g → j ≠ M → w2.heap[j]? = w.heap[j]?) from by
    refine ⟨⟨blk_row (hb1.drew_) hg2 (fun r e => by have e2 : M = r := Option.some.inj e; omega), blk_row (hr1.drew_) hg2 (fun r e => by have e2 : M = r := Option.some.inj e; omega), by rw [List.length_set]; exact H.out.len, hm2⟩, hg2.os.trans HOS.out.1, hg2.tape.trans HOS.out.2.1, hg2.output.trans HOS.out.2.2, Nat.le_trans hsz hg2.size, fun j hj h1 h2 => ?_⟩
    rw [hg2.block j (by exact Nat.lt_of_lt_of_le hj hsz) (fun e => h2 (Option.some.inj e.symm).symm)]
    exact HFR.out j hj h1)
  clear hb1 hr1 hm1 hx1 hm2 hg2 HOS
  go_wp2
  go_region
  go_end0
  exact ⟨rfl, HEND.out⟩
end
end Go.Proofs.Ytjncmfoommlldaa
