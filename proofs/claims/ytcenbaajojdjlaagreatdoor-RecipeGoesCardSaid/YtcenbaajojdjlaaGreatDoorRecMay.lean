/- Contracts of layer 11: what may be asked, the steps of a recipe, new memory. -/
import Derived.Test.YtcenbaajojdjlaaGreatDoorRecStep
import Derived.Test.YtcenbaajojdjlaaGreatDoorGorUnp
namespace Go.Proofs.YtcenbaajojdjlaaGreatDoor
open Go.RowKit Go.Shelf

def sizedB (n : Int) : Bool := decide (0 ≤ n) && decide (n ≤ 16777216)
def mayB (W n raw : Int) : Bool := rightB W && decide (0 ≤ n) && decide (n < 11) && sizedB raw
def mostR (n : Int) : Int := if sizedB n = true then 3 * n + 64 else 0
theorem ret_bool {a b : Bool} (h : a = b) : Ending.returned (.bool a) = .returned (.bool b) := by rw [h]
set_option maxHeartbeats 1000000 in
theorem sized_any (n : Int) (w : World) : Calls Tryz.prog 18 #[.int .i64 n] w fun e w' => e = .returned (.bool (sizedB n)) ∧ w = w' := by
  by_cases h0 : 0 ≤ n
  · by_cases h1 : n ≤ 16777216
    · have hz : sizedB n = true := by simp [sizedB, h0, h1]
      rw [hz]
      clear hz
      go_enter Tryz.func18, Tryz.ntmps18
      go_wp2
      go_ret
      exact ⟨rfl, rfl⟩
    · have hz : sizedB n = false := by simp [sizedB, h1]
      rw [hz]
      clear hz
      go_enter Tryz.func18, Tryz.ntmps18
      go_wp2
      go_ret
      exact ⟨rfl, rfl⟩
  · have hz : sizedB n = false := by simp [sizedB, h0]
    rw [hz]
    clear hz
    go_enter Tryz.func18, Tryz.ntmps18
    go_wp2
    go_ret
    exact ⟨rfl, rfl⟩
set_option maxHeartbeats 1000000 in
theorem recMost_any (n : Int) (w : World) : Calls Tryz.prog 10 #[.int .i64 n] w fun e w' => e = .returned (.int .i64 (mostR n)) ∧ w = w' := by
  have C1 := Lib.hid (fun (w' : World) => sized_any n w')
  unfold mostR
  cases hz : sizedB n with
  | true =>
    rw [hz] at C1
    have h0 : 0 ≤ n ∧ n ≤ 16777216 := by simpa [sizedB] using hz
    obtain ⟨h0, h1⟩ := h0
    rw [if_pos rfl]
    clear hz
    go_enter Tryz.func10, Tryz.ntmps10
    go_wp2_with fail
    refine (C1.out _).mono ?_
    rintro e w' ⟨rfl, rfl⟩
    go_wp2
    go_ret
    exact ⟨ret_int (by omega), rfl⟩
  | false =>
    rw [hz] at C1
    rw [if_neg (by decide)]
    clear hz
    go_enter Tryz.func10, Tryz.ntmps10
    go_wp2_with fail
    refine (C1.out _).mono ?_
    rintro e w' ⟨rfl, rfl⟩
    go_wp2
    go_ret
    exact ⟨rfl, rfl⟩
set_option maxHeartbeats 1000000 in
set_option maxRecDepth 100000 in
theorem may_any (W n raw : Int) (w : World) : Calls Tryz.prog 13 #[.int .i64 W, .int .i64 n, .int .i64 raw] w fun e w' => e = .returned (.bool (mayB W n raw)) ∧ w = w' := by
  have C1 := Lib.hid (fun (w' : World) => wordRight_any W (rightB W) rfl w')
  have C2 := Lib.hid (fun (w' : World) => sized_any raw w')
  unfold mayB
  cases hR : rightB W with
  | false =>
    rw [hR] at C1
    clear hR C2
    go_enter Tryz.func13, Tryz.ntmps13
    go_wp2_with fail
    refine (C1.out _).mono ?_
    rintro e w' ⟨rfl, rfl⟩
    go_wp2
    go_ret
    exact ⟨rfl, rfl⟩
  | true =>
    rw [hR] at C1
    clear hR
    by_cases h0 : 0 ≤ n
    · by_cases h1 : n < 11
      · obtain ⟨z, hz⟩ : ∃ z, z = sizedB raw := ⟨_, rfl⟩
        rw [← hz] at C2 ⊢
        have hd : (true && decide (0 ≤ n) && decide (n < 11) && z) = z := by simp [h0, h1]
        rw [hd]
        clear hd hz
        go_enter Tryz.func13, Tryz.ntmps13
        go_wp2_with fail
        refine (C1.out _).mono ?_
        rintro e w' ⟨rfl, rfl⟩
        go_wp2_with fail
        refine (C2.out _).mono ?_
        rintro e w' ⟨rfl, rfl⟩
        go_wp2
        go_ret
        exact ⟨rfl, rfl⟩
      · have hd : (true && decide (0 ≤ n) && decide (n < 11) && sizedB raw) = false := by simp [h1]
        rw [hd]
        clear hd C2
        go_enter Tryz.func13, Tryz.ntmps13
        go_wp2_with fail
        refine (C1.out _).mono ?_
        rintro e w' ⟨rfl, rfl⟩
        go_wp2
        go_ret
        exact ⟨rfl, rfl⟩
    · have hd : (true && decide (0 ≤ n) && decide (n < 11) && sizedB raw) = false := by simp [h0]
      rw [hd]
      clear hd C2
      go_enter Tryz.func13, Tryz.ntmps13
      go_wp2_with fail
      refine (C1.out _).mono ?_
      rintro e w' ⟨rfl, rfl⟩
      go_wp2
      go_ret
      exact ⟨rfl, rfl⟩
/-- Numbers as cells. -/
def nvs (l : List Nat) : List Value := l.map fun (n : Nat) => Value.int .i64 (n : Int)
theorem nvs_length (l : List Nat) : (nvs l).length = l.length := by simp [nvs]
theorem nvs_get (l : List Nat) (k s : Nat) (h : l[k]? = some s) : (nvs l)[k]? = some (Value.int .i64 (s : Int)) := by simp [nvs, h]
def stepsI (n : Int) : List Nat := if 0 ≤ n ∧ n ≤ 10 then stepsL n.toNat else []
/-- One new block behind the other. -/
def allocAll (w : World) : List Obj → World
  | [] => w
  | o :: t => allocAll (w.alloc o) t
theorem allocAll_below : ∀ (os : List Obj) (w : World), Below w.heap.size w (allocAll w os)
  | [], w => Below.refl _ _
  | o :: t, w => ((Below.refl w.heap.size w).alloc (Nat.le_refl _) o).trans ((allocAll_below t (w.alloc o)).mono (by simp))
theorem allocAll_at : ∀ (os : List Obj) (w : World) (k : Nat) (o : Obj), os[k]? = some o → (allocAll w os).heap[w.heap.size + k]? = some o
  | [], _, _, _, h => by simp at h
  | x :: t, w, 0, o, h => by
    simp at h
    subst h
    exact ((allocAll_below t (w.alloc x)).block w.heap.size (by simp)).trans (heap_alloc_new w x)
  | x :: t, w, k + 1, o, h => by
    have := allocAll_at t (w.alloc x) k o (by simpa using h)
    rw [World.size_alloc] at this
    rw [show w.heap.size + (k + 1) = w.heap.size + 1 + k by omega]
    exact this
def i64c (n : Int) : Value := .int .i64 n
def stepsO (B : Nat) : List Obj :=
  [.cells #[] 3, .cells #[.int .i64 1, .int .i64 3] 3, .cells #[.int .i64 2, .int .i64 3] 3, .cells #[.int .i64 4] 3, .cells #[.int .i64 5] 3, .cells #[.int .i64 1, .int .i64 3, .int .i64 5] 3,
   .cells #[.int .i64 2, .int .i64 3, .int .i64 5] 3, .cells #[.int .i64 4, .int .i64 5] 3, .cells #[.int .i64 6] 3, .cells #[.int .i64 7] 3, .cells #[.int .i64 1, .int .i64 3, .int .i64 5, .int .i64 7] 3,
   .cells #[.slice (some ⟨B, 0, none⟩) 0 0, .slice (some ⟨B + 1, 0, none⟩) 2 2, .slice (some ⟨B + 2, 0, none⟩) 2 2, .slice (some ⟨B + 3, 0, none⟩) 1 1, .slice (some ⟨B + 4, 0, none⟩) 1 1, .slice (some ⟨B + 5, 0, none⟩) 3 3,
     .slice (some ⟨B + 6, 0, none⟩) 3 3, .slice (some ⟨B + 7, 0, none⟩) 2 2, .slice (some ⟨B + 8, 0, none⟩) 1 1, .slice (some ⟨B + 9, 0, none⟩) 1 1, .slice (some ⟨B + 10, 0, none⟩) 4 4] 42]
theorem steps_ok (w : World) (k m : Nat) (l : List Nat) (os : List Obj) (hm : l.length = m) (h : os[k]? = some (.cells (nvs l).toArray 3)) :
    ∃ v, Ending.returned (.slice (some ⟨w.heap.size + k, 0, none⟩) m m) = .returned v ∧ IsCells (nvs l) v (allocAll w os) ∧ Below w.heap.size w (allocAll w os) := by
  subst hm
  have hb : Blk (allocAll w os) (w.heap.size + k) 3 (nvs l) := allocAll_at os w k _ h
  exact ⟨_, rfl, ⟨_, l.length, by rw [nvs_length], by rw [nvs_length]; exact Nat.le_refl _, Rd.of_blk hb⟩, allocAll_below _ _⟩
set_option maxHeartbeats 4000000 in
set_option maxRecDepth 100000 in
theorem steps_any (n : Int) (w : World) : Calls Tryz.prog 8 #[.int .i64 n] w fun e w' => ∃ v, e = .returned v ∧ IsCells (nvs (stepsI n)) v w' ∧ Below w.heap.size w w' := by
  by_cases hin : 0 ≤ n ∧ n ≤ 10
  · rcases (show n = 0 ∨ n = 1 ∨ n = 2 ∨ n = 3 ∨ n = 4 ∨ n = 5 ∨ n = 6 ∨ n = 7 ∨ n = 8 ∨ n = 9 ∨ n = 10 by omega) with rfl | rfl | rfl | rfl | rfl | rfl | rfl | rfl | rfl | rfl | rfl
    · clear hin
      rw [show stepsI 0 = [] from rfl]
      go_enter Tryz.func8, Tryz.ntmps8
      go_wp2
      go_ret
      exact steps_ok w 0 0 [] (stepsO w.heap.size) rfl rfl
    · clear hin
      rw [show stepsI 1 = [1, 3] from rfl]
      go_enter Tryz.func8, Tryz.ntmps8
      go_wp2
      go_ret
      exact steps_ok w 1 2 [1, 3] (stepsO w.heap.size) rfl rfl
    · clear hin
      rw [show stepsI 2 = [2, 3] from rfl]
      go_enter Tryz.func8, Tryz.ntmps8
      go_wp2
      go_ret
      exact steps_ok w 2 2 [2, 3] (stepsO w.heap.size) rfl rfl
    · clear hin
      rw [show stepsI 3 = [4] from rfl]
      go_enter Tryz.func8, Tryz.ntmps8
      go_wp2
      go_ret
      exact steps_ok w 3 1 [4] (stepsO w.heap.size) rfl rfl
    · clear hin
      rw [show stepsI 4 = [5] from rfl]
      go_enter Tryz.func8, Tryz.ntmps8
      go_wp2
      go_ret
      exact steps_ok w 4 1 [5] (stepsO w.heap.size) rfl rfl
    · clear hin
      rw [show stepsI 5 = [1, 3, 5] from rfl]
      go_enter Tryz.func8, Tryz.ntmps8
      go_wp2
      go_ret
      exact steps_ok w 5 3 [1, 3, 5] (stepsO w.heap.size) rfl rfl
    · clear hin
      rw [show stepsI 6 = [2, 3, 5] from rfl]
      go_enter Tryz.func8, Tryz.ntmps8
      go_wp2
      go_ret
      exact steps_ok w 6 3 [2, 3, 5] (stepsO w.heap.size) rfl rfl
    · clear hin
      rw [show stepsI 7 = [4, 5] from rfl]
      go_enter Tryz.func8, Tryz.ntmps8
      go_wp2
      go_ret
      exact steps_ok w 7 2 [4, 5] (stepsO w.heap.size) rfl rfl
    · clear hin
      rw [show stepsI 8 = [6] from rfl]
      go_enter Tryz.func8, Tryz.ntmps8
      go_wp2
      go_ret
      exact steps_ok w 8 1 [6] (stepsO w.heap.size) rfl rfl
    · clear hin
      rw [show stepsI 9 = [7] from rfl]
      go_enter Tryz.func8, Tryz.ntmps8
      go_wp2
      go_ret
      exact steps_ok w 9 1 [7] (stepsO w.heap.size) rfl rfl
    · clear hin
      rw [show stepsI 10 = [1, 3, 5, 7] from rfl]
      go_enter Tryz.func8, Tryz.ntmps8
      go_wp2
      go_ret
      exact steps_ok w 10 4 [1, 3, 5, 7] (stepsO w.heap.size) rfl rfl
  · have hz : stepsI n = [] := if_neg hin
    rw [hz]
    by_cases h0 : n < 0
    · clear hin hz
      go_enter Tryz.func8, Tryz.ntmps8
      go_wp2
      go_ret
      exact ⟨_, rfl, ⟨none, 0, rfl, Nat.le_refl _, Rd.nil_ _ _ _⟩, allocAll_below (stepsO w.heap.size) w⟩
    · have h1 : 11 ≤ n := by omega
      clear hin hz
      go_enter Tryz.func8, Tryz.ntmps8
      go_wp2
      go_ret
      exact ⟨_, rfl, ⟨none, 0, rfl, Nat.le_refl _, Rd.nil_ _ _ _⟩, allocAll_below (stepsO w.heap.size) w⟩
/-- bytes.Clone: new memory, none of none. -/
theorem info_u8c : (Tryz.prog.info? 5).map (fun i => (i.zero, i.size, i.bytes)) = some (some (.int .u8 0), 1, 1) := by kernel_rfl
set_option maxHeartbeats 1000000 in
set_option maxRecDepth 100000 in
theorem bclone_any (l : List UInt8) (v : Value) (w : World) (hv : IsBytes l v w) (hl : l.length ≤ 90000) :
    Calls Tryz.prog 15 #[v] w fun e w' => ∃ v', e = .returned v' ∧ IsRow l v' w' ∧ Below w.heap.size w w' := by
  obtain ⟨i0, hi, hz0, hz1, hz2⟩ := info_parts info_u8c
  obtain ⟨A, c, rfl, hc, hr⟩ := hv
  cases A with
  | none =>
    have h0 : l = [] := by
      cases l with
      | nil => rfl
      | cons x t =>
        obtain ⟨_, _, e, _⟩ := hr 0 _ (bvs_get (x :: t) 0 (by simp))
        cases e
    subst h0
    have hen := run_eq_nil (P := Tryz.prog) w 22 5 none 0 c Tryz.underlying22
    clear hr
    go_enter Tryz.func15, Tryz.ntmps15
    go_wp2
    go_ret
    exact ⟨_, rfl, ⟨none, 0, rfl, Nat.le_refl _, Rd.nil_ _ _ _, fun _ => rfl⟩, Below.refl _ _⟩
  | some ad =>
    have hen := run_eq_nil (P := Tryz.prog) w 22 5 (some ad) l.length c Tryz.underlying22
    have HR := Lib.hid (hr.below ((Below.refl w.heap.size w).alloc (Nat.le_refl _) (.cells #[] 5)))
    have HNL := Lib.hid (show (bvs l).length = l.length * 1 by rw [bvs_length, Nat.mul_one])
    have hA1 : 0 + l.length ≤ maxLen := by simp only [maxLen]; omega
    have hA2 : (0 + l.length) * 1 ≤ 140737488355328 := by omega
    have HOW := Lib.hid (show (w.alloc (.cells #[] 5)).ownsRow w.heap.size 5 1 (.slice (some ⟨w.heap.size, 0, none⟩) 0 0) 0 [] from ⟨by simp, .inr ⟨w.heap.size, 0, #[], rfl, Nat.le_refl _, heap_alloc_new w _, Nat.le_refl _, Nat.zero_le _, rfl, rfl⟩⟩)
    clear hr
    go_enter Tryz.func15, Tryz.ntmps15
    go_wp2_with ((with_reducible show wpList _ _ _ (({ dst := some 7, op := _, type := _, pos := _, after := _, guard := _ } : Oper) :: _) _ _); go_must (refine wpList_app rfl (.tmp 5) (.tmp 6) 22 rfl w.heap.size 5 i0 (.int .u8 0) 1 1 Tryz.underlying22 hi hz0 hz1 hz2 rfl (by decide) _ _ _ rfl HOW.out w.heap.size (some ad) l.length c (bvs l) rfl HR.out HNL.out (bvs_one _) hA1 hA2 (by simp) ?_; intro v4 w4 hown4 hg4; have hb4 := ((Below.refl w.heap.size w).alloc (Nat.le_refl _) (.cells #[] 5)).grown hg4 (by simp) (own_block HOW.out); clear hg4))
    go_ret
    refine ⟨v4, rfl, IsRow.of_own (base := w.heap.size) (e := 5) ?_, hb4⟩
    rw [Nat.zero_add] at hown4
    exact hown4
end Go.Proofs.YtcenbaajojdjlaaGreatDoor
