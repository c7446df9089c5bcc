/- Contracts of layer 11: Back. -/
import Derived.Test.YtcenbaajojdjlaaDoorRecSeq
namespace Go.Proofs.YtcenbaajojdjlaaDoor
open Go.RowKit Go.Shelf
attribute [local go_sem] Oper.semAt_some

/-- A place, and the number of a step there. -/
abbrev StepX := { x : Nat × Nat // 1 ≤ x.2 ∧ x.2 ≤ 7 }
def encX (x : StepX) : Array Value := #[.int .i64 (x.1.1 : Int), .int .i64 (x.1.2 : Int)]
/-- What a round keeps: what lay ahead, and the box of the row. -/
def KeepsS (n₀ Bs : Nat) (v : Value) (W W' : World) : Prop := Below n₀ W W' ∧ (Blk W Bs 30 [v] → Blk W' Bs 30 [v])
theorem KeepsS.trans {n₀ Bs : Nat} {v : Value} {X Y Z : World} (h : KeepsS n₀ Bs v X Y) (k : KeepsS n₀ Bs v Y Z) : KeepsS n₀ Bs v X Z := ⟨h.1.trans k.1, fun x => k.2 (h.2 x)⟩
theorem KeepsS.put {n₀ Bs : Nat} {v : Value} {w : World} (hn : n₀ ≤ w.heap.size) (W : World) (l : Nat) (o o' : Obj) (hl : w.heap.size ≤ l) (h : W.heap[l]? = some o) (hc : o.isCells = false) (hw : o.isWalk = false) : KeepsS n₀ Bs v W (W.putObj l o') :=
  ⟨belowK_b hn W l o o' hl h hc hw, fun hm => by
    refine (World.putObj_heap_other (fun e => ?_)).trans hm
    subst e
    rw [show W.heap[Bs]? = _ from hm] at h
    cases h
    cases hc⟩
/-- The steps of a row, from its end on. -/
def Turned (R : List StepX) (L : List Nat) : Prop := R.length = L.length ∧ ∀ k (h : k < R.length), (R[k]).1.1 = R.length - 1 - k ∧ L[R.length - 1 - k]? = some (R[k]).1.2
set_option maxRecDepth 100000 in
set_option maxHeartbeats 2000000 in
/-- **The closure of slices.Backward**: for every body that keeps what lay below n₀, and the box. -/
theorem backward1_in (n : Nat) (hn : 1 ≤ n) (l Bs n₀ : Nat) (A : Option Addr) (c : Nat) (L : List Nat) (R : List StepX) (hR : Turned R L) (hb1 : R.length ≤ 1000) (J Jx : List StepX → World → Prop)
    (hY : ∀ pre (x : StepX) Wd, J pre Wd → pre.length < R.length → YieldAt Fence.wide (n - 1) Tryd.prog l (encX x) Wd fun e W' =>
      (e = .returned (.bool true) ∧ J (pre ++ [x]) W' ∧ KeepsS n₀ Bs (.slice A R.length c) Wd W') ∨ (e = .returned (.bool false) ∧ Jx (pre ++ [x]) W'))
    (w : World) (hl : Blk w Bs 30 [.slice A R.length c]) (hr : Rd w n₀ A (nvs L)) (h0 : J [] w) :
    CallsIn Fence.wide n Tryd.prog 33 #[.func (.yield l) #[] #[], .pointer (some ⟨Bs, 0, none⟩)] w fun e w' => (∃ v, e = .returned v) ∧
      ((∃ ys, ys = R ∧ J ys w') ∨ (∃ pre, pre <+: R ∧ Jx pre w')) := by
  have HR := Lib.hid hR
  have hc0 := hl.cell 0
  simp only [List.getElem?_cons_zero] at hc0
  clear hR
  refine callsIn_of_wp Tryd.func33 rfl trivial ?_ rfl
  simp only [Tryd.ntmps33, List.size_toArray, List.length_cons, List.length_nil, Nat.reduceAdd, Nat.reduceSub, Array.replicate_succ, Array.replicate_zero, List.push_toArray, List.append_toArray, List.nil_append, List.cons_append]
  gi_wp2
  clear hc0
  gi_loopw [3] (fun i wr => ∃ (k : Nat) (z : Int), k ≤ R.length ∧ z = (R.length : Int) - 1 - (k : Int) ∧ i = .int .i64 z ∧ J (R.take k) wr ∧ KeepsS n₀ Bs (.slice A R.length c) w wr)
    (fun i _ => (intOf i + 1).toNat)
  case atStart => exact ⟨0, _, Nat.zero_le _, by simp, rfl, h0, Below.refl _ _, fun h => h⟩
  case round =>
    obtain ⟨k, z, hk, hz, rfl, hJs, hnx⟩ := hrel
    by_cases hlt : k < R.length
    · obtain ⟨q, hq⟩ : ∃ q, q = R.length - 1 - k := ⟨_, rfl⟩
      have hzq : z = (q : Int) := by omega
      subst hzq
      have hql : q < R.length := by omega
      obtain ⟨hx1, hx2⟩ := HR.out.2 k hlt
      rw [← hq] at hx1 hx2
      obtain ⟨ab, ao, rfl, hab, hcell0⟩ := hr q _ (nvs_get L q _ hx2)
      have hcell := (hnx.1.cell (p := ⟨ab, ao + q, none⟩) hab).trans hcell0
      have hmc := (hnx.2 hl).cell 0
      simp only [List.getElem?_cons_zero] at hmc
      have htake := List.take_append_getElem (l := R) (i := k) hlt
      obtain ⟨fn, tmps, assign, body, hy, hRR⟩ := hY _ (R[k]) wr hJs (by rw [List.length_take]; omega)
      rw [htake] at hRR
      unfold encX at hy
      obtain ⟨s, hs⟩ : ∃ s, s = (R[k]).1.2 := ⟨_, rfl⟩
      rw [hx1, ← hs] at hy
      rw [← hs] at hcell
      have hqi : (q : Int) < (R.length : Int) := by omega
      have HT := Lib.hid htake
      have HQ := Lib.hid hq
      clear hx1 hx2 hcell0 hJs hs htake hz hq
      gi_wp2
      refine hRR.mono ?_
      rintro e W3 (⟨rfl, hJ3, hk3⟩ | ⟨rfl, hJx3⟩)
      · gi_wp2
        go_roundw
        case rel => exact ⟨k + 1, _, by omega, by have := HQ.out; omega, rfl, hJ3, hnx.trans hk3⟩
        case measure => simp [intOf]
      · gi_wp2
        refine bodyPost_ret (results_none rfl _ _ _) rfl ?_
        exact ⟨⟨_, rfl⟩, .inr ⟨_, List.take_prefix _ _, hJx3⟩⟩
    · obtain rfl : k = R.length := by omega
      have hz1 : z = -1 := by omega
      subst hz1
      rw [List.take_of_length_le (Nat.le_refl _)] at hJs
      clear hz
      gi_wp2
      go_end0
      exact ⟨⟨_, rfl⟩, .inl ⟨_, rfl, hJs⟩⟩
theorem backward_stops (n : Nat) (hn : 1 ≤ n) (Bs n₀ : Nat) (A : Option Addr) (c : Nat) (L : List Nat) (R : List StepX) (hR : Turned R L) (hb1 : R.length ≤ 1000)
    (w : World) (hl : Blk w Bs 30 [.slice A R.length c]) (hn₀ : n₀ ≤ w.heap.size) (hr : Rd w n₀ A (nvs L)) :
    SeqStopsK Fence.wide n Tryd.prog 33 #[.pointer (some ⟨Bs, 0, none⟩)] encX (KeepsS n₀ Bs (.slice A R.length c)) (fun ys => ys = R) (fun pre => pre <+: R) R.length w :=
  fun l J Jx W' hW' _ _ hY h0 =>
    backward1_in n hn l Bs n₀ A c L R hR hb1 J Jx hY W' (hl.grow hW') (fun k u hu => by
      obtain ⟨b, off, rfl, hb, hc⟩ := hr k u hu
      exact ⟨b, off, rfl, hb, (hW'.cell (p := ⟨b, off + k, none⟩) (Nat.lt_of_lt_of_le hb hn₀)).trans hc⟩) h0
/-- slices.Backward itself: a box, and a function value that captures it. -/
theorem backward_any (A : Option Addr) (n c : Nat) (w : World) :
    Calls Tryd.prog 13 #[.slice A n c] w fun e w' => e = .returned (.func (.func 33) #[] #[.pointer (some ⟨w.heap.size, 0, none⟩)]) ∧ Below w.heap.size w w' ∧ w'.heap.size = w.heap.size + 1 ∧ Blk w' w.heap.size 30 [.slice A n c] := by
  go_enter Tryd.func13, Tryd.ntmps13
  go_wp2
  go_ret
  exact ⟨rfl, (Below.refl _ _).alloc (Nat.le_refl _) _, by simp, heap_alloc_new w _⟩
/- the row of steps, from its end on -/
def turnAt (L : List Nat) (k : Nat) (h : ∀ s ∈ L, 1 ≤ s ∧ s ≤ 7) (hk : k < L.length) : StepX := ⟨(L.length - 1 - k, L[L.length - 1 - k]'(by omega)), h _ (List.getElem_mem _)⟩
theorem turned_of (L : List Nat) (h : ∀ s ∈ L, 1 ≤ s ∧ s ≤ 7) : ∃ R : List StepX, Turned R L ∧ R.map (·.1.2) = L.reverse := by
  refine ⟨(List.finRange L.length).map fun k => turnAt L k.val h k.isLt, ⟨by simp, fun k hk => ?_⟩, ?_⟩
  · simp only [List.length_map, List.length_finRange] at hk
    simp [turnAt]
  · apply List.ext_getElem
    · simp
    · intro i h1 h2
      simp [turnAt, List.getElem_reverse]
/-- Of a few bytes no more are told than so many. -/
theorem unpackL_few : ∀ (n : Nat) (l o : List UInt8), l.length ≤ n → unpackL l = some o → o.length ≤ 130 * l.length
  | 0, l, o, hl, h => by
    have : l = [] := List.length_eq_zero_iff.1 (by omega)
    subst this
    rw [unpackL_nil] at h
    injection h with h
    subst h
    simp
  | n + 1, l, o, hl, h => by
    cases l with
    | nil =>
      rw [unpackL_nil] at h
      injection h with h
      subst h
      simp
    | cons x t =>
      by_cases hz : sizeN x ≤ t.length + 1
      · rw [unpackL_step hz, Option.map_eq_some_iff] at h
        obtain ⟨o', ho, rfl⟩ := h
        have h1 := unpackL_few n _ o' (by rw [List.length_drop]; have := sizeN_pos x; simp only [List.length_cons] at hl ⊢; omega) ho
        have h2 := toldL_len hz
        have h3 := manyN_le x
        have h4 := sizeN_pos x
        rw [List.length_drop] at h1
        rw [List.length_append, h2]
        simp only [List.length_cons] at h1 ⊢
        omega
      · rw [unpackL_none (by omega)] at h
        cases h
/-- So many bytes, told to be so many raw ones, are few enough. -/
def Fits (raw len : Nat) : Prop := (raw ≤ 90000 ∧ len ≤ 90000) ∨ len ≤ 600
theorem undo_fits {W raw s : Nat} (hW : IsW W) (hs : 1 ≤ s ∧ s ≤ 7) {m x : List UInt8} (h : undoR W raw s m = some x) (hf : Fits raw m.length) : Fits raw x.length := by
  by_cases h5 : s ≤ 5
  · obtain ⟨y, hy, hl⟩ := undoR_keeps (W := W) (raw := raw) ⟨hs.1, h5⟩ m
    rw [hy] at h
    injection h with h
    subst h
    rw [hl]
    exact hf
  · have hx := undoR_raw (W := W) (by omega) h
    rcases Nat.lt_or_ge 90000 raw with hr | hr
    · exfalso
      have hm : m.length ≤ 600 := by rcases hf with ⟨h1, _⟩ | h1 <;> omega
      rcases (show s = 6 ∨ s = 7 by omega) with rfl | rfl
      · unfold undoR at h
        simp only [show ¬ (6 = 1) by decide, show ¬ (6 = 2) by decide, show ¬ (6 = 3) by decide, show ¬ (6 = 4) by decide, show ¬ (6 = 5) by decide, if_false, if_true] at h
        split at h
        · cases h
        · split at h
          · rename_i hz
            have h1 := gorR_some hz
            have h2 := gorR_few (W := W) (raw / W) (m.take (m.length - raw % W))
            have h3 : (m.take (m.length - raw % W)).length ≤ m.length := List.length_take_le' _ _
            have h4 : raw / W ≤ 4800 := by omega
            have h5 := Nat.div_add_mod raw W
            have h6 := Nat.mod_lt raw (show 0 < W by have := hW.pos; omega)
            have h7 : W * (raw / W) ≤ 8 * 4800 := Nat.mul_le_mul hW.pos.2 h4
            have := hW.pos
            omega
          · cases h
      · unfold undoR at h
        simp only [show ¬ (7 = 1) by decide, show ¬ (7 = 2) by decide, show ¬ (7 = 3) by decide, show ¬ (7 = 4) by decide, show ¬ (7 = 5) by decide, show ¬ (7 = 6) by decide, if_false, if_true] at h
        split at h
        · rename_i hz
          obtain ⟨h1, h2⟩ := runsR_some hz
          have h3 := unpackL_few _ m _ (Nat.le_refl _) h2
          omega
        · cases h
    · left
      omega
theorem backR_none {W raw : Nat} : ∀ {A B : List Nat} {m : List UInt8}, backR W raw A m = none → backR W raw (A ++ B) m = none
  | [], B, m, h => by cases h
  | a :: A, B, m, h => by
    simp only [List.cons_append, backR] at h ⊢
    cases hu : undoR W raw a m with
    | none => rfl
    | some k =>
      rw [hu] at h
      exact backR_none h
/-- What Back tells. -/
def backC (W n raw : Nat) (m : List UInt8) : Option (List UInt8) :=
  if keepB (stepsL n) = true ∧ m.length ≠ raw then none else backR W raw (stepsL n).reverse m
end Go.Proofs.YtcenbaajojdjlaaDoor
