/- Contracts of layer 7: a row that is gone through by a function that is ranged over. -/
import Derived.Test.YtcenbaajojdjlaaGreatDoorWordFn
import Derived.Test.YtcenbaajojdjlaaGreatDoorWordRows
import Derived.Deep.DeepMust
import Derived.RangeFuncBox
import Derived.RangeFuncLeaves
import Derived.RangeFuncNested
import Derived.Shelf.Abstract
import Derived.OwnWalkIn
import Derived.TacticsInMore
import Derived.LoopNIn
import Derived.LoopIn
import Derived.Maps.AppendAt
namespace Go.Proofs.YtcenbaajojdjlaaGreatDoor
open Go.RowKit Go.Shelf
attribute [local go_sem] Oper.semAt_some

/-- A word. -/
abbrev U64 := { x : Nat // x < 18446744073709551616 }
def vals (l : List U64) : List Nat := l.map (·.1)
def fitU (W : Nat) (ws : List Nat) : List U64 := ws.map fun x => ⟨x % 256 ^ W % 18446744073709551616, Nat.mod_lt _ (by decide)⟩
theorem fitU_len (W : Nat) (ws : List Nat) : (fitU W ws).length = ws.length := List.length_map ..
theorem mod_small {W : Nat} (hW : IsW W) (x : Nat) : x % 256 ^ W % 18446744073709551616 = x % 256 ^ W := by
  refine Nat.mod_eq_of_lt (Nat.lt_of_lt_of_le (Nat.mod_lt x (pow_pos' (W := W))) ?_)
  rcases isW_pow hW with e | e | e | e <;> rw [e] <;> decide
theorem vals_fit {W : Nat} (hW : IsW W) (ws : List Nat) : vals (fitU W ws) = ws.map (· % 256 ^ W) := by
  unfold vals fitU
  rw [List.map_map]
  exact List.map_congr_left fun x _ => mod_small hW x
theorem vals_snoc (l : List U64) (x : U64) : vals (l ++ [x]) = vals l ++ [x.1] := by simp [vals]
theorem vals_len (l : List U64) : (vals l).length = l.length := by simp [vals]
theorem vals_lt (l : List U64) : ∀ x ∈ vals l, x < 18446744073709551616 := by
  intro x hx
  obtain ⟨y, _, rfl⟩ := List.mem_map.1 hx
  exact y.2

/-- What a round that goes on keeps: what lay ahead of the call, and the mask. -/
def KeepsM (n₀ BM M : Nat) (W W' : World) : Prop := Below n₀ W W' ∧ (One W BM M → One W' BM M)
theorem KeepsM.trans {n₀ BM M : Nat} {X Y Z : World} (h : KeepsM n₀ BM M X Y) (k : KeepsM n₀ BM M Y Z) : KeepsM n₀ BM M X Z := ⟨h.1.trans k.1, fun x => k.2 (h.2 x)⟩
theorem KeepsM.put {n₀ BM M : Nat} {w : World} (hn : n₀ ≤ w.heap.size) (W : World) (l : Nat) (o o' : Obj) (hl : w.heap.size ≤ l) (h : W.heap[l]? = some o) (hc : o.isCells = false) (hw : o.isWalk = false) : KeepsM n₀ BM M W (W.putObj l o') :=
  ⟨belowK_b hn W l o o' hl h hc hw, fun hm => by
    refine (World.putObj_heap_other (fun e => ?_)).trans hm
    subst e
    rw [show W.heap[BM]? = _ from hm] at h
    cases h
    cases hc⟩

set_option maxRecDepth 100000 in
set_option maxHeartbeats 2000000 in
/-- **The closure of fitting**: for every body that keeps what lay below n₀, and the mask. -/
theorem fit1_in (n : Nat) (hn : 1 ≤ n) (l Bl BM n₀ W : Nat) (hW : IsW W) (A : Option Addr) (c : Nat) (ws : List Nat) (hb1 : ws.length ≤ 1000000000000) (hlt64 : ∀ x ∈ ws, x < 18446744073709551616) (J Jx : List U64 → World → Prop)
    (hY : ∀ pre (x : U64) Wd, J pre Wd → pre.length < ws.length → YieldAt Fence.wide (n - 1) Tryz.prog l #[.int .u64 (x.1 : Int)] Wd fun e W' =>
      (e = .returned (.bool true) ∧ J (pre ++ [x]) W' ∧ KeepsM n₀ BM (maskN (W : Int)) Wd W') ∨ (e = .returned (.bool false) ∧ Jx (pre ++ [x]) W'))
    (w : World) (hl : w.cell? ⟨Bl, 0, none⟩ = some (.slice A ws.length c)) (hm : One w BM (maskN (W : Int))) (hr : Rd w n₀ A (wvs ws)) (h0 : J [] w) :
    CallsIn Fence.wide n Tryz.prog 87 #[.func (.yield l) #[] #[], .pointer (some ⟨Bl, 0, none⟩), .pointer (some ⟨BM, 0, none⟩)] w fun e w' => (∃ v, e = .returned v) ∧
      ((∃ ys, ys = fitU W ws ∧ J ys w') ∨ (∃ pre, True ∧ Jx pre w')) := by
  obtain ⟨M, hM⟩ : ∃ M, M = maskN (W : Int) := ⟨_, rfl⟩
  have H64 := Lib.hid hlt64
  have HWW := Lib.hid hW
  have HM := Lib.hid hM
  rw [← hM] at hm hY
  clear hlt64 hW hM
  refine callsIn_of_wp Tryz.func87 rfl trivial ?_ rfl
  simp only [Tryz.ntmps87, List.size_toArray, List.length_cons, List.length_nil, Nat.reduceAdd, Nat.reduceSub, Array.replicate_succ, Array.replicate_zero, List.push_toArray, List.append_toArray, List.nil_append, List.cons_append]
  gi_wp2
  gi_loopw [8] (fun i wr => ∃ k : Nat, k ≤ ws.length ∧ i = .int .i64 k ∧ J ((fitU W ws).take k) wr ∧ KeepsM n₀ BM M w wr)
    (fun i _ => ws.length - (intOf i).toNat)
  case atStart => exact ⟨0, Nat.zero_le _, rfl, h0, Below.refl _ _, fun h => h⟩
  case round =>
    obtain ⟨k, hk, rfl, hJs, hnx⟩ := hrel
    by_cases hlt : k < ws.length
    · obtain ⟨ab, ao, rfl, hab, hcell0⟩ := hr k _ (wvs_get ws k hlt)
      have hcell := (hnx.1.cell (p := ⟨ab, ao + k, none⟩) hab).trans hcell0
      have hmc := (hnx.2 hm).cell
      have hv := H64.out _ (List.getElem_mem hlt)
      have hma := mask_and' W ws[k] HWW.out hv
      rw [← HM.out] at hma
      have hx : (fitU W ws)[k]'(by rw [fitU_len]; exact hlt) = ⟨ws[k] % 256 ^ W % 18446744073709551616, Nat.mod_lt _ (by decide)⟩ := by simp [fitU]
      have htake := List.take_append_getElem (l := fitU W ws) (i := k) (by rw [fitU_len]; exact hlt)
      obtain ⟨fn, tmps, assign, body, hy, hR⟩ := hY _ ((fitU W ws)[k]'(by rw [fitU_len]; exact hlt)) wr hJs (by rw [List.length_take, fitU_len]; omega)
      rw [htake] at hR
      rw [hx] at hy
      dsimp only at hy
      rw [mod_small HWW.out, ← hma] at hy
      have hk1 : (k : Int) < (ws.length : Int) := by omega
      clear hma hx htake hcell0 hJs
      gi_wp2
      refine hR.mono ?_
      rintro e W3 (⟨rfl, hJ3, hk3⟩ | ⟨rfl, hJx3⟩)
      · gi_wp2
        go_roundw
        case rel => exact ⟨k + 1, by omega, by go_num, hJ3, hnx.trans hk3⟩
        case measure => simp [intOf]; omega
      · gi_wp2
        refine bodyPost_ret (results_none rfl _ _ _) rfl ?_
        exact ⟨⟨_, rfl⟩, .inr ⟨_, trivial, hJx3⟩⟩
    · obtain rfl : k = ws.length := by omega
      rw [List.take_of_length_le (by rw [fitU_len]; exact Nat.le_refl _)] at hJs
      gi_wp2
      go_end0
      exact ⟨⟨_, rfl⟩, .inl ⟨_, rfl, hJs⟩⟩

/-- fitting hands back a value that gives all words of the row, cut, in order. -/
theorem fit_stops (n : Nat) (hn : 1 ≤ n) (Bl BM n₀ W : Nat) (hW : IsW W) (A : Option Addr) (c : Nat) (ws : List Nat) (hb1 : ws.length ≤ 1000000000000) (hlt64 : ∀ x ∈ ws, x < 18446744073709551616)
    (w : World) (hBl : Boxed w Bl 53 (.slice A ws.length c)) (hm : One w BM (maskN (W : Int))) (hn₀ : n₀ ≤ w.heap.size) (hr : Rd w n₀ A (wvs ws)) :
    SeqStopsK Fence.wide n Tryz.prog 87 #[.pointer (some ⟨Bl, 0, none⟩), .pointer (some ⟨BM, 0, none⟩)] (fun x : U64 => #[Value.int .u64 (x.1 : Int)]) (KeepsM n₀ BM (maskN (W : Int))) (fun ys => ys = fitU W ws) (fun _ => True) ws.length w :=
  fun l J Jx W' hW' _ _ hY h0 =>
    fit1_in n hn l Bl BM n₀ W hW A c ws hb1 hlt64 J Jx hY W' ((hW'.cell (p := ⟨Bl, 0, none⟩) hBl.lt).trans hBl.cell) (Blk.grow hm hW') (fun k u hu => by
      obtain ⟨b, off, rfl, hb, hc⟩ := hr k u hu
      exact ⟨b, off, rfl, hb, (hW'.cell (p := ⟨b, off + k, none⟩) (Nat.lt_of_lt_of_le hb hn₀)).trans hc⟩) h0

set_option maxHeartbeats 1000000 in
/-- fitting itself: two boxes, and a function value that captures them. -/
theorem fitting_any (W : Int) (A : Option Addr) (n c : Nat) (w : World) :
    Calls Tryz.prog 63 #[.slice A n c, .int .i64 W] w fun e w' => e = .returned (.func (.func 87) #[] #[.pointer (some ⟨w.heap.size, 0, none⟩), .pointer (some ⟨w.heap.size + 1, 0, none⟩)]) ∧
      Below w.heap.size w w' ∧ w'.heap.size = w.heap.size + 2 ∧ Boxed w' w.heap.size 53 (.slice A n c) ∧ One w' (w.heap.size + 1) (maskN W) := by
  have c2 := wordMask_any W
  have C2 := Lib.hid c2
  clear c2
  go_enter Tryz.func63, Tryz.ntmps63
  go_wp2_with (go_at_call 84; go_must (refine (C2.out _).mono ?_; rintro e w' ⟨rfl, rfl⟩))
  go_ret
  refine ⟨rfl, ((Below.refl _ _).alloc (Nat.le_refl _) _).alloc (by simp) _, by simp, (Boxed.new _ _ _).alloc _, ?_⟩
  have h := one_new (w.alloc (.cells #[.slice A n c] 53)) (maskN W)
  rwa [World.size_alloc] at h
end Go.Proofs.YtcenbaajojdjlaaGreatDoor
