/- Contracts of layer 4's reference: Same, Fit. -/
import Derived.Test.YtclhgjjehnmncaaDoorWordFn
import Derived.Test.YtclhgjjehnmncaaDoorWordRows
import Derived.StillTailTactics
import Derived.Deep.QuietTactic
import Derived.BigQuiet
namespace Go.Proofs.YtclhgjjehnmncaaDoor
open Go.RowKit

/-- What holds at the head of a round of Same: nothing was turned. -/
def SameRel (w : World) (n : Nat) (i : Value) (wr : World) : Prop := ∃ k q : Nat, k ≤ n ∧ i = .int .i64 k ∧ wr = w.drewN q

set_option maxHeartbeats 400000 in
theorem refSame_any (A : Option Addr) (n c : Nat) (A2 : Option Addr) (c2 : Nat) (ws : List Nat) (w : World) (hr : Rd w w.heap.size A (wvs ws)) (hr2 : Rd w w.heap.size A2 (wvs ws)) (hn : ws.length = n) (hb : n ≤ 100000) :
    Calls Tryd.prog 12 #[.slice A n c, .slice A2 n c2] w fun e w' => e = .returned (.bool true) ∧ Below w.heap.size w w' := by
  subst hn
  go_enter Tryd.func12, Tryd.ntmps12
  go_wp2
  go_loopw [5] (SameRel w ws.length) (fun i _ => ws.length - (intOf i).toNat)
  case atStart => exact ⟨0, 0, Nat.zero_le _, rfl, rfl⟩
  case round =>
    obtain ⟨k, q, hk, rfl, rfl⟩ := hrel
    by_cases hlt : k < ws.length
    · obtain ⟨ab, ao, rfl, _, hcell⟩ := hr k _ (wvs_get ws k hlt)
      obtain ⟨bb, bo, rfl, _, hcell2⟩ := hr2 k _ (wvs_get ws k hlt)
      have hk1 : (k : Int) < (ws.length : Int) := by omega
      go_wp2
      go_quiet (fail)
      go_wp2
      go_roundw
      case rel => exact ⟨k + 1, q + nq, by omega, by go_num, rfl⟩
      case measure => simp [intOf]; omega
    · obtain rfl : k = ws.length := by omega
      go_wp2
      go_ret
      exact ⟨rfl, below_drewN (Below.refl _ _) q⟩

/-- Words, each modulo what so many bytes hold. -/
def fitW (W : Nat) (ws : List Nat) : List Nat := ws.map (· % 256 ^ W)
theorem fitW_len (W : Nat) (ws : List Nat) : (fitW W ws).length = ws.length := by simp [fitW]
theorem fitW_snoc (W : Nat) (ws : List Nat) (k : Nat) (h : k < ws.length) : fitW W (ws.take (k + 1)) = fitW W (ws.take k) ++ [ws[k] % 256 ^ W] := by
  unfold fitW
  rw [List.take_succ_eq_append_getElem h, List.map_append]
  rfl
/-- What holds at the head of a round of Fit: the words ahead are laid. -/
def FitRel (w : World) (W r : Nat) (ws : List Nat) (i : Value) (wr : World) : Prop :=
  ∃ k : Nat, k ≤ ws.length ∧ i = .int .i64 k ∧ Blk wr r 34 (wrow (fitW W (ws.take k)) ws.length) ∧ Below w.heap.size w wr

set_option maxHeartbeats 1000000 in
set_option maxRecDepth 100000 in
theorem refFit_any (W : Nat) (hW : IsW W) (A : Option Addr) (n c : Nat) (ws : List Nat) (w : World) (hr : Rd w w.heap.size A (wvs ws)) (hn : ws.length = n) (hb1 : n ≤ 100000) (hlt64 : ∀ x ∈ ws, x < 18446744073709551616) :
    Calls Tryd.prog 13 #[.slice A n c, .int .i64 (W : Int)] w (NewW w (fitW W ws)) := by
  obtain ⟨i0, hi, hz0, hz1, hz2⟩ := info_parts info_u64r
  subst hn
  have H64 := Lib.hid hlt64
  clear hlt64
  have hW1 := hW.pos
  go_enter Tryd.func13, Tryd.ntmps13
  go_wp2_with (at_make; go_must (refine wpList_mk rfl (.tmp 8) (.tmp 8) 22 rfl w.heap.size 34 i0 (.int .u64 0) 8 Tryd.underlying22 hi hz0 rfl hz1 hz2 .i64 .i64 _ _ rfl rfl ws.length ws.length rfl rfl (Nat.le_refl _) (by omega) (by simp only [maxLen]; omega) (Nat.le_refl _) ?_; intro w1 hg1 hown1 hgr1; have hb : Below w.heap.size w w1 := (Below.refl _ _).grown hgr1 (Nat.le_refl _) (by simp); have hblk : Blk w1 w.heap.size 34 (wrow (fitW W (ws.take 0)) ws.length) := (by unfold Blk; rw [hg1]; simp [wrow, fitW, wvs]); clear hg1 hown1 hgr1))
  go_loopw [6] (FitRel w W w.heap.size ws) (fun i _ => ws.length - (intOf i).toNat)
  case atStart => exact ⟨0, Nat.zero_le _, rfl, hblk, hb⟩
  case round =>
    obtain ⟨k, hk, rfl, hblk, hb⟩ := hrel
    by_cases hlt : k < ws.length
    · obtain ⟨ab, ao, rfl, hab, hcell0⟩ := hr k _ (wvs_get ws k hlt)
      have hcell := (hb.cell (p := ⟨ab, ao + k, none⟩) hab).trans hcell0
      have hfl : (fitW W (ws.take k)).length = k := by rw [fitW_len, List.length_take]; omega
      have hcr := hblk.cell k
      have h0 := wrow_get (fitW W (ws.take k)) ws.length (by rw [hfl]; exact hlt)
      rw [hfl] at h0
      rw [h0] at hcr
      have hfr := hblk.frozen k
      have hset := hblk.set_ k (.int .u64 ((ws[k] % 256 ^ W : Nat) : Int))
      have h1 := wrow_set (fitW W (ws.take k)) ws.length (ws[k] % 256 ^ W) (by rw [hfl]; exact hlt)
      rw [hfl] at h1
      rw [h1, ← fitW_snoc W ws k hlt] at hset
      have hma := mask_and' W ws[k] hW (H64.out _ (List.getElem_mem _))
      obtain ⟨x, hx⟩ : ∃ x, x = ws[k] := ⟨_, rfl⟩
      rw [← hx] at hcell hset hma
      obtain ⟨y, hy⟩ : ∃ y, y = x % 256 ^ W := ⟨_, rfl⟩
      rw [← hy] at hset hma
      obtain ⟨M, hM⟩ : ∃ M, M = maskN (W : Int) := ⟨_, rfl⟩
      rw [← hM] at hma
      have c1 := fun W' => refMask_any (W : Int) W' (by omega)
      rw [← hM] at c1
      have C1 := Lib.hid c1
      have HSET := Lib.hid hset
      have HMA := Lib.hid hma
      have hk1 : (k : Int) < (ws.length : Int) := by omega
      clear c1 hM hset hma hy hx h0 h1 hfl hcell0 hblk
      go_wp2
      refine wp_region_still_tail 10 (by kernel_rfl) (by kernel_rfl) ?_
      simp only [List.take_succ_cons, List.take_zero, List.drop_succ_cons, List.drop_zero]
      iterate 7 still_step
      still_call ((C1.out _).mono fun _ _ h => ⟨h.1, h.2.symm⟩)
      repeat still_step
      refine wpStill_nil ?_
      change wpList _ _ _ _ _ wr.drew
      rw [HMA.out]
      go_wp2
      go_roundw
      case rel => exact ⟨k + 1, by omega, by go_num, HSET.out, (hb.setCell (Nat.le_refl _) _).drew⟩
      case measure => simp [intOf]; omega
    · obtain rfl : k = ws.length := by omega
      rw [List.take_length] at hblk
      have hfull := wrow_full (fitW W ws)
      rw [fitW_len] at hfull
      rw [hfull] at hblk
      have hrd := Rd.of_blk hblk
      have HRD := Lib.hid hrd
      clear hblk hfull hrd
      go_wp2
      go_ret
      exact ⟨.slice (some ⟨w.heap.size, 0, none⟩) ws.length ws.length, rfl, ⟨_, ws.length, by rw [wvs_length, fitW_len], by rw [wvs_length, fitW_len]; exact Nat.le_refl _, HRD.out⟩, hb⟩
theorem refSame_yes (ws : List Nat) (hb : ws.length ≤ 100000) (v1 v2 : Value) (w : World) (h1 : IsCells (wvs ws) v1 w) (h2 : IsCells (wvs ws) v2 w) :
    Calls Tryd.prog 12 #[v1, v2] w (Yes w) := by
  obtain ⟨A1, c1, rfl, _, hr1⟩ := h1
  obtain ⟨A2, c2, rfl, _, hr2⟩ := h2
  rw [wvs_length]
  exact refSame_any A1 ws.length c1 A2 c2 ws w hr1 hr2 rfl hb
theorem rFit_cells (V : Nat) (hV : IsW V) (ws : List Nat) (v : Value) (w : World) (h : IsCells (wvs ws) v w) (hb : ws.length ≤ 100000) (hlt64 : ∀ x ∈ ws, x < 18446744073709551616) :
    Calls Tryd.prog 13 #[v, .int .i64 (V : Int)] w (NewW w (fitW V ws)) := by
  obtain ⟨A, c, rfl, _, hr⟩ := h
  rw [wvs_length]
  exact refFit_any V hV A ws.length c ws w hr rfl hb hlt64
end Go.Proofs.YtclhgjjehnmncaaDoor
