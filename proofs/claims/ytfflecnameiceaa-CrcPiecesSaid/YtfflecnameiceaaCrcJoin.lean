/- Contracts of layer 3's leapOf, squared and Join. -/
import Derived.Test.YtfflecnameiceaaCrcLeap
namespace Go.Proofs.Ytfflecnameiceaa
open Go.RowKit

def lp0 : Array Value := (lpC id 0).toArray
theorem zeroLeap (w : World) : Sem.run Try.prog (zeroValue 55) w = .ok (.agg lp0) w := by kernel_rfl
theorem lp_one (F : BitVec 32 → BitVec 32) : (leapC F).toArray.all (·.oneCell') = true := by
  rw [Array.all_eq_true_iff_forall_mem]
  intro v hv
  simp only [leapC, lpC, List.mem_toArray, List.mem_map] at hv
  obtain ⟨i, _, rfl⟩ := hv
  rfl
theorem lp0_eq (F : BitVec 32 → BitVec 32) : lp0 = (lpC F 0).toArray := by simp [lp0, lpC]
theorem shl_u32 (k : Nat) : (2 : Int) ^ k % 4294967296 = ((BitVec.ofNat 32 (2 ^ k)).toNat : Int) := by
  rw [BitVec.toNat_ofNat]
  have : (2 : Int) ^ k = ((2 ^ k : Nat) : Int) := by simp
  rw [this]
  omega
/-- What holds at the head of a round of leapOf. -/
def OfRel (F : BitVec 32 → BitVec 32) (w : World) (i : Value) (wr : World) : Prop :=
  ∃ k : Nat, k ≤ 32 ∧ i = .int .i64 k ∧ Blk wr w.heap.size 55 lp0.toList ∧ Blk wr (w.heap.size + 1) 55 (lpC F k) ∧ Below w.heap.size w wr

set_option maxHeartbeats 400000 in
set_option maxRecDepth 100000 in
theorem leapOfStep_any  (w : World) :
    Calls Try.prog 32 #[.func (.func 31) #[] #[]] w fun e w' => e = .returned (.agg (leapC step).toArray) ∧ Below w.heap.size w w' := by
  have hz := zeroLeap
  have hsz : (w.alloc (.cells lp0 55)).heap.size = w.heap.size + 1 := by simp
  go_enter Try.func32, Try.ntmps32
  go_wp2
  clear hz hsz
  go_loopw [5] (OfRel step w) (fun i _ => 32 - (intOf i).toNat)
  case atStart =>
    refine ⟨0, Nat.zero_le _, rfl, ?_, ?_, ?_⟩
    · exact (show Blk _ _ _ _ from heap_alloc_new w (.cells lp0 55)).alloc_ _
    · have := heap_alloc_new (w.alloc (.cells lp0 55)) (.cells lp0 55)
      rw [Blk, ← lp0_eq]
      simpa using this
    · exact ((Below.refl _ _).alloc (Nat.le_refl _) _).alloc (by simp) _
  case round =>
    obtain ⟨k, hk, rfl, hb0, hblk, hb⟩ := hrel
    by_cases hlt : k < 32
    · have hx := shl_u32 k
      obtain ⟨x, hxx⟩ : ∃ x, x = BitVec.ofNat 32 (2 ^ k) := ⟨_, rfl⟩
      have hset := lpC_set step k hlt
      rw [← hxx] at hx hset
      have HX := Lib.hid hx
      have HSET := Lib.hid hset
      have hk0 : (0 : Int) ≤ (k : Int) := by omega
      have hk31 : (k : Int) ≤ 31 := by omega
      have hbs := hb.size
      have hbl := hblk.lt
      have HBLK := Lib.hid hblk
      have HB := Lib.hid hb
      have HB0 := Lib.hid hb0
      clear hset hxx hb hb0 hblk hx
      have hx := HX.out
      go_wp2_with fail
      refine (crcStep_any x _).mono ?_
      rintro e w1 ⟨rfl, hw1⟩
      have hbx : Below wr.heap.size wr w1 := (by subst hw1; exact Below.refl _ _)
      clear hw1
      have hblk1 := HBLK.out.grow hbx
      have hb1 := HB.out.trans (hbx.mono hbs)
      have hb01 := HB0.out.grow hbx
      have hcell := hblk1.cell k
      rw [lpC_get _ k k hlt, if_neg (Nat.lt_irrefl k)] at hcell
      have hfr := hblk1.frozen k
      have hset := hblk1.set_ k (.int .u32 ((step x).toNat : Int))
      rw [HSET.out] at hset
      have HS := Lib.hid hset
      have HB1 := Lib.hid hb1
      have HB01 := Lib.hid hb01
      clear hset hblk1 hb1 hb01 hbx hx
      go_wp2
      go_roundw
      case rel => exact ⟨k + 1, by omega, by go_num, HB01.out.setOther _ _ (by simp), HS.out, HB1.out.setCell (by simp) _⟩
      case measure => simp [intOf]; omega
    · obtain rfl : k = 32 := by omega
      go_wp2_with (first
        | ((with_reducible show wpList _ _ _ (({ dst := some 15, op := _, type := _, pos := _, after := _, guard := _ } : Oper) :: _) _ _); go_must (refine wpList_load_row rfl 55 (.tmp 3) rfl (w.heap.size + 1) rfl 55 (leapC step).toArray (0, 0) _ hblk Try.underlying55 rfl (leap_row step 32) ?_))
        | ((with_reducible show wpList _ _ _ (({ dst := none, op := Op.store _ (.tmp 2) (.tmp 15), type := _, pos := _, after := _, guard := _ } : Oper) :: _) _ _); go_must (refine wpList_store_row rfl 55 (.tmp 2) (.tmp 15) rfl w.heap.size (leapC step).toArray rfl rfl 55 lp0 hb0 (leap_row step 32) (by simp [lp0, lpC, leapC]) (lp_one step) ?_)))
      exact bodyPost_ret (v := .agg (leapC step).toArray) (results_cell_row Try.results32 _ _ w.heap.size 55 (leapC step).toArray (0, 0) _ rfl (hb0.setRow_ (leapC step)) Try.underlying55 rfl (leap_row step 32)) rfl ⟨rfl, below_setRow hb (Nat.le_refl _) _⟩

/-- Twice as many steps. -/
def sq (F : BitVec 32 → BitVec 32) (r : BitVec 32) : BitVec 32 := F (F r)
theorem lin_sq {F : BitVec 32 → BitVec 32} (h : Lin F) : Lin (sq F) := h.comp h
theorem sq_steps (n : Nat) : sq (steps n) = steps (2 * n) := by
  funext r
  unfold sq
  rw [← steps_add, Nat.two_mul]
theorem leapSq_sq (F : BitVec 32 → BitVec 32) (hF : Lin F) (g : Nat) (r : BitVec 32) (w : World) (hg : Blk w g 55 (leapC F)) :
    Calls Try.prog 37 #[.int .u32 (r.toNat : Int), .pointer (some ⟨g, 0, none⟩)] w fun e w' => e = .returned (.int .u32 ((sq F r).toNat : Int)) ∧ Below w.heap.size w w' := leapSq_any F hF g r w hg

set_option maxHeartbeats 400000 in
set_option maxRecDepth 100000 in
theorem leapOfSq_any (F : BitVec 32 → BitVec 32) (hF : Lin F) (g : Nat) (w : World) (hg : Blk w g 55 (leapC F)) :
    Calls Try.prog 32 #[.func (.func 37) #[] #[.pointer (some ⟨g, 0, none⟩)]] w fun e w' => e = .returned (.agg (leapC (sq F)).toArray) ∧ Below w.heap.size w w' := by
  have hz := zeroLeap
  have hsz : (w.alloc (.cells lp0 55)).heap.size = w.heap.size + 1 := by simp
  go_enter Try.func32, Try.ntmps32
  go_wp2
  clear hz hsz
  go_loopw [5] (OfRel (sq F) w) (fun i _ => 32 - (intOf i).toNat)
  case atStart =>
    refine ⟨0, Nat.zero_le _, rfl, ?_, ?_, ?_⟩
    · exact (show Blk _ _ _ _ from heap_alloc_new w (.cells lp0 55)).alloc_ _
    · have := heap_alloc_new (w.alloc (.cells lp0 55)) (.cells lp0 55)
      rw [Blk, ← lp0_eq]
      simpa using this
    · exact ((Below.refl _ _).alloc (Nat.le_refl _) _).alloc (by simp) _
  case round =>
    obtain ⟨k, hk, rfl, hb0, hblk, hb⟩ := hrel
    by_cases hlt : k < 32
    · have hx := shl_u32 k
      obtain ⟨x, hxx⟩ : ∃ x, x = BitVec.ofNat 32 (2 ^ k) := ⟨_, rfl⟩
      have hset := lpC_set (sq F) k hlt
      rw [← hxx] at hx hset
      have HX := Lib.hid hx
      have HSET := Lib.hid hset
      have hk0 : (0 : Int) ≤ (k : Int) := by omega
      have hk31 : (k : Int) ≤ 31 := by omega
      have hbs := hb.size
      have hbl := hblk.lt
      have HBLK := Lib.hid hblk
      have HB := Lib.hid hb
      have HB0 := Lib.hid hb0
      clear hset hxx hb hb0 hblk hx
      have hx := HX.out
      go_wp2_with fail
      refine (leapSq_sq F hF g x _ (hg.below HB.out hg.lt)).mono ?_
      rintro e w1 ⟨rfl, hbx⟩
      have hblk1 := HBLK.out.grow hbx
      have hb1 := HB.out.trans (hbx.mono hbs)
      have hb01 := HB0.out.grow hbx
      have hcell := hblk1.cell k
      rw [lpC_get _ k k hlt, if_neg (Nat.lt_irrefl k)] at hcell
      have hfr := hblk1.frozen k
      have hset := hblk1.set_ k (.int .u32 (((sq F) x).toNat : Int))
      rw [HSET.out] at hset
      have HS := Lib.hid hset
      have HB1 := Lib.hid hb1
      have HB01 := Lib.hid hb01
      clear hset hblk1 hb1 hb01 hbx hx
      go_wp2
      go_roundw
      case rel => exact ⟨k + 1, by omega, by go_num, HB01.out.setOther _ _ (by simp), HS.out, HB1.out.setCell (by simp) _⟩
      case measure => simp [intOf]; omega
    · obtain rfl : k = 32 := by omega
      go_wp2_with (first
        | ((with_reducible show wpList _ _ _ (({ dst := some 15, op := _, type := _, pos := _, after := _, guard := _ } : Oper) :: _) _ _); go_must (refine wpList_load_row rfl 55 (.tmp 3) rfl (w.heap.size + 1) rfl 55 (leapC (sq F)).toArray (0, 0) _ hblk Try.underlying55 rfl (leap_row (sq F) 32) ?_))
        | ((with_reducible show wpList _ _ _ (({ dst := none, op := Op.store _ (.tmp 2) (.tmp 15), type := _, pos := _, after := _, guard := _ } : Oper) :: _) _ _); go_must (refine wpList_store_row rfl 55 (.tmp 2) (.tmp 15) rfl w.heap.size (leapC (sq F)).toArray rfl rfl 55 lp0 hb0 (leap_row (sq F) 32) (by simp [lp0, lpC, leapC]) (lp_one (sq F)) ?_)))
      exact bodyPost_ret (v := .agg (leapC (sq F)).toArray) (results_cell_row Try.results32 _ _ w.heap.size 55 (leapC (sq F)).toArray (0, 0) _ rfl (hb0.setRow_ (leapC (sq F))) Try.underlying55 rfl (leap_row (sq F) 32)) rfl ⟨rfl, below_setRow hb (Nat.le_refl _) _⟩

set_option maxHeartbeats 400000 in
set_option maxRecDepth 100000 in
theorem leapSquared_any (F : BitVec 32 → BitVec 32) (hF : Lin F) (w : World) :
    Calls Try.prog 33 #[.agg (leapC F).toArray] w fun e w' => e = .returned (.agg (leapC (sq F)).toArray) ∧ Below w.heap.size w w' := by
  have hz := zeroLeap
  have hmf : ∀ (fn : Fn) (first cap : Array Value) (w : World), (Instr.makeFunc fn first cap).run Try.prog w = .ok (.func fn first cap) w := fun _ _ _ _ => rfl
  have hg0 : Blk (w.alloc (.cells (leapC F).toArray 55)) w.heap.size 55 (leapC F) := heap_alloc_new w _
  have hb0 : Below w.heap.size w ((w.alloc (.cells (leapC F).toArray 55)).alloc (.cells lp0 55)) := ((Below.refl _ _).alloc (Nat.le_refl _) _).alloc (by simp) _
  have hg1 := hg0.alloc_ (.cells lp0 55)
  have hr1 : Blk ((w.alloc (.cells (leapC F).toArray 55)).alloc (.cells lp0 55)) (w.heap.size + 1) 55 lp0.toList := by
    have := heap_alloc_new (w.alloc (.cells (leapC F).toArray 55)) (.cells lp0 55)
    rw [Blk]
    simpa using this
  have HG1 := Lib.hid hg1
  have HR1 := Lib.hid hr1
  have HB0 := Lib.hid hb0
  clear hg0 hg1 hr1 hb0
  go_enter Try.func33, Try.ntmps33
  go_wp2_with fail
  clear hz hmf
  refine (leapOfSq_any F hF w.heap.size _ HG1.out).mono ?_
  rintro e w1 ⟨rfl, hbx⟩
  have hr2 := HR1.out.grow hbx
  have hb1 := HB0.out.trans (hbx.mono HB0.out.size)
  have HB1 := Lib.hid hb1
  clear hb1 hbx
  go_wp2_with ((with_reducible show wpList _ _ _ (({ dst := none, op := Op.store _ (.tmp 2) (.tmp 4), type := _, pos := _, after := _, guard := _ } : Oper) :: _) _ _); go_must (refine wpList_store_row rfl 55 (.tmp 2) (.tmp 4) rfl (w.heap.size + 1) (leapC (sq F)).toArray rfl rfl 55 lp0 hr2 (leap_row (sq F) 32) (by simp [lp0, lpC, leapC]) (lp_one (sq F)) ?_))
  exact bodyPost_ret (v := .agg (leapC (sq F)).toArray) (results_cell_row Try.results33 _ _ (w.heap.size + 1) 55 (leapC (sq F)).toArray (0, 0) _ rfl (hr2.setRow_ (leapC (sq F))) Try.underlying55 rfl (leap_row (sq F) 32)) rfl ⟨rfl, below_setRow HB1.out (by omega) _⟩
end Go.Proofs.Ytfflecnameiceaa
