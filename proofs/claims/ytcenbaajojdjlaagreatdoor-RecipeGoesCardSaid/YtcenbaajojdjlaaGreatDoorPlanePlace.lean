/- Contracts of layer 8: words, to, from. -/
import Derived.Test.YtcenbaajojdjlaaGreatDoorWordFn
import Derived.Test.YtcenbaajojdjlaaGreatDoorWordRows
import Derived.BigQuiet
namespace Go.Proofs.YtcenbaajojdjlaaGreatDoor
open Go.RowKit

theorem nat_in (x : Nat) (h : x ≤ 9223372036854775807) : wrap64 (x : Int) = (x : Int) := IntWalk.wrap64_in _ (by omega)
theorem words_any (n W : Nat) (hW : IsW W) (hn : n ≤ 9223372036854775807) (w : World) :
    Calls Tryz.prog 88 #[.agg #[.int .i64 (n : Int), .int .i64 (W : Int)]] w fun e w' => e = .returned (.int .i64 ((n / W : Nat) : Int)) ∧ Below w.heap.size w w' := by
  have hp := hW.pos
  have hq := nat_in (n / W) (by have := Nat.div_le_self n W; omega)
  rw [Int.natCast_ediv] at hq
  have HQ := Lib.hid hq
  clear hq
  go_enter Tryz.func88, Tryz.ntmps88
  go_wp2
  go_ret
  exact ⟨by rw [Int.natCast_ediv]; exact congrArg (fun x => Ending.returned (Value.int .i64 x)) HQ.out, (Below.refl _ _).alloc (Nat.le_refl _) _⟩
theorem two_num (i a b x : Nat) (hx : i % a * b + i / a = x) (h : x ≤ 9223372036854775807) : wrap64 (wrap64 ((i : Int) % (a : Int) * (b : Int)) + wrap64 ((i : Int) / (a : Int))) = (x : Int) := by
  have h1 : i % a * b ≤ x := by rw [← hx]; exact Nat.le_add_right _ _
  have h2 : i / a ≤ x := by rw [← hx]; exact Nat.le_add_left _ _
  rw [← Int.natCast_emod, ← Int.natCast_mul, ← Int.natCast_ediv, nat_in _ (Nat.le_trans h1 h), nat_in _ (Nat.le_trans h2 h), ← Int.natCast_add, hx, nat_in x h]
theorem ref_num (k a b x : Nat) (hx : k % a * b + k / a = x) (h : x ≤ 9223372036854775807) (hk : k ≤ 9223372036854775807) :
    wrap64 (wrap64 (wrap64 ((k : Int) - wrap64 (wrap64 ((k : Int) / (a : Int)) * (a : Int))) * (b : Int)) + wrap64 ((k : Int) / (a : Int))) = (x : Int) := by
  have h1 : k % a * b ≤ x := by rw [← hx]; exact Nat.le_add_right _ _
  have h2 : k / a ≤ x := by rw [← hx]; exact Nat.le_add_left _ _
  have h3 := Nat.div_mul_le_self k a
  have h4 : k - k / a * a = k % a := by
    have := Nat.div_add_mod k a
    rw [Nat.mul_comm] at this
    omega
  have h5 : k % a ≤ k := Nat.mod_le _ _
  rw [← Int.natCast_ediv, nat_in _ (Nat.le_trans h2 h), ← Int.natCast_mul, nat_in _ (Nat.le_trans h3 hk), ← Int.natCast_sub h3, h4, nat_in _ (Nat.le_trans h5 hk), ← Int.natCast_mul, nat_in _ (Nat.le_trans h1 h), ← Int.natCast_add, hx, nat_in x h]
set_option maxHeartbeats 1000000 in
theorem to_any (n W i : Nat) (hW : IsW W) (hn : n ≤ 9223372036854775807) (hi : i < n) (w : World) :
    Calls Tryz.prog 67 #[.agg #[.int .i64 (n : Int), .int .i64 (W : Int)], .int .i64 (i : Int)] w fun e w' => e = .returned (.int .i64 ((toI n W i : Nat) : Int)) ∧ Below w.heap.size w w' := by
  have hp := hW.pos
  have c1 := words_any n W hW hn
  obtain ⟨q, hq⟩ : ∃ q, q = n / W := ⟨_, rfl⟩
  rw [← hq] at c1
  obtain ⟨P, hP⟩ : ∃ P, P = q * W := ⟨_, rfl⟩
  have hPn : P ≤ n := by rw [hP, hq]; exact div_le'
  have hmul : wrap64 ((q : Int) * (W : Int)) = (P : Int) := by rw [← Int.natCast_mul, ← hP]; exact nat_in P (by omega)
  have C1 := Lib.hid c1
  have hw0 : (W : Int) ≠ 0 := by omega
  have hbx : Blk (w.alloc (.cells #[.int .i64 (n : Int), .int .i64 (W : Int)] 74)) w.heap.size 74 [.int .i64 (n : Int), .int .i64 (W : Int)] := heap_alloc_new w _
  have hbb := (Below.refl w.heap.size w).alloc (Nat.le_refl _) (.cells #[.int .i64 (n : Int), .int .i64 (W : Int)] 74)
  clear c1
  go_enter Tryz.func67, Tryz.ntmps67
  go_wp2_with fail
  refine (C1.out _).mono ?_
  rintro e w1 ⟨rfl, hb⟩
  have hbx1 := hbx.grow hb
  have hb1 := hbb.trans (hb.mono (by simp))
  have hc1 : w1.cell? ⟨w.heap.size, 1, none⟩ = some (.int .i64 (W : Int)) := hbx1.cell 1
  clear hb hbx hbx1 hbb C1
  by_cases h : P ≤ i
  · have h1 : (P : Int) ≤ (i : Int) := by omega
    have ho : toI n W i = i := by rw [toI, ← hq, ← hP, if_pos h]
    clear hq hP
    go_wp2
    go_ret
    exact ⟨by rw [ho]; rfl, hb1⟩
  · have h1 : ¬ ((P : Int) ≤ (i : Int)) := by omega
    have ho : toI n W i = i % W * q + i / W := by rw [toI, ← hq, ← hP, if_neg h]
    clear hq hP
    go_wp2_with fail
    go_quiet (fail)
    have hx := two_num i W q _ ho.symm (by have := toI_lt hp.1 hi; omega)
    have HX := Lib.hid hx
    clear hx
    go_wp2
    go_ret
    exact ⟨congrArg (fun x => Ending.returned (Value.int .i64 x)) HX.out, below_drewN hb1 nq⟩
set_option maxHeartbeats 1000000 in
theorem from_any (n W i : Nat) (hW : IsW W) (hn : n ≤ 9223372036854775807) (hi : i < n) (w : World) :
    Calls Tryz.prog 66 #[.agg #[.int .i64 (n : Int), .int .i64 (W : Int)], .int .i64 (i : Int)] w fun e w' => e = .returned (.int .i64 ((fromI n W i : Nat) : Int)) ∧ Below w.heap.size w w' := by
  have hp := hW.pos
  have c1 := words_any n W hW hn
  obtain ⟨q, hq⟩ : ∃ q, q = n / W := ⟨_, rfl⟩
  rw [← hq] at c1
  obtain ⟨P, hP⟩ : ∃ P, P = q * W := ⟨_, rfl⟩
  have hPn : P ≤ n := by rw [hP, hq]; exact div_le'
  have hmul : wrap64 ((q : Int) * (W : Int)) = (P : Int) := by rw [← Int.natCast_mul, ← hP]; exact nat_in P (by omega)
  have C1 := Lib.hid c1
  have hbx : Blk (w.alloc (.cells #[.int .i64 (n : Int), .int .i64 (W : Int)] 74)) w.heap.size 74 [.int .i64 (n : Int), .int .i64 (W : Int)] := heap_alloc_new w _
  have hbb := (Below.refl w.heap.size w).alloc (Nat.le_refl _) (.cells #[.int .i64 (n : Int), .int .i64 (W : Int)] 74)
  clear c1
  go_enter Tryz.func66, Tryz.ntmps66
  go_wp2_with fail
  refine (C1.out _).mono ?_
  rintro e w1 ⟨rfl, hb⟩
  have hbx1 := hbx.grow hb
  have hb1 := hbb.trans (hb.mono (by simp))
  have hc1 : w1.cell? ⟨w.heap.size, 1, none⟩ = some (.int .i64 (W : Int)) := hbx1.cell 1
  clear hb hbx hbx1 hbb C1
  by_cases h : P ≤ i
  · have h1 : (P : Int) ≤ (i : Int) := by omega
    have ho : fromI n W i = i := by rw [fromI, ← hq, ← hP, if_pos h]
    clear hq hP
    go_wp2
    go_ret
    exact ⟨by rw [ho]; rfl, hb1⟩
  · have h1 : ¬ ((P : Int) ≤ (i : Int)) := by omega
    have ho : fromI n W i = i % q * W + i / q := by rw [fromI, ← hq, ← hP, if_neg h]
    have hq0 : (q : Int) ≠ 0 := by
      intro e
      have e0 : q = 0 := by omega
      rw [hP, e0, Nat.zero_mul] at h
      omega
    clear hq hP
    go_wp2_with fail
    go_quiet (fail)
    have hx := two_num i q W _ ho.symm (by have := fromI_lt hi (W := W); omega)
    have HX := Lib.hid hx
    clear hx
    go_wp2
    go_ret
    exact ⟨congrArg (fun x => Ending.returned (Value.int .i64 x)) HX.out, below_drewN hb1 nq⟩

/-- Where a byte goes; -1 where there is none. -/
def placeI (n W i : Int) : Int := if rightB W = true ∧ 0 ≤ i ∧ i < n then ((toI n.toNat W.toNat i.toNat : Nat) : Int) else -1
theorem place_in (n W i : Nat) (hW : IsW W) (hi : i < n) : placeI n W i = ((toI n W i : Nat) : Int) := by
  rw [placeI, if_pos ⟨hW.right.symm, by omega, by omega⟩]
  rfl
theorem place_out (n W i : Int) (h : ¬ (rightB W = true ∧ 0 ≤ i ∧ i < n)) : placeI n W i = -1 := if_neg h
end Go.Proofs.YtcenbaajojdjlaaGreatDoor
