/- Law CrcOf. -/
import Derived.Test.YtfflecnameiceaaCrcKnown
import Derived.Deep.QuietTactic
import Derived.BigQuiet
import Derived.Deep.DeepMust
namespace Go.Proofs.Ytfflecnameiceaa
open Go.RowKit

/-- What holds at the head of a round that looks through the table. -/
def OfLook (w : World) (B g : Nat) (i : Value) (wr : World) : Prop :=
  ∃ k : Nat, k ≤ 256 ∧ i = .int .i64 k ∧ IsTab wr g ∧ Below w.heap.size w wr ∧ B ≤ wr.heap.size

theorem refSteps_quiet (k : Nat) (hk : k < 256) (y : BitVec 32) (hy : y = steps 8 (BitVec.ofNat 32 k)) (w : World) (m : Nat) :
    Calls Try.prog 12 #[.int .u32 (k : Int), .int .i64 8] (w.drewN m) fun e w'' => e = .returned (.int .u32 (y.toNat : Int)) ∧ ∃ j, w'' = w.drewN j := by
  have h := refSteps_any (BitVec.ofNat 32 k) 8 (w.drewN m) (by omega)
  rw [BitVec.toNat_ofNat, Nat.mod_eq_of_lt (by omega), ← hy] at h
  exact h.mono fun _ _ h => ⟨h.1, m, h.2.symm⟩

set_option maxHeartbeats 1000000 in
set_option maxRecDepth 100000 in
theorem crcOf_law (s : BitVec 32) (A : Option Addr) (n c : Nat) (l : List UInt8) (w : World) (hr : Rd w w.heap.size A (bvs l)) (hn : l.length = n) (hn1 : n ≤ 9223372036854775807) :
    Calls Try.prog 3 #[.int .u32 (s.toNat : Int), .slice A n c] w (Yes w) := by
  have c1 := fun (g : Nat) (W : World) (ht : IsTab W g) (hr : Rd W W.heap.size A (bvs l)) => crcOf_grow g A n c l W ht hr hn hn1
  have c2 := fun (W : World) (hr : Rd W W.heap.size A (bvs l)) => refOf_any A n c l W hr hn hn1
  have c3 := fun (g : Nat) (W : World) (ht : IsTab W g) (hr : Rd W W.heap.size A (bvs l)) => crcMore_any g s A n c l W ht hr hn hn1
  have c4 := fun (W : World) (hr : Rd W W.heap.size A (bvs l)) => refMore_any s A n c l W hr hn hn1
  have C1 := Lib.hid c1
  have C2 := Lib.hid c2
  have C3 := Lib.hid c3
  have C4 := Lib.hid c4
  clear c1 c2 c3 c4 hn
  by_cases h5 : (500 : Int) < n
  · go_enter Try.func3, Try.ntmps3
    go_wp2_with fail
    refine (crcMake_any _).mono ?_
    rintro e w1 ⟨g, rfl, hg, ht, hb1⟩
    go_wp2_with fail
    refine (crcKnown_any _).mono ?_
    rintro e w2 ⟨rfl, hb2⟩
    have hbb := hb1.trans (hb2.mono hb1.size)
    clear hb1 hb2
    go_wp2
    go_ret
    exact ⟨rfl, hbb⟩
  · go_enter Try.func3, Try.ntmps3
    go_wp2_with fail
    refine (crcMake_any _).mono ?_
    rintro e w1 ⟨g, rfl, hg, ht, hb1⟩
    go_wp2
    go_loopw [6] (OfLook w w.heap.size g) (fun i _ => 256 - (intOf i).toNat)
    case atStart => exact ⟨0, Nat.zero_le _, rfl, ht, hb1, hb1.size⟩
    case round =>
      obtain ⟨k, hk, rfl, ht, hb, hB⟩ := hrel
      by_cases hlt : k < 256
      · have hcell := ht.cell k
        rw [tabC_get 256 k hlt, if_pos hlt] at hcell
        obtain ⟨y, hy⟩ : ∃ y, y = steps 8 (BitVec.ofNat 32 k) := ⟨_, rfl⟩
        rw [← hy] at hcell
        have c5 := refSteps_quiet k hlt y hy
        have C5 := Lib.hid c5
        have hd : decide ((k : Int) < 256) = true := by rw [decide_eq_true_eq]; omega
        clear c5 hy
        go_wp2
        go_quiet ((go_at_call 12; exact C5.out _ _))
        go_wp2
        go_roundw
        case rel => exact ⟨k + 1, by omega, by go_num, ht, below_drewN hb nq, hB⟩
        case measure => simp [intOf]; omega
      · obtain rfl : k = 256 := by omega
        have hr2 := (hr.below hb).more hB
        clear hr
        go_wp2_with fail
        refine (C1.out g _ ht hr2).mono ?_
        rintro e w3 ⟨rfl, hb3⟩
        have ht3 := ht.grow hb3
        have hr3 := (hr2.below hb3).more hb3.size
        have hbb := hb.trans (hb3.mono hB)
        clear hb hb3 hr2 ht C1
        go_wp2_with fail
        refine (C2.out _ hr3).mono ?_
        rintro e w' ⟨rfl, rfl⟩
        go_wp2_with fail
        refine (C3.out g _ ht3 hr3).mono ?_
        rintro e w' ⟨rfl, rfl⟩
        go_wp2_with fail
        refine (C4.out _ hr3).mono ?_
        rintro e w' ⟨rfl, rfl⟩
        go_wp2_with fail
        refine (crcOf_nil _ _).mono ?_
        rintro e w' ⟨rfl, rfl⟩
        go_wp2_with fail
        refine (crcMore_nil _ _ _).mono ?_
        rintro e w' ⟨rfl, rfl⟩
        go_wp2_with fail
        refine (crcKnown_any _).mono ?_
        rintro e w5 ⟨rfl, hb5⟩
        have hbb2 := hbb.trans (hb5.mono hbb.size)
        clear hbb hb5
        go_wp2
        go_ret
        exact ⟨rfl, hbb2⟩
end Go.Proofs.Ytfflecnameiceaa
