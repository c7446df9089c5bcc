/- Contracts of layer 3's reference: More, Of, Join. -/
import Derived.Test.YtnfkekaeppgaoaaCrcFn
namespace Go.Proofs.Ytnfkekaeppgaoaa
open Go.RowKit

theorem not_u32 (r : BitVec 32) : bits .xor .u32 IntKind.u32.max (r.toNat : Int) = ((~~~ r).toNat : Int) := by
  have e : IntKind.u32.max = ((BitVec.allOnes 32).toNat : Int) := by decide
  rw [e, xor_u32, BitVec.allOnes_xor]
theorem u32_plain : IntKind.u32.signed = false := rfl
theorem xor_byte (r : BitVec 32) (c : UInt8) : bits .xor .u32 (r.toNat : Int) (c.toNat : Int) = ((r ^^^ BitVec.ofNat 32 c.toNat).toNat : Int) := by
  have h := c.toNat_lt
  have e : (c.toNat : Int) = ((BitVec.ofNat 32 c.toNat).toNat : Int) := by rw [BitVec.toNat_ofNat]; omega
  rw [e, xor_u32]

/-- What holds at the head of a round: the register of the bytes ahead. -/
def MoreRel (l : List UInt8) (r0 : BitVec 32) (t i : Value) : Prop := ∃ k : Nat, k ≤ l.length ∧ i = .int .i64 k ∧ t = .int .u32 ((reg r0 (l.take k)).toNat : Int)
theorem reg_snoc (r : BitVec 32) (l : List UInt8) (k : Nat) (h : k < l.length) : reg r (l.take (k + 1)) = steps 8 (reg r (l.take k) ^^^ BitVec.ofNat 32 l[k].toNat) := by
  rw [List.take_succ_eq_append_getElem h, reg_append]
  rfl

set_option maxHeartbeats 400000 in
theorem refMore_any (s : BitVec 32) (A : Option Addr) (n c : Nat) (l : List UInt8) (w : World) (hr : Rd w w.heap.size A (bvs l)) (hn : l.length = n) (hn1 : n ≤ 9223372036854775807) :
    Calls Try.prog 41 #[.int .u32 (s.toNat : Int), .slice A n c] w fun e w' => e = .returned (.int .u32 ((more s l).toNat : Int)) ∧ w = w' := by
  subst hn
  have hnot := not_u32 s
  have hsg := u32_plain
  obtain ⟨M, hM⟩ : ∃ M, M = more s l := ⟨_, rfl⟩
  rw [← hM]
  obtain ⟨q, hq⟩ : ∃ q, q = ~~~ s := ⟨_, rfl⟩
  rw [← hq] at hnot
  unfold more at hM
  rw [← hq] at hM
  have HM := Lib.hid hM
  clear hM hq
  go_enter Try.func41, Try.ntmps41
  go_wp2
  go_loop [5, 6] (MoreRel l q) (fun _ i => l.length - (intOf i).toNat)
  case atStart => exact ⟨0, Nat.zero_le _, rfl, rfl⟩
  case round =>
    obtain ⟨k, hk, rfl, rfl⟩ := hrel
    clear hnot
    by_cases hlt : k < l.length
    · obtain ⟨ab, ao, rfl, _, hcell⟩ := hr k _ (bvs_get l k hlt)
      have hsn := reg_snoc q l k hlt
      obtain ⟨x, hx⟩ : ∃ x, x = reg q (l.take k) := ⟨_, rfl⟩
      obtain ⟨b, hb⟩ : ∃ b, b = l[k] := ⟨_, rfl⟩
      rw [← hb] at hcell
      rw [← hx, ← hb] at hsn
      rw [← hx]
      obtain ⟨y, hy⟩ : ∃ y, y = x ^^^ BitVec.ofNat 32 b.toNat := ⟨_, rfl⟩
      have hxor := xor_byte x b
      rw [← hy] at hxor hsn
      have HSN := Lib.hid hsn
      have hb255 : (b.toNat : Int) ≤ 255 := by have := b.toNat_lt; omega
      have hb0 : 0 ≤ (b.toNat : Int) := by omega
      have c1 := fun W => refSteps_any y 8 W (by omega)
      have C1 := Lib.hid c1
      clear hsn hx hb hy c1
      go_wp2_with (go_at_call 47; go_must (refine (C1.out _).mono ?_; rintro e w' ⟨rfl, rfl⟩))
      clear hxor
      go_round
      case rel => exact ⟨k + 1, by omega, by go_num, by rw [HSN.out]⟩
      case measure => simp [intOf]; omega
    · obtain rfl : k = l.length := by omega
      rw [List.take_length]
      obtain ⟨x, hx⟩ : ∃ x, x = reg q l := ⟨_, rfl⟩
      have hm : M = ~~~ x := by rw [HM.out, hx]
      rw [← hx]
      have hnot := not_u32 x
      rw [← hm] at hnot
      clear hx hm
      go_wp2
      go_ret
      exact ⟨rfl, rfl⟩

theorem refOf_any (A : Option Addr) (n c : Nat) (l : List UInt8) (w : World) (hr : Rd w w.heap.size A (bvs l)) (hn : l.length = n) (hn1 : n ≤ 9223372036854775807) :
    Calls Try.prog 28 #[.slice A n c] w fun e w' => e = .returned (.int .u32 ((crcOf l).toNat : Int)) ∧ w = w' := by
  have c1 := refMore_any 0#32 A n c l w hr hn hn1
  have C1 := Lib.hid c1
  clear c1 hn
  go_enter Try.func28, Try.ntmps28
  go_wp2_with (go_at_call 41; go_must (refine C1.out.mono ?_; rintro e w' ⟨rfl, rfl⟩))
  go_ret
  exact ⟨rfl, rfl⟩

end Go.Proofs.Ytnfkekaeppgaoaa
