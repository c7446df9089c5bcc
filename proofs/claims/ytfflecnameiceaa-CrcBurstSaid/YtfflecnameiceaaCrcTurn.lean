/- Contract of layer 3's reference: Turned. -/
import Derived.Test.YtfflecnameiceaaCrcKnown
import Derived.BigRegion
import Derived.RegionTactic
import Derived.Deep.DeepMust
namespace Go.Proofs.Ytfflecnameiceaa
open Go.RowKit

theorem info_u8t : (Try.prog.info? 5).map (fun i => (i.zero, i.size, i.bytes)) = some (some (.int .u8 0), 1, 1) := by kernel_rfl

/-- Bytes with the first i of a pattern's bits turned, from a place on. -/
def turnB (b : List UInt8) (q p : Nat) : Nat → List UInt8
  | 0 => b
  | i + 1 => if p.testBit i = true ∧ (q + i) / 8 < b.length then (turnB b q p i).set ((q + i) / 8) (UInt8.ofNat (((turnB b q p i).getD ((q + i) / 8) 0).toNat ^^^ 2 ^ ((q + i) % 8))) else turnB b q p i
theorem turnB_succ (b : List UInt8) (q p i : Nat) : turnB b q p (i + 1) = if p.testBit i = true ∧ (q + i) / 8 < b.length then (turnB b q p i).set ((q + i) / 8) (UInt8.ofNat (((turnB b q p i).getD ((q + i) / 8) 0).toNat ^^^ 2 ^ ((q + i) % 8))) else turnB b q p i := rfl
theorem turnB_len (b : List UInt8) (q p : Nat) : ∀ i, (turnB b q p i).length = b.length
  | 0 => rfl
  | i + 1 => by
    unfold turnB
    split
    · simp [turnB_len b q p i]
    · exact turnB_len b q p i
theorem xor_byte_lt (x r : Nat) (hx : x < 256) (hr : r < 8) : x ^^^ 2 ^ r < 256 := by
  have : 2 ^ r < 2 ^ 8 := Nat.pow_lt_pow_right (by decide) hr
  exact Nat.xor_lt_two_pow (n := 8) hx this
/-- What is turned lies from the place on. -/
theorem turnB_bit (b : List UInt8) (q p k : Nat) : ∀ i, ((turnB b q p i).getD (k / 8) 0).toNat.testBit (k % 8) ≠ (b.getD (k / 8) 0).toNat.testBit (k % 8) → q ≤ k ∧ k < q + i
  | 0, h => absurd rfl h
  | i + 1, h => by
    have ih := turnB_bit b q p k i
    by_cases hk : k = q + i
    · omega
    · have : q ≤ k ∧ k < q + i := by
        apply ih
        intro e
        apply h
        rw [← e, turnB_succ]
        split
        · rename_i g
          by_cases hq : (q + i) / 8 = k / 8
          · rw [hq, List.getD_eq_getElem?_getD, List.getElem?_set_self (by rw [turnB_len]; omega), Option.getD_some]
            have h8 := ((turnB b q p i).getD (k / 8) 0).toNat_lt
            have hlt := xor_byte_lt ((turnB b q p i).getD (k / 8) 0).toNat ((q + i) % 8) h8 (by omega)
            rw [UInt8.toNat_ofNat', Nat.mod_eq_of_lt hlt, Nat.testBit_xor, Nat.testBit_two_pow]
            have hne : decide ((q + i) % 8 = k % 8) = false := by simp; omega
            rw [hne, Bool.xor_false]
          · rw [List.getD_eq_getElem?_getD, List.getElem?_set_ne hq, ← List.getD_eq_getElem?_getD]
        · rfl
      omega

theorem xor_put (x : UInt8) (r : Nat) (hr : r < 8) : bits .xor .u8 (x.toNat : Int) (2 ^ r % 256) = ((UInt8.ofNat (x.toNat ^^^ 2 ^ r)).toNat : Int) := by
  have hx := x.toNat_lt
  have hp : 2 ^ r < 256 := by
    have : 2 ^ r < 2 ^ 8 := Nat.pow_lt_pow_right (by decide) hr
    exact this
  have e : (2 : Int) ^ r % 256 = ((2 ^ r : Nat) : Int) := by
    have : (2 : Int) ^ r = ((2 ^ r : Nat) : Int) := by simp
    have hm : ∀ m : Nat, m < 256 → (m : Int) % 256 = (m : Int) := fun m h => by omega
    rw [this]
    exact hm _ hp
  rw [e, u8_xor_nat _ _ hx hp, UInt8.toNat_ofNat', Nat.mod_eq_of_lt (xor_byte_lt _ _ hx hr)]
theorem bvs_put (l : List UInt8) (i : Nat) (c : UInt8) : (bvs l).set i (.int .u8 (c.toNat : Int)) = bvs (l.set i c) := by simp [bvs, List.map_set]

/-- What holds at the head of a round. -/
def TurnRel (w : World) (b : List UInt8) (q p : Nat) (r c : Nat) (i : Value) (wr : World) : Prop :=
  ∃ k : Nat, k ≤ 32 ∧ i = .int .i64 k ∧ wr.ownsRow w.heap.size 5 1 (.slice (some ⟨r, 0, none⟩) b.length c) b.length (bvs (turnB b q p k)) ∧ Below w.heap.size w wr

set_option maxHeartbeats 1000000 in
set_option maxRecDepth 100000 in
theorem refTurned_any (A : Option Addr) (n c : Nat) (b : List UInt8) (q p : Nat) (w : World) (hr : Rd w w.heap.size A (bvs b)) (hn : b.length = n) (hn0 : 0 < n) (hn1 : n ≤ 300) (hq : q ≤ 10000) :
    Calls Try.prog 19 #[.slice A n c, .int .i64 (q : Int), .int .u32 (p : Int)] w fun e w' => ∃ v, e = .returned v ∧ w'.ownsRow w.heap.size 5 1 v n (bvs (turnB b q p 32)) ∧ Below w.heap.size w w' := by
  obtain ⟨i0, hi, hz0, hz1, hz2⟩ := info_parts info_u8t
  subst hn
  have hnews : (bvs b).length = b.length * 1 := by rw [bvs_length, Nat.mul_one]
  have HNEWS := Lib.hid hnews
  clear hnews
  go_enter Try.func19, Try.ntmps19
  go_wp2_with ((with_reducible show wpList _ _ _ (({ dst := some 12, op := _, type := _, pos := _, after := _, guard := _ } : Oper) :: _) _ _); go_must (refine wpList_app rfl (.tmp 10) (.tmp 11) 23 rfl w.heap.size 5 i0 (.int .u8 0) 1 1 Try.underlying23 hi hz0 hz1 hz2 rfl (by decide) _ 0 [] rfl (World.ownsRow_made w #[] 0 (Nat.le_refl _) (Nat.zero_le _) rfl) w.heap.size A b.length c (bvs b) rfl (hr.alloc (Nat.le_refl _) _) HNEWS.out (bvs_one _) (by simp only [maxLen]; omega) (by omega) (by simp) ?_; intro v2 w2 hown2 hg2; rw [Nat.zero_add, List.nil_append] at hown2; have hb2 : Below w.heap.size w w2 := ((Below.refl _ _).alloc (Nat.le_refl _) _).grown hg2 (by simp) (own_block (World.ownsRow_made (e := 5) (size := 1) w #[] 0 (Nat.le_refl _) (Nat.zero_le _) rfl)); clear hg2; obtain ⟨A2, c2, rfl, hnc2, -, hA2⟩ := own_form hown2))
  obtain ⟨r, rfl, hBr, hrs⟩ : ∃ r, A2 = some ⟨r, 0, none⟩ ∧ w.heap.size ≤ r ∧ r < w2.heap.size := by
    rcases hA2 with h0 | h0
    · omega
    · exact h0
  clear hA2
  go_loopw [8] (TurnRel w b q p r c2) (fun i _ => 32 - (intOf i).toNat)
  case atStart => exact ⟨0, Nat.zero_le _, rfl, hown2, hb2⟩
  case round =>
    obtain ⟨k, hk, rfl, hown, hb⟩ := hrel
    clear hown2 hb2
    by_cases hlt : k < 32
    · have hpd : (p : Int) / 2 ^ k = ((p / 2 ^ k : Nat) : Int) := by simp
      have hpz : (0 : Int) ≤ (p : Int) / 2 ^ k := by rw [hpd]; exact Int.natCast_nonneg _
      have hpt : ((p : Int) / 2 ^ k % 2 == 1) = p.testBit k := by
        rw [hpd, Nat.testBit_eq_decide_div_mod_eq]
        generalize p / 2 ^ k = m
        rw [Bool.eq_iff_iff, beq_iff_eq, decide_eq_true_eq]
        omega
      clear hpd
      by_cases hbit : p.testBit k = true
      · rw [hbit] at hpt
        by_cases hin : (q + k) / 8 < b.length
        · have hset := turnB_succ b q p k
          rw [if_pos ⟨hbit, hin⟩] at hset
          have hlen := turnB_len b q p k
          obtain ⟨L, hL⟩ : ∃ L, L = turnB b q p k := ⟨_, rfl⟩
          rw [← hL] at hown hset hlen
          obtain ⟨x, hx⟩ : ∃ x : UInt8, L[(q + k) / 8]? = some x := ⟨L[(q + k) / 8]'(by omega), by simp⟩
          have hxd : L.getD ((q + k) / 8) 0 = x := by rw [List.getD_eq_getElem?_getD, hx]; rfl
          rw [hxd] at hset
          have hcr : wr.cell? ⟨r, (q + k) / 8, none⟩ = some (.int .u8 x.toNat) := by
            have := hown.cellAt ((q + k) / 8) (by omega)
            rw [this]
            simp [bvs, hx]
          have hfr := hown.frozenAt ((q + k) / 8)
          have hq0 : (0 : Int) ≤ ((q : Int) + (k : Int)) / 8 := by omega
          have hq1 : ((q : Int) + (k : Int)) / 8 < (b.length : Int) := by omega
          have hq2 : (0 : Int) ≤ ((q : Int) + (k : Int)) % 8 := by omega
          have HSET := Lib.hid hset
          have HOWN := Lib.hid hown
          clear hset hown hL hx hxd hbit hlen
          go_wp2
          go_region
          have hv := xor_put x ((q + k) % 8) (by omega)
          obtain ⟨hst, hgr⟩ := HOWN.out.stored ((q + k) / 8) (.int .u8 ((UInt8.ofNat (x.toNat ^^^ 2 ^ ((q + k) % 8))).toNat : Int))
          rw [bvs_put, ← HSET.out] at hst
          have hb2 : Below w.heap.size w (wr.setCell ⟨r, (q + k) / 8, none⟩ (.int .u8 ((UInt8.ofNat (x.toNat ^^^ 2 ^ ((q + k) % 8))).toNat : Int))) := hb.setCell hBr _
          rw [← hv] at hst hb2
          clear hgr hcr hfr hv
          go_wp2
          go_roundw
          case rel => exact ⟨k + 1, by omega, by go_num, hst.drew, hb2.drew⟩
          case measure => simp [intOf]; omega
        · have hset := turnB_succ b q p k
          rw [if_neg (fun h => hin h.2)] at hset
          have hq1 : (b.length : Int) ≤ ((q : Int) + (k : Int)) / 8 := by omega
          have HSET := Lib.hid hset
          clear hset hbit
          go_wp2
          go_roundw
          case rel => exact ⟨k + 1, by omega, by go_num, by rw [HSET.out]; exact hown, hb⟩
          case measure => simp [intOf]; omega
      · have hset := turnB_succ b q p k
        rw [if_neg (fun h => hbit h.1)] at hset
        have hpf : ((p : Int) / 2 ^ k % 2 == 1) = false := by rw [hpt]; simpa using hbit
        have HSET := Lib.hid hset
        clear hset hbit hpt
        go_wp2
        go_roundw
        case rel => exact ⟨k + 1, by omega, by go_num, by rw [HSET.out]; exact hown, hb⟩
        case measure => simp [intOf]; omega
    · obtain rfl : k = 32 := by omega
      go_wp2
      go_ret
      exact ⟨_, rfl, hown, hb⟩
end Go.Proofs.Ytfflecnameiceaa
