/- Contracts of layer 3's leaps: over, the closure of squared, leapOf, squared. -/
import Derived.Test.YtfflecnameiceaaCrcTab
import Derived.Test.YtfflecnameiceaaMore
import Derived.Outline
namespace Go.Proofs.Ytfflecnameiceaa
open Go.RowKit

/-- The cells of a leap of which the first k are laid. -/
def lpC (F : BitVec 32 → BitVec 32) (k : Nat) : List Value := (List.range 32).map fun i => .int .u32 (if i < k then ((F (BitVec.ofNat 32 (2 ^ i))).toNat : Int) else 0)
def leapC (F : BitVec 32 → BitVec 32) : List Value := lpC F 32
theorem lpC_get (F : BitVec 32 → BitVec 32) (k i : Nat) (h : i < 32) : (lpC F k)[i]? = some (.int .u32 (if i < k then ((F (BitVec.ofNat 32 (2 ^ i))).toNat : Int) else 0)) := by simp [lpC, h]
theorem lpC_len (F : BitVec 32 → BitVec 32) (k : Nat) : (lpC F k).length = 32 := by simp [lpC]
theorem lpC_set (F : BitVec 32 → BitVec 32) (k : Nat) (h : k < 32) : (lpC F k).set k (.int .u32 ((F (BitVec.ofNat 32 (2 ^ k))).toNat : Int)) = lpC F (k + 1) := by
  apply List.ext_getElem?
  intro i
  rw [List.getElem?_set]
  by_cases hi : i < 32
  · rw [lpC_get _ _ _ hi, lpC_get _ _ _ hi]
    by_cases e : k = i
    · subst e
      rw [if_pos rfl, if_pos (by rw [lpC_len]; exact hi), if_pos (by omega)]
    · rw [if_neg e]
      by_cases g : i < k
      · rw [if_pos g, if_pos (by omega)]
      · rw [if_neg g, if_neg (by omega)]
  · rw [if_neg (by omega), List.getElem?_eq_none (by rw [lpC_len]; omega), List.getElem?_eq_none (by rw [lpC_len]; omega)]
theorem leapC_get (F : BitVec 32 → BitVec 32) (i : Nat) (h : i < 32) : (leapC F)[i]? = some (.int .u32 ((F (BitVec.ofNat 32 (2 ^ i))).toNat : Int)) := by
  unfold leapC
  rw [lpC_get F 32 i h, if_pos h]

theorem bit_u32 (r : BitVec 32) (k : Nat) : bits .and .u32 ((r.toNat : Int) / 2 ^ k) 1 = if r.getLsbD k then 1 else 0 := by
  have e : (r.toNat : Int) / 2 ^ k = ((r >>> k).toNat : Int) := by
    rw [BitVec.toNat_ushiftRight, Nat.shiftRight_eq_div_pow]
    simp
  rw [e, and1_u32, BitVec.getLsbD_ushiftRight, Nat.add_zero]

/-- What holds at the head of a round of over. -/
def OverRel (F : BitVec 32 → BitVec 32) (r : BitVec 32) (t i : Value) : Prop := ∃ k : Nat, k ≤ 32 ∧ i = .int .i64 k ∧ t = .int .u32 ((F (low r k)).toNat : Int)

set_option maxHeartbeats 400000 in
set_option maxRecDepth 100000 in
theorem leapOver_any (F : BitVec 32 → BitVec 32) (hF : Lin F) (r : BitVec 32) (w : World) :
    Calls Try.prog 34 #[.agg (leapC F).toArray, .int .u32 (r.toNat : Int)] w fun e w' => e = .returned (.int .u32 ((F r).toNat : Int)) ∧ Below w.heap.size w w' := by
  have hb : Below w.heap.size w (w.alloc (.cells (leapC F).toArray 55)) := (Below.refl _ _).alloc (Nat.le_refl _) _
  have hblk : Blk (w.alloc (.cells (leapC F).toArray 55)) w.heap.size 55 (leapC F) := heap_alloc_new w _
  go_enter Try.func34, Try.ntmps34
  go_wp2
  go_loop [5, 7] (OverRel F r) (fun _ i => 32 - (intOf i).toNat)
  case atStart => exact ⟨0, Nat.zero_le _, rfl, by rw [low_zero, hF.zero]; rfl⟩
  case round =>
    obtain ⟨k, hk, rfl, rfl⟩ := hrel
    have hr1 : (r.toNat : Int) ≤ 4294967295 := by have := r.isLt; omega
    have hr0 : (0 : Int) ≤ (r.toNat : Int) := by omega
    by_cases hlt : k < 32
    · have hcell := hblk.cell k
      rw [leapC_get F k hlt] at hcell
      have hbit := bit_u32 r k
      have hlow := lin_low hF r k hlt
      cases hg : r.getLsbD k with
      | true =>
        have ht : (bits .and .u32 ((r.toNat : Int) / 2 ^ k) 1 == 1) = true := by rw [hbit, hg]; rfl
        rw [hg, if_pos rfl] at hlow
        have HL := Lib.hid hlow
        clear hlow hg hbit
        go_wp2
        go_round
        case rel => exact ⟨k + 1, by omega, by go_num, by rw [HL.out, xor_u32]⟩
        case measure => simp [intOf]; omega
      | false =>
        have ht : (bits .and .u32 ((r.toNat : Int) / 2 ^ k) 1 == 1) = false := by rw [hbit, hg]; rfl
        rw [hg, if_neg (by decide)] at hlow
        have HL := Lib.hid hlow
        clear hlow hg hbit
        go_wp2
        go_round
        case rel => exact ⟨k + 1, by omega, by go_num, by rw [HL.out]⟩
        case measure => simp [intOf]; omega
    · obtain rfl : k = 32 := by omega
      go_wp2
      go_ret
      exact ⟨ret_int (by rw [low_all]), hb⟩

theorem leap_size : (Try.prog.info? 55).map (·.size) = some 32 := by kernel_rfl
theorem leap_row (F : BitVec 32 → BitVec 32) (k : Nat) : (Try.prog.info? 55).map (·.size) = some (lpC F k).toArray.size := by
  rw [leap_size]; simp [lpC]
set_option maxHeartbeats 400000 in
theorem leapSq_any (F : BitVec 32 → BitVec 32) (hF : Lin F) (g : Nat) (r : BitVec 32) (w : World) (hg : Blk w g 55 (leapC F)) :
    Calls Try.prog 37 #[.int .u32 (r.toNat : Int), .pointer (some ⟨g, 0, none⟩)] w fun e w' => e = .returned (.int .u32 ((F (F r)).toNat : Int)) ∧ Below w.heap.size w w' := by
  go_enter Try.func37, Try.ntmps37
  go_wp2
  refine wp_region_grow [⟨4, [], .is (.agg (leapC F).toArray)⟩,
    ⟨5, [], .is (.agg (leapC F).toArray)⟩,
    ⟨6, [], .is (.int .u32 (r.toNat : Int))⟩,
    ⟨7, [1, 2], .is (.int .u32 ((F r).toNat : Int))⟩,
    ⟨8, [0, 3], .is (.int .u32 ((F (F r)).toNat : Int))⟩,
    ⟨3, [4], .is (.int .u32 ((F (F r)).toNat : Int))⟩]
    [(1, .pointer (some ⟨g, 0, none⟩)), (0, .int .u32 (r.toNat : Int))] (by kernel_rfl) (by kernel_rfl) (by kernel_rfl) (by kernel_rfl) (by kernel_rfl) ⟨rfl, rfl, trivial⟩ ?_ ?_
  · repeat' (first | exact OblGAll.nil | refine OblGAll.cons ?_ ?_)
    all_goals (intro ev yi w1 hB hc hf ho hn; simp only [OutsSay, NeedSay, rowAt, Fact.says, and_true] at ho hn)
    all_goals (rw [if_pos (by simp [Region.wanted])])
    · exact says_load_row rfl ho.1 (hg.below hB hg.lt) Try.underlying55 (leap_row F 32) ⟨rfl, Below.refl _ _⟩
    · exact says_load_row rfl ho.1 (hg.below hB hg.lt) Try.underlying55 (leap_row F 32) ⟨rfl, Below.refl _ _⟩
    · simp [OpSays, execOp, go_sem, ho, Fact.says, Below.refl]
    · exact says_call Try.call34 (vs := #[.agg (leapC F).toArray, .int .u32 (r.toNat : Int)]) rfl hf (by simp [hn]) ((leapOver_any F hF r w1).mono fun _ _ h => ⟨_, h.1, rfl, h.2⟩)
    · exact says_call Try.call34 (vs := #[.agg (leapC F).toArray, .int .u32 ((F r).toNat : Int)]) rfl hf (by simp [hn]) ((leapOver_any F hF (F r) w1).mono fun _ _ h => ⟨_, h.1, rfl, h.2⟩)
    · simp [OpSays, execOp, go_sem, hn, Fact.says, Below.refl]
  · intro x w4 hb4 hx
    have h5 : x 5 = .int .u32 ((F (F r)).toNat : Int) := hx 5 (by decide)
    clear hx
    have H5 := Lib.hid h5
    clear h5
    simp only [layAll, List.setIfInBounds_toArray, List.set_cons_succ, List.set_cons_zero]
    go_wp2
    go_ret
    exact ⟨congrArg Ending.returned H5.out, hb4⟩
end Go.Proofs.Ytfflecnameiceaa
