/- Contracts of layer 12: Halve. -/
import Derived.Test.YtgbibmgedmbboaaGreatFenUp
namespace Go.Proofs.YtgbibmgedmbboaaGreat
open Go.RowKit

/-- The row in the midst of halving. -/
def midRow (c : List Int) (i : Nat) : List Int := 0 :: (fHalf (c.take i) ++ c.drop i)
theorem midRow_zero (c : List Int) : midRow c 0 = bRow c 0 := by rw [bRow_zero]; simp [midRow, fHalf]
theorem midRow_most (c : List Int) : midRow c c.length = bRow (fHalf c) 0 := by rw [bRow_zero]; simp [midRow]
theorem fHalf_take (c : List Int) (i : Nat) (h : i < c.length) : fHalf (c.take (i + 1)) = fHalf (c.take i) ++ [(c[i] + 1) / 2] := by
  unfold fHalf; rw [List.map_take, List.map_take, List.take_add_one, List.getElem?_map, List.getElem?_eq_getElem h]; rfl
theorem midRow_get (c : List Int) (i : Nat) (h : i < c.length) : (midRow c i)[i + 1]? = some c[i] := by
  simp only [midRow, List.getElem?_cons_succ]
  rw [List.getElem?_append_right (by simp [fHalf]; omega)]
  have : i - (fHalf (c.take i)).length = 0 := by simp [fHalf]; omega
  rw [this, List.getElem?_drop]; simp [h]
theorem midRow_set (c : List Int) (i : Nat) (h : i < c.length) : (midRow c i).set (i + 1) ((c[i] + 1) / 2) = midRow c (i + 1) := by
  unfold midRow
  rw [List.set_cons_succ, List.set_append_right _ _ (by simp [fHalf]; omega), fHalf_take c i h]
  have : i - (fHalf (c.take i)).length = 0 := by simp [fHalf]; omega
  rw [this, List.drop_eq_getElem_cons h, List.set_cons_zero, List.append_assoc]; rfl
theorem fHalf_takeSum (c : List Int) (i : Nat) (h : i < c.length) : (fHalf (c.take (i + 1))).sum = (fHalf (c.take i)).sum + (c[i] + 1) / 2 := by
  rw [fHalf_take c i h]; simp
theorem fHalf_counts {c : List Int} (h : Counts c) : Counts (fHalf c) :=
  ⟨by rw [fHalf_length]; exact h.1, fHalf_nn h.2.1, Int.le_trans (fHalf_sum h.2.1) h.2.2⟩
theorem take_nn {c : List Int} (hc : ∀ x ∈ c, 0 ≤ x) (k : Nat) : ∀ x ∈ c.take k, 0 ≤ x := fun x hx => hc x (List.mem_of_mem_take hx)
theorem sum_take_le {c : List Int} (hc : ∀ x ∈ c, 0 ≤ x) (k : Nat) : (c.take k).sum ≤ c.sum := fPre_le hc k
theorem sum_nn {c : List Int} (hc : ∀ x ∈ c, 0 ≤ x) : 0 ≤ c.sum := by have := fPre_nn hc c.length; rwa [fPre_most c (Nat.le_refl _)] at this
/-- One place taken away from the next. -/
theorem fenLift_down {w : World} {T S k : Nat} {c : List Int} {t : Int} (hc : Counts c) (h : Lies w T S c.length (bRow c (k + 1)) t) (hk : k < c.length) :
    Calls Tryz.prog 105 #[.pointer (some ⟨T, 0, none⟩), .int .i64 ((k : Int) + 1), .int .i64 (-1)] w fun e w' => (∃ v, e = .returned v) ∧ Lies w' T S c.length (bRow c k) t ∧ TurnsB T S w w' := by
  have h64 : c.length < 2 ^ 64 := by have := hc.1.2; omega
  have hx := bRow_get c (k + 1) (k + 1) hk
  rw [(bRow_here c k hk h64).2] at hx
  have := fenLift_any (k + 1) (-1) (fNode c (k + 1)) (bAt c (k + 1) (k + 1 + fLow (k + 1))) h hc.1.2 (by omega) hk (.inr rfl) hx (fNode_nn hc.2.1 _) (Int.le_trans (fNode_le hc.2.1 _) hc.2.2)
    (fun hle => ⟨bRow_get c (k + 1) _ hle, bAt_nn hc.2.1 _ _, Int.le_trans (bAt_le hc.2.1 h64 hle) hc.2.2⟩)
  rw [show ((k + 1 : Nat) : Int) = (k : Int) + 1 by omega] at this
  refine this.mono fun e w' hh => ⟨hh.1, ?_, hh.2.2⟩
  have e1 := bRow_back c k
  have h2 := hh.2.1
  rw [Int.neg_one_mul, ← Int.sub_eq_add_neg] at h2
  rw [e1]; exact h2
/-- One place added to the next. -/
theorem fenLift_up {w : World} {T S k : Nat} {c : List Int} {t : Int} (hc : Counts c) (h : Lies w T S c.length (bRow c k) t) (hk : k < c.length) :
    Calls Tryz.prog 105 #[.pointer (some ⟨T, 0, none⟩), .int .i64 ((k : Int) + 1), .int .i64 1] w fun e w' => (∃ v, e = .returned v) ∧ Lies w' T S c.length (bRow c (k + 1)) t ∧ TurnsB T S w w' := by
  have h64 : c.length < 2 ^ 64 := by have := hc.1.2; omega
  have hx := bRow_get c k (k + 1) hk
  rw [(bRow_here c k hk h64).1] at hx
  have := fenLift_any (k + 1) 1 (fNode c (k + 1)) (bAt c k (k + 1 + fLow (k + 1))) h hc.1.2 (by omega) hk (.inl rfl) hx (fNode_nn hc.2.1 _) (Int.le_trans (fNode_le hc.2.1 _) hc.2.2)
    (fun hle => ⟨bRow_get c k _ hle, bAt_nn hc.2.1 _ _, Int.le_trans (bAt_le hc.2.1 h64 hle) hc.2.2⟩)
  rw [show ((k + 1 : Nat) : Int) = (k : Int) + 1 by omega] at this
  refine this.mono fun e w' hh => ⟨hh.1, ?_, hh.2.2⟩
  have e1 := bRow_step c k
  have h2 := hh.2.1
  rw [Int.one_mul] at h2
  rw [e1]; exact h2

theorem fenHalve_nil (w : World) : Calls Tryz.prog 84 #[.pointer none] w fun e w' => (∃ v, e = .returned v) ∧ w' = w := by
  go_enter Tryz.func84, Tryz.ntmps84
  go_wp2
  refine bodyPost_ret (results_none rfl _ _ _) rfl ?_
  exact ⟨⟨_, rfl⟩, rfl⟩

set_option maxHeartbeats 4000000 in
theorem fenHalve_any {w : World} {T S : Nat} {c : List Int} (h : IsTree w T S c) :
    Calls Tryz.prog 84 #[.pointer (some ⟨T, 0, none⟩)] w fun e w' => (∃ v, e = .returned v) ∧ IsTree w' T S (fHalf c) ∧ TurnsB T S w w' := by
  have hn := h.1.1
  have HC := Lib.hid h.1
  have h64 : c.length < 2 ^ 64 := by omega
  have HL := Lib.hid h.2
  have CL : Hid (∀ (W : World) (l : List Int) (t : Int), Lies W T S c.length l t → Calls Tryz.prog 79 #[.pointer (some ⟨T, 0, none⟩)] W fun e w' => e = .returned (.int .i64 (c.length : Int)) ∧ w' = W) := fun W l t h => fenLen_any h hn.2
  clear h
  go_enter Tryz.func84, Tryz.ntmps84
  go_wp2_with (go_at_call 79; refine (CL.out _ _ _ HL.out).mono ?_; rintro e w' ⟨rfl, hw⟩; obtain rfl : w = w' := hw.symm)
  go_loopw [2] (fun i wr => ∃ k : Nat, k ≤ c.length ∧ i = .int .i64 (k : Int) ∧ Lies wr T S c.length (bRow c k) c.sum ∧ TurnsB T S w wr) (fun i _ => (intOf i).toNat)
  case atStart => exact ⟨c.length, Nat.le_refl _, rfl, by rw [bRow_most c h64]; exact HL.out, TurnsB.refl _ _ _⟩
  case round =>
    obtain ⟨k, hk, rfl, hl, ht⟩ := hrel
    cases k with
    | succ k =>
      have CD := Lib.hid (fenLift_down HC.out hl hk)
      rw [show ((k + 1 : Nat) : Int) = (k : Int) + 1 by omega]
      have hk0 : (0 : Int) < (k : Int) + 1 := by omega
      have HT := Lib.hid ht
      clear hl ht
      go_wp2_with (go_at_call 105; refine CD.out.mono ?_; rintro e w2 ⟨⟨v, rfl⟩, hl2, ht2⟩)
      go_roundw
      case rel => exact ⟨k, by omega, by go_num, hl2, HT.out.trans ht2⟩
      case measure => simp [intOf]
    | zero =>
      have hl0 := hl.setTotal 0
      have ht0 := ht.trans (TurnsB.setT 1 (.int .i64 0))
      have HL0 := Lib.hid hl0
      have HT0 := Lib.hid ht0
      have hc1 := hl.tb.cell 1
      have hf1 := hl.tb.frozen 1
      simp only [List.getElem?_cons_zero, List.getElem?_cons_succ] at hc1
      clear hl ht hl0 ht0 HL
      go_wp2_with (go_at_call 79; refine (CL.out _ _ _ HL0.out).mono ?_; rintro e w2 ⟨rfl, hw⟩; obtain rfl : _ = w2 := hw.symm)
      go_loopw [22] (fun i wr => ∃ k : Nat, k ≤ c.length ∧ i = .int .i64 (k : Int) ∧ Lies wr T S c.length (midRow c k) (fHalf (c.take k)).sum ∧ TurnsB T S w wr) (fun i _ => c.length - (intOf i).toNat)
      case atStart => exact ⟨0, Nat.zero_le _, rfl, by rw [midRow_zero]; simpa [fHalf] using HL0.out, HT0.out⟩
      case round =>
        clear hc1 hf1 HL0 HT0
        obtain ⟨k, hk, rfl, hl, ht⟩ := hrel
        by_cases hlt : k < c.length
        · have hT0 := hl.tb.cell 0
          have hS := hl.sb.cell (k + 1)
          have hF := hl.sb.frozen (k + 1)
          rw [zvs_get, midRow_get c k hlt] at hS
          simp only [List.getElem?_cons_zero, Option.map_some] at hT0 hS
          have x0 := HC.out.2.1 _ (List.getElem_mem hlt)
          have x1 : c[k] ≤ 65536 := by
            have h1 := fPre_succ c k hlt
            have h2 := fPre_le HC.out.2.1 (k + 1)
            have h3 := fPre_nn HC.out.2.1 k
            have := HC.out.2.2
            omega
          have hl2 := hl.set_ (k + 1) ((c[k] + 1) / 2)
          rw [midRow_set c k hlt] at hl2
          have s1 := sum_take_le HC.out.2.1 k
          have s2 := fHalf_sum (take_nn HC.out.2.1 k)
          have s3 := sum_nn (fHalf_nn (take_nn HC.out.2.1 k))
          have s4 := HC.out.2.2
          have hsum := fHalf_takeSum c k hlt
          obtain ⟨x, hx⟩ : ∃ x, x = c[k] := ⟨_, rfl⟩
          rw [← hx] at hS x0 x1 hl2 hsum
          obtain ⟨sm, hsm⟩ : ∃ sm, sm = (fHalf (c.take k)).sum := ⟨_, rfl⟩
          rw [← hsm] at hl2 hsum s2 s3
          have hx1 : (k : Int) + 1 < (c.length : Int) + 1 := by omega
          have hk4 : k < 4096 := by omega
          have hl3 := hl2.setTotal (sm + (x + 1) / 2)
          have HSUM := Lib.hid hsum
          have ht3 := (ht.trans (TurnsB.set_ (k + 1) (.int .i64 ((x + 1) / 2)))).trans (TurnsB.setT 1 (.int .i64 (sm + (x + 1) / 2)))
          have g0 := hl2.tb.cell 0
          have g1 := hl2.tb.cell 1
          have g2 := hl2.sb.cell (k + 1)
          have g3 := hl2.tb.frozen 1
          rw [zvs_get] at g2
          have g2' : (midRow c (k + 1))[k + 1]? = some ((x + 1) / 2) := by rw [hx, ← midRow_set c k hlt, List.getElem?_set_self (by have := midRow_get c k hlt; exact (List.getElem?_eq_some_iff.1 this).1)]
          rw [g2'] at g2
          simp only [List.getElem?_cons_zero, List.getElem?_cons_succ, Option.map_some] at g0 g1 g2
          have y1 : (x + 1) / 2 ≤ 65536 := by omega
          have y0 : 0 ≤ (x + 1) / 2 := by omega
          have s5 : sm ≤ 65536 := by omega
          have HL3 := Lib.hid hl3
          have HT3 := Lib.hid ht3
          clear hl ht hl2 hl3 ht3 hx hsm hsum s1 s2 s4 g2'
          go_wp2
          go_region
          go_wp2
          go_region
          go_wp2
          exact ⟨⟨k + 1, by omega, by go_num, by rw [HSUM.out]; exact ⟨HL3.out.tb, HL3.out.sb⟩, HT3.out.drew.drew⟩, by simp [intOf]; omega⟩
        · obtain rfl : k = c.length := by omega
          rw [List.take_length, midRow_most] at hl
          have HHC := Lib.hid (fHalf_counts HC.out)
          have hfl : (fHalf c).length = c.length := fHalf_length c
          have hl0 : Lies wr T S (fHalf c).length (bRow (fHalf c) 0) (fHalf c).sum := by rw [hfl]; exact hl
          have HL0 := Lib.hid hl0
          have HLL := Lib.hid hl
          have HT := Lib.hid ht
          clear hl ht hl0
          go_wp2_with (go_at_call 79; refine (CL.out _ _ _ HLL.out).mono ?_; rintro e w2 ⟨rfl, hw⟩; obtain rfl : _ = w2 := hw.symm)
          go_loopw [59] (fun i wr => ∃ k : Nat, k ≤ c.length ∧ i = .int .i64 (k : Int) ∧ Lies wr T S (fHalf c).length (bRow (fHalf c) k) (fHalf c).sum ∧ TurnsB T S w wr) (fun i _ => c.length - (intOf i).toNat)
          case atStart => exact ⟨0, Nat.zero_le _, rfl, HL0.out, HT.out⟩
          case round =>
            clear HL0 HT HLL
            obtain ⟨k, hk, rfl, hl, ht⟩ := hrel
            by_cases hlt : k < c.length
            · have CU := Lib.hid (fenLift_up HHC.out hl (by rw [hfl]; exact hlt))
              have HT := Lib.hid ht
              have hlti : (k : Int) < (c.length : Int) := by omega
              have hk4 : k < 4096 := by omega
              clear hl ht
              go_wp2_with (go_at_call 105; refine CU.out.mono ?_; rintro e w2 ⟨⟨v, rfl⟩, hl2, ht2⟩)
              go_roundw
              case rel => exact ⟨k + 1, by omega, by go_num, hl2, HT.out.trans ht2⟩
              case measure => simp [intOf]; omega
            · obtain rfl : k = c.length := by omega
              have hm := bRow_most (fHalf c) (by rw [hfl]; exact h64)
              rw [hfl] at hm
              rw [hm] at hl
              have HL := Lib.hid hl
              have HT := Lib.hid ht
              clear hl ht hm
              go_wp2
              go_end0
              exact ⟨⟨_, rfl⟩, ⟨HHC.out, HL.out⟩, HT.out⟩
end Go.Proofs.YtgbibmgedmbboaaGreat
