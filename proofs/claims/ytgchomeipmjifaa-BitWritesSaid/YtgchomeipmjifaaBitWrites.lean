/- The walk of BitWrites. -/
import Derived.Test.YtgchomeipmjifaaSteps
import Derived.Test.YtgchomeipmjifaaRefByt
namespace Go.Proofs.Ytgchomeipmjifaa
open Go.RowKit

/-- What holds at the head of a round of BitWrites. -/
def WritesRel (w : World) (ss : List St) (i m : Value) (wr : World) : Prop :=
  ∃ k L : Nat, k ≤ ss.length ∧ i = .int .i64 k ∧ (bitsL (ss.take k)).length = L ∧ WrAt wr w.heap.size w.heap.size (bitsL (ss.take k)) ∧
    wr.ownsRow w.heap.size 3 1 m L (ivs (bitsL (ss.take k))) ∧ Below w.heap.size w wr

set_option maxHeartbeats 8000000 in
set_option maxRecDepth 100000 in
theorem bitWrites_any (A : Option Addr) (n c : Nat) (ss : List St) (w : World) (hr : RdSt w w.heap.size A ss) (hok : ∀ s ∈ ss, StOk s) (hn : ss.length = n) (hn1 : n ≤ 9223372036854775807) :
    Calls Try.prog 3 #[.slice A n c] w (YesB w) := by
  by_cases h100 : (60 : Int) < n
  · go_enter Try.func3, Try.ntmps3
    go_wp2_with (go_at_call 11; refine (bitKnown_any _).mono ?_; rintro e w' ⟨rfl, hb⟩)
    go_ret
    exact ⟨rfl, hb⟩
  · obtain ⟨i0, hi, hz0, hz1, hz2⟩ := info_parts info_int
    have hn60 : n ≤ 60 := by omega
    have HN := Lib.hid hn
    have HOK := Lib.hid hok
    have HR := Lib.hid hr
    clear hn hok hr hn1
    go_enter Try.func3, Try.ntmps3
    go_wp2
    go_loopw [5, 4] (WritesRel w ss) (fun i _ _ => n - (intOf i).toNat)
    case atStart => exact ⟨0, 0, Nat.zero_le _, rfl, by simp [bitsL], wrAt_new w _ (Nat.le_refl _), World.ownsRow_nil _ _ _ _, (Below.refl _ _).alloc (Nat.le_refl _) _⟩
    case round =>
      obtain ⟨k, L, hk, rfl, hL, hat, hown, hb⟩ := hrel
      obtain ⟨Am, cm, rfl, -, -, -⟩ := own_form hown
      have hlen := bitsL_len (ss.take k)
      have hlen2 : L < 100000 := by rw [List.length_take, hL] at hlen; have := HN.out; omega
      have HLEN0 := Lib.hid hlen2
      have HLEN : Hid (L < 900000000) := Nat.lt_trans hlen2 (by decide)
      have HLENEQ := Lib.hid hL
      have HL := Lib.hid hL
      have HAT := Lib.hid hat
      have HOWN := Lib.hid hown
      have HB := Lib.hid hb
      have hbs := hb.size
      clear hat hown hb hL hlen hlen2
      by_cases hlt : k < n
      · obtain ⟨s, hs⟩ : ∃ s, ss[k]? = some s := ⟨ss[k]'(by have := HN.out; omega), by simp⟩
        obtain ⟨b, off, rfl, hbl, h0, h1, h2, h3⟩ := (HR.out.below HB.out) k s hs
        have hsok := HOK.out s (List.mem_of_getElem? hs)
        have HS := Lib.hid hs
        obtain ⟨kind, v, m, most⟩ := s
        have HV := Lib.hid hsok.2.1
        simp only at h0 h1 h2 h3
        clear hs hsok hbl
        by_cases hk0 : kind = 0
        · subst hk0
          by_cases hg : 0 ≤ m ∧ m ≤ 64
          · obtain ⟨hg0, hg1⟩ := hg
            obtain ⟨M, rfl⟩ := Int.eq_ofNat_of_zero_le hg0
            have hgood : good ⟨0, v, M, most⟩ = true := by simp [good]; omega
            have HATA := Lib.hid (HAT.out.only (OnlyT.of_below (B := 0) (ts := []) ((Below.refl wr.heap.size wr).alloc (Nat.le_refl _) (.cells #[.int .i64 0, .int .u64 v, .int .i64 M, .int .i64 most] 31))) (by simp) (by simp))
            have HOWNA := Lib.hid (HOWN.out.alloc (.cells #[.int .i64 0, .int .u64 v, .int .i64 M, .int .i64 most] 31))
            have HBA := Lib.hid (HB.out.alloc hbs (.cells #[.int .i64 0, .int .u64 v, .int .i64 M, .int .i64 most] 31))
            have HBK : Hid (Blk (wr.alloc (.cells #[.int .i64 0, .int .u64 v, .int .i64 M, .int .i64 most] 31)) wr.heap.size 31 [.int .i64 0, .int .u64 v, .int .i64 M, .int .i64 most]) := heap_alloc_new wr _
            obtain ⟨Lb, hLb⟩ : ∃ Lb, Lb = (bitsOf v M).length := ⟨_, rfl⟩
            have hbS : bitsS ⟨0, v, M, most⟩ = bitsOf v M := by simp [bitsS]
            have hbl := bitsS_len _ hgood
            rw [hbS, ← hLb] at hbl
            have HBB := Lib.hid hLb.symm
            have HBL := Lib.hid hbl
            have HBS := Lib.hid hbS
            have HGOOD := Lib.hid hgood
            have hlapp : (bitsL (ss.take k) ++ bitsOf v M).length = L + Lb := by rw [List.length_append, HL.out, hLb]
            have HLQ := Lib.hid hlapp
            clear hLb hbS hbl hgood hlapp
            go_wp2_with (first
              | (go_at_call 12; go_must (refine (wPut_any w.heap.size w.heap.size _ v M _ (HATA.out) (by rw [HLENEQ.out]; exact HLEN.out) HV.out (by omega)).mono ?_; rintro e w1 ⟨rfl, hat1, ho1⟩; have HAT1 := Lib.hid hat1; have HB1 := Lib.hid (HBA.out.trans (ho1.below (by simp; omega))); have HOWN1 := Lib.hid (own_only HOWNA.out ho1 (by decide)); have hbk1 := HBK.out.only ho1 (by decide); have s0 := hbk1.cell 0; have s1 := hbk1.cell 1; have s2 := hbk1.cell 2; have s3 := hbk1.cell 3; simp only [List.getElem?_cons_zero, List.getElem?_cons_succ] at s0 s1 s2 s3; clear hat1 ho1 hbk1))
              | (go_at_call 13; go_must (refine (rfBits_any v M _ HV.out (by omega)).mono ?_; rintro e w2 ⟨vb, rfl, hownb, hob⟩; rw [HBB.out] at hownb; obtain ⟨Ab, cb, rfl, -, -, -⟩ := own_form hownb; have HRB := Lib.hid (Rd.of_own hownb); have hbb := hob.below (Nat.le_refl _); have HAT2 := Lib.hid (HAT1.out.only (OnlyT.of_below (B := 0) (ts := []) hbb) (by simp) (by simp)); have HOWN2 := Lib.hid (own_kept HOWN1.out hbb); have HB2 := Lib.hid (HB1.out.trans (hbb.mono HB1.out.size)); clear hownb hob hbb))
              | (at_builtin; go_must (refine wpList_app rfl (.tmp 42) (.tmp 47) 28 rfl w.heap.size 3 i0 (.int .i64 0) 1 8 Try.underlying28 hi hz0 hz1 hz2 rfl (by decide) _ _ _ rfl HOWN2.out _ _ _ _ _ rfl HRB.out (by rw [ivs_length, Nat.mul_one]; exact HBB.out) (ivs_one _) (by have := HLEN.out; have := HBL.out; simp only [maxLen]; omega) (by have := HLEN.out; have := HBL.out; omega) HB2.out.size ?_; intro v3 w3 hown3 hg3; obtain ⟨A3, c3, rfl, -, -, -⟩ := own_form hown3; have ho3 : OnlyT w.heap.size [3] w2 w3 := OnlyT.grown hg3 (own_type HOWN2.out) (by simp); have HAT3 := Lib.hid (HAT2.out.only ho3 (by decide) (by decide)); have HB3 := Lib.hid (HB2.out.trans (ho3.below HB2.out.size)); have HOWN3 := Lib.hid hown3; clear hown3 hg3 ho3))
              | (go_at_call 16; go_must (have hl := wLen_any _ _ _ _ HAT3.out; rw [HLQ.out] at hl; refine hl.mono ?_; clear hl; rintro e w' ⟨rfl, rfl⟩)))
            have hrelN : WritesRel w ss (.int .i64 ((k : Int) + 1)) (.slice A3 (L + Lb) c3) w3 := by
              refine ⟨k + 1, L + Lb, by have := HN.out; omega, by go_num, ?_, ?_, ?_, HB3.out⟩
              · rw [take_snoc_st HS.out, bitsL_snoc, if_pos HGOOD.out, HBS.out, HLQ.out]
              · rw [take_snoc_st HS.out, bitsL_snoc, if_pos HGOOD.out, HBS.out]; exact HAT3.out
              · rw [take_snoc_st HS.out, bitsL_snoc, if_pos HGOOD.out, HBS.out, ivs_append]; exact HOWN3.out
            have HRELN := Lib.hid hrelN
            clear hrelN
            go_roundw
            case rel => exact HRELN.out
            case measure => simp [intOf]; omega
          · have hgood : good ⟨0, v, m, most⟩ = false := by simp [good]; omega
            by_cases hm0 : m < 0
            · have HATA := Lib.hid (HAT.out.only (OnlyT.of_below (B := 0) (ts := []) ((Below.refl wr.heap.size wr).alloc (Nat.le_refl _) (.cells #[.int .i64 0, .int .u64 v, .int .i64 m, .int .i64 most] 31))) (by simp) (by simp))
              have HOWNA := Lib.hid (HOWN.out.alloc (.cells #[.int .i64 0, .int .u64 v, .int .i64 m, .int .i64 most] 31))
              have HBA := Lib.hid (HB.out.alloc hbs (.cells #[.int .i64 0, .int .u64 v, .int .i64 m, .int .i64 most] 31))
              have HBK : Hid (Blk (wr.alloc (.cells #[.int .i64 0, .int .u64 v, .int .i64 m, .int .i64 most] 31)) wr.heap.size 31 [.int .i64 0, .int .u64 v, .int .i64 m, .int .i64 most]) := heap_alloc_new wr _
              have HGOOD := Lib.hid hgood
              clear hgood
              have s0 := HBK.out.cell 0
              have s2 := HBK.out.cell 2
              have s3 := HBK.out.cell 3
              simp only [List.getElem?_cons_zero, List.getElem?_cons_succ] at s0 s2 s3
              go_wp2_with (first
                | (go_at_call 12; go_must (refine (wPut_bad _ _ _ _ (by simp) (by omega)).mono ?_; rintro e w1 ⟨rfl, rfl⟩))
                | (go_at_call 16; go_must (have hl := wLen_any _ _ _ _ HATA.out; rw [HLENEQ.out] at hl; refine hl.mono ?_; clear hl; rintro e w' ⟨rfl, rfl⟩)))
              have hrelN : WritesRel w ss (.int .i64 ((k : Int) + 1)) (.slice Am L cm) (wr.alloc (.cells #[.int .i64 0, .int .u64 v, .int .i64 m, .int .i64 most] 31)) := by
                refine ⟨k + 1, L, by have := HN.out; omega, by go_num, ?_, ?_, ?_, HBA.out⟩
                · rw [take_snoc_st HS.out, bitsL_snoc, if_neg (by rw [HGOOD.out]; decide), List.append_nil, HL.out]
                · rw [take_snoc_st HS.out, bitsL_snoc, if_neg (by rw [HGOOD.out]; decide), List.append_nil]; exact HATA.out
                · rw [take_snoc_st HS.out, bitsL_snoc, if_neg (by rw [HGOOD.out]; decide), List.append_nil]; exact HOWNA.out
              have HRELN := Lib.hid hrelN
              clear hrelN
              go_roundw
              case rel => exact HRELN.out
              case measure => simp [intOf]; omega
            · have hm64 : 64 < m := by omega
              have HATA := Lib.hid (HAT.out.only (OnlyT.of_below (B := 0) (ts := []) ((Below.refl wr.heap.size wr).alloc (Nat.le_refl _) (.cells #[.int .i64 0, .int .u64 v, .int .i64 m, .int .i64 most] 31))) (by simp) (by simp))
              have HOWNA := Lib.hid (HOWN.out.alloc (.cells #[.int .i64 0, .int .u64 v, .int .i64 m, .int .i64 most] 31))
              have HBA := Lib.hid (HB.out.alloc hbs (.cells #[.int .i64 0, .int .u64 v, .int .i64 m, .int .i64 most] 31))
              have HBK : Hid (Blk (wr.alloc (.cells #[.int .i64 0, .int .u64 v, .int .i64 m, .int .i64 most] 31)) wr.heap.size 31 [.int .i64 0, .int .u64 v, .int .i64 m, .int .i64 most]) := heap_alloc_new wr _
              have HGOOD := Lib.hid hgood
              clear hgood
              have s0 := HBK.out.cell 0
              have s2 := HBK.out.cell 2
              have s3 := HBK.out.cell 3
              simp only [List.getElem?_cons_zero, List.getElem?_cons_succ] at s0 s2 s3
              go_wp2_with (first
                | (go_at_call 12; go_must (refine (wPut_bad _ _ _ _ (by simp) (by omega)).mono ?_; rintro e w1 ⟨rfl, rfl⟩))
                | (go_at_call 16; go_must (have hl := wLen_any _ _ _ _ HATA.out; rw [HLENEQ.out] at hl; refine hl.mono ?_; clear hl; rintro e w' ⟨rfl, rfl⟩)))
              have hrelN : WritesRel w ss (.int .i64 ((k : Int) + 1)) (.slice Am L cm) (wr.alloc (.cells #[.int .i64 0, .int .u64 v, .int .i64 m, .int .i64 most] 31)) := by
                refine ⟨k + 1, L, by have := HN.out; omega, by go_num, ?_, ?_, ?_, HBA.out⟩
                · rw [take_snoc_st HS.out, bitsL_snoc, if_neg (by rw [HGOOD.out]; decide), List.append_nil, HL.out]
                · rw [take_snoc_st HS.out, bitsL_snoc, if_neg (by rw [HGOOD.out]; decide), List.append_nil]; exact HATA.out
                · rw [take_snoc_st HS.out, bitsL_snoc, if_neg (by rw [HGOOD.out]; decide), List.append_nil]; exact HOWNA.out
              have HRELN := Lib.hid hrelN
              clear hrelN
              go_roundw
              case rel => exact HRELN.out
              case measure => simp [intOf]; omega
        · have hk0f : (kind == 0) = false := by rw [beq_eq_false_iff_ne]; exact hk0
          have HK0 := Lib.hid hk0
          by_cases hg : 0 ≤ m ∧ m ≤ most ∧ most ≤ 256
          · obtain ⟨hg0, hg1, hg2⟩ := hg
            obtain ⟨M, rfl⟩ := Int.eq_ofNat_of_zero_le hg0
            obtain ⟨Q, rfl⟩ := Int.eq_ofNat_of_zero_le (Int.le_trans hg0 hg1)
            have hgood : good ⟨kind, v, M, Q⟩ = true := by simp [good, hk0]; omega
            clear hk0
            have HATA := Lib.hid (HAT.out.only (OnlyT.of_below (B := 0) (ts := []) ((Below.refl wr.heap.size wr).alloc (Nat.le_refl _) (.cells #[.int .i64 kind, .int .u64 v, .int .i64 M, .int .i64 Q] 31))) (by simp) (by simp))
            have HOWNA := Lib.hid (HOWN.out.alloc (.cells #[.int .i64 kind, .int .u64 v, .int .i64 M, .int .i64 Q] 31))
            have HBA := Lib.hid (HB.out.alloc hbs (.cells #[.int .i64 kind, .int .u64 v, .int .i64 M, .int .i64 Q] 31))
            have HBK : Hid (Blk (wr.alloc (.cells #[.int .i64 kind, .int .u64 v, .int .i64 M, .int .i64 Q] 31)) wr.heap.size 31 [.int .i64 kind, .int .u64 v, .int .i64 M, .int .i64 Q]) := heap_alloc_new wr _
            obtain ⟨Lb, hLb⟩ : ∃ Lb, Lb = (onesOf M Q).length := ⟨_, rfl⟩
            have hbS : bitsS ⟨kind, v, M, Q⟩ = onesOf M Q := by simp [bitsS, HK0.out]
            have hbl := bitsS_len _ hgood
            rw [hbS, ← hLb] at hbl
            have HBB := Lib.hid hLb.symm
            have HBL := Lib.hid hbl
            have HBS := Lib.hid hbS
            have HGOOD := Lib.hid hgood
            have hlapp : (bitsL (ss.take k) ++ onesOf M Q).length = L + Lb := by rw [List.length_append, HL.out, hLb]
            have HLQ := Lib.hid hlapp
            clear hLb hbS hbl hgood hlapp
            go_wp2_with (first
              | (go_at_call 14; go_must (refine (wOnes_any w.heap.size w.heap.size _ M Q _ (HATA.out) (by rw [HLENEQ.out]; exact HLEN.out) (by omega) (by omega)).mono ?_; rintro e w1 ⟨rfl, hat1, ho1⟩; have HAT1 := Lib.hid hat1; have HB1 := Lib.hid (HBA.out.trans (ho1.below (by simp; omega))); have HOWN1 := Lib.hid (own_only HOWNA.out ho1 (by decide)); have hbk1 := HBK.out.only ho1 (by decide); have s0 := hbk1.cell 0; have s1 := hbk1.cell 1; have s2 := hbk1.cell 2; have s3 := hbk1.cell 3; simp only [List.getElem?_cons_zero, List.getElem?_cons_succ] at s0 s1 s2 s3; clear hat1 ho1 hbk1))
              | (go_at_call 15; go_must (refine (rfOnes_any M Q _ (by omega) (by omega)).mono ?_; rintro e w2 ⟨vb, rfl, hownb, hob⟩; rw [HBB.out] at hownb; obtain ⟨Ab, cb, rfl, -, -, -⟩ := own_form hownb; have HRB := Lib.hid (Rd.of_own hownb); have hbb := hob.below (Nat.le_refl _); have HAT2 := Lib.hid (HAT1.out.only (OnlyT.of_below (B := 0) (ts := []) hbb) (by simp) (by simp)); have HOWN2 := Lib.hid (own_kept HOWN1.out hbb); have HB2 := Lib.hid (HB1.out.trans (hbb.mono HB1.out.size)); clear hownb hob hbb))
              | (at_builtin; go_must (refine wpList_app rfl (.tmp 70) (.tmp 75) 28 rfl w.heap.size 3 i0 (.int .i64 0) 1 8 Try.underlying28 hi hz0 hz1 hz2 rfl (by decide) _ _ _ rfl HOWN2.out _ _ _ _ _ rfl HRB.out (by rw [ivs_length, Nat.mul_one]; exact HBB.out) (ivs_one _) (by have := HLEN.out; have := HBL.out; simp only [maxLen]; omega) (by have := HLEN.out; have := HBL.out; omega) HB2.out.size ?_; intro v3 w3 hown3 hg3; obtain ⟨A3, c3, rfl, -, -, -⟩ := own_form hown3; have ho3 : OnlyT w.heap.size [3] w2 w3 := OnlyT.grown hg3 (own_type HOWN2.out) (by simp); have HAT3 := Lib.hid (HAT2.out.only ho3 (by decide) (by decide)); have HB3 := Lib.hid (HB2.out.trans (ho3.below HB2.out.size)); have HOWN3 := Lib.hid hown3; clear hown3 hg3 ho3))
              | (go_at_call 16; go_must (have hl := wLen_any _ _ _ _ HAT3.out; rw [HLQ.out] at hl; refine hl.mono ?_; clear hl; rintro e w' ⟨rfl, rfl⟩)))
            have hrelN : WritesRel w ss (.int .i64 ((k : Int) + 1)) (.slice A3 (L + Lb) c3) w3 := by
              refine ⟨k + 1, L + Lb, by have := HN.out; omega, by go_num, ?_, ?_, ?_, HB3.out⟩
              · rw [take_snoc_st HS.out, bitsL_snoc, if_pos HGOOD.out, HBS.out, HLQ.out]
              · rw [take_snoc_st HS.out, bitsL_snoc, if_pos HGOOD.out, HBS.out]; exact HAT3.out
              · rw [take_snoc_st HS.out, bitsL_snoc, if_pos HGOOD.out, HBS.out, ivs_append]; exact HOWN3.out
            have HRELN := Lib.hid hrelN
            clear hrelN
            go_roundw
            case rel => exact HRELN.out
            case measure => simp [intOf]; omega
          · have hgood : good ⟨kind, v, m, most⟩ = false := by simp [good, hk0]; omega
            clear hk0
            by_cases hm0 : m < 0
            · have HATA := Lib.hid (HAT.out.only (OnlyT.of_below (B := 0) (ts := []) ((Below.refl wr.heap.size wr).alloc (Nat.le_refl _) (.cells #[.int .i64 kind, .int .u64 v, .int .i64 m, .int .i64 most] 31))) (by simp) (by simp))
              have HOWNA := Lib.hid (HOWN.out.alloc (.cells #[.int .i64 kind, .int .u64 v, .int .i64 m, .int .i64 most] 31))
              have HBA := Lib.hid (HB.out.alloc hbs (.cells #[.int .i64 kind, .int .u64 v, .int .i64 m, .int .i64 most] 31))
              have HBK : Hid (Blk (wr.alloc (.cells #[.int .i64 kind, .int .u64 v, .int .i64 m, .int .i64 most] 31)) wr.heap.size 31 [.int .i64 kind, .int .u64 v, .int .i64 m, .int .i64 most]) := heap_alloc_new wr _
              have HGOOD := Lib.hid hgood
              clear hgood
              have s0 := HBK.out.cell 0
              have s2 := HBK.out.cell 2
              have s3 := HBK.out.cell 3
              simp only [List.getElem?_cons_zero, List.getElem?_cons_succ] at s0 s2 s3
              go_wp2_with (first
                | (go_at_call 14; go_must (refine (wOnes_bad _ _ _ _ (by simp) (by omega)).mono ?_; rintro e w1 ⟨rfl, rfl⟩))
                | (go_at_call 16; go_must (have hl := wLen_any _ _ _ _ HATA.out; rw [HLENEQ.out] at hl; refine hl.mono ?_; clear hl; rintro e w' ⟨rfl, rfl⟩)))
              have hrelN : WritesRel w ss (.int .i64 ((k : Int) + 1)) (.slice Am L cm) (wr.alloc (.cells #[.int .i64 kind, .int .u64 v, .int .i64 m, .int .i64 most] 31)) := by
                refine ⟨k + 1, L, by have := HN.out; omega, by go_num, ?_, ?_, ?_, HBA.out⟩
                · rw [take_snoc_st HS.out, bitsL_snoc, if_neg (by rw [HGOOD.out]; decide), List.append_nil, HL.out]
                · rw [take_snoc_st HS.out, bitsL_snoc, if_neg (by rw [HGOOD.out]; decide), List.append_nil]; exact HATA.out
                · rw [take_snoc_st HS.out, bitsL_snoc, if_neg (by rw [HGOOD.out]; decide), List.append_nil]; exact HOWNA.out
              have HRELN := Lib.hid hrelN
              clear hrelN
              go_roundw
              case rel => exact HRELN.out
              case measure => simp [intOf]; omega
            · by_cases hm1 : most < m
              · have HATA := Lib.hid (HAT.out.only (OnlyT.of_below (B := 0) (ts := []) ((Below.refl wr.heap.size wr).alloc (Nat.le_refl _) (.cells #[.int .i64 kind, .int .u64 v, .int .i64 m, .int .i64 most] 31))) (by simp) (by simp))
                have HOWNA := Lib.hid (HOWN.out.alloc (.cells #[.int .i64 kind, .int .u64 v, .int .i64 m, .int .i64 most] 31))
                have HBA := Lib.hid (HB.out.alloc hbs (.cells #[.int .i64 kind, .int .u64 v, .int .i64 m, .int .i64 most] 31))
                have HBK : Hid (Blk (wr.alloc (.cells #[.int .i64 kind, .int .u64 v, .int .i64 m, .int .i64 most] 31)) wr.heap.size 31 [.int .i64 kind, .int .u64 v, .int .i64 m, .int .i64 most]) := heap_alloc_new wr _
                have HGOOD := Lib.hid hgood
                clear hgood
                have s0 := HBK.out.cell 0
                have s2 := HBK.out.cell 2
                have s3 := HBK.out.cell 3
                simp only [List.getElem?_cons_zero, List.getElem?_cons_succ] at s0 s2 s3
                go_wp2_with (first
                  | (go_at_call 14; go_must (refine (wOnes_bad _ _ _ _ (by simp) (by omega)).mono ?_; rintro e w1 ⟨rfl, rfl⟩))
                  | (go_at_call 16; go_must (have hl := wLen_any _ _ _ _ HATA.out; rw [HLENEQ.out] at hl; refine hl.mono ?_; clear hl; rintro e w' ⟨rfl, rfl⟩)))
                have hrelN : WritesRel w ss (.int .i64 ((k : Int) + 1)) (.slice Am L cm) (wr.alloc (.cells #[.int .i64 kind, .int .u64 v, .int .i64 m, .int .i64 most] 31)) := by
                  refine ⟨k + 1, L, by have := HN.out; omega, by go_num, ?_, ?_, ?_, HBA.out⟩
                  · rw [take_snoc_st HS.out, bitsL_snoc, if_neg (by rw [HGOOD.out]; decide), List.append_nil, HL.out]
                  · rw [take_snoc_st HS.out, bitsL_snoc, if_neg (by rw [HGOOD.out]; decide), List.append_nil]; exact HATA.out
                  · rw [take_snoc_st HS.out, bitsL_snoc, if_neg (by rw [HGOOD.out]; decide), List.append_nil]; exact HOWNA.out
                have HRELN := Lib.hid hrelN
                clear hrelN
                go_roundw
                case rel => exact HRELN.out
                case measure => simp [intOf]; omega
              · have hm2 : 256 < most := by omega
                have HATA := Lib.hid (HAT.out.only (OnlyT.of_below (B := 0) (ts := []) ((Below.refl wr.heap.size wr).alloc (Nat.le_refl _) (.cells #[.int .i64 kind, .int .u64 v, .int .i64 m, .int .i64 most] 31))) (by simp) (by simp))
                have HOWNA := Lib.hid (HOWN.out.alloc (.cells #[.int .i64 kind, .int .u64 v, .int .i64 m, .int .i64 most] 31))
                have HBA := Lib.hid (HB.out.alloc hbs (.cells #[.int .i64 kind, .int .u64 v, .int .i64 m, .int .i64 most] 31))
                have HBK : Hid (Blk (wr.alloc (.cells #[.int .i64 kind, .int .u64 v, .int .i64 m, .int .i64 most] 31)) wr.heap.size 31 [.int .i64 kind, .int .u64 v, .int .i64 m, .int .i64 most]) := heap_alloc_new wr _
                have HGOOD := Lib.hid hgood
                clear hgood
                have s0 := HBK.out.cell 0
                have s2 := HBK.out.cell 2
                have s3 := HBK.out.cell 3
                simp only [List.getElem?_cons_zero, List.getElem?_cons_succ] at s0 s2 s3
                go_wp2_with (first
                  | (go_at_call 14; go_must (refine (wOnes_bad _ _ _ _ (by simp) (by omega)).mono ?_; rintro e w1 ⟨rfl, rfl⟩))
                  | (go_at_call 16; go_must (have hl := wLen_any _ _ _ _ HATA.out; rw [HLENEQ.out] at hl; refine hl.mono ?_; clear hl; rintro e w' ⟨rfl, rfl⟩)))
                have hrelN : WritesRel w ss (.int .i64 ((k : Int) + 1)) (.slice Am L cm) (wr.alloc (.cells #[.int .i64 kind, .int .u64 v, .int .i64 m, .int .i64 most] 31)) := by
                  refine ⟨k + 1, L, by have := HN.out; omega, by go_num, ?_, ?_, ?_, HBA.out⟩
                  · rw [take_snoc_st HS.out, bitsL_snoc, if_neg (by rw [HGOOD.out]; decide), List.append_nil, HL.out]
                  · rw [take_snoc_st HS.out, bitsL_snoc, if_neg (by rw [HGOOD.out]; decide), List.append_nil]; exact HATA.out
                  · rw [take_snoc_st HS.out, bitsL_snoc, if_neg (by rw [HGOOD.out]; decide), List.append_nil]; exact HOWNA.out
                have HRELN := Lib.hid hrelN
                clear hrelN
                go_roundw
                case rel => exact HRELN.out
                case measure => simp [intOf]; omega
      · obtain rfl : k = n := by have := HN.out; omega
        have hall : ss.take k = ss := by rw [← HN.out]; exact List.take_length
        have hat0 := HAT.out
        have hown0 := HOWN.out
        have hl0 := HLENEQ.out
        rw [hall] at hat0 hown0 hl0
        have HAT0 := Lib.hid hat0
        have HOWN0 := Lib.hid hown0
        have HL0 := Lib.hid hl0
        clear hall hat0 hown0 hl0 HAT HOWN
        go_wp2_with (first
          | (go_at_call 18; go_must (refine (wBytes_any w.heap.size w.heap.size _ _ HAT0.out (by have := HL0.out; have := HLEN.out; omega)).mono ?_; rintro e w1 ⟨bs, hp, v1, rfl, hown1, hb1⟩; obtain ⟨A1, c1, rfl, -, -, -⟩ := own_form hown1; have HP := Lib.hid hp; have HOWN1 := Lib.hid hown1; have HB1 := Lib.hid (HB.out.trans (hb1.mono hbs)); have HM1 := Lib.hid (own_kept HOWN0.out hb1); clear hown1 hp hb1))
          | (go_at_call 19; go_must (refine (rfBytes_any _ _ _ (bitsL ss) _ (Rd.of_own HM1.out) HL0.out HLEN.out).mono ?_; rintro e w2 ⟨bs2, hp2, v2, rfl, hown2, hb2⟩; obtain rfl := hp2.unique HP.out; obtain ⟨A2, c2, rfl, -, -, -⟩ := own_form hown2; have HR1 := Lib.hid (Rd.of_own (own_kept HOWN1.out hb2)); have HR2 := Lib.hid (Rd.of_own hown2); have HB2 := Lib.hid (HB1.out.trans (hb2.mono HB1.out.size)); clear hown2 hp2 hb2))
          | (go_at_call 17; go_must (refine (same_any _ _ _ _ _ _ _ HR1.out HR2.out rfl).mono ?_; rintro e w' ⟨rfl, rfl⟩))
          | (go_at_call 11; go_must (refine (bitKnown_any _).mono ?_; rintro e w' ⟨rfl, hb9⟩)))
        go_ret
        exact ⟨rfl, HB2.out.trans (hb9.mono HB2.out.size)⟩
end Go.Proofs.Ytgchomeipmjifaa
