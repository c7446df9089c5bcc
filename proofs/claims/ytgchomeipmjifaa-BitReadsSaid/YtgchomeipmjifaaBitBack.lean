/- The walk of BitBack. -/
import Derived.Test.YtgchomeipmjifaaSteps
import Derived.BigQuiet
import Derived.Deep.QuietTactic
namespace Go.Proofs.Ytgchomeipmjifaa
open Go.RowKit

theorem own_none {w : World} {base : Nat} {e : TypeId} {size n c : Nat} {A : Option Addr} {xs : List Value} (h : w.ownsRow base e size (.slice A n c) n xs) : A = none → c = 0 := by
  rintro rfl
  rcases h.2 with ⟨h0, _⟩ | ⟨_, _, _, h0, _⟩
  · injection h0
  · cases h0

theorem rGet_bits {w : World} {g : Nat} (v M : Nat) (R : List Bool) (h : RdrIs w g (bitsOf v M ++ R) 0) (hM : M ≤ 64) :
    Calls Try.prog 22 #[.pointer (some ⟨g, 0, none⟩), .int .i64 M] w fun e' w' => e' = .returned (.int .u64 ((v % 2 ^ M : Nat) : Int)) ∧ RdrIs w' g R 0 ∧ OnlyT g [67] w w' := by
  have hG := rGet_ok (w := w) (g := g) M h hM (by rw [List.length_append, bitsOf_length]; omega)
  rw [List.take_left' (bitsOf_length v M), valOf_bitsOf, List.drop_left' (bitsOf_length v M)] at hG
  exact hG
theorem rOnes_bits {w : World} {g : Nat} (n m : Nat) (R : List Bool) (h : RdrIs w g (onesOf n m ++ R) 0) (hn : n ≤ m) (hm : m ≤ 256) :
    Calls Try.prog 24 #[.pointer (some ⟨g, 0, none⟩), .int .i64 m] w fun e' w' => e' = .returned (.int .i64 n) ∧ RdrIs w' g R 0 ∧ OnlyT g [67] w w' := by
  unfold onesOf at h
  by_cases hlt : n < m
  · rw [if_pos hlt, List.append_assoc] at h
    exact rOnes_stop m n R h hm hlt rfl
  · obtain rfl : n = m := by omega
    rw [if_neg hlt, List.append_nil] at h
    exact rOnes_full n R h hm rfl

theorem below_drewN' {B : Nat} {a w : World} (h : Below B a w) (n : Nat) : Below B a (w.drewN n) := ⟨h.os, h.tape, h.output, h.size, h.block⟩

/-- What holds at the head of a round of the second loop. -/
def BackRel2 (w : World) (gs : List St) (gr P : Nat) (A : Option Addr) (i : Value) (wr : World) : Prop :=
  ∃ j : Nat, j ≤ gs.length ∧ i = .int .i64 j ∧ RdrIs wr gr ((gs.drop j).flatMap bitsS ++ List.replicate P false) 0 ∧ RdT wr 31 A (gs.flatMap stCells) ∧ Below w.heap.size w wr

/-- What holds at the head of a round of the first loop. -/
def BackRel1 (w : World) (ss : List St) (i p : Value) (wr : World) : Prop :=
  ∃ k : Nat, k ≤ ss.length ∧ i = .int .i64 k ∧ WrAt wr w.heap.size w.heap.size (bitsL (ss.take k)) ∧
    wr.ownsRow w.heap.size 31 4 p ((ss.take k).filter good).length (((ss.take k).filter good).flatMap stCells) ∧ Below w.heap.size w wr

set_option maxHeartbeats 4000000 in
set_option maxRecDepth 100000 in
theorem bitBack_any (A : Option Addr) (n c : Nat) (ss : List St) (w : World) (hr : RdSt w w.heap.size A ss) (hok : ∀ s ∈ ss, StOk s) (hn : ss.length = n) (hn1 : n ≤ 9223372036854775807) :
    Calls Try.prog 5 #[.slice A n c] w (YesB w) := by
  by_cases h100 : (60 : Int) < n
  · go_enter Try.func5, Try.ntmps5
    go_wp2_with (go_at_call 11; refine (bitKnown_any _).mono ?_; rintro e w' ⟨rfl, hb⟩)
    go_ret
    exact ⟨rfl, hb⟩
  · obtain ⟨i0, hi, hz0, hz1, hz2⟩ := info_parts info_st
    have hn60 : n ≤ 60 := by omega
    have HN := Lib.hid hn
    have HOK := Lib.hid hok
    have HR := Lib.hid hr
    clear hn hok hr hn1
    go_enter Try.func5, Try.ntmps5
    go_wp2
    go_loopw [5, 4] (BackRel1 w ss) (fun i _ _ => n - (intOf i).toNat)
    case atStart => exact ⟨0, Nat.zero_le _, rfl, wrAt_new w _ (Nat.le_refl _), World.ownsRow_nil _ _ _ _, (Below.refl _ _).alloc (Nat.le_refl _) _⟩
    case round =>
      obtain ⟨k, hk, rfl, hat, hown, hb⟩ := hrel
      have HAT := Lib.hid hat
      have HOWN := Lib.hid hown
      have HB := Lib.hid hb
      have hbs := hb.size
      clear hat hown hb
      by_cases hlt : k < n
      · obtain ⟨s, hs⟩ : ∃ s, ss[k]? = some s := ⟨ss[k]'(by have := HN.out; omega), by simp⟩
        obtain ⟨b, off, rfl, hbl, h0, h1, h2, h3⟩ := (HR.out.below HB.out) k s hs
        have hsok := HOK.out s (List.mem_of_getElem? hs)
        have hlen := bitsL_len (ss.take k)
        have hlen2 : (bitsL (ss.take k)).length < 900000000 := by rw [List.length_take] at hlen; omega
        have HLEN := Lib.hid hlen2
        have HS := Lib.hid hs
        obtain ⟨kind, v, m, most⟩ := s
        have HV := Lib.hid hsok.2.1
        simp only at h0 h1 h2 h3
        clear hlen hlen2 hs hsok
        by_cases hk0 : kind = 0
        · subst hk0
          by_cases hg : 0 ≤ m ∧ m ≤ 64
          · obtain ⟨hg0, hg1⟩ := hg
            obtain ⟨M, rfl⟩ := Int.eq_ofNat_of_zero_le hg0
            have hgood : good ⟨0, v, M, most⟩ = true := by simp [good]; omega
            have HATA := Lib.hid (HAT.out.only (OnlyT.of_below (B := 0) (ts := []) ((Below.refl wr.heap.size wr).alloc (Nat.le_refl _) (.cells #[.int .i64 0, .int .u64 v, .int .i64 M, .int .i64 most] 31))) (by simp) (by simp))
            have HOWNA := Lib.hid (HOWN.out.alloc (.cells #[.int .i64 0, .int .u64 v, .int .i64 M, .int .i64 most] 31))
            have HBA := Lib.hid (HB.out.alloc hbs (.cells #[.int .i64 0, .int .u64 v, .int .i64 M, .int .i64 most] 31))
            have HBK : Hid (Blk (wr.alloc (.cells #[.int .i64 0, .int .u64 v, .int .i64 M, .int .i64 most] 31)) wr.heap.size 31 [.int .i64 0, .int .u64 v, .int .i64 M, .int .i64 most]) := heap_alloc_new wr _
            have HFL : Hid (((ss.take k).filter good).length ≤ 60) := by
              have h1 := List.length_filter_le good (ss.take k)
              rw [List.length_take] at h1
              exact Nat.le_trans h1 (by omega)
            go_wp2_with (first
              | (go_at_call 12; go_must (refine (wPut_any w.heap.size w.heap.size _ v M _ (HATA.out) HLEN.out HV.out (by omega)).mono ?_; rintro e w1 ⟨rfl, hat1, ho1⟩; have HAT1 := Lib.hid hat1; have HO1 := Lib.hid ho1; have HB1 := Lib.hid (HBA.out.trans (ho1.below (by simp; omega))); have HOWN1 := Lib.hid (own_only HOWNA.out ho1 (by decide)); have hbk1 := HBK.out.only ho1 (by decide); have s0 := hbk1.cell 0; have s1 := hbk1.cell 1; have s2 := hbk1.cell 2; have s3 := hbk1.cell 3; simp only [List.getElem?_cons_zero, List.getElem?_cons_succ] at s0 s1 s2 s3; clear hat1 ho1 hbk1))
              | (at_builtin; go_must (refine wpList_app rfl (.tmp 53) (.tmp 55) 22 rfl w.heap.size 31 i0 _ 4 32 Try.underlying22 hi hz0 hz1 hz2 rfl (by decide) _ _ _ rfl (HOWN1.out.alloc _) _ _ 1 1 _ rfl (Rd.new _ _ _) rfl (by intro u hu; simp at hu; rcases hu with rfl | rfl | rfl | rfl <;> rfl) (by have := HFL.out; simp only [maxLen]; omega) (by have := HFL.out; omega) (by have := HB1.out.size; simp; omega) ?_; intro v2 w2 hown2 hg2; have HOWN2 := Lib.hid hown2; have HO2 := Lib.hid ((OnlyT.of_below (B := w.heap.size) (ts := [31]) ((Below.refl w1.heap.size w1).alloc (Nat.le_refl _) _)).trans (OnlyT.grown hg2 (own_type (HOWN1.out.alloc _)) (by simp))); clear hown2 hg2)))
            have hrelN : BackRel1 w ss (.int .i64 ((k : Int) + 1)) v2 w2 := by
              refine ⟨k + 1, by have := HN.out; omega, by go_num, ?_, ?_, HB1.out.trans (HO2.out.below HB1.out.size)⟩
              · rw [take_snoc_st HS.out, bitsL_snoc, if_pos hgood]
                exact HAT1.out.only HO2.out (by decide) (by decide)
              · rw [take_snoc_st HS.out, filter_snoc, if_pos hgood, List.flatMap_append, List.length_append]
                exact HOWN2.out
            go_roundw
            case rel => exact hrelN
            case measure => simp [intOf]; omega
          · have hgood : good ⟨0, v, m, most⟩ = false := by simp [good]; omega
            have HATA := Lib.hid (HAT.out.only (OnlyT.of_below (B := 0) (ts := []) ((Below.refl wr.heap.size wr).alloc (Nat.le_refl _) (.cells #[.int .i64 0, .int .u64 v, .int .i64 m, .int .i64 most] 31))) (by simp) (by simp))
            have HOWNA := Lib.hid (HOWN.out.alloc (.cells #[.int .i64 0, .int .u64 v, .int .i64 m, .int .i64 most] 31))
            have HBA := Lib.hid (HB.out.alloc hbs (.cells #[.int .i64 0, .int .u64 v, .int .i64 m, .int .i64 most] 31))
            have HBK : Hid (Blk (wr.alloc (.cells #[.int .i64 0, .int .u64 v, .int .i64 m, .int .i64 most] 31)) wr.heap.size 31 [.int .i64 0, .int .u64 v, .int .i64 m, .int .i64 most]) := heap_alloc_new wr _
            have HFL : Hid (((ss.take k).filter good).length ≤ 60) := by
              have h1 := List.length_filter_le good (ss.take k)
              rw [List.length_take] at h1
              exact Nat.le_trans h1 (by omega)
            go_wp2_with (go_at_call 12; go_must (refine (wPut_bad _ _ _ _ (by simp) (by omega)).mono ?_; rintro e w1 ⟨rfl, rfl⟩))
            have hrelN : BackRel1 w ss (.int .i64 ((k : Int) + 1)) u4 (wr.alloc (.cells #[.int .i64 0, .int .u64 v, .int .i64 m, .int .i64 most] 31)) := by
              refine ⟨k + 1, by have := HN.out; omega, by go_num, ?_, ?_, HBA.out⟩
              · rw [take_snoc_st HS.out, bitsL_snoc, if_neg (by rw [hgood]; decide), List.append_nil]
                exact HATA.out
              · rw [take_snoc_st HS.out, filter_snoc, if_neg (by rw [hgood]; decide), List.append_nil]
                exact HOWNA.out
            go_roundw
            case rel => exact hrelN
            case measure => simp [intOf]; omega
        · have hk0f : (kind == 0) = false := by rw [beq_eq_false_iff_ne]; exact hk0
          have hk0t : (kind != 0) = true := by rw [bne_iff_ne]; exact hk0
          by_cases hg : 0 ≤ m ∧ m ≤ most ∧ most ≤ 256
          · obtain ⟨hg0, hg1, hg2⟩ := hg
            obtain ⟨M, rfl⟩ := Int.eq_ofNat_of_zero_le hg0
            obtain ⟨Q, rfl⟩ := Int.eq_ofNat_of_zero_le (Int.le_trans hg0 hg1)
            have hgood : good ⟨kind, v, M, Q⟩ = true := by simp [good, hk0]; omega
            have hbS : bitsS ⟨kind, v, M, Q⟩ = onesOf M Q := by simp [bitsS, hk0]
            have HBS := Lib.hid hbS
            have HK0 := Lib.hid hk0
            clear hbS hk0
            have HATA := Lib.hid (HAT.out.only (OnlyT.of_below (B := 0) (ts := []) ((Below.refl wr.heap.size wr).alloc (Nat.le_refl _) (.cells #[.int .i64 kind, .int .u64 v, .int .i64 M, .int .i64 Q] 31))) (by simp) (by simp))
            have HOWNA := Lib.hid (HOWN.out.alloc (.cells #[.int .i64 kind, .int .u64 v, .int .i64 M, .int .i64 Q] 31))
            have HBA := Lib.hid (HB.out.alloc hbs (.cells #[.int .i64 kind, .int .u64 v, .int .i64 M, .int .i64 Q] 31))
            have HBK : Hid (Blk (wr.alloc (.cells #[.int .i64 kind, .int .u64 v, .int .i64 M, .int .i64 Q] 31)) wr.heap.size 31 [.int .i64 kind, .int .u64 v, .int .i64 M, .int .i64 Q]) := heap_alloc_new wr _
            have HFL : Hid (((ss.take k).filter good).length ≤ 60) := by
              have h1 := List.length_filter_le good (ss.take k)
              rw [List.length_take] at h1
              exact Nat.le_trans h1 (by omega)
            go_wp2_with (first
              | (go_at_call 14; go_must (refine (wOnes_any w.heap.size w.heap.size _ M Q _ (HATA.out) HLEN.out (by omega) (by omega)).mono ?_; rintro e w1 ⟨rfl, hat1, ho1⟩; have HAT1 := Lib.hid hat1; have HO1 := Lib.hid ho1; have HB1 := Lib.hid (HBA.out.trans (ho1.below (by simp; omega))); have HOWN1 := Lib.hid (own_only HOWNA.out ho1 (by decide)); have hbk1 := HBK.out.only ho1 (by decide); have s0 := hbk1.cell 0; have s1 := hbk1.cell 1; have s2 := hbk1.cell 2; have s3 := hbk1.cell 3; simp only [List.getElem?_cons_zero, List.getElem?_cons_succ] at s0 s1 s2 s3; clear hat1 ho1 hbk1))
              | (at_builtin; go_must (refine wpList_app rfl (.tmp 53) (.tmp 55) 22 rfl w.heap.size 31 i0 _ 4 32 Try.underlying22 hi hz0 hz1 hz2 rfl (by decide) _ _ _ rfl (HOWN1.out.alloc _) _ _ 1 1 _ rfl (Rd.new _ _ _) rfl (by intro u hu; simp at hu; rcases hu with rfl | rfl | rfl | rfl <;> rfl) (by have := HFL.out; simp only [maxLen]; omega) (by have := HFL.out; omega) (by have := HB1.out.size; simp; omega) ?_; intro v2 w2 hown2 hg2; have HOWN2 := Lib.hid hown2; have HO2 := Lib.hid ((OnlyT.of_below (B := w.heap.size) (ts := [31]) ((Below.refl w1.heap.size w1).alloc (Nat.le_refl _) _)).trans (OnlyT.grown hg2 (own_type (HOWN1.out.alloc _)) (by simp))); clear hown2 hg2)))
            have hrelN : BackRel1 w ss (.int .i64 ((k : Int) + 1)) v2 w2 := by
              refine ⟨k + 1, by have := HN.out; omega, by go_num, ?_, ?_, HB1.out.trans (HO2.out.below HB1.out.size)⟩
              · rw [take_snoc_st HS.out, bitsL_snoc, if_pos hgood]
                rw [HBS.out]
                exact HAT1.out.only HO2.out (by decide) (by decide)
              · rw [take_snoc_st HS.out, filter_snoc, if_pos hgood, List.flatMap_append, List.length_append]
                exact HOWN2.out
            go_roundw
            case rel => exact hrelN
            case measure => simp [intOf]; omega
          · have hgood : good ⟨kind, v, m, most⟩ = false := by simp [good, hk0]; omega
            have HK0 := Lib.hid hk0
            clear hk0
            have HATA := Lib.hid (HAT.out.only (OnlyT.of_below (B := 0) (ts := []) ((Below.refl wr.heap.size wr).alloc (Nat.le_refl _) (.cells #[.int .i64 kind, .int .u64 v, .int .i64 m, .int .i64 most] 31))) (by simp) (by simp))
            have HOWNA := Lib.hid (HOWN.out.alloc (.cells #[.int .i64 kind, .int .u64 v, .int .i64 m, .int .i64 most] 31))
            have HBA := Lib.hid (HB.out.alloc hbs (.cells #[.int .i64 kind, .int .u64 v, .int .i64 m, .int .i64 most] 31))
            have HBK : Hid (Blk (wr.alloc (.cells #[.int .i64 kind, .int .u64 v, .int .i64 m, .int .i64 most] 31)) wr.heap.size 31 [.int .i64 kind, .int .u64 v, .int .i64 m, .int .i64 most]) := heap_alloc_new wr _
            have HFL : Hid (((ss.take k).filter good).length ≤ 60) := by
              have h1 := List.length_filter_le good (ss.take k)
              rw [List.length_take] at h1
              exact Nat.le_trans h1 (by omega)
            go_wp2_with (go_at_call 14; go_must (refine (wOnes_bad _ _ _ _ (by simp) (by omega)).mono ?_; rintro e w1 ⟨rfl, rfl⟩))
            have hrelN : BackRel1 w ss (.int .i64 ((k : Int) + 1)) u4 (wr.alloc (.cells #[.int .i64 kind, .int .u64 v, .int .i64 m, .int .i64 most] 31)) := by
              refine ⟨k + 1, by have := HN.out; omega, by go_num, ?_, ?_, HBA.out⟩
              · rw [take_snoc_st HS.out, bitsL_snoc, if_neg (by rw [hgood]; decide), List.append_nil]
                exact HATA.out
              · rw [take_snoc_st HS.out, filter_snoc, if_neg (by rw [hgood]; decide), List.append_nil]
                exact HOWNA.out
            go_roundw
            case rel => exact hrelN
            case measure => simp [intOf]; omega
      · obtain rfl : k = n := by have := HN.out; omega
        obtain ⟨gs, hgs⟩ : ∃ gs, gs = ss.filter good := ⟨_, rfl⟩
        have htk : ss.take k = ss := List.take_of_length_le (by have := HN.out; omega)
        have hown0 := HOWN.out
        rw [htk, ← hgs] at hown0
        obtain ⟨Ap, cp, rfl, hcp, -, -⟩ := own_form hown0
        have hrt := RdT.of_own hown0
        have hat0 := HAT.out
        rw [htk] at hat0
        have hgl : gs.length ≤ 60 := by
          have h1 := List.length_filter_le good ss
          have := HN.out
          rw [hgs]; omega
        obtain ⟨mg, hmg⟩ : ∃ mg, mg = gs.length := ⟨_, rfl⟩
        have hbl := bitsL_len ss
        have hbl2 : (bitsL ss).length < 900000000 := by have := HN.out; omega
        have hgood : ∀ s ∈ gs, good s = true := fun s h => by rw [hgs] at h; exact (List.mem_filter.1 h).2
        have hokg : ∀ s ∈ gs, StOk s := fun s h => by rw [hgs] at h; exact HOK.out s (List.mem_filter.1 h).1
        have hbL : bitsL ss = gs.flatMap bitsS := by rw [hgs]; rfl
        have HAT0 := Lib.hid hat0
        have HRT := Lib.hid hrt
        have HBL := Lib.hid hbl2
        have HGOOD := Lib.hid hgood
        have HOKG := Lib.hid hokg
        have HBLL := Lib.hid hbL
        have HMG := Lib.hid hmg
        have hgl2 : mg ≤ 60 := by omega
        rw [← hmg] at hcp ⊢
        have hgw : w.heap.size < wr.heap.size := by obtain ⟨_, _, hb0, _⟩ := hat0; exact hb0.lt
        clear hown0 hrt hat0 hbl hbl2 hgood hokg hbL htk hgs HAT HOWN hgl hmg
        go_wp2_with (first
          | (go_at_call 18; go_must (refine (wBytes_any w.heap.size w.heap.size _ _ HAT0.out (by have := HBL.out; omega)).mono ?_; rintro e w1 ⟨bs, hp, v1, rfl, hown1, hb1⟩; obtain ⟨A1, c1, rfl, hc1, -, -⟩ := own_form hown1; have HNIL := Lib.hid (own_none hown1); have HRD1 := Lib.hid (Rd.of_own hown1); have HP := Lib.hid hp; have HB1 := Lib.hid (HB.out.trans (hb1.mono hbs)); have HRT1 := Lib.hid (HRT.out.only (OnlyT.of_below (B := 0) (ts := []) hb1) (by simp)); clear hown1 hp hb1))
          | (go_at_call 20; go_must (refine (read_any _ _ _ bs _ HRD1.out rfl (by have := HP.out.1; have := HBL.out; omega) HNIL.out).mono ?_; rintro e w2 ⟨gr, rfl, hgr, hrd2, hb2⟩; have HRD2 := Lib.hid hrd2; have HB2 := Lib.hid (HB1.out.trans (hb2.mono HB1.out.size)); have HRT2 := Lib.hid (HRT1.out.only (OnlyT.of_below (B := 0) (ts := []) hb2) (by simp)); have HGR : w.heap.size ≤ gr := Nat.le_trans HB1.out.size hgr; clear hrd2 hb2 hgr)))
        obtain ⟨P, hP, hall⟩ : ∃ P, P < 8 ∧ allBits bs = gs.flatMap bitsS ++ List.replicate P false := by
          refine ⟨8 * bs.length - (bitsL ss).length, ?_, by rw [← HBLL.out]; exact HP.out.all⟩
          have := HP.out.1
          omega
        have hrd3 := HRD2.out
        rw [hall] at hrd3
        have HRD3 := Lib.hid hrd3
        clear hall hrd3
        go_loopw [8] (BackRel2 w gs gr P Ap) (fun i _ => mg - (intOf i).toNat)
        case atStart => exact ⟨0, Nat.zero_le _, rfl, HRD3.out, HRT2.out, HB2.out⟩
        case round =>
          clear HRD1 HRD2 HRD3 HRT HRT1 HRT2 HB HB1 HB2 HP HAT0 HNIL
          obtain ⟨j, hj, rfl, hrd, hrt, hb⟩ := hrel
          have HRD := Lib.hid hrd
          have HRT := Lib.hid hrt
          have HB := Lib.hid hb
          have hbs := hb.size
          clear hrd hrt hb
          by_cases hlt : j < mg
          · obtain ⟨s, hs⟩ : ∃ s, gs[j]? = some s := ⟨gs[j]'(by have := HMG.out; omega), by simp⟩
            obtain ⟨b, off, rfl, hbl, h0, h1, h2, h3⟩ := HRT.out.steps hs
            have hg := HGOOD.out s (List.mem_of_getElem? hs)
            have hso := HOKG.out s (List.mem_of_getElem? hs)
            have hdrop : gs.drop j = s :: gs.drop (j + 1) := by
              obtain ⟨hl, he⟩ := List.getElem?_eq_some_iff.1 hs
              rw [List.drop_eq_getElem_cons hl, he]
            have hrdn := HRD.out
            rw [hdrop, List.flatMap_cons, List.append_assoc] at hrdn
            have HRDN := Lib.hid hrdn
            obtain ⟨kind, v, m, most⟩ := s
            simp only at h0 h1 h2 h3
            have HV := Lib.hid hso.2.1
            clear hdrop hrdn hs hso hbl
            by_cases hk0 : kind = 0
            · subst hk0
              simp only [good, if_true, decide_eq_true_eq] at hg
              obtain ⟨M, rfl⟩ := Int.eq_ofNat_of_zero_le hg.1
              have hM := hg.2
              clear hg
              have hgrl : gr < wr.heap.size := by obtain ⟨_, _, _, _, hb0, _⟩ := HRDN.out; exact hb0.lt
              have hbS : bitsS ⟨0, v, (M : Int), most⟩ = bitsOf v M := by simp [bitsS]
              have hrdm := HRDN.out
              rw [hbS] at hrdm
              have HRDM := Lib.hid hrdm
              have hG := fun (W : World) (H : RdrIs W gr (bitsOf v M ++ ((gs.drop (j + 1)).flatMap bitsS ++ List.replicate P false)) 0) => rGet_bits v M _ H (by omega)
              obtain ⟨X, hX⟩ : ∃ X, X = v % 2 ^ M := ⟨_, rfl⟩
              rw [← hX] at hG
              have HGET := Lib.hid hG
              have HX := Lib.hid hX
              clear hbS hrdm hG hX
              have ho : ∀ nq, OnlyT 0 [] wr ((wr.alloc (.cells #[.int .i64 0, .int .u64 v, .int .i64 M, .int .i64 most] 31)).drewN nq) := fun nq => (OnlyT.of_below ((Below.refl _ _).alloc (Nat.le_refl _) _)).drewN nq
              have HO := Lib.hid ho
              have hbk : Blk (wr.alloc (.cells #[.int .i64 0, .int .u64 v, .int .i64 M, .int .i64 most] 31)) wr.heap.size 31 [.int .i64 0, .int .u64 v, .int .i64 M, .int .i64 most] := heap_alloc_new wr _
              have HBK := Lib.hid hbk
              clear ho hbk
              go_wp2
              go_quiet (fail)
              go_wp2_with (go_at_call 22; go_must (refine (HGET.out _ (HRDM.out.only (HO.out nq) (by simp) (by simp))).mono ?_; rintro e w1 ⟨rfl, hrd1, ho1⟩; have HRD1 := Lib.hid hrd1; have HO1 := Lib.hid ho1; have hbk1 := HBK.out.only (w := (wr.alloc (.cells #[.int .i64 0, .int .u64 v, .int .i64 M, .int .i64 most] 31)).drewN nq) ho1 (by decide); have s0 := hbk1.cell 0; have s1 := hbk1.cell 1; have s2 := hbk1.cell 2; simp only [List.getElem?_cons_zero, List.getElem?_cons_succ] at s0 s1 s2; clear hrd1 ho1 hbk1))
              have hrelN : ∀ nq, BackRel2 w gs gr P (some ⟨b, off, none⟩) (.int .i64 ((j : Int) + 1)) (w1.drewN nq) := fun nq2 => by
                refine ⟨j + 1, by have := HMG.out; omega, by go_num, (HRD1.out.only ((OnlyT.refl 0 [] w1).drewN nq2) (by simp) (by simp)), ?_, ?_⟩
                · exact (HRT.out.only (HO.out nq) (by simp)).only (HO1.out.drewN nq2) (by decide)
                · exact (below_drewN' (HB.out.alloc hbs _) nq).trans (((HO1.out.drewN nq2).below (by simp; omega)).mono HGR)
              have HREL := Lib.hid hrelN
              clear hrelN
              by_cases hM64 : M < 64
              · have hMi : (M : Int) < 64 := by omega
                have hpl : 2 ^ M ≤ 2 ^ 63 := Nat.pow_le_pow_right (by decide) (by omega)
                have hpp : 0 < 2 ^ M := Nat.pow_pos (by decide)
                obtain ⟨D, hD⟩ : ∃ D, D = 2 ^ M := ⟨_, rfl⟩
                rw [← hD] at hpl hpp
                have hw : IntKind.u64.wrap (2 ^ M) = (D : Int) := by
                  have e : (2 : Int) ^ M = ((2 ^ M : Nat) : Int) := by simp
                  rw [e, ← hD, IntKind.wrap_u64]; omega
                have hD0 : ¬ D = 0 := by omega
                have hXD : X = v % D := by rw [HX.out, hD]
                have hne1 : ((X : Int) != (v : Int).tmod (D : Int)) = false := by rw [hXD, bne_eq_false_iff_eq]; rfl
                have hne2 : ((X : Int) != (v : Int) % (D : Int)) = false := by rw [hXD, bne_eq_false_iff_eq]; rfl
                have hM6 : ((M : Int) == 64) = false := by rw [beq_eq_false_iff_ne]; omega
                clear hpl hpp hD hXD
                go_quiet (fail)
                go_wp2
                go_roundw
                case rel => exact HREL.out _
                case measure => simp [intOf]; omega
              · obtain rfl : M = 64 := by omega
                have hne3 : ((X : Int) != (v : Int)) = false := by
                  rw [HX.out, bne_eq_false_iff_eq, Nat.mod_eq_of_lt (by have := HV.out; omega)]
                go_quiet (fail)
                go_wp2
                go_roundw
                case rel => exact HREL.out _
                case measure => simp [intOf]; omega
            · have hk0f : (kind == 0) = false := by rw [beq_eq_false_iff_ne]; exact hk0
              have hk0t : (kind != 0) = true := by rw [bne_iff_ne]; exact hk0
              simp only [good, if_neg hk0, decide_eq_true_eq] at hg
              obtain ⟨M, rfl⟩ := Int.eq_ofNat_of_zero_le hg.1
              obtain ⟨Q, rfl⟩ := Int.eq_ofNat_of_zero_le (Int.le_trans hg.1 hg.2.1)
              have hMQ := hg.2.1
              have hQ := hg.2.2
              clear hg
              have hgrl : gr < wr.heap.size := by obtain ⟨_, _, _, _, hb0, _⟩ := HRDN.out; exact hb0.lt
              have hbS : bitsS ⟨kind, v, (M : Int), (Q : Int)⟩ = onesOf M Q := by simp [bitsS, hk0]
              have hrdm := HRDN.out
              rw [hbS] at hrdm
              have HRDM := Lib.hid hrdm
              have hG := fun (W : World) (H : RdrIs W gr (onesOf M Q ++ ((gs.drop (j + 1)).flatMap bitsS ++ List.replicate P false)) 0) => rOnes_bits M Q _ H (by omega) (by omega)
              have HGET := Lib.hid hG
              have HK0 := Lib.hid hk0
              clear hbS hrdm hG hk0
              have ho : OnlyT 0 [] wr (wr.alloc (.cells #[.int .i64 kind, .int .u64 v, .int .i64 M, .int .i64 Q] 31)).drew := (OnlyT.of_below ((Below.refl _ _).alloc (Nat.le_refl _) _)).drew
              have HO := Lib.hid ho
              have hbk : Blk (wr.alloc (.cells #[.int .i64 kind, .int .u64 v, .int .i64 M, .int .i64 Q] 31)).drew wr.heap.size 31 [.int .i64 kind, .int .u64 v, .int .i64 M, .int .i64 Q] := heap_alloc_new wr _
              have s0 := hbk.cell 0
              have s2 := hbk.cell 2
              have s3 := hbk.cell 3
              simp only [List.getElem?_cons_zero, List.getElem?_cons_succ] at s0 s2 s3
              have HBK := Lib.hid hbk
              have S0 := Lib.hid s0
              have S2 := Lib.hid s2
              have S3 := Lib.hid s3
              have HRDA := Lib.hid (HRDM.out.only HO.out (by simp) (by simp))
              clear ho hbk s0 s2 s3
              go_wp2
              go_region_held3 (fun w' => w'.cell? ⟨wr.heap.size, 0, none⟩ = some (.int .i64 kind) ∧ w'.cell? ⟨wr.heap.size, 2, none⟩ = some (.int .i64 M) ∧ w'.cell? ⟨wr.heap.size, 3, none⟩ = some (.int .i64 Q)) (first | exact ⟨S0.out, S2.out, S3.out⟩ | exact ⟨T0.out, T2.out, T3.out⟩)
                (first | (go_at_call 24; refine (HGET.out _ HRDA.out).mono ?_; rintro e w1 ⟨rfl, hrd1, ho1⟩; have HRD1 := Lib.hid hrd1; have HO1 := Lib.hid ho1; have hbk1 := HBK.out.only ho1 (by decide); have t0 := hbk1.cell 0; have t2 := hbk1.cell 2; have t3 := hbk1.cell 3; simp only [List.getElem?_cons_zero, List.getElem?_cons_succ] at t0 t2 t3; have T0 := Lib.hid t0; have T2 := Lib.hid t2; have T3 := Lib.hid t3; clear hrd1 ho1 hbk1 t0 t2 t3))
              have t0 := T0.out
              have hrelN : BackRel2 w gs gr P (some ⟨b, off, none⟩) (.int .i64 ((j : Int) + 1)) w1 := by
                refine ⟨j + 1, by have := HMG.out; omega, by go_num, HRD1.out, ?_, ?_⟩
                · exact (HRT.out.only HO.out (by simp)).only HO1.out (by decide)
                · exact (HB.out.alloc hbs _).drew.trans ((HO1.out.below (by simp; omega)).mono HGR)
              have HREL := Lib.hid hrelN
              clear hrelN
              go_wp2
              go_roundw
              case rel => exact HREL.out
              case measure => simp [intOf]; omega
          · obtain rfl : j = mg := by have := HMG.out; omega
            have hrde := HRD.out
            rw [List.drop_of_length_le (by have := HMG.out; omega), List.flatMap_nil, List.nil_append] at hrde
            have hleft := rLeft_is (w := wr.drew) (g := gr) hrde
            rw [List.length_replicate] at hleft
            have HLEFT := Lib.hid hleft
            have HRDE := Lib.hid hrde
            have hPi : (P : Int) < 8 := by omega
            clear hrde hleft
            go_wp2_with (first
              | (go_at_call 29; go_must (refine (rDone_ok P HRDE.out (by omega) rfl).mono ?_; rintro e w' ⟨rfl, rfl⟩))
              | (go_at_call 27; go_must (refine HLEFT.out.mono ?_; rintro e w' ⟨rfl, rfl⟩))
              | (go_at_call 11; go_must (refine (bitKnown_any _).mono ?_; rintro e w' ⟨rfl, hb9⟩)))
            go_ret
            exact ⟨rfl, HB.out.drew.drew.trans (hb9.mono (by simpa using hbs))⟩
end Go.Proofs.Ytgchomeipmjifaa
