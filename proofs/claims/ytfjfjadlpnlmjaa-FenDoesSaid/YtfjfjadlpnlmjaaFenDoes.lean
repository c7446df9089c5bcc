/- Layer 12: the law FenDoes. -/
import Derived.Test.YtfjfjadlpnlmjaaFenBoth
namespace Go.Proofs.Ytfjfjadlpnlmjaa
open Go.RowKit Go.Sort

set_option maxHeartbeats 8000000 in
set_option maxRecDepth 100000 in
theorem fenDoes_some (n : Nat) (h1 : 1 ≤ n) (h60 : n ≤ 60) (A : Option Addr) (L m : Nat) (ss : List S3) (w : World) (hr : RdS3 w w.heap.size A ss) (hok : ∀ s ∈ ss, S3Ok s) (hL : ss.length = L) (hL60 : L ≤ 60) :
    Calls Try.prog 3 #[.int .i64 (n : Int), .slice A L m] w (Yes w) := by
  obtain ⟨i0, hi, hz0, hz1, hz2⟩ := info_parts info_int12
  have CK := Lib.hid fenKnown_any
  have CN := Lib.hid (fenNew_any n w h1 (by omega))
  have HR := Lib.hid hr
  have HOK := Lib.hid hok
  have HL := Lib.hid hL
  clear hr hok hL
  have a1 : ¬ ((60 : Int) < (n : Int)) := by omega
  have a2 : ¬ ((60 : Int) < (L : Int)) := by omega
  have a3 : ¬ ((n : Int) < 1) := by omega
  go_enter Try.func3, Try.ntmps3
  go_wp2_with fail
  refine CN.out.mono ?_
  rintro e w1 ⟨T, rfl, S, ht1, ⟨hT, hS⟩, hb1⟩
  have HT1 := Lib.hid ht1
  have HB1 := Lib.hid hb1
  have HTS := Lib.hid (And.intro hT hS)
  clear ht1 hb1 hT hS
  go_wp2_with (at_make; go_must (refine wpList_mk rfl (.tmp 40) (.tmp 40) 26 rfl w1.heap.size 3 i0 (.int .i64 0) 8 Try.underlying26 hi hz0 rfl hz1 hz2 .i64 .i64 _ _ rfl rfl n n rfl rfl (Nat.le_refl _) (by omega) (by simp only [maxLen]; omega) (Nat.le_refl _) ?_; intro w2 hg2 hown2 hgr2; have hb2 : Below w1.heap.size w1 w2 := (Below.refl _ _).grown hgr2 (Nat.le_refl _) (by simp); clear hg2 hgr2))
  obtain ⟨B, hB⟩ : ∃ B, B = w1.heap.size := ⟨_, rfl⟩
  have hboth : Both w w2 B T S n (.slice (some ⟨w1.heap.size, 0, none⟩) n n) (List.replicate n 0) := by
    have hx := HT1.out.grow hb2
    exact ⟨hx, by simp, by rw [hB]; simpa [zvs] using hown2, HB1.out.trans (hb2.mono HB1.out.size), by rw [hB]; exact hb2.size, HTS.out.1, HTS.out.2, by rw [hB]; exact HT1.out.2.tb.lt, by rw [hB]; exact HT1.out.2.sb.lt⟩
  have HBOTH := Lib.hid hboth
  clear hboth hown2 hb2 hB
  go_loopw [6, 7] (fun mm ii wr => ∃ (k : Nat) (c : List Int), k ≤ L ∧ ii = .int .i64 (k : Int) ∧ Both w wr B T S n mm c) (fun _ ii _ => L - (intOf ii).toNat)
  case atStart => exact ⟨0, _, Nat.zero_le _, rfl, HBOTH.out⟩
  case round =>
    clear HBOTH HT1 HB1 CN
    obtain ⟨k, c, hk, rfl, hboth⟩ := hrel
    obtain ⟨Am, cm, rfl, -, -, hform⟩ := own_form hboth.own
    obtain ⟨g, rfl, hgB, hgl⟩ : ∃ g, Am = some ⟨g, 0, none⟩ ∧ B ≤ g ∧ g < wr.heap.size := by
      rcases hform with h | h
      · omega
      · exact h
    have HBOTH := Lib.hid hboth
    have HG := Lib.hid (And.intro hgB hgl)
    clear hboth hform hgB hgl
    by_cases hlt : k < L
    · obtain ⟨s, hs⟩ : ∃ s, ss[k]? = some s := ⟨ss[k]'(by have := HL.out; omega), by simp⟩
      have hsok := HOK.out s (List.mem_of_getElem? hs)
      obtain ⟨b, off, rfl, hbl, h0, h1', h2⟩ := (HR.out.below HBOTH.out.below) k s hs
      obtain ⟨kind, I, N⟩ := s
      have HSOK := Lib.hid hsok
      simp only at h0 h1' h2
      have hki : (k : Int) < (L : Int) := by omega
      clear hs hsok hbl

      by_cases hk0 : kind = 0
      · subst hk0
        have hwaE : ∃ wa, wa = wr.alloc (.cells #[.int .i64 0, .int .i64 I, .int .i64 N] 28) := ⟨_, rfl⟩
        obtain ⟨wa, hwa⟩ := hwaE
        have hba : Below wr.heap.size wr wa := by rw [hwa]; exact (Below.refl _ _).alloc (Nat.le_refl _) _
        have HBA := Lib.hid (HBOTH.out.grow hba)
        have hbs : Blk wa wr.heap.size 28 [.int .i64 0, .int .i64 I, .int .i64 N] := by rw [hwa]; exact heap_alloc_new wr _
        have HBS := Lib.hid hbs
        have s1 := hbs.cell 1
        have s2 := hbs.cell 2
        simp only [List.getElem?_cons_zero, List.getElem?_cons_succ] at s1 s2
        have HWA := Lib.hid hwa
        have HBBA := Lib.hid hba
        clear hwa hba hbs
        by_cases hI : 0 ≤ I ∧ I < n
        · obtain ⟨hI0, hIn⟩ := hI
          obtain ⟨i, rfl⟩ := Int.eq_ofNat_of_zero_le hI0
          have hin : i < n := by omega
          have hic : i < c.length := by rw [HBA.out.len]; exact hin
          have hmc : wa.cell? ⟨g, i, none⟩ = some (.int .i64 (c[i]'hic)) := by
            rw [HBA.out.own.cellAt i (by omega), zvs_get, List.getElem?_eq_getElem hic]; rfl
          have HQ := Lib.hid (fun (W' : World) (e : W'.heap = wa.heap) => both_rsum_same HBA.out h1 h60 e)
          have hx0 := HBA.out.tree.1.2.1 _ (List.getElem_mem hic)
          have hsm0 := sum_nn12 HBA.out.tree.1.2.1
          have hsm1 := HBA.out.tree.1.2.2
          have hxs := le_sum12 HBA.out.tree.1.2.1 hic
          have hm0 : (m : Int) = (m : Int) := rfl
          have HIC := Lib.hid hic
          have hfr := HBA.out.own.frozenAt i
          have hset := HBA.out.own.stored i (.int .i64 (c[i]'hic + N))
          rw [zvs_set] at hset
          have HSET := Lib.hid hset
          obtain ⟨ci, hci⟩ : ∃ ci, ci = c[i]'hic := ⟨_, rfl⟩
          rw [← hci] at hmc hx0 hxs HSET
          obtain ⟨tot, htot⟩ : ∃ t, t = c.sum := ⟨_, rfl⟩
          rw [← htot] at HQ hsm0 hsm1 hxs
          have HCI := Lib.hid hci
          have HTOT := Lib.hid htot
          have hNr := HSOK.out.2.2
          simp only at hNr
          have hin2 : (i : Int) < (n : Int) := by omega
          clear hci htot hset hm0
          by_cases hlow : N < -ci
          · have CA := Lib.hid (fun (W : World) (h : Both w W B T S n (.slice (some ⟨g, 0, none⟩) n cm) c) => fenAdd_low (w := W) i N h.tree HIC.out (by rw [← HCI.out]; exact hlow))
            have HQ1 : Hid (decide (-ci ≤ N) = false) := by show decide (-ci ≤ N) = false;  rw [decide_eq_false_iff_not]; omega
            clear hlow
            go_wp2_with fail
            rw [← HWA.out]
            have hq1 := HQ1.out
            go_big_quiet ((go_at_call 11; exact quietOf HQ.out))
            go_wp2_with fail
            refine (CA.out (wa.drewN nq) (HBA.out.drewN nq)).mono ?_
            rintro e w4 ⟨rfl, hb4⟩
            have HBT := Lib.hid ((HBA.out.drewN nq).grow hb4)
            have hS1 := (((HBS.out).same (w' := wa.drewN nq) rfl).grow hb4).cell 1
            simp only [List.getElem?_cons_zero, List.getElem?_cons_succ] at hS1
            clear hb4 s1 s2 hmc hfr hq1
            go_wp2
            have hlen4 := HBT.out.len
            have hp : ∃ p : Nat, (p : Int) = min (max (i : Int) 0) (n : Int) := ⟨(min (max (i : Int) 0) (n : Int)).toNat, by omega⟩
            obtain ⟨p, hp⟩ := hp
            have hpn : (n : Int) = min (max (n : Int) 0) (n : Int) := by omega
            have cT := fun d os => Calls.regrown_of (quietB (both_total2 (HBT.out.grow (below_regrown w4 d os))))
            have cL := fun d os => Calls.regrown_of (quietB (both_len (HBT.out.grow (below_regrown w4 d os)) h60))
            have cB := fun d os => Calls.regrown_of (both_below (i : Int) (HBT.out.grow (below_regrown w4 d os)) p hp)
            have cR := fun d os (j : Int) (q : Nat) (hq : (q : Int) = min (max j 0) (n : Int)) => Calls.regrown_of (quietB (both_rbelow j (HBT.out.grow (below_regrown w4 d os)) h60 q hq))
            obtain ⟨F, hF⟩ : ∃ F : Nat → Int, F = fPre (c) := ⟨_, rfl⟩
            rw [← hF] at cT cB cR
            have CT := Lib.hid cT
            have CL := Lib.hid cL
            have CB := Lib.hid cB
            have CR := Lib.hid cR
            have HP := Lib.hid hp
            have HPN := Lib.hid hpn
            have k1 := cell_regrown hS1
            clear cT cL cB cR hlen4 hp hpn hS1 hF
            refine wp_region_quiet_below (by kernel_rfl) (by kernel_rfl) ?_
            repeat (go_big_quiet_step ((first | (go_at_call 17; exact CT.out _ _) | (go_at_call 18; exact CB.out _ _) | (go_at_call 19; exact CL.out _ _) | (go_at_call 11; first | exact CR.out _ _ _ _ HPN.out | exact CR.out _ _ _ _ HP.out))))
            refine wpQuiet_nil ?_
            intro _ hw'
            obtain ⟨⟨dq, osq⟩, hw''⟩ := hw'
            subst hw''
            have HBF := Lib.hid (HBT.out.grow (below_regrown w4 dq osq))
            clear k1
            go_wp2
            go_roundw
            case rel => exact ⟨k + 1, _, by omega, by go_num, HBF.out⟩
            case measure => simp [intOf]; omega
          · by_cases hhigh : 65536 - tot < N
            · have CA := Lib.hid (fun (W : World) (h : Both w W B T S n (.slice (some ⟨g, 0, none⟩) n cm) c) => fenAdd_high (w := W) i N h.tree HIC.out (by rw [← HCI.out]; omega) (by rw [← HTOT.out]; exact hhigh))
              have HQ1 : Hid (decide (-ci ≤ N) = true) := by show decide (-ci ≤ N) = true;  rw [decide_eq_true_eq]; omega
              have HQ2 : Hid (decide (N ≤ 65536 - tot) = false) := by show decide (N ≤ 65536 - tot) = false;  rw [decide_eq_false_iff_not]; omega
              clear hlow hhigh
              go_wp2_with fail
              rw [← HWA.out]
              have hq1 := HQ1.out
              have hq2 := HQ2.out
              go_big_quiet ((go_at_call 11; exact quietOf HQ.out))
              go_wp2_with fail
              refine (CA.out (wa.drewN nq) (HBA.out.drewN nq)).mono ?_
              rintro e w4 ⟨rfl, hb4⟩
              have HBT := Lib.hid ((HBA.out.drewN nq).grow hb4)
              have hS1 := (((HBS.out).same (w' := wa.drewN nq) rfl).grow hb4).cell 1
              simp only [List.getElem?_cons_zero, List.getElem?_cons_succ] at hS1
              clear hb4 s1 s2 hmc hfr hq1 hq2
              go_wp2
              have hlen4 := HBT.out.len
              have hp : ∃ p : Nat, (p : Int) = min (max (i : Int) 0) (n : Int) := ⟨(min (max (i : Int) 0) (n : Int)).toNat, by omega⟩
              obtain ⟨p, hp⟩ := hp
              have hpn : (n : Int) = min (max (n : Int) 0) (n : Int) := by omega
              have cT := fun d os => Calls.regrown_of (quietB (both_total2 (HBT.out.grow (below_regrown w4 d os))))
              have cL := fun d os => Calls.regrown_of (quietB (both_len (HBT.out.grow (below_regrown w4 d os)) h60))
              have cB := fun d os => Calls.regrown_of (both_below (i : Int) (HBT.out.grow (below_regrown w4 d os)) p hp)
              have cR := fun d os (j : Int) (q : Nat) (hq : (q : Int) = min (max j 0) (n : Int)) => Calls.regrown_of (quietB (both_rbelow j (HBT.out.grow (below_regrown w4 d os)) h60 q hq))
              obtain ⟨F, hF⟩ : ∃ F : Nat → Int, F = fPre (c) := ⟨_, rfl⟩
              rw [← hF] at cT cB cR
              have CT := Lib.hid cT
              have CL := Lib.hid cL
              have CB := Lib.hid cB
              have CR := Lib.hid cR
              have HP := Lib.hid hp
              have HPN := Lib.hid hpn
              have k1 := cell_regrown hS1
              clear cT cL cB cR hlen4 hp hpn hS1 hF
              refine wp_region_quiet_below (by kernel_rfl) (by kernel_rfl) ?_
              repeat (go_big_quiet_step ((first | (go_at_call 17; exact CT.out _ _) | (go_at_call 18; exact CB.out _ _) | (go_at_call 19; exact CL.out _ _) | (go_at_call 11; first | exact CR.out _ _ _ _ HPN.out | exact CR.out _ _ _ _ HP.out))))
              refine wpQuiet_nil ?_
              intro _ hw'
              obtain ⟨⟨dq, osq⟩, hw''⟩ := hw'
              subst hw''
              have HBF := Lib.hid (HBT.out.grow (below_regrown w4 dq osq))
              clear k1
              go_wp2
              go_roundw
              case rel => exact ⟨k + 1, _, by omega, by go_num, HBF.out⟩
              case measure => simp [intOf]; omega
            · have CA := Lib.hid (fun (W : World) (h : IsTree W T S c) => fenAdd_any (w := W) i N h HIC.out (by rw [← HCI.out]; omega) (by rw [← HTOT.out]; omega))
              rw [← HCI.out] at CA
              have HQ1 : Hid (decide (-ci ≤ N) = true) := by show decide (-ci ≤ N) = true;  rw [decide_eq_true_eq]; omega
              have HQ2 : Hid (decide (N ≤ 65536 - tot) = true) := by show decide (N ≤ 65536 - tot) = true;  rw [decide_eq_true_eq]; omega
              have hq3 : wrap64 (ci + N) = ci + N := IntWalk.wrap64_in _ (by omega)
              have HQ3 := Lib.hid hq3
              clear hlow hhigh hq3
              go_wp2_with fail
              rw [← HWA.out]
              have hq1 := HQ1.out
              have hq2 := HQ2.out
              go_big_quiet ((go_at_call 11; exact quietOf HQ.out))
              clear hq1 hq2
              go_wp2
              go_region
              rw [HQ3.out]
              have hxx := both_store (nq := nq + 1) HBA.out HG.out.1 HSET.out.1
              have hbx := ((HBS.out).same (w' := wa.drewN (nq + 1)) rfl).setOther ⟨g, i, none⟩ (.int .i64 (ci + N)) (by have := HG.out.2; simp; omega)
              obtain ⟨wx, hwx⟩ : ∃ wx, wx = (wa.drewN (nq + 1)).setCell ⟨g, i, none⟩ (.int .i64 (ci + N)) := ⟨_, rfl⟩
              have hbx2 : Blk wx wr.heap.size 28 [.int .i64 0, .int .i64 (i : Int), .int .i64 N] := by rw [hwx]; exact hbx
              rw [← hwx] at hxx ⊢
              have HX := Lib.hid hxx
              have HBX := Lib.hid hbx2
              have t1 := hbx2.cell 1
              have t2 := hbx2.cell 2
              simp only [List.getElem?_cons_zero, List.getElem?_cons_succ] at t1 t2
              clear hxx hbx hbx2 hwx s1 s2 hmc hfr
              go_wp2_with fail
              refine (CA.out wx HX.out.1).mono ?_
              rintro e w4 ⟨rfl, ht4, hu4⟩
              have HBT := Lib.hid (both_add HBA.out HX.out.2.1 HX.out.2.2 ht4 hu4 (by simp [HBA.out.len]))
              have hS1 := (hu4.blk HBX.out (by have := HBOTH.out.ts; have := HBOTH.out.lt; omega) (by have := HBOTH.out.ts; have := HBOTH.out.lt; omega)).cell 1
              simp only [List.getElem?_cons_zero, List.getElem?_cons_succ] at hS1
              clear ht4 hu4 t1 t2
              go_wp2
              have hlen4 := HBT.out.len
              have hp : ∃ p : Nat, (p : Int) = min (max (i : Int) 0) (n : Int) := ⟨(min (max (i : Int) 0) (n : Int)).toNat, by omega⟩
              obtain ⟨p, hp⟩ := hp
              have hpn : (n : Int) = min (max (n : Int) 0) (n : Int) := by omega
              have cT := fun d os => Calls.regrown_of (quietB (both_total2 (HBT.out.grow (below_regrown w4 d os))))
              have cL := fun d os => Calls.regrown_of (quietB (both_len (HBT.out.grow (below_regrown w4 d os)) h60))
              have cB := fun d os => Calls.regrown_of (both_below (i : Int) (HBT.out.grow (below_regrown w4 d os)) p hp)
              have cR := fun d os (j : Int) (q : Nat) (hq : (q : Int) = min (max j 0) (n : Int)) => Calls.regrown_of (quietB (both_rbelow j (HBT.out.grow (below_regrown w4 d os)) h60 q hq))
              obtain ⟨F, hF⟩ : ∃ F : Nat → Int, F = fPre (c.set i (ci + N)) := ⟨_, rfl⟩
              rw [← hF] at cT cB cR
              have CT := Lib.hid cT
              have CL := Lib.hid cL
              have CB := Lib.hid cB
              have CR := Lib.hid cR
              have HP := Lib.hid hp
              have HPN := Lib.hid hpn
              have k1 := cell_regrown hS1
              clear cT cL cB cR hlen4 hp hpn hS1 hF
              refine wp_region_quiet_below (by kernel_rfl) (by kernel_rfl) ?_
              repeat (go_big_quiet_step ((first | (go_at_call 17; exact CT.out _ _) | (go_at_call 18; exact CB.out _ _) | (go_at_call 19; exact CL.out _ _) | (go_at_call 11; first | exact CR.out _ _ _ _ HPN.out | exact CR.out _ _ _ _ HP.out))))
              refine wpQuiet_nil ?_
              intro _ hw'
              obtain ⟨⟨dq, osq⟩, hw''⟩ := hw'
              subst hw''
              have HBF := Lib.hid (HBT.out.grow (below_regrown w4 dq osq))
              clear k1
              go_wp2
              go_roundw
              case rel => exact ⟨k + 1, _, by omega, by go_num, HBF.out⟩
              case measure => simp [intOf]; omega
        · have CA := Lib.hid (fun (W : World) (h : Both w W B T S n (.slice (some ⟨g, 0, none⟩) n cm) c) => fenAdd_out (w := W) I N h.tree (by rw [h.len]; exact hI))
          by_cases hI0 : 0 ≤ I
          · have hIn : ¬ (I < (n : Int)) := by omega
            have HQ1 : Hid (decide (I < (n : Int)) = false) := decide_eq_false hIn
            clear hI
            go_wp2_with fail
            rw [← HWA.out]
            have hq1 := HQ1.out
            go_big_quiet (fail)
            go_wp2_with fail
            refine (CA.out (wa.drewN nq) (HBA.out.drewN nq)).mono ?_
            rintro e w4 ⟨rfl, hb4⟩
            have HBT := Lib.hid ((HBA.out.drewN nq).grow hb4)
            have hS1 := (((HBS.out).same (w' := wa.drewN nq) rfl).grow hb4).cell 1
            simp only [List.getElem?_cons_zero, List.getElem?_cons_succ] at hS1
            clear hb4 s1 s2
            go_wp2
            have hlen4 := HBT.out.len
            have hp : ∃ p : Nat, (p : Int) = min (max I 0) (n : Int) := ⟨(min (max I 0) (n : Int)).toNat, by omega⟩
            obtain ⟨p, hp⟩ := hp
            have hpn : (n : Int) = min (max (n : Int) 0) (n : Int) := by omega
            have cT := fun d os => Calls.regrown_of (quietB (both_total2 (HBT.out.grow (below_regrown w4 d os))))
            have cL := fun d os => Calls.regrown_of (quietB (both_len (HBT.out.grow (below_regrown w4 d os)) h60))
            have cB := fun d os => Calls.regrown_of (both_below I (HBT.out.grow (below_regrown w4 d os)) p hp)
            have cR := fun d os (j : Int) (q : Nat) (hq : (q : Int) = min (max j 0) (n : Int)) => Calls.regrown_of (quietB (both_rbelow j (HBT.out.grow (below_regrown w4 d os)) h60 q hq))
            obtain ⟨F, hF⟩ : ∃ F : Nat → Int, F = fPre (c) := ⟨_, rfl⟩
            rw [← hF] at cT cB cR
            have CT := Lib.hid cT
            have CL := Lib.hid cL
            have CB := Lib.hid cB
            have CR := Lib.hid cR
            have HP := Lib.hid hp
            have HPN := Lib.hid hpn
            have k1 := cell_regrown hS1
            clear cT cL cB cR hlen4 hp hpn hS1 hF
            refine wp_region_quiet_below (by kernel_rfl) (by kernel_rfl) ?_
            repeat (go_big_quiet_step ((first | (go_at_call 17; exact CT.out _ _) | (go_at_call 18; exact CB.out _ _) | (go_at_call 19; exact CL.out _ _) | (go_at_call 11; first | exact CR.out _ _ _ _ HPN.out | exact CR.out _ _ _ _ HP.out))))
            refine wpQuiet_nil ?_
            intro _ hw'
            obtain ⟨⟨dq, osq⟩, hw''⟩ := hw'
            subst hw''
            have HBF := Lib.hid (HBT.out.grow (below_regrown w4 dq osq))
            clear k1
            go_wp2
            go_roundw
            case rel => exact ⟨k + 1, _, by omega, by go_num, HBF.out⟩
            case measure => simp [intOf]; omega
          · have HQ1 : Hid (decide (0 ≤ I) = false) := decide_eq_false hI0
            clear hI
            go_wp2_with fail
            rw [← HWA.out]
            have hq1 := HQ1.out
            go_big_quiet (fail)
            go_wp2_with fail
            refine (CA.out (wa.drewN nq) (HBA.out.drewN nq)).mono ?_
            rintro e w4 ⟨rfl, hb4⟩
            have HBT := Lib.hid ((HBA.out.drewN nq).grow hb4)
            have hS1 := (((HBS.out).same (w' := wa.drewN nq) rfl).grow hb4).cell 1
            simp only [List.getElem?_cons_zero, List.getElem?_cons_succ] at hS1
            clear hb4 s1 s2
            go_wp2
            have hlen4 := HBT.out.len
            have hp : ∃ p : Nat, (p : Int) = min (max I 0) (n : Int) := ⟨(min (max I 0) (n : Int)).toNat, by omega⟩
            obtain ⟨p, hp⟩ := hp
            have hpn : (n : Int) = min (max (n : Int) 0) (n : Int) := by omega
            have cT := fun d os => Calls.regrown_of (quietB (both_total2 (HBT.out.grow (below_regrown w4 d os))))
            have cL := fun d os => Calls.regrown_of (quietB (both_len (HBT.out.grow (below_regrown w4 d os)) h60))
            have cB := fun d os => Calls.regrown_of (both_below I (HBT.out.grow (below_regrown w4 d os)) p hp)
            have cR := fun d os (j : Int) (q : Nat) (hq : (q : Int) = min (max j 0) (n : Int)) => Calls.regrown_of (quietB (both_rbelow j (HBT.out.grow (below_regrown w4 d os)) h60 q hq))
            obtain ⟨F, hF⟩ : ∃ F : Nat → Int, F = fPre (c) := ⟨_, rfl⟩
            rw [← hF] at cT cB cR
            have CT := Lib.hid cT
            have CL := Lib.hid cL
            have CB := Lib.hid cB
            have CR := Lib.hid cR
            have HP := Lib.hid hp
            have HPN := Lib.hid hpn
            have k1 := cell_regrown hS1
            clear cT cL cB cR hlen4 hp hpn hS1 hF
            refine wp_region_quiet_below (by kernel_rfl) (by kernel_rfl) ?_
            repeat (go_big_quiet_step ((first | (go_at_call 17; exact CT.out _ _) | (go_at_call 18; exact CB.out _ _) | (go_at_call 19; exact CL.out _ _) | (go_at_call 11; first | exact CR.out _ _ _ _ HPN.out | exact CR.out _ _ _ _ HP.out))))
            refine wpQuiet_nil ?_
            intro _ hw'
            obtain ⟨⟨dq, osq⟩, hw''⟩ := hw'
            subst hw''
            have HBF := Lib.hid (HBT.out.grow (below_regrown w4 dq osq))
            clear k1
            go_wp2
            go_roundw
            case rel => exact ⟨k + 1, _, by omega, by go_num, HBF.out⟩
            case measure => simp [intOf]; omega
      · have hk0f : (kind == 0) = false := by rw [beq_eq_false_iff_ne]; exact hk0
        have hwaE : ∃ wa, wa = wr.alloc (.cells #[.int .i64 kind, .int .i64 I, .int .i64 N] 28) := ⟨_, rfl⟩
        obtain ⟨wa, hwa⟩ := hwaE
        have hba : Below wr.heap.size wr wa := by rw [hwa]; exact (Below.refl _ _).alloc (Nat.le_refl _) _
        have HBA := Lib.hid (HBOTH.out.grow hba)
        have hbs : Blk wa wr.heap.size 28 [.int .i64 kind, .int .i64 I, .int .i64 N] := by rw [hwa]; exact heap_alloc_new wr _
        have HBS := Lib.hid hbs
        have HWA := Lib.hid hwa
        have HBBA := Lib.hid hba
        have hltB := HBOTH.out.ts
        have hlt2 := HBOTH.out.lt
        have HNE : Hid (wr.heap.size ≠ T ∧ wr.heap.size ≠ S) := ⟨by omega, by omega⟩
        clear hba hbs hltB hlt2
        by_cases hk1 : kind = 1
        · subst hk1
          have CH := Lib.hid (fenHalve_any HBA.out.tree)
          rw [hwa] at CH
          clear hk0 hwa
          go_wp2_with fail
          refine CH.out.mono ?_
          rintro e w3 ⟨⟨v, rfl⟩, ht3, hu3⟩
          rw [← HWA.out] at hu3
          have ho3 := own_turns HBA.out.own hu3 HBA.out.ts.2.2.1 HBA.out.ts.2.2.2
          have CR2 := Lib.hid (both_rhalve (m := cm) ho3 HBA.out.tree.1 HBA.out.len h60)
          have HU3 := Lib.hid hu3
          have HT3 := Lib.hid ht3
          clear ht3 hu3 ho3
          go_wp2_with fail
          refine CR2.out.mono ?_
          rintro e w4 ⟨v4, rfl, hown4, hb4⟩
          obtain ⟨A4, cm4, rfl, -, -, hform4⟩ := own_form hown4
          have hx := both_halve HBA.out HU3.out HT3.out hown4 hb4
          have HBT := Lib.hid hx
          have hS1 := ((HU3.out.blk HBS.out HNE.out.1 HNE.out.2).grow hb4).cell 1
          simp only [List.getElem?_cons_zero, List.getElem?_cons_succ] at hS1
          clear hx hown4 hb4 hform4
          go_wp2
          have hlen4 := HBT.out.len
          have hp : ∃ p : Nat, (p : Int) = min (max I 0) (n : Int) := ⟨(min (max I 0) (n : Int)).toNat, by omega⟩
          obtain ⟨p, hp⟩ := hp
          have hpn : (n : Int) = min (max (n : Int) 0) (n : Int) := by omega
          have cT := fun d os => Calls.regrown_of (quietB (both_total2 (HBT.out.grow (below_regrown w4 d os))))
          have cL := fun d os => Calls.regrown_of (quietB (both_len (HBT.out.grow (below_regrown w4 d os)) h60))
          have cB := fun d os => Calls.regrown_of (both_below I (HBT.out.grow (below_regrown w4 d os)) p hp)
          have cR := fun d os (j : Int) (q : Nat) (hq : (q : Int) = min (max j 0) (n : Int)) => Calls.regrown_of (quietB (both_rbelow j (HBT.out.grow (below_regrown w4 d os)) h60 q hq))
          obtain ⟨F, hF⟩ : ∃ F : Nat → Int, F = fPre (fHalf c) := ⟨_, rfl⟩
          rw [← hF] at cT cB cR
          have CT := Lib.hid cT
          have CL := Lib.hid cL
          have CB := Lib.hid cB
          have CR := Lib.hid cR
          have HP := Lib.hid hp
          have HPN := Lib.hid hpn
          have k1 := cell_regrown hS1
          clear cT cL cB cR hlen4 hp hpn hS1 hF
          refine wp_region_quiet_below (by kernel_rfl) (by kernel_rfl) ?_
          repeat (go_big_quiet_step ((first | (go_at_call 17; exact CT.out _ _) | (go_at_call 18; exact CB.out _ _) | (go_at_call 19; exact CL.out _ _) | (go_at_call 11; first | exact CR.out _ _ _ _ HPN.out | exact CR.out _ _ _ _ HP.out))))
          refine wpQuiet_nil ?_
          intro _ hw'
          obtain ⟨⟨dq, osq⟩, hw''⟩ := hw'
          subst hw''
          have HBF := Lib.hid (HBT.out.grow (below_regrown w4 dq osq))
          clear k1
          go_wp2
          go_roundw
          case rel => exact ⟨k + 1, _, by omega, by go_num, HBF.out⟩
          case measure => simp [intOf]; omega
        · have hk1f : (kind == 1) = false := by rw [beq_eq_false_iff_ne]; exact hk1
          have CF := Lib.hid (fenFind_val N HBA.out.tree)
          have CF2 := Lib.hid (both_rfind N HBA.out h60)
          have s2 := HBS.out.cell 2
          simp only [List.getElem?_cons_zero, List.getElem?_cons_succ] at s2
          rw [hwa] at CF CF2 s2
          clear hk0 hk1 hwa
          cases hf : fFind c N with
          | none =>
            simp only [hf, findV] at CF CF2
            go_wp2_with fail
            refine CF.out.mono ?_
            rintro e w' ⟨rfl, hw⟩
            obtain rfl : _ = w' := hw.symm
            go_wp2_with fail
            refine CF2.out.mono ?_
            rintro e w4 ⟨rfl, hw⟩
            rw [← HWA.out] at hw
            have hb4 : Below wa.heap.size wa w4 := by rw [hw]; exact Below.refl _ _
            have HBT := Lib.hid (HBA.out.grow hb4)
            have hS1 := (HBS.out.grow hb4).cell 1
            simp only [List.getElem?_cons_zero, List.getElem?_cons_succ] at hS1
            clear hb4 hw s2
            go_wp2
            have hlen4 := HBT.out.len
            have hp : ∃ p : Nat, (p : Int) = min (max I 0) (n : Int) := ⟨(min (max I 0) (n : Int)).toNat, by omega⟩
            obtain ⟨p, hp⟩ := hp
            have hpn : (n : Int) = min (max (n : Int) 0) (n : Int) := by omega
            have cT := fun d os => Calls.regrown_of (quietB (both_total2 (HBT.out.grow (below_regrown w4 d os))))
            have cL := fun d os => Calls.regrown_of (quietB (both_len (HBT.out.grow (below_regrown w4 d os)) h60))
            have cB := fun d os => Calls.regrown_of (both_below I (HBT.out.grow (below_regrown w4 d os)) p hp)
            have cR := fun d os (j : Int) (q : Nat) (hq : (q : Int) = min (max j 0) (n : Int)) => Calls.regrown_of (quietB (both_rbelow j (HBT.out.grow (below_regrown w4 d os)) h60 q hq))
            obtain ⟨F, hF⟩ : ∃ F : Nat → Int, F = fPre (c) := ⟨_, rfl⟩
            rw [← hF] at cT cB cR
            have CT := Lib.hid cT
            have CL := Lib.hid cL
            have CB := Lib.hid cB
            have CR := Lib.hid cR
            have HP := Lib.hid hp
            have HPN := Lib.hid hpn
            have k1 := cell_regrown hS1
            clear cT cL cB cR hlen4 hp hpn hS1 hF
            refine wp_region_quiet_below (by kernel_rfl) (by kernel_rfl) ?_
            repeat (go_big_quiet_step ((first | (go_at_call 17; exact CT.out _ _) | (go_at_call 18; exact CB.out _ _) | (go_at_call 19; exact CL.out _ _) | (go_at_call 11; first | exact CR.out _ _ _ _ HPN.out | exact CR.out _ _ _ _ HP.out))))
            refine wpQuiet_nil ?_
            intro _ hw'
            obtain ⟨⟨dq, osq⟩, hw''⟩ := hw'
            subst hw''
            have HBF := Lib.hid (HBT.out.grow (below_regrown w4 dq osq))
            clear k1
            go_wp2
            go_roundw
            case rel => exact ⟨k + 1, _, by omega, by go_num, HBF.out⟩
            case measure => simp [intOf]; omega
          | some r =>
            simp only [hf, findV] at CF CF2
            go_wp2_with fail
            refine CF.out.mono ?_
            rintro e w' ⟨rfl, hw⟩
            obtain rfl : _ = w' := hw.symm
            go_wp2_with fail
            refine CF2.out.mono ?_
            rintro e w4 ⟨rfl, hw⟩
            rw [← HWA.out] at hw
            have hb4 : Below wa.heap.size wa w4 := by rw [hw]; exact Below.refl _ _
            have HBT := Lib.hid (HBA.out.grow hb4)
            have hS1 := (HBS.out.grow hb4).cell 1
            simp only [List.getElem?_cons_zero, List.getElem?_cons_succ] at hS1
            clear hb4 hw s2
            go_wp2
            have hlen4 := HBT.out.len
            have hp : ∃ p : Nat, (p : Int) = min (max I 0) (n : Int) := ⟨(min (max I 0) (n : Int)).toNat, by omega⟩
            obtain ⟨p, hp⟩ := hp
            have hpn : (n : Int) = min (max (n : Int) 0) (n : Int) := by omega
            have cT := fun d os => Calls.regrown_of (quietB (both_total2 (HBT.out.grow (below_regrown w4 d os))))
            have cL := fun d os => Calls.regrown_of (quietB (both_len (HBT.out.grow (below_regrown w4 d os)) h60))
            have cB := fun d os => Calls.regrown_of (both_below I (HBT.out.grow (below_regrown w4 d os)) p hp)
            have cR := fun d os (j : Int) (q : Nat) (hq : (q : Int) = min (max j 0) (n : Int)) => Calls.regrown_of (quietB (both_rbelow j (HBT.out.grow (below_regrown w4 d os)) h60 q hq))
            obtain ⟨F, hF⟩ : ∃ F : Nat → Int, F = fPre (c) := ⟨_, rfl⟩
            rw [← hF] at cT cB cR
            have CT := Lib.hid cT
            have CL := Lib.hid cL
            have CB := Lib.hid cB
            have CR := Lib.hid cR
            have HP := Lib.hid hp
            have HPN := Lib.hid hpn
            have k1 := cell_regrown hS1
            clear cT cL cB cR hlen4 hp hpn hS1 hF
            refine wp_region_quiet_below (by kernel_rfl) (by kernel_rfl) ?_
            repeat (go_big_quiet_step ((first | (go_at_call 17; exact CT.out _ _) | (go_at_call 18; exact CB.out _ _) | (go_at_call 19; exact CL.out _ _) | (go_at_call 11; first | exact CR.out _ _ _ _ HPN.out | exact CR.out _ _ _ _ HP.out))))
            refine wpQuiet_nil ?_
            intro _ hw'
            obtain ⟨⟨dq, osq⟩, hw''⟩ := hw'
            subst hw''
            have HBF := Lib.hid (HBT.out.grow (below_regrown w4 dq osq))
            clear k1
            go_wp2
            go_roundw
            case rel => exact ⟨k + 1, _, by omega, by go_num, HBF.out⟩
            case measure => simp [intOf]; omega
    · obtain rfl : k = L := by omega
      go_wp2
      go_loopw [14] (fun ii wx => ∃ j : Nat, j ≤ n ∧ ii = .int .i64 (j : Int) ∧ Both w wx B T S n (.slice (some ⟨g, 0, none⟩) n cm) c) (fun ii _ => n - (intOf ii).toNat)
      case atStart => exact ⟨0, Nat.zero_le _, rfl, HBOTH.out⟩
      case round =>
        clear HBOTH
        obtain ⟨j, hj, rfl, hboth⟩ := hrel
        have HBOTH := Lib.hid hboth
        clear hboth
        by_cases hlt : j < n
        · have hjc : j < c.length := by rw [HBOTH.out.len]; exact hlt
          have hmc : ∀ wx, Both w wx B T S n (.slice (some ⟨g, 0, none⟩) n cm) c → wx.cell? ⟨g, j, none⟩ = some (.int .i64 (c[j]'hjc)) := fun wx h => by
            rw [h.own.cellAt j (by omega), zvs_get, List.getElem?_eq_getElem hjc]; rfl
          have hm1 := hmc _ HBOTH.out
          have k1 := cell_regrown hm1
          have cG := fun d os => Calls.regrown_of (fenGet_at j (HBOTH.out.grow (below_regrown _ d os)).tree hjc)
          obtain ⟨x, hx⟩ : ∃ x, x = c[j]'hjc := ⟨_, rfl⟩
          rw [← hx] at cG k1
          have CG := Lib.hid cG
          have hji : (j : Int) < (n : Int) := by omega
          clear cG hx hm1 hmc hjc
          go_wp2
          refine wp_region_quiet_below (by kernel_rfl) (by kernel_rfl) ?_
          repeat (go_big_quiet_step ((go_at_call 20; exact CG.out _ _)))
          refine wpQuiet_nil ?_
          intro _ hw'
          obtain ⟨⟨dq, osq⟩, hw''⟩ := hw'
          subst hw''
          have HBF := Lib.hid (HBOTH.out.grow (below_regrown _ dq osq))
          clear k1
          go_wp2
          go_roundw
          case rel => exact ⟨j + 1, by omega, by go_num, HBF.out⟩
          case measure => simp [intOf]; omega
        · obtain rfl : j = n := by omega
          have CG1 := Lib.hid (fenGet_none (-1) HBOTH.out.tree (by omega))
          have CG2 := Lib.hid (fun (W : World) (h : IsTree W T S c) => fenGet_none (w := W) (j : Int) h (by rw [HBOTH.out.len]; omega))
          go_wp2_with fail
          refine CG1.out.mono ?_
          rintro e w5 ⟨rfl, hb5⟩
          have HT5 := Lib.hid (HBOTH.out.tree.grow hb5)
          have HB5 := Lib.hid (HBOTH.out.below.trans (hb5.mono HBOTH.out.below.size))
          clear hb5
          go_wp2_with fail
          refine (CG2.out _ HT5.out).mono ?_
          rintro e w6 ⟨rfl, hb6⟩
          have HB6 := Lib.hid (HB5.out.trans (hb6.mono HB5.out.size))
          clear hb6
          go_wp2_with fail
          refine (CK.out _).mono ?_
          rintro e w7 hy
          obtain ⟨rfl, hb7⟩ := yes_trans HB6.out hy
          go_wp2
          go_ret
          exact ⟨rfl, hb7⟩
end Go.Proofs.Ytfjfjadlpnlmjaa
