/- Layer 20: the law LensWhole. -/
import Derived.Test.YtgcegdjnemlcoaaLensIn
namespace Go.Proofs.Ytgcegdjnemlcoaa
open Go.RowKit Go.Sort Go.Shelf

set_option maxHeartbeats 4000000 in
set_option maxRecDepth 100000 in
theorem lensWhole_law (A : Option Addr) (L m : Nat) (l : List Nat) (w : World) (hr : Rd w w.heap.size A (gvs l)) (hL : l.length = L) (hL63 : L ≤ 9223372036854775807) (hl : ∀ x ∈ l, x < 4294967296) :
    Calls Try.prog 4 #[.slice A L m] w (Yes w) := by
  have CK := Lib.hid lensKnown_any
  obtain ⟨i0, hi, hz0, hz1, hz2⟩ := info_parts info_int12
  by_cases h256 : 256 < L
  · have h2 : (256 : Int) < (L : Int) := by omega
    clear hr hL hl
    go_enter Try.func4, Try.ntmps4
    go_wp2_with fail
    refine (CK.out _).mono ?_
    rintro e w' ⟨rfl, hb⟩
    go_wp2
    go_ret
    exact ⟨rfl, hb⟩
  · have h2 : ¬ ((256 : Int) < (L : Int)) := by omega
    have HR := Lib.hid hr
    have HL := Lib.hid hL
    have HX := Lib.hid hl
    clear hr hL hl
    go_enter Try.func4, Try.ntmps4
    go_wp2
    go_loopw [3, 4, 5] (fun v t i wr => ∃ k : Nat, k ≤ L ∧ i = .int .i64 (k : Int) ∧ t = .int .i64 (rankL (natsJ l) k : Int) ∧ wr.ownsRow w.heap.size 3 1 v k (zvs (natsJ (l.take k))) ∧ Below w.heap.size w wr) (fun _ _ i _ => L - (intOf i).toNat)
    case atStart => exact ⟨0, Nat.zero_le _, rfl, rfl, World.ownsRow_nil _ _ _ _, Below.refl _ _⟩
    case round =>
      obtain ⟨k, hk, rfl, rfl, hown, hb⟩ := hrel
      have hbs := hb.size
      by_cases hlt : k < L
      · have hkl : k < l.length := by have := HL.out; omega
        obtain ⟨ab, ao, rfl, hab, hcell0⟩ := HR.out k _ (gvs_get l k hkl)
        have hcell := (hb.cell (p := ⟨ab, ao + k, none⟩) hab).trans hcell0
        have hx0 := HX.out _ (List.getElem_mem hkl)
        have hsn := natsJ_take l hkl
        obtain ⟨p, hp, hmin, hrk⟩ := rank_step l hkl
        obtain ⟨x, hx⟩ : ∃ x, x = l[k]'hkl := ⟨_, rfl⟩
        rw [← hx] at hcell hcell0 hx0 hsn hmin
        have hR := rank_le (natsJ l) k
        obtain ⟨R, hRR⟩ : ∃ R, R = rankL (natsJ l) k := ⟨_, rfl⟩
        rw [← hRR] at hR hrk ⊢
        obtain ⟨Av, cv, rfl, -, -, -⟩ := own_form hown
        have HSN := Lib.hid hsn
        have HB := Lib.hid hb
        have HOWN := Lib.hid hown
        have HRK := Lib.hid hrk
        have H0 := Lib.hid (And.intro hab hcell0)
        have hkj : (k : Int) < (L : Int) := by omega
        clear hsn hx hcell0 hab hb hown hrk hRR
        go_wp2_with ((with_reducible show wpList _ _ _ (({ dst := some 25, op := _, type := _, pos := _, after := _, guard := _ } : Oper) :: _) _ _); go_must (refine wpList_app rfl (.tmp 18) (.tmp 24) 22 rfl w.heap.size 3 i0 (.int .i64 0) 1 8 Try.underlying22 hi hz0 hz1 hz2 rfl (by decide) _ _ _ rfl (HOWN.out.alloc _) _ _ 1 1 _ rfl (Rd.new _ _ _) rfl (by intro u hu; simp at hu; subst hu; rfl) (by simp only [maxLen]; omega) (by omega) (by simp; omega) ?_; intro v1 w2 hown1 hg1; have hb1 : Below w.heap.size w w2 := (HB.out.alloc hbs _).grown hg1 (by simp; omega) (own_block HOWN.out); have hcell2 := (hb1.cell (p := ⟨ab, ao + k, none⟩) H0.out.1).trans H0.out.2; have HO1 := Lib.hid (And.intro hown1 hb1); clear hg1 hown1 hb1))
        go_roundw
        case rel => exact ⟨k + 1, by omega, by go_num, by rw [HRK.out]; go_num, by rw [HSN.out]; simpa [zvs] using HO1.out.1, HO1.out.2⟩
        case measure => simp [intOf]; omega
      · obtain rfl : k = L := by omega
        have hgo := natsJ_good HX.out
        have hnj : (natsJ l).length = k := by rw [natsJ_len]; exact HL.out
        rw [List.take_of_length_le (by have := HL.out; omega)] at hown
        rw [← hnj, rankL_all, hnj]
        obtain ⟨c, hc⟩ : ∃ c, c = natsJ l := ⟨_, rfl⟩
        have hnn := natsJ_nn l
        rw [← hc] at hown hgo hnj hnn ⊢
        obtain ⟨Av, cv, rfl, -, -, -⟩ := own_form hown
        have HO := Lib.hid (Rd.of_own hown)
        have HB := Lib.hid hb
        have C1 := Lib.hid (lens_Of (m := cv) HO.out hnj (by omega) hgo)
        have HN := Lib.hid (And.intro hnj hnn)
        obtain ⟨T, hT⟩ : ∃ T, T = (posL c).length := ⟨_, rfl⟩
        have hTk : T ≤ k := by rw [hT]; unfold posL; exact Nat.le_trans (List.length_filter_le _ _) (by omega)
        rw [← hT]
        have HT := Lib.hid hT
        clear hown hb hgo hnj hnn hc hT HR
        go_wp2_with fail
        refine C1.out.mono ?_
        rintro e w2 ⟨v2, o, rfl, ho, hv, hb2⟩
        have hol := ho.len.trans HN.out.1
        obtain ⟨g, n2, rfl, hn2, -, hblk⟩ := hv
        obtain rfl : k = n2 := by omega
        have HB2 := Lib.hid (HB.out.trans (hb2.mono HB.out.size))
        have HO2 := Lib.hid ((HO.out.below hb2).more hb2.size)
        have HK := Lib.hid hblk
        have HP := Lib.hid (And.intro hol ho)
        clear hol ho hn2 hblk hb2 C1
        go_wp2
        go_loopw [7] (fun i wr => ∃ j : Nat, j ≤ k ∧ i = .int .i64 (j : Int) ∧ wr.heap = w2.heap ∧ Below w.heap.size w wr) (fun i _ => k - (intOf i).toNat)
        case atStart => exact ⟨0, Nat.zero_le _, rfl, rfl, HB2.out⟩
        case round =>
          obtain ⟨j, hj, rfl, hh, hb⟩ := hrel
          have HH := Lib.hid hh
          have HB3 := Lib.hid hb
          clear hb hh HB2
          by_cases hjk : j < k
          · have hjo : j < o.length := by rw [HP.out.1]; exact hjk
            have hjc : j < c.length := by rw [HN.out.1]; exact hjk
            obtain ⟨gb, go, hge, -, hc1⟩ := cell_of_rd (rd_same (Rd.of_blk HK.out) HH.out) hjo
            obtain ⟨rfl, rfl⟩ : g = gb ∧ go = 0 := by injection hge with e; injection e with e1 e2; exact ⟨e1, e2.symm⟩
            obtain ⟨ab, ao, rfl, -, hc2⟩ := cell_of_rd (rd_same HO2.out HH.out) hjc
            obtain ⟨q1, q2, q3⟩ := lens_at HP.out.2 HN.out.2 hjo hjc
            have q4 := HN.out.2 _ (List.getElem_mem hjc)
            have hji : (j : Int) < (k : Int) := by omega
            obtain ⟨x, hx⟩ : ∃ x, x = o[j]'hjo := ⟨_, rfl⟩
            obtain ⟨y, hy⟩ : ∃ y, y = c[j]'hjc := ⟨_, rfl⟩
            rw [← hx] at hc1 q1 q2 q3
            rw [← hy] at hc2 q3 q4
            rw [Nat.zero_add] at hc1
            clear hx hy hge
            by_cases hy0 : y = 0
            · obtain rfl : x = 0 := q3.2 hy0
              subst hy0
              clear q1 q2 q3 q4
              go_wp2
              go_quiet (fail)
              go_wp2
              go_roundw
              case rel => exact ⟨j + 1, by omega, by go_num, HH.out, below_drewN HB3.out nq⟩
              case measure => simp [intOf]; omega
            · have hx0 : ¬ x = 0 := fun e => hy0 (q3.1 e)
              have q5 : decide (x < 0) = false := decide_eq_false (by omega)
              have q6 : decide (15 < x) = false := decide_eq_false (by omega)
              have q7 : (x == 0) = false := beq_eq_false_iff_ne.2 hx0
              have q8 : (y == 0) = false := beq_eq_false_iff_ne.2 hy0
              clear q1 q2 q3 q4
              go_wp2
              go_quiet (fail)
              go_wp2
              go_roundw
              case rel => exact ⟨j + 1, by omega, by go_num, HH.out, below_drewN HB3.out nq⟩
              case measure => simp [intOf]; omega
          · obtain rfl : k = j := by omega
            obtain ⟨k0, k1, k2⟩ := lens_kraft HP.out.2 HN.out.2
            rw [← HT.out] at k0 k1 k2
            have CR := Lib.hid (ref_kraft (m := k) (rd_same (Rd.of_blk HK.out) HH.out) HP.out.1 (by omega))
            have HKR := Lib.hid (And.intro k0 (And.intro k1 k2))
            clear k0 k1 k2
            rcases (by omega : T = 0 ∨ T = 1 ∨ 2 ≤ T) with h0 | h1 | h2
            · rw [HKR.out.1 h0] at CR
              subst h0
              go_wp2_with fail
              refine CR.out.mono ?_
              rintro e w5 ⟨rfl, hw⟩
              subst hw
              go_wp2_with fail
              refine (CK.out _).mono ?_
              rintro e w6 ⟨rfl, hb6⟩
              have HB6 := Lib.hid (HB3.out.trans (hb6.mono HB3.out.size))
              clear hb6
              go_wp2
              go_ret
              exact ⟨rfl, HB6.out⟩
            · rw [HKR.out.2.1 h1] at CR
              subst h1
              go_wp2_with fail
              refine CR.out.mono ?_
              rintro e w5 ⟨rfl, hw⟩
              subst hw
              go_wp2_with fail
              refine (CK.out _).mono ?_
              rintro e w6 ⟨rfl, hb6⟩
              have HB6 := Lib.hid (HB3.out.trans (hb6.mono HB3.out.size))
              clear hb6
              go_wp2
              go_ret
              exact ⟨rfl, HB6.out⟩
            · rw [HKR.out.2.2 h2] at CR
              have hT0 : ¬ (T : Int) = 0 := by omega
              have hT1 : ¬ (T : Int) = 1 := by omega
              go_wp2_with fail
              refine CR.out.mono ?_
              rintro e w5 ⟨rfl, hw⟩
              subst hw
              go_wp2_with fail
              refine (CK.out _).mono ?_
              rintro e w6 ⟨rfl, hb6⟩
              have HB6 := Lib.hid (HB3.out.trans (hb6.mono HB3.out.size))
              clear hb6
              go_wp2
              go_ret
              exact ⟨rfl, HB6.out⟩
end Go.Proofs.Ytgcegdjnemlcoaa
