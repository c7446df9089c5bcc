/- Layer 24: the reference's New and Seen. -/
import Derived.Test.YtgbibmgedmbboaaGreatMixRef
import Derived.Deep.DeepMust
namespace Go.Proofs.YtgbibmgedmbboaaGreat
open Go.RowKit Go.Sort

set_option maxRecDepth 100000 in
set_option maxHeartbeats 1000000 in
theorem xNew_any (n : Nat) (w : World) (h8 : n ≤ 8) :
    Calls Tryz.prog 38 #[.int .i64 (n : Int)] w fun e w' => ∃ v, e = .returned v ∧ w'.ownsRow w.heap.size 3 1 v n (zvs (List.replicate n 64)) ∧ Below w.heap.size w w' := by
  obtain ⟨i0, hi, hz0, hz1, hz2⟩ := info_parts info_int12
  go_enter Tryz.func38, Tryz.ntmps38
  go_wp2
  go_loopw [3, 4] (fun vv ii wr => ∃ k : Nat, k ≤ n ∧ ii = .int .i64 (k : Int) ∧ wr.ownsRow w.heap.size 3 1 vv k (zvs (List.replicate k 64)) ∧ Below w.heap.size w wr) (fun _ ii _ => n - (intOf ii).toNat)
  case atStart => exact ⟨0, Nat.zero_le _, rfl, World.ownsRow_nil _ _ _ _, Below.refl _ _⟩
  case round =>
    rename_i vv _
    obtain ⟨k, hk, rfl, hown, hb⟩ := hrel
    obtain ⟨Av, cv, rfl, -, -, -⟩ := own_form hown
    have HO := Lib.hid hown
    have HB := Lib.hid hb
    have hbs := hb.size
    clear hown hb
    by_cases hlt : k < n
    · have hki : (k : Int) < (n : Int) := by omega
      go_wp2_with (at_builtin; go_must (refine wpList_app rfl (.tmp 10) (.tmp 11) 72 rfl w.heap.size 3 i0 (.int .i64 0) 1 8 Tryz.underlying72 hi hz0 hz1 hz2 rfl (by decide) _ _ _ rfl (HO.out.alloc _) _ _ 1 1 _ rfl (Rd.new _ _ _) rfl (by intro u hu; simp at hu; subst hu; rfl) (by simp only [maxLen]; omega) (by omega) (by simp; omega) ?_; intro v1 w2 hown1 hg1; have HG := Lib.hid hg1; have HO1 := Lib.hid hown1; clear hown1 hg1))
      have hown3 : w2.ownsRow w.heap.size 3 1 v1 (k + 1) (zvs (List.replicate (k + 1) 64)) := by
        rw [List.replicate_succ']
        simpa [zvs] using HO1.out
      have hb2 := (HB.out.alloc hbs _).grown HG.out (by simp; omega) (own_block HO.out)
      refine ⟨⟨k + 1, by omega, by go_num, hown3, hb2⟩, by simp [intOf]; omega⟩
    · obtain rfl : k = n := by omega
      go_wp2
      go_ret
      exact ⟨_, rfl, HO.out, HB.out⟩

set_option maxRecDepth 100000 in
set_option maxHeartbeats 4000000 in
theorem xSeen_any {w : World} {n m m' : Nat} {A A' : Option Addr} {W l : List Int} (bit : Int) (hw : WtsM n W) (h1 : 1 ≤ n ∧ n ≤ 8) (hr : Rd w w.heap.size A (zvs W)) (hr' : Rd w w.heap.size A' (zvs l)) (hl : l.length = n) :
    Calls Tryz.prog 42 #[.slice A n m, .slice A' n m', .int .i64 bit] w fun e w' => ∃ v, e = .returned v ∧ w'.ownsRow w.heap.size 3 1 v n (zvs (seenM W l bit)) ∧ Below w.heap.size w w' := by
  obtain ⟨i0, hi, hz0, hz1, hz2⟩ := info_parts info_int12
  have CQ := Lib.hid (xP_any (m := m) (m' := m') hw h1 hr hr' hl)
  have HW := Lib.hid hw
  have HR := Lib.hid hr
  have HR' := Lib.hid hr'
  have HL := Lib.hid hl
  have CH := Lib.hid (fun p w => xHeld_any p w)
  have hmx : 0 ≤ mixM W l ∧ mixM W l ≤ 65536 := by have := heldM_ok (dotM W l / W.sum); unfold mixM; omega
  have CW := Lib.hid (fun w => xAway_any (mixM W l) bit w hmx)
  obtain ⟨pm, hpm⟩ : ∃ pm, pm = mixM W l := ⟨_, rfl⟩
  obtain ⟨mx, hmxe⟩ : ∃ mx, mx = farM (mixM W l) bit := ⟨_, rfl⟩
  have HMX := Lib.hid hmxe
  rw [← hmxe] at CW
  rw [← hpm] at CQ CW
  clear hr hr' hl hmx hpm hmxe hw
  go_enter Tryz.func42, Tryz.ntmps42
  go_wp2_with fail
  refine CQ.out.mono ?_
  rintro e w1 ⟨rfl, j, hwj⟩
  have HB0 := Lib.hid (show Below w.heap.size w w1 by rw [hwj]; exact below_drawn w j)
  clear hwj
  go_wp2
  go_loopw [8, 9] (fun vv ii wr => ∃ k : Nat, k ≤ n ∧ ii = .int .i64 (k : Int) ∧ wr.ownsRow w.heap.size 3 1 vv k (zvs ((seenM W l bit).take k)) ∧ Below w.heap.size w wr) (fun _ ii _ => n - (intOf ii).toNat)
  case atStart => exact ⟨0, Nat.zero_le _, rfl, World.ownsRow_nil _ _ _ _, HB0.out⟩
  case round =>
    clear HB0
    obtain ⟨k, hk, rfl, hown, hb⟩ := hrel
    obtain ⟨Av, cv, rfl, -, -, -⟩ := own_form hown
    have HO := Lib.hid hown
    have HB := Lib.hid hb
    have hbs := hb.size
    clear hown
    by_cases hlt : k < n
    · have hkl : k < l.length := by rw [HL.out]; exact hlt
      have hkw : k < W.length := by rw [HW.out.len]; exact hlt
      have hat := seenM_get HW.out HL.out bit hlt
      obtain ⟨ab, ao, rfl, -, hc1⟩ := cell_of_rd (HR'.out.below hb) hkl
      obtain ⟨bb, bo, rfl, -, hc2⟩ := cell_of_rd (HR.out.below hb) hkw
      have hwk := HW.out.ok _ (List.getElem_mem hkw)
      obtain ⟨x, hx⟩ : ∃ x, x = W[k]'hkw := ⟨_, rfl⟩
      obtain ⟨p, hp⟩ : ∃ p, p = l[k]'hkl := ⟨_, rfl⟩
      rw [← HMX.out] at hat
      rw [← hx] at hc2 hwk hat
      rw [← hp] at hc1 hat
      have CP := Lib.hid (CH.out p)
      have CV := Lib.hid (fun w => xAway_any (clM p) bit w (clM_ok p))
      obtain ⟨own, hown⟩ : ∃ own, own = farM (clM p) bit := ⟨_, rfl⟩
      rw [← hown] at CV hat
      obtain ⟨c, hc⟩ : ∃ c, c = clM p := ⟨_, rfl⟩
      rw [← hc] at CP CV
      have hki : (k : Int) < (n : Int) := by omega
      have HAT := Lib.hid hat
      clear hx hp hown hc hkl hkw hat hb
      rcases Int.lt_trichotomy own mx with h2 | h2 | h2
      · have HN := Lib.hid (show nextM x own mx = min (x + 1) 255 by unfold nextM; rw [if_pos h2])
        have h3 : ¬ (mx < own) := by omega
        go_wp2_with fail
        refine (CP.out _).mono ?_
        rintro e w' ⟨rfl, hw⟩
        obtain rfl : _ = w' := hw.symm
        go_wp2_with fail
        refine (CV.out _).mono ?_
        rintro e w' ⟨rfl, hw⟩
        obtain rfl : _ = w' := hw.symm
        go_wp2_with fail
        refine (CW.out _).mono ?_
        rintro e w' ⟨rfl, hw⟩
        obtain rfl : _ = w' := hw.symm
        go_wp2_with fail
        refine (CP.out _).mono ?_
        rintro e w' ⟨rfl, hw⟩
        obtain rfl : _ = w' := hw.symm
        go_wp2_with fail
        refine (CV.out _).mono ?_
        rintro e w' ⟨rfl, hw⟩
        obtain rfl : _ = w' := hw.symm
        go_wp2_with fail
        refine (CW.out _).mono ?_
        rintro e w' ⟨rfl, hw⟩
        obtain rfl : _ = w' := hw.symm
        go_wp2_with (at_builtin; go_must (refine wpList_app rfl (.tmp 52) (.tmp 54) 72 rfl w.heap.size 3 i0 (.int .i64 0) 1 8 Tryz.underlying72 hi hz0 hz1 hz2 rfl (by decide) _ _ _ rfl (HO.out.alloc _) _ _ 1 1 _ rfl (Rd.new _ _ _) rfl (by intro u hu; simp at hu; subst hu; rfl) (by simp only [maxLen]; omega) (by omega) (by simp; omega) ?_; intro v1 w2 hown1 hg1; have HG := Lib.hid hg1; have HO1 := Lib.hid hown1; clear hown1 hg1))
        have hown3 : w2.ownsRow w.heap.size 3 1 v1 (k + 1) (zvs ((seenM W l bit).take (k + 1))) := by
          rw [List.take_add_one, HAT.out, HN.out]
          simpa [zvs] using HO1.out
        have hb2 := (HB.out.alloc hbs _).grown HG.out (by simp; omega) (own_block HO.out)
        refine ⟨⟨k + 1, by omega, by go_num, hown3, hb2⟩, by simp [intOf]; omega⟩
      · have HN := Lib.hid (show nextM x own mx = x by unfold nextM; rw [if_neg (by omega), if_neg (by omega)])
        subst h2
        go_wp2_with fail
        refine (CP.out _).mono ?_
        rintro e w' ⟨rfl, hw⟩
        obtain rfl : _ = w' := hw.symm
        go_wp2_with fail
        refine (CV.out _).mono ?_
        rintro e w' ⟨rfl, hw⟩
        obtain rfl : _ = w' := hw.symm
        go_wp2_with fail
        refine (CW.out _).mono ?_
        rintro e w' ⟨rfl, hw⟩
        obtain rfl : _ = w' := hw.symm
        go_wp2_with fail
        refine (CP.out _).mono ?_
        rintro e w' ⟨rfl, hw⟩
        obtain rfl : _ = w' := hw.symm
        go_wp2_with fail
        refine (CV.out _).mono ?_
        rintro e w' ⟨rfl, hw⟩
        obtain rfl : _ = w' := hw.symm
        go_wp2_with fail
        refine (CW.out _).mono ?_
        rintro e w' ⟨rfl, hw⟩
        obtain rfl : _ = w' := hw.symm
        go_wp2_with (at_builtin; go_must (refine wpList_app rfl (.tmp 52) (.tmp 54) 72 rfl w.heap.size 3 i0 (.int .i64 0) 1 8 Tryz.underlying72 hi hz0 hz1 hz2 rfl (by decide) _ _ _ rfl (HO.out.alloc _) _ _ 1 1 _ rfl (Rd.new _ _ _) rfl (by intro u hu; simp at hu; subst hu; rfl) (by simp only [maxLen]; omega) (by omega) (by simp; omega) ?_; intro v1 w2 hown1 hg1; have HG := Lib.hid hg1; have HO1 := Lib.hid hown1; clear hown1 hg1))
        have hown3 : w2.ownsRow w.heap.size 3 1 v1 (k + 1) (zvs ((seenM W l bit).take (k + 1))) := by
          rw [List.take_add_one, HAT.out, HN.out]
          simpa [zvs] using HO1.out
        have hb2 := (HB.out.alloc hbs _).grown HG.out (by simp; omega) (own_block HO.out)
        refine ⟨⟨k + 1, by omega, by go_num, hown3, hb2⟩, by simp [intOf]; omega⟩
      · have HN := Lib.hid (show nextM x own mx = max (x - 1) 1 by unfold nextM; rw [if_neg (by omega), if_pos h2])
        have h3 : ¬ (own < mx) := by omega
        go_wp2_with fail
        refine (CP.out _).mono ?_
        rintro e w' ⟨rfl, hw⟩
        obtain rfl : _ = w' := hw.symm
        go_wp2_with fail
        refine (CV.out _).mono ?_
        rintro e w' ⟨rfl, hw⟩
        obtain rfl : _ = w' := hw.symm
        go_wp2_with fail
        refine (CW.out _).mono ?_
        rintro e w' ⟨rfl, hw⟩
        obtain rfl : _ = w' := hw.symm
        go_wp2_with fail
        refine (CP.out _).mono ?_
        rintro e w' ⟨rfl, hw⟩
        obtain rfl : _ = w' := hw.symm
        go_wp2_with fail
        refine (CV.out _).mono ?_
        rintro e w' ⟨rfl, hw⟩
        obtain rfl : _ = w' := hw.symm
        go_wp2_with fail
        refine (CW.out _).mono ?_
        rintro e w' ⟨rfl, hw⟩
        obtain rfl : _ = w' := hw.symm
        go_wp2_with (at_builtin; go_must (refine wpList_app rfl (.tmp 52) (.tmp 54) 72 rfl w.heap.size 3 i0 (.int .i64 0) 1 8 Tryz.underlying72 hi hz0 hz1 hz2 rfl (by decide) _ _ _ rfl (HO.out.alloc _) _ _ 1 1 _ rfl (Rd.new _ _ _) rfl (by intro u hu; simp at hu; subst hu; rfl) (by simp only [maxLen]; omega) (by omega) (by simp; omega) ?_; intro v1 w2 hown1 hg1; have HG := Lib.hid hg1; have HO1 := Lib.hid hown1; clear hown1 hg1))
        have hown3 : w2.ownsRow w.heap.size 3 1 v1 (k + 1) (zvs ((seenM W l bit).take (k + 1))) := by
          rw [List.take_add_one, HAT.out, HN.out]
          simpa [zvs] using HO1.out
        have hb2 := (HB.out.alloc hbs _).grown HG.out (by simp; omega) (own_block HO.out)
        refine ⟨⟨k + 1, by omega, by go_num, hown3, hb2⟩, by simp [intOf]; omega⟩
    · obtain rfl : k = n := by omega
      have ho := HO.out
      rw [List.take_of_length_le (by rw [(HW.out.seen HL.out bit).len]; exact Nat.le_refl _)] at ho
      have HO2 := Lib.hid ho
      clear ho hb
      go_wp2
      go_ret
      exact ⟨_, rfl, HO2.out, HB.out⟩
end Go.Proofs.YtgbibmgedmbboaaGreat
