/- Contracts of layer 5's reference: Diff, Sum. -/
import Derived.Test.YtcenbaajojdjlaaGreatDoorDeltaEach
namespace Go.Proofs.YtcenbaajojdjlaaGreatDoor
open Go.RowKit

theorem refDiff_wrong (a : Value) (W : Int) (w : World) (hW : rightB W = false) :
    Calls Tryz.prog 41 #[a, .int .i64 W] w (NewW w []) := by
  have c1 := refRight_any W false hW.symm
  have C1 := Lib.hid c1
  clear c1
  go_enter Tryz.func41, Tryz.ntmps41
  go_wp2_with (go_at_call 39; go_must (refine (C1.out _).mono ?_; rintro e w' ⟨rfl, rfl⟩))
  go_ret
  exact ⟨.slice none 0 0, rfl, ⟨none, 0, rfl, Nat.le_refl _, Rd.nil_ _ _ _⟩, Below.refl _ _⟩
theorem refSum_wrong (a : Value) (W : Int) (w : World) (hW : rightB W = false) :
    Calls Tryz.prog 52 #[a, .int .i64 W] w (NewW w []) := by
  have c1 := refRight_any W false hW.symm
  have C1 := Lib.hid c1
  clear c1
  go_enter Tryz.func52, Tryz.ntmps52
  go_wp2_with (go_at_call 39; go_must (refine (C1.out _).mono ?_; rintro e w' ⟨rfl, rfl⟩))
  go_ret
  exact ⟨.slice none 0 0, rfl, ⟨none, 0, rfl, Nat.le_refl _, Rd.nil_ _ _ _⟩, Below.refl _ _⟩

set_option maxHeartbeats 1000000 in
set_option maxRecDepth 100000 in
theorem refDiff_right (W : Nat) (hW : IsW W) (A : Option Addr) (n c : Nat) (ws : List Nat) (w : World) (hr : Rd w w.heap.size A (wvs ws)) (hn : ws.length = n) (hb1 : n ≤ 1000000000000) (hlt64 : ∀ x ∈ ws, x < 18446744073709551616) :
    Calls Tryz.prog 41 #[.slice A n c, .int .i64 (W : Int)] w (NewW w (diffW W ws)) := by
  obtain ⟨i0, hi, hz0, hz1, hz2⟩ := info_parts info_u64r
  subst hn
  have H64 := Lib.hid hlt64
  have HWW := Lib.hid hW
  have c1 := refRight_any (W : Int) true hW.right
  have C1 := Lib.hid c1
  have c2 := fun W' => refMask_any (W : Int) W' (by have := hW.pos; omega)
  obtain ⟨M, hM⟩ : ∃ M, M = maskN (W : Int) := ⟨_, rfl⟩
  rw [← hM] at c2
  have C2 := Lib.hid c2
  have HM := Lib.hid hM
  clear hlt64 hW c1 c2 hM
  go_enter Tryz.func41, Tryz.ntmps41
  go_wp2_with (go_at_call 39; go_must (refine (C1.out _).mono ?_; rintro e w' ⟨rfl, rfl⟩))
  go_loopw [5, 6] (RefRow w (diffAt (256 ^ W) ws) ws.length) (fun _ i _ => ws.length - (intOf i).toNat)
  case atStart => exact ⟨0, Nat.zero_le _, rfl, World.ownsRow_nil _ _ _ _, Below.refl _ _⟩
  case round =>
    obtain ⟨k, hk, rfl, hown, hb⟩ := hrel
    have hbs := hb.size
    by_cases hlt : k < ws.length
    · obtain ⟨ab, ao, rfl, hab, hcell0⟩ := hr k _ (wvs_get ws k hlt)
      have hcell := (hb.cell (p := ⟨ab, ao + k, none⟩) hab).trans hcell0
      have hd : ws[k] = ws.getD k 0 := by simp [List.getD_eq_getElem?_getD, hlt]
      rw [hd] at hcell
      have hk1 : (k : Int) < (ws.length : Int) := by omega
      by_cases h0 : k = 0
      · have hma := mask_and' W (ws.getD k 0) HWW.out (getD_lt ws _ (by decide) H64.out k)
        have ho : ws.getD k 0 % 256 ^ W = diffAt (256 ^ W) ws k := by
          unfold diffAt ahead
          rw [if_pos h0, mod_64 HWW.out]
          rcases isW_pow HWW.out with e | e | e | e <;> rw [e] <;> omega
        rw [← HM.out, ho] at hma
        obtain ⟨v, hvv⟩ : ∃ v, v = ws.getD k 0 := ⟨_, rfl⟩
        rw [← hvv] at hcell hma
        have HMA := Lib.hid hma
        have hkz : ¬ (0 < (k : Int)) := by omega
        clear hvv hcell0 hma ho hd h0
        go_wp2_with (first
          | (go_at_call 74; go_must (refine (C2.out _).mono ?_; rintro e w' ⟨rfl, rfl⟩))
          | ((with_reducible show wpList _ _ _ (({ dst := some 36, op := _, type := _, pos := _, after := _, guard := _ } : Oper) :: _) _ _); rw [HMA.out]; go_must (refine wpList_app rfl (.tmp 30) (.tmp 35) 53 rfl w.heap.size 63 i0 (.int .u64 0) 1 8 Tryz.underlying53 hi hz0 hz1 hz2 rfl (by decide) _ _ _ rfl (hown.alloc _) _ _ 1 1 _ rfl (Rd.new _ _ _) rfl (by intro u hu; simp at hu; subst hu; rfl) (by simp only [maxLen]; omega) (by omega) (by simp; omega) ?_; intro v1 w1 hown1 hg1; have hb1 : Below w.heap.size w w1 := (hb.alloc hbs _).grown hg1 (by simp; omega) (own_block hown); clear hg1 hown hb)))
        have hown2 : w1.ownsRow w.heap.size 63 1 v1 (k + 1) (wvs (rowOf (diffAt (256 ^ W) ws) (k + 1))) := by
          rw [rowOf_snoc, wvs_snoc]
          exact hown1
        clear hown1
        go_roundw
        case rel => exact ⟨k + 1, by omega, by go_num, hown2, hb1⟩
        case measure => simp [intOf]; omega
      · obtain ⟨ab2, ao2, he, _, hcellp0⟩ := hr (k - 1) _ (wvs_get ws (k - 1) (by omega))
        injection he with he
        injection he with he1 he2
        subst he1 he2
        have hcellp := (hb.cell (p := ⟨ab, ao + (k - 1), none⟩) hab).trans hcellp0
        have hdp : ws[k - 1]'(by omega) = ws.getD (k - 1) 0 := by simp [List.getD_eq_getElem?_getD, show k - 1 < ws.length by omega]
        rw [hdp] at hcellp
        have hpl := getD_lt ws _ (by decide) H64.out (k - 1)
        have hma := mask_and' W ((ws.getD k 0 + (18446744073709551616 - ws.getD (k - 1) 0)) % 18446744073709551616) HWW.out (Nat.mod_lt _ (by decide))
        rw [← sub_u64 _ _ hpl] at hma
        have ho : (ws.getD k 0 + (18446744073709551616 - ws.getD (k - 1) 0)) % 18446744073709551616 % 256 ^ W = diffAt (256 ^ W) ws k := by
          unfold diffAt ahead
          rw [if_neg h0]
        rw [← HM.out, ho] at hma
        obtain ⟨v, hvv⟩ : ∃ v, v = ws.getD k 0 := ⟨_, rfl⟩
        obtain ⟨p, hpp⟩ : ∃ p, p = ws.getD (k - 1) 0 := ⟨_, rfl⟩
        rw [← hvv] at hcell hma
        rw [← hpp] at hcellp hma
        have HMA := Lib.hid hma
        have hm1 : ((k : Int) - 1).toNat = k - 1 := by omega
        have hm2 : (0 : Int) < (k : Int) := by omega
        have hm3 : (k : Int) - 1 < (ws.length : Int) := by omega
        have hm4 : 0 ≤ (k : Int) - 1 := by omega
        clear hvv hpp hcell0 hma ho hd hdp hpl hcellp0 h0
        go_wp2_with (first
          | (go_at_call 74; go_must (refine (C2.out _).mono ?_; rintro e w' ⟨rfl, rfl⟩))
          | ((with_reducible show wpList _ _ _ (({ dst := some 36, op := _, type := _, pos := _, after := _, guard := _ } : Oper) :: _) _ _); rw [HMA.out]; go_must (refine wpList_app rfl (.tmp 30) (.tmp 35) 53 rfl w.heap.size 63 i0 (.int .u64 0) 1 8 Tryz.underlying53 hi hz0 hz1 hz2 rfl (by decide) _ _ _ rfl (hown.alloc _) _ _ 1 1 _ rfl (Rd.new _ _ _) rfl (by intro u hu; simp at hu; subst hu; rfl) (by simp only [maxLen]; omega) (by omega) (by simp; omega) ?_; intro v1 w1 hown1 hg1; have hb1 : Below w.heap.size w w1 := (hb.alloc hbs _).grown hg1 (by simp; omega) (own_block hown); clear hg1 hown hb)))
        have hown2 : w1.ownsRow w.heap.size 63 1 v1 (k + 1) (wvs (rowOf (diffAt (256 ^ W) ws) (k + 1))) := by
          rw [rowOf_snoc, wvs_snoc]
          exact hown1
        clear hown1
        go_roundw
        case rel => exact ⟨k + 1, by omega, by go_num, hown2, hb1⟩
        case measure => simp [intOf]; omega
    · obtain rfl : k = ws.length := by omega
      go_wp2
      go_ret
      refine NewW.of_own ?_ hb
      rw [diffW_len]
      exact hown
theorem refDiff_any (W : Int) (A : Option Addr) (n c : Nat) (ws : List Nat) (w : World) (hr : Rd w w.heap.size A (wvs ws)) (hn : ws.length = n) (hb1 : n ≤ 1000000000000) (hlt64 : ∀ x ∈ ws, x < 18446744073709551616) :
    Calls Tryz.prog 41 #[.slice A n c, .int .i64 W] w (NewW w (ofW diffW W ws)) := by
  cases hR : rightB W with
  | true =>
    obtain ⟨V, rfl, hV⟩ := isW_of hR
    rw [ofW_of hV]
    exact refDiff_right V hV A n c ws w hr hn hb1 hlt64
  | false =>
    unfold ofW
    rw [hR, if_neg (by decide)]
    exact refDiff_wrong _ W w hR
/-- What holds at the head of a round that adds: nothing was turned. -/
def RefAll (wr : World) (ws : List Nat) (k : Nat) (t j : Value) (w' : World) : Prop :=
  ∃ i : Nat, i ≤ k + 1 ∧ j = .int .i64 i ∧ t = .int .u64 ((sumTo ws i % 18446744073709551616 : Nat) : Int) ∧ w' = wr
set_option maxHeartbeats 1000000 in
set_option maxRecDepth 100000 in
theorem refSum_right (W : Nat) (hW : IsW W) (A : Option Addr) (n c : Nat) (ws : List Nat) (w : World) (hr : Rd w w.heap.size A (wvs ws)) (hn : ws.length = n) (hb1 : n ≤ 1000000000000) (hlt64 : ∀ x ∈ ws, x < 18446744073709551616) :
    Calls Tryz.prog 52 #[.slice A n c, .int .i64 (W : Int)] w (NewW w (sumW W ws)) := by
  obtain ⟨i0, hi, hz0, hz1, hz2⟩ := info_parts info_u64r
  subst hn
  have H64 := Lib.hid hlt64
  have HWW := Lib.hid hW
  have c1 := refRight_any (W : Int) true hW.right
  have C1 := Lib.hid c1
  have c2 := fun W' => refMask_any (W : Int) W' (by have := hW.pos; omega)
  obtain ⟨M, hM⟩ : ∃ M, M = maskN (W : Int) := ⟨_, rfl⟩
  rw [← hM] at c2
  have C2 := Lib.hid c2
  have HM := Lib.hid hM
  clear hlt64 hW c1 c2 hM
  go_enter Tryz.func52, Tryz.ntmps52
  go_wp2_with (go_at_call 39; go_must (refine (C1.out _).mono ?_; rintro e w' ⟨rfl, rfl⟩))
  go_loopw [5, 6] (RefRow w (sumAt (256 ^ W) ws) ws.length) (fun _ i _ => ws.length - (intOf i).toNat)
  case atStart => exact ⟨0, Nat.zero_le _, rfl, World.ownsRow_nil _ _ _ _, Below.refl _ _⟩
  case round =>
    obtain ⟨k, hk, rfl, hown, hb⟩ := hrel
    have hbs := hb.size
    by_cases hlt : k < ws.length
    · obtain ⟨ab, ao, rfl, hab, hcell0⟩ := hr k _ (wvs_get ws k hlt)
      have hcell := (hb.cell (p := ⟨ab, ao + k, none⟩) hab).trans hcell0
      have hd : ws[k] = ws.getD k 0 := by simp [List.getD_eq_getElem?_getD, hlt]
      rw [hd] at hcell
      have hd1 : decide ((k : Int) < (ws.length : Int)) = true := by rw [decide_eq_true_eq]; omega
      clear hcell hcell0 hd
      go_wp2
      go_loopw [7, 8] (RefAll wr ws k) (fun _ j _ => k + 1 - (intOf j).toNat)
      case atStart => exact ⟨0, Nat.zero_le _, rfl, rfl, rfl⟩
      case round =>
        obtain ⟨j, hj, rfl, rfl, rfl⟩ := hrel
        by_cases hjk : j ≤ k
        · obtain ⟨ab2, ao2, he, _, hcellp0⟩ := hr j _ (wvs_get ws j (by omega))
          injection he with he
          injection he with he1 he2
          subst he1 he2
          have hcellp := (hb.cell (p := ⟨ab, ao + j, none⟩) hab).trans hcellp0
          have hdp : ws[j] = ws.getD j 0 := by simp [List.getD_eq_getElem?_getD, show j < ws.length by omega]
          rw [hdp] at hcellp
          have hjn : (j : Int) < (ws.length : Int) := by omega
          have hadd := add_u64 (sumTo ws j % 18446744073709551616) (ws.getD j 0)
          rw [Nat.mod_add_mod] at hadd
          obtain ⟨v, hvv⟩ : ∃ v, v = ws.getD j 0 := ⟨_, rfl⟩
          obtain ⟨s, hss⟩ : ∃ s, s = sumTo ws j % 18446744073709551616 := ⟨_, rfl⟩
          have hnx : (sumTo ws j + ws.getD j 0) % 18446744073709551616 = sumTo ws (j + 1) % 18446744073709551616 := rfl
          rw [hnx] at hadd
          rw [← hvv] at hadd hcellp
          rw [← hss] at hadd
          rw [← hss]
          have HADD := Lib.hid (congrArg (Value.int .u64) hadd)
          clear hadd hcellp0 hdp hvv hss hnx
          go_wp2
          go_roundw
          case rel => exact ⟨j + 1, by omega, by go_num, HADD.out, rfl⟩
          case measure => simp [intOf]; omega
        · obtain rfl : j = k + 1 := by omega
          have hma := mask_and' W (sumTo ws (k + 1) % 18446744073709551616) HWW.out (Nat.mod_lt _ (by decide))
          rw [mod_64 HWW.out, ← HM.out] at hma
          obtain ⟨s, hs⟩ : ∃ s, s = sumTo ws (k + 1) % 18446744073709551616 := ⟨_, rfl⟩
          rw [← hs] at hma
          rw [← hs]
          have HMA := Lib.hid hma
          have hd2 : (k : Int) < ((k + 1 : Nat) : Int) := by omega
          clear hs hma
          generalize hkk : ((k + 1 : Nat) : Int) = K at *
          go_wp2_with (first
          | (go_at_call 74; go_must (refine (C2.out _).mono ?_; rintro e w' ⟨rfl, rfl⟩))
          | ((with_reducible show wpList _ _ _ (({ dst := some 35, op := _, type := _, pos := _, after := _, guard := _ } : Oper) :: _) _ _); rw [HMA.out]; go_must (refine wpList_app rfl (.tmp 29) (.tmp 34) 53 rfl w.heap.size 63 i0 (.int .u64 0) 1 8 Tryz.underlying53 hi hz0 hz1 hz2 rfl (by decide) _ _ _ rfl (hown.alloc _) _ _ 1 1 _ rfl (Rd.new _ _ _) rfl (by intro u hu; simp at hu; subst hu; rfl) (by simp only [maxLen]; omega) (by omega) (by simp; omega) ?_; intro v1 w1 hown1 hg1; have hb1 : Below w.heap.size w w1 := (hb.alloc hbs _).grown hg1 (by simp; omega) (own_block hown); clear hg1 hown hb)))
          have hown2 : w1.ownsRow w.heap.size 63 1 v1 (k + 1) (wvs (rowOf (sumAt (256 ^ W) ws) (k + 1))) := by
            rw [rowOf_snoc, wvs_snoc]
            exact hown1
          clear hown1
          go_roundw
          case rel => exact ⟨k + 1, by omega, by go_num, hown2, hb1⟩
          case measure => simp [intOf]; omega
    · obtain rfl : k = ws.length := by omega
      go_wp2
      go_ret
      refine NewW.of_own ?_ hb
      rw [sumW_len]
      exact hown
theorem refSum_any (W : Int) (A : Option Addr) (n c : Nat) (ws : List Nat) (w : World) (hr : Rd w w.heap.size A (wvs ws)) (hn : ws.length = n) (hb1 : n ≤ 1000000000000) (hlt64 : ∀ x ∈ ws, x < 18446744073709551616) :
    Calls Tryz.prog 52 #[.slice A n c, .int .i64 W] w (NewW w (ofW sumW W ws)) := by
  cases hR : rightB W with
  | true =>
    obtain ⟨V, rfl, hV⟩ := isW_of hR
    rw [ofW_of hV]
    exact refSum_right V hV A n c ws w hr hn hb1 hlt64
  | false =>
    unfold ofW
    rw [hR, if_neg (by decide)]
    exact refSum_wrong _ W w hR
end Go.Proofs.YtcenbaajojdjlaaGreatDoor
