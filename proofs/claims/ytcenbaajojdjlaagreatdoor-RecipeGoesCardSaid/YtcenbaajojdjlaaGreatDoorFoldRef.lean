/- Contracts of layer 6's reference: Fold, Unfold. -/
import Derived.Test.YtcenbaajojdjlaaGreatDoorFoldEach
namespace Go.Proofs.YtcenbaajojdjlaaGreatDoor
open Go.RowKit

theorem refFold_wrong (a : Value) (W : Int) (w : World) (hW : rightB W = false) :
    Calls Tryz.prog 42 #[a, .int .i64 W] w (NewW w []) := by
  have c1 := refRight_any W false hW.symm
  have C1 := Lib.hid c1
  clear c1
  go_enter Tryz.func42, Tryz.ntmps42
  go_wp2_with (go_at_call 39; go_must (refine (C1.out _).mono ?_; rintro e w' ⟨rfl, rfl⟩))
  go_ret
  exact ⟨.slice none 0 0, rfl, ⟨none, 0, rfl, Nat.le_refl _, Rd.nil_ _ _ _⟩, Below.refl _ _⟩
set_option maxHeartbeats 1000000 in
set_option maxRecDepth 100000 in
theorem refFold_right (W : Nat) (hW : IsW W) (A : Option Addr) (n c : Nat) (ws : List Nat) (w : World) (hr : Rd w w.heap.size A (wvs ws)) (hn : ws.length = n) (hb1 : n ≤ 1000000000000) (hlt64 : ∀ x ∈ ws, x < 18446744073709551616) :
    Calls Tryz.prog 42 #[.slice A n c, .int .i64 (W : Int)] w (NewW w (foldW W ws)) := by
  obtain ⟨i0, hi, hz0, hz1, hz2⟩ := info_parts info_u64r
  subst hn
  have H64 := Lib.hid hlt64
  have HWW := Lib.hid hW
  have c1 := refRight_any (W : Int) true hW.right
  have C1 := Lib.hid c1
  have c2 := fun W' => refMask_any (W : Int) W' (by have := hW.pos; omega)
  have hM2 := mask_is W hW
  obtain ⟨M, hM⟩ : ∃ M, M = maskN (W : Int) := ⟨_, rfl⟩
  rw [← hM] at c2 hM2
  have C2 := Lib.hid c2
  have HM := Lib.hid hM
  have HM2 := Lib.hid hM2
  clear hlt64 hW c1 c2 hM hM2
  go_enter Tryz.func42, Tryz.ntmps42
  go_wp2_with (first
    | (go_at_call 39; go_must (refine (C1.out _).mono ?_; rintro e w' ⟨rfl, rfl⟩))
    | (go_at_call 74; go_must (refine (C2.out _).mono ?_; rintro e w' ⟨rfl, rfl⟩)))
  go_loopw [6, 7] (RefRow w (foldAt (256 ^ W) ws) ws.length) (fun _ i _ => ws.length - (intOf i).toNat)
  case atStart => exact ⟨0, Nat.zero_le _, rfl, World.ownsRow_nil _ _ _ _, Below.refl _ _⟩
  case round =>
    obtain ⟨k, hk, rfl, hown, hb⟩ := hrel
    have hbs := hb.size
    by_cases hlt : k < ws.length
    · obtain ⟨ab, ao, rfl, hab, hcell0⟩ := hr k _ (wvs_get ws k hlt)
      have hcell := (hb.cell (p := ⟨ab, ao + k, none⟩) hab).trans hcell0
      have hd : ws[k] = ws.getD k 0 := by simp [List.getD_eq_getElem?_getD, hlt]
      rw [hd] at hcell
      have hma := mask_and' W (ws.getD k 0) HWW.out (getD_lt ws _ (by decide) H64.out k)
      rw [← HM.out] at hma
      have hvl : ws.getD k 0 % 256 ^ W < 256 ^ W := Nat.mod_lt _ pow_pos'
      have hMl : 256 ^ W ≤ 18446744073709551616 := by
        rcases isW_pow HWW.out with e | e | e | e <;> rw [e] <;> omega
      have hM2 := HM2.out
      have hat : foldAt (256 ^ W) ws k = foldN (256 ^ W) (ws.getD k 0 % 256 ^ W) := rfl
      obtain ⟨x, hx⟩ : ∃ x, x = ws.getD k 0 % 256 ^ W := ⟨_, rfl⟩
      rw [← hx] at hvl hma hat
      obtain ⟨v, hvv⟩ : ∃ v, v = ws.getD k 0 := ⟨_, rfl⟩
      rw [← hvv] at hcell hma
      obtain ⟨P, hP⟩ : ∃ P, P = 256 ^ W := ⟨_, rfl⟩
      have hPn : foldN P x = foldAt P ws k := by rw [hP, hat]
      rw [← hP] at hvl hMl hM2
      have hk1 : (k : Int) < (ws.length : Int) := by omega
      have HH := Lib.hid hPn
      have HP := Lib.hid hP
      clear hvv hx hcell0 hd hat hPn hP
      by_cases hh : x ≤ (P - 1) / 2
      · have hv : IntKind.u64.wrap (2 * (x : Int)) = ((foldAt (256 ^ W) ws k : Nat) : Int) := by
          rw [← HP.out, ← HH.out, foldN, if_pos hh, IntKind.wrap_u64]; omega
        have hdec : bits .and .u64 (v : Int) (M : Int) ≤ IntKind.u64.wrap ((M : Int) / 2) := by rw [hma, IntKind.wrap_u64]; omega
        rw [← hma] at hv
        have HVAL := Lib.hid hv
        clear hv hh hma hvl hMl hM2
        go_wp2_with ((with_reducible show wpList _ _ _ (({ dst := some 34, op := _, type := _, pos := _, after := _, guard := _ } : Oper) :: _) _ _); rw [HVAL.out]; go_must (refine wpList_app rfl (.tmp 30) (.tmp 33) 53 rfl w.heap.size 63 i0 (.int .u64 0) 1 8 Tryz.underlying53 hi hz0 hz1 hz2 rfl (by decide) _ _ _ rfl (hown.alloc _) _ _ 1 1 _ rfl (Rd.new _ _ _) rfl (by intro u hu; simp at hu; subst hu; rfl) (by simp only [maxLen]; omega) (by omega) (by simp; omega) ?_; intro v1 w1 hown1 hg1; have hb1 : Below w.heap.size w w1 := (hb.alloc hbs _).grown hg1 (by simp; omega) (own_block hown); clear hg1 hown hb))
        have hown2 : w1.ownsRow w.heap.size 63 1 v1 (k + 1) (wvs (rowOf (foldAt (256 ^ W) ws) (k + 1))) := by
          rw [rowOf_snoc, wvs_snoc]
          exact hown1
        clear hown1
        go_roundw
        case rel => exact ⟨k + 1, by omega, by go_num, hown2, hb1⟩
        case measure => simp [intOf]; omega
      · have hv : IntKind.u64.wrap (IntKind.u64.wrap (2 * IntKind.u64.wrap ((M : Int) - (x : Int))) + 1) = ((foldAt (256 ^ W) ws k : Nat) : Int) := by
          rw [← HP.out, ← HH.out, foldN, if_neg hh, IntKind.wrap_u64, IntKind.wrap_u64, IntKind.wrap_u64]; omega
        have hdec : ¬ (bits .and .u64 (v : Int) (M : Int) ≤ IntKind.u64.wrap ((M : Int) / 2)) := by rw [hma, IntKind.wrap_u64]; omega
        rw [← hma] at hv
        have HVAL := Lib.hid hv
        clear hv hh hma hvl hMl hM2
        go_wp2_with ((with_reducible show wpList _ _ _ (({ dst := some 42, op := _, type := _, pos := _, after := _, guard := _ } : Oper) :: _) _ _); rw [HVAL.out]; go_must (refine wpList_app rfl (.tmp 35) (.tmp 41) 53 rfl w.heap.size 63 i0 (.int .u64 0) 1 8 Tryz.underlying53 hi hz0 hz1 hz2 rfl (by decide) _ _ _ rfl (hown.alloc _) _ _ 1 1 _ rfl (Rd.new _ _ _) rfl (by intro u hu; simp at hu; subst hu; rfl) (by simp only [maxLen]; omega) (by omega) (by simp; omega) ?_; intro v1 w1 hown1 hg1; have hb1 : Below w.heap.size w w1 := (hb.alloc hbs _).grown hg1 (by simp; omega) (own_block hown); clear hg1 hown hb))
        have hown2 : w1.ownsRow w.heap.size 63 1 v1 (k + 1) (wvs (rowOf (foldAt (256 ^ W) ws) (k + 1))) := by
          rw [rowOf_snoc, wvs_snoc]
          exact hown1
        clear hown1
        go_roundw
        case rel => exact ⟨k + 1, by omega, by go_num, hown2, hb1⟩
        case measure => simp [intOf]; omega
    · obtain rfl : k = ws.length := by omega
      go_wp2
      go_ret
      refine NewW.of_own ?_ hb
      rw [foldW_len]
      exact hown
theorem refFold_any (W : Int) (A : Option Addr) (n c : Nat) (ws : List Nat) (w : World) (hr : Rd w w.heap.size A (wvs ws)) (hn : ws.length = n) (hb1 : n ≤ 1000000000000) (hlt64 : ∀ x ∈ ws, x < 18446744073709551616) :
    Calls Tryz.prog 42 #[.slice A n c, .int .i64 W] w (NewW w (ofW foldW W ws)) := by
  cases hR : rightB W with
  | true =>
    obtain ⟨V, rfl, hV⟩ := isW_of hR
    rw [ofW_of hV]
    exact refFold_right V hV A n c ws w hr hn hb1 hlt64
  | false =>
    unfold ofW
    rw [hR, if_neg (by decide)]
    exact refFold_wrong _ W w hR
theorem refUnfold_wrong (a : Value) (W : Int) (w : World) (hW : rightB W = false) :
    Calls Tryz.prog 53 #[a, .int .i64 W] w (NewW w []) := by
  have c1 := refRight_any W false hW.symm
  have C1 := Lib.hid c1
  clear c1
  go_enter Tryz.func53, Tryz.ntmps53
  go_wp2_with (go_at_call 39; go_must (refine (C1.out _).mono ?_; rintro e w' ⟨rfl, rfl⟩))
  go_ret
  exact ⟨.slice none 0 0, rfl, ⟨none, 0, rfl, Nat.le_refl _, Rd.nil_ _ _ _⟩, Below.refl _ _⟩
set_option maxHeartbeats 1000000 in
set_option maxRecDepth 100000 in
theorem refUnfold_right (W : Nat) (hW : IsW W) (A : Option Addr) (n c : Nat) (ws : List Nat) (w : World) (hr : Rd w w.heap.size A (wvs ws)) (hn : ws.length = n) (hb1 : n ≤ 1000000000000) (hlt64 : ∀ x ∈ ws, x < 18446744073709551616) :
    Calls Tryz.prog 53 #[.slice A n c, .int .i64 (W : Int)] w (NewW w (unfoldW W ws)) := by
  obtain ⟨i0, hi, hz0, hz1, hz2⟩ := info_parts info_u64r
  subst hn
  have H64 := Lib.hid hlt64
  have HWW := Lib.hid hW
  have c1 := refRight_any (W : Int) true hW.right
  have C1 := Lib.hid c1
  have c2 := fun W' => refMask_any (W : Int) W' (by have := hW.pos; omega)
  have hM2 := mask_is W hW
  obtain ⟨M, hM⟩ : ∃ M, M = maskN (W : Int) := ⟨_, rfl⟩
  rw [← hM] at c2 hM2
  have C2 := Lib.hid c2
  have HM := Lib.hid hM
  have HM2 := Lib.hid hM2
  clear hlt64 hW c1 c2 hM hM2
  go_enter Tryz.func53, Tryz.ntmps53
  go_wp2_with (first
    | (go_at_call 39; go_must (refine (C1.out _).mono ?_; rintro e w' ⟨rfl, rfl⟩))
    | (go_at_call 74; go_must (refine (C2.out _).mono ?_; rintro e w' ⟨rfl, rfl⟩)))
  go_loopw [6, 7] (RefRow w (unfoldAt (256 ^ W) ws) ws.length) (fun _ i _ => ws.length - (intOf i).toNat)
  case atStart => exact ⟨0, Nat.zero_le _, rfl, World.ownsRow_nil _ _ _ _, Below.refl _ _⟩
  case round =>
    obtain ⟨k, hk, rfl, hown, hb⟩ := hrel
    have hbs := hb.size
    by_cases hlt : k < ws.length
    · obtain ⟨ab, ao, rfl, hab, hcell0⟩ := hr k _ (wvs_get ws k hlt)
      have hcell := (hb.cell (p := ⟨ab, ao + k, none⟩) hab).trans hcell0
      have hd : ws[k] = ws.getD k 0 := by simp [List.getD_eq_getElem?_getD, hlt]
      rw [hd] at hcell
      have hma := mask_and' W (ws.getD k 0) HWW.out (getD_lt ws _ (by decide) H64.out k)
      rw [← HM.out] at hma
      have hvl : ws.getD k 0 % 256 ^ W < 256 ^ W := Nat.mod_lt _ pow_pos'
      have hMl : 256 ^ W ≤ 18446744073709551616 := by
        rcases isW_pow HWW.out with e | e | e | e <;> rw [e] <;> omega
      have hM2 := HM2.out
      have hat : unfoldAt (256 ^ W) ws k = unfoldN (256 ^ W) (ws.getD k 0 % 256 ^ W) := rfl
      obtain ⟨x, hx⟩ : ∃ x, x = ws.getD k 0 % 256 ^ W := ⟨_, rfl⟩
      rw [← hx] at hvl hma hat
      obtain ⟨v, hvv⟩ : ∃ v, v = ws.getD k 0 := ⟨_, rfl⟩
      rw [← hvv] at hcell hma
      obtain ⟨P, hP⟩ : ∃ P, P = 256 ^ W := ⟨_, rfl⟩
      have hPn : unfoldN P x = unfoldAt P ws k := by rw [hP, hat]
      rw [← hP] at hvl hMl hM2
      have hk1 : (k : Int) < (ws.length : Int) := by omega
      have HH := Lib.hid hPn
      have HP := Lib.hid hP
      clear hvv hx hcell0 hd hat hPn hP
      by_cases hh : x % 2 = 0
      · have hv : IntKind.u64.wrap ((x : Int) / 2) = ((unfoldAt (256 ^ W) ws k : Nat) : Int) := by
          rw [← HP.out, ← HH.out, unfoldN, if_pos hh, IntKind.wrap_u64]; omega
        have hdec2 : ((x : Int) % 2 == 0) = true := by rw [beq_iff_eq]; omega
        have HVAL := Lib.hid hv
        clear hv hh hvl hMl hM2
        go_wp2_with ((with_reducible show wpList _ _ _ (({ dst := some 33, op := _, type := _, pos := _, after := _, guard := _ } : Oper) :: _) _ _); rw [HVAL.out]; go_must (refine wpList_app rfl (.tmp 29) (.tmp 32) 53 rfl w.heap.size 63 i0 (.int .u64 0) 1 8 Tryz.underlying53 hi hz0 hz1 hz2 rfl (by decide) _ _ _ rfl (hown.alloc _) _ _ 1 1 _ rfl (Rd.new _ _ _) rfl (by intro u hu; simp at hu; subst hu; rfl) (by simp only [maxLen]; omega) (by omega) (by simp; omega) ?_; intro v1 w1 hown1 hg1; have hb1 : Below w.heap.size w w1 := (hb.alloc hbs _).grown hg1 (by simp; omega) (own_block hown); clear hg1 hown hb))
        have hown2 : w1.ownsRow w.heap.size 63 1 v1 (k + 1) (wvs (rowOf (unfoldAt (256 ^ W) ws) (k + 1))) := by
          rw [rowOf_snoc, wvs_snoc]
          exact hown1
        clear hown1
        go_roundw
        case rel => exact ⟨k + 1, by omega, by go_num, hown2, hb1⟩
        case measure => simp [intOf]; omega
      · have hv : IntKind.u64.wrap ((M : Int) - IntKind.u64.wrap ((x : Int) / 2)) = ((unfoldAt (256 ^ W) ws k : Nat) : Int) := by
          rw [← HP.out, ← HH.out, unfoldN, if_neg hh, IntKind.wrap_u64, IntKind.wrap_u64]; omega
        have hdec2 : ((x : Int) % 2 == 0) = false := by rw [beq_eq_false_iff_ne]; omega
        have HVAL := Lib.hid hv
        clear hv hh hvl hMl hM2
        go_wp2_with ((with_reducible show wpList _ _ _ (({ dst := some 40, op := _, type := _, pos := _, after := _, guard := _ } : Oper) :: _) _ _); rw [HVAL.out]; go_must (refine wpList_app rfl (.tmp 34) (.tmp 39) 53 rfl w.heap.size 63 i0 (.int .u64 0) 1 8 Tryz.underlying53 hi hz0 hz1 hz2 rfl (by decide) _ _ _ rfl (hown.alloc _) _ _ 1 1 _ rfl (Rd.new _ _ _) rfl (by intro u hu; simp at hu; subst hu; rfl) (by simp only [maxLen]; omega) (by omega) (by simp; omega) ?_; intro v1 w1 hown1 hg1; have hb1 : Below w.heap.size w w1 := (hb.alloc hbs _).grown hg1 (by simp; omega) (own_block hown); clear hg1 hown hb))
        have hown2 : w1.ownsRow w.heap.size 63 1 v1 (k + 1) (wvs (rowOf (unfoldAt (256 ^ W) ws) (k + 1))) := by
          rw [rowOf_snoc, wvs_snoc]
          exact hown1
        clear hown1
        go_roundw
        case rel => exact ⟨k + 1, by omega, by go_num, hown2, hb1⟩
        case measure => simp [intOf]; omega
    · obtain rfl : k = ws.length := by omega
      go_wp2
      go_ret
      refine NewW.of_own ?_ hb
      rw [unfoldW_len]
      exact hown
theorem refUnfold_any (W : Int) (A : Option Addr) (n c : Nat) (ws : List Nat) (w : World) (hr : Rd w w.heap.size A (wvs ws)) (hn : ws.length = n) (hb1 : n ≤ 1000000000000) (hlt64 : ∀ x ∈ ws, x < 18446744073709551616) :
    Calls Tryz.prog 53 #[.slice A n c, .int .i64 W] w (NewW w (ofW unfoldW W ws)) := by
  cases hR : rightB W with
  | true =>
    obtain ⟨V, rfl, hV⟩ := isW_of hR
    rw [ofW_of hV]
    exact refUnfold_right V hV A n c ws w hr hn hb1 hlt64
  | false =>
    unfold ofW
    rw [hR, if_neg (by decide)]
    exact refUnfold_wrong _ W w hR
end Go.Proofs.YtcenbaajojdjlaaGreatDoor
