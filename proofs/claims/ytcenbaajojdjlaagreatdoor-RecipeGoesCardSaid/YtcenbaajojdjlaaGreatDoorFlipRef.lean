/- Contracts of layer 7's reference: Flip, Back. -/
import Derived.Test.YtcenbaajojdjlaaGreatDoorFlipEach
namespace Go.Proofs.YtcenbaajojdjlaaGreatDoor
open Go.RowKit

theorem refFlip_wrong (a : Value) (W : Int) (w : World) (hW : rightB W = false) :
    Calls Tryz.prog 43 #[a, .int .i64 W] w (NewW w []) := by
  have c1 := refRight_any W false hW.symm
  have C1 := Lib.hid c1
  clear c1
  go_enter Tryz.func43, Tryz.ntmps43
  go_wp2_with (go_at_call 39; go_must (refine (C1.out _).mono ?_; rintro e w' ⟨rfl, rfl⟩))
  go_ret
  exact ⟨.slice none 0 0, rfl, ⟨none, 0, rfl, Nat.le_refl _, Rd.nil_ _ _ _⟩, Below.refl _ _⟩
theorem refBack_wrong (a : Value) (W : Int) (w : World) (hW : rightB W = false) :
    Calls Tryz.prog 54 #[a, .int .i64 W] w (NewW w []) := by
  have c1 := refRight_any W false hW.symm
  have C1 := Lib.hid c1
  clear c1
  go_enter Tryz.func54, Tryz.ntmps54
  go_wp2_with (go_at_call 39; go_must (refine (C1.out _).mono ?_; rintro e w' ⟨rfl, rfl⟩))
  go_ret
  exact ⟨.slice none 0 0, rfl, ⟨none, 0, rfl, Nat.le_refl _, Rd.nil_ _ _ _⟩, Below.refl _ _⟩

set_option maxHeartbeats 1000000 in
set_option maxRecDepth 100000 in
theorem refFlip_right (W : Nat) (hW : IsW W) (A : Option Addr) (n c : Nat) (ws : List Nat) (w : World) (hr : Rd w w.heap.size A (wvs ws)) (hn : ws.length = n) (hb1 : n ≤ 1000000000000) (hlt64 : ∀ x ∈ ws, x < 18446744073709551616) :
    Calls Tryz.prog 43 #[.slice A n c, .int .i64 (W : Int)] w (NewW w (flipW W ws)) := by
  obtain ⟨i0, hi, hz0, hz1, hz2⟩ := info_parts info_u64r
  subst hn
  have H64 := Lib.hid hlt64
  have HWW := Lib.hid hW
  have c1 := refRight_any (W : Int) true hW.right
  have C1 := Lib.hid c1
  have c2 := fun W' => refMask_any (W : Int) W' (by have := hW.pos; omega)
  obtain ⟨M, hM⟩ : ∃ M, M = maskN (W : Int) := ⟨_, rfl⟩
  rw [← hM] at c2
  have C2 := Lib.hid c2
  have HM := Lib.hid hM
  clear hlt64 hW c1 c2 hM
  go_enter Tryz.func43, Tryz.ntmps43
  go_wp2_with (go_at_call 39; go_must (refine (C1.out _).mono ?_; rintro e w' ⟨rfl, rfl⟩))
  go_loopw [5, 6] (RefRow w (flipAt (256 ^ W) ws) ws.length) (fun _ i _ => ws.length - (intOf i).toNat)
  case atStart => exact ⟨0, Nat.zero_le _, rfl, World.ownsRow_nil _ _ _ _, Below.refl _ _⟩
  case round =>
    obtain ⟨k, hk, rfl, hown, hb⟩ := hrel
    have hbs := hb.size
    by_cases hlt : k < ws.length
    · obtain ⟨ab, ao, rfl, hab, hcell0⟩ := hr k _ (wvs_get ws k hlt)
      have hcell := (hb.cell (p := ⟨ab, ao + k, none⟩) hab).trans hcell0
      have hd : ws[k] = ws.getD k 0 := by simp [List.getD_eq_getElem?_getD, hlt]
      rw [hd] at hcell
      have hk1 : (k : Int) < (ws.length : Int) := by omega
      by_cases h0 : k = 0
      · have hma := mask_and' W (ws.getD k 0) HWW.out (getD_lt ws _ (by decide) H64.out k)
        have ho : ws.getD k 0 % 256 ^ W = flipAt (256 ^ W) ws k := by
          unfold flipAt ahead
          rw [if_pos h0, Nat.xor_zero]
        rw [← HM.out, ho] at hma
        obtain ⟨v, hvv⟩ : ∃ v, v = ws.getD k 0 := ⟨_, rfl⟩
        rw [← hvv] at hcell hma
        have HMA := Lib.hid hma
        have hkz : ¬ (0 < (k : Int)) := by omega
        clear hvv hcell0 hma ho hd h0
        go_wp2_with (first
          | (go_at_call 74; go_must (refine (C2.out _).mono ?_; rintro e w' ⟨rfl, rfl⟩))
          | ((with_reducible show wpList _ _ _ (({ dst := some 36, op := _, type := _, pos := _, after := _, guard := _ } : Oper) :: _) _ _); rw [HMA.out]; go_must (refine wpList_app rfl (.tmp 30) (.tmp 35) 53 rfl w.heap.size 63 i0 (.int .u64 0) 1 8 Tryz.underlying53 hi hz0 hz1 hz2 rfl (by decide) _ _ _ rfl (hown.alloc _) _ _ 1 1 _ rfl (Rd.new _ _ _) rfl (by intro u hu; simp at hu; subst hu; rfl) (by simp only [maxLen]; omega) (by omega) (by simp; omega) ?_; intro v1 w1 hown1 hg1; have hb1 : Below w.heap.size w w1 := (hb.alloc hbs _).grown hg1 (by simp; omega) (own_block hown); clear hg1 hown hb)))
        have hown2 : w1.ownsRow w.heap.size 63 1 v1 (k + 1) (wvs (rowOf (flipAt (256 ^ W) ws) (k + 1))) := by
          rw [rowOf_snoc, wvs_snoc]
          exact hown1
        clear hown1
        go_roundw
        case rel => exact ⟨k + 1, by omega, by go_num, hown2, hb1⟩
        case measure => simp [intOf]; omega
      · obtain ⟨ab2, ao2, he, _, hcellp0⟩ := hr (k - 1) _ (wvs_get ws (k - 1) (by omega))
        injection he with he
        injection he with he1 he2
        subst he1 he2
        have hcellp := (hb.cell (p := ⟨ab, ao + (k - 1), none⟩) hab).trans hcellp0
        have hdp : ws[k - 1]'(by omega) = ws.getD (k - 1) 0 := by simp [List.getD_eq_getElem?_getD, show k - 1 < ws.length by omega]
        rw [hdp] at hcellp
        have hpl := getD_lt ws _ (by decide) H64.out (k - 1)
        have hvl := getD_lt ws _ (by decide) H64.out k
        have hx2 := u64_xor_nat _ _ hvl hpl
        have hma := mask_and' W (ws.getD k 0 ^^^ ws.getD (k - 1) 0) HWW.out (xor_lt 8 _ _ hvl hpl)
        have ho : (ws.getD k 0 ^^^ ws.getD (k - 1) 0) % 256 ^ W = flipAt (256 ^ W) ws k := by
          unfold flipAt ahead
          rw [if_neg h0]
        rw [← HM.out, ho] at hma
        obtain ⟨v, hvv⟩ : ∃ v, v = ws.getD k 0 := ⟨_, rfl⟩
        obtain ⟨p, hpp⟩ : ∃ p, p = ws.getD (k - 1) 0 := ⟨_, rfl⟩
        obtain ⟨y, hyy⟩ : ∃ y, y = ws.getD k 0 ^^^ ws.getD (k - 1) 0 := ⟨_, rfl⟩
        rw [← hyy] at hx2 hma
        rw [← hvv] at hcell hx2
        rw [← hpp] at hcellp hx2
        have HMA := Lib.hid hma
        have hm1 : ((k : Int) - 1).toNat = k - 1 := by omega
        have hm2 : (0 : Int) < (k : Int) := by omega
        have hm3 : (k : Int) - 1 < (ws.length : Int) := by omega
        have hm4 : 0 ≤ (k : Int) - 1 := by omega
        clear hvv hpp hyy hvl hcell0 hma ho hd hdp hpl hcellp0 h0
        go_wp2_with (first
          | (go_at_call 74; go_must (refine (C2.out _).mono ?_; rintro e w' ⟨rfl, rfl⟩))
          | ((with_reducible show wpList _ _ _ (({ dst := some 36, op := _, type := _, pos := _, after := _, guard := _ } : Oper) :: _) _ _); rw [HMA.out]; go_must (refine wpList_app rfl (.tmp 30) (.tmp 35) 53 rfl w.heap.size 63 i0 (.int .u64 0) 1 8 Tryz.underlying53 hi hz0 hz1 hz2 rfl (by decide) _ _ _ rfl (hown.alloc _) _ _ 1 1 _ rfl (Rd.new _ _ _) rfl (by intro u hu; simp at hu; subst hu; rfl) (by simp only [maxLen]; omega) (by omega) (by simp; omega) ?_; intro v1 w1 hown1 hg1; have hb1 : Below w.heap.size w w1 := (hb.alloc hbs _).grown hg1 (by simp; omega) (own_block hown); clear hg1 hown hb)))
        have hown2 : w1.ownsRow w.heap.size 63 1 v1 (k + 1) (wvs (rowOf (flipAt (256 ^ W) ws) (k + 1))) := by
          rw [rowOf_snoc, wvs_snoc]
          exact hown1
        clear hown1
        go_roundw
        case rel => exact ⟨k + 1, by omega, by go_num, hown2, hb1⟩
        case measure => simp [intOf]; omega
    · obtain rfl : k = ws.length := by omega
      go_wp2
      go_ret
      refine NewW.of_own ?_ hb
      rw [flipW_len]
      exact hown
theorem refFlip_any (W : Int) (A : Option Addr) (n c : Nat) (ws : List Nat) (w : World) (hr : Rd w w.heap.size A (wvs ws)) (hn : ws.length = n) (hb1 : n ≤ 1000000000000) (hlt64 : ∀ x ∈ ws, x < 18446744073709551616) :
    Calls Tryz.prog 43 #[.slice A n c, .int .i64 W] w (NewW w (ofW flipW W ws)) := by
  cases hR : rightB W with
  | true =>
    obtain ⟨V, rfl, hV⟩ := isW_of hR
    rw [ofW_of hV]
    exact refFlip_right V hV A n c ws w hr hn hb1 hlt64
  | false =>
    unfold ofW
    rw [hR, if_neg (by decide)]
    exact refFlip_wrong _ W w hR
/-- What holds at the head of a round of Back. -/
def RefRowX (w : World) (W : Nat) (ws : List Nat) (v t i : Value) (wr : World) : Prop :=
  ∃ k : Nat, k ≤ ws.length ∧ i = .int .i64 k ∧ t = .int .u64 ((xorTo ws k : Nat) : Int) ∧ wr.ownsRow w.heap.size 63 1 v k (wvs (rowOf (backAt (256 ^ W) ws) k)) ∧ Below w.heap.size w wr
set_option maxHeartbeats 1000000 in
set_option maxRecDepth 100000 in
theorem refBack_right (W : Nat) (hW : IsW W) (A : Option Addr) (n c : Nat) (ws : List Nat) (w : World) (hr : Rd w w.heap.size A (wvs ws)) (hn : ws.length = n) (hb1 : n ≤ 1000000000000) (hlt64 : ∀ x ∈ ws, x < 18446744073709551616) :
    Calls Tryz.prog 54 #[.slice A n c, .int .i64 (W : Int)] w (NewW w (backW W ws)) := by
  obtain ⟨i0, hi, hz0, hz1, hz2⟩ := info_parts info_u64r
  subst hn
  have H64 := Lib.hid hlt64
  have HWW := Lib.hid hW
  have c1 := refRight_any (W : Int) true hW.right
  have C1 := Lib.hid c1
  have c2 := fun W' => refMask_any (W : Int) W' (by have := hW.pos; omega)
  obtain ⟨M, hM⟩ : ∃ M, M = maskN (W : Int) := ⟨_, rfl⟩
  rw [← hM] at c2
  have C2 := Lib.hid c2
  have HM := Lib.hid hM
  clear hlt64 hW c1 c2 hM
  go_enter Tryz.func54, Tryz.ntmps54
  go_wp2_with (go_at_call 39; go_must (refine (C1.out _).mono ?_; rintro e w' ⟨rfl, rfl⟩))
  go_loopw [5, 6, 7] (RefRowX w W ws) (fun _ _ i _ => ws.length - (intOf i).toNat)
  case atStart => exact ⟨0, Nat.zero_le _, rfl, rfl, World.ownsRow_nil _ _ _ _, Below.refl _ _⟩
  case round =>
    obtain ⟨k, hk, rfl, rfl, hown, hb⟩ := hrel
    have hbs := hb.size
    by_cases hlt : k < ws.length
    · obtain ⟨ab, ao, rfl, hab, hcell0⟩ := hr k _ (wvs_get ws k hlt)
      have hcell := (hb.cell (p := ⟨ab, ao + k, none⟩) hab).trans hcell0
      have hd : ws[k] = ws.getD k 0 := by simp [List.getD_eq_getElem?_getD, hlt]
      rw [hd] at hcell
      have hk1 : (k : Int) < (ws.length : Int) := by omega
      have hxl := xorTo_lt ws H64.out k
      have hvl := getD_lt ws _ (by decide) H64.out k
      have hx2 := u64_xor_nat _ _ hxl hvl
      have hnx : xorTo ws k ^^^ ws.getD k 0 = xorTo ws (k + 1) := rfl
      rw [hnx] at hx2
      have hma := mask_and' W (xorTo ws (k + 1)) HWW.out (xorTo_lt ws H64.out (k + 1))
      have ho : xorTo ws (k + 1) % 256 ^ W = backAt (256 ^ W) ws k := rfl
      rw [← HM.out, ho] at hma
      obtain ⟨v, hvv⟩ : ∃ v, v = ws.getD k 0 := ⟨_, rfl⟩
      obtain ⟨a, haa⟩ : ∃ a, a = xorTo ws k := ⟨_, rfl⟩
      obtain ⟨b, hbb⟩ : ∃ b, b = xorTo ws (k + 1) := ⟨_, rfl⟩
      rw [← hvv] at hcell hx2
      rw [← haa] at hx2
      rw [← haa]
      rw [← hbb] at hx2 hma
      have HMA := Lib.hid hma
      have HBB := Lib.hid hbb
      clear hvv haa hbb hcell0 hma ho hd hxl hvl hnx
      go_wp2_with (first
          | (go_at_call 74; go_must (refine (C2.out _).mono ?_; rintro e w' ⟨rfl, rfl⟩))
          | ((with_reducible show wpList _ _ _ (({ dst := some 29, op := _, type := _, pos := _, after := _, guard := _ } : Oper) :: _) _ _); rw [HMA.out]; go_must (refine wpList_app rfl (.tmp 23) (.tmp 28) 53 rfl w.heap.size 63 i0 (.int .u64 0) 1 8 Tryz.underlying53 hi hz0 hz1 hz2 rfl (by decide) _ _ _ rfl (hown.alloc _) _ _ 1 1 _ rfl (Rd.new _ _ _) rfl (by intro u hu; simp at hu; subst hu; rfl) (by simp only [maxLen]; omega) (by omega) (by simp; omega) ?_; intro v1 w1 hown1 hg1; have hb1 : Below w.heap.size w w1 := (hb.alloc hbs _).grown hg1 (by simp; omega) (own_block hown); clear hg1 hown hb)))
      have hown2 : w1.ownsRow w.heap.size 63 1 v1 (k + 1) (wvs (rowOf (backAt (256 ^ W) ws) (k + 1))) := by
        rw [rowOf_snoc, wvs_snoc]
        exact hown1
      clear hown1
      go_roundw
      case rel => exact ⟨k + 1, by omega, by go_num, by rw [HBB.out], hown2, hb1⟩
      case measure => simp [intOf]; omega
    · obtain rfl : k = ws.length := by omega
      go_wp2
      go_ret
      refine NewW.of_own ?_ hb
      rw [backW_len]
      exact hown
theorem refBack_any (W : Int) (A : Option Addr) (n c : Nat) (ws : List Nat) (w : World) (hr : Rd w w.heap.size A (wvs ws)) (hn : ws.length = n) (hb1 : n ≤ 1000000000000) (hlt64 : ∀ x ∈ ws, x < 18446744073709551616) :
    Calls Tryz.prog 54 #[.slice A n c, .int .i64 W] w (NewW w (ofW backW W ws)) := by
  cases hR : rightB W with
  | true =>
    obtain ⟨V, rfl, hV⟩ := isW_of hR
    rw [ofW_of hV]
    exact refBack_right V hV A n c ws w hr hn hb1 hlt64
  | false =>
    unfold ofW
    rw [hR, if_neg (by decide)]
    exact refBack_wrong _ W w hR
end Go.Proofs.YtcenbaajojdjlaaGreatDoor
