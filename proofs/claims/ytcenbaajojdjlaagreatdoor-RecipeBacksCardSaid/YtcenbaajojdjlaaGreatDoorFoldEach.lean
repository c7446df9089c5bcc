/- Contracts of layer 6: within, halfOf, fold, unfold, each, Fold, Unfold. -/
import Derived.Test.YtcenbaajojdjlaaGreatDoorWordFn
import Derived.Test.YtcenbaajojdjlaaGreatDoorWordRows
import Derived.Deep.DeepMust
namespace Go.Proofs.YtcenbaajojdjlaaGreatDoor
open Go.RowKit

theorem within_any (v m h x : Nat) (w : World) (hv : v ≤ m) (hm : m < 18446744073709551616) (hx : x = if h = 1 then m - v else v) :
    Calls Tryz.prog 86 #[.int .u64 (v : Int), .int .u64 (m : Int), .int .u64 (h : Int)] w fun e w' => e = .returned (.int .u64 (x : Int)) ∧ w' = w := by
  by_cases h1 : h = 1
  · rw [if_pos h1] at hx
    have hs : IntKind.u64.wrap ((m : Int) - (v : Int)) = (x : Int) := by rw [IntKind.wrap_u64]; omega
    have HS := Lib.hid hs
    have hd : ((h : Int) == 1) = true := by rw [beq_iff_eq]; omega
    clear hs hx h1 hv hm
    go_enter Tryz.func86, Tryz.ntmps86
    go_wp2
    go_ret
    exact ⟨ret_int HS.out, rfl⟩
  · rw [if_neg h1] at hx
    subst hx
    have hd : ((h : Int) == 1) = false := by rw [beq_eq_false_iff_ne]; omega
    clear h1 hv hm
    go_enter Tryz.func86, Tryz.ntmps86
    go_wp2
    go_ret
    exact ⟨rfl, rfl⟩
theorem halfOf_any (v m x : Nat) (w : World) (hm : m < 18446744073709551616) (hx : x = if v ≤ m / 2 then 0 else 1) :
    Calls Tryz.prog 85 #[.int .u64 (v : Int), .int .u64 (m : Int)] w fun e w' => e = .returned (.int .u64 (x : Int)) ∧ w' = w := by
  by_cases h1 : v ≤ m / 2
  · rw [if_pos h1] at hx
    subst hx
    have hd : (v : Int) ≤ IntKind.u64.wrap ((m : Int) / 2) := by rw [IntKind.wrap_u64]; omega
    clear h1 hm
    go_enter Tryz.func85, Tryz.ntmps85
    go_wp2
    go_ret
    exact ⟨rfl, rfl⟩
  · rw [if_neg h1] at hx
    subst hx
    have hd : ¬ ((v : Int) ≤ IntKind.u64.wrap ((m : Int) / 2)) := by rw [IntKind.wrap_u64]; omega
    clear h1 hm
    go_enter Tryz.func85, Tryz.ntmps85
    go_wp2
    go_ret
    exact ⟨rfl, rfl⟩
theorem fold_or (y h : Nat) (hh : h = 0 ∨ h = 1) (hy : 2 * y < 18446744073709551616) : bits .or .u64 (IntKind.u64.wrap ((y : Int) * 2)) (h : Int) = ((2 * y + h : Nat) : Int) := by
  have e : IntKind.u64.wrap ((y : Int) * 2) = ((2 * y : Nat) : Int) := by rw [IntKind.wrap_u64]; omega
  rw [e]
  rcases hh with rfl | rfl
  · rw [u64_or_nat _ _ hy (by decide), Nat.or_zero]; rfl
  · have := or1_u64 ((2 * y : Nat) : Int) (by omega) (by omega) (by omega)
    simpa using this
theorem foldFn_any (v m M x : Nat) (w : World) (hM : m = M - 1) (hM0 : 0 < M) (hv : v ≤ m) (hm : m < 18446744073709551616) (hx : x = foldN M v) :
    Calls Tryz.prog 61 #[.int .u64 (v : Int), .int .u64 (m : Int)] w fun e w' => e = .returned (.int .u64 (x : Int)) ∧ w' = w := by
  obtain ⟨h, hh⟩ : ∃ h, h = if v ≤ m / 2 then 0 else 1 := ⟨_, rfl⟩
  obtain ⟨y, hy⟩ : ∃ y, y = if h = 1 then m - v else v := ⟨_, rfl⟩
  have c1 := fun W => halfOf_any v m h W hm hh
  have c2 := fun W => within_any v m h y W hv hm hy
  have h01 : h = 0 ∨ h = 1 := by rw [hh]; split <;> simp
  have hxy : 2 * y + h = x ∧ 2 * y < 18446744073709551616 := by
    rw [hx, hy, hh]
    unfold foldN
    subst hM
    by_cases g : v ≤ (M - 1) / 2
    · rw [if_pos g, if_neg (by decide), if_pos g]; omega
    · rw [if_neg g, if_pos rfl, if_neg g]; omega
  have hor := fold_or y h h01 hxy.2
  rw [hxy.1] at hor
  have HOR := Lib.hid hor
  have C1 := Lib.hid c1
  have C2 := Lib.hid c2
  clear hor c1 c2 hxy h01 hy hh hx hv hm hM hM0
  go_enter Tryz.func61, Tryz.ntmps61
  go_wp2_with (first
    | (go_at_call 85; go_must (refine (C1.out _).mono ?_; rintro e w' ⟨rfl, rfl⟩))
    | (go_at_call 86; go_must (refine (C2.out _).mono ?_; rintro e w' ⟨rfl, rfl⟩)))
  go_ret
  exact ⟨ret_int HOR.out, rfl⟩
theorem unfoldFn_any (v m M x : Nat) (w : World) (hM : m = M - 1) (hv : v ≤ m) (hm : m < 18446744073709551616) (hx : x = unfoldN M v) :
    Calls Tryz.prog 62 #[.int .u64 (v : Int), .int .u64 (m : Int)] w fun e w' => e = .returned (.int .u64 (x : Int)) ∧ w' = w := by
  have hb : bits .and .u64 (v : Int) 1 = ((v % 2 : Nat) : Int) := by rw [and1_u64 _ (by omega) (by omega)]; omega
  have hd : (v : Int) / 2 = ((v / 2 : Nat) : Int) := by omega
  have hxx : x = if v % 2 = 1 then m - v / 2 else v / 2 := by
    rw [hx, hM]
    unfold unfoldN
    by_cases g : v % 2 = 0
    · rw [if_pos g, if_neg (by omega)]
    · rw [if_neg g, if_pos (by omega)]
  have c2 := fun W => within_any (v / 2) m (v % 2) x W (by omega) hm hxx
  rw [← hb, ← hd] at c2
  have C2 := Lib.hid c2
  clear c2 hxx hx hv hm hM hb hd
  go_enter Tryz.func62, Tryz.ntmps62
  go_wp2_with (go_at_call 86; go_must (refine (C2.out _).mono ?_; rintro e w' ⟨rfl, rfl⟩))
  go_ret
  exact ⟨rfl, rfl⟩
/-- What holds at the head of a round of each. -/
def FEachRel (w : World) (f : Nat → Nat) (r n : Nat) (i : Value) (wr : World) : Prop :=
  ∃ k : Nat, k ≤ n ∧ i = .int .i64 k ∧ Blk wr r 63 (wrow (rowOf f k) n) ∧ Below w.heap.size w wr
theorem feach_wrong (a : Value) (b : Value) (W : Int) (w : World) (hW : rightB W = false) :
    Calls Tryz.prog 60 #[a, .int .i64 W, b] w fun e w' => e = .returned (.slice none 0 0) ∧ w' = w := by
  have c1 := wordRight_any W false hW.symm
  have C1 := Lib.hid c1
  clear c1
  go_enter Tryz.func60, Tryz.ntmps60
  go_wp2_with (go_at_call 22; go_must (refine (C1.out _).mono ?_; rintro e w' ⟨rfl, rfl⟩))
  go_ret
  exact ⟨rfl, rfl⟩

set_option maxHeartbeats 1000000 in
set_option maxRecDepth 100000 in
theorem feachFold_any (W : Nat) (hW : IsW W) (A : Option Addr) (n c : Nat) (ws : List Nat) (w : World) (hr : Rd w w.heap.size A (wvs ws)) (hn : ws.length = n) (hb1 : n ≤ 1000000000000) (hlt64 : ∀ x ∈ ws, x < 18446744073709551616) :
    Calls Tryz.prog 60 #[.slice A n c, .int .i64 (W : Int), .func (.func 61) #[] #[]] w (NewW w (foldW W ws)) := by
  obtain ⟨i0, hi, hz0, hz1, hz2⟩ := info_parts info_u64r
  subst hn
  have H64 := Lib.hid hlt64
  have HWW := Lib.hid hW
  have c1 := wordRight_any (W : Int) true hW.right
  have C1 := Lib.hid c1
  have c2 := wordMask_any (W : Int)
  have hM2 := mask_is W hW
  obtain ⟨M, hM⟩ : ∃ M, M = maskN (W : Int) := ⟨_, rfl⟩
  rw [← hM] at c2 hM2
  have C2 := Lib.hid c2
  have HM := Lib.hid hM
  have HM2 := Lib.hid hM2
  clear hlt64 hW c1 c2 hM hM2
  go_enter Tryz.func60, Tryz.ntmps60
  go_wp2_with (first
    | (go_at_call 22; go_must (refine (C1.out _).mono ?_; rintro e w' ⟨rfl, rfl⟩))
    | (go_at_call 84; go_must (refine (C2.out _).mono ?_; rintro e w' ⟨rfl, rfl⟩))
    | (at_make; go_must (refine wpList_mk rfl (.tmp 17) (.tmp 17) 53 rfl w.heap.size 63 i0 (.int .u64 0) 8 Tryz.underlying53 hi hz0 rfl hz1 hz2 .i64 .i64 _ _ rfl rfl ws.length ws.length rfl rfl (Nat.le_refl _) (by omega) (by simp only [maxLen]; omega) (Nat.le_refl _) ?_; intro w1 hg1 hown1 hgr1; have hb : Below w.heap.size w w1 := (Below.refl _ _).grown hgr1 (Nat.le_refl _) (by simp); have hblk : Blk w1 w.heap.size 63 (wrow (rowOf (foldAt (256 ^ W) ws) 0) ws.length) := (by unfold Blk; rw [hg1]; simp [wrow, rowOf, wvs]); clear hg1 hown1 hgr1)))
  go_loopw [21] (FEachRel w (foldAt (256 ^ W) ws) w.heap.size ws.length) (fun i _ => ws.length - (intOf i).toNat)
  case atStart => exact ⟨0, Nat.zero_le _, rfl, hblk, hb⟩
  case round =>
    clear hblk hb
    obtain ⟨k, hk, rfl, hblk, hb⟩ := hrel
    by_cases hlt : k < ws.length
    · obtain ⟨ab, ao, rfl, hab, hcell0⟩ := hr k _ (wvs_get ws k hlt)
      have hcell := (hb.cell (p := ⟨ab, ao + k, none⟩) hab).trans hcell0
      have hd : ws[k] = ws.getD k 0 := by simp [List.getD_eq_getElem?_getD, hlt]
      rw [hd] at hcell
      have hma := mask_and' W (ws.getD k 0) HWW.out (getD_lt ws _ (by decide) H64.out k)
      rw [← HM.out] at hma
      have hvl : ws.getD k 0 % 256 ^ W < 256 ^ W := Nat.mod_lt _ pow_pos'
      have hM0 : 0 < 256 ^ W := pow_pos'
      have hMl : M < 18446744073709551616 := by
        have := HM2.out
        rcases isW_pow HWW.out with e | e | e | e <;> rw [e] at this <;> omega
      obtain ⟨x, hx⟩ : ∃ x, x = foldAt (256 ^ W) ws k := ⟨_, rfl⟩
      have c3 := fun W' => foldFn_any (ws.getD k 0 % 256 ^ W) M (256 ^ W) x W' HM2.out hM0 (by have := HM2.out; omega) hMl hx
      rw [← hma] at c3
      obtain ⟨v, hvv⟩ : ∃ v, v = ws.getD k 0 := ⟨_, rfl⟩
      rw [← hvv] at hcell c3
      have hcr := hblk.cell k
      have h0 := wrow_get (rowOf (foldAt (256 ^ W) ws) k) ws.length (by rw [rowOf_len]; exact hlt)
      rw [rowOf_len] at h0
      rw [h0] at hcr
      have hfr := hblk.frozen k
      have hset := hblk.set_ k (.int .u64 (x : Int))
      have h1 := wrow_set (rowOf (foldAt (256 ^ W) ws) k) ws.length x (by rw [rowOf_len]; exact hlt)
      rw [rowOf_len] at h1
      rw [h1, hx, ← rowOf_snoc, ← hx] at hset
      have C3 := Lib.hid c3
      have HSET := Lib.hid hset
      clear c3 hma hset hx hMl hM0 hvl hd hvv hcell0 h0 h1 hblk
      have hk1 : (k : Int) < (ws.length : Int) := by omega
      go_wp2_with fail
      refine (C3.out _).mono ?_
      rintro e w1 ⟨rfl, rfl⟩
      go_wp2
      go_roundw
      case rel => exact ⟨k + 1, by omega, by go_num, HSET.out, hb.setCell (Nat.le_refl _) _⟩
      case measure => simp [intOf]; omega
    · obtain rfl : k = ws.length := by omega
      have hfull := wrow_full (rowOf (foldAt (256 ^ W) ws) ws.length)
      rw [rowOf_len] at hfull
      rw [hfull] at hblk
      have hrd := Rd.of_blk hblk
      have HRD := Lib.hid hrd
      clear hblk hfull hrd
      go_wp2
      go_ret
      exact ⟨.slice (some ⟨w.heap.size, 0, none⟩) ws.length ws.length, rfl, ⟨_, ws.length, by rw [wvs_length, foldW_len], by rw [wvs_length, foldW_len]; exact Nat.le_refl _, HRD.out⟩, hb⟩
set_option maxHeartbeats 1000000 in
theorem foldFold_any (W : Int) (A : Option Addr) (n c : Nat) (ws : List Nat) (w : World) (hr : Rd w w.heap.size A (wvs ws)) (hn : ws.length = n) (hb1 : n ≤ 1000000000000) (hlt64 : ∀ x ∈ ws, x < 18446744073709551616) :
    Calls Tryz.prog 28 #[.slice A n c, .int .i64 W] w (NewW w (ofW foldW W ws)) := by
  unfold ofW
  cases hR : rightB W with
  | true =>
    obtain ⟨V, rfl, hV⟩ := isW_of hR
    rw [if_pos rfl, Int.toNat_natCast]
    have c1 := feachFold_any V hV A n c ws w hr hn hb1 hlt64
    have C1 := Lib.hid c1
    clear c1 hlt64 hR hV hr
    go_enter Tryz.func28, Tryz.ntmps28
    go_wp2_with fail
    refine C1.out.mono ?_
    rintro e w1 ⟨v, rfl, hv, hb⟩
    go_wp2
    go_ret
    exact ⟨v, rfl, hv, hb⟩
  | false =>
    rw [if_neg (by decide)]
    have c1 := fun a b W' => feach_wrong a b W W' hR
    have C1 := Lib.hid c1
    clear c1 hlt64 hR hr
    go_enter Tryz.func28, Tryz.ntmps28
    go_wp2_with fail
    refine (C1.out _ _ _).mono ?_
    rintro e w1 ⟨rfl, rfl⟩
    go_wp2
    go_ret
    exact ⟨.slice none 0 0, rfl, ⟨none, 0, rfl, Nat.le_refl _, Rd.nil_ _ _ _⟩, Below.refl _ _⟩

set_option maxHeartbeats 1000000 in
set_option maxRecDepth 100000 in
theorem feachUnfold_any (W : Nat) (hW : IsW W) (A : Option Addr) (n c : Nat) (ws : List Nat) (w : World) (hr : Rd w w.heap.size A (wvs ws)) (hn : ws.length = n) (hb1 : n ≤ 1000000000000) (hlt64 : ∀ x ∈ ws, x < 18446744073709551616) :
    Calls Tryz.prog 60 #[.slice A n c, .int .i64 (W : Int), .func (.func 62) #[] #[]] w (NewW w (unfoldW W ws)) := by
  obtain ⟨i0, hi, hz0, hz1, hz2⟩ := info_parts info_u64r
  subst hn
  have H64 := Lib.hid hlt64
  have HWW := Lib.hid hW
  have c1 := wordRight_any (W : Int) true hW.right
  have C1 := Lib.hid c1
  have c2 := wordMask_any (W : Int)
  have hM2 := mask_is W hW
  obtain ⟨M, hM⟩ : ∃ M, M = maskN (W : Int) := ⟨_, rfl⟩
  rw [← hM] at c2 hM2
  have C2 := Lib.hid c2
  have HM := Lib.hid hM
  have HM2 := Lib.hid hM2
  clear hlt64 hW c1 c2 hM hM2
  go_enter Tryz.func60, Tryz.ntmps60
  go_wp2_with (first
    | (go_at_call 22; go_must (refine (C1.out _).mono ?_; rintro e w' ⟨rfl, rfl⟩))
    | (go_at_call 84; go_must (refine (C2.out _).mono ?_; rintro e w' ⟨rfl, rfl⟩))
    | (at_make; go_must (refine wpList_mk rfl (.tmp 17) (.tmp 17) 53 rfl w.heap.size 63 i0 (.int .u64 0) 8 Tryz.underlying53 hi hz0 rfl hz1 hz2 .i64 .i64 _ _ rfl rfl ws.length ws.length rfl rfl (Nat.le_refl _) (by omega) (by simp only [maxLen]; omega) (Nat.le_refl _) ?_; intro w1 hg1 hown1 hgr1; have hb : Below w.heap.size w w1 := (Below.refl _ _).grown hgr1 (Nat.le_refl _) (by simp); have hblk : Blk w1 w.heap.size 63 (wrow (rowOf (unfoldAt (256 ^ W) ws) 0) ws.length) := (by unfold Blk; rw [hg1]; simp [wrow, rowOf, wvs]); clear hg1 hown1 hgr1)))
  go_loopw [21] (FEachRel w (unfoldAt (256 ^ W) ws) w.heap.size ws.length) (fun i _ => ws.length - (intOf i).toNat)
  case atStart => exact ⟨0, Nat.zero_le _, rfl, hblk, hb⟩
  case round =>
    clear hblk hb
    obtain ⟨k, hk, rfl, hblk, hb⟩ := hrel
    by_cases hlt : k < ws.length
    · obtain ⟨ab, ao, rfl, hab, hcell0⟩ := hr k _ (wvs_get ws k hlt)
      have hcell := (hb.cell (p := ⟨ab, ao + k, none⟩) hab).trans hcell0
      have hd : ws[k] = ws.getD k 0 := by simp [List.getD_eq_getElem?_getD, hlt]
      rw [hd] at hcell
      have hma := mask_and' W (ws.getD k 0) HWW.out (getD_lt ws _ (by decide) H64.out k)
      rw [← HM.out] at hma
      have hvl : ws.getD k 0 % 256 ^ W < 256 ^ W := Nat.mod_lt _ pow_pos'
      have hMl : M < 18446744073709551616 := by
        have := HM2.out
        rcases isW_pow HWW.out with e | e | e | e <;> rw [e] at this <;> omega
      obtain ⟨x, hx⟩ : ∃ x, x = unfoldAt (256 ^ W) ws k := ⟨_, rfl⟩
      have c3 := fun W' => unfoldFn_any (ws.getD k 0 % 256 ^ W) M (256 ^ W) x W' HM2.out (by have := HM2.out; omega) hMl hx
      rw [← hma] at c3
      obtain ⟨v, hvv⟩ : ∃ v, v = ws.getD k 0 := ⟨_, rfl⟩
      rw [← hvv] at hcell c3
      have hcr := hblk.cell k
      have h0 := wrow_get (rowOf (unfoldAt (256 ^ W) ws) k) ws.length (by rw [rowOf_len]; exact hlt)
      rw [rowOf_len] at h0
      rw [h0] at hcr
      have hfr := hblk.frozen k
      have hset := hblk.set_ k (.int .u64 (x : Int))
      have h1 := wrow_set (rowOf (unfoldAt (256 ^ W) ws) k) ws.length x (by rw [rowOf_len]; exact hlt)
      rw [rowOf_len] at h1
      rw [h1, hx, ← rowOf_snoc, ← hx] at hset
      have C3 := Lib.hid c3
      have HSET := Lib.hid hset
      clear c3 hma hset hx hMl hvl hd hvv hcell0 h0 h1 hblk
      have hk1 : (k : Int) < (ws.length : Int) := by omega
      go_wp2_with fail
      refine (C3.out _).mono ?_
      rintro e w1 ⟨rfl, rfl⟩
      go_wp2
      go_roundw
      case rel => exact ⟨k + 1, by omega, by go_num, HSET.out, hb.setCell (Nat.le_refl _) _⟩
      case measure => simp [intOf]; omega
    · obtain rfl : k = ws.length := by omega
      have hfull := wrow_full (rowOf (unfoldAt (256 ^ W) ws) ws.length)
      rw [rowOf_len] at hfull
      rw [hfull] at hblk
      have hrd := Rd.of_blk hblk
      have HRD := Lib.hid hrd
      clear hblk hfull hrd
      go_wp2
      go_ret
      exact ⟨.slice (some ⟨w.heap.size, 0, none⟩) ws.length ws.length, rfl, ⟨_, ws.length, by rw [wvs_length, unfoldW_len], by rw [wvs_length, unfoldW_len]; exact Nat.le_refl _, HRD.out⟩, hb⟩
set_option maxHeartbeats 1000000 in
theorem foldUnfold_any (W : Int) (A : Option Addr) (n c : Nat) (ws : List Nat) (w : World) (hr : Rd w w.heap.size A (wvs ws)) (hn : ws.length = n) (hb1 : n ≤ 1000000000000) (hlt64 : ∀ x ∈ ws, x < 18446744073709551616) :
    Calls Tryz.prog 29 #[.slice A n c, .int .i64 W] w (NewW w (ofW unfoldW W ws)) := by
  unfold ofW
  cases hR : rightB W with
  | true =>
    obtain ⟨V, rfl, hV⟩ := isW_of hR
    rw [if_pos rfl, Int.toNat_natCast]
    have c1 := feachUnfold_any V hV A n c ws w hr hn hb1 hlt64
    have C1 := Lib.hid c1
    clear c1 hlt64 hR hV hr
    go_enter Tryz.func29, Tryz.ntmps29
    go_wp2_with fail
    refine C1.out.mono ?_
    rintro e w1 ⟨v, rfl, hv, hb⟩
    go_wp2
    go_ret
    exact ⟨v, rfl, hv, hb⟩
  | false =>
    rw [if_neg (by decide)]
    have c1 := fun a b W' => feach_wrong a b W W' hR
    have C1 := Lib.hid c1
    clear c1 hlt64 hR hr
    go_enter Tryz.func29, Tryz.ntmps29
    go_wp2_with fail
    refine (C1.out _ _ _).mono ?_
    rintro e w1 ⟨rfl, rfl⟩
    go_wp2
    go_ret
    exact ⟨.slice none 0 0, rfl, ⟨none, 0, rfl, Nat.le_refl _, Rd.nil_ _ _ _⟩, Below.refl _ _⟩
end Go.Proofs.YtcenbaajojdjlaaGreatDoor
