/- Contracts of layer 5: the closures, each, Diff, Sum, Second, Twice. -/
import Derived.Test.YtcenbaajojdjlaaGreatDoorWordFn
import Derived.Test.YtcenbaajojdjlaaGreatDoorWordRows
import Derived.Deep.DeepMust
namespace Go.Proofs.YtcenbaajojdjlaaGreatDoor
open Go.RowKit

theorem sub_u64 (v a : Nat) (ha : a < 18446744073709551616) : IntKind.u64.wrap ((v : Int) - (a : Int)) = (((v + (18446744073709551616 - a)) % 18446744073709551616 : Nat) : Int) := by
  rw [IntKind.wrap_u64]; omega
theorem add_u64 (a v : Nat) : IntKind.u64.wrap ((a : Int) + (v : Int)) = (((a + v) % 18446744073709551616 : Nat) : Int) := by
  rw [IntKind.wrap_u64]; omega

theorem diffFn_any (g v a : Nat) (w : World) (hg : One w g a) (ha : a < 18446744073709551616) :
    Calls Tryz.prog 58 #[.int .u64 (v : Int), .pointer (some ⟨g, 0, none⟩)] w fun e w' => e = .returned (.int .u64 (((v + (18446744073709551616 - a)) % 18446744073709551616 : Nat) : Int)) ∧ w' = w.setCell ⟨g, 0, none⟩ (.int .u64 (v : Int)) := by
  have hc := hg.cell
  have hf := hg.frozen
  have hs := sub_u64 v a ha
  obtain ⟨x, hx⟩ : ∃ x, x = (v + (18446744073709551616 - a)) % 18446744073709551616 := ⟨_, rfl⟩
  rw [← hx] at hs
  rw [← hx]
  have HS := Lib.hid hs
  clear hg ha hs hx
  go_enter Tryz.func58, Tryz.ntmps58
  go_wp2
  go_ret
  exact ⟨ret_int HS.out, rfl⟩
theorem sumFn_any (g v a : Nat) (w : World) (hg : One w g a) :
    Calls Tryz.prog 59 #[.int .u64 (v : Int), .pointer (some ⟨g, 0, none⟩)] w fun e w' => e = .returned (.int .u64 (((a + v) % 18446744073709551616 : Nat) : Int)) ∧ w' = w.setCell ⟨g, 0, none⟩ (.int .u64 (((a + v) % 18446744073709551616 : Nat) : Int)) := by
  have hc := hg.cell
  have hf := hg.frozen
  have hs := add_u64 a v
  obtain ⟨x, hx⟩ : ∃ x, x = (a + v) % 18446744073709551616 := ⟨_, rfl⟩
  rw [← hx] at hs
  rw [← hx]
  have hc2 := (hg.set_ x).cell
  rw [← hs] at hc2
  have HS := Lib.hid hs
  clear hg hs hx
  go_enter Tryz.func59, Tryz.ntmps59
  go_wp2
  go_ret
  exact ⟨ret_int HS.out, by rw [HS.out]⟩

/-- What holds at the head of a round of each. -/
def EachDiffRel (w : World) (W g r : Nat) (ws : List Nat) (i : Value) (wr : World) : Prop :=
  ∃ k : Nat, k ≤ ws.length ∧ i = .int .i64 k ∧ One wr g (ahead ws k) ∧ Blk wr r 63 (wrow (rowOf (diffAt (256 ^ W) ws) k) ws.length) ∧ Below g w wr

set_option maxHeartbeats 1000000 in
set_option maxRecDepth 100000 in
theorem eachDiff_any (W : Nat) (hW : IsW W) (g : Nat) (A : Option Addr) (n c : Nat) (ws : List Nat) (w : World) (hg : One w g 0) (hr : Rd w g A (wvs ws)) (hn : ws.length = n) (hb1 : n ≤ 1000000000000) (hlt64 : ∀ x ∈ ws, x < 18446744073709551616) :
    Calls Tryz.prog 57 #[.slice A n c, .int .i64 (W : Int), .func (.func 58) #[] #[.pointer (some ⟨g, 0, none⟩)]] w fun e w' => ∃ v, e = .returned v ∧ IsCells (wvs (diffW W ws)) v w' ∧ Below g w w' := by
  obtain ⟨i0, hi, hz0, hz1, hz2⟩ := info_parts info_u64r
  subst hn
  have H64 := Lib.hid hlt64
  have HWW := Lib.hid hW
  have c1 := wordRight_any (W : Int) true hW.right
  have C1 := Lib.hid c1
  have c2 := wordMask_any (W : Int)
  obtain ⟨M, hM⟩ : ∃ M, M = maskN (W : Int) := ⟨_, rfl⟩
  rw [← hM] at c2
  have C2 := Lib.hid c2
  have HM := Lib.hid hM
  have hgl := Blk.lt hg
  clear hlt64 hW c1 c2 hM
  go_enter Tryz.func57, Tryz.ntmps57
  go_wp2_with (first
    | (go_at_call 22; go_must (refine (C1.out _).mono ?_; rintro e w' ⟨rfl, rfl⟩))
    | (go_at_call 84; go_must (refine (C2.out _).mono ?_; rintro e w' ⟨rfl, rfl⟩))
    | (at_make; go_must (refine wpList_mk rfl (.tmp 17) (.tmp 17) 53 rfl w.heap.size 63 i0 (.int .u64 0) 8 Tryz.underlying53 hi hz0 rfl hz1 hz2 .i64 .i64 _ _ rfl rfl ws.length ws.length rfl rfl (Nat.le_refl _) (by omega) (by simp only [maxLen]; omega) (Nat.le_refl _) ?_; intro w1 hg1 hown1 hgr1; have hb : Below w.heap.size w w1 := (Below.refl _ _).grown hgr1 (Nat.le_refl _) (by simp); have hblk : Blk w1 w.heap.size 63 (wrow (rowOf (diffAt (256 ^ W) ws) 0) ws.length) := (by unfold Blk; rw [hg1]; simp [wrow, rowOf, wvs]); clear hg1 hown1 hgr1)))
  have hg1 : One w1 g 0 := Blk.grow hg hb
  have hbg := hb.mono (Nat.le_of_lt hgl)
  clear hb
  go_loopw [21] (EachDiffRel w W g w.heap.size ws) (fun i _ => ws.length - (intOf i).toNat)
  case atStart => exact ⟨0, Nat.zero_le _, rfl, hg1, hblk, hbg⟩
  case round =>
    obtain ⟨k, hk, rfl, hone, hblk, hb⟩ := hrel
    clear hg hg1 hbg
    by_cases hlt : k < ws.length
    · obtain ⟨ab, ao, rfl, hab, hcell0⟩ := hr k _ (wvs_get ws k hlt)
      have hcell := (hb.cell (p := ⟨ab, ao + k, none⟩) hab).trans hcell0
      have hd : ws[k] = ws.getD k 0 := by simp [List.getD_eq_getElem?_getD, hlt]
      have hv := H64.out _ (List.getElem_mem hlt)
      rw [hd] at hv hcell
      have ha := ahead_lt ws _ (by decide) H64.out k
      have hnext : ws.getD k 0 = ahead ws (k + 1) := by rw [ahead, if_neg (by omega), Nat.add_sub_cancel]
      have hout : (ws.getD k 0 + (18446744073709551616 - ahead ws k)) % 18446744073709551616 % 256 ^ W = diffAt (256 ^ W) ws k := rfl
      obtain ⟨v, hvv⟩ : ∃ v, v = ws.getD k 0 := ⟨_, rfl⟩
      rw [← hvv] at hv hcell hnext hout
      obtain ⟨a, haa⟩ : ∃ a, a = ahead ws k := ⟨_, rfl⟩
      rw [← haa] at hone ha hout
      obtain ⟨x, hx⟩ : ∃ x, x = (v + (18446744073709551616 - a)) % 18446744073709551616 := ⟨_, rfl⟩
      have hxl : x < 18446744073709551616 := by rw [hx]; exact Nat.mod_lt _ (by decide)
      have c3 := diffFn_any g v a wr hone ha
      rw [← hx] at c3 hout
      have hma := mask_and' W x HWW.out hxl
      rw [← HM.out, hout] at hma
      have C3 := Lib.hid c3
      have HMA := Lib.hid hma
      have HNEXT := Lib.hid hnext
      have HB := Lib.hid hb
      have HBLK := Lib.hid hblk
      have HONE := Lib.hid hone
      clear c3 hma hnext hout hx hxl haa hvv hcell0 ha hb hblk hone
      have hk1 : (k : Int) < (ws.length : Int) := by omega
      go_wp2_with fail
      refine C3.out.mono ?_
      rintro e w1 ⟨rfl, hw1⟩
      have hone1 := HONE.out.set_ v
      rw [← hw1] at hone1
      have hblk1 := HBLK.out.setOther ⟨g, 0, none⟩ (.int .u64 (v : Int)) (by simp; omega)
      rw [← hw1] at hblk1
      have hb2 := HB.out.setCell (p := ⟨g, 0, none⟩) (Nat.le_refl _) (.int .u64 (v : Int))
      rw [← hw1] at hb2
      have hcr := hblk1.cell k
      have h0 := wrow_get (rowOf (diffAt (256 ^ W) ws) k) ws.length (by rw [rowOf_len]; exact hlt)
      rw [rowOf_len] at h0
      rw [h0] at hcr
      have hfr := hblk1.frozen k
      have hset := hblk1.set_ k (.int .u64 ((diffAt (256 ^ W) ws k : Nat) : Int))
      have h1 := wrow_set (rowOf (diffAt (256 ^ W) ws) k) ws.length (diffAt (256 ^ W) ws k) (by rw [rowOf_len]; exact hlt)
      rw [rowOf_len] at h1
      rw [h1, ← rowOf_snoc] at hset
      have hone2 : One _ g _ := Blk.setOther hone1 ⟨w.heap.size, k, none⟩ (.int .u64 ((diffAt (256 ^ W) ws k : Nat) : Int)) (by simp; omega)
      rw [HNEXT.out] at hone2
      have hb3 := hb2.setCell (p := ⟨w.heap.size, k, none⟩) (Nat.le_of_lt hgl) (.int .u64 ((diffAt (256 ^ W) ws k : Nat) : Int))
      have HS := Lib.hid (And.intro hset (And.intro hone2 hb3))
      clear hset hone2 hb3 hb2 hone1 hblk1 h0 h1 hw1 HONE HBLK HB hcell
      go_wp2
      rw [HMA.out]
      go_roundw
      case rel => exact ⟨k + 1, by omega, by go_num, HS.out.2.1, HS.out.1, HS.out.2.2⟩
      case measure => simp [intOf]; omega
    · obtain rfl : k = ws.length := by omega
      have hfull := wrow_full (rowOf (diffAt (256 ^ W) ws) ws.length)
      rw [rowOf_len] at hfull
      rw [hfull] at hblk
      have hrd := Rd.of_blk hblk
      have HRD := Lib.hid hrd
      clear hblk hfull hrd
      go_wp2
      go_ret
      exact ⟨.slice (some ⟨w.heap.size, 0, none⟩) ws.length ws.length, rfl, ⟨_, ws.length, by rw [wvs_length, diffW_len], by rw [wvs_length, diffW_len]; exact Nat.le_refl _, HRD.out⟩, hb⟩
theorem eachDiff_wrong (a : Value) (b : Value) (W : Int) (w : World) (hW : rightB W = false) :
    Calls Tryz.prog 57 #[a, .int .i64 W, b] w fun e w' => e = .returned (.slice none 0 0) ∧ w' = w := by
  have c1 := wordRight_any W false hW.symm
  have C1 := Lib.hid c1
  clear c1
  go_enter Tryz.func57, Tryz.ntmps57
  go_wp2_with (go_at_call 22; go_must (refine (C1.out _).mono ?_; rintro e w' ⟨rfl, rfl⟩))
  go_ret
  exact ⟨rfl, rfl⟩
set_option maxHeartbeats 1000000 in
theorem deltaDiff_any (W : Int) (A : Option Addr) (n c : Nat) (ws : List Nat) (w : World) (hr : Rd w w.heap.size A (wvs ws)) (hn : ws.length = n) (hb1 : n ≤ 1000000000000) (hlt64 : ∀ x ∈ ws, x < 18446744073709551616) :
    Calls Tryz.prog 24 #[.slice A n c, .int .i64 W] w (NewW w (ofW diffW W ws)) := by
  have hmf : ∀ (fn : Fn) (first cap : Array Value) (w : World), (Instr.makeFunc fn first cap).run Tryz.prog w = .ok (.func fn first cap) w := fun _ _ _ _ => rfl
  have hone := one_new w 0
  have hra := hr.alloc (Nat.le_refl _) (.cells #[.int .u64 ((0 : Nat) : Int)] 63)
  have hba : Below w.heap.size w (w.alloc (.cells #[.int .u64 ((0 : Nat) : Int)] 63)) := (Below.refl _ _).alloc (Nat.le_refl _) _
  have HH := Lib.hid (And.intro hone (And.intro hra hba))
  clear hone hra hba hr
  unfold ofW
  cases hR : rightB W with
  | true =>
    obtain ⟨V, rfl, hV⟩ := isW_of hR
    rw [if_pos rfl, Int.toNat_natCast]
    have c1 := eachDiff_any V hV w.heap.size A n c ws _ HH.out.1 HH.out.2.1 hn hb1 hlt64
    have C1 := Lib.hid c1
    clear c1 hlt64 hR hV
    go_enter Tryz.func24, Tryz.ntmps24
    go_wp2_with fail
    refine C1.out.mono ?_
    rintro e w1 ⟨v, rfl, hv, hb⟩
    have hb1 := HH.out.2.2.trans hb
    clear hb
    go_wp2
    go_ret
    exact ⟨v, rfl, hv, hb1⟩
  | false =>
    rw [if_neg (by decide)]
    have c1 := fun a b W' => eachDiff_wrong a b W W' hR
    have C1 := Lib.hid c1
    clear c1 hlt64 hR
    go_enter Tryz.func24, Tryz.ntmps24
    go_wp2_with fail
    refine (C1.out _ _ _).mono ?_
    rintro e w1 ⟨rfl, rfl⟩
    go_wp2
    go_ret
    exact ⟨.slice none 0 0, rfl, ⟨none, 0, rfl, Nat.le_refl _, Rd.nil_ _ _ _⟩, HH.out.2.2⟩

/-- What holds at the head of a round of each. -/
def EachSumRel (w : World) (W g r : Nat) (ws : List Nat) (i : Value) (wr : World) : Prop :=
  ∃ k : Nat, k ≤ ws.length ∧ i = .int .i64 k ∧ One wr g (sumTo ws k % 18446744073709551616) ∧ Blk wr r 63 (wrow (rowOf (sumAt (256 ^ W) ws) k) ws.length) ∧ Below g w wr

set_option maxHeartbeats 1000000 in
set_option maxRecDepth 100000 in
theorem eachSum_any (W : Nat) (hW : IsW W) (g : Nat) (A : Option Addr) (n c : Nat) (ws : List Nat) (w : World) (hg : One w g 0) (hr : Rd w g A (wvs ws)) (hn : ws.length = n) (hb1 : n ≤ 1000000000000) (hlt64 : ∀ x ∈ ws, x < 18446744073709551616) :
    Calls Tryz.prog 57 #[.slice A n c, .int .i64 (W : Int), .func (.func 59) #[] #[.pointer (some ⟨g, 0, none⟩)]] w fun e w' => ∃ v, e = .returned v ∧ IsCells (wvs (sumW W ws)) v w' ∧ Below g w w' := by
  obtain ⟨i0, hi, hz0, hz1, hz2⟩ := info_parts info_u64r
  subst hn
  have H64 := Lib.hid hlt64
  have HWW := Lib.hid hW
  have c1 := wordRight_any (W : Int) true hW.right
  have C1 := Lib.hid c1
  have c2 := wordMask_any (W : Int)
  obtain ⟨M, hM⟩ : ∃ M, M = maskN (W : Int) := ⟨_, rfl⟩
  rw [← hM] at c2
  have C2 := Lib.hid c2
  have HM := Lib.hid hM
  have hgl := Blk.lt hg
  clear hlt64 hW c1 c2 hM
  go_enter Tryz.func57, Tryz.ntmps57
  go_wp2_with (first
    | (go_at_call 22; go_must (refine (C1.out _).mono ?_; rintro e w' ⟨rfl, rfl⟩))
    | (go_at_call 84; go_must (refine (C2.out _).mono ?_; rintro e w' ⟨rfl, rfl⟩))
    | (at_make; go_must (refine wpList_mk rfl (.tmp 17) (.tmp 17) 53 rfl w.heap.size 63 i0 (.int .u64 0) 8 Tryz.underlying53 hi hz0 rfl hz1 hz2 .i64 .i64 _ _ rfl rfl ws.length ws.length rfl rfl (Nat.le_refl _) (by omega) (by simp only [maxLen]; omega) (Nat.le_refl _) ?_; intro w1 hg1 hown1 hgr1; have hb : Below w.heap.size w w1 := (Below.refl _ _).grown hgr1 (Nat.le_refl _) (by simp); have hblk : Blk w1 w.heap.size 63 (wrow (rowOf (sumAt (256 ^ W) ws) 0) ws.length) := (by unfold Blk; rw [hg1]; simp [wrow, rowOf, wvs]); clear hg1 hown1 hgr1)))
  have hg1 : One w1 g 0 := Blk.grow hg hb
  have hbg := hb.mono (Nat.le_of_lt hgl)
  clear hb
  go_loopw [21] (EachSumRel w W g w.heap.size ws) (fun i _ => ws.length - (intOf i).toNat)
  case atStart => exact ⟨0, Nat.zero_le _, rfl, hg1, hblk, hbg⟩
  case round =>
    obtain ⟨k, hk, rfl, hone, hblk, hb⟩ := hrel
    clear hg hg1 hbg
    by_cases hlt : k < ws.length
    · obtain ⟨ab, ao, rfl, hab, hcell0⟩ := hr k _ (wvs_get ws k hlt)
      have hcell := (hb.cell (p := ⟨ab, ao + k, none⟩) hab).trans hcell0
      have hd : ws[k] = ws.getD k 0 := by simp [List.getD_eq_getElem?_getD, hlt]
      have hv := H64.out _ (List.getElem_mem hlt)
      rw [hd] at hv hcell
      have ha := Nat.mod_lt (sumTo ws k) (show 18446744073709551616 > 0 by decide)
      have hnext : (sumTo ws k % 18446744073709551616 + ws.getD k 0) % 18446744073709551616 = sumTo ws (k + 1) % 18446744073709551616 := by rw [Nat.mod_add_mod]; rfl
      have hout : (sumTo ws k % 18446744073709551616 + ws.getD k 0) % 18446744073709551616 % 256 ^ W = sumAt (256 ^ W) ws k := by
        unfold sumAt
        rw [hnext]
        exact mod_64 HWW.out _
      obtain ⟨v, hvv⟩ : ∃ v, v = ws.getD k 0 := ⟨_, rfl⟩
      rw [← hvv] at hv hcell hnext hout
      obtain ⟨a, haa⟩ : ∃ a, a = sumTo ws k % 18446744073709551616 := ⟨_, rfl⟩
      rw [← haa] at hone ha hnext hout
      obtain ⟨x, hx⟩ : ∃ x, x = (a + v) % 18446744073709551616 := ⟨_, rfl⟩
      have hxl : x < 18446744073709551616 := by rw [hx]; exact Nat.mod_lt _ (by decide)
      have c3 := sumFn_any g v a wr hone
      rw [← hx] at c3 hout hnext
      have hma := mask_and' W x HWW.out hxl
      rw [← HM.out, hout] at hma
      have C3 := Lib.hid c3
      have HMA := Lib.hid hma
      have HNEXT := Lib.hid hnext
      have HB := Lib.hid hb
      have HBLK := Lib.hid hblk
      have HONE := Lib.hid hone
      clear c3 hma hnext hout hx hxl haa hvv hcell0 ha hb hblk hone
      have hk1 : (k : Int) < (ws.length : Int) := by omega
      go_wp2_with fail
      refine C3.out.mono ?_
      rintro e w1 ⟨rfl, hw1⟩
      have hone1 := HONE.out.set_ x
      rw [← hw1] at hone1
      have hblk1 := HBLK.out.setOther ⟨g, 0, none⟩ (.int .u64 (x : Int)) (by simp; omega)
      rw [← hw1] at hblk1
      have hb2 := HB.out.setCell (p := ⟨g, 0, none⟩) (Nat.le_refl _) (.int .u64 (x : Int))
      rw [← hw1] at hb2
      have hcr := hblk1.cell k
      have h0 := wrow_get (rowOf (sumAt (256 ^ W) ws) k) ws.length (by rw [rowOf_len]; exact hlt)
      rw [rowOf_len] at h0
      rw [h0] at hcr
      have hfr := hblk1.frozen k
      have hset := hblk1.set_ k (.int .u64 ((sumAt (256 ^ W) ws k : Nat) : Int))
      have h1 := wrow_set (rowOf (sumAt (256 ^ W) ws) k) ws.length (sumAt (256 ^ W) ws k) (by rw [rowOf_len]; exact hlt)
      rw [rowOf_len] at h1
      rw [h1, ← rowOf_snoc] at hset
      have hone2 : One _ g _ := Blk.setOther hone1 ⟨w.heap.size, k, none⟩ (.int .u64 ((sumAt (256 ^ W) ws k : Nat) : Int)) (by simp; omega)
      rw [HNEXT.out] at hone2
      have hb3 := hb2.setCell (p := ⟨w.heap.size, k, none⟩) (Nat.le_of_lt hgl) (.int .u64 ((sumAt (256 ^ W) ws k : Nat) : Int))
      have HS := Lib.hid (And.intro hset (And.intro hone2 hb3))
      clear hset hone2 hb3 hb2 hone1 hblk1 h0 h1 hw1 HONE HBLK HB hcell
      go_wp2
      rw [HMA.out]
      go_roundw
      case rel => exact ⟨k + 1, by omega, by go_num, HS.out.2.1, HS.out.1, HS.out.2.2⟩
      case measure => simp [intOf]; omega
    · obtain rfl : k = ws.length := by omega
      have hfull := wrow_full (rowOf (sumAt (256 ^ W) ws) ws.length)
      rw [rowOf_len] at hfull
      rw [hfull] at hblk
      have hrd := Rd.of_blk hblk
      have HRD := Lib.hid hrd
      clear hblk hfull hrd
      go_wp2
      go_ret
      exact ⟨.slice (some ⟨w.heap.size, 0, none⟩) ws.length ws.length, rfl, ⟨_, ws.length, by rw [wvs_length, sumW_len], by rw [wvs_length, sumW_len]; exact Nat.le_refl _, HRD.out⟩, hb⟩
theorem eachSum_wrong (a : Value) (b : Value) (W : Int) (w : World) (hW : rightB W = false) :
    Calls Tryz.prog 57 #[a, .int .i64 W, b] w fun e w' => e = .returned (.slice none 0 0) ∧ w' = w := by
  have c1 := wordRight_any W false hW.symm
  have C1 := Lib.hid c1
  clear c1
  go_enter Tryz.func57, Tryz.ntmps57
  go_wp2_with (go_at_call 22; go_must (refine (C1.out _).mono ?_; rintro e w' ⟨rfl, rfl⟩))
  go_ret
  exact ⟨rfl, rfl⟩
set_option maxHeartbeats 1000000 in
theorem deltaSum_any (W : Int) (A : Option Addr) (n c : Nat) (ws : List Nat) (w : World) (hr : Rd w w.heap.size A (wvs ws)) (hn : ws.length = n) (hb1 : n ≤ 1000000000000) (hlt64 : ∀ x ∈ ws, x < 18446744073709551616) :
    Calls Tryz.prog 25 #[.slice A n c, .int .i64 W] w (NewW w (ofW sumW W ws)) := by
  have hmf : ∀ (fn : Fn) (first cap : Array Value) (w : World), (Instr.makeFunc fn first cap).run Tryz.prog w = .ok (.func fn first cap) w := fun _ _ _ _ => rfl
  have hone := one_new w 0
  have hra := hr.alloc (Nat.le_refl _) (.cells #[.int .u64 ((0 : Nat) : Int)] 63)
  have hba : Below w.heap.size w (w.alloc (.cells #[.int .u64 ((0 : Nat) : Int)] 63)) := (Below.refl _ _).alloc (Nat.le_refl _) _
  have HH := Lib.hid (And.intro hone (And.intro hra hba))
  clear hone hra hba hr
  unfold ofW
  cases hR : rightB W with
  | true =>
    obtain ⟨V, rfl, hV⟩ := isW_of hR
    rw [if_pos rfl, Int.toNat_natCast]
    have c1 := eachSum_any V hV w.heap.size A n c ws _ HH.out.1 HH.out.2.1 hn hb1 hlt64
    have C1 := Lib.hid c1
    clear c1 hlt64 hR hV
    go_enter Tryz.func25, Tryz.ntmps25
    go_wp2_with fail
    refine C1.out.mono ?_
    rintro e w1 ⟨v, rfl, hv, hb⟩
    have hb1 := HH.out.2.2.trans hb
    clear hb
    go_wp2
    go_ret
    exact ⟨v, rfl, hv, hb1⟩
  | false =>
    rw [if_neg (by decide)]
    have c1 := fun a b W' => eachSum_wrong a b W W' hR
    have C1 := Lib.hid c1
    clear c1 hlt64 hR
    go_enter Tryz.func25, Tryz.ntmps25
    go_wp2_with fail
    refine (C1.out _ _ _).mono ?_
    rintro e w1 ⟨rfl, rfl⟩
    go_wp2
    go_ret
    exact ⟨.slice none 0 0, rfl, ⟨none, 0, rfl, Nat.le_refl _, Rd.nil_ _ _ _⟩, HH.out.2.2⟩

theorem ofW_second (W : Int) (l : List Nat) : ofW diffW W (ofW diffW W l) = ofW secondW W l := by
  unfold ofW
  split <;> rfl
theorem ofW_twice (W : Int) (l : List Nat) : ofW sumW W (ofW sumW W l) = ofW twiceW W l := by
  unfold ofW
  split <;> rfl

set_option maxHeartbeats 1000000 in
theorem deltaSecond_any (W : Int) (A : Option Addr) (n c : Nat) (ws : List Nat) (w : World) (hr : Rd w w.heap.size A (wvs ws)) (hn : ws.length = n) (hb1 : n ≤ 1000000000000) (hlt64 : ∀ x ∈ ws, x < 18446744073709551616) :
    Calls Tryz.prog 26 #[.slice A n c, .int .i64 W] w (NewW w (ofW secondW W ws)) := by
  have c1 := deltaDiff_any W A n c ws w hr hn hb1 hlt64
  have hle := ofW_len diffW_len W ws
  have c2 := fun (A : Option Addr) (c : Nat) (W' : World) (h : Rd W' W'.heap.size A (wvs (ofW diffW W ws))) => deltaDiff_any W A _ c _ W' h rfl (by omega) (ofW_lt diffW_lt W ws)
  rw [ofW_second] at c2
  have C1 := Lib.hid c1
  have C2 := Lib.hid c2
  clear c1 c2 hlt64 hle
  go_enter Tryz.func26, Tryz.ntmps26
  go_wp2_with fail
  refine C1.out.mono ?_
  rintro e w1 ⟨v, rfl, ⟨A1, c1, rfl, _, h1⟩, hb⟩
  rw [wvs_length]
  go_wp2_with fail
  refine (C2.out _ _ _ h1).mono ?_
  rintro e w2 ⟨v2, rfl, hv2, hb2⟩
  have hbb := hb.trans (hb2.mono hb.size)
  clear hb hb2 h1
  go_wp2
  go_ret
  exact ⟨v2, rfl, hv2, hbb⟩

set_option maxHeartbeats 1000000 in
theorem deltaTwice_any (W : Int) (A : Option Addr) (n c : Nat) (ws : List Nat) (w : World) (hr : Rd w w.heap.size A (wvs ws)) (hn : ws.length = n) (hb1 : n ≤ 1000000000000) (hlt64 : ∀ x ∈ ws, x < 18446744073709551616) :
    Calls Tryz.prog 27 #[.slice A n c, .int .i64 W] w (NewW w (ofW twiceW W ws)) := by
  have c1 := deltaSum_any W A n c ws w hr hn hb1 hlt64
  have hle := ofW_len sumW_len W ws
  have c2 := fun (A : Option Addr) (c : Nat) (W' : World) (h : Rd W' W'.heap.size A (wvs (ofW sumW W ws))) => deltaSum_any W A _ c _ W' h rfl (by omega) (ofW_lt sumW_lt W ws)
  rw [ofW_twice] at c2
  have C1 := Lib.hid c1
  have C2 := Lib.hid c2
  clear c1 c2 hlt64 hle
  go_enter Tryz.func27, Tryz.ntmps27
  go_wp2_with fail
  refine C1.out.mono ?_
  rintro e w1 ⟨v, rfl, ⟨A1, c1, rfl, _, h1⟩, hb⟩
  rw [wvs_length]
  go_wp2_with fail
  refine (C2.out _ _ _ h1).mono ?_
  rintro e w2 ⟨v2, rfl, hv2, hb2⟩
  have hbb := hb.trans (hb2.mono hb.size)
  clear hb hb2 h1
  go_wp2
  go_ret
  exact ⟨v2, rfl, hv2, hbb⟩
end Go.Proofs.YtcenbaajojdjlaaGreatDoor
