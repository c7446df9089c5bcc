/- Layer 14: Count, of both. -/
import Derived.Test.YtjncmfoommlldaaNormFn
namespace Go.Proofs.Ytjncmfoommlldaa
open Go.RowKit Go.Sort Go.Shelf

section
variable {w : World} {A : Option Addr} {n m : Nat} {l : List UInt8}
set_option maxHeartbeats 1000000 in
set_option maxRecDepth 100000 in
theorem normCount_any (hr : Rd w w.heap.size A (bvs l)) (hn : l.length = n) (hn1 : n ≤ 1000000) :
    Calls Try.prog 12 #[.slice A n m] w fun e w' => ∃ g, e = .returned (.slice (some ⟨g, 0, none⟩) (256 : Nat) 256) ∧ w.heap.size ≤ g ∧ Blk w' g 3 (zvs (cntL l)) ∧ Below w.heap.size w w' := by
  obtain ⟨i0, hi, hz0, hz1, hz2⟩ := info_parts info_int12
  have HR := Lib.hid hr
  have HC := Lib.hid hn
  clear hr hn
  go_enter Try.func12, Try.ntmps12
  go_wp2_with (at_make; go_must (refine wpList_mk rfl (.const (.int .i64 256)) (.const (.int .i64 256)) 29 rfl w.heap.size 3 i0 (.int .i64 0) 8 Try.underlying29 hi hz0 rfl hz1 hz2 .i64 .i64 _ _ rfl rfl 256 256 rfl rfl (Nat.le_refl _) (by omega) (by simp only [maxLen]; omega) (Nat.le_refl _) ?_; intro w1 hg1 hown1 hgr1; have hb : Below w.heap.size w w1 := (Below.refl _ _).grown hgr1 (Nat.le_refl _) (by simp)))
  have hk1 : Blk w1 w.heap.size 3 (zvs (cntL (l.take 0))) := by
    unfold Blk; rw [hg1, List.take_zero]; simp [zvs, cntL]
  have HK1 := Lib.hid hk1
  have HB1 := Lib.hid hb
  obtain ⟨g, hg⟩ : ∃ g, g = w.heap.size := ⟨_, rfl⟩
  rw [← hg] at HK1
  simp only [← hg]
  have HG := Lib.hid hg
  clear hk1 hb hg hown1 hgr1 hg1
  go_loopw [9] (fun i wr => ∃ k : Nat, k ≤ n ∧ i = .int .i64 (k : Int) ∧ Blk wr g 3 (zvs (cntL (l.take k))) ∧ Below w.heap.size w wr) (fun i _ => n - (intOf i).toNat)
  case atStart => exact ⟨0, Nat.zero_le _, rfl, HK1.out, HB1.out⟩
  case round =>
    clear HK1 HB1
    obtain ⟨k, hk, rfl, hblk, hb⟩ := hrel
    have HB := Lib.hid hb
    clear hb
    by_cases hlt : k < n
    · have hkl : k < l.length := by have := HC.out; omega
      obtain ⟨ab, ao, rfl, hab, hcell0⟩ := HR.out k _ (bvs_get l k hkl)
      have hcell := (HB.out.cell (p := ⟨ab, ao + k, none⟩) hab).trans hcell0
      have hst := cntL_take l hkl
      have hx1 : l[k].toNat < 256 := l[k].toNat_lt
      have hlc := cntL_len (l.take k)
      have hle := cntL_le (l.take k)
      obtain ⟨C, hC⟩ : ∃ C, C = cntL (l.take k) := ⟨_, rfl⟩
      rw [← hC] at hblk hst hlc hle
      unfold cntStep at hst
      obtain ⟨x, hx⟩ : ∃ x, x = l[k].toNat := ⟨_, rfl⟩
      rw [← hx] at hcell hst hx1
      have hxc : x < C.length := by omega
      have e : C.getD x 0 = C[x] := by simp [List.getD_eq_getElem?_getD, hxc]
      rw [e] at hst
      have hy := hle _ (List.getElem_mem hxc)
      have hgc := hblk.cell x
      have hgf := hblk.frozen x
      rw [zvs_get, List.getElem?_eq_getElem hxc] at hgc
      obtain ⟨y, hyy⟩ : ∃ y, y = C[x]'hxc := ⟨_, rfl⟩
      rw [← hyy] at hgc hst hy
      simp only [Option.map_some] at hgc
      rw [List.length_take] at hy
      obtain ⟨hy0, hy1⟩ := hy
      have hy2 : y ≤ 1000000 := by omega
      have hki : (k : Int) < (n : Int) := by omega
      have hxi : (x : Int) < 256 := by omega
      have hset := hblk.set_ x (.int .i64 (y + 1))
      rw [zvs_set, ← hst] at hset
      have HSET := Lib.hid hset
      have HB2 := Lib.hid (HB.out.setCell (p := ⟨g, x, none⟩) (by rw [HG.out]; exact Nat.le_refl _) (.int .i64 (y + 1)))
      clear hcell0 hst hlc hle hC hx e hyy hy1 hset hblk hxc
      go_wp2
      go_roundw
      case rel => exact ⟨k + 1, by omega, by go_num, HSET.out, HB2.out⟩
      case measure => simp [intOf]; omega
    · obtain rfl : k = n := by omega
      rw [List.take_of_length_le (by have := HC.out; omega)] at hblk
      have HBL := Lib.hid hblk
      clear hblk
      go_wp2
      go_ret
      exact ⟨g, rfl, by rw [HG.out]; exact Nat.le_refl _, HBL.out, HB.out⟩
set_option maxHeartbeats 1000000 in
set_option maxRecDepth 100000 in
theorem rnCount_any (hr : Rd w w.heap.size A (bvs l)) (hn : l.length = n) (hn1 : n ≤ 1000000) :
    Calls Try.prog 9 #[.slice A n m] w fun e w' => ∃ g, e = .returned (.slice (some ⟨g, 0, none⟩) (256 : Nat) 256) ∧ w.heap.size ≤ g ∧ Blk w' g 3 (zvs (cntL l)) ∧ Below w.heap.size w w' := by
  obtain ⟨i0, hi, hz0, hz1, hz2⟩ := info_parts info_int12
  have HR := Lib.hid hr
  have HC := Lib.hid hn
  clear hr hn
  go_enter Try.func9, Try.ntmps9
  go_wp2_with (at_make; go_must (refine wpList_mk rfl (.const (.int .i64 256)) (.const (.int .i64 256)) 29 rfl w.heap.size 3 i0 (.int .i64 0) 8 Try.underlying29 hi hz0 rfl hz1 hz2 .i64 .i64 _ _ rfl rfl 256 256 rfl rfl (Nat.le_refl _) (by omega) (by simp only [maxLen]; omega) (Nat.le_refl _) ?_; intro w1 hg1 hown1 hgr1; have hb : Below w.heap.size w w1 := (Below.refl _ _).grown hgr1 (Nat.le_refl _) (by simp)))
  have hk1 : Blk w1 w.heap.size 3 (zvs (cntL (l.take 0))) := by
    unfold Blk; rw [hg1, List.take_zero]; simp [zvs, cntL]
  have HK1 := Lib.hid hk1
  have HB1 := Lib.hid hb
  obtain ⟨g, hg⟩ : ∃ g, g = w.heap.size := ⟨_, rfl⟩
  rw [← hg] at HK1
  simp only [← hg]
  have HG := Lib.hid hg
  clear hk1 hb hg hown1 hgr1 hg1
  go_loopw [4] (fun i wr => ∃ k : Nat, k ≤ n ∧ i = .int .i64 (k : Int) ∧ Blk wr g 3 (zvs (cntL (l.take k))) ∧ Below w.heap.size w wr) (fun i _ => n - (intOf i).toNat)
  case atStart => exact ⟨0, Nat.zero_le _, rfl, HK1.out, HB1.out⟩
  case round =>
    clear HK1 HB1
    obtain ⟨k, hk, rfl, hblk, hb⟩ := hrel
    have HB := Lib.hid hb
    clear hb
    by_cases hlt : k < n
    · have hkl : k < l.length := by have := HC.out; omega
      obtain ⟨ab, ao, rfl, hab, hcell0⟩ := HR.out k _ (bvs_get l k hkl)
      have hcell := (HB.out.cell (p := ⟨ab, ao + k, none⟩) hab).trans hcell0
      have hst := cntL_take l hkl
      have hx1 : l[k].toNat < 256 := l[k].toNat_lt
      have hlc := cntL_len (l.take k)
      have hle := cntL_le (l.take k)
      obtain ⟨C, hC⟩ : ∃ C, C = cntL (l.take k) := ⟨_, rfl⟩
      rw [← hC] at hblk hst hlc hle
      unfold cntStep at hst
      obtain ⟨x, hx⟩ : ∃ x, x = l[k].toNat := ⟨_, rfl⟩
      rw [← hx] at hcell hst hx1
      have hxc : x < C.length := by omega
      have e : C.getD x 0 = C[x] := by simp [List.getD_eq_getElem?_getD, hxc]
      rw [e] at hst
      have hy := hle _ (List.getElem_mem hxc)
      have hgc := hblk.cell x
      have hgf := hblk.frozen x
      rw [zvs_get, List.getElem?_eq_getElem hxc] at hgc
      obtain ⟨y, hyy⟩ : ∃ y, y = C[x]'hxc := ⟨_, rfl⟩
      rw [← hyy] at hgc hst hy
      simp only [Option.map_some] at hgc
      rw [List.length_take] at hy
      obtain ⟨hy0, hy1⟩ := hy
      have hy2 : y ≤ 1000000 := by omega
      have hki : (k : Int) < (n : Int) := by omega
      have hxi : (x : Int) < 256 := by omega
      have hset := hblk.set_ x (.int .i64 (y + 1))
      rw [zvs_set, ← hst] at hset
      have HSET := Lib.hid (hset.same (w' := (wr.setCell ⟨g, x, none⟩ (.int .i64 (y + 1))).drew) rfl)
      have HB2 := Lib.hid (HB.out.setCell (p := ⟨g, x, none⟩) (by rw [HG.out]; exact Nat.le_refl _) (.int .i64 (y + 1))).drew
      clear hcell0 hst hlc hle hC hx e hyy hy1 hset hblk hxc
      go_wp2
      refine wp_region_still_tail 14 (by kernel_rfl) (by kernel_rfl) ?_
      simp only [List.take_succ_cons, List.take_zero, List.drop_succ_cons, List.drop_zero]
      repeat still_step
      refine wpStill_nil ?_
      change wpList _ _ _ _ _ wr.drew
      go_wp2
      go_roundw
      case rel => exact ⟨k + 1, by omega, by go_num, HSET.out, HB2.out⟩
      case measure => simp [intOf]; omega
    · obtain rfl : k = n := by omega
      rw [List.take_of_length_le (by have := HC.out; omega)] at hblk
      have HBL := Lib.hid hblk
      clear hblk
      go_wp2
      go_ret
      exact ⟨g, rfl, by rw [HG.out]; exact Nat.le_refl _, HBL.out, HB.out⟩
end
end Go.Proofs.Ytjncmfoommlldaa
