/- Contracts of layer 4: together and row, at each type of numbers. -/
import Derived.Test.YtcjjlkfenlmmlaaWordFn
namespace Go.Proofs.Ytcjjlkfenlmmlaa
open Go.RowKit

set_option maxHeartbeats 400000 in
theorem together_u8 (A : Option Addr) (n c : Nat) (l : List UInt8) (w : World) (hr : Rd w w.heap.size A (bvs l)) (hn : l.length = n) (hW : n = 1) :
    Calls Try.prog 48 #[.slice A n c] w fun e w' => e = .returned (.int .u8 (leN l : Int)) ∧ w = w' := by
  subst hn
  have hW' : (l.length : Int) = 1 := by omega
  have hl1 : (l.length : Int) ≤ 1 := by omega
  have hl0 : (1 : Int) ≤ (l.length : Int) := by omega
  clear hW'
  have HW := Lib.hid hW
  clear hW
  go_enter Try.func48, Try.ntmps48
  go_wp2
  go_loop [3, 8] (TogRel .u8 l) (fun _ i => l.length - (intOf i).toNat)
  case atStart => exact ⟨0, Nat.zero_le _, rfl, rfl⟩
  case round =>
    obtain ⟨k, hk, rfl, rfl⟩ := hrel
    by_cases hlt : k < l.length
    · obtain ⟨ab, ao, rfl, _, hcell⟩ := hr k _ (bvs_get l k hlt)
      have hstep := tog_u8 l k hlt (by have := HW.out; omega)
      obtain ⟨b, hb⟩ : ∃ b, b = l[k] := ⟨_, rfl⟩
      rw [← hb] at hcell hstep
      have hb8 := b.toNat_lt
      have hb0 : (0 : Int) ≤ (b.toNat : Int) := by omega
      have hb255 : (b.toNat : Int) ≤ 255 := by omega
      have HS := Lib.hid hstep
      clear hb hb8 hstep
      go_wp2
      go_round
      case rel => exact ⟨k + 1, by omega, by go_num, by rw [← HS.out]⟩
      case measure => simp [intOf]; omega
    · obtain rfl : k = l.length := by omega
      rw [List.take_length]
      go_wp2
      go_ret
      exact ⟨rfl, rfl⟩

set_option maxHeartbeats 400000 in
theorem together_u16 (A : Option Addr) (n c : Nat) (l : List UInt8) (w : World) (hr : Rd w w.heap.size A (bvs l)) (hn : l.length = n) (hW : n = 2) :
    Calls Try.prog 49 #[.slice A n c] w fun e w' => e = .returned (.int .u16 (leN l : Int)) ∧ w = w' := by
  subst hn
  have hW' : (l.length : Int) = 2 := by omega
  have hl1 : (l.length : Int) ≤ 2 := by omega
  have hl0 : (1 : Int) ≤ (l.length : Int) := by omega
  clear hW'
  have HW := Lib.hid hW
  clear hW
  go_enter Try.func49, Try.ntmps49
  go_wp2
  go_loop [3, 8] (TogRel .u16 l) (fun _ i => l.length - (intOf i).toNat)
  case atStart => exact ⟨0, Nat.zero_le _, rfl, rfl⟩
  case round =>
    obtain ⟨k, hk, rfl, rfl⟩ := hrel
    by_cases hlt : k < l.length
    · obtain ⟨ab, ao, rfl, _, hcell⟩ := hr k _ (bvs_get l k hlt)
      have hstep := tog_u16 l k hlt (by have := HW.out; omega)
      obtain ⟨b, hb⟩ : ∃ b, b = l[k] := ⟨_, rfl⟩
      rw [← hb] at hcell hstep
      have hb8 := b.toNat_lt
      have hb0 : (0 : Int) ≤ (b.toNat : Int) := by omega
      have hb255 : (b.toNat : Int) ≤ 255 := by omega
      have HS := Lib.hid hstep
      clear hb hb8 hstep
      go_wp2
      go_round
      case rel => exact ⟨k + 1, by omega, by go_num, by rw [← HS.out]⟩
      case measure => simp [intOf]; omega
    · obtain rfl : k = l.length := by omega
      rw [List.take_length]
      go_wp2
      go_ret
      exact ⟨rfl, rfl⟩

set_option maxHeartbeats 400000 in
theorem together_u32 (A : Option Addr) (n c : Nat) (l : List UInt8) (w : World) (hr : Rd w w.heap.size A (bvs l)) (hn : l.length = n) (hW : n = 4) :
    Calls Try.prog 50 #[.slice A n c] w fun e w' => e = .returned (.int .u32 (leN l : Int)) ∧ w = w' := by
  subst hn
  have hW' : (l.length : Int) = 4 := by omega
  have hl1 : (l.length : Int) ≤ 4 := by omega
  have hl0 : (1 : Int) ≤ (l.length : Int) := by omega
  clear hW'
  have HW := Lib.hid hW
  clear hW
  go_enter Try.func50, Try.ntmps50
  go_wp2
  go_loop [3, 8] (TogRel .u32 l) (fun _ i => l.length - (intOf i).toNat)
  case atStart => exact ⟨0, Nat.zero_le _, rfl, rfl⟩
  case round =>
    obtain ⟨k, hk, rfl, rfl⟩ := hrel
    by_cases hlt : k < l.length
    · obtain ⟨ab, ao, rfl, _, hcell⟩ := hr k _ (bvs_get l k hlt)
      have hstep := tog_u32 l k hlt (by have := HW.out; omega)
      obtain ⟨b, hb⟩ : ∃ b, b = l[k] := ⟨_, rfl⟩
      rw [← hb] at hcell hstep
      have hb8 := b.toNat_lt
      have hb0 : (0 : Int) ≤ (b.toNat : Int) := by omega
      have hb255 : (b.toNat : Int) ≤ 255 := by omega
      have HS := Lib.hid hstep
      clear hb hb8 hstep
      go_wp2
      go_round
      case rel => exact ⟨k + 1, by omega, by go_num, by rw [← HS.out]⟩
      case measure => simp [intOf]; omega
    · obtain rfl : k = l.length := by omega
      rw [List.take_length]
      go_wp2
      go_ret
      exact ⟨rfl, rfl⟩

set_option maxHeartbeats 400000 in
theorem together_u64 (A : Option Addr) (n c : Nat) (l : List UInt8) (w : World) (hr : Rd w w.heap.size A (bvs l)) (hn : l.length = n) (hW : n = 8) :
    Calls Try.prog 51 #[.slice A n c] w fun e w' => e = .returned (.int .u64 (leN l : Int)) ∧ w = w' := by
  subst hn
  have hW' : (l.length : Int) = 8 := by omega
  have hl1 : (l.length : Int) ≤ 8 := by omega
  have hl0 : (1 : Int) ≤ (l.length : Int) := by omega
  clear hW'
  have HW := Lib.hid hW
  clear hW
  go_enter Try.func51, Try.ntmps51
  go_wp2
  go_loop [3, 8] (TogRel .u64 l) (fun _ i => l.length - (intOf i).toNat)
  case atStart => exact ⟨0, Nat.zero_le _, rfl, rfl⟩
  case round =>
    obtain ⟨k, hk, rfl, rfl⟩ := hrel
    by_cases hlt : k < l.length
    · obtain ⟨ab, ao, rfl, _, hcell⟩ := hr k _ (bvs_get l k hlt)
      have hstep := tog_u64 l k hlt (by have := HW.out; omega)
      obtain ⟨b, hb⟩ : ∃ b, b = l[k] := ⟨_, rfl⟩
      rw [← hb] at hcell hstep
      have hb8 := b.toNat_lt
      have hb0 : (0 : Int) ≤ (b.toNat : Int) := by omega
      have hb255 : (b.toNat : Int) ≤ 255 := by omega
      have HS := Lib.hid hstep
      clear hb hb8 hstep
      go_wp2
      go_round
      case rel => exact ⟨k + 1, by omega, by go_num, by rw [← HS.out]⟩
      case measure => simp [intOf]; omega
    · obtain rfl : k = l.length := by omega
      rw [List.take_length]
      go_wp2
      go_ret
      exact ⟨rfl, rfl⟩

/-- What holds at the head of a round of row: the words ahead are laid. -/
def RowRel (w : World) (W m r : Nat) (l : List UInt8) (i : Value) (wr : World) : Prop :=
  ∃ k : Nat, k ≤ m ∧ i = .int .i64 k ∧ Blk wr r 49 (wrow (wordsN k W l) m) ∧ Below w.heap.size w wr
theorem wrow_next (k W m : Nat) (l : List UInt8) (h : k < m) : (wrow (wordsN k W l) m).set k (.int .u64 (leN ((l.drop (k * W)).take W) : Int)) = wrow (wordsN (k + 1) W l) m := by
  have e := wrow_set (wordsN k W l) m (leN ((l.drop (k * W)).take W)) (by rw [wordsN_len]; exact h)
  rw [wordsN_len] at e
  rw [e, wordsN_snoc]
theorem wrow_here (k W m : Nat) (l : List UInt8) (h : k < m) : (wrow (wordsN k W l) m)[k]? = some (.int .u64 0) := by
  have e := wrow_get (wordsN k W l) m (by rw [wordsN_len]; exact h)
  rwa [wordsN_len] at e

set_option maxHeartbeats 1000000 in
set_option maxRecDepth 100000 in
theorem row_u8 (A : Option Addr) (n c m : Nat) (l : List UInt8) (w : World) (hr : Rd w w.heap.size A (bvs l)) (hn : l.length = n) (hm : n = m * 1) (hnc : n ≤ c) (hb1 : n ≤ 100000) :
    Calls Try.prog 44 #[.slice A n c, .int .i64 1] w (NewWF w (wordsN m 1 l)) := by
  obtain ⟨i0, hi, hz0, hz1, hz2⟩ := info_parts info_u64r
  subst hn
  have hq : (l.length : Int) / 1 = (m : Int) := by omega
  have hml : m ≤ 100000 := by omega
  have HM := Lib.hid hm
  clear hm
  go_enter Try.func44, Try.ntmps44
  go_wp2_with (at_make; go_must (refine wpList_mk rfl (.tmp 10) (.tmp 10) 70 rfl w.heap.size 49 i0 (.int .u64 0) 8 Try.underlying70 hi hz0 rfl hz1 hz2 .i64 .i64 _ _ rfl rfl m m (by have := HM.out; omega) (by have := HM.out; omega) (Nat.le_refl _) (by omega) (by simp only [maxLen]; omega) (Nat.le_refl _) ?_; intro w1 hg1 hown1 hgr1; have hb : Below w.heap.size w w1 := (Below.refl _ _).grown hgr1 (Nat.le_refl _) (by simp); have hblk : Blk w1 w.heap.size 49 (wrow (wordsN 0 1 l) m) := (by unfold Blk; rw [hg1]; simp [wrow, wordsN, wvs]); clear hg1 hown1 hgr1))
  clear hq
  go_loopw [14] (RowRel w 1 m w.heap.size l) (fun i _ => m - (intOf i).toNat)
  case atStart => exact ⟨0, Nat.zero_le _, rfl, hblk, hb⟩
  case round =>
    obtain ⟨k, hk, rfl, hblk, hb⟩ := hrel
    by_cases hlt : k < m
    · have hml2 : (m : Int) * 1 = (l.length : Int) := by have := HM.out; omega
      have hlo : 0 < l.length := by have := HM.out; omega
      obtain ⟨ab, ao, rfl, _, _⟩ := hr.at_ (by rw [bvs_length]; exact hlo)
      have hcell := hblk.cell k
      rw [wrow_here k 1 m l hlt] at hcell
      have hfr := hblk.frozen k
      have hset := hblk.set_ k (.int .u64 (leN ((l.drop (k * 1)).take 1) : Int))
      rw [wrow_next k 1 m l hlt] at hset
      obtain ⟨ch, hch⟩ : ∃ ch, ch = (l.drop (k * 1)).take 1 := ⟨_, rfl⟩
      have hrc : Rd wr wr.heap.size (some ⟨ab, ao + k, none⟩) (bvs ch) := by
        have := ((((hr.below hb).more hb.size).drop (k * 1)).take 1)
        rw [bvs_drop, bvs_take, ← hch] at this
        simpa [Addr.add_lit] using this
      have hcl : ch.length = 1 := by rw [hch, List.length_take, List.length_drop]; have := HM.out; omega
      rw [← hch] at hset
      have HSET := Lib.hid hset
      have HRC := Lib.hid hrc
      have HCL := Lib.hid hcl
      have hk0 : (k : Int) < (m : Int) := by omega
      have hkl : (k : Int) * 1 + 1 ≤ (l.length : Int) := by omega
      have hkl2 : (k : Int) * 1 + 1 ≤ (c : Int) := by omega
      clear hset hrc hcl hch hblk
      go_wp2_with fail
      refine (together_u8 _ _ _ ch _ HRC.out (by have := HCL.out; omega) (by omega)).mono ?_
      rintro e w' ⟨rfl, rfl⟩
      have hle := leN_lt ch
      rw [HCL.out] at hle
      have hle2 : (leN ch : Int) < 256 := by omega
      have hle3 : (0 : Int) ≤ (leN ch : Int) := by omega
      clear hle
      go_wp2
      go_roundw
      case rel => exact ⟨k + 1, by omega, by go_num, HSET.out, hb.setCell (Nat.le_refl _) _⟩
      case measure => simp [intOf]; omega
    · obtain rfl : k = m := by omega
      have hfull := wrow_full (wordsN k 1 l)
      rw [wordsN_len] at hfull
      rw [hfull] at hblk
      have hrd := Rd.of_blk hblk
      have HRD := Lib.hid hrd
      clear hblk hfull hrd
      go_wp2
      go_ret
      exact ⟨.slice (some ⟨w.heap.size, 0, none⟩) k k, rfl, ⟨⟨_, k, by rw [wvs_length, wordsN_len], by rw [wvs_length, wordsN_len]; exact Nat.le_refl _, HRD.out⟩, FreshV.at_ (Nat.le_refl _)⟩, hb⟩

set_option maxHeartbeats 1000000 in
set_option maxRecDepth 100000 in
theorem row_u16 (A : Option Addr) (n c m : Nat) (l : List UInt8) (w : World) (hr : Rd w w.heap.size A (bvs l)) (hn : l.length = n) (hm : n = m * 2) (hnc : n ≤ c) (hb1 : n ≤ 100000) :
    Calls Try.prog 45 #[.slice A n c, .int .i64 2] w (NewWF w (wordsN m 2 l)) := by
  obtain ⟨i0, hi, hz0, hz1, hz2⟩ := info_parts info_u64r
  subst hn
  have hq : (l.length : Int) / 2 = (m : Int) := by omega
  have hml : m ≤ 100000 := by omega
  have HM := Lib.hid hm
  clear hm
  go_enter Try.func45, Try.ntmps45
  go_wp2_with (at_make; go_must (refine wpList_mk rfl (.tmp 10) (.tmp 10) 70 rfl w.heap.size 49 i0 (.int .u64 0) 8 Try.underlying70 hi hz0 rfl hz1 hz2 .i64 .i64 _ _ rfl rfl m m (by have := HM.out; omega) (by have := HM.out; omega) (Nat.le_refl _) (by omega) (by simp only [maxLen]; omega) (Nat.le_refl _) ?_; intro w1 hg1 hown1 hgr1; have hb : Below w.heap.size w w1 := (Below.refl _ _).grown hgr1 (Nat.le_refl _) (by simp); have hblk : Blk w1 w.heap.size 49 (wrow (wordsN 0 2 l) m) := (by unfold Blk; rw [hg1]; simp [wrow, wordsN, wvs]); clear hg1 hown1 hgr1))
  clear hq
  go_loopw [14] (RowRel w 2 m w.heap.size l) (fun i _ => m - (intOf i).toNat)
  case atStart => exact ⟨0, Nat.zero_le _, rfl, hblk, hb⟩
  case round =>
    obtain ⟨k, hk, rfl, hblk, hb⟩ := hrel
    by_cases hlt : k < m
    · have hml2 : (m : Int) * 2 = (l.length : Int) := by have := HM.out; omega
      have hlo : 0 < l.length := by have := HM.out; omega
      obtain ⟨ab, ao, rfl, _, _⟩ := hr.at_ (by rw [bvs_length]; exact hlo)
      have hcell := hblk.cell k
      rw [wrow_here k 2 m l hlt] at hcell
      have hfr := hblk.frozen k
      have hset := hblk.set_ k (.int .u64 (leN ((l.drop (k * 2)).take 2) : Int))
      rw [wrow_next k 2 m l hlt] at hset
      obtain ⟨ch, hch⟩ : ∃ ch, ch = (l.drop (k * 2)).take 2 := ⟨_, rfl⟩
      have hrc : Rd wr wr.heap.size (some ⟨ab, ao + k * 2, none⟩) (bvs ch) := by
        have := ((((hr.below hb).more hb.size).drop (k * 2)).take 2)
        rw [bvs_drop, bvs_take, ← hch] at this
        simpa [Addr.add_lit] using this
      have hcl : ch.length = 2 := by rw [hch, List.length_take, List.length_drop]; have := HM.out; omega
      rw [← hch] at hset
      have HSET := Lib.hid hset
      have HRC := Lib.hid hrc
      have HCL := Lib.hid hcl
      have hk0 : (k : Int) < (m : Int) := by omega
      have hkl : (k : Int) * 2 + 2 ≤ (l.length : Int) := by omega
      have hkl2 : (k : Int) * 2 + 2 ≤ (c : Int) := by omega
      clear hset hrc hcl hch hblk
      go_wp2_with fail
      refine (together_u16 _ _ _ ch _ HRC.out (by have := HCL.out; omega) (by omega)).mono ?_
      rintro e w' ⟨rfl, rfl⟩
      have hle := leN_lt ch
      rw [HCL.out] at hle
      have hle2 : (leN ch : Int) < 65536 := by omega
      have hle3 : (0 : Int) ≤ (leN ch : Int) := by omega
      clear hle
      go_wp2
      go_roundw
      case rel => exact ⟨k + 1, by omega, by go_num, HSET.out, hb.setCell (Nat.le_refl _) _⟩
      case measure => simp [intOf]; omega
    · obtain rfl : k = m := by omega
      have hfull := wrow_full (wordsN k 2 l)
      rw [wordsN_len] at hfull
      rw [hfull] at hblk
      have hrd := Rd.of_blk hblk
      have HRD := Lib.hid hrd
      clear hblk hfull hrd
      go_wp2
      go_ret
      exact ⟨.slice (some ⟨w.heap.size, 0, none⟩) k k, rfl, ⟨⟨_, k, by rw [wvs_length, wordsN_len], by rw [wvs_length, wordsN_len]; exact Nat.le_refl _, HRD.out⟩, FreshV.at_ (Nat.le_refl _)⟩, hb⟩

set_option maxHeartbeats 1000000 in
set_option maxRecDepth 100000 in
theorem row_u32 (A : Option Addr) (n c m : Nat) (l : List UInt8) (w : World) (hr : Rd w w.heap.size A (bvs l)) (hn : l.length = n) (hm : n = m * 4) (hnc : n ≤ c) (hb1 : n ≤ 100000) :
    Calls Try.prog 46 #[.slice A n c, .int .i64 4] w (NewWF w (wordsN m 4 l)) := by
  obtain ⟨i0, hi, hz0, hz1, hz2⟩ := info_parts info_u64r
  subst hn
  have hq : (l.length : Int) / 4 = (m : Int) := by omega
  have hml : m ≤ 100000 := by omega
  have HM := Lib.hid hm
  clear hm
  go_enter Try.func46, Try.ntmps46
  go_wp2_with (at_make; go_must (refine wpList_mk rfl (.tmp 10) (.tmp 10) 70 rfl w.heap.size 49 i0 (.int .u64 0) 8 Try.underlying70 hi hz0 rfl hz1 hz2 .i64 .i64 _ _ rfl rfl m m (by have := HM.out; omega) (by have := HM.out; omega) (Nat.le_refl _) (by omega) (by simp only [maxLen]; omega) (Nat.le_refl _) ?_; intro w1 hg1 hown1 hgr1; have hb : Below w.heap.size w w1 := (Below.refl _ _).grown hgr1 (Nat.le_refl _) (by simp); have hblk : Blk w1 w.heap.size 49 (wrow (wordsN 0 4 l) m) := (by unfold Blk; rw [hg1]; simp [wrow, wordsN, wvs]); clear hg1 hown1 hgr1))
  clear hq
  go_loopw [14] (RowRel w 4 m w.heap.size l) (fun i _ => m - (intOf i).toNat)
  case atStart => exact ⟨0, Nat.zero_le _, rfl, hblk, hb⟩
  case round =>
    obtain ⟨k, hk, rfl, hblk, hb⟩ := hrel
    by_cases hlt : k < m
    · have hml2 : (m : Int) * 4 = (l.length : Int) := by have := HM.out; omega
      have hlo : 0 < l.length := by have := HM.out; omega
      obtain ⟨ab, ao, rfl, _, _⟩ := hr.at_ (by rw [bvs_length]; exact hlo)
      have hcell := hblk.cell k
      rw [wrow_here k 4 m l hlt] at hcell
      have hfr := hblk.frozen k
      have hset := hblk.set_ k (.int .u64 (leN ((l.drop (k * 4)).take 4) : Int))
      rw [wrow_next k 4 m l hlt] at hset
      obtain ⟨ch, hch⟩ : ∃ ch, ch = (l.drop (k * 4)).take 4 := ⟨_, rfl⟩
      have hrc : Rd wr wr.heap.size (some ⟨ab, ao + k * 4, none⟩) (bvs ch) := by
        have := ((((hr.below hb).more hb.size).drop (k * 4)).take 4)
        rw [bvs_drop, bvs_take, ← hch] at this
        simpa [Addr.add_lit] using this
      have hcl : ch.length = 4 := by rw [hch, List.length_take, List.length_drop]; have := HM.out; omega
      rw [← hch] at hset
      have HSET := Lib.hid hset
      have HRC := Lib.hid hrc
      have HCL := Lib.hid hcl
      have hk0 : (k : Int) < (m : Int) := by omega
      have hkl : (k : Int) * 4 + 4 ≤ (l.length : Int) := by omega
      have hkl2 : (k : Int) * 4 + 4 ≤ (c : Int) := by omega
      clear hset hrc hcl hch hblk
      go_wp2_with fail
      refine (together_u32 _ _ _ ch _ HRC.out (by have := HCL.out; omega) (by omega)).mono ?_
      rintro e w' ⟨rfl, rfl⟩
      have hle := leN_lt ch
      rw [HCL.out] at hle
      have hle2 : (leN ch : Int) < 4294967296 := by omega
      have hle3 : (0 : Int) ≤ (leN ch : Int) := by omega
      clear hle
      go_wp2
      go_roundw
      case rel => exact ⟨k + 1, by omega, by go_num, HSET.out, hb.setCell (Nat.le_refl _) _⟩
      case measure => simp [intOf]; omega
    · obtain rfl : k = m := by omega
      have hfull := wrow_full (wordsN k 4 l)
      rw [wordsN_len] at hfull
      rw [hfull] at hblk
      have hrd := Rd.of_blk hblk
      have HRD := Lib.hid hrd
      clear hblk hfull hrd
      go_wp2
      go_ret
      exact ⟨.slice (some ⟨w.heap.size, 0, none⟩) k k, rfl, ⟨⟨_, k, by rw [wvs_length, wordsN_len], by rw [wvs_length, wordsN_len]; exact Nat.le_refl _, HRD.out⟩, FreshV.at_ (Nat.le_refl _)⟩, hb⟩

set_option maxHeartbeats 1000000 in
set_option maxRecDepth 100000 in
theorem row_u64 (A : Option Addr) (n c m : Nat) (l : List UInt8) (w : World) (hr : Rd w w.heap.size A (bvs l)) (hn : l.length = n) (hm : n = m * 8) (hnc : n ≤ c) (hb1 : n ≤ 100000) :
    Calls Try.prog 47 #[.slice A n c, .int .i64 8] w (NewWF w (wordsN m 8 l)) := by
  obtain ⟨i0, hi, hz0, hz1, hz2⟩ := info_parts info_u64r
  subst hn
  have hq : (l.length : Int) / 8 = (m : Int) := by omega
  have hml : m ≤ 100000 := by omega
  have HM := Lib.hid hm
  clear hm
  go_enter Try.func47, Try.ntmps47
  go_wp2_with (at_make; go_must (refine wpList_mk rfl (.tmp 10) (.tmp 10) 70 rfl w.heap.size 49 i0 (.int .u64 0) 8 Try.underlying70 hi hz0 rfl hz1 hz2 .i64 .i64 _ _ rfl rfl m m (by have := HM.out; omega) (by have := HM.out; omega) (Nat.le_refl _) (by omega) (by simp only [maxLen]; omega) (Nat.le_refl _) ?_; intro w1 hg1 hown1 hgr1; have hb : Below w.heap.size w w1 := (Below.refl _ _).grown hgr1 (Nat.le_refl _) (by simp); have hblk : Blk w1 w.heap.size 49 (wrow (wordsN 0 8 l) m) := (by unfold Blk; rw [hg1]; simp [wrow, wordsN, wvs]); clear hg1 hown1 hgr1))
  clear hq
  go_loopw [14] (RowRel w 8 m w.heap.size l) (fun i _ => m - (intOf i).toNat)
  case atStart => exact ⟨0, Nat.zero_le _, rfl, hblk, hb⟩
  case round =>
    obtain ⟨k, hk, rfl, hblk, hb⟩ := hrel
    by_cases hlt : k < m
    · have hml2 : (m : Int) * 8 = (l.length : Int) := by have := HM.out; omega
      have hlo : 0 < l.length := by have := HM.out; omega
      obtain ⟨ab, ao, rfl, _, _⟩ := hr.at_ (by rw [bvs_length]; exact hlo)
      have hcell := hblk.cell k
      rw [wrow_here k 8 m l hlt] at hcell
      have hfr := hblk.frozen k
      have hset := hblk.set_ k (.int .u64 (leN ((l.drop (k * 8)).take 8) : Int))
      rw [wrow_next k 8 m l hlt] at hset
      obtain ⟨ch, hch⟩ : ∃ ch, ch = (l.drop (k * 8)).take 8 := ⟨_, rfl⟩
      have hrc : Rd wr wr.heap.size (some ⟨ab, ao + k * 8, none⟩) (bvs ch) := by
        have := ((((hr.below hb).more hb.size).drop (k * 8)).take 8)
        rw [bvs_drop, bvs_take, ← hch] at this
        simpa [Addr.add_lit] using this
      have hcl : ch.length = 8 := by rw [hch, List.length_take, List.length_drop]; have := HM.out; omega
      rw [← hch] at hset
      have HSET := Lib.hid hset
      have HRC := Lib.hid hrc
      have HCL := Lib.hid hcl
      have hk0 : (k : Int) < (m : Int) := by omega
      have hkl : (k : Int) * 8 + 8 ≤ (l.length : Int) := by omega
      have hkl2 : (k : Int) * 8 + 8 ≤ (c : Int) := by omega
      clear hset hrc hcl hch hblk
      go_wp2_with fail
      refine (together_u64 _ _ _ ch _ HRC.out (by have := HCL.out; omega) (by omega)).mono ?_
      rintro e w' ⟨rfl, rfl⟩
      have hle := leN_lt ch
      rw [HCL.out] at hle
      have hle2 : (leN ch : Int) < 18446744073709551616 := by omega
      have hle3 : (0 : Int) ≤ (leN ch : Int) := by omega
      clear hle
      go_wp2
      go_roundw
      case rel => exact ⟨k + 1, by omega, by go_num, HSET.out, hb.setCell (Nat.le_refl _) _⟩
      case measure => simp [intOf]; omega
    · obtain rfl : k = m := by omega
      have hfull := wrow_full (wordsN k 8 l)
      rw [wordsN_len] at hfull
      rw [hfull] at hblk
      have hrd := Rd.of_blk hblk
      have HRD := Lib.hid hrd
      clear hblk hfull hrd
      go_wp2
      go_ret
      exact ⟨.slice (some ⟨w.heap.size, 0, none⟩) k k, rfl, ⟨⟨_, k, by rw [wvs_length, wordsN_len], by rw [wvs_length, wordsN_len]; exact Nat.le_refl _, HRD.out⟩, FreshV.at_ (Nat.le_refl _)⟩, hb⟩
end Go.Proofs.Ytcjjlkfenlmmlaa
