/-
  Contracts of layer 4: together and row, at each type of numbers. · Contracts of layer 4: words, slices.Clone, Take of the code. · Contracts of layer 4: Lay of the code and of the reference.
-/
import Derived.Test.YtjignfnkcbklkaaQ05
namespace Go.Proofs.Ytjignfnkcbklkaa
open Go.RowKit

set_option maxHeartbeats 400000 in
theorem together_u8 (A : Option Addr) (n c : Nat) (l : List UInt8) (w : World) (hr : Rd w w.heap.size A (bvs l)) (hn : l.length = n) (hW : n = 1) :
    Calls Try.prog 66 #[.slice A n c] w fun e w' => e = .returned (.int .u8 (leN l : Int)) ∧ w = w' := by
  subst hn
  have hW' : (l.length : Int) = 1 := by omega
  have hl1 : (l.length : Int) ≤ 1 := by omega
  have hl0 : (1 : Int) ≤ (l.length : Int) := by omega
  clear hW'
  have HW := Lib.hid hW
  clear hW
  go_enter Try.func66, Try.ntmps66
  go_wp2
  go_loop [3, 8] (TogRel .u8 l) (fun _ i => l.length - (intOf i).toNat)
  case atStart => exact ⟨0, Nat.zero_le _, rfl, rfl⟩
  case round =>
    obtain ⟨k, hk, rfl, rfl⟩ := hrel
    by_cases hlt : k < l.length
    · obtain ⟨ab, ao, rfl, _, hcell⟩ := hr k _ (bvs_get l k hlt)
      have hstep := tog_u8 l k hlt (by have := HW.out; omega)
      obtain ⟨b, hb⟩ : ∃ b, b = l[k] := ⟨_, rfl⟩
      rw [← hb] at hcell hstep
      have hb8 := b.toNat_lt
      have hb0 : (0 : Int) ≤ (b.toNat : Int) := by omega
      have hb255 : (b.toNat : Int) ≤ 255 := by omega
      have HS := Lib.hid hstep
      clear hb hb8 hstep
      go_wp2
      go_round
      case rel => exact ⟨k + 1, by omega, by go_num, by rw [← HS.out]⟩
      case measure => simp [intOf]; omega
    · obtain rfl : k = l.length := by omega
      rw [List.take_length]
      go_wp2
      go_ret
      exact ⟨rfl, rfl⟩

set_option maxHeartbeats 400000 in
theorem together_u16 (A : Option Addr) (n c : Nat) (l : List UInt8) (w : World) (hr : Rd w w.heap.size A (bvs l)) (hn : l.length = n) (hW : n = 2) :
    Calls Try.prog 67 #[.slice A n c] w fun e w' => e = .returned (.int .u16 (leN l : Int)) ∧ w = w' := by
  subst hn
  have hW' : (l.length : Int) = 2 := by omega
  have hl1 : (l.length : Int) ≤ 2 := by omega
  have hl0 : (1 : Int) ≤ (l.length : Int) := by omega
  clear hW'
  have HW := Lib.hid hW
  clear hW
  go_enter Try.func67, Try.ntmps67
  go_wp2
  go_loop [3, 8] (TogRel .u16 l) (fun _ i => l.length - (intOf i).toNat)
  case atStart => exact ⟨0, Nat.zero_le _, rfl, rfl⟩
  case round =>
    obtain ⟨k, hk, rfl, rfl⟩ := hrel
    by_cases hlt : k < l.length
    · obtain ⟨ab, ao, rfl, _, hcell⟩ := hr k _ (bvs_get l k hlt)
      have hstep := tog_u16 l k hlt (by have := HW.out; omega)
      obtain ⟨b, hb⟩ : ∃ b, b = l[k] := ⟨_, rfl⟩
      rw [← hb] at hcell hstep
      have hb8 := b.toNat_lt
      have hb0 : (0 : Int) ≤ (b.toNat : Int) := by omega
      have hb255 : (b.toNat : Int) ≤ 255 := by omega
      have HS := Lib.hid hstep
      clear hb hb8 hstep
      go_wp2
      go_round
      case rel => exact ⟨k + 1, by omega, by go_num, by rw [← HS.out]⟩
      case measure => simp [intOf]; omega
    · obtain rfl : k = l.length := by omega
      rw [List.take_length]
      go_wp2
      go_ret
      exact ⟨rfl, rfl⟩

set_option maxHeartbeats 400000 in
theorem together_u32 (A : Option Addr) (n c : Nat) (l : List UInt8) (w : World) (hr : Rd w w.heap.size A (bvs l)) (hn : l.length = n) (hW : n = 4) :
    Calls Try.prog 68 #[.slice A n c] w fun e w' => e = .returned (.int .u32 (leN l : Int)) ∧ w = w' := by
  subst hn
  have hW' : (l.length : Int) = 4 := by omega
  have hl1 : (l.length : Int) ≤ 4 := by omega
  have hl0 : (1 : Int) ≤ (l.length : Int) := by omega
  clear hW'
  have HW := Lib.hid hW
  clear hW
  go_enter Try.func68, Try.ntmps68
  go_wp2
  go_loop [3, 8] (TogRel .u32 l) (fun _ i => l.length - (intOf i).toNat)
  case atStart => exact ⟨0, Nat.zero_le _, rfl, rfl⟩
  case round =>
    obtain ⟨k, hk, rfl, rfl⟩ := hrel
    by_cases hlt : k < l.length
    · obtain ⟨ab, ao, rfl, _, hcell⟩ := hr k _ (bvs_get l k hlt)
      have hstep := tog_u32 l k hlt (by have := HW.out; omega)
      obtain ⟨b, hb⟩ : ∃ b, b = l[k] := ⟨_, rfl⟩
      rw [← hb] at hcell hstep
      have hb8 := b.toNat_lt
      have hb0 : (0 : Int) ≤ (b.toNat : Int) := by omega
      have hb255 : (b.toNat : Int) ≤ 255 := by omega
      have HS := Lib.hid hstep
      clear hb hb8 hstep
      go_wp2
      go_round
      case rel => exact ⟨k + 1, by omega, by go_num, by rw [← HS.out]⟩
      case measure => simp [intOf]; omega
    · obtain rfl : k = l.length := by omega
      rw [List.take_length]
      go_wp2
      go_ret
      exact ⟨rfl, rfl⟩

set_option maxHeartbeats 400000 in
theorem together_u64 (A : Option Addr) (n c : Nat) (l : List UInt8) (w : World) (hr : Rd w w.heap.size A (bvs l)) (hn : l.length = n) (hW : n = 8) :
    Calls Try.prog 69 #[.slice A n c] w fun e w' => e = .returned (.int .u64 (leN l : Int)) ∧ w = w' := by
  subst hn
  have hW' : (l.length : Int) = 8 := by omega
  have hl1 : (l.length : Int) ≤ 8 := by omega
  have hl0 : (1 : Int) ≤ (l.length : Int) := by omega
  clear hW'
  have HW := Lib.hid hW
  clear hW
  go_enter Try.func69, Try.ntmps69
  go_wp2
  go_loop [3, 8] (TogRel .u64 l) (fun _ i => l.length - (intOf i).toNat)
  case atStart => exact ⟨0, Nat.zero_le _, rfl, rfl⟩
  case round =>
    obtain ⟨k, hk, rfl, rfl⟩ := hrel
    by_cases hlt : k < l.length
    · obtain ⟨ab, ao, rfl, _, hcell⟩ := hr k _ (bvs_get l k hlt)
      have hstep := tog_u64 l k hlt (by have := HW.out; omega)
      obtain ⟨b, hb⟩ : ∃ b, b = l[k] := ⟨_, rfl⟩
      rw [← hb] at hcell hstep
      have hb8 := b.toNat_lt
      have hb0 : (0 : Int) ≤ (b.toNat : Int) := by omega
      have hb255 : (b.toNat : Int) ≤ 255 := by omega
      have HS := Lib.hid hstep
      clear hb hb8 hstep
      go_wp2
      go_round
      case rel => exact ⟨k + 1, by omega, by go_num, by rw [← HS.out]⟩
      case measure => simp [intOf]; omega
    · obtain rfl : k = l.length := by omega
      rw [List.take_length]
      go_wp2
      go_ret
      exact ⟨rfl, rfl⟩

/-- What holds at the head of a round of row: the words ahead are laid. -/
def RowRel (w : World) (W m r : Nat) (l : List UInt8) (i : Value) (wr : World) : Prop :=
  ∃ k : Nat, k ≤ m ∧ i = .int .i64 k ∧ Blk wr r 59 (wrow (wordsN k W l) m) ∧ Below w.heap.size w wr
theorem wrow_next (k W m : Nat) (l : List UInt8) (h : k < m) : (wrow (wordsN k W l) m).set k (.int .u64 (leN ((l.drop (k * W)).take W) : Int)) = wrow (wordsN (k + 1) W l) m := by
  have e := wrow_set (wordsN k W l) m (leN ((l.drop (k * W)).take W)) (by rw [wordsN_len]; exact h)
  rw [wordsN_len] at e
  rw [e, wordsN_snoc]
theorem wrow_here (k W m : Nat) (l : List UInt8) (h : k < m) : (wrow (wordsN k W l) m)[k]? = some (.int .u64 0) := by
  have e := wrow_get (wordsN k W l) m (by rw [wordsN_len]; exact h)
  rwa [wordsN_len] at e

set_option maxHeartbeats 1000000 in
set_option maxRecDepth 100000 in
theorem row_u8 (A : Option Addr) (n c m : Nat) (l : List UInt8) (w : World) (hr : Rd w w.heap.size A (bvs l)) (hn : l.length = n) (hm : n = m * 1) (hnc : n ≤ c) (hb1 : n ≤ 100000) :
    Calls Try.prog 62 #[.slice A n c, .int .i64 1] w (NewWF w (wordsN m 1 l)) := by
  obtain ⟨i0, hi, hz0, hz1, hz2⟩ := info_parts info_u64r
  subst hn
  have hq : (l.length : Int) / 1 = (m : Int) := by omega
  have hml : m ≤ 100000 := by omega
  have HM := Lib.hid hm
  clear hm
  go_enter Try.func62, Try.ntmps62
  go_wp2_with (at_make; go_must (refine wpList_mk rfl (.tmp 10) (.tmp 10) 83 rfl w.heap.size 59 i0 (.int .u64 0) 8 Try.underlying83 hi hz0 rfl hz1 hz2 .i64 .i64 _ _ rfl rfl m m (by have := HM.out; omega) (by have := HM.out; omega) (Nat.le_refl _) (by omega) (by simp only [maxLen]; omega) (Nat.le_refl _) ?_; intro w1 hg1 hown1 hgr1; have hb : Below w.heap.size w w1 := (Below.refl _ _).grown hgr1 (Nat.le_refl _) (by simp); have hblk : Blk w1 w.heap.size 59 (wrow (wordsN 0 1 l) m) := (by unfold Blk; rw [hg1]; simp [wrow, wordsN, wvs]); clear hg1 hown1 hgr1))
  clear hq
  go_loopw [14] (RowRel w 1 m w.heap.size l) (fun i _ => m - (intOf i).toNat)
  case atStart => exact ⟨0, Nat.zero_le _, rfl, hblk, hb⟩
  case round =>
    obtain ⟨k, hk, rfl, hblk, hb⟩ := hrel
    by_cases hlt : k < m
    · have hml2 : (m : Int) * 1 = (l.length : Int) := by have := HM.out; omega
      have hlo : 0 < l.length := by have := HM.out; omega
      obtain ⟨ab, ao, rfl, _, _⟩ := hr.at_ (by rw [bvs_length]; exact hlo)
      have hcell := hblk.cell k
      rw [wrow_here k 1 m l hlt] at hcell
      have hfr := hblk.frozen k
      have hset := hblk.set_ k (.int .u64 (leN ((l.drop (k * 1)).take 1) : Int))
      rw [wrow_next k 1 m l hlt] at hset
      obtain ⟨ch, hch⟩ : ∃ ch, ch = (l.drop (k * 1)).take 1 := ⟨_, rfl⟩
      have hrc : Rd wr wr.heap.size (some ⟨ab, ao + k, none⟩) (bvs ch) := by
        have := ((((hr.below hb).more hb.size).drop (k * 1)).take 1)
        rw [bvs_drop, bvs_take, ← hch] at this
        simpa [Addr.add_lit] using this
      have hcl : ch.length = 1 := by rw [hch, List.length_take, List.length_drop]; have := HM.out; omega
      rw [← hch] at hset
      have HSET := Lib.hid hset
      have HRC := Lib.hid hrc
      have HCL := Lib.hid hcl
      have hk0 : (k : Int) < (m : Int) := by omega
      have hkl : (k : Int) * 1 + 1 ≤ (l.length : Int) := by omega
      have hkl2 : (k : Int) * 1 + 1 ≤ (c : Int) := by omega
      clear hset hrc hcl hch hblk
      go_wp2_with fail
      refine (together_u8 _ _ _ ch _ HRC.out (by have := HCL.out; omega) (by omega)).mono ?_
      rintro e w' ⟨rfl, rfl⟩
      have hle := leN_lt ch
      rw [HCL.out] at hle
      have hle2 : (leN ch : Int) < 256 := by omega
      have hle3 : (0 : Int) ≤ (leN ch : Int) := by omega
      clear hle
      go_wp2
      go_roundw
      case rel => exact ⟨k + 1, by omega, by go_num, HSET.out, hb.setCell (Nat.le_refl _) _⟩
      case measure => simp [intOf]; omega
    · obtain rfl : k = m := by omega
      have hfull := wrow_full (wordsN k 1 l)
      rw [wordsN_len] at hfull
      rw [hfull] at hblk
      have hrd := Rd.of_blk hblk
      have HRD := Lib.hid hrd
      clear hblk hfull hrd
      go_wp2
      go_ret
      exact ⟨.slice (some ⟨w.heap.size, 0, none⟩) k k, rfl, ⟨⟨_, k, by rw [wvs_length, wordsN_len], by rw [wvs_length, wordsN_len]; exact Nat.le_refl _, HRD.out⟩, FreshV.at_ (Nat.le_refl _)⟩, hb⟩

set_option maxHeartbeats 1000000 in
set_option maxRecDepth 100000 in
theorem row_u16 (A : Option Addr) (n c m : Nat) (l : List UInt8) (w : World) (hr : Rd w w.heap.size A (bvs l)) (hn : l.length = n) (hm : n = m * 2) (hnc : n ≤ c) (hb1 : n ≤ 100000) :
    Calls Try.prog 63 #[.slice A n c, .int .i64 2] w (NewWF w (wordsN m 2 l)) := by
  obtain ⟨i0, hi, hz0, hz1, hz2⟩ := info_parts info_u64r
  subst hn
  have hq : (l.length : Int) / 2 = (m : Int) := by omega
  have hml : m ≤ 100000 := by omega
  have HM := Lib.hid hm
  clear hm
  go_enter Try.func63, Try.ntmps63
  go_wp2_with (at_make; go_must (refine wpList_mk rfl (.tmp 10) (.tmp 10) 83 rfl w.heap.size 59 i0 (.int .u64 0) 8 Try.underlying83 hi hz0 rfl hz1 hz2 .i64 .i64 _ _ rfl rfl m m (by have := HM.out; omega) (by have := HM.out; omega) (Nat.le_refl _) (by omega) (by simp only [maxLen]; omega) (Nat.le_refl _) ?_; intro w1 hg1 hown1 hgr1; have hb : Below w.heap.size w w1 := (Below.refl _ _).grown hgr1 (Nat.le_refl _) (by simp); have hblk : Blk w1 w.heap.size 59 (wrow (wordsN 0 2 l) m) := (by unfold Blk; rw [hg1]; simp [wrow, wordsN, wvs]); clear hg1 hown1 hgr1))
  clear hq
  go_loopw [14] (RowRel w 2 m w.heap.size l) (fun i _ => m - (intOf i).toNat)
  case atStart => exact ⟨0, Nat.zero_le _, rfl, hblk, hb⟩
  case round =>
    obtain ⟨k, hk, rfl, hblk, hb⟩ := hrel
    by_cases hlt : k < m
    · have hml2 : (m : Int) * 2 = (l.length : Int) := by have := HM.out; omega
      have hlo : 0 < l.length := by have := HM.out; omega
      obtain ⟨ab, ao, rfl, _, _⟩ := hr.at_ (by rw [bvs_length]; exact hlo)
      have hcell := hblk.cell k
      rw [wrow_here k 2 m l hlt] at hcell
      have hfr := hblk.frozen k
      have hset := hblk.set_ k (.int .u64 (leN ((l.drop (k * 2)).take 2) : Int))
      rw [wrow_next k 2 m l hlt] at hset
      obtain ⟨ch, hch⟩ : ∃ ch, ch = (l.drop (k * 2)).take 2 := ⟨_, rfl⟩
      have hrc : Rd wr wr.heap.size (some ⟨ab, ao + k * 2, none⟩) (bvs ch) := by
        have := ((((hr.below hb).more hb.size).drop (k * 2)).take 2)
        rw [bvs_drop, bvs_take, ← hch] at this
        simpa [Addr.add_lit] using this
      have hcl : ch.length = 2 := by rw [hch, List.length_take, List.length_drop]; have := HM.out; omega
      rw [← hch] at hset
      have HSET := Lib.hid hset
      have HRC := Lib.hid hrc
      have HCL := Lib.hid hcl
      have hk0 : (k : Int) < (m : Int) := by omega
      have hkl : (k : Int) * 2 + 2 ≤ (l.length : Int) := by omega
      have hkl2 : (k : Int) * 2 + 2 ≤ (c : Int) := by omega
      clear hset hrc hcl hch hblk
      go_wp2_with fail
      refine (together_u16 _ _ _ ch _ HRC.out (by have := HCL.out; omega) (by omega)).mono ?_
      rintro e w' ⟨rfl, rfl⟩
      have hle := leN_lt ch
      rw [HCL.out] at hle
      have hle2 : (leN ch : Int) < 65536 := by omega
      have hle3 : (0 : Int) ≤ (leN ch : Int) := by omega
      clear hle
      go_wp2
      go_roundw
      case rel => exact ⟨k + 1, by omega, by go_num, HSET.out, hb.setCell (Nat.le_refl _) _⟩
      case measure => simp [intOf]; omega
    · obtain rfl : k = m := by omega
      have hfull := wrow_full (wordsN k 2 l)
      rw [wordsN_len] at hfull
      rw [hfull] at hblk
      have hrd := Rd.of_blk hblk
      have HRD := Lib.hid hrd
      clear hblk hfull hrd
      go_wp2
      go_ret
      exact ⟨.slice (some ⟨w.heap.size, 0, none⟩) k k, rfl, ⟨⟨_, k, by rw [wvs_length, wordsN_len], by rw [wvs_length, wordsN_len]; exact Nat.le_refl _, HRD.out⟩, FreshV.at_ (Nat.le_refl _)⟩, hb⟩

set_option maxHeartbeats 1000000 in
set_option maxRecDepth 100000 in
theorem row_u32 (A : Option Addr) (n c m : Nat) (l : List UInt8) (w : World) (hr : Rd w w.heap.size A (bvs l)) (hn : l.length = n) (hm : n = m * 4) (hnc : n ≤ c) (hb1 : n ≤ 100000) :
    Calls Try.prog 64 #[.slice A n c, .int .i64 4] w (NewWF w (wordsN m 4 l)) := by
  obtain ⟨i0, hi, hz0, hz1, hz2⟩ := info_parts info_u64r
  subst hn
  have hq : (l.length : Int) / 4 = (m : Int) := by omega
  have hml : m ≤ 100000 := by omega
  have HM := Lib.hid hm
  clear hm
  go_enter Try.func64, Try.ntmps64
  go_wp2_with (at_make; go_must (refine wpList_mk rfl (.tmp 10) (.tmp 10) 83 rfl w.heap.size 59 i0 (.int .u64 0) 8 Try.underlying83 hi hz0 rfl hz1 hz2 .i64 .i64 _ _ rfl rfl m m (by have := HM.out; omega) (by have := HM.out; omega) (Nat.le_refl _) (by omega) (by simp only [maxLen]; omega) (Nat.le_refl _) ?_; intro w1 hg1 hown1 hgr1; have hb : Below w.heap.size w w1 := (Below.refl _ _).grown hgr1 (Nat.le_refl _) (by simp); have hblk : Blk w1 w.heap.size 59 (wrow (wordsN 0 4 l) m) := (by unfold Blk; rw [hg1]; simp [wrow, wordsN, wvs]); clear hg1 hown1 hgr1))
  clear hq
  go_loopw [14] (RowRel w 4 m w.heap.size l) (fun i _ => m - (intOf i).toNat)
  case atStart => exact ⟨0, Nat.zero_le _, rfl, hblk, hb⟩
  case round =>
    obtain ⟨k, hk, rfl, hblk, hb⟩ := hrel
    by_cases hlt : k < m
    · have hml2 : (m : Int) * 4 = (l.length : Int) := by have := HM.out; omega
      have hlo : 0 < l.length := by have := HM.out; omega
      obtain ⟨ab, ao, rfl, _, _⟩ := hr.at_ (by rw [bvs_length]; exact hlo)
      have hcell := hblk.cell k
      rw [wrow_here k 4 m l hlt] at hcell
      have hfr := hblk.frozen k
      have hset := hblk.set_ k (.int .u64 (leN ((l.drop (k * 4)).take 4) : Int))
      rw [wrow_next k 4 m l hlt] at hset
      obtain ⟨ch, hch⟩ : ∃ ch, ch = (l.drop (k * 4)).take 4 := ⟨_, rfl⟩
      have hrc : Rd wr wr.heap.size (some ⟨ab, ao + k * 4, none⟩) (bvs ch) := by
        have := ((((hr.below hb).more hb.size).drop (k * 4)).take 4)
        rw [bvs_drop, bvs_take, ← hch] at this
        simpa [Addr.add_lit] using this
      have hcl : ch.length = 4 := by rw [hch, List.length_take, List.length_drop]; have := HM.out; omega
      rw [← hch] at hset
      have HSET := Lib.hid hset
      have HRC := Lib.hid hrc
      have HCL := Lib.hid hcl
      have hk0 : (k : Int) < (m : Int) := by omega
      have hkl : (k : Int) * 4 + 4 ≤ (l.length : Int) := by omega
      have hkl2 : (k : Int) * 4 + 4 ≤ (c : Int) := by omega
      clear hset hrc hcl hch hblk
      go_wp2_with fail
      refine (together_u32 _ _ _ ch _ HRC.out (by have := HCL.out; omega) (by omega)).mono ?_
      rintro e w' ⟨rfl, rfl⟩
      have hle := leN_lt ch
      rw [HCL.out] at hle
      have hle2 : (leN ch : Int) < 4294967296 := by omega
      have hle3 : (0 : Int) ≤ (leN ch : Int) := by omega
      clear hle
      go_wp2
      go_roundw
      case rel => exact ⟨k + 1, by omega, by go_num, HSET.out, hb.setCell (Nat.le_refl _) _⟩
      case measure => simp [intOf]; omega
    · obtain rfl : k = m := by omega
      have hfull := wrow_full (wordsN k 4 l)
      rw [wordsN_len] at hfull
      rw [hfull] at hblk
      have hrd := Rd.of_blk hblk
      have HRD := Lib.hid hrd
      clear hblk hfull hrd
      go_wp2
      go_ret
      exact ⟨.slice (some ⟨w.heap.size, 0, none⟩) k k, rfl, ⟨⟨_, k, by rw [wvs_length, wordsN_len], by rw [wvs_length, wordsN_len]; exact Nat.le_refl _, HRD.out⟩, FreshV.at_ (Nat.le_refl _)⟩, hb⟩

set_option maxHeartbeats 1000000 in
set_option maxRecDepth 100000 in
theorem row_u64 (A : Option Addr) (n c m : Nat) (l : List UInt8) (w : World) (hr : Rd w w.heap.size A (bvs l)) (hn : l.length = n) (hm : n = m * 8) (hnc : n ≤ c) (hb1 : n ≤ 100000) :
    Calls Try.prog 65 #[.slice A n c, .int .i64 8] w (NewWF w (wordsN m 8 l)) := by
  obtain ⟨i0, hi, hz0, hz1, hz2⟩ := info_parts info_u64r
  subst hn
  have hq : (l.length : Int) / 8 = (m : Int) := by omega
  have hml : m ≤ 100000 := by omega
  have HM := Lib.hid hm
  clear hm
  go_enter Try.func65, Try.ntmps65
  go_wp2_with (at_make; go_must (refine wpList_mk rfl (.tmp 10) (.tmp 10) 83 rfl w.heap.size 59 i0 (.int .u64 0) 8 Try.underlying83 hi hz0 rfl hz1 hz2 .i64 .i64 _ _ rfl rfl m m (by have := HM.out; omega) (by have := HM.out; omega) (Nat.le_refl _) (by omega) (by simp only [maxLen]; omega) (Nat.le_refl _) ?_; intro w1 hg1 hown1 hgr1; have hb : Below w.heap.size w w1 := (Below.refl _ _).grown hgr1 (Nat.le_refl _) (by simp); have hblk : Blk w1 w.heap.size 59 (wrow (wordsN 0 8 l) m) := (by unfold Blk; rw [hg1]; simp [wrow, wordsN, wvs]); clear hg1 hown1 hgr1))
  clear hq
  go_loopw [14] (RowRel w 8 m w.heap.size l) (fun i _ => m - (intOf i).toNat)
  case atStart => exact ⟨0, Nat.zero_le _, rfl, hblk, hb⟩
  case round =>
    obtain ⟨k, hk, rfl, hblk, hb⟩ := hrel
    by_cases hlt : k < m
    · have hml2 : (m : Int) * 8 = (l.length : Int) := by have := HM.out; omega
      have hlo : 0 < l.length := by have := HM.out; omega
      obtain ⟨ab, ao, rfl, _, _⟩ := hr.at_ (by rw [bvs_length]; exact hlo)
      have hcell := hblk.cell k
      rw [wrow_here k 8 m l hlt] at hcell
      have hfr := hblk.frozen k
      have hset := hblk.set_ k (.int .u64 (leN ((l.drop (k * 8)).take 8) : Int))
      rw [wrow_next k 8 m l hlt] at hset
      obtain ⟨ch, hch⟩ : ∃ ch, ch = (l.drop (k * 8)).take 8 := ⟨_, rfl⟩
      have hrc : Rd wr wr.heap.size (some ⟨ab, ao + k * 8, none⟩) (bvs ch) := by
        have := ((((hr.below hb).more hb.size).drop (k * 8)).take 8)
        rw [bvs_drop, bvs_take, ← hch] at this
        simpa [Addr.add_lit] using this
      have hcl : ch.length = 8 := by rw [hch, List.length_take, List.length_drop]; have := HM.out; omega
      rw [← hch] at hset
      have HSET := Lib.hid hset
      have HRC := Lib.hid hrc
      have HCL := Lib.hid hcl
      have hk0 : (k : Int) < (m : Int) := by omega
      have hkl : (k : Int) * 8 + 8 ≤ (l.length : Int) := by omega
      have hkl2 : (k : Int) * 8 + 8 ≤ (c : Int) := by omega
      clear hset hrc hcl hch hblk
      go_wp2_with fail
      refine (together_u64 _ _ _ ch _ HRC.out (by have := HCL.out; omega) (by omega)).mono ?_
      rintro e w' ⟨rfl, rfl⟩
      have hle := leN_lt ch
      rw [HCL.out] at hle
      have hle2 : (leN ch : Int) < 18446744073709551616 := by omega
      have hle3 : (0 : Int) ≤ (leN ch : Int) := by omega
      clear hle
      go_wp2
      go_roundw
      case rel => exact ⟨k + 1, by omega, by go_num, HSET.out, hb.setCell (Nat.le_refl _) _⟩
      case measure => simp [intOf]; omega
    · obtain rfl : k = m := by omega
      have hfull := wrow_full (wordsN k 8 l)
      rw [wordsN_len] at hfull
      rw [hfull] at hblk
      have hrd := Rd.of_blk hblk
      have HRD := Lib.hid hrd
      clear hblk hfull hrd
      go_wp2
      go_ret
      exact ⟨.slice (some ⟨w.heap.size, 0, none⟩) k k, rfl, ⟨⟨_, k, by rw [wvs_length, wordsN_len], by rw [wvs_length, wordsN_len]; exact Nat.le_refl _, HRD.out⟩, FreshV.at_ (Nat.le_refl _)⟩, hb⟩
end Go.Proofs.Ytjignfnkcbklkaa
namespace Go.Proofs.Ytjignfnkcbklkaa
open Go.RowKit

set_option maxRecDepth 100000 in
theorem wordWordsF_any (W : Nat) (hW : IsW W) (A : Option Addr) (n c m : Nat) (l : List UInt8) (w : World) (hr : Rd w w.heap.size A (bvs l)) (hn : l.length = n) (hm : n = m * W) (hnc : n ≤ c) (hb1 : n ≤ 100000) :
    Calls Try.prog 60 #[.slice A n c, .int .i64 (W : Int)] w (NewWF w (wordsN m W l)) := by
  rcases hW with rfl | rfl | rfl | rfl
  · have c1 := row_u8 A n c m l w hr hn hm hnc hb1
    have C1 := Lib.hid c1
    clear c1 hn hm
    go_enter Try.func60, Try.ntmps60
    go_wp2_with (go_at_call 62; go_must (refine C1.out.mono ?_; rintro e w' ⟨v, rfl, h1, h2⟩))
    go_ret
    exact ⟨v, rfl, h1, h2⟩
  · have c1 := row_u16 A n c m l w hr hn hm hnc hb1
    have C1 := Lib.hid c1
    clear c1 hn hm
    go_enter Try.func60, Try.ntmps60
    go_wp2_with (go_at_call 63; go_must (refine C1.out.mono ?_; rintro e w' ⟨v, rfl, h1, h2⟩))
    go_ret
    exact ⟨v, rfl, h1, h2⟩
  · have c1 := row_u32 A n c m l w hr hn hm hnc hb1
    have C1 := Lib.hid c1
    clear c1 hn hm
    go_enter Try.func60, Try.ntmps60
    go_wp2_with (go_at_call 64; go_must (refine C1.out.mono ?_; rintro e w' ⟨v, rfl, h1, h2⟩))
    go_ret
    exact ⟨v, rfl, h1, h2⟩
  · have c1 := row_u64 A n c m l w hr hn hm hnc hb1
    have C1 := Lib.hid c1
    clear c1 hn hm
    go_enter Try.func60, Try.ntmps60
    go_wp2_with (go_at_call 65; go_must (refine C1.out.mono ?_; rintro e w' ⟨v, rfl, h1, h2⟩))
    go_ret
    exact ⟨v, rfl, h1, h2⟩

theorem info_u8w : (Try.prog.info? 5).map (fun i => (i.zero, i.size, i.bytes)) = some (some (.int .u8 0), 1, 1) := by kernel_rfl
/-- Bytes in a row that is new. -/
def FreshB (B : Nat) (l : List UInt8) (v : Value) (w : World) : Prop := IsBytes l v w ∧ FreshV B v
theorem FreshB.grow (B : Nat) (l : List UInt8) (v : Value) (w w' : World) (h : FreshB B l v w) (hb : Below w.heap.size w w') : FreshB B l v w' := ⟨h.1.grow hb, h.2⟩
def NewBF (w : World) (l : List UInt8) (e : Ending) (w' : World) : Prop := ∃ v, e = .returned v ∧ FreshB w.heap.size l v w' ∧ Below w.heap.size w w'
theorem fresh_own {w : World} {base e size n : Nat} {v : Value} {xs : List Value} (h : w.ownsRow base e size v n xs) : FreshV base v := by
  rcases h.2 with ⟨rfl, _⟩ | ⟨g, cap, cur, rfl, hb, _⟩
  · exact FreshV.nil _
  · exact FreshV.at_ hb
theorem size_u8w : (Try.prog.info? 5).map (·.size) = some 1 := by kernel_rfl

set_option maxRecDepth 100000 in
set_option maxHeartbeats 400000 in
theorem wcloneF_any (A : Option Addr) (n c : Nat) (l : List UInt8) (w : World) (hr : Rd w w.heap.size A (bvs l)) (hn : l.length = n) (hb1 : n ≤ 100000) :
    Calls Try.prog 61 #[.slice A n c] w (NewBF w l) := by
  obtain ⟨i0, hi, hz0, hz1, hz2⟩ := info_parts info_u8w
  cases A with
  | none =>
    have hl : l = [] := by
      cases l with
      | nil => rfl
      | cons a r => obtain ⟨_, _, e', _⟩ := hr 0 _ (bvs_get (a :: r) 0 (by simp)); cases e'
    subst hl
    have hnil := fun W => Lib.run_eql_slice_nil (P := Try.prog) W 29 5 none n c 0 0 Try.underlying29
    clear hn
    go_enter Try.func61, Try.ntmps61
    go_wp2
    go_ret
    exact ⟨.slice none 0 0, rfl, ⟨⟨none, 0, rfl, Nat.le_refl _, Rd.nil_ _ _ _⟩, FreshV.nil _⟩, Below.refl _ _⟩
  | some ad =>
    subst hn
    have hnil := fun W => Lib.run_eql_slice_nil (P := Try.prog) W 29 5 (some ad) l.length c 0 0 Try.underlying29
    have hnews : (bvs l).length = l.length * 1 := by rw [bvs_length, Nat.mul_one]
    have HNEWS := Lib.hid hnews
    clear hnews
    go_enter Try.func61, Try.ntmps61
    go_wp2_with ((with_reducible show wpList _ _ _ (({ dst := some 7, op := _, type := _, pos := _, after := _, guard := _ } : Oper) :: _) _ _); go_must (refine wpList_app rfl (.tmp 5) (.tmp 6) 29 rfl w.heap.size 5 i0 (.int .u8 0) 1 1 Try.underlying29 hi hz0 hz1 hz2 rfl (by decide) _ 0 [] rfl (World.ownsRow_made w #[] 0 (Nat.le_refl _) (Nat.zero_le _) rfl) w.heap.size (some ad) l.length c (bvs l) rfl (hr.alloc (Nat.le_refl _) _) HNEWS.out (bvs_one _) (by simp only [maxLen]; omega) (by omega) (by simp) ?_; intro v2 w2 hown2 hg2; rw [Nat.zero_add, List.nil_append] at hown2; have hb2 : Below w.heap.size w w2 := ((Below.refl _ _).alloc (Nat.le_refl _) _).grown hg2 (by simp) (own_block (World.ownsRow_made (e := 5) (size := 1) w #[] 0 (Nat.le_refl _) (Nat.zero_le _) rfl)); clear hg2))
    go_ret
    exact ⟨v2, rfl, ⟨IsBytes.of_own hown2, fresh_own hown2⟩, hb2⟩

def NewTake (w : World) (ws : List Nat) (l : List UInt8) (e : Ending) (w' : World) : Prop :=
  ∃ v1 v2, e = .returned (.tuple #[v1, v2]) ∧ IsCells (wvs ws) v1 w' ∧ IsBytes l v2 w' ∧ Below w.heap.size w w'

def NewTakeF (w : World) (ws : List Nat) (l : List UInt8) (e : Ending) (w' : World) : Prop :=
  ∃ v1 v2, e = .returned (.tuple #[v1, v2]) ∧ FreshC w.heap.size (wvs ws) v1 w' ∧ FreshB w.heap.size l v2 w' ∧ Below w.heap.size w w'
theorem NewTakeF.t {w : World} {ws : List Nat} {l : List UInt8} {e : Ending} {w' : World} (h : NewTakeF w ws l e w') : NewTake w ws l e w' := by
  obtain ⟨v1, v2, he, h1, h2, h3⟩ := h
  exact ⟨v1, v2, he, h1.1, h2.1, h3⟩

set_option maxHeartbeats 1000000 in
set_option maxRecDepth 100000 in
theorem wordTakeF_any (W : Nat) (hW : IsW W) (A : Option Addr) (n c : Nat) (l : List UInt8) (w : World) (hr : Rd w w.heap.size A (bvs l)) (hn : l.length = n) (hnc : n ≤ c) (hb1 : n ≤ 100000) :
    Calls Try.prog 59 #[.slice A n c, .int .i64 (W : Int)] w (NewTakeF w (wordsN (n / W) W l) (l.drop (n / W * W))) := by
  subst hn
  obtain ⟨m, hm⟩ : ∃ m, m = l.length / W := ⟨_, rfl⟩
  obtain ⟨q, hq⟩ : ∃ q, q = m * W := ⟨_, rfl⟩
  have hdm := Nat.div_add_mod l.length W
  rw [← hm, Nat.mul_comm, ← hq] at hdm
  have hW1 := hW.pos
  have hql : q ≤ l.length := by omega
  have hqc : q ≤ c := by omega
  have hend : (l.length : Int) - (l.length : Int) % (W : Int) = (q : Int) := by
    have : ((l.length : Int) % (W : Int)) = ((l.length % W : Nat) : Int) := by simp
    rw [this]; omega
  rw [← hm, ← hq]
  have hws := wordsN_take m W l
  rw [← hq] at hws
  obtain ⟨ws, hwse⟩ : ∃ ws, ws = wordsN m W l := ⟨_, rfl⟩
  rw [← hwse] at hws
  rw [← hwse]
  have hlq : (l.take q).length = q := by rw [List.length_take]; omega
  have c1 := wordRight_any (W : Int) true hW.right
  have c2 := fun (A : Option Addr) (c : Nat) (W' : World) (h : Rd W' W'.heap.size A (bvs (l.take q))) (hc : q ≤ c) => wordWordsF_any W hW A q c m (l.take q) W' h hlq hq hc (by omega)
  rw [hws] at c2
  have C1 := Lib.hid c1
  have C2 := Lib.hid c2
  have hWi : (1 : Int) ≤ (W : Int) := by omega
  clear c1 c2 hws hwse hlq hq hm hdm
  go_enter Try.func59, Try.ntmps59
  go_wp2_with (go_at_call 41; go_must (refine (C1.out _).mono ?_; rintro e w' ⟨rfl, rfl⟩))
  clear hend
  refine wp_region_grow [⟨17, [], .is (.slice A l.length c)⟩,
    ⟨18, [], .is (.int .i64 (q : Int))⟩,
    ⟨19, [0, 1], .is (.slice A q c)⟩,
    ⟨20, [], .is (.int .i64 (W : Int))⟩,
    ⟨21, [2, 3], .such (FreshC w.heap.size (wvs ws)) (FreshC.grow w.heap.size (wvs ws))⟩,
    ⟨22, [], .is (.slice A l.length c)⟩,
    ⟨23, [], .is (.int .i64 (q : Int))⟩,
    ⟨24, [5, 6], .bytes (l.drop q)⟩,
    ⟨25, [7], .such (FreshB w.heap.size (l.drop q)) (FreshB.grow w.heap.size (l.drop q))⟩,
    ⟨4, [4], .such (FreshC w.heap.size (wvs ws)) (FreshC.grow w.heap.size (wvs ws))⟩,
    ⟨5, [8], .such (FreshB w.heap.size (l.drop q)) (FreshB.grow w.heap.size (l.drop q))⟩]
    [(0, .slice A l.length c), (6, .int .i64 (q : Int)), (1, .int .i64 (W : Int))] (by kernel_rfl) (by kernel_rfl) (by kernel_rfl) (by kernel_rfl) (by kernel_rfl) ⟨rfl, rfl, rfl, trivial⟩ ?_ ?_
  · repeat' (first | exact OblGAll.nil | refine OblGAll.cons ?_ ?_)
    all_goals (intro ev yi W' hB _ hf ho hn; simp only [OutsSay, NeedSay, rowAt, Fact.says, and_true] at ho hn)
    all_goals (rw [if_pos (by simp [Region.wanted])])
    all_goals (try ((simp [OpSays, execOp, Fact.says, go_sem, ho, hn, hqc, Below.refl]; done)))
    · exact says_call Try.call60 (vs := #[.slice A q c, .int .i64 (W : Int)]) rfl hf (by simp [hn]) ((C2.out A c W' (by rw [← bvs_take]; exact ((hr.below hB).more hB.size).take q) hqc).mono fun _ _ h => by obtain ⟨v, he, h1, h2⟩ := h; exact ⟨v, he, ⟨h1.1, h1.2.low hB.size⟩, h2⟩)
    · refine says_from rfl Try.underlying29 size_u8w hn.1 hn.2.2.1 ((hr.below hB).more hB.size) (bvs_length l) hnc hql fun A' c' h1 h2 => ⟨⟨A', c', ?_, ?_, ?_⟩, Below.refl _ _⟩
      · rw [List.length_drop]
      · rw [List.length_drop]; exact h1
      · rw [← bvs_drop]; exact h2
    · obtain ⟨A', c', hv, h1, h2⟩ := hn.1
      rw [List.length_drop] at hv h1
      exact says_call Try.call61 (vs := #[.slice A' (l.length - q) c']) rfl hf (by simp [hv]) ((wcloneF_any A' (l.length - q) c' (l.drop q) W' h2 (List.length_drop) (by omega)).mono fun _ _ h => by obtain ⟨v, he, h1, h2⟩ := h; exact ⟨v, he, ⟨h1.1, h1.2.low hB.size⟩, h2⟩)
  · intro X w4 hb4 hx
    have h9 : FreshC w.heap.size (wvs ws) (X 9) w4 := hx 9 (by decide)
    have h10 : FreshB w.heap.size (l.drop q) (X 10) w4 := hx 10 (by decide)
    clear hx
    have H9 := Lib.hid h9
    have H10 := Lib.hid h10
    clear h9 h10
    simp only [layAll, List.setIfInBounds_toArray, List.set_cons_succ, List.set_cons_zero]
    go_wp2
    go_ret2
    exact ⟨_, _, rfl, H9.out, H10.out, hb4⟩
theorem wordTake_any (W : Nat) (hW : IsW W) (A : Option Addr) (n c : Nat) (l : List UInt8) (w : World) (hr : Rd w w.heap.size A (bvs l)) (hn : l.length = n) (hnc : n ≤ c) (hb1 : n ≤ 100000) :
    Calls Try.prog 59 #[.slice A n c, .int .i64 (W : Int)] w (NewTake w (wordsN (n / W) W l) (l.drop (n / W * W))) := (wordTakeF_any W hW A n c l w hr hn hnc hb1).mono fun _ _ h => h.t
end Go.Proofs.Ytjignfnkcbklkaa
namespace Go.Proofs.Ytjignfnkcbklkaa
open Go.RowKit

/-- What holds at the head of a round over the words: the words ahead are laid. -/
def LayRelW (w : World) (W : Nat) (ws : List Nat) (v i : Value) (wr : World) : Prop :=
  ∃ (k : Nat) (out : List UInt8), k ≤ ws.length ∧ i = .int .i64 k ∧ Hid (out = layW W (ws.take k)) ∧ out.length = k * W ∧ wr.ownsRow w.heap.size 5 1 v out.length (bvs out) ∧ Below w.heap.size w wr
/-- .. over a word's bytes. -/
def LayByte (w : World) (W x n0 : Nat) (out : List UInt8) (v t j : Value) (wr : World) : Prop :=
  ∃ (k : Nat) (o : List UInt8), k ≤ W ∧ j = .int .i64 k ∧ t = .int .u64 ((x / 256 ^ k : Nat) : Int) ∧ Hid (o = out ++ leB k x) ∧ o.length = n0 + k ∧ wr.ownsRow w.heap.size 5 1 v o.length (bvs o) ∧ Below w.heap.size w wr

set_option maxHeartbeats 1000000 in
set_option maxRecDepth 100000 in
theorem wordLay_any (W : Nat) (hW : IsW W) (A : Option Addr) (n c : Nat) (ws : List Nat) (A2 : Option Addr) (r c2 : Nat) (rest : List UInt8) (w : World) (hr : Rd w w.heap.size A (wvs ws)) (hn : ws.length = n) (hlt64 : ∀ x ∈ ws, x < 18446744073709551616) (hr2 : Rd w w.heap.size A2 (bvs rest)) (hrl : rest.length = r) (hb1 : n ≤ 100000) (hb2 : r ≤ 100000) :
    Calls Try.prog 43 #[.slice A n c, .int .i64 (W : Int), .slice A2 r c2] w (NewBs w (layW W ws ++ rest)) := by
  obtain ⟨j0, hj, hy0, hy1, hy2⟩ := info_parts info_u8w
  subst hn hrl
  have hW1 := hW.pos
  have c1 := wordRight_any (W : Int) true hW.right
  have C1 := Lib.hid c1
  have H64 := Lib.hid hlt64
  clear c1 hW hlt64
  go_enter Try.func43, Try.ntmps43
  have hprod : ws.length * W ≤ 800000 := by
    have : ws.length * W ≤ 100000 * 8 := Nat.mul_le_mul hb1 hW1.2
    omega
  obtain ⟨S, hS⟩ : ∃ S, S = ws.length * W := ⟨_, rfl⟩
  rw [← hS] at hprod
  have hSi : (ws.length : Int) * (W : Int) = (S : Int) := by rw [hS]; simp
  have HS := Lib.hid hS
  clear hS
  go_wp2_with (first
    | (go_at_call 41; go_must (refine (C1.out _).mono ?_; rintro e w' ⟨rfl, rfl⟩))
    | (at_make; go_must (refine wpList_mk rfl (.const (.int .i64 0)) (.tmp 19) 29 rfl w.heap.size 5 j0 (.int .u8 0) 1 Try.underlying29 hj hy0 rfl hy1 hy2 .i64 .i64 0 _ rfl rfl 0 (S + rest.length) rfl (by omega) (by omega) (by omega) (by simp only [maxLen]; omega) (Nat.le_refl _) ?_; intro w0 hg0 hown0 hgr0; have hb0 : Below w.heap.size w w0 := (Below.refl _ _).grown hgr0 (Nat.le_refl _) (by simp); clear hg0 hgr0)))
  clear hSi
  go_loopw [7, 23] (LayRelW w W ws) (fun _ i _ => ws.length - (intOf i).toNat)
  case atStart => exact ⟨0, [], Nat.zero_le _, rfl, rfl, by simp, by simpa [bvs] using hown0, hb0⟩
  case round =>
    obtain ⟨k, out, hk, rfl, HO, hol, hown, hb⟩ := hrel
    have hbs := hb.size
    have hkW : k * W ≤ 800000 := by
      have : k * W ≤ 100000 * 8 := Nat.mul_le_mul (by omega) hW1.2
      omega
    by_cases hlt : k < ws.length
    · obtain ⟨ab, ao, rfl, hab, hcell0⟩ := hr k _ (wvs_get ws k hlt)
      have hcell := (hb.cell (p := ⟨ab, ao + k, none⟩) hab).trans hcell0
      obtain ⟨x, hx⟩ : ∃ x, x = ws[k] := ⟨_, rfl⟩
      have hx64 : x < 18446744073709551616 := by rw [hx]; exact H64.out _ (List.getElem_mem _)
      rw [← hx] at hcell
      have hnext : Hid (layW W (ws.take (k + 1)) = out ++ leB W x) := by rw [layW_snoc W ws k hlt, HO.out, hx]; exact rfl
      have hd : decide ((k : Int) < (ws.length : Int)) = true := by rw [decide_eq_true_eq]; omega
      clear hx hcell0
      go_wp2
      go_loopw [7, 9, 28] (LayByte w W x (k * W) out) (fun _ _ i _ => W - (intOf i).toNat)
      case atStart => exact ⟨0, out, Nat.zero_le _, rfl, by simp, by simp [leB, Hid], by omega, hown, hb⟩
      case round =>
        clear hown hb hcell
        obtain ⟨j, o, hjW, rfl, rfl, Ho, hoL, hown, hb⟩ := hrel
        have hbs := hb.size
        by_cases hjl : j < W
        · obtain ⟨y, hy⟩ : ∃ y, y = x / 256 ^ j := ⟨_, rfl⟩
          have hy64 : y < 18446744073709551616 := by rw [hy]; exact Nat.lt_of_le_of_lt (Nat.div_le_self _ _) hx64
          have hyn : Hid (x / 256 ^ (j + 1) = y / 256) := by rw [hy, Nat.div_div_eq_div_mul, Nat.pow_succ]; exact rfl
          have hsn : Hid (out ++ leB (j + 1) x = o ++ [UInt8.ofNat (y % 256)]) := by rw [leB_snoc, Ho.out, ← hy, List.append_assoc]; exact rfl
          rw [← hy]
          clear hy Ho
          go_wp2_with ((with_reducible show wpList _ _ _ (({ dst := some 34, op := _, type := _, pos := _, after := _, guard := _ } : Oper) :: _) _ _); go_must (refine wpList_app rfl (.tmp 30) (.tmp 33) 29 rfl w.heap.size 5 j0 (.int .u8 0) 1 1 Try.underlying29 hj hy0 hy1 hy2 rfl (by decide) _ _ _ rfl (hown.alloc _) _ _ 1 1 _ rfl (Rd.new _ _ _) rfl (by intro u hu; simp at hu; subst hu; rfl) (by simp only [maxLen]; omega) (by omega) (by simp; omega) ?_; intro v1 w1 hown1 hg1; have hb1 : Below w.heap.size w w1 := (hb.alloc hbs _).grown hg1 (by simp; omega) (own_block hown); clear hg1 hown hb))
          have hown2 : w1.ownsRow w.heap.size 5 1 v1 (o ++ [UInt8.ofNat (y % 256)]).length (bvs (o ++ [UInt8.ofNat (y % 256)])) := by
            rw [bvs_push, List.length_append]; exact hown1
          clear hown1
          go_roundw
          case rel => exact ⟨j + 1, o ++ [UInt8.ofNat (y % 256)], by omega, by go_num, by rw [hyn.out]; go_num, hsn.out.symm, by rw [List.length_append]; simp only [List.length_cons, List.length_nil]; omega, hown2, hb1⟩
          case measure => simp [intOf]; omega
        · obtain rfl : j = W := by omega
          go_wp2
          go_roundw
          case rel => exact ⟨k + 1, o, by omega, by go_num, by rw [Ho.out, ← hnext.out]; exact rfl, by rw [hoL, Nat.add_mul, Nat.one_mul], hown, hb⟩
          case measure => simp [intOf]; omega
    · obtain rfl : k = ws.length := by omega
      rw [List.take_length] at HO
      have hnews : (bvs rest).length = rest.length * 1 := by rw [bvs_length, Nat.mul_one]
      have HNEWS := Lib.hid hnews
      clear hnews
      go_wp2_with ((with_reducible show wpList _ _ _ (({ dst := some 41, op := _, type := _, pos := _, after := _, guard := _ } : Oper) :: _) _ _); go_must (refine wpList_app rfl (.tmp 39) (.tmp 40) 29 rfl w.heap.size 5 j0 (.int .u8 0) 1 1 Try.underlying29 hj hy0 hy1 hy2 rfl (by decide) _ _ _ rfl hown w.heap.size A2 rest.length c2 (bvs rest) rfl (hr2.below hb) HNEWS.out (bvs_one _) (by simp only [maxLen]; omega) (by omega) hbs ?_; intro v1 w1 hown1 hg1; have hb1 : Below w.heap.size w w1 := hb.grown hg1 hbs (own_block hown); clear hg1 hown hb))
      go_ret
      refine ⟨v1, rfl, ?_, hb1⟩
      rw [← HO.out]
      apply IsBytes.of_own (base := w.heap.size) (e := 5)
      rw [List.length_append, bvs_append]
      exact hown1
end Go.Proofs.Ytjignfnkcbklkaa
