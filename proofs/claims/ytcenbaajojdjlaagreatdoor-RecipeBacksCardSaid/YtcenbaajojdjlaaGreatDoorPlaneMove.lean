/- Contracts of layer 8: moved, Split, Join. -/
import Derived.Test.YtcenbaajojdjlaaGreatDoorPlanePlace
import Derived.Deep.DeepMust
namespace Go.Proofs.YtcenbaajojdjlaaGreatDoor
open Go.RowKit

theorem info_u8p : (Tryz.prog.info? 5).map (fun i => (i.zero, i.size, i.bytes)) = some (some (.int .u8 0), 1, 1) := by kernel_rfl
theorem bvs_fill (f : Nat → Nat) (l : List UInt8) (k : Nat) : (bvs (fillL f l k)).set k (.int .u8 ((l.getD (f k) 0).toNat : Int)) = bvs (fillL f l (k + 1)) := by
  rw [← fillL_set]
  simp [bvs, List.map_set]
theorem bvs_fill_get (f : Nat → Nat) (l : List UInt8) (k : Nat) (h : k < l.length) : (bvs (fillL f l k))[k]? = some (.int .u8 0) := by
  simp [bvs, fillL, h]
/-- What holds at the head of a round of moved. -/
def MovedRel (w : World) (n W s r : Nat) (f : Nat → Nat) (l : List UInt8) (i : Value) (wr : World) : Prop :=
  ∃ k : Nat, k ≤ l.length ∧ i = .int .i64 k ∧ Blk wr s 74 [.int .i64 (n : Int), .int .i64 (W : Int)] ∧ Blk wr r 5 (bvs (fillL f l k)) ∧ Below w.heap.size w wr

theorem moved_wrong (a : Value) (b : Value) (W : Int) (w : World) (hW : rightB W = false) :
    Calls Tryz.prog 65 #[a, .int .i64 W, b] w (NewBs w []) := by
  have C1 := Lib.hid (wordRight_any W false hW.symm)
  clear hW
  go_enter Tryz.func65, Tryz.ntmps65
  go_wp2_with (go_at_call 22; go_must (refine (C1.out _).mono ?_; rintro e w' ⟨rfl, rfl⟩))
  go_ret
  exact ⟨.slice none 0 0, rfl, ⟨none, 0, rfl, Nat.le_refl _, Rd.nil_ _ _ _⟩, Below.refl _ _⟩
set_option maxHeartbeats 1000000 in
set_option maxRecDepth 100000 in
theorem movedFrom_right (W : Nat) (hW : IsW W) (A : Option Addr) (n c : Nat) (l : List UInt8) (w : World) (hr : Rd w w.heap.size A (bvs l)) (hn : l.length = n) (hb1 : n ≤ 1000000000000) :
    Calls Tryz.prog 65 #[.slice A n c, .int .i64 (W : Int), .func (.func 66) #[] #[]] w (NewBs w (splitL W l)) := by
  obtain ⟨i0, hi, hz0, hz1, hz2⟩ := info_parts info_u8p
  subst hn
  have C1 := Lib.hid (wordRight_any (W : Int) true hW.right)
  have C2 := Lib.hid (fun (i : Nat) (hi : i < l.length) => from_any l.length W i hW (by omega) hi)
  have HP := Lib.hid hW.pos
  clear hW
  go_enter Tryz.func65, Tryz.ntmps65
  go_wp2_with (first
    | (go_at_call 22; go_must (refine (C1.out _).mono ?_; rintro e w' ⟨rfl, rfl⟩))
    | (at_make; go_must (refine wpList_mk rfl (.tmp 18) (.tmp 18) 22 rfl w.heap.size 5 i0 (.int .u8 0) 1 Tryz.underlying22 hi hz0 rfl hz1 hz2 .i64 .i64 _ _ rfl rfl l.length l.length rfl rfl (Nat.le_refl _) (by omega) (by simp only [maxLen]; omega) (by simp) ?_; intro w1 hg1 hown1 hgr1)))
  have hbx : Blk (w.alloc (.cells #[.int .i64 (l.length : Int), .int .i64 (W : Int)] 74)) w.heap.size 74 [.int .i64 (l.length : Int), .int .i64 (W : Int)] := heap_alloc_new w _
  have hbb := (Below.refl w.heap.size w).alloc (Nat.le_refl _) (.cells #[.int .i64 (l.length : Int), .int .i64 (W : Int)] 74)
  have hb1' : Below (w.alloc (.cells #[.int .i64 (l.length : Int), .int .i64 (W : Int)] 74)).heap.size (w.alloc (.cells #[.int .i64 (l.length : Int), .int .i64 (W : Int)] 74)) w1 := (Below.refl _ _).grown hgr1 (Nat.le_refl _) (by simp)
  have hs1 := hbx.grow hb1'
  have hw1 := hbb.trans (hb1'.mono hbb.size)
  have hrow : Blk w1 (w.heap.size + 1) 5 (bvs (fillL (fromI l.length W) l 0)) := by
    rw [World.size_alloc] at hg1
    unfold Blk
    rw [hg1, fillL_none]
    simp [bvs]
  clear hg1 hown1 hgr1 hbx hbb hb1'
  go_loopw [22] (MovedRel w l.length W w.heap.size (w.heap.size + 1) (fromI l.length W) l) (fun i _ => l.length - (intOf i).toNat)
  case atStart => exact ⟨0, Nat.zero_le _, rfl, hs1, hrow, hw1⟩
  case round =>
    obtain ⟨k, hk, rfl, hs, hrw, hb⟩ := hrel
    clear hs1 hrow hw1
    by_cases hlt : k < l.length
    · have hJl := fromI_lt (W := W) hlt
      have c2 := C2.out k hlt
      have hset := bvs_fill (fromI l.length W) l k
      have hget := bvs_fill_get (fromI l.length W) l k hlt
      obtain ⟨J, hJ⟩ : ∃ J, J = fromI l.length W k := ⟨_, rfl⟩
      rw [← hJ] at hJl c2 hset
      have hd : l.getD J 0 = l[J] := by simp [List.getD_eq_getElem?_getD, hJl]
      rw [hd] at hset
      obtain ⟨ab, ao, rfl, hab, hcell0⟩ := hr J _ (bvs_get l J hJl)
      have hk1 : (k : Int) < (l.length : Int) := by omega
      have hJ1 : (J : Int) < (l.length : Int) := by omega
      have hc0 := hs.cell 0
      have hc1 := hs.cell 1
      have C3 := Lib.hid c2
      have HSET := Lib.hid hset
      have HGET := Lib.hid hget
      have HRW := Lib.hid hrw
      have HB := Lib.hid hb
      have HS := Lib.hid hs
      clear c2 hset hget hJ hd hrw hb hs
      go_wp2_with fail
      refine (C3.out _).mono ?_
      rintro e w2 ⟨rfl, hb2⟩
      have hcell := ((HB.out.trans (hb2.mono HB.out.size)).cell (p := ⟨ab, ao + J, none⟩) hab).trans hcell0
      have hrw2 := HRW.out.grow hb2
      have hs2 := HS.out.grow hb2
      have hbw := HB.out.trans (hb2.mono HB.out.size)
      have hcr := (hrw2.cell k).trans HGET.out
      have hfr := hrw2.frozen k
      obtain ⟨b, hbv⟩ : ∃ b, b = l[J] := ⟨_, rfl⟩
      have hset2 := hrw2.set_ k (.int .u8 (b.toNat : Int))
      rw [hbv, HSET.out, ← hbv] at hset2
      rw [← hbv] at hcell
      have hs3 := hs2.setOther ⟨w.heap.size + 1, k, none⟩ (.int .u8 (b.toNat : Int)) (by simp)
      have hb3 := hbw.setCell (p := ⟨w.heap.size + 1, k, none⟩) (by simp) (.int .u8 (b.toNat : Int))
      have HE := Lib.hid (And.intro hset2 (And.intro hs3 hb3))
      clear hrw2 hs2 hbw hset2 hs3 hb3 hbv hb2 hc0 hc1 hcell0 C3 HSET HGET HRW HB HS
      go_wp2
      go_roundw
      case rel => exact ⟨k + 1, by omega, by go_num, HE.out.2.1, HE.out.1, HE.out.2.2⟩
      case measure => simp [intOf]; omega
    · obtain rfl : k = l.length := by omega
      rw [fillL_all] at hrw
      have hrd := Rd.of_blk hrw
      have HRD := Lib.hid hrd
      clear hrw hrd hs
      go_wp2
      go_ret
      exact ⟨.slice (some ⟨w.heap.size + 1, 0, none⟩) l.length l.length, rfl, ⟨_, l.length, by rw [splitL_len], by rw [splitL_len]; exact Nat.le_refl _, HRD.out⟩, hb⟩
set_option maxHeartbeats 1000000 in
set_option maxRecDepth 100000 in
theorem movedTo_right (W : Nat) (hW : IsW W) (A : Option Addr) (n c : Nat) (l : List UInt8) (w : World) (hr : Rd w w.heap.size A (bvs l)) (hn : l.length = n) (hb1 : n ≤ 1000000000000) :
    Calls Tryz.prog 65 #[.slice A n c, .int .i64 (W : Int), .func (.func 67) #[] #[]] w (NewBs w (joinL W l)) := by
  obtain ⟨i0, hi, hz0, hz1, hz2⟩ := info_parts info_u8p
  subst hn
  have C1 := Lib.hid (wordRight_any (W : Int) true hW.right)
  have C2 := Lib.hid (fun (i : Nat) (hi : i < l.length) => to_any l.length W i hW (by omega) hi)
  have HP := Lib.hid hW.pos
  clear hW
  go_enter Tryz.func65, Tryz.ntmps65
  go_wp2_with (first
    | (go_at_call 22; go_must (refine (C1.out _).mono ?_; rintro e w' ⟨rfl, rfl⟩))
    | (at_make; go_must (refine wpList_mk rfl (.tmp 18) (.tmp 18) 22 rfl w.heap.size 5 i0 (.int .u8 0) 1 Tryz.underlying22 hi hz0 rfl hz1 hz2 .i64 .i64 _ _ rfl rfl l.length l.length rfl rfl (Nat.le_refl _) (by omega) (by simp only [maxLen]; omega) (by simp) ?_; intro w1 hg1 hown1 hgr1)))
  have hbx : Blk (w.alloc (.cells #[.int .i64 (l.length : Int), .int .i64 (W : Int)] 74)) w.heap.size 74 [.int .i64 (l.length : Int), .int .i64 (W : Int)] := heap_alloc_new w _
  have hbb := (Below.refl w.heap.size w).alloc (Nat.le_refl _) (.cells #[.int .i64 (l.length : Int), .int .i64 (W : Int)] 74)
  have hb1' : Below (w.alloc (.cells #[.int .i64 (l.length : Int), .int .i64 (W : Int)] 74)).heap.size (w.alloc (.cells #[.int .i64 (l.length : Int), .int .i64 (W : Int)] 74)) w1 := (Below.refl _ _).grown hgr1 (Nat.le_refl _) (by simp)
  have hs1 := hbx.grow hb1'
  have hw1 := hbb.trans (hb1'.mono hbb.size)
  have hrow : Blk w1 (w.heap.size + 1) 5 (bvs (fillL (toI l.length W) l 0)) := by
    rw [World.size_alloc] at hg1
    unfold Blk
    rw [hg1, fillL_none]
    simp [bvs]
  clear hg1 hown1 hgr1 hbx hbb hb1'
  go_loopw [22] (MovedRel w l.length W w.heap.size (w.heap.size + 1) (toI l.length W) l) (fun i _ => l.length - (intOf i).toNat)
  case atStart => exact ⟨0, Nat.zero_le _, rfl, hs1, hrow, hw1⟩
  case round =>
    obtain ⟨k, hk, rfl, hs, hrw, hb⟩ := hrel
    clear hs1 hrow hw1
    by_cases hlt : k < l.length
    · have hJl := toI_lt HP.out.1 hlt
      have c2 := C2.out k hlt
      have hset := bvs_fill (toI l.length W) l k
      have hget := bvs_fill_get (toI l.length W) l k hlt
      obtain ⟨J, hJ⟩ : ∃ J, J = toI l.length W k := ⟨_, rfl⟩
      rw [← hJ] at hJl c2 hset
      have hd : l.getD J 0 = l[J] := by simp [List.getD_eq_getElem?_getD, hJl]
      rw [hd] at hset
      obtain ⟨ab, ao, rfl, hab, hcell0⟩ := hr J _ (bvs_get l J hJl)
      have hk1 : (k : Int) < (l.length : Int) := by omega
      have hJ1 : (J : Int) < (l.length : Int) := by omega
      have hc0 := hs.cell 0
      have hc1 := hs.cell 1
      have C3 := Lib.hid c2
      have HSET := Lib.hid hset
      have HGET := Lib.hid hget
      have HRW := Lib.hid hrw
      have HB := Lib.hid hb
      have HS := Lib.hid hs
      clear c2 hset hget hJ hd hrw hb hs
      go_wp2_with fail
      refine (C3.out _).mono ?_
      rintro e w2 ⟨rfl, hb2⟩
      have hcell := ((HB.out.trans (hb2.mono HB.out.size)).cell (p := ⟨ab, ao + J, none⟩) hab).trans hcell0
      have hrw2 := HRW.out.grow hb2
      have hs2 := HS.out.grow hb2
      have hbw := HB.out.trans (hb2.mono HB.out.size)
      have hcr := (hrw2.cell k).trans HGET.out
      have hfr := hrw2.frozen k
      obtain ⟨b, hbv⟩ : ∃ b, b = l[J] := ⟨_, rfl⟩
      have hset2 := hrw2.set_ k (.int .u8 (b.toNat : Int))
      rw [hbv, HSET.out, ← hbv] at hset2
      rw [← hbv] at hcell
      have hs3 := hs2.setOther ⟨w.heap.size + 1, k, none⟩ (.int .u8 (b.toNat : Int)) (by simp)
      have hb3 := hbw.setCell (p := ⟨w.heap.size + 1, k, none⟩) (by simp) (.int .u8 (b.toNat : Int))
      have HE := Lib.hid (And.intro hset2 (And.intro hs3 hb3))
      clear hrw2 hs2 hbw hset2 hs3 hb3 hbv hb2 hc0 hc1 hcell0 C3 HSET HGET HRW HB HS
      go_wp2
      go_roundw
      case rel => exact ⟨k + 1, by omega, by go_num, HE.out.2.1, HE.out.1, HE.out.2.2⟩
      case measure => simp [intOf]; omega
    · obtain rfl : k = l.length := by omega
      rw [fillL_all] at hrw
      have hrd := Rd.of_blk hrw
      have HRD := Lib.hid hrd
      clear hrw hrd hs
      go_wp2
      go_ret
      exact ⟨.slice (some ⟨w.heap.size + 1, 0, none⟩) l.length l.length, rfl, ⟨_, l.length, by rw [joinL_len], by rw [joinL_len]; exact Nat.le_refl _, HRD.out⟩, hb⟩
/-- Of a width that may be none. -/
def ofB (f : Nat → List UInt8 → List UInt8) (W : Int) (l : List UInt8) : List UInt8 := if rightB W then f W.toNat l else []
theorem ofB_of {W : Nat} (hW : IsW W) (f : Nat → List UInt8 → List UInt8) (l : List UInt8) : ofB f (W : Int) l = f W l := by
  unfold ofB
  rw [← hW.right, if_pos rfl]
  rfl
theorem planeSplit_any (W : Int) (A : Option Addr) (n c : Nat) (l : List UInt8) (w : World) (hr : Rd w w.heap.size A (bvs l)) (hn : l.length = n) (hb1 : n ≤ 1000000000000) :
    Calls Tryz.prog 33 #[.slice A n c, .int .i64 W] w (NewBs w (ofB splitL W l)) := by
  cases hR : rightB W with
  | true =>
    obtain ⟨V, rfl, hV⟩ := isW_of hR
    rw [ofB_of hV]
    have C1 := Lib.hid (movedFrom_right V hV A n c l w hr hn hb1)
    go_enter Tryz.func33, Tryz.ntmps33
    go_wp2_with fail
    refine C1.out.mono ?_
    rintro e w1 ⟨v, rfl, hv, hb⟩
    go_wp2
    go_ret
    exact ⟨v, rfl, hv, hb⟩
  | false =>
    unfold ofB
    rw [hR, if_neg (by decide)]
    have C1 := Lib.hid (fun a b w => moved_wrong a b W w hR)
    go_enter Tryz.func33, Tryz.ntmps33
    go_wp2_with fail
    refine (C1.out _ _ _).mono ?_
    rintro e w1 ⟨v, rfl, hv, hb⟩
    go_wp2
    go_ret
    exact ⟨v, rfl, hv, hb⟩
theorem planeJoin_any (W : Int) (A : Option Addr) (n c : Nat) (l : List UInt8) (w : World) (hr : Rd w w.heap.size A (bvs l)) (hn : l.length = n) (hb1 : n ≤ 1000000000000) :
    Calls Tryz.prog 34 #[.slice A n c, .int .i64 W] w (NewBs w (ofB joinL W l)) := by
  cases hR : rightB W with
  | true =>
    obtain ⟨V, rfl, hV⟩ := isW_of hR
    rw [ofB_of hV]
    have C1 := Lib.hid (movedTo_right V hV A n c l w hr hn hb1)
    go_enter Tryz.func34, Tryz.ntmps34
    go_wp2_with fail
    refine C1.out.mono ?_
    rintro e w1 ⟨v, rfl, hv, hb⟩
    go_wp2
    go_ret
    exact ⟨v, rfl, hv, hb⟩
  | false =>
    unfold ofB
    rw [hR, if_neg (by decide)]
    have C1 := Lib.hid (fun a b w => moved_wrong a b W w hR)
    go_enter Tryz.func34, Tryz.ntmps34
    go_wp2_with fail
    refine (C1.out _ _ _).mono ?_
    rintro e w1 ⟨v, rfl, hv, hb⟩
    go_wp2
    go_ret
    exact ⟨v, rfl, hv, hb⟩
end Go.Proofs.YtcenbaajojdjlaaGreatDoor
