/- Layer 30: the program: numbers as they are. -/
import Derived.Test.YtcjjlkfenlmmlaaBlkNum
namespace Go.Proofs.Ytcjjlkfenlmmlaa
open Go.RowKit Go.Sort

set_option maxHeartbeats 4000000 in
set_option maxRecDepth 100000 in
theorem numAs_err {W : World} {T b : Nat} {mo ra mi co su fr pl wd rc md : Int} (hT : Blk W T 24 [.int .i64 mo, .int .i64 ra, .int .i64 mi, .int .i64 co, .int .u32 su, .int .i64 fr, .int .i64 pl]) (hb : b ≤ 16777216)
    (hx : ∀ k, -9223372036854775808 ≤ xvB ra mi co k ∧ xvB ra mi co k ≤ 9223372036854775807) (hn : ¬ (1 ≤ ra ∧ ra ≤ (b : Int))) :
    Calls Try.prog 20 #[.pointer (some ⟨T, 0, none⟩), .agg #[.int .i64 (b : Int), .int .i64 wd, .int .i64 rc, .int .i64 md], .func (.func 21) #[] #[]] W fun e w' => e = .returned (.int .i64 15) ∧ Below W.heap.size W w' := by
  have hTl := hT.lt
  have C1 := Lib.hid (fun (w' : World) (N : Nat) (hN : Blk w' N 63 (nvs T [(1, 1, b)])) (hb' : Below W.heap.size W w') =>
    show Calls Try.prog 21 #[.slice (some ⟨N, 0, none⟩) 1 1] w' fun e w'' => e = .returned (.int .i64 15) ∧ Below w'.heap.size w' w'' from
    (blkAs_any hN (xv := xvB ra mi co) (by intro q hq; simp at hq; subst hq; exact (hT.grow hb').cell 1) (Nat.lt_of_lt_of_le hTl hb'.size) hx (by intro q hq; simp at hq; subst hq; simp; omega) (by simp)).mono fun e w'' ⟨h1, h2⟩ => ⟨by rw [h1, if_neg (by simp [asE, xvB]; omega)]; rfl, h2⟩)
  have HBX := Lib.hid ((Below.refl W.heap.size W).alloc (Nat.le_refl _) (.cells #[.int .i64 (b : Int), .int .i64 wd, .int .i64 rc, .int .i64 md] 26))
  clear hT hx hn
  go_enter Try.func20, Try.ntmps20
  go_wp2_with fail
  go_region_with (go_at_call 21; refine (C1.out _ _ (blk_new1 W _ _ _) (HBX.out.alloc HBX.out.size _).drew).mono ?_; rintro _ w2 ⟨rfl, hb2⟩; have HB2 := Lib.hid ((HBX.out.alloc HBX.out.size (.cells #[.pointer (some ⟨T, 1, none⟩), .int .i64 1, .int .i64 (b : Int)] 63)).drew.trans (hb2.mono (by simp; omega))); clear hb2)
  go_wp2
  go_ret
  exact ⟨rfl, HB2.out⟩
set_option maxHeartbeats 4000000 in
set_option maxRecDepth 100000 in
theorem numAs_stored {W : World} {T b ra : Nat} {mi co su fr pl wd rc md : Int} (hT : Blk W T 24 [.int .i64 0, .int .i64 (ra : Int), .int .i64 mi, .int .i64 co, .int .u32 su, .int .i64 fr, .int .i64 pl]) (hb : b ≤ 16777216)
    (hx : ∀ k, -9223372036854775808 ≤ xvB ra mi co k ∧ xvB ra mi co k ≤ 9223372036854775807) (h1 : 1 ≤ ra) (hn : ra ≤ b) :
    Calls Try.prog 20 #[.pointer (some ⟨T, 0, none⟩), .agg #[.int .i64 (b : Int), .int .i64 wd, .int .i64 rc, .int .i64 md], .func (.func 21) #[] #[]] W fun e w' => e = .returned (.int .i64 0) ∧ Blk w' T 24 [.int .i64 0, .int .i64 (ra : Int), .int .i64 0, .int .i64 (ra : Int), .int .u32 su, .int .i64 fr, .int .i64 pl] ∧ OnlyS [T] W w' := by
  have hTl := hT.lt
  have C1 := Lib.hid (fun (w' : World) (N : Nat) (hN : Blk w' N 63 (nvs T [(1, 1, b)])) (hb' : Below W.heap.size W w') =>
    show Calls Try.prog 21 #[.slice (some ⟨N, 0, none⟩) 1 1] w' fun e w'' => e = .returned (.int .i64 0) ∧ Below w'.heap.size w' w'' from
    (blkAs_any hN (xv := xvB ra mi co) (by intro q hq; simp at hq; subst hq; exact (hT.grow hb').cell 1) (Nat.lt_of_lt_of_le hTl hb'.size) hx (by intro q hq; simp at hq; subst hq; simp; omega) (by simp)).mono fun e w'' ⟨h1, h2⟩ => ⟨by rw [h1, if_pos (by simp [asE, xvB]; omega)]; rfl, h2⟩)
  have HBX := Lib.hid ((Below.refl W.heap.size W).alloc (Nat.le_refl _) (.cells #[.int .i64 (b : Int), .int .i64 wd, .int .i64 rc, .int .i64 md] 26))
  have HT := Lib.hid hT
  clear hT hx
  go_enter Try.func20, Try.ntmps20
  go_wp2_with fail
  go_region_with (go_at_call 21; refine (C1.out _ _ (blk_new1 W _ _ _) (HBX.out.alloc HBX.out.size _).drew).mono ?_; rintro _ w2 ⟨rfl, hb2⟩; have HB2 := Lib.hid ((HBX.out.alloc HBX.out.size (.cells #[.pointer (some ⟨T, 1, none⟩), .int .i64 1, .int .i64 (b : Int)] 63)).drew.trans (hb2.mono (by simp; omega))); clear hb2)
  have HT2 := Lib.hid (HT.out.grow HB2.out)
  have q0 := HT2.out.cell 0
  have q1 := HT2.out.cell 1
  have q2 := HT2.out.cell 2
  have q3 := HT2.out.cell 3
  have f2 := HT2.out.frozen 2
  have f3 := HT2.out.frozen 3
  simp only [List.getElem?_cons_zero, List.getElem?_cons_succ] at q0 q1 q2 q3
  go_wp2
  go_ret
  exact ⟨rfl, (HT2.out.set_ 2 _).set_ 3 _, ((OnlyS.of_below HB2.out).set_ (p := ⟨T, 2, none⟩) (by simp) _).set_ (p := ⟨T, 3, none⟩) (by simp) _⟩
set_option maxHeartbeats 4000000 in
set_option maxRecDepth 100000 in
theorem numAs_coded {W : World} {T b ra : Nat} {mo mi co su fr pl wd rc md : Int} (hT : Blk W T 24 [.int .i64 mo, .int .i64 (ra : Int), .int .i64 mi, .int .i64 co, .int .u32 su, .int .i64 fr, .int .i64 pl]) (hb : b ≤ 16777216)
    (hx : ∀ k, -9223372036854775808 ≤ xvB ra mi co k ∧ xvB ra mi co k ≤ 9223372036854775807) (h1 : 1 ≤ ra) (hn : ra ≤ b) (hmo : mo ≠ 0) (R : Nat) (hR : R = if (0 ≤ mi ∧ mi ≤ 3 * (ra : Int) + 64) ∧ (0 ≤ co ∧ co < (ra : Int)) then 0 else 15) :
    Calls Try.prog 20 #[.pointer (some ⟨T, 0, none⟩), .agg #[.int .i64 (b : Int), .int .i64 wd, .int .i64 rc, .int .i64 md], .func (.func 21) #[] #[]] W fun e w' => e = .returned (.int .i64 (R : Int)) ∧ Below W.heap.size W w' := by
  have hTl := hT.lt
  have C1 := Lib.hid (fun (w' : World) (N : Nat) (hN : Blk w' N 63 (nvs T [(1, 1, b)])) (hb' : Below W.heap.size W w') =>
    show Calls Try.prog 21 #[.slice (some ⟨N, 0, none⟩) 1 1] w' fun e w'' => e = .returned (.int .i64 0) ∧ Below w'.heap.size w' w'' from
    (blkAs_any hN (xv := xvB ra mi co) (by intro q hq; simp at hq; subst hq; exact (hT.grow hb').cell 1) (Nat.lt_of_lt_of_le hTl hb'.size) hx (by intro q hq; simp at hq; subst hq; simp; omega) (by simp)).mono fun e w'' ⟨h1, h2⟩ => ⟨by rw [h1, if_pos (by simp [asE, xvB]; omega)]; rfl, h2⟩)
  have C2 := Lib.hid (fun (w' : World) (N : Nat) (hN : Blk w' N 63 [.pointer (some ⟨T, 2, none⟩), .int .i64 0, .int .i64 (3 * (ra : Int) + 64), .pointer (some ⟨T, 3, none⟩), .int .i64 0, .int .i64 ((ra : Int) - 1)]) (hb' : Below W.heap.size W w') =>
    show Calls Try.prog 21 #[.slice (some ⟨N, 0, none⟩) 2 2] w' fun e w'' => e = .returned (.int .i64 (R : Int)) ∧ Below w'.heap.size w' w'' from
    (blkAs_any (L := [(2, 0, 3 * ra + 64), (3, 0, ra - 1)]) (by rw [nvs_two T ra h1]; exact hN) (xv := xvB ra mi co) (by intro q hq; simp at hq; rcases hq with rfl | rfl; exact (hT.grow hb').cell 2; exact (hT.grow hb').cell 3) (Nat.lt_of_lt_of_le hTl hb'.size) hx (by intro q hq; simp at hq; rcases hq with rfl | rfl <;> (simp; omega)) (by simp)).mono fun e w'' ⟨h3, h4⟩ => ⟨by
      rw [h3, hR]
      by_cases hc : (0 ≤ mi ∧ mi ≤ 3 * (ra : Int) + 64) ∧ (0 ≤ co ∧ co < (ra : Int))
      · rw [if_pos hc, if_pos (by simp [asE, xvB]; omega)]
      · rw [if_neg hc, if_neg (by simp [asE, xvB]; omega)], h4⟩)
  have CM := Lib.hid (fun (w' : World) => recMost_any (ra : Int) w')
  rw [show mostR (ra : Int) = 3 * (ra : Int) + 64 by unfold mostR sizedB; rw [if_pos (by simp; omega)]] at CM
  have HBX := Lib.hid ((Below.refl W.heap.size W).alloc (Nat.le_refl _) (.cells #[.int .i64 (b : Int), .int .i64 wd, .int .i64 rc, .int .i64 md] 26))
  have HT := Lib.hid hT
  clear hT hx hR
  go_enter Try.func20, Try.ntmps20
  go_wp2_with fail
  go_region_with (go_at_call 21; refine (C1.out _ _ (blk_new1 W _ _ _) (HBX.out.alloc HBX.out.size _).drew).mono ?_; rintro _ w2 ⟨rfl, hb2⟩; have HB2 := Lib.hid ((HBX.out.alloc HBX.out.size (.cells #[.pointer (some ⟨T, 1, none⟩), .int .i64 1, .int .i64 (b : Int)] 63)).drew.trans (hb2.mono (by simp; omega))); clear hb2)
  have HT2 := Lib.hid (HT.out.grow HB2.out)
  have q0 := HT2.out.cell 0
  have q1 := HT2.out.cell 1
  have q2 := HT2.out.cell 2
  have q3 := HT2.out.cell 3
  simp only [List.getElem?_cons_zero, List.getElem?_cons_succ] at q0 q1 q2 q3
  clear C1
  have hw1 : IntKind.i64.wrap ((ra : Int) - 1) = (ra : Int) - 1 := by rw [IntKind.wrap_i64]; omega
  go_wp2_with fail
  go_region_with (first | (go_at_call 31; refine (CM.out _).mono ?_; rintro _ _ ⟨rfl, rfl⟩) | (go_at_call 21; refine (C2.out _ _ (blk_newd w2 _ _) (HB2.out.alloc HB2.out.size _).drew).mono ?_; rintro _ w3 ⟨rfl, hb3⟩; have HB3 := Lib.hid ((HB2.out.alloc HB2.out.size (.cells #[.pointer (some ⟨T, 2, none⟩), .int .i64 0, .int .i64 (3 * (ra : Int) + 64), .pointer (some ⟨T, 3, none⟩), .int .i64 0, .int .i64 ((ra : Int) - 1)] 63)).drew.trans (hb3.mono (by simp; have := HB2.out.size; omega))); clear hb3))
  all_goals
    go_wp2
    go_ret
    exact ⟨rfl, HB3.out⟩
end Go.Proofs.Ytcjjlkfenlmmlaa
