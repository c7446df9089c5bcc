/-
  Layer 30: the program: numbers as they are. · Layer 30: the program: Check. · Layer 30: what comes of fixed calls; BlockPuts, BlockGets, BlockEnds.
-/
import Derived.Test.YtjignfnkcbklkaaQ05
import Derived.Test.YtjignfnkcbklkaaQ08
import Derived.Test.YtjignfnkcbklkaaQ11
import Derived.Test.YtjignfnkcbklkaaQ12
namespace Go.Proofs.Ytjignfnkcbklkaa
open Go.RowKit Go.Sort

set_option maxHeartbeats 4000000 in
set_option maxRecDepth 100000 in
theorem numAs_err {W : World} {T b : Nat} {mo ra mi co su fr pl wd rc md : Int} (hT : Blk W T 37 [.int .i64 mo, .int .i64 ra, .int .i64 mi, .int .i64 co, .int .u32 su, .int .i64 fr, .int .i64 pl]) (hb : b ≤ 16777216)
    (hx : ∀ k, -9223372036854775808 ≤ xvB ra mi co k ∧ xvB ra mi co k ≤ 9223372036854775807) (hn : ¬ (1 ≤ ra ∧ ra ≤ (b : Int))) :
    Calls Try.prog 27 #[.pointer (some ⟨T, 0, none⟩), .agg #[.int .i64 (b : Int), .int .i64 wd, .int .i64 rc, .int .i64 md], .func (.func 28) #[] #[]] W fun e w' => e = .returned (.int .i64 15) ∧ Below W.heap.size W w' := by
  have hTl := hT.lt
  have C1 := Lib.hid (fun (w' : World) (N : Nat) (hN : Blk w' N 87 (nvs30 T [(1, 1, b)])) (hb' : Below W.heap.size W w') =>
    show Calls Try.prog 28 #[.slice (some ⟨N, 0, none⟩) 1 1] w' fun e w'' => e = .returned (.int .i64 15) ∧ Below w'.heap.size w' w'' from
    (blkAs_any hN (xv := xvB ra mi co) (by intro q hq; simp at hq; subst hq; exact (hT.grow hb').cell 1) (Nat.lt_of_lt_of_le hTl hb'.size) hx (by intro q hq; simp at hq; subst hq; simp; omega) (by simp)).mono fun e w'' ⟨h1, h2⟩ => ⟨by rw [h1, if_neg (by simp [asE, xvB]; omega)]; rfl, h2⟩)
  have HBX := Lib.hid ((Below.refl W.heap.size W).alloc (Nat.le_refl _) (.cells #[.int .i64 (b : Int), .int .i64 wd, .int .i64 rc, .int .i64 md] 23))
  clear hT hx hn
  go_enter Try.func27, Try.ntmps27
  go_wp2_with fail
  go_region_with (go_at_call 28; refine (C1.out _ _ (blk_new1 W _ _ _) (HBX.out.alloc HBX.out.size _).drew).mono ?_; rintro _ w2 ⟨rfl, hb2⟩; have HB2 := Lib.hid ((HBX.out.alloc HBX.out.size (.cells #[.pointer (some ⟨T, 1, none⟩), .int .i64 1, .int .i64 (b : Int)] 87)).drew.trans (hb2.mono (by simp; omega))); clear hb2)
  go_wp2
  go_ret
  exact ⟨rfl, HB2.out⟩
set_option maxHeartbeats 4000000 in
set_option maxRecDepth 100000 in
theorem numAs_stored {W : World} {T b ra : Nat} {mi co su fr pl wd rc md : Int} (hT : Blk W T 37 [.int .i64 0, .int .i64 (ra : Int), .int .i64 mi, .int .i64 co, .int .u32 su, .int .i64 fr, .int .i64 pl]) (hb : b ≤ 16777216)
    (hx : ∀ k, -9223372036854775808 ≤ xvB ra mi co k ∧ xvB ra mi co k ≤ 9223372036854775807) (h1 : 1 ≤ ra) (hn : ra ≤ b) :
    Calls Try.prog 27 #[.pointer (some ⟨T, 0, none⟩), .agg #[.int .i64 (b : Int), .int .i64 wd, .int .i64 rc, .int .i64 md], .func (.func 28) #[] #[]] W fun e w' => e = .returned (.int .i64 0) ∧ Blk w' T 37 [.int .i64 0, .int .i64 (ra : Int), .int .i64 0, .int .i64 (ra : Int), .int .u32 su, .int .i64 fr, .int .i64 pl] ∧ OnlyS [T] W w' := by
  have hTl := hT.lt
  have C1 := Lib.hid (fun (w' : World) (N : Nat) (hN : Blk w' N 87 (nvs30 T [(1, 1, b)])) (hb' : Below W.heap.size W w') =>
    show Calls Try.prog 28 #[.slice (some ⟨N, 0, none⟩) 1 1] w' fun e w'' => e = .returned (.int .i64 0) ∧ Below w'.heap.size w' w'' from
    (blkAs_any hN (xv := xvB ra mi co) (by intro q hq; simp at hq; subst hq; exact (hT.grow hb').cell 1) (Nat.lt_of_lt_of_le hTl hb'.size) hx (by intro q hq; simp at hq; subst hq; simp; omega) (by simp)).mono fun e w'' ⟨h1, h2⟩ => ⟨by rw [h1, if_pos (by simp [asE, xvB]; omega)]; rfl, h2⟩)
  have HBX := Lib.hid ((Below.refl W.heap.size W).alloc (Nat.le_refl _) (.cells #[.int .i64 (b : Int), .int .i64 wd, .int .i64 rc, .int .i64 md] 23))
  have HT := Lib.hid hT
  clear hT hx
  go_enter Try.func27, Try.ntmps27
  go_wp2_with fail
  go_region_with (go_at_call 28; refine (C1.out _ _ (blk_new1 W _ _ _) (HBX.out.alloc HBX.out.size _).drew).mono ?_; rintro _ w2 ⟨rfl, hb2⟩; have HB2 := Lib.hid ((HBX.out.alloc HBX.out.size (.cells #[.pointer (some ⟨T, 1, none⟩), .int .i64 1, .int .i64 (b : Int)] 87)).drew.trans (hb2.mono (by simp; omega))); clear hb2)
  have HT2 := Lib.hid (HT.out.grow HB2.out)
  have q0 := HT2.out.cell 0
  have q1 := HT2.out.cell 1
  have q2 := HT2.out.cell 2
  have q3 := HT2.out.cell 3
  have f2 := HT2.out.frozen 2
  have f3 := HT2.out.frozen 3
  simp only [List.getElem?_cons_zero, List.getElem?_cons_succ] at q0 q1 q2 q3
  go_wp2
  go_ret
  exact ⟨rfl, (HT2.out.set_ 2 _).set_ 3 _, ((OnlyS.of_below HB2.out).set_ (p := ⟨T, 2, none⟩) (by simp) _).set_ (p := ⟨T, 3, none⟩) (by simp) _⟩
set_option maxHeartbeats 4000000 in
set_option maxRecDepth 100000 in
theorem numAs_coded {W : World} {T b ra : Nat} {mo mi co su fr pl wd rc md : Int} (hT : Blk W T 37 [.int .i64 mo, .int .i64 (ra : Int), .int .i64 mi, .int .i64 co, .int .u32 su, .int .i64 fr, .int .i64 pl]) (hb : b ≤ 16777216)
    (hx : ∀ k, -9223372036854775808 ≤ xvB ra mi co k ∧ xvB ra mi co k ≤ 9223372036854775807) (h1 : 1 ≤ ra) (hn : ra ≤ b) (hmo : mo ≠ 0) (R : Nat) (hR : R = if (0 ≤ mi ∧ mi ≤ 3 * (ra : Int) + 64) ∧ (0 ≤ co ∧ co < (ra : Int)) then 0 else 15) :
    Calls Try.prog 27 #[.pointer (some ⟨T, 0, none⟩), .agg #[.int .i64 (b : Int), .int .i64 wd, .int .i64 rc, .int .i64 md], .func (.func 28) #[] #[]] W fun e w' => e = .returned (.int .i64 (R : Int)) ∧ Below W.heap.size W w' := by
  have hTl := hT.lt
  have C1 := Lib.hid (fun (w' : World) (N : Nat) (hN : Blk w' N 87 (nvs30 T [(1, 1, b)])) (hb' : Below W.heap.size W w') =>
    show Calls Try.prog 28 #[.slice (some ⟨N, 0, none⟩) 1 1] w' fun e w'' => e = .returned (.int .i64 0) ∧ Below w'.heap.size w' w'' from
    (blkAs_any hN (xv := xvB ra mi co) (by intro q hq; simp at hq; subst hq; exact (hT.grow hb').cell 1) (Nat.lt_of_lt_of_le hTl hb'.size) hx (by intro q hq; simp at hq; subst hq; simp; omega) (by simp)).mono fun e w'' ⟨h1, h2⟩ => ⟨by rw [h1, if_pos (by simp [asE, xvB]; omega)]; rfl, h2⟩)
  have C2 := Lib.hid (fun (w' : World) (N : Nat) (hN : Blk w' N 87 [.pointer (some ⟨T, 2, none⟩), .int .i64 0, .int .i64 (3 * (ra : Int) + 64), .pointer (some ⟨T, 3, none⟩), .int .i64 0, .int .i64 ((ra : Int) - 1)]) (hb' : Below W.heap.size W w') =>
    show Calls Try.prog 28 #[.slice (some ⟨N, 0, none⟩) 2 2] w' fun e w'' => e = .returned (.int .i64 (R : Int)) ∧ Below w'.heap.size w' w'' from
    (blkAs_any (L := [(2, 0, 3 * ra + 64), (3, 0, ra - 1)]) (by rw [nvs_two T ra h1]; exact hN) (xv := xvB ra mi co) (by intro q hq; simp at hq; rcases hq with rfl | rfl; exact (hT.grow hb').cell 2; exact (hT.grow hb').cell 3) (Nat.lt_of_lt_of_le hTl hb'.size) hx (by intro q hq; simp at hq; rcases hq with rfl | rfl <;> (simp; omega)) (by simp)).mono fun e w'' ⟨h3, h4⟩ => ⟨by
      rw [h3, hR]
      by_cases hc : (0 ≤ mi ∧ mi ≤ 3 * (ra : Int) + 64) ∧ (0 ≤ co ∧ co < (ra : Int))
      · rw [if_pos hc, if_pos (by simp [asE, xvB]; omega)]
      · rw [if_neg hc, if_neg (by simp [asE, xvB]; omega)], h4⟩)
  have CM := Lib.hid (fun (w' : World) => recMost_any (ra : Int) w')
  rw [show mostR (ra : Int) = 3 * (ra : Int) + 64 by unfold mostR sizedB; rw [if_pos (by simp; omega)]] at CM
  have HBX := Lib.hid ((Below.refl W.heap.size W).alloc (Nat.le_refl _) (.cells #[.int .i64 (b : Int), .int .i64 wd, .int .i64 rc, .int .i64 md] 23))
  have HT := Lib.hid hT
  clear hT hx hR
  go_enter Try.func27, Try.ntmps27
  go_wp2_with fail
  go_region_with (go_at_call 28; refine (C1.out _ _ (blk_new1 W _ _ _) (HBX.out.alloc HBX.out.size _).drew).mono ?_; rintro _ w2 ⟨rfl, hb2⟩; have HB2 := Lib.hid ((HBX.out.alloc HBX.out.size (.cells #[.pointer (some ⟨T, 1, none⟩), .int .i64 1, .int .i64 (b : Int)] 87)).drew.trans (hb2.mono (by simp; omega))); clear hb2)
  have HT2 := Lib.hid (HT.out.grow HB2.out)
  have q0 := HT2.out.cell 0
  have q1 := HT2.out.cell 1
  have q2 := HT2.out.cell 2
  have q3 := HT2.out.cell 3
  simp only [List.getElem?_cons_zero, List.getElem?_cons_succ] at q0 q1 q2 q3
  clear C1
  have hw1 : IntKind.i64.wrap ((ra : Int) - 1) = (ra : Int) - 1 := by rw [IntKind.wrap_i64]; omega
  go_wp2_with fail
  go_region_with (first | (go_at_call 46; refine (CM.out _).mono ?_; rintro _ _ ⟨rfl, rfl⟩) | (go_at_call 28; refine (C2.out _ _ (blk_newd w2 _ _) (HB2.out.alloc HB2.out.size _).drew).mono ?_; rintro _ w3 ⟨rfl, hb3⟩; have HB3 := Lib.hid ((HB2.out.alloc HB2.out.size (.cells #[.pointer (some ⟨T, 2, none⟩), .int .i64 0, .int .i64 (3 * (ra : Int) + 64), .pointer (some ⟨T, 3, none⟩), .int .i64 0, .int .i64 ((ra : Int) - 1)] 87)).drew.trans (hb3.mono (by simp; have := HB2.out.size; omega))); clear hb3))
  all_goals
    go_wp2
    go_ret
    exact ⟨rfl, HB3.out⟩
end Go.Proofs.Ytjignfnkcbklkaa
namespace Go.Proofs.Ytjignfnkcbklkaa
open Go.RowKit Go.Sort

theorem may_no {mo ra mi co most : Int} (h : mo < 0 ∨ 5 < mo) : mayBk mo ra mi co most = false := by
  unfold mayBk
  rcases h with h | h <;> simp <;> omega
/-- Why a block may not be. -/
def chkB (mo ra mi co most : Int) : Int := if mayBk mo ra mi co most = true then 0 else 15
theorem chkB_no {mo ra mi co most : Int} (h : mayBk mo ra mi co most = false) : chkB mo ra mi co most = 15 := by
  unfold chkB
  rw [h]
  rfl
theorem chkB_yes {mo ra mi co most : Int} (h : mayBk mo ra mi co most = true) : chkB mo ra mi co most = 0 := by
  unfold chkB
  rw [if_pos h]
set_option maxHeartbeats 4000000 in
set_option maxRecDepth 100000 in
theorem blkCheck_any {b : Nat} {mo ra mi co su fr pl wd rc md : Int} (hb : b ≤ 16777216) (hra : -9223372036854775808 ≤ ra ∧ ra ≤ 9223372036854775807) (hmi : -9223372036854775808 ≤ mi ∧ mi ≤ 9223372036854775807) (hco : -9223372036854775808 ≤ co ∧ co ≤ 9223372036854775807) (W : World) :
    Calls Try.prog 12 #[blkV mo ra mi co su fr pl, .agg #[.int .i64 (b : Int), .int .i64 wd, .int .i64 rc, .int .i64 md]] W fun e w' => e = .returned (.int .i64 (chkB mo ra mi co b)) ∧ Below W.heap.size W w' := by
  unfold blkV
  obtain ⟨E, hE⟩ : ∃ E, E = chkB mo ra mi co b := ⟨_, rfl⟩
  rw [← hE]
  have hx := xvB_in hra hmi hco
  by_cases hm0 : mo < 0
  · rw [chkB_no (may_no (.inl hm0))] at hE
    subst hE
    go_enter Try.func12, Try.ntmps12
    go_wp2
    go_ret
    exact ⟨rfl, (((Below.refl W.heap.size W).alloc (Nat.le_refl _) _).alloc (by simp) _)⟩
  · by_cases hm5 : 5 < mo
    · rw [chkB_no (may_no (.inr hm5))] at hE
      subst hE
      go_enter Try.func12, Try.ntmps12
      go_wp2
      go_ret
      exact ⟨rfl, (((Below.refl W.heap.size W).alloc (Nat.le_refl _) _).alloc (by simp) _)⟩
    · obtain ⟨w3, hw3⟩ : ∃ w3 : World, w3 = ((W.alloc (.cells #[.int .i64 mo, .int .i64 ra, .int .i64 mi, .int .i64 co, .int .u32 su, .int .i64 fr, .int .i64 pl] 37)).alloc (.cells #[.int .i64 (b : Int), .int .i64 wd, .int .i64 rc, .int .i64 md] 23)).alloc (.cells #[.int .i64 mo, .int .i64 ra, .int .i64 mi, .int .i64 co, .int .u32 su, .int .i64 fr, .int .i64 pl] 37) := ⟨_, rfl⟩
      have hB3 : Below W.heap.size W w3 := by rw [hw3]; exact ((((Below.refl W.heap.size W).alloc (Nat.le_refl _) _).alloc (by simp) _).alloc (by simp; omega) _)
      have hT3 : Blk w3 (W.heap.size + 1 + 1) 37 [.int .i64 mo, .int .i64 ra, .int .i64 mi, .int .i64 co, .int .u32 su, .int .i64 fr, .int .i64 pl] := by
        rw [hw3]
        exact blk_new _ _ _ (by simp)
      have hH3 : Blk w3 W.heap.size 37 [.int .i64 mo, .int .i64 ra, .int .i64 mi, .int .i64 co, .int .u32 su, .int .i64 fr, .int .i64 pl] := by
        rw [hw3]
        exact (blk_new W #[.int .i64 mo, .int .i64 ra, .int .i64 mi, .int .i64 co, .int .u32 su, .int .i64 fr, .int .i64 pl] 37 rfl).grow (((Below.refl _ _).alloc (Nat.le_refl _) _).alloc (by simp) _)
      have hq : w3.cell? ⟨W.heap.size + 1, 0, none⟩ = some (.int .i64 (b : Int)) ∧ w3.cell? ⟨W.heap.size + 1, 1, none⟩ = some (.int .i64 wd) ∧ w3.cell? ⟨W.heap.size + 1, 2, none⟩ = some (.int .i64 rc) ∧ w3.cell? ⟨W.heap.size + 1, 3, none⟩ = some (.int .i64 md) := by
        have ho : Blk w3 (W.heap.size + 1) 23 [.int .i64 (b : Int), .int .i64 wd, .int .i64 rc, .int .i64 md] := by
          rw [hw3]
          exact (blk_new (W.alloc (.cells #[.int .i64 mo, .int .i64 ra, .int .i64 mi, .int .i64 co, .int .u32 su, .int .i64 fr, .int .i64 pl] 37)) #[.int .i64 (b : Int), .int .i64 wd, .int .i64 rc, .int .i64 md] 23 (n := W.heap.size + 1) (by simp)).grow ((Below.refl _ _).alloc (Nat.le_refl _) _)
        exact ⟨ho.cell 0, ho.cell 1, ho.cell 2, ho.cell 3⟩
      obtain ⟨o0, o1, o2, o3⟩ := hq
      have hcs : (E = 15 ∧ ¬ (1 ≤ ra ∧ ra ≤ (b : Int))) ∨ (mo = 0 ∧ (1 ≤ ra ∧ ra ≤ (b : Int)) ∧ E = if mi = 0 ∧ co = ra then 0 else 15) ∨ (mo ≠ 0 ∧ (1 ≤ ra ∧ ra ≤ (b : Int)) ∧ E = if (0 ≤ mi ∧ mi ≤ 3 * ra + 64) ∧ (0 ≤ co ∧ co < ra) then 0 else 15) := by
        rw [hE]
        unfold chkB mayBk
        by_cases hr : 1 ≤ ra ∧ ra ≤ (b : Int)
        · by_cases h0 : mo = 0
          · refine .inr (.inl ⟨h0, hr, ?_⟩)
            subst h0
            by_cases hc : mi = 0 ∧ co = ra
            · rw [if_pos hc, if_pos (by simp; omega)]
            · rw [if_neg hc, if_neg (by simp; omega)]
          · refine .inr (.inr ⟨h0, hr, ?_⟩)
            by_cases hc : (0 ≤ mi ∧ mi ≤ 3 * ra + 64) ∧ (0 ≤ co ∧ co < ra)
            · rw [if_pos hc, if_pos (by rw [if_neg h0]; simp; omega)]
            · rw [if_neg hc, if_neg (by rw [if_neg h0]; simp; omega)]
        · exact .inl ⟨by rw [if_neg (by simp; intros; omega)], hr⟩
      have HB3 := Lib.hid hB3
      have HT3 := Lib.hid hT3
      have HH3 := Lib.hid hH3
      have HCS := Lib.hid hcs
      have HW3 := Lib.hid hw3
      have HX := Lib.hid hx
      clear hB3 hT3 hH3 hcs hE hw3 hx hra hmi hco
      go_enter Try.func12, Try.ntmps12
      go_wp2_with fail
      rw [← HW3.out]
      rcases HCS.out with ⟨rfl, hn⟩ | ⟨rfl, ⟨h1, hn⟩, he⟩ | ⟨h0, ⟨h1, hn⟩, he⟩
      · refine (numAs_err HT3.out hb HX.out hn).mono ?_
        rintro _ w4 ⟨rfl, hb4⟩
        have HB4 := Lib.hid (HB3.out.trans (hb4.mono HB3.out.size))
        clear hb4
        go_wp2
        go_ret
        exact ⟨rfl, HB4.out⟩
      · obtain ⟨r, rfl⟩ := Int.eq_ofNat_of_zero_le (show 0 ≤ ra by omega)
        refine (numAs_stored HT3.out hb HX.out (by omega) (by omega)).mono ?_
        rintro _ w4 ⟨rfl, hT4, hO4⟩
        have HT4 := Lib.hid hT4
        have HH4 := Lib.hid (hO4.blk HH3.out (by simp; omega))
        have HB4 := Lib.hid (HB3.out.trans (hO4.below (by simp; omega) HB3.out.size))
        have HE := Lib.hid he
        clear hT4 hO4 he o0 o1 o2 o3
        have p0 := HT4.out.cell 0
        have p1 := HT4.out.cell 1
        have p2 := HT4.out.cell 2
        have p3 := HT4.out.cell 3
        have p4 := HT4.out.cell 4
        have p5 := HT4.out.cell 5
        have p6 := HT4.out.cell 6
        have q0 := HH4.out.cell 0
        have q1 := HH4.out.cell 1
        have q2 := HH4.out.cell 2
        have q3 := HH4.out.cell 3
        have q4 := HH4.out.cell 4
        have q5 := HH4.out.cell 5
        have q6 := HH4.out.cell 6
        simp only [List.getElem?_cons_zero, List.getElem?_cons_succ] at p0 p1 p2 p3 p4 p5 p6 q0 q1 q2 q3 q4 q5 q6
        by_cases hc : mi = 0 ∧ co = (r : Int)
        · have hE0 : E = 0 := by rw [HE.out, if_pos hc]
          obtain ⟨rfl, rfl⟩ := hc
          subst hE0
          go_wp2
          all_goals
            go_ret
            exact ⟨rfl, HB4.out⟩
        · have hE0 : E = 15 := by rw [HE.out, if_neg hc]
          subst hE0
          go_wp2
          all_goals
            first
              | (exfalso; omega)
              | (go_ret; exact ⟨rfl, HB4.out⟩)
      · obtain ⟨r, rfl⟩ := Int.eq_ofNat_of_zero_le (show 0 ≤ ra by omega)
        refine (numAs_coded HT3.out hb HX.out (by omega) (by omega) h0 _ rfl).mono ?_
        rintro _ w4 ⟨rfl, hb4⟩
        have HT4 := Lib.hid (HT3.out.grow hb4)
        have HH4 := Lib.hid (HH3.out.grow hb4)
        have HB4 := Lib.hid (HB3.out.trans (hb4.mono HB3.out.size))
        have HE := Lib.hid he
        clear hb4 he o0 o1 o2 o3
        have p0 := HT4.out.cell 0
        have p1 := HT4.out.cell 1
        have p2 := HT4.out.cell 2
        have p3 := HT4.out.cell 3
        have p4 := HT4.out.cell 4
        have p5 := HT4.out.cell 5
        have p6 := HT4.out.cell 6
        have q0 := HH4.out.cell 0
        have q1 := HH4.out.cell 1
        have q2 := HH4.out.cell 2
        have q3 := HH4.out.cell 3
        have q4 := HH4.out.cell 4
        have q5 := HH4.out.cell 5
        have q6 := HH4.out.cell 6
        simp only [List.getElem?_cons_zero, List.getElem?_cons_succ] at p0 p1 p2 p3 p4 p5 p6 q0 q1 q2 q3 q4 q5 q6
        by_cases hc : (0 ≤ mi ∧ mi ≤ 3 * (r : Int) + 64) ∧ (0 ≤ co ∧ co < (r : Int))
        · rw [if_pos hc]
          have hE0 : E = 0 := by rw [HE.out, if_pos hc]
          subst hE0
          clear hc
          go_wp2
          all_goals
            go_ret
            exact ⟨rfl, HB4.out⟩
        · rw [if_neg hc]
          have hE0 : E = 15 := by rw [HE.out, if_neg hc]
          subst hE0
          clear hc
          go_wp2
          all_goals
            go_ret
            exact ⟨rfl, HB4.out⟩
end Go.Proofs.Ytjignfnkcbklkaa
namespace Go.Proofs.Ytjignfnkcbklkaa
open Go.RowKit Go.Sort

theorem mayBk_ex {mo ra mi co : Int} {b : Nat} (h : mayBk mo ra mi co (b : Int) = true) : ∃ mo' ra' mi' co' : Nat, mo = (mo' : Int) ∧ ra = (ra' : Int) ∧ mi = (mi' : Int) ∧ co = (co' : Int) := by
  unfold mayBk at h
  by_cases h0 : mo = 0
  · rw [if_pos h0] at h
    simp at h
    exact ⟨mo.toNat, ra.toNat, mi.toNat, co.toNat, by omega, by omega, by omega, by omega⟩
  · rw [if_neg h0] at h
    simp at h
    exact ⟨mo.toNat, ra.toNat, mi.toNat, co.toNat, by omega, by omega, by omega, by omega⟩
end Go.Proofs.Ytjignfnkcbklkaa
