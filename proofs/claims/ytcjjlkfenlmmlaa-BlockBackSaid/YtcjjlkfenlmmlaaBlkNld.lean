/- Layer 30: the program: numbers as they are laid. -/
import Derived.Test.YtcjjlkfenlmmlaaBlkNum
namespace Go.Proofs.Ytcjjlkfenlmmlaa
open Go.RowKit Go.Sort

theorem LaidAt.grow {w w' : World} {G H P : Nat} {A : Option Addr} {n c at_ : Nat} (h : LaidAt w G H P A n c at_) (hb : Below w.heap.size w w') : LaidAt w' G H P A n c at_ := ⟨h.box.grow hb, h.ptr.grow hb, h.place.grow hb⟩
theorem take_one (l : List UInt8) (i a b at_ : Nat) (cs : List Value) : takeN l [(i, a, b)] at_ cs = if (nbR (lget (l.drop at_)) a b).2.2 = 0 then (cs.set i (.int .i64 ((nbR (lget (l.drop at_)) a b).1 : Int)), at_ + (nbR (lget (l.drop at_)) a b).2.1, 0) else (cs, at_, (nbR (lget (l.drop at_)) a b).2.2) := rfl
section
variable {W : World} {T G H P B b n c mo : Nat} {A : Option Addr} {l : List UInt8} {wd rc md : Int}
set_option maxHeartbeats 4000000 in
set_option maxRecDepth 100000 in
theorem numLd_err {e : Nat} (hT : Blk W T 24 [.int .i64 (mo : Int), .int .i64 0, .int .i64 0, .int .i64 0, .int .u32 0, .int .i64 0, .int .i64 0]) (hla : LaidAt W G H P A n c 1) (hr : Rd W B A (bvs l)) (hBT : B ≤ T) (hBP : B ≤ P) (hn : l.length = n) (hnc : n ≤ c) (hn1 : n ≤ 1000000) (h1n : 1 ≤ n) (hTP : T ≠ P)
    (hb : b ≤ 16777216) (he : (nbR (lget (l.drop 1)) 1 b).2.2 = e) (he0 : e ≠ 0) :
    Calls Try.prog 20 #[.pointer (some ⟨T, 0, none⟩), .agg #[.int .i64 (b : Int), .int .i64 wd, .int .i64 rc, .int .i64 md], .func (.func 35) #[] #[.pointer (some ⟨G, 0, none⟩), .pointer (some ⟨H, 0, none⟩)]] W fun e' w' => e' = .returned (.int .i64 (e : Int)) ∧ OnlyS [T, P] W w' := by
  have hTl := hT.lt
  have hBW : B ≤ W.heap.size := by omega
  have C1 := Lib.hid (fun (w' : World) (N : Nat) (hN : Blk w' N 63 (nvs T [(1, 1, b)])) (hb' : Below W.heap.size W w') =>
    show Calls Try.prog 35 #[.slice (some ⟨N, 0, none⟩) 1 1, .pointer (some ⟨G, 0, none⟩), .pointer (some ⟨H, 0, none⟩)] w' fun e' w'' => e' = .returned (.int .i64 (e : Int)) ∧ OnlyS [T, P] w' w'' from
    (blkLaid_any (L0 := [(1, 1, b)]) (hr.below (hb'.mono hBW)) hBT hBP hn hnc hn1 (by simp) hN (hla.grow hb') h1n (hT.grow hb') (by intro q hq; simp at hq; subst hq; simp; omega) hTP (by decide) (by decide) (by decide)).mono fun e' w'' ⟨h1, _, _, h4⟩ => ⟨by rw [h1, take_one, if_neg (by omega), he], h4⟩)
  have HBX := Lib.hid ((Below.refl W.heap.size W).alloc (Nat.le_refl _) (.cells #[.int .i64 (b : Int), .int .i64 wd, .int .i64 rc, .int .i64 md] 26))
  have hei : ¬ (e : Int) = 0 := by omega
  clear hT hla hr he he0
  go_enter Try.func20, Try.ntmps20
  go_wp2_with fail
  go_region_with (go_at_call 35; refine (C1.out _ _ (blk_new1 W _ _ _) (HBX.out.alloc HBX.out.size _).drew).mono ?_; rintro _ w2 ⟨rfl, ho2⟩; have HO2 := Lib.hid ((OnlyS.of_below (S := [T, P]) (HBX.out.alloc HBX.out.size (.cells #[.pointer (some ⟨T, 1, none⟩), .int .i64 1, .int .i64 (b : Int)] 63)).drew).trans ho2); clear ho2)
  go_wp2
  go_ret
  exact ⟨rfl, HO2.out⟩
set_option maxHeartbeats 4000000 in
set_option maxRecDepth 100000 in
theorem numLd_stored {v k : Nat} (hT : Blk W T 24 [.int .i64 0, .int .i64 0, .int .i64 0, .int .i64 0, .int .u32 0, .int .i64 0, .int .i64 0]) (hla : LaidAt W G H P A n c 1) (hr : Rd W B A (bvs l)) (hBT : B ≤ T) (hBP : B ≤ P) (hn : l.length = n) (hnc : n ≤ c) (hn1 : n ≤ 1000000) (h1n : 1 ≤ n) (hTP : T ≠ P)
    (hb : b ≤ 16777216) (he : nbR (lget (l.drop 1)) 1 b = (v, k, 0)) :
    Calls Try.prog 20 #[.pointer (some ⟨T, 0, none⟩), .agg #[.int .i64 (b : Int), .int .i64 wd, .int .i64 rc, .int .i64 md], .func (.func 35) #[] #[.pointer (some ⟨G, 0, none⟩), .pointer (some ⟨H, 0, none⟩)]] W fun e' w' => e' = .returned (.int .i64 0) ∧
      Blk w' T 24 [.int .i64 0, .int .i64 (v : Int), .int .i64 0, .int .i64 (v : Int), .int .u32 0, .int .i64 0, .int .i64 0] ∧ Blk w' P 3 [.int .i64 ((1 + k : Nat) : Int)] ∧ OnlyS [T, P] W w' := by
  have hTl := hT.lt
  have hBW : B ≤ W.heap.size := by omega
  have C1 := Lib.hid (fun (w' : World) (N : Nat) (hN : Blk w' N 63 (nvs T [(1, 1, b)])) (hb' : Below W.heap.size W w') =>
    show Calls Try.prog 35 #[.slice (some ⟨N, 0, none⟩) 1 1, .pointer (some ⟨G, 0, none⟩), .pointer (some ⟨H, 0, none⟩)] w' fun e' w'' => e' = .returned (.int .i64 0) ∧
        Blk w'' T 24 [.int .i64 0, .int .i64 (v : Int), .int .i64 0, .int .i64 0, .int .u32 0, .int .i64 0, .int .i64 0] ∧ Blk w'' P 3 [.int .i64 ((1 + k : Nat) : Int)] ∧ OnlyS [T, P] w' w'' from
    (blkLaid_any (L0 := [(1, 1, b)]) (hr.below (hb'.mono hBW)) hBT hBP hn hnc hn1 (by simp) hN (hla.grow hb') h1n (hT.grow hb') (by intro q hq; simp at hq; subst hq; simp; omega) hTP (by decide) (by decide) (by decide)).mono fun e' w'' ⟨h1, h2, h3, h4⟩ => by
      rw [take_one, he, if_pos rfl] at h1 h2 h3
      exact ⟨h1, h2, h3.place, h4⟩)
  have HBX := Lib.hid ((Below.refl W.heap.size W).alloc (Nat.le_refl _) (.cells #[.int .i64 (b : Int), .int .i64 wd, .int .i64 rc, .int .i64 md] 26))
  have HPT := Lib.hid (show P ≠ T from fun h => hTP h.symm)
  clear hT hla hr he
  go_enter Try.func20, Try.ntmps20
  go_wp2_with fail
  go_region_with (go_at_call 35; refine (C1.out _ _ (blk_new1 W _ _ _) (HBX.out.alloc HBX.out.size _).drew).mono ?_; rintro _ w2 ⟨rfl, hT2, hP2, ho2⟩; have HT2 := Lib.hid hT2; have HP2 := Lib.hid hP2; have HO2 := Lib.hid ((OnlyS.of_below (S := [T, P]) (HBX.out.alloc HBX.out.size (.cells #[.pointer (some ⟨T, 1, none⟩), .int .i64 1, .int .i64 (b : Int)] 63)).drew).trans ho2); clear ho2 hT2 hP2)
  have q0 := HT2.out.cell 0
  have q1 := HT2.out.cell 1
  have q2 := HT2.out.cell 2
  have q3 := HT2.out.cell 3
  have f2 := HT2.out.frozen 2
  have f3 := HT2.out.frozen 3
  simp only [List.getElem?_cons_zero, List.getElem?_cons_succ] at q0 q1 q2 q3
  go_wp2
  go_ret
  exact ⟨rfl, (HT2.out.set_ 2 _).set_ 3 _, (HP2.out.setOther ⟨T, 2, none⟩ _ HPT.out).setOther ⟨T, 3, none⟩ _ HPT.out, (HO2.out.set_ (p := ⟨T, 2, none⟩) (by simp) _).set_ (p := ⟨T, 3, none⟩) (by simp) _⟩
set_option maxHeartbeats 4000000 in
set_option maxRecDepth 100000 in
theorem numLd_coded {v k : Nat} (hT : Blk W T 24 [.int .i64 (mo : Int), .int .i64 0, .int .i64 0, .int .i64 0, .int .u32 0, .int .i64 0, .int .i64 0]) (hla : LaidAt W G H P A n c 1) (hr : Rd W B A (bvs l)) (hBT : B ≤ T) (hBP : B ≤ P) (hn : l.length = n) (hnc : n ≤ c) (hn1 : n ≤ 1000000) (h1n : 1 ≤ n) (hTP : T ≠ P)
    (hb : b ≤ 16777216) (he : nbR (lget (l.drop 1)) 1 b = (v, k, 0)) (hv1 : 1 ≤ v) (hvb : v ≤ b) (hkn : 1 + k ≤ n) (hmo : mo ≠ 0) (R : List Value × Nat × Nat)
    (hR : takeN l [(2, 0, 3 * v + 64), (3, 0, v - 1)] (1 + k) [.int .i64 (mo : Int), .int .i64 (v : Int), .int .i64 0, .int .i64 0, .int .u32 0, .int .i64 0, .int .i64 0] = R) :
    Calls Try.prog 20 #[.pointer (some ⟨T, 0, none⟩), .agg #[.int .i64 (b : Int), .int .i64 wd, .int .i64 rc, .int .i64 md], .func (.func 35) #[] #[.pointer (some ⟨G, 0, none⟩), .pointer (some ⟨H, 0, none⟩)]] W fun e' w' => e' = .returned (.int .i64 (R.2.2 : Int)) ∧
      Blk w' T 24 R.1 ∧ Blk w' P 3 [.int .i64 (R.2.1 : Int)] ∧ OnlyS [T, P] W w' := by
  have hTl := hT.lt
  have hBW : B ≤ W.heap.size := by omega
  have C1 := Lib.hid (fun (w' : World) (N : Nat) (hN : Blk w' N 63 (nvs T [(1, 1, b)])) (hb' : Below W.heap.size W w') =>
    show Calls Try.prog 35 #[.slice (some ⟨N, 0, none⟩) 1 1, .pointer (some ⟨G, 0, none⟩), .pointer (some ⟨H, 0, none⟩)] w' fun e' w'' => e' = .returned (.int .i64 0) ∧
        Blk w'' T 24 [.int .i64 (mo : Int), .int .i64 (v : Int), .int .i64 0, .int .i64 0, .int .u32 0, .int .i64 0, .int .i64 0] ∧ LaidAt w'' G H P A n c (1 + k) ∧ OnlyS [T, P] w' w'' from
    (blkLaid_any (L0 := [(1, 1, b)]) (hr.below (hb'.mono hBW)) hBT hBP hn hnc hn1 (by simp) hN (hla.grow hb') h1n (hT.grow hb') (by intro q hq; simp at hq; subst hq; simp; omega) hTP (by decide) (by decide) (by decide)).mono fun e' w'' ⟨h1, h2, h3, h4⟩ => by
      rw [take_one, he, if_pos rfl] at h1 h2 h3
      exact ⟨h1, h2, h3, h4⟩)
  have C2 := Lib.hid (fun (w' : World) (N : Nat) (hN : Blk w' N 63 [.pointer (some ⟨T, 2, none⟩), .int .i64 0, .int .i64 (3 * (v : Int) + 64), .pointer (some ⟨T, 3, none⟩), .int .i64 0, .int .i64 ((v : Int) - 1)]) (ho' : OnlyS [T, P] W w')
      (hT' : Blk w' T 24 [.int .i64 (mo : Int), .int .i64 (v : Int), .int .i64 0, .int .i64 0, .int .u32 0, .int .i64 0, .int .i64 0]) (hla' : LaidAt w' G H P A n c (1 + k)) =>
    show Calls Try.prog 35 #[.slice (some ⟨N, 0, none⟩) 2 2, .pointer (some ⟨G, 0, none⟩), .pointer (some ⟨H, 0, none⟩)] w' fun e' w'' => e' = .returned (.int .i64 (R.2.2 : Int)) ∧
        Blk w'' T 24 R.1 ∧ Blk w'' P 3 [.int .i64 (R.2.1 : Int)] ∧ OnlyS [T, P] w' w'' from
    (blkLaid_any (L0 := [(2, 0, 3 * v + 64), (3, 0, v - 1)]) (hr.below (ho'.below (B := B) (by intro k hk; simp at hk; rcases hk with rfl | rfl <;> assumption) hBW)) hBT hBP hn hnc hn1 (by simp) (by rw [nvs_two T v hv1]; exact hN) hla' hkn hT' (by intro q hq; simp at hq; rcases hq with rfl | rfl <;> (simp; omega)) hTP (by decide) (by decide) (by decide)).mono fun e' w'' ⟨h1, h2, h3, h4⟩ => by
      rw [hR] at h1 h2 h3
      exact ⟨h1, h2, h3.place, h4⟩)
  have CM := Lib.hid (fun (w' : World) => recMost_any (v : Int) w')
  rw [show mostR (v : Int) = 3 * (v : Int) + 64 by unfold mostR sizedB; rw [if_pos (by simp; omega)]] at CM
  have HBX := Lib.hid ((Below.refl W.heap.size W).alloc (Nat.le_refl _) (.cells #[.int .i64 (b : Int), .int .i64 wd, .int .i64 rc, .int .i64 md] 26))
  clear hT hla hr he hR
  go_enter Try.func20, Try.ntmps20
  go_wp2_with fail
  go_region_with (go_at_call 35; refine (C1.out _ _ (blk_new1 W _ _ _) (HBX.out.alloc HBX.out.size _).drew).mono ?_; rintro _ w2 ⟨rfl, hT2, hP2, ho2⟩; have HT2 := Lib.hid hT2; have HP2 := Lib.hid hP2; have HO2 := Lib.hid ((OnlyS.of_below (S := [T, P]) (HBX.out.alloc HBX.out.size (.cells #[.pointer (some ⟨T, 1, none⟩), .int .i64 1, .int .i64 (b : Int)] 63)).drew).trans ho2); clear ho2 hT2 hP2)
  have q0 := HT2.out.cell 0
  have q1 := HT2.out.cell 1
  have q2 := HT2.out.cell 2
  have q3 := HT2.out.cell 3
  simp only [List.getElem?_cons_zero, List.getElem?_cons_succ] at q0 q1 q2 q3
  have hw1 : IntKind.i64.wrap ((v : Int) - 1) = (v : Int) - 1 := by rw [IntKind.wrap_i64]; omega
  clear C1
  go_wp2_with fail
  go_region_with (first | (go_at_call 31; refine (CM.out _).mono ?_; rintro _ _ ⟨rfl, rfl⟩) | (go_at_call 35; refine (C2.out _ _ (blk_newd w2 _ _) ((HO2.out.trans (OnlyS.of_below ((Below.refl _ _).alloc (Nat.le_refl _) _))).drew) ((HT2.out.grow ((Below.refl _ _).alloc (Nat.le_refl _) _)).same rfl) (HP2.out.grow ((Below.refl _ _).alloc (Nat.le_refl _) _).drew)).mono ?_; rintro _ w3 ⟨rfl, hT3, hP3, ho3⟩; have HT3 := Lib.hid hT3; have HP3 := Lib.hid hP3; have HO3 := Lib.hid (((HO2.out.trans (OnlyS.of_below ((Below.refl _ _).alloc (Nat.le_refl _) (.cells #[.pointer (some ⟨T, 2, none⟩), .int .i64 0, .int .i64 (3 * (v : Int) + 64), .pointer (some ⟨T, 3, none⟩), .int .i64 0, .int .i64 ((v : Int) - 1)] 63)))).drew).trans ho3); clear hT3 hP3 ho3))
  all_goals
    go_wp2
    go_ret
    exact ⟨rfl, HT3.out, HP3.out, HO3.out⟩
end
end Go.Proofs.Ytcjjlkfenlmmlaa
