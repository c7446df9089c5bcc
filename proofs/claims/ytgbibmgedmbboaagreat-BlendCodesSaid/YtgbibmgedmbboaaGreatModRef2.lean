/- Layer 25: the reference's model: Seen and New. -/
import Derived.Test.YtgbibmgedmbboaaGreatModRef
namespace Go.Proofs.YtgbibmgedmbboaaGreat
open Go.RowKit Go.Sort

theorem own_some {w : World} {B n size : Nat} {t : TypeId} {v : Value} {xs : List Value} (h : w.ownsRow B t size v n xs) (hn : 0 < n) : ∃ g m, v = .slice (some ⟨g, 0, none⟩) n m ∧ B ≤ g := by
  obtain ⟨A, m, rfl, -, -, hform⟩ := own_form h
  rcases hform with h0 | ⟨g, rfl, hg, -⟩
  · omega
  · exact ⟨g, m, rfl, hg⟩
theorem blk_own_ne {w : World} {M B g n m : Nat} {t : TypeId} {cs xs : List Value} (h : Blk w M t cs) (ho : w.ownsRow B 3 1 (.slice (some ⟨g, 0, none⟩) n m) n xs) (hne : t ≠ 3) : M ≠ g := fun e => own_ne h ho hne g rfl e.symm
/-- What holds while a plain model's banks follow. -/
structure RefJ (w wr : World) (r : RefA) (gw mw : Nat) (s : ModD) (W : List Int) (gk : Nat) (A B C : List Nat) : Prop where
  mb : Blk wr r.M 75 (refC r gw mw s.p)
  b1 : GBank wr r.M1 r.g1 9 512 r.m1 A
  b2 : GBank wr r.M2 r.g2 11 2048 r.m2 B
  b3 : GBank wr r.M3 r.g3 13 8192 r.m3 C
  wo : wr.ownsRow gw 3 1 (.slice (some ⟨gw, 0, none⟩) 3 mw) 3 (zvs W)
  kb : Blk wr gk 79 [.int .u32 (s.p.k1 : Int), .int .u32 (s.p.k2 : Int), .int .u32 (s.p.k3 : Int)]
  on : OnlyS r.all w wr
  n : r.g1 ≠ r.g2 ∧ r.g1 ≠ r.g3 ∧ r.g2 ≠ r.g3 ∧ gw ≠ r.g1 ∧ gw ≠ r.g2 ∧ gw ≠ r.g3
  new : w.heap.size ≤ gw
section
variable {w w' wr : World} {r : RefA} {gw mw gk : Nat} {s : ModD} {S : List Nat} {W : List Int} {A B C R : List Nat}
theorem GBank.turned {M g bits n m M' g' bits' n' m' : Nat} {R R' : List Nat} (h : GBank w M g bits n m R) (h' : GBank w M' g' bits' n' m' R') (hu : TurnsB g' g' w w') (hne : g ≠ g') : GBank w' M g bits n m R :=
  h.only (OnlyS.of_turns hu (List.mem_singleton.2 rfl)) (ne_one (blk_own_ne h.mb h'.own (by decide))) (ne_one hne)
theorem RefJ.rest (h : RefJ w wr r gw mw s W gk A B C) {M g bits n m : Nat} (hb : GBank wr M g bits n m R) (hu : TurnsB g g wr w') (hg : g ∈ r.all) (hw : gw ≠ g) :
    Blk w' r.M 75 (refC r gw mw s.p) ∧ w'.ownsRow gw 3 1 (.slice (some ⟨gw, 0, none⟩) 3 mw) 3 (zvs W) ∧ Blk w' gk 79 [.int .u32 (s.p.k1 : Int), .int .u32 (s.p.k2 : Int), .int .u32 (s.p.k3 : Int)] ∧ OnlyS r.all w w' :=
  have ho : OnlyS [g] wr w' := OnlyS.of_turns hu (List.mem_singleton.2 rfl)
  ⟨ho.blk h.mb (ne_one (blk_own_ne h.mb hb.own (by decide))), own_onlyS h.wo ho (ne_one hw), ho.blk h.kb (ne_one (blk_own_ne h.kb hb.own (by decide))), h.on.trans (OnlyS.of_turns hu hg)⟩
theorem RefJ.one (h : RefJ w wr r gw mw s W gk A B C) (hb : GBank w' r.M1 r.g1 9 512 r.m1 R) (hu : TurnsB r.g1 r.g1 wr w') : RefJ w w' r gw mw s W gk R B C :=
  have q := h.rest h.b1 hu (by simp [RefA.all]) h.n.2.2.2.1
  ⟨q.1, hb, h.b2.turned h.b1 hu h.n.1.symm, h.b3.turned h.b1 hu h.n.2.1.symm, q.2.1, q.2.2.1, q.2.2.2, h.n, h.new⟩
theorem RefJ.two (h : RefJ w wr r gw mw s W gk A B C) (hb : GBank w' r.M2 r.g2 11 2048 r.m2 R) (hu : TurnsB r.g2 r.g2 wr w') : RefJ w w' r gw mw s W gk A R C :=
  have q := h.rest h.b2 hu (by simp [RefA.all]) h.n.2.2.2.2.1
  ⟨q.1, h.b1.turned h.b2 hu h.n.1, hb, h.b3.turned h.b2 hu h.n.2.2.1.symm, q.2.1, q.2.2.1, q.2.2.2, h.n, h.new⟩
theorem RefJ.three (h : RefJ w wr r gw mw s W gk A B C) (hb : GBank w' r.M3 r.g3 13 8192 r.m3 R) (hu : TurnsB r.g3 r.g3 wr w') : RefJ w w' r gw mw s W gk A B R :=
  have q := h.rest h.b3 hu (by simp [RefA.all]) h.n.2.2.2.2.2
  ⟨q.1, h.b1.turned h.b3 hu h.n.2.1, h.b2.turned h.b3 hu h.n.2.2.1, hb, q.2.1, q.2.2.1, q.2.2.2, h.n, h.new⟩
theorem RefJ.same (h : RefJ w wr r gw mw s W gk A B C) (e : w'.heap = wr.heap) (ho : OnlyS r.all w w') : RefJ w w' r gw mw s W gk A B C :=
  ⟨h.mb.same e, GBank.of (h.b1.rb.same e), GBank.of (h.b2.rb.same e), GBank.of (h.b3.rb.same e), ⟨h.wo.1, by have := h.wo.2; rw [← e] at this; exact this⟩, h.kb.same e, ho, h.n, h.new⟩
theorem RefJ.start (h : IsRef w r gw mw s) {w3 w4 : World} {g4 m4 : Nat} {W2 : List Int} (hb13 : Below w.heap.size w w3) (hb4 : Below w3.heap.size w3 w4)
    (hk : Blk w3 gk 79 [.int .u32 (s.p.k1 : Int), .int .u32 (s.p.k2 : Int), .int .u32 (s.p.k3 : Int)])
    (ho4 : w4.ownsRow w3.heap.size 3 1 (.slice (some ⟨g4, 0, none⟩) 3 m4) 3 (zvs W2)) (hg4 : w3.heap.size ≤ g4) :
    RefJ w (w4.setCell ⟨r.M, 6, none⟩ (.slice (some ⟨g4, 0, none⟩) 3 m4)) r g4 m4 s W2 gk s.A s.B s.C := by
  have hb14 := hb13.trans (hb4.mono hb13.size)
  have h4 := h.grow hb14
  have ho : OnlyS [r.M] w4 (w4.setCell ⟨r.M, 6, none⟩ (.slice (some ⟨g4, 0, none⟩) 3 m4)) := (OnlyS.refl [r.M] w4).set_ (p := ⟨r.M, 6, none⟩) (List.mem_singleton.2 rfl) _
  have hs := hb13.size
  have l1 := own_lt h.b1.own
  have l2 := own_lt h.b2.own
  have l3 := own_lt h.b3.own
  have l0 := h.mb.lt
  exact ⟨h4.mb.set_ 6 _, h4.b1.only ho (ne_one (blk_ne h4.b1.mb h4.mb (by decide))) (ne_one (blk_own_ne h4.mb h4.b1.own (by decide)).symm),
    h4.b2.only ho (ne_one (blk_ne h4.b2.mb h4.mb (by decide))) (ne_one (blk_own_ne h4.mb h4.b2.own (by decide)).symm),
    h4.b3.only ho (ne_one (blk_ne h4.b3.mb h4.mb (by decide))) (ne_one (blk_own_ne h4.mb h4.b3.own (by decide)).symm),
    own_onlyS (own_at ho4 g4 (Nat.le_refl _)) ho (ne_one (by omega)), ho.blk (hk.grow hb4) (ne_one (blk_ne (hk.grow hb4) h4.mb (by decide))),
    (OnlyS.of_below hb14).trans (ho.mono fun k hk => by rw [List.mem_singleton.1 hk]; simp [RefA.all]),
    ⟨h.n.1, h.n.2.1, h.n.2.2.1, by omega, by omega, by omega⟩, by omega⟩
theorem RefJ.end_ {bit : Int} (h : RefJ w wr r gw mw s (seenM s.W s.ch bit) gk (seenC s.A (placeC s.p.k1 9) bit) (seenC s.B (placeC s.p.k2 11) bit) (seenC s.C (placeC s.p.k3 13) bit)) (hok : s.ok)
    (hb : Blk w' r.M 75 (refC r gw mw (s.p.step bit))) (ho : OnlyS [r.M] wr w') : ∃ gw' mw', IsRef w' r gw' mw' (s.seen bit) ∧ w.heap.size ≤ gw' ∧ OnlyS r.all w w' :=
  ⟨gw, mw, ⟨hb, h.b1.only ho (ne_one (blk_ne h.b1.mb h.mb (by decide))) (ne_one (blk_own_ne h.mb h.b1.own (by decide)).symm),
    h.b2.only ho (ne_one (blk_ne h.b2.mb h.mb (by decide))) (ne_one (blk_own_ne h.mb h.b2.own (by decide)).symm),
    h.b3.only ho (ne_one (blk_ne h.b3.mb h.mb (by decide))) (ne_one (blk_own_ne h.mb h.b3.own (by decide)).symm),
    own_onlyS h.wo ho (ne_one (blk_own_ne h.mb h.wo (by decide)).symm), hok.seen bit, h.n⟩, h.new, h.on.trans (ho.mono fun k hk => by rw [List.mem_singleton.1 hk]; simp [RefA.all])⟩
set_option maxHeartbeats 4000000 in
set_option maxRecDepth 100000 in
theorem refSeen_any (bit : Int) (hbit : -128 ≤ bit ∧ bit ≤ 127) (h : IsRef w r gw mw s) :
    Calls Tryz.prog 18 #[.pointer (some ⟨r.M, 0, none⟩), .int .i64 bit] w fun e w' => (∃ u, e = .returned u) ∧ ∃ gw' mw', IsRef w' r gw' mw' (s.seen bit) ∧ w.heap.size ≤ gw' ∧ OnlyS r.all w w' := by
  have CK := Lib.hid (refKeys_any h.mb h.ok.pos)
  have CC := Lib.hid (fun (W : World) (hb : Below w.heap.size w W) => refChances_any (h.grow hb))
  have CX := Lib.hid (fun (W : World) (hb : Below w.heap.size w W) A c (hr : Rd W W.heap.size A (zvs s.ch)) => xSeen_any (m := mw) (m' := c) bit h.ok.w (by decide) (h.w3 hb) hr s.ch_len)
  have H := Lib.hid h
  clear h
  go_enter Tryz.func18, Tryz.ntmps18
  go_wp2_with fail
  refine CK.out.mono ?_
  rintro e w1 ⟨rfl, hb1⟩
  unfold keysV
  obtain ⟨w2, hw2, hk2, hb2⟩ := row3 79 (.int .u32 (s.p.k1 : Int)) (.int .u32 (s.p.k2 : Int)) (.int .u32 (s.p.k3 : Int)) w1
  have hb12 := hb1.trans (hb2.mono hb1.size)
  have hm2 := (H.out.grow hb12).mb
  obtain ⟨gk, hgk⟩ : ∃ g, g = w1.heap.size := ⟨_, rfl⟩
  rw [← hgk] at hk2
  have d6 := hm2.cell 6
  simp only [refC, List.getElem?_cons_zero, List.getElem?_cons_succ] at d6
  have HB2 := Lib.hid (And.intro hb12 hk2)
  have HW := Lib.hid (And.intro hw2 hgk)
  clear hb1 hb2 hb12 hm2 hk2 hw2 hgk
  obtain ⟨k1, hk1⟩ : ∃ k, k = s.p.k1 := ⟨_, rfl⟩
  obtain ⟨k2, hk2⟩ : ∃ k, k = s.p.k2 := ⟨_, rfl⟩
  obtain ⟨k3, hk3⟩ : ∃ k, k = s.p.k3 := ⟨_, rfl⟩
  have hk4 : k1 < 4294967296 ∧ k2 < 4294967296 ∧ k3 < 4294967296 := by
    rw [hk1, hk2, hk3]
    exact ⟨by have := H.out.ok.pos.n2; unfold PosD.k1; omega, H.out.ok.pos.k2_lt, H.out.ok.pos.k3_lt⟩
  have HK4 := Lib.hid hk4
  rw [← hk1, ← hk2, ← hk3] at HW ⊢
  have HKS := Lib.hid (And.intro hk1 (And.intro hk2 hk3))
  clear hk1 hk2 hk3 hk4
  go_wp2
  rw [← HW.out.1, ← HW.out.2]
  go_region_with (first
    | (go_at_call 40; refine (CC.out _ (by first | exact HB2.out.1 | exact HB2.out.1.drew)).mono ?_; rintro _ w3 ⟨v3, rfl, ⟨A3, c3, rfl, hr3⟩, hb3⟩; have hb13 := HB2.out.1.trans ((show Below w2.heap.size w2 w3 from ⟨hb3.os, hb3.tape, hb3.output, hb3.size, hb3.block⟩).mono HB2.out.1.size); have dd6 := (H.out.grow hb13).mb.cell 6; simp only [refC, List.getElem?_cons_zero, List.getElem?_cons_succ] at dd6; have HB3 := Lib.hid (And.intro hb13 (And.intro hr3 hb3)); clear hb13 hr3 hb3)
    | (go_at_call 42; refine (CX.out _ HB3.out.1 _ _ HB3.out.2.1).mono ?_; rintro _ w4 ⟨v4, rfl, ho4, hb4⟩; obtain ⟨g4, m4, rfl, hg4⟩ := own_some ho4 (by decide); have hb14 := HB3.out.1.trans (hb4.mono HB3.out.1.size); have de6 := (H.out.grow hb14).mb.cell 6; have df6 := (H.out.grow hb14).mb.frozen 6; simp only [refC, List.getElem?_cons_zero, List.getElem?_cons_succ] at de6; have HB4 := Lib.hid (And.intro hb14 (And.intro ho4 (And.intro hg4 hb4))); clear hb14 ho4 hg4 hb4))
  all_goals (
    have hj := RefJ.start (W2 := seenM s.W s.ch bit) H.out HB3.out.1 HB4.out.2.2.2 (HB2.out.2.grow (show Below w2.heap.size w2 w3 from ⟨HB3.out.2.2.os, HB3.out.2.2.tape, HB3.out.2.2.output, HB3.out.2.2.size, HB3.out.2.2.block⟩)) HB4.out.2.1 HB4.out.2.2.1
    obtain ⟨W1, hW1⟩ : ∃ W1, W1 = w4.setCell ⟨r.M, 6, none⟩ (.slice (some ⟨g4, 0, none⟩) 3 m4) := ⟨_, rfl⟩
    rw [← hW1] at hj ⊢
    have HJ1 := Lib.hid hj
    clear hj hW1 HB3 HB4 HB2 HW CX CC de6 df6 dd6 d6
    go_wp2
    have c1 := HJ1.out.mb.cell 3
    have z1 := HJ1.out.kb.cell 0
    simp only [refC, List.getElem?_cons_zero, List.getElem?_cons_succ] at c1 z1
    rw [← HKS.out.1] at z1
    have CS1 := Lib.hid (cSeen_any (w := W1.drew) k1 bit (HJ1.out.b1.rb.same rfl) HK4.out.1)
    refine wp_region_still_tail 7 (by kernel_rfl) (by kernel_rfl) ?_
    simp only [List.take_succ_cons, List.take_zero, List.drop_succ_cons, List.drop_zero]
    repeat still_step
    refine wpStill_nil ?_
    change wpList _ _ _ _ _ W1.drew
    go_wp2_with fail
    refine CS1.out.mono ?_
    rintro _ W2 ⟨⟨u1, rfl⟩, hb, -, hu⟩
    have HJ2 := Lib.hid ((HJ1.out.same (w' := W1.drew) rfl HJ1.out.on.drew).one (GBank.of hb) (hu _ _ _ rfl))
    clear c1 z1 hb hu
    go_wp2
    have c2 := HJ2.out.mb.cell 4
    have z2 := HJ2.out.kb.cell 1
    simp only [refC, List.getElem?_cons_zero, List.getElem?_cons_succ] at c2 z2
    rw [← HKS.out.2.1] at z2
    have CS2 := Lib.hid (cSeen_any (w := W2.drew) k2 bit (HJ2.out.b2.rb.same rfl) HK4.out.2.1)
    refine wp_region_still_tail 7 (by kernel_rfl) (by kernel_rfl) ?_
    simp only [List.take_succ_cons, List.take_zero, List.drop_succ_cons, List.drop_zero]
    repeat still_step
    refine wpStill_nil ?_
    change wpList _ _ _ _ _ W2.drew
    go_wp2_with fail
    refine CS2.out.mono ?_
    rintro _ W3 ⟨⟨u2, rfl⟩, hb, -, hu⟩
    have HJ3 := Lib.hid ((HJ2.out.same (w' := W2.drew) rfl HJ2.out.on.drew).two (GBank.of hb) (hu _ _ _ rfl))
    clear c2 z2 hb hu
    go_wp2
    have c3 := HJ3.out.mb.cell 5
    have z3 := HJ3.out.kb.cell 2
    simp only [refC, List.getElem?_cons_zero, List.getElem?_cons_succ] at c3 z3
    rw [← HKS.out.2.2] at z3
    have CS3 := Lib.hid (cSeen_any (w := W3.drew) k3 bit (HJ3.out.b3.rb.same rfl) HK4.out.2.2)
    refine wp_region_still_tail 7 (by kernel_rfl) (by kernel_rfl) ?_
    simp only [List.take_succ_cons, List.take_zero, List.drop_succ_cons, List.drop_zero]
    repeat still_step
    refine wpStill_nil ?_
    change wpList _ _ _ _ _ W3.drew
    go_wp2_with fail
    refine CS3.out.mono ?_
    rintro _ W4 ⟨⟨u3, rfl⟩, hb, -, hu⟩
    have HJ4 := Lib.hid ((HJ3.out.same (w' := W3.drew) rfl HJ3.out.on.drew).three (GBank.of hb) (hu _ _ _ rfl))
    clear c3 z3 hb hu
    have hj4 := HJ4.out
    rw [HKS.out.1, HKS.out.2.1, HKS.out.2.2] at hj4
    have HEND := Lib.hid (fun (w' : World) h1 h2 => hj4.end_ (w' := w') H.out.ok h1 h2)
    have hmb := hj4.mb
    have hstep : s.p.step bit = if 256 ≤ nodeD s.p.node bit then ⟨1, nodeD s.p.node bit - 256, s.p.last⟩ else ⟨nodeD s.p.node bit, s.p.last, s.p.ahead⟩ := rfl
    rw [hstep] at HEND
    unfold nodeD at HEND
    unfold refC at HEND hmb
    have o2 := H.out.ok.pos.n2
    have o3 := H.out.ok.pos.l
    obtain ⟨n, hn⟩ : ∃ n, n = s.p.node := ⟨_, rfl⟩
    obtain ⟨l, hl⟩ : ∃ n, n = s.p.last := ⟨_, rfl⟩
    obtain ⟨hd, hh⟩ : ∃ n, n = s.p.ahead := ⟨_, rfl⟩
    rw [← hn, ← hl, ← hh] at HEND hmb
    rw [← hn] at o2
    rw [← hl] at o3
    have HMB := Lib.hid hmb
    have c0 := hmb.cell 0
    have c1 := hmb.cell 1
    have c2 := hmb.cell 2
    have f0 := hmb.frozen 0
    have f1 := hmb.frozen 1
    have f2 := hmb.frozen 2
    simp only [List.getElem?_cons_zero, List.getElem?_cons_succ] at c0 c1 c2
    clear hj4 hstep hn hl hh hmb HJ4 HJ3 HJ2 HJ1 CS1 CS2 CS3 CK HKS HK4
    by_cases h0 : bit = 0
    · subst h0
      rw [if_pos rfl] at HEND
      by_cases h1 : 256 ≤ 2 * n + 0
      · rw [if_pos h1] at HEND
        have h2 : 256 ≤ 2 * (n : Int) := by omega
        have HN := Lib.hid (show 2 * (n : Int) + min 0 1 - 256 = ((2 * n + 0 - 256 : Nat) : Int) by omega)
        clear h1
        go_wp2
        go_end0
        refine ⟨⟨_, rfl⟩, HEND.out _ ?_ ?_⟩
        · rw [HN.out]; exact ((((HMB.out.set_ 0 _).set_ 2 _).set_ 1 _).set_ 0 _)
        · exact (((((OnlyS.refl [r.M] W4).set_ (p := ⟨r.M, 0, none⟩) (List.mem_singleton.2 rfl) _).set_ (p := ⟨r.M, 2, none⟩) (List.mem_singleton.2 rfl) _).set_ (p := ⟨r.M, 1, none⟩) (List.mem_singleton.2 rfl) _).set_ (p := ⟨r.M, 0, none⟩) (List.mem_singleton.2 rfl) _)
      · rw [if_neg h1] at HEND
        have h2 : ¬ (256 ≤ 2 * (n : Int)) := by omega
        have HN := Lib.hid (show 2 * (n : Int) + min 0 1 = ((2 * n + 0 : Nat) : Int) by omega)
        clear h1
        go_wp2
        go_end0
        refine ⟨⟨_, rfl⟩, HEND.out _ ?_ ?_⟩
        · rw [HN.out]; exact (HMB.out.set_ 0 _)
        · exact ((OnlyS.refl [r.M] W4).set_ (p := ⟨r.M, 0, none⟩) (List.mem_singleton.2 rfl) _)
    · rw [if_neg h0] at HEND
      have hy1 : 0 < bit * bit := by
        rcases Int.lt_or_gt_of_ne h0 with g | g
        · exact Int.mul_pos_of_neg_of_neg g g
        · exact Int.mul_pos g g
      have hy2 : bit * bit ≤ 16384 := by
        have a1 := Int.natAbs_mul_self (a := bit)
        have a2 : bit.natAbs ≤ 128 := by omega
        have a3 := Nat.mul_le_mul a2 a2
        omega
      obtain ⟨y, hy⟩ : ∃ y, y = bit * bit := ⟨_, rfl⟩
      rw [← hy] at hy1 hy2
      have hw1 : IntKind.i64.wrap (bit * bit) = y := by rw [← hy, IntKind.wrap_i64]; omega
      clear hy
      by_cases h1 : 256 ≤ 2 * n + 1
      · rw [if_pos h1] at HEND
        have h2 : 256 ≤ 2 * (n : Int) + 1 := by omega
        have HN := Lib.hid (show 2 * (n : Int) + min y 1 - 256 = ((2 * n + 1 - 256 : Nat) : Int) by omega)
        clear h1
        go_wp2
        go_end0
        refine ⟨⟨_, rfl⟩, HEND.out _ ?_ ?_⟩
        · rw [HN.out]; exact ((((HMB.out.set_ 0 _).set_ 2 _).set_ 1 _).set_ 0 _)
        · exact (((((OnlyS.refl [r.M] W4).set_ (p := ⟨r.M, 0, none⟩) (List.mem_singleton.2 rfl) _).set_ (p := ⟨r.M, 2, none⟩) (List.mem_singleton.2 rfl) _).set_ (p := ⟨r.M, 1, none⟩) (List.mem_singleton.2 rfl) _).set_ (p := ⟨r.M, 0, none⟩) (List.mem_singleton.2 rfl) _)
      · rw [if_neg h1] at HEND
        have h2 : ¬ (256 ≤ 2 * (n : Int) + 1) := by omega
        have HN := Lib.hid (show 2 * (n : Int) + min y 1 = ((2 * n + 1 : Nat) : Int) by omega)
        clear h1
        go_wp2
        go_end0
        refine ⟨⟨_, rfl⟩, HEND.out _ ?_ ?_⟩
        · rw [HN.out]; exact (HMB.out.set_ 0 _)
        · exact ((OnlyS.refl [r.M] W4).set_ (p := ⟨r.M, 0, none⟩) (List.mem_singleton.2 rfl) _)
    )
/-- A plain bank that has been made. -/
theorem gbank_new {w1 w2 : World} {B M bits n : Nat} {v : Value} {R : List Nat} (h : RBank w2 B M bits n v R) (hB : w1.heap.size ≤ B) : ∃ g m, v = .slice (some ⟨g, 0, none⟩) n m ∧ GBank w2 M g bits n m R ∧ w1.heap.size ≤ M ∧ w1.heap.size ≤ g ∧ g < w2.heap.size := by
  obtain ⟨g, m, rfl, hg, hl, -⟩ := h.at_
  exact ⟨g, m, rfl, GBank.of h, Nat.le_trans hB h.low, Nat.le_trans hB hg, hl⟩
theorem GBank.grow {M g bits n m : Nat} (h : GBank w M g bits n m R) (hb : Below w.heap.size w w') : GBank w' M g bits n m R := h.only (S := []) (OnlyS.of_below hb) List.not_mem_nil List.not_mem_nil
set_option maxRecDepth 100000 in
set_option maxHeartbeats 2000000 in
theorem refNew_any (w : World) : Calls Tryz.prog 14 #[] w fun e w' => ∃ (r : RefA) (gw mw : Nat), e = .returned (.pointer (some ⟨r.M, 0, none⟩)) ∧ IsRef w' r gw mw newD ∧ (∀ k ∈ r.every, w.heap.size ≤ k) ∧ w.heap.size ≤ gw ∧ Below w.heap.size w w' := by
  have C1 := Lib.hid (fun W => cNew_any 9 512 W (by decide) (by decide))
  have C2 := Lib.hid (fun W => cNew_any 11 2048 W (by decide) (by decide))
  have C3 := Lib.hid (fun W => cNew_any 13 8192 W (by decide) (by decide))
  have CX := Lib.hid (fun W => xNew_any 3 W (by decide))
  go_enter Tryz.func14, Tryz.ntmps14
  go_wp2_with fail
  refine (C1.out _).mono ?_
  rintro e w1 ⟨M1, rfl, ⟨v1, h1⟩, hb1⟩
  obtain ⟨g1, m1, rfl, hg1⟩ := gbank_new h1 (Nat.le_refl _)
  have H1 := Lib.hid (And.intro hg1 hb1)
  clear h1 hg1 hb1
  go_wp2_with fail
  refine (C2.out _).mono ?_
  rintro e w2 ⟨M2, rfl, ⟨v2, h2⟩, hb2⟩
  obtain ⟨g2, m2, rfl, hg2⟩ := gbank_new h2 (Nat.le_refl _)
  have H2 := Lib.hid (And.intro hg2 hb2)
  clear h2 hg2 hb2
  go_wp2_with fail
  refine (C3.out _).mono ?_
  rintro e w3 ⟨M3, rfl, ⟨v3, h3⟩, hb3⟩
  obtain ⟨g3, m3, rfl, hg3⟩ := gbank_new h3 (Nat.le_refl _)
  have H3 := Lib.hid (And.intro hg3 hb3)
  clear h3 hg3 hb3
  go_wp2_with fail
  refine (CX.out _).mono ?_
  rintro e w4 ⟨v4, rfl, ho4, hb4⟩
  obtain ⟨g4, m4, rfl, hg4⟩ := own_some ho4 (by decide)
  have H4 := Lib.hid (And.intro ho4 (And.intro hg4 hb4))
  clear ho4 hg4 hb4
  obtain ⟨w5, hw5⟩ : ∃ w5, w5 = w4.alloc (.cells #[.int .i64 1, .int .i64 0, .int .i64 0, .pointer (some ⟨M1, 0, none⟩), .pointer (some ⟨M2, 0, none⟩), .pointer (some ⟨M3, 0, none⟩), .slice (some ⟨g4, 0, none⟩) 3 m4] 75) := ⟨_, rfl⟩
  have hm5 : Blk w5 w4.heap.size 75 [.int .i64 1, .int .i64 0, .int .i64 0, .pointer (some ⟨M1, 0, none⟩), .pointer (some ⟨M2, 0, none⟩), .pointer (some ⟨M3, 0, none⟩), .slice (some ⟨g4, 0, none⟩) 3 m4] := by rw [hw5]; exact heap_alloc_new w4 _
  have hb5 : Below w4.heap.size w4 w5 := by rw [hw5]; exact (Below.refl w4.heap.size w4).alloc (Nat.le_refl _) _
  obtain ⟨M, hM⟩ : ∃ M, M = w4.heap.size := ⟨_, rfl⟩
  rw [← hM] at hm5
  have hfin : IsRef w5 ⟨M, M1, g1, m1, M2, g2, m2, M3, g3, m3⟩ g4 m4 newD ∧ (∀ k ∈ (⟨M, M1, g1, m1, M2, g2, m2, M3, g3, m3⟩ : RefA).every, w.heap.size ≤ k) ∧ w.heap.size ≤ g4 ∧ Below w.heap.size w w5 := by
    obtain ⟨⟨p1, q1, r1, t1⟩, b1⟩ := H1.out
    obtain ⟨⟨p2, q2, r2, t2⟩, b2⟩ := H2.out
    obtain ⟨⟨p3, q3, r3, t3⟩, b3⟩ := H3.out
    obtain ⟨o4, l4, b4⟩ := H4.out
    have s1 := b1.size
    have s2 := b2.size
    have s3 := b3.size
    have s4 := b4.size
    have b13 := b1.trans ((b2.trans (b3.mono s2)).mono s1)
    have ho5 : OnlyS [] w4 w5 := OnlyS.of_below hb5
    refine ⟨⟨hm5, ((p1.grow b2).grow b3 |>.grow b4).grow hb5, ((p2.grow b3).grow b4).grow hb5, (p3.grow b4).grow hb5, own_onlyS (own_at o4 g4 (Nat.le_refl _)) ho5 List.not_mem_nil, newD_ok, ⟨?_, ?_, ?_, ?_, ?_, ?_⟩⟩, fun k hk => ?_, by omega, b13.trans ((b4.trans (hb5.mono s4)).mono b13.size)⟩
    · show g1 ≠ g2; omega
    · show g1 ≠ g3; omega
    · show g2 ≠ g3; omega
    · show g4 ≠ g1; omega
    · show g4 ≠ g2; omega
    · show g4 ≠ g3; omega
    · simp only [RefA.every, List.mem_cons, List.not_mem_nil, or_false] at hk
      omega
  have HFIN := Lib.hid hfin
  have HW := Lib.hid (And.intro hw5 hM)
  clear hw5 hm5 hb5 hM hfin
  go_wp2
  go_ret
  rw [← HW.out.1, ← HW.out.2]
  exact ⟨_, g4, m4, rfl, HFIN.out⟩
end
end Go.Proofs.YtgbibmgedmbboaaGreat
