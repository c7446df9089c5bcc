/- Layer 25: the program's model: P and Seen. -/
import Derived.Test.YtnghcfogigglmaaModDo
namespace Go.Proofs.Ytnghcfogigglmaa
open Go.RowKit Go.Sort

section
variable {w w' : World} {a : ModA} {s : ModD} {S : List Nat}
theorem IsBank.only {F C bits n : Nat} {R : List Nat} (h : IsBank w F C bits n R) (hu : OnlyS S w w') (h1 : F ∉ S) (h2 : C ∉ S) : IsBank w' F C bits n R := ⟨hu.blk h.fb h1, hu.blk h.cb h2, h.row, h.pow, h.lo⟩
theorem IsMix.only {F n : Nat} {W : List Int} (h : IsMix w F n W) (hu : OnlyS S w w') (h1 : F ∉ S) : IsMix w' F n W := ⟨hu.blk h.fb h1, h.wts, h.lo⟩
theorem IsModel.only (h : IsModel w a s) (hu : OnlyS S w w') (hd : ∀ k ∈ a.every, k ∉ S) : IsModel w' a s := by
  simp only [ModA.every, List.mem_cons, List.not_mem_nil, or_false, forall_eq_or_imp, forall_eq] at hd
  obtain ⟨d1, d2, d3, d4, d5, d6, d7, d8⟩ := hd
  exact ⟨hu.blk h.mb d1, h.b1.only hu d6 d2, h.b2.only hu d7 d3, h.b3.only hu d8 d4, h.x.only hu d5, h.ok, h.n12, h.n13, h.n23⟩
theorem IsModel.lt (h : IsModel w a s) : ∀ k ∈ a.every, k < w.heap.size := fun k hk => by
  have h1 := h.mb.lt
  have h2 := h.b1.cb.lt
  have h3 := h.b2.cb.lt
  have h4 := h.b3.cb.lt
  have h5 := h.x.fb.lt
  have h6 := h.b1.fb.lt
  have h7 := h.b2.fb.lt
  have h8 := h.b3.fb.lt
  simp only [ModA.every, List.mem_cons, List.not_mem_nil, or_false] at hk
  omega
theorem ne_one {x y : Nat} (h : x ≠ y) : x ∉ [y] := fun e => h (List.mem_singleton.1 e)
/-- Three values as a new row of their own. -/
theorem row3 (t : TypeId) (v1 v2 v3 : Value) (w : World) : ∃ w3, w3 = w.alloc (.cells #[v1, v2, v3] t) ∧ Blk w3 w.heap.size t [v1, v2, v3] ∧ Below w.heap.size w w3 :=
  ⟨_, rfl, heap_alloc_new w _, (Below.refl w.heap.size w).alloc (Nat.le_refl _) (.cells #[v1, v2, v3] t)⟩
set_option maxHeartbeats 1000000 in
theorem modP_any (h : IsModel w a s) :
    Calls Try.prog 12 #[.pointer (some ⟨a.M, 0, none⟩)] w fun e w' => e = .returned (.int .i64 s.chance) ∧ Below w.heap.size w w' := by
  have CK := Lib.hid (modKeys_any h.mb h.ok.pos)
  have CC := Lib.hid (fun (W : World) (hb : Below w.heap.size w W) => modChances_any (h.grow hb))
  have H := Lib.hid h
  obtain ⟨p, hp⟩ : ∃ p, p = s.chance := ⟨_, rfl⟩
  have HP := Lib.hid hp
  rw [← hp]
  clear h hp
  go_enter Try.func12, Try.ntmps12
  go_wp2_with fail
  refine CK.out.mono ?_
  rintro e w1 ⟨rfl, hb1⟩
  have CC1 := Lib.hid (CC.out w1 hb1)
  have HB1 := Lib.hid hb1
  clear hb1
  go_wp2_with fail
  refine CC1.out.mono ?_
  rintro e w2 ⟨rfl, hb2⟩
  have HB2 := Lib.hid (HB1.out.trans (hb2.mono HB1.out.size))
  clear hb2
  have hch : zvs s.ch = [.int .i64 ((s.A.getD s.i1 0 : Nat) : Int), .int .i64 ((s.B.getD s.i2 0 : Nat) : Int), .int .i64 ((s.C.getD s.i3 0 : Nat) : Int)] := rfl
  unfold chV
  obtain ⟨c1, hc1⟩ : ∃ c, c = s.A.getD s.i1 0 := ⟨_, rfl⟩
  obtain ⟨c2, hc2⟩ : ∃ c, c = s.B.getD s.i2 0 := ⟨_, rfl⟩
  obtain ⟨c3, hc3⟩ : ∃ c, c = s.C.getD s.i3 0 := ⟨_, rfl⟩
  rw [← hc1, ← hc2, ← hc3] at hch ⊢
  obtain ⟨w3, hw3, hr3, hb3⟩ := row3 48 (.int .i64 (c1 : Int)) (.int .i64 (c2 : Int)) (.int .i64 (c3 : Int)) w2
  have hm3 := (H.out.grow HB2.out).grow hb3
  have CP := Lib.hid (fun (W : World) (e : W.heap = w3.heap) => mixP_any (w := W) (m := 3) (hm3.x.same e) (rd_same (Rd.of_blk (by rw [hch]; exact hr3)) e) s.ch_len)
  have cx := hm3.mb.cell 3
  simp only [modC, List.getElem?_cons_zero, List.getElem?_cons_succ] at cx
  have HB3 := Lib.hid (HB2.out.trans (hb3.mono HB2.out.size))
  have HW3 := Lib.hid hw3
  clear hch hc1 hc2 hc3 hw3 hr3 hb3 hm3
  go_wp2
  rw [← HW3.out]
  go_quiet ((go_at_call 28; exact quietD CP.out))
  go_wp2
  go_ret
  exact ⟨by rw [HP.out]; rfl, below_drewn HB3.out⟩
/-- What holds while a model's banks follow: the chances A, B, C of the three. -/
structure SeenJ (w wr : World) (a : ModA) (s : ModD) (W : List Int) (gk : Nat) (A B C : List Nat) : Prop where
  mb : Blk wr a.M 47 (modC a s.p)
  b1 : IsBank wr a.F1 a.C1 9 512 A
  b2 : IsBank wr a.F2 a.C2 11 2048 B
  b3 : IsBank wr a.F3 a.C3 13 8192 C
  x : IsMix wr a.X 3 W
  kb : Blk wr gk 53 [.int .u32 (s.p.k1 : Int), .int .u32 (s.p.k2 : Int), .int .u32 (s.p.k3 : Int)]
  on : OnlyS a.all w wr
section
variable {wr : World} {W : List Int} {gk : Nat} {A B C R : List Nat}
theorem IsBank.turned {F C F' C' bits bits' n n' : Nat} {R R' : List Nat} (h : IsBank w F C bits n R) (h' : IsBank w F' C' bits' n' R') (hu : TurnsB C' C' w w') (hne : C ≠ C') : IsBank w' F C bits n R :=
  ⟨hu.blk h.fb (blk_ne h.fb h'.cb (by decide)) (blk_ne h.fb h'.cb (by decide)), hu.blk h.cb hne hne, h.row, h.pow, h.lo⟩
theorem SeenJ.rest (h : SeenJ w wr a s W gk A B C) {F C' bits n : Nat} (hb : IsBank wr F C' bits n R) (hu : TurnsB C' C' wr w') (hC : C' ∈ a.all) :
    Blk w' a.M 47 (modC a s.p) ∧ IsMix w' a.X 3 W ∧ Blk w' gk 53 [.int .u32 (s.p.k1 : Int), .int .u32 (s.p.k2 : Int), .int .u32 (s.p.k3 : Int)] ∧ OnlyS a.all w w' :=
  ⟨hu.blk h.mb (blk_ne h.mb hb.cb (by decide)) (blk_ne h.mb hb.cb (by decide)), ⟨hu.blk h.x.fb (blk_ne h.x.fb hb.cb (by decide)) (blk_ne h.x.fb hb.cb (by decide)), h.x.wts, h.x.lo⟩,
    hu.blk h.kb (blk_ne h.kb hb.cb (by decide)) (blk_ne h.kb hb.cb (by decide)), h.on.trans (OnlyS.of_turns hu hC)⟩
theorem SeenJ.one (h : SeenJ w wr a s W gk A B C) (h12 : a.C1 ≠ a.C2) (h13 : a.C1 ≠ a.C3) (hb : IsBank w' a.F1 a.C1 9 512 R) (hu : TurnsB a.C1 a.C1 wr w') : SeenJ w w' a s W gk R B C :=
  have r := h.rest h.b1 hu (by simp [ModA.all])
  ⟨r.1, hb, h.b2.turned h.b1 hu h12.symm, h.b3.turned h.b1 hu h13.symm, r.2.1, r.2.2.1, r.2.2.2⟩
theorem SeenJ.two (h : SeenJ w wr a s W gk A B C) (h12 : a.C1 ≠ a.C2) (h23 : a.C2 ≠ a.C3) (hb : IsBank w' a.F2 a.C2 11 2048 R) (hu : TurnsB a.C2 a.C2 wr w') : SeenJ w w' a s W gk A R C :=
  have r := h.rest h.b2 hu (by simp [ModA.all])
  ⟨r.1, h.b1.turned h.b2 hu h12, hb, h.b3.turned h.b2 hu h23.symm, r.2.1, r.2.2.1, r.2.2.2⟩
theorem SeenJ.three (h : SeenJ w wr a s W gk A B C) (h13 : a.C1 ≠ a.C3) (h23 : a.C2 ≠ a.C3) (hb : IsBank w' a.F3 a.C3 13 8192 R) (hu : TurnsB a.C3 a.C3 wr w') : SeenJ w w' a s W gk A B R :=
  have r := h.rest h.b3 hu (by simp [ModA.all])
  ⟨r.1, h.b1.turned h.b3 hu h13, h.b2.turned h.b3 hu h23, hb, r.2.1, r.2.2.1, r.2.2.2⟩
end
set_option maxHeartbeats 2000000 in
theorem modSeen_any (bit : Int) (h : IsModel w a s) :
    Calls Try.prog 9 #[.pointer (some ⟨a.M, 0, none⟩), .int .i64 bit] w fun e w' => (∃ u, e = .returned u) ∧ IsModel w' a (s.seen bit) ∧ OnlyS a.all w w' := by
  have CK := Lib.hid (modKeys_any h.mb h.ok.pos)
  have CC := Lib.hid (fun (W : World) (hb : Below w.heap.size w W) => modChances_any (h.grow hb))
  have H := Lib.hid h
  clear h
  go_enter Try.func9, Try.ntmps9
  go_wp2_with fail
  refine CK.out.mono ?_
  rintro e w1 ⟨rfl, hb1⟩
  unfold keysV
  obtain ⟨w2, hw2, hk2, hb2⟩ := row3 53 (.int .u32 (s.p.k1 : Int)) (.int .u32 (s.p.k2 : Int)) (.int .u32 (s.p.k3 : Int)) w1
  have hb12 := hb1.trans (hb2.mono hb1.size)
  have CC1 := CC.out w2 hb12
  unfold keysV at CC1
  have CC2 := Lib.hid CC1
  obtain ⟨k1, hk1⟩ : ∃ k, k = s.p.k1 := ⟨_, rfl⟩
  obtain ⟨k2, hk2'⟩ : ∃ k, k = s.p.k2 := ⟨_, rfl⟩
  obtain ⟨k3, hk3⟩ : ∃ k, k = s.p.k3 := ⟨_, rfl⟩
  rw [← hk1, ← hk2', ← hk3] at hk2 hw2 CC2 ⊢
  have q0 := hk2.cell 0
  have q1 := hk2.cell 1
  have q2 := hk2.cell 2
  simp only [List.getElem?_cons_zero, List.getElem?_cons_succ] at q0 q1 q2
  have HB12 := Lib.hid hb12
  have HW2 := Lib.hid hw2
  have HK2 := Lib.hid hk2
  have HKS := Lib.hid (And.intro hk1 (And.intro hk2' hk3))
  clear hb1 hb2 hb12 CC1 hk2 hw2 hk1 hk2' hk3
  go_wp2_with fail
  rw [← HW2.out]
  refine CC2.out.mono ?_
  rintro e w3 ⟨rfl, hb3⟩
  have hb13 := HB12.out.trans (hb3.mono HB12.out.size)
  have hk3 := HK2.out.grow hb3
  have hch : zvs s.ch = [.int .i64 ((s.A.getD s.i1 0 : Nat) : Int), .int .i64 ((s.B.getD s.i2 0 : Nat) : Int), .int .i64 ((s.C.getD s.i3 0 : Nat) : Int)] := rfl
  unfold chV
  obtain ⟨c1, hc1⟩ : ∃ c, c = s.A.getD s.i1 0 := ⟨_, rfl⟩
  obtain ⟨c2, hc2⟩ : ∃ c, c = s.B.getD s.i2 0 := ⟨_, rfl⟩
  obtain ⟨c3, hc3⟩ : ∃ c, c = s.C.getD s.i3 0 := ⟨_, rfl⟩
  rw [← hc1, ← hc2, ← hc3] at hch ⊢
  obtain ⟨w4, hw4, hr4, hb4⟩ := row3 48 (.int .i64 (c1 : Int)) (.int .i64 (c2 : Int)) (.int .i64 (c3 : Int)) w3
  have hb14 := hb13.trans (hb4.mono hb13.size)
  have hm4 := H.out.grow hb14
  have hk4 := hk3.grow hb4
  have cx := hm4.mb.cell 3
  simp only [modC, List.getElem?_cons_zero, List.getElem?_cons_succ] at cx
  have CS := Lib.hid (mixSeen_any (w := w4.drew) (m := 3) bit (hm4.x.same rfl) (rd_turns2 (t := 48) (cs := zvs s.ch) (by rw [hch]; exact hr4.drew_) (blk_ne hr4 hm4.x.fb (by decide)) rfl) s.ch_len)
  have HM4 := Lib.hid (And.intro hm4 (And.intro hk4 hb14))
  have HW4 := Lib.hid hw4
  obtain ⟨gk, hgk⟩ : ∃ g, g = w1.heap.size := ⟨_, rfl⟩
  have HGK := Lib.hid hgk
  clear hch hc1 hc2 hc3 hw4 hr4 hb4 hm4 hk4 hk3 hb13 hb14 hb3 q0 q1 q2 hgk
  go_wp2
  rw [← HW4.out, ← HGK.out]
  refine wp_region_still_tail 6 (by kernel_rfl) (by kernel_rfl) ?_
  simp only [List.take_succ_cons, List.take_zero, List.drop_succ_cons, List.drop_zero]
  repeat still_step
  refine wpStill_nil ?_
  change wpList _ _ _ _ _ w4.drew
  go_wp2_with fail
  refine CS.out.mono ?_
  rintro e w5 ⟨⟨u, rfl⟩, hx5, hu5⟩
  have hj5 : SeenJ w w5 a s (seenM s.W s.ch bit) gk s.A s.B s.C := by
    obtain ⟨hm, hk, hb⟩ := HM4.out
    rw [← HGK.out, HKS.out.1, HKS.out.2.1, HKS.out.2.2] at hk
    have e1 := fun {g : Nat} {t : TypeId} {cs : List Value} (h : Blk w4 g t cs) (hne : t ≠ 64) => hu5.blk (h.same rfl : Blk w4.drew g t cs) (blk_ne h hm.x.fb hne) (blk_ne h hm.x.fb hne)
    exact ⟨e1 hm.mb (by decide), ⟨e1 hm.b1.fb (by decide), e1 hm.b1.cb (by decide), hm.b1.row, hm.b1.pow, hm.b1.lo⟩, ⟨e1 hm.b2.fb (by decide), e1 hm.b2.cb (by decide), hm.b2.row, hm.b2.pow, hm.b2.lo⟩, ⟨e1 hm.b3.fb (by decide), e1 hm.b3.cb (by decide), hm.b3.row, hm.b3.pow, hm.b3.lo⟩, hx5, e1 hk (by decide),
      ((OnlyS.of_below hb).drew).trans (OnlyS.of_turns hu5 (by simp [ModA.all]))⟩
  have HJ5 := Lib.hid hj5
  have N := Lib.hid (And.intro H.out.n12 (And.intro H.out.n13 H.out.n23))
  have cb0 := hj5.mb.cell 0
  have cb1 := hj5.mb.cell 1
  have cb2 := hj5.mb.cell 2
  simp only [modC, List.getElem?_cons_zero, List.getElem?_cons_succ] at cb0 cb1 cb2
  clear hj5 hx5 hu5 cx
  go_wp2
  clear cb0 cb1 cb2
  go_loopw [26] (fun ii wr =>
    (ii = .int .i64 0 ∧ SeenJ w wr a s (seenM s.W s.ch bit) gk s.A s.B s.C)
    ∨ (ii = .int .i64 1 ∧ SeenJ w wr a s (seenM s.W s.ch bit) gk (seenC s.A (placeC k1 9) bit) s.B s.C)
    ∨ (ii = .int .i64 2 ∧ SeenJ w wr a s (seenM s.W s.ch bit) gk (seenC s.A (placeC k1 9) bit) (seenC s.B (placeC k2 11) bit) s.C)
    ∨ (ii = .int .i64 3 ∧ SeenJ w wr a s (seenM s.W s.ch bit) gk (seenC s.A (placeC k1 9) bit) (seenC s.B (placeC k2 11) bit) (seenC s.C (placeC k3 13) bit))) (fun ii _ => 3 - (intOf ii).toNat)
  case atStart => exact .inl ⟨rfl, HJ5.out⟩
  case round =>
    clear HJ5 HM4 HW4 HW2 HK2 HB12
    rcases hrel with ⟨rfl, hJ⟩ | ⟨rfl, hJ⟩ | ⟨rfl, hJ⟩ | ⟨rfl, hJ⟩
    · have HJ := Lib.hid hJ
      have CS := Lib.hid (ctxSeen_any k1 bit hJ.b1)
      have ix := (idxB (.pointer (some ⟨a.F1, 0, none⟩)) (.pointer (some ⟨a.F2, 0, none⟩)) (.pointer (some ⟨a.F3, 0, none⟩)) wr).1
      have kk := hJ.kb.cell 0
      simp only [List.getElem?_cons_zero] at kk
      rw [← HKS.out.1] at kk
      clear hJ
      go_wp2_with fail
      refine CS.out.mono ?_
      rintro e w6 ⟨⟨u, rfl⟩, hb, hu⟩
      have HJ6 := Lib.hid (HJ.out.one N.out.1 N.out.2.1 hb hu)
      clear hb hu
      go_wp2
      go_roundw
      case rel => exact .inr (.inl ⟨rfl, HJ6.out⟩)
      case measure => simp [intOf]
    · have HJ := Lib.hid hJ
      have CS := Lib.hid (ctxSeen_any k2 bit hJ.b2)
      have ix := (idxB (.pointer (some ⟨a.F1, 0, none⟩)) (.pointer (some ⟨a.F2, 0, none⟩)) (.pointer (some ⟨a.F3, 0, none⟩)) wr).2.1
      have kk := hJ.kb.cell 1
      simp only [List.getElem?_cons_zero, List.getElem?_cons_succ] at kk
      rw [← HKS.out.2.1] at kk
      clear hJ
      go_wp2_with fail
      refine CS.out.mono ?_
      rintro e w6 ⟨⟨u, rfl⟩, hb, hu⟩
      have HJ6 := Lib.hid (HJ.out.two N.out.1 N.out.2.2 hb hu)
      clear hb hu
      go_wp2
      go_roundw
      case rel => exact .inr (.inr (.inl ⟨rfl, HJ6.out⟩))
      case measure => simp [intOf]
    · have HJ := Lib.hid hJ
      have CS := Lib.hid (ctxSeen_any k3 bit hJ.b3)
      have ix := (idxB (.pointer (some ⟨a.F1, 0, none⟩)) (.pointer (some ⟨a.F2, 0, none⟩)) (.pointer (some ⟨a.F3, 0, none⟩)) wr).2.2
      have kk := hJ.kb.cell 2
      simp only [List.getElem?_cons_zero, List.getElem?_cons_succ] at kk
      rw [← HKS.out.2.2] at kk
      clear hJ
      go_wp2_with fail
      refine CS.out.mono ?_
      rintro e w6 ⟨⟨u, rfl⟩, hb, hu⟩
      have HJ6 := Lib.hid (HJ.out.three N.out.2.1 N.out.2.2 hb hu)
      clear hb hu
      go_wp2
      go_roundw
      case rel => exact .inr (.inr (.inr (⟨rfl, HJ6.out⟩)))
      case measure => simp [intOf]
    · have HJ := Lib.hid hJ
      have CT := Lib.hid (modStep_any bit hJ.mb H.out.ok.pos)
      clear hJ
      go_wp2_with fail
      refine CT.out.mono ?_
      rintro e w6 ⟨⟨u, rfl⟩, hm6, hu6⟩
      have hj := HJ.out
      have hs : s.seen bit = ⟨s.p.step bit, seenC s.A (placeC k1 9) bit, seenC s.B (placeC k2 11) bit, seenC s.C (placeC k3 13) bit, seenM s.W s.ch bit⟩ := by
        rw [HKS.out.1, HKS.out.2.1, HKS.out.2.2]; rfl
      have hok := H.out.ok.seen bit
      have hfin : IsModel w6 a (s.seen bit) := by
        have ne := fun {g : Nat} {t : TypeId} {cs : List Value} (h : Blk wr g t cs) (hne : t ≠ 47) => ne_one (blk_ne h hj.mb hne)
        rw [hs] at hok ⊢
        exact ⟨hm6, hj.b1.only hu6 (ne hj.b1.fb (by decide)) (ne hj.b1.cb (by decide)), hj.b2.only hu6 (ne hj.b2.fb (by decide)) (ne hj.b2.cb (by decide)), hj.b3.only hu6 (ne hj.b3.fb (by decide)) (ne hj.b3.cb (by decide)), hj.x.only hu6 (ne hj.x.fb (by decide)), hok, N.out.1, N.out.2.1, N.out.2.2⟩
      have HFIN := Lib.hid (And.intro hfin (hj.on.trans (hu6.mono (T := a.all) fun k hk => by rw [List.mem_singleton.1 hk]; simp [ModA.all])))
      clear hj hs hok hfin hm6 hu6
      go_wp2
      go_end0
      exact ⟨⟨_, rfl⟩, HFIN.out.1, HFIN.out.2⟩
end
end Go.Proofs.Ytnghcfogigglmaa
