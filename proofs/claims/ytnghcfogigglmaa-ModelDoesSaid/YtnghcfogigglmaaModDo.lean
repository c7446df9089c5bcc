/- Layer 25: the program's model: keys, chances, P, Seen, Where. -/
import Derived.Test.YtnghcfogigglmaaModFn
import Derived.Laws.Rows
import Derived.OwnWalk
namespace Go.Proofs.Ytnghcfogigglmaa
open Go.RowKit Go.Sort

/-- A model lies there, and knows s. -/
structure IsModel (w : World) (a : ModA) (s : ModD) : Prop where
  mb : Blk w a.M 47 (modC a s.p)
  b1 : IsBank w a.F1 a.C1 9 512 s.A
  b2 : IsBank w a.F2 a.C2 11 2048 s.B
  b3 : IsBank w a.F3 a.C3 13 8192 s.C
  x : IsMix w a.X 3 s.W
  ok : s.ok
  n12 : a.C1 ≠ a.C2
  n13 : a.C1 ≠ a.C3
  n23 : a.C2 ≠ a.C3
section
variable {w w' : World} {a : ModA} {s : ModD}
theorem IsModel.grow (h : IsModel w a s) (hb : Below w.heap.size w w') : IsModel w' a s :=
  ⟨h.mb.grow hb, h.b1.grow hb, h.b2.grow hb, h.b3.grow hb, h.x.grow hb, h.ok, h.n12, h.n13, h.n23⟩
theorem IsModel.same (h : IsModel w a s) (e : w'.heap = w.heap) : IsModel w' a s :=
  ⟨h.mb.same e, h.b1.same e, h.b2.same e, h.b3.same e, h.x.same e, h.ok, h.n12, h.n13, h.n23⟩
/-- The three keys, as a row. -/
def keysV (p : PosD) : Value := .agg #[.int .u32 (p.k1 : Int), .int .u32 (p.k2 : Int), .int .u32 (p.k3 : Int)]

theorem modWhere_nil (w : World) : Calls Try.prog 11 #[.pointer none] w fun e w' => e = .returned (.tuple #[.int .i64 0, .int .i64 0, .int .i64 0]) ∧ w' = w := by
  go_enter Try.func11, Try.ntmps11
  go_wp2
  refine bodyPost_ret (results_tmp3 rfl _ _ _) rfl ?_
  exact ⟨rfl, rfl⟩
theorem modP_nil (w : World) : Calls Try.prog 12 #[.pointer none] w fun e w' => e = .returned (.int .i64 0) ∧ w' = w := by
  go_enter Try.func12, Try.ntmps12
  go_wp2
  go_ret
  exact ⟨rfl, rfl⟩
theorem modSeen_nil (bit : Int) (w : World) : Calls Try.prog 9 #[.pointer none, .int .i64 bit] w fun e w' => (∃ u, e = .returned u) ∧ w' = w := by
  go_enter Try.func9, Try.ntmps9
  go_wp2
  refine bodyPost_ret (results_none rfl _ _ _) rfl ?_
  exact ⟨⟨_, rfl⟩, rfl⟩
theorem modWhere_any {p : PosD} (hb : Blk w a.M 47 (modC a p)) :
    Calls Try.prog 11 #[.pointer (some ⟨a.M, 0, none⟩)] w fun e w' => e = .returned (.tuple #[.int .i64 (p.node : Int), .int .i64 (p.last : Int), .int .i64 (p.ahead : Int)]) ∧ ∃ j, w' = w.drewN j := by
  have c4 := hb.cell 4
  have c5 := hb.cell 5
  have c6 := hb.cell 6
  simp only [modC, List.getElem?_cons_zero, List.getElem?_cons_succ] at c4 c5 c6
  clear hb
  go_enter Try.func11, Try.ntmps11
  go_wp2
  go_quiet (fail)
  go_wp2
  refine bodyPost_ret (results_tmp3 rfl _ _ _) rfl ?_
  exact ⟨rfl, _, rfl⟩
theorem size_keys : (Try.prog.info? 53).map (·.size) = some 3 := by kernel_rfl
set_option maxHeartbeats 1000000 in
theorem modKeys_any {p : PosD} (hb : Blk w a.M 47 (modC a p)) (ho : p.ok) :
    Calls Try.prog 19 #[.pointer (some ⟨a.M, 0, none⟩)] w fun e w' => e = .returned (keysV p) ∧ Below w.heap.size w w' := by
  obtain ⟨o1, o2, o3, o4⟩ := ho
  unfold keysV PosD.k1 PosD.k2 PosD.k3
  unfold modC at hb
  obtain ⟨n, l, h⟩ := p
  simp only at *
  obtain ⟨w1, hw1⟩ : ∃ w1, w1 = w.alloc (.cells #[.int .u32 0, .int .u32 0, .int .u32 0] 53) := ⟨_, rfl⟩
  have hb1 := hb.alloc_ (.cells #[.int .u32 0, .int .u32 0, .int .u32 0] 53)
  have hr1 : Blk (w.alloc (.cells #[.int .u32 0, .int .u32 0, .int .u32 0] 53)) w.heap.size 53 [.int .u32 0, .int .u32 0, .int .u32 0] := heap_alloc_new w _
  have hbel := (Below.refl w.heap.size w).alloc (Nat.le_refl _) (.cells #[.int .u32 0, .int .u32 0, .int .u32 0] 53)
  rw [← hw1] at hb1 hr1 hbel
  have c4 := hb1.cell 4
  have c5 := hb1.cell 5
  have c6 := hb1.cell 6
  simp only [List.getElem?_cons_zero, List.getElem?_cons_succ] at c4 c5 c6
  obtain ⟨g, hg⟩ : ∃ g, g = w.heap.size := ⟨_, rfl⟩
  have HR := Lib.hid (show Blk w1 g 53 [.int .u32 0, .int .u32 0, .int .u32 0] by rw [hg]; exact hr1)
  have HBL := Lib.hid (And.intro hbel (Nat.le_of_eq hg.symm))
  have HW := Lib.hid (And.intro hw1 hg)
  clear hb hb1 hr1 hbel hw1 hg
  go_enter Try.func19, Try.ntmps19
  go_wp2
  rw [← HW.out.1, ← HW.out.2]
  have hr := HR.out
  have d0 := hr.cell 0
  have d1 := hr.cell 1
  have d2 := hr.cell 2
  have f0 := hr.frozen 0
  have f1 := hr.frozen 1
  have f2 := hr.frozen 2
  simp only [List.getElem?_cons_zero, List.getElem?_cons_succ] at d0 d1 d2
  clear hr
  go_quiet (fail)
  go_wp2
  have hfin := ((((HR.out.same (show (w1.drewN nq).heap = w1.heap from rfl)).set_ 0 (.int .u32 (n : Int))).set_ 1 (.int .u32 (65536 + (l : Int) * 256 + (n : Int)))).set_ 2 (.int .u32 (16777216 + (h : Int) * 65536 + (l : Int) * 256 + (n : Int))))
  refine bodyPost_ret (v := .agg #[.int .u32 (n : Int), .int .u32 (65536 + (l : Int) * 256 + (n : Int)), .int .u32 (16777216 + (h : Int) * 65536 + (l : Int) * 256 + (n : Int))]) (results_cell_row Try.results19 _ _ g 53 _ (0, 0) _ rfl hfin Try.underlying53 rfl size_keys) rfl ⟨?_, ?_⟩
  · rw [show ((65536 + 256 * l + n : Nat) : Int) = 65536 + (l : Int) * 256 + (n : Int) by omega, show ((16777216 + 65536 * h + 256 * l + n : Nat) : Int) = 16777216 + (h : Int) * 65536 + (l : Int) * 256 + (n : Int) by omega]
  · exact (((below_drewn HBL.out.1).setCell (p := ⟨g, 0, none⟩) HBL.out.2 _).setCell (p := ⟨g, 1, none⟩) HBL.out.2 _).setCell (p := ⟨g, 2, none⟩) HBL.out.2 _
theorem idxB (x y z : Value) (w : World) : (Instr.index 45 (.agg #[x, y, z]) (.int .i64 0)).run Try.prog w = .ok x w ∧ (Instr.index 45 (.agg #[x, y, z]) (.int .i64 1)).run Try.prog w = .ok y w ∧ (Instr.index 45 (.agg #[x, y, z]) (.int .i64 2)).run Try.prog w = .ok z w :=
  ⟨by kernel_rfl, by kernel_rfl, by kernel_rfl⟩
/-- What the three banks tell, as a row. -/
def chV (s : ModD) : Value := .agg #[.int .i64 ((s.A.getD s.i1 0 : Nat) : Int), .int .i64 ((s.B.getD s.i2 0 : Nat) : Int), .int .i64 ((s.C.getD s.i3 0 : Nat) : Int)]
theorem size_ints3 : (Try.prog.info? 48).map (·.size) = some 3 := by kernel_rfl
set_option maxHeartbeats 2000000 in
theorem modChances_any (h : IsModel w a s) :
    Calls Try.prog 20 #[.pointer (some ⟨a.M, 0, none⟩), keysV s.p] w fun e w' => e = .returned (chV s) ∧ Below w.heap.size w w' := by
  have CP1 := Lib.hid (fun (W : World) (hb : Below w.heap.size w W) => ctxP_any s.p.k1 (h.grow hb).b1)
  have CP2 := Lib.hid (fun (W : World) (hb : Below w.heap.size w W) => ctxP_any s.p.k2 (h.grow hb).b2)
  have CP3 := Lib.hid (fun (W : World) (hb : Below w.heap.size w W) => ctxP_any s.p.k3 (h.grow hb).b3)
  unfold keysV chV ModD.i1 ModD.i2 ModD.i3
  obtain ⟨c1, hc1⟩ : ∃ c, c = s.A.getD (placeC s.p.k1 9) 0 := ⟨_, rfl⟩
  obtain ⟨c2, hc2⟩ : ∃ c, c = s.B.getD (placeC s.p.k2 11) 0 := ⟨_, rfl⟩
  obtain ⟨c3, hc3⟩ : ∃ c, c = s.C.getD (placeC s.p.k3 13) 0 := ⟨_, rfl⟩
  rw [← hc1] at CP1 ⊢
  rw [← hc2] at CP2 ⊢
  rw [← hc3] at CP3 ⊢
  obtain ⟨k1, hk1⟩ : ∃ k, k = s.p.k1 := ⟨_, rfl⟩
  obtain ⟨k2, hk2⟩ : ∃ k, k = s.p.k2 := ⟨_, rfl⟩
  obtain ⟨k3, hk3⟩ : ∃ k, k = s.p.k3 := ⟨_, rfl⟩
  rw [← hk1] at CP1 ⊢
  rw [← hk2] at CP2 ⊢
  rw [← hk3] at CP3 ⊢
  have hb := h.mb
  unfold modC at hb
  obtain ⟨n, hn⟩ : ∃ n : Int, n = (s.p.node : Int) := ⟨_, rfl⟩
  obtain ⟨l, hl⟩ : ∃ n : Int, n = (s.p.last : Int) := ⟨_, rfl⟩
  obtain ⟨hd, hh⟩ : ∃ n : Int, n = (s.p.ahead : Int) := ⟨_, rfl⟩
  rw [← hn, ← hl, ← hh] at hb
  clear hc1 hc2 hc3 hk1 hk2 hk3 hn hl hh h
  have hb1 := ((Below.refl w.heap.size w).alloc (Nat.le_refl _) (.cells #[.int .u32 (k1 : Int), .int .u32 (k2 : Int), .int .u32 (k3 : Int)] 53))
  have hk1 : Blk (w.alloc (.cells #[.int .u32 (k1 : Int), .int .u32 (k2 : Int), .int .u32 (k3 : Int)] 53)) w.heap.size 53 [.int .u32 (k1 : Int), .int .u32 (k2 : Int), .int .u32 (k3 : Int)] := heap_alloc_new w _
  obtain ⟨w1, hw1⟩ : ∃ w1, w1 = w.alloc (.cells #[.int .u32 (k1 : Int), .int .u32 (k2 : Int), .int .u32 (k3 : Int)] 53) := ⟨_, rfl⟩
  rw [← hw1] at hb1 hk1
  have hb2 := hb1.alloc hb1.size (.cells #[.int .i64 0, .int .i64 0, .int .i64 0] 48)
  have hk2 := hk1.alloc_ (.cells #[.int .i64 0, .int .i64 0, .int .i64 0] 48)
  have hr2 : Blk (w1.alloc (.cells #[.int .i64 0, .int .i64 0, .int .i64 0] 48)) w1.heap.size 48 [.int .i64 0, .int .i64 0, .int .i64 0] := heap_alloc_new w1 _
  obtain ⟨w2, hw2⟩ : ∃ w2, w2 = w1.alloc (.cells #[.int .i64 0, .int .i64 0, .int .i64 0] 48) := ⟨_, rfl⟩
  rw [← hw2] at hb2 hk2 hr2
  have hb3 := hb2.alloc hb2.size (.cells #[.int .i64 0, .int .i64 0, .int .i64 0] 48)
  have hk3 := hk2.alloc_ (.cells #[.int .i64 0, .int .i64 0, .int .i64 0] 48)
  have hr3 := hr2.alloc_ (.cells #[.int .i64 0, .int .i64 0, .int .i64 0] 48)
  have hs3 : Blk (w2.alloc (.cells #[.int .i64 0, .int .i64 0, .int .i64 0] 48)) w2.heap.size 48 [.int .i64 0, .int .i64 0, .int .i64 0] := heap_alloc_new w2 _
  obtain ⟨w3, hw3⟩ : ∃ w3, w3 = w2.alloc (.cells #[.int .i64 0, .int .i64 0, .int .i64 0] 48) := ⟨_, rfl⟩
  rw [← hw3] at hb3 hk3 hr3 hs3
  have hm3 := hb.grow hb3
  obtain ⟨gk, hgk⟩ : ∃ g, g = w.heap.size := ⟨_, rfl⟩
  obtain ⟨g4, hg4⟩ : ∃ g, g = w1.heap.size := ⟨_, rfl⟩
  obtain ⟨g5, hg5⟩ : ∃ g, g = w2.heap.size := ⟨_, rfl⟩
  rw [← hg5] at hs3
  rw [← hg4] at hr3
  have HNE := Lib.hid (show gk ≠ g5 by rw [hgk]; exact blk_ne hk3 hs3 (by decide))
  have HNE4 := Lib.hid (show g4 ≠ g5 by rw [hg4, hg5]; exact Nat.ne_of_lt hr2.lt)
  have HG5 := Lib.hid (show w.heap.size ≤ g5 by rw [hg5]; exact hb2.size)
  have HG4 := Lib.hid (show w.heap.size ≤ g4 by rw [hg4]; exact hb1.size)
  have HS3 := Lib.hid (And.intro (show Blk w3 gk 53 _ by rw [hgk]; exact hk3) (And.intro hr3 (And.intro hs3 hb3)))
  have c0 := hm3.cell 0
  have c1' := hm3.cell 1
  have c2' := hm3.cell 2
  simp only [List.getElem?_cons_zero, List.getElem?_cons_succ] at c0 c1' c2'
  have e4 : w.heap.size + 1 = g4 := by rw [hg4, hw1]; simp
  have e5 : g4 + 1 = g5 := by rw [hg5, hw2, hg4]; simp
  have HW := Lib.hid (And.intro hw1 (And.intro hw2 (And.intro hw3 (And.intro hgk (And.intro e4 e5)))))
  rw [hw3, hw2, hw1] at c0 c1' c2'
  clear hb hb1 hb2 hb3 hk1 hk2 hk3 hr2 hr3 hs3 hm3 hw1 hw2 hw3 hgk hg4 hg5 e4 e5
  go_enter Try.func20, Try.ntmps20
  go_wp2
  rw [← HW.out.1, ← HW.out.2.1, ← HW.out.2.2.1, HW.out.2.2.2.2.1, HW.out.2.2.2.2.2, ← HW.out.2.2.2.1]
  clear c0 c1' c2'
  go_loopw [12] (fun ii wr =>
    (ii = .int .i64 0 ∧ Blk wr g5 48 [.int .i64 0, .int .i64 0, .int .i64 0] ∧ Blk wr gk 53 [.int .u32 (k1 : Int), .int .u32 (k2 : Int), .int .u32 (k3 : Int)] ∧ Blk wr g4 48 [.int .i64 0, .int .i64 0, .int .i64 0] ∧ Below w.heap.size w wr)
    ∨ (ii = .int .i64 1 ∧ Blk wr g5 48 [.int .i64 (c1 : Int), .int .i64 0, .int .i64 0] ∧ Blk wr gk 53 [.int .u32 (k1 : Int), .int .u32 (k2 : Int), .int .u32 (k3 : Int)] ∧ Blk wr g4 48 [.int .i64 0, .int .i64 0, .int .i64 0] ∧ Below w.heap.size w wr)
    ∨ (ii = .int .i64 2 ∧ Blk wr g5 48 [.int .i64 (c1 : Int), .int .i64 (c2 : Int), .int .i64 0] ∧ Blk wr gk 53 [.int .u32 (k1 : Int), .int .u32 (k2 : Int), .int .u32 (k3 : Int)] ∧ Blk wr g4 48 [.int .i64 0, .int .i64 0, .int .i64 0] ∧ Below w.heap.size w wr)
    ∨ (ii = .int .i64 3 ∧ Blk wr g5 48 [.int .i64 (c1 : Int), .int .i64 (c2 : Int), .int .i64 (c3 : Int)] ∧ Blk wr gk 53 [.int .u32 (k1 : Int), .int .u32 (k2 : Int), .int .u32 (k3 : Int)] ∧ Blk wr g4 48 [.int .i64 0, .int .i64 0, .int .i64 0] ∧ Below w.heap.size w wr)) (fun ii _ => 3 - (intOf ii).toNat)
  case atStart => exact .inl ⟨rfl, HS3.out.2.2.1, HS3.out.1, HS3.out.2.1, HS3.out.2.2.2⟩
  case round =>
    clear HS3 HW
    rcases hrel with ⟨rfl, hJ⟩ | ⟨rfl, hJ⟩ | ⟨rfl, hJ⟩ | ⟨rfl, hJ⟩
    · obtain ⟨hc, hk, h4, hl⟩ := hJ
      have ix := (idxB (.pointer (some ⟨a.F1, 0, none⟩)) (.pointer (some ⟨a.F2, 0, none⟩)) (.pointer (some ⟨a.F3, 0, none⟩)) wr).1
      have CP := Lib.hid (CP1.out wr hl)
      have HC := Lib.hid hc
      have HK := Lib.hid hk
      have H4 := Lib.hid h4
      have HL := Lib.hid hl
      have kk := hk.cell 0
      simp only [List.getElem?_cons_zero] at kk
      clear hc hk hl h4
      go_wp2_with fail
      refine CP.out.mono ?_
      rintro e w4 ⟨rfl, j, hw⟩
      have hc4 := HC.out.same (w' := w4) (by rw [hw]; rfl)
      have dd := hc4.cell 0
      have ff := hc4.frozen 0
      simp only [List.getElem?_cons_zero] at dd
      have hset := hc4.set_ 0 (.int .i64 (c1 : Int))
      simp only [List.set_cons_zero] at hset
      have HS := Lib.hid hset
      have HK4 := Lib.hid ((HK.out.same (w' := w4) (by rw [hw]; rfl)).setOther ⟨g5, 0, none⟩ (.int .i64 (c1 : Int)) HNE.out)
      have H44 := Lib.hid ((H4.out.same (w' := w4) (by rw [hw]; rfl)).setOther ⟨g5, 0, none⟩ (.int .i64 (c1 : Int)) HNE4.out)
      have HL4 := Lib.hid ((show Below w.heap.size w w4 by rw [hw]; exact below_drewn HL.out).setCell (p := ⟨g5, 0, none⟩) HG5.out (.int .i64 (c1 : Int)))
      clear hc4 hset hw
      go_wp2
      go_roundw
      case rel => exact .inr (.inl ⟨rfl, HS.out, HK4.out, H44.out, HL4.out⟩)
      case measure => simp [intOf]
    · obtain ⟨hc, hk, h4, hl⟩ := hJ
      have ix := (idxB (.pointer (some ⟨a.F1, 0, none⟩)) (.pointer (some ⟨a.F2, 0, none⟩)) (.pointer (some ⟨a.F3, 0, none⟩)) wr).2.1
      have CP := Lib.hid (CP2.out wr hl)
      have HC := Lib.hid hc
      have HK := Lib.hid hk
      have H4 := Lib.hid h4
      have HL := Lib.hid hl
      have kk := hk.cell 1
      simp only [List.getElem?_cons_zero, List.getElem?_cons_succ] at kk
      clear hc hk hl h4
      go_wp2_with fail
      refine CP.out.mono ?_
      rintro e w4 ⟨rfl, j, hw⟩
      have hc4 := HC.out.same (w' := w4) (by rw [hw]; rfl)
      have dd := hc4.cell 1
      have ff := hc4.frozen 1
      simp only [List.getElem?_cons_zero, List.getElem?_cons_succ] at dd
      have hset := hc4.set_ 1 (.int .i64 (c2 : Int))
      simp only [List.set_cons_zero, List.set_cons_succ] at hset
      have HS := Lib.hid hset
      have HK4 := Lib.hid ((HK.out.same (w' := w4) (by rw [hw]; rfl)).setOther ⟨g5, 1, none⟩ (.int .i64 (c2 : Int)) HNE.out)
      have H44 := Lib.hid ((H4.out.same (w' := w4) (by rw [hw]; rfl)).setOther ⟨g5, 1, none⟩ (.int .i64 (c2 : Int)) HNE4.out)
      have HL4 := Lib.hid ((show Below w.heap.size w w4 by rw [hw]; exact below_drewn HL.out).setCell (p := ⟨g5, 1, none⟩) HG5.out (.int .i64 (c2 : Int)))
      clear hc4 hset hw
      go_wp2
      go_roundw
      case rel => exact .inr (.inr (.inl ⟨rfl, HS.out, HK4.out, H44.out, HL4.out⟩))
      case measure => simp [intOf]
    · obtain ⟨hc, hk, h4, hl⟩ := hJ
      have ix := (idxB (.pointer (some ⟨a.F1, 0, none⟩)) (.pointer (some ⟨a.F2, 0, none⟩)) (.pointer (some ⟨a.F3, 0, none⟩)) wr).2.2
      have CP := Lib.hid (CP3.out wr hl)
      have HC := Lib.hid hc
      have HK := Lib.hid hk
      have H4 := Lib.hid h4
      have HL := Lib.hid hl
      have kk := hk.cell 2
      simp only [List.getElem?_cons_zero, List.getElem?_cons_succ] at kk
      clear hc hk hl h4
      go_wp2_with fail
      refine CP.out.mono ?_
      rintro e w4 ⟨rfl, j, hw⟩
      have hc4 := HC.out.same (w' := w4) (by rw [hw]; rfl)
      have dd := hc4.cell 2
      have ff := hc4.frozen 2
      simp only [List.getElem?_cons_zero, List.getElem?_cons_succ] at dd
      have hset := hc4.set_ 2 (.int .i64 (c3 : Int))
      simp only [List.set_cons_zero, List.set_cons_succ] at hset
      have HS := Lib.hid hset
      have HK4 := Lib.hid ((HK.out.same (w' := w4) (by rw [hw]; rfl)).setOther ⟨g5, 2, none⟩ (.int .i64 (c3 : Int)) HNE.out)
      have H44 := Lib.hid ((H4.out.same (w' := w4) (by rw [hw]; rfl)).setOther ⟨g5, 2, none⟩ (.int .i64 (c3 : Int)) HNE4.out)
      have HL4 := Lib.hid ((show Below w.heap.size w w4 by rw [hw]; exact below_drewn HL.out).setCell (p := ⟨g5, 2, none⟩) HG5.out (.int .i64 (c3 : Int)))
      clear hc4 hset hw
      go_wp2
      go_roundw
      case rel => exact .inr (.inr (.inr (⟨rfl, HS.out, HK4.out, H44.out, HL4.out⟩)))
      case measure => simp [intOf]
    · obtain ⟨hc, hk, h4, hl⟩ := hJ
      have c0 := hc.cell 0
      have c1' := hc.cell 1
      have c2' := hc.cell 2
      have d0 := h4.cell 0
      have d1 := h4.cell 1
      have d2 := h4.cell 2
      have f0 := h4.frozen 0
      have f1 := h4.frozen 1
      have f2 := h4.frozen 2
      simp only [List.getElem?_cons_zero, List.getElem?_cons_succ] at c0 c1' c2' d0 d1 d2
      have HFIN := Lib.hid (((h4.set_ 0 (.int .i64 (c1 : Int))).set_ 1 (.int .i64 (c2 : Int))).set_ 2 (.int .i64 (c3 : Int)))
      have HL := Lib.hid (((hl.setCell (p := ⟨g4, 0, none⟩) HG4.out (.int .i64 (c1 : Int))).setCell (p := ⟨g4, 1, none⟩) HG4.out (.int .i64 (c2 : Int))).setCell (p := ⟨g4, 2, none⟩) HG4.out (.int .i64 (c3 : Int)))
      clear hc hk h4 hl
      go_wp2
      exact bodyPost_ret (v := .agg #[.int .i64 (c1 : Int), .int .i64 (c2 : Int), .int .i64 (c3 : Int)]) (results_cell_row Try.results20 _ _ g4 48 _ (0, 0) _ rfl HFIN.out Try.underlying48 rfl size_ints3) rfl ⟨rfl, HL.out⟩
end
end Go.Proofs.Ytnghcfogigglmaa
