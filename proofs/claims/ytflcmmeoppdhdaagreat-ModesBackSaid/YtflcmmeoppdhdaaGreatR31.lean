/-
  Layer 25: the program's model: where it is, its step. · Layer 25: the program's model: keys, chances, P, Seen, Where. · Layer 25: the program's model: P and Seen. · Layer 25: the program's new model.
-/
import Derived.Test.YtflcmmeoppdhdaaGreatR28
import Derived.Test.YtflcmmeoppdhdaaGreatR30
import Derived.Laws.Rows
import Derived.OwnWalk
namespace Go.Proofs.YtflcmmeoppdhdaaGreat
open Go.RowKit Go.Sort

/-- Of all that lay, blocks of S alone have turned. -/
structure OnlyS (S : List Nat) (w w' : World) : Prop where
  os : w'.os = w.os
  tape : w'.tape = w.tape
  output : w'.output = w.output
  size : w.heap.size ≤ w'.heap.size
  block : ∀ k, k < w.heap.size → k ∉ S → w'.heap[k]? = w.heap[k]?
section
variable {S T : List Nat} {w w' w'' : World}
theorem OnlyS.refl (S : List Nat) (w : World) : OnlyS S w w := ⟨rfl, rfl, rfl, Nat.le_refl _, fun _ _ _ => rfl⟩
theorem OnlyS.trans (h : OnlyS S w w') (k : OnlyS S w' w'') : OnlyS S w w'' :=
  ⟨k.os.trans h.os, k.tape.trans h.tape, k.output.trans h.output, Nat.le_trans h.size k.size, fun i hi h1 => (k.block i (Nat.lt_of_lt_of_le hi h.size) h1).trans (h.block i hi h1)⟩
theorem OnlyS.mono (h : OnlyS S w w') (hs : ∀ k ∈ S, k ∈ T) : OnlyS T w w' := ⟨h.os, h.tape, h.output, h.size, fun i hi h1 => h.block i hi fun h2 => h1 (hs i h2)⟩
theorem OnlyS.drew (h : OnlyS S w w') : OnlyS S w w'.drew := ⟨h.os, h.tape, h.output, h.size, h.block⟩
theorem OnlyS.of_below (h : Below w.heap.size w w') : OnlyS S w w' := ⟨h.os, h.tape, h.output, h.size, fun k hk _ => h.block k hk⟩
theorem OnlyS.of_turns {g : Nat} (h : TurnsB g g w w') (hg : g ∈ S) : OnlyS S w w' :=
  ⟨h.os, h.tape, h.output, h.size, fun k hk h1 => have e : k ≠ g := fun e => h1 (e ▸ hg); h.block k hk e e⟩
theorem OnlyS.set_ (h : OnlyS S w w') {p : Addr} (hp : p.block ∈ S) (v : Value) : OnlyS S w (w'.setCell p v) :=
  ⟨h.os, h.tape, h.output, Nat.le_trans h.size (by simp [World.setCell]), fun k hk h1 => (Below.heap_setCell _ _ _ k (fun e => h1 (e ▸ hp))).trans (h.block k hk h1)⟩
theorem OnlyS.blk {g : Nat} {t : TypeId} {cs : List Value} (h : OnlyS S w w') (hb : Blk w g t cs) (h1 : g ∉ S) : Blk w' g t cs := (h.block g hb.lt h1).trans hb
end

/-- Where the parts of a model lie: itself, its banks and their cells, its mixer. -/
structure ModA where
  M : Nat
  F1 : Nat
  C1 : Nat
  F2 : Nat
  C2 : Nat
  F3 : Nat
  C3 : Nat
  X : Nat
def ModA.all (a : ModA) : List Nat := [a.M, a.C1, a.C2, a.C3, a.X]
def ModA.every (a : ModA) : List Nat := [a.M, a.C1, a.C2, a.C3, a.X, a.F1, a.F2, a.F3]
theorem ModA.all_every {a : ModA} : ∀ k ∈ a.all, k ∈ a.every := fun k hk => by
  simp only [ModA.all, ModA.every, List.mem_cons, List.not_mem_nil, or_false] at hk ⊢
  omega
/-- A model's own seven cells. -/
def modC (a : ModA) (p : PosD) : List Value := [.pointer (some ⟨a.F1, 0, none⟩), .pointer (some ⟨a.F2, 0, none⟩), .pointer (some ⟨a.F3, 0, none⟩), .pointer (some ⟨a.X, 0, none⟩), .int .i64 (p.node : Int), .int .i64 (p.last : Int), .int .i64 (p.ahead : Int)]
section
variable {w w' : World} {a : ModA} {p : PosD}
set_option maxRecDepth 100000 in
set_option maxHeartbeats 1000000 in
theorem modStep_any (bit : Int) (hb : Blk w a.M 206 (modC a p)) (ho : p.ok) :
    Calls Tryz.prog 196 #[.pointer (some ⟨a.M, 0, none⟩), .int .i64 bit] w fun e w' => (∃ u, e = .returned u) ∧ Blk w' a.M 206 (modC a (p.step bit)) ∧ OnlyS [a.M] w w' := by
  obtain ⟨o1, o2, o3, o4⟩ := ho
  unfold PosD.step nodeD
  unfold modC at hb ⊢
  obtain ⟨n, l, h⟩ := p
  simp only at *
  have HB := Lib.hid hb
  have c4 := hb.cell 4
  have f4 := hb.frozen 4
  have c5 := hb.cell 5
  have f5 := hb.frozen 5
  have f6 := hb.frozen 6
  have c6 := hb.cell 6
  simp only [List.getElem?_cons_zero, List.getElem?_cons_succ] at c4 c5 c6
  by_cases h0 : bit = 0
  · subst h0
    rw [if_pos rfl]
    by_cases h1 : 256 ≤ 2 * n + 0
    · rw [if_pos h1]
      have h2 : 256 ≤ (n : Int) * 2 := by omega
      have HN := Lib.hid (show (n : Int) * 2 - 256 = ((2 * n + 0 - 256 : Nat) : Int) by omega)
      clear hb h1
      go_enter Tryz.func196, Tryz.ntmps196
      go_wp2
      go_region
      go_wp2
      go_end0
      refine ⟨⟨_, rfl⟩, ?_, ?_⟩
      · rw [HN.out]; exact ((((HB.out.set_ 4 _).set_ 4 _).set_ 5 _).set_ 6 _).drew_
      · exact (((((OnlyS.refl [a.M] w).set_ (List.mem_singleton.2 rfl) _).set_ (List.mem_singleton.2 rfl) _).set_ (List.mem_singleton.2 rfl) _).set_ (List.mem_singleton.2 rfl) _).drew
    · rw [if_neg h1]
      have h2 : ¬ (256 ≤ (n : Int) * 2) := by omega
      have HN := Lib.hid (show (n : Int) * 2 = ((2 * n + 0 : Nat) : Int) by omega)
      clear hb h1
      go_enter Tryz.func196, Tryz.ntmps196
      go_wp2
      go_end0
      refine ⟨⟨_, rfl⟩, ?_, ?_⟩
      · rw [HN.out]; exact (HB.out.set_ 4 _)
      · exact ((OnlyS.refl [a.M] w).set_ (List.mem_singleton.2 rfl) _)
  · rw [if_neg h0]
    have hbb : (bit != 0) = true := by simp [h0]
    by_cases h1 : 256 ≤ 2 * n + 1
    · rw [if_pos h1]
      have h2 : 256 ≤ (n : Int) * 2 + 1 := by omega
      have HN := Lib.hid (show (n : Int) * 2 + 1 - 256 = ((2 * n + 1 - 256 : Nat) : Int) by omega)
      clear hb h1
      go_enter Tryz.func196, Tryz.ntmps196
      go_wp2
      go_region
      go_wp2
      go_end0
      refine ⟨⟨_, rfl⟩, ?_, ?_⟩
      · rw [HN.out]; exact (((((HB.out.set_ 4 _).set_ 4 _).set_ 4 _).set_ 5 _).set_ 6 _).drew_
      · exact ((((((OnlyS.refl [a.M] w).set_ (List.mem_singleton.2 rfl) _).set_ (List.mem_singleton.2 rfl) _).set_ (List.mem_singleton.2 rfl) _).set_ (List.mem_singleton.2 rfl) _).set_ (List.mem_singleton.2 rfl) _).drew
    · rw [if_neg h1]
      have h2 : ¬ (256 ≤ (n : Int) * 2 + 1) := by omega
      have HN := Lib.hid (show (n : Int) * 2 + 1 = ((2 * n + 1 : Nat) : Int) by omega)
      clear hb h1
      go_enter Tryz.func196, Tryz.ntmps196
      go_wp2
      go_end0
      refine ⟨⟨_, rfl⟩, ?_, ?_⟩
      · rw [HN.out]; exact ((HB.out.set_ 4 _).set_ 4 _)
      · exact (((OnlyS.refl [a.M] w).set_ (List.mem_singleton.2 rfl) _).set_ (List.mem_singleton.2 rfl) _)
end
end Go.Proofs.YtflcmmeoppdhdaaGreat
namespace Go.Proofs.YtflcmmeoppdhdaaGreat
open Go.RowKit Go.Sort

/-- A model lies there, and knows s. -/
structure IsModel (w : World) (a : ModA) (s : ModD) : Prop where
  mb : Blk w a.M 206 (modC a s.p)
  b1 : IsBank w a.F1 a.C1 9 512 s.A
  b2 : IsBank w a.F2 a.C2 11 2048 s.B
  b3 : IsBank w a.F3 a.C3 13 8192 s.C
  x : IsMix w a.X 3 s.W
  ok : s.ok
  n12 : a.C1 ≠ a.C2
  n13 : a.C1 ≠ a.C3
  n23 : a.C2 ≠ a.C3
section
variable {w w' : World} {a : ModA} {s : ModD}
theorem IsModel.grow (h : IsModel w a s) (hb : Below w.heap.size w w') : IsModel w' a s :=
  ⟨h.mb.grow hb, h.b1.grow hb, h.b2.grow hb, h.b3.grow hb, h.x.grow hb, h.ok, h.n12, h.n13, h.n23⟩
/-- The three keys, as a row. -/
def keysV (p : PosD) : Value := .agg #[.int .u32 (p.k1 : Int), .int .u32 (p.k2 : Int), .int .u32 (p.k3 : Int)]

theorem size_keys : (Tryz.prog.info? 117).map (·.size) = some 3 := by kernel_rfl
set_option maxRecDepth 100000 in
set_option maxHeartbeats 1000000 in
theorem modKeys_any {p : PosD} (hb : Blk w a.M 206 (modC a p)) (ho : p.ok) :
    Calls Tryz.prog 192 #[.pointer (some ⟨a.M, 0, none⟩)] w fun e w' => e = .returned (keysV p) ∧ Below w.heap.size w w' := by
  obtain ⟨o1, o2, o3, o4⟩ := ho
  unfold keysV PosD.k1 PosD.k2 PosD.k3
  unfold modC at hb
  obtain ⟨n, l, h⟩ := p
  simp only at *
  obtain ⟨w1, hw1⟩ : ∃ w1, w1 = w.alloc (.cells #[.int .u32 0, .int .u32 0, .int .u32 0] 117) := ⟨_, rfl⟩
  have hb1 := hb.alloc_ (.cells #[.int .u32 0, .int .u32 0, .int .u32 0] 117)
  have hr1 : Blk (w.alloc (.cells #[.int .u32 0, .int .u32 0, .int .u32 0] 117)) w.heap.size 117 [.int .u32 0, .int .u32 0, .int .u32 0] := heap_alloc_new w _
  have hbel := (Below.refl w.heap.size w).alloc (Nat.le_refl _) (.cells #[.int .u32 0, .int .u32 0, .int .u32 0] 117)
  rw [← hw1] at hb1 hr1 hbel
  have c4 := hb1.cell 4
  have c5 := hb1.cell 5
  have c6 := hb1.cell 6
  simp only [List.getElem?_cons_zero, List.getElem?_cons_succ] at c4 c5 c6
  obtain ⟨g, hg⟩ : ∃ g, g = w.heap.size := ⟨_, rfl⟩
  have HR := Lib.hid (show Blk w1 g 117 [.int .u32 0, .int .u32 0, .int .u32 0] by rw [hg]; exact hr1)
  have HBL := Lib.hid (And.intro hbel (Nat.le_of_eq hg.symm))
  have HW := Lib.hid (And.intro hw1 hg)
  clear hb hb1 hr1 hbel hw1 hg
  go_enter Tryz.func192, Tryz.ntmps192
  go_wp2
  rw [← HW.out.1, ← HW.out.2]
  have hr := HR.out
  have d0 := hr.cell 0
  have d1 := hr.cell 1
  have d2 := hr.cell 2
  have f0 := hr.frozen 0
  have f1 := hr.frozen 1
  have f2 := hr.frozen 2
  simp only [List.getElem?_cons_zero, List.getElem?_cons_succ] at d0 d1 d2
  clear hr
  go_quiet (fail)
  go_wp2
  have hfin := ((((HR.out.same (show (w1.drewN nq).heap = w1.heap from rfl)).set_ 0 (.int .u32 (n : Int))).set_ 1 (.int .u32 (65536 + (l : Int) * 256 + (n : Int)))).set_ 2 (.int .u32 (16777216 + (h : Int) * 65536 + (l : Int) * 256 + (n : Int))))
  refine bodyPost_ret (v := .agg #[.int .u32 (n : Int), .int .u32 (65536 + (l : Int) * 256 + (n : Int)), .int .u32 (16777216 + (h : Int) * 65536 + (l : Int) * 256 + (n : Int))]) (results_cell_row Tryz.results192 _ _ g 117 _ (0, 0) _ rfl hfin Tryz.underlying117 rfl size_keys) rfl ⟨?_, ?_⟩
  · rw [show ((65536 + 256 * l + n : Nat) : Int) = 65536 + (l : Int) * 256 + (n : Int) by omega, show ((16777216 + 65536 * h + 256 * l + n : Nat) : Int) = 16777216 + (h : Int) * 65536 + (l : Int) * 256 + (n : Int) by omega]
  · exact (((below_drewn HBL.out.1).setCell (p := ⟨g, 0, none⟩) HBL.out.2 _).setCell (p := ⟨g, 1, none⟩) HBL.out.2 _).setCell (p := ⟨g, 2, none⟩) HBL.out.2 _
theorem idxB (x y z : Value) (w : World) : (Instr.index 204 (.agg #[x, y, z]) (.int .i64 0)).run Tryz.prog w = .ok x w ∧ (Instr.index 204 (.agg #[x, y, z]) (.int .i64 1)).run Tryz.prog w = .ok y w ∧ (Instr.index 204 (.agg #[x, y, z]) (.int .i64 2)).run Tryz.prog w = .ok z w :=
  ⟨by kernel_rfl, by kernel_rfl, by kernel_rfl⟩
/-- What the three banks tell, as a row. -/
def chV (s : ModD) : Value := .agg #[.int .i64 ((s.A.getD s.i1 0 : Nat) : Int), .int .i64 ((s.B.getD s.i2 0 : Nat) : Int), .int .i64 ((s.C.getD s.i3 0 : Nat) : Int)]
theorem size_ints3 : (Tryz.prog.info? 207).map (·.size) = some 3 := by kernel_rfl
set_option maxRecDepth 100000 in
set_option maxHeartbeats 2000000 in
theorem modChances_any (h : IsModel w a s) :
    Calls Tryz.prog 191 #[.pointer (some ⟨a.M, 0, none⟩), keysV s.p] w fun e w' => e = .returned (chV s) ∧ Below w.heap.size w w' := by
  have CP1 := Lib.hid (fun (W : World) (hb : Below w.heap.size w W) => ctxP_any s.p.k1 (h.grow hb).b1)
  have CP2 := Lib.hid (fun (W : World) (hb : Below w.heap.size w W) => ctxP_any s.p.k2 (h.grow hb).b2)
  have CP3 := Lib.hid (fun (W : World) (hb : Below w.heap.size w W) => ctxP_any s.p.k3 (h.grow hb).b3)
  unfold keysV chV ModD.i1 ModD.i2 ModD.i3
  obtain ⟨c1, hc1⟩ : ∃ c, c = s.A.getD (placeC s.p.k1 9) 0 := ⟨_, rfl⟩
  obtain ⟨c2, hc2⟩ : ∃ c, c = s.B.getD (placeC s.p.k2 11) 0 := ⟨_, rfl⟩
  obtain ⟨c3, hc3⟩ : ∃ c, c = s.C.getD (placeC s.p.k3 13) 0 := ⟨_, rfl⟩
  rw [← hc1] at CP1 ⊢
  rw [← hc2] at CP2 ⊢
  rw [← hc3] at CP3 ⊢
  obtain ⟨k1, hk1⟩ : ∃ k, k = s.p.k1 := ⟨_, rfl⟩
  obtain ⟨k2, hk2⟩ : ∃ k, k = s.p.k2 := ⟨_, rfl⟩
  obtain ⟨k3, hk3⟩ : ∃ k, k = s.p.k3 := ⟨_, rfl⟩
  rw [← hk1] at CP1 ⊢
  rw [← hk2] at CP2 ⊢
  rw [← hk3] at CP3 ⊢
  have hb := h.mb
  unfold modC at hb
  obtain ⟨n, hn⟩ : ∃ n : Int, n = (s.p.node : Int) := ⟨_, rfl⟩
  obtain ⟨l, hl⟩ : ∃ n : Int, n = (s.p.last : Int) := ⟨_, rfl⟩
  obtain ⟨hd, hh⟩ : ∃ n : Int, n = (s.p.ahead : Int) := ⟨_, rfl⟩
  rw [← hn, ← hl, ← hh] at hb
  clear hc1 hc2 hc3 hk1 hk2 hk3 hn hl hh h
  have hb1 := ((Below.refl w.heap.size w).alloc (Nat.le_refl _) (.cells #[.int .u32 (k1 : Int), .int .u32 (k2 : Int), .int .u32 (k3 : Int)] 117))
  have hk1 : Blk (w.alloc (.cells #[.int .u32 (k1 : Int), .int .u32 (k2 : Int), .int .u32 (k3 : Int)] 117)) w.heap.size 117 [.int .u32 (k1 : Int), .int .u32 (k2 : Int), .int .u32 (k3 : Int)] := heap_alloc_new w _
  obtain ⟨w1, hw1⟩ : ∃ w1, w1 = w.alloc (.cells #[.int .u32 (k1 : Int), .int .u32 (k2 : Int), .int .u32 (k3 : Int)] 117) := ⟨_, rfl⟩
  rw [← hw1] at hb1 hk1
  have hb2 := hb1.alloc hb1.size (.cells #[.int .i64 0, .int .i64 0, .int .i64 0] 207)
  have hk2 := hk1.alloc_ (.cells #[.int .i64 0, .int .i64 0, .int .i64 0] 207)
  have hr2 : Blk (w1.alloc (.cells #[.int .i64 0, .int .i64 0, .int .i64 0] 207)) w1.heap.size 207 [.int .i64 0, .int .i64 0, .int .i64 0] := heap_alloc_new w1 _
  obtain ⟨w2, hw2⟩ : ∃ w2, w2 = w1.alloc (.cells #[.int .i64 0, .int .i64 0, .int .i64 0] 207) := ⟨_, rfl⟩
  rw [← hw2] at hb2 hk2 hr2
  have hb3 := hb2.alloc hb2.size (.cells #[.int .i64 0, .int .i64 0, .int .i64 0] 207)
  have hk3 := hk2.alloc_ (.cells #[.int .i64 0, .int .i64 0, .int .i64 0] 207)
  have hr3 := hr2.alloc_ (.cells #[.int .i64 0, .int .i64 0, .int .i64 0] 207)
  have hs3 : Blk (w2.alloc (.cells #[.int .i64 0, .int .i64 0, .int .i64 0] 207)) w2.heap.size 207 [.int .i64 0, .int .i64 0, .int .i64 0] := heap_alloc_new w2 _
  obtain ⟨w3, hw3⟩ : ∃ w3, w3 = w2.alloc (.cells #[.int .i64 0, .int .i64 0, .int .i64 0] 207) := ⟨_, rfl⟩
  rw [← hw3] at hb3 hk3 hr3 hs3
  have hm3 := hb.grow hb3
  obtain ⟨gk, hgk⟩ : ∃ g, g = w.heap.size := ⟨_, rfl⟩
  obtain ⟨g4, hg4⟩ : ∃ g, g = w1.heap.size := ⟨_, rfl⟩
  obtain ⟨g5, hg5⟩ : ∃ g, g = w2.heap.size := ⟨_, rfl⟩
  rw [← hg5] at hs3
  rw [← hg4] at hr3
  have HNE := Lib.hid (show gk ≠ g5 by rw [hgk]; exact blk_ne hk3 hs3 (by decide))
  have HNE4 := Lib.hid (show g4 ≠ g5 by rw [hg4, hg5]; exact Nat.ne_of_lt hr2.lt)
  have HG5 := Lib.hid (show w.heap.size ≤ g5 by rw [hg5]; exact hb2.size)
  have HG4 := Lib.hid (show w.heap.size ≤ g4 by rw [hg4]; exact hb1.size)
  have HS3 := Lib.hid (And.intro (show Blk w3 gk 117 _ by rw [hgk]; exact hk3) (And.intro hr3 (And.intro hs3 hb3)))
  have c0 := hm3.cell 0
  have c1' := hm3.cell 1
  have c2' := hm3.cell 2
  simp only [List.getElem?_cons_zero, List.getElem?_cons_succ] at c0 c1' c2'
  have e4 : w.heap.size + 1 = g4 := by rw [hg4, hw1]; simp
  have e5 : g4 + 1 = g5 := by rw [hg5, hw2, hg4]; simp
  have HW := Lib.hid (And.intro hw1 (And.intro hw2 (And.intro hw3 (And.intro hgk (And.intro e4 e5)))))
  rw [hw3, hw2, hw1] at c0 c1' c2'
  clear hb hb1 hb2 hb3 hk1 hk2 hk3 hr2 hr3 hs3 hm3 hw1 hw2 hw3 hgk hg4 hg5 e4 e5
  go_enter Tryz.func191, Tryz.ntmps191
  go_wp2
  rw [← HW.out.1, ← HW.out.2.1, ← HW.out.2.2.1, HW.out.2.2.2.2.1, HW.out.2.2.2.2.2, ← HW.out.2.2.2.1]
  clear c0 c1' c2'
  go_loopw [12] (fun ii wr =>
    (ii = .int .i64 0 ∧ Blk wr g5 207 [.int .i64 0, .int .i64 0, .int .i64 0] ∧ Blk wr gk 117 [.int .u32 (k1 : Int), .int .u32 (k2 : Int), .int .u32 (k3 : Int)] ∧ Blk wr g4 207 [.int .i64 0, .int .i64 0, .int .i64 0] ∧ Below w.heap.size w wr)
    ∨ (ii = .int .i64 1 ∧ Blk wr g5 207 [.int .i64 (c1 : Int), .int .i64 0, .int .i64 0] ∧ Blk wr gk 117 [.int .u32 (k1 : Int), .int .u32 (k2 : Int), .int .u32 (k3 : Int)] ∧ Blk wr g4 207 [.int .i64 0, .int .i64 0, .int .i64 0] ∧ Below w.heap.size w wr)
    ∨ (ii = .int .i64 2 ∧ Blk wr g5 207 [.int .i64 (c1 : Int), .int .i64 (c2 : Int), .int .i64 0] ∧ Blk wr gk 117 [.int .u32 (k1 : Int), .int .u32 (k2 : Int), .int .u32 (k3 : Int)] ∧ Blk wr g4 207 [.int .i64 0, .int .i64 0, .int .i64 0] ∧ Below w.heap.size w wr)
    ∨ (ii = .int .i64 3 ∧ Blk wr g5 207 [.int .i64 (c1 : Int), .int .i64 (c2 : Int), .int .i64 (c3 : Int)] ∧ Blk wr gk 117 [.int .u32 (k1 : Int), .int .u32 (k2 : Int), .int .u32 (k3 : Int)] ∧ Blk wr g4 207 [.int .i64 0, .int .i64 0, .int .i64 0] ∧ Below w.heap.size w wr)) (fun ii _ => 3 - (intOf ii).toNat)
  case atStart => exact .inl ⟨rfl, HS3.out.2.2.1, HS3.out.1, HS3.out.2.1, HS3.out.2.2.2⟩
  case round =>
    clear HS3 HW
    rcases hrel with ⟨rfl, hJ⟩ | ⟨rfl, hJ⟩ | ⟨rfl, hJ⟩ | ⟨rfl, hJ⟩
    · obtain ⟨hc, hk, h4, hl⟩ := hJ
      have ix := (idxB (.pointer (some ⟨a.F1, 0, none⟩)) (.pointer (some ⟨a.F2, 0, none⟩)) (.pointer (some ⟨a.F3, 0, none⟩)) wr).1
      have CP := Lib.hid (CP1.out wr hl)
      have HC := Lib.hid hc
      have HK := Lib.hid hk
      have H4 := Lib.hid h4
      have HL := Lib.hid hl
      have kk := hk.cell 0
      simp only [List.getElem?_cons_zero] at kk
      clear hc hk hl h4
      go_wp2_with fail
      refine CP.out.mono ?_
      rintro e w4 ⟨rfl, j, hw⟩
      have hc4 := HC.out.same (w' := w4) (by rw [hw]; rfl)
      have dd := hc4.cell 0
      have ff := hc4.frozen 0
      simp only [List.getElem?_cons_zero] at dd
      have hset := hc4.set_ 0 (.int .i64 (c1 : Int))
      simp only [List.set_cons_zero] at hset
      have HS := Lib.hid hset
      have HK4 := Lib.hid ((HK.out.same (w' := w4) (by rw [hw]; rfl)).setOther ⟨g5, 0, none⟩ (.int .i64 (c1 : Int)) HNE.out)
      have H44 := Lib.hid ((H4.out.same (w' := w4) (by rw [hw]; rfl)).setOther ⟨g5, 0, none⟩ (.int .i64 (c1 : Int)) HNE4.out)
      have HL4 := Lib.hid ((show Below w.heap.size w w4 by rw [hw]; exact below_drewn HL.out).setCell (p := ⟨g5, 0, none⟩) HG5.out (.int .i64 (c1 : Int)))
      clear hc4 hset hw
      go_wp2
      go_roundw
      case rel => exact .inr (.inl ⟨rfl, HS.out, HK4.out, H44.out, HL4.out⟩)
      case measure => simp [intOf]
    · obtain ⟨hc, hk, h4, hl⟩ := hJ
      have ix := (idxB (.pointer (some ⟨a.F1, 0, none⟩)) (.pointer (some ⟨a.F2, 0, none⟩)) (.pointer (some ⟨a.F3, 0, none⟩)) wr).2.1
      have CP := Lib.hid (CP2.out wr hl)
      have HC := Lib.hid hc
      have HK := Lib.hid hk
      have H4 := Lib.hid h4
      have HL := Lib.hid hl
      have kk := hk.cell 1
      simp only [List.getElem?_cons_zero, List.getElem?_cons_succ] at kk
      clear hc hk hl h4
      go_wp2_with fail
      refine CP.out.mono ?_
      rintro e w4 ⟨rfl, j, hw⟩
      have hc4 := HC.out.same (w' := w4) (by rw [hw]; rfl)
      have dd := hc4.cell 1
      have ff := hc4.frozen 1
      simp only [List.getElem?_cons_zero, List.getElem?_cons_succ] at dd
      have hset := hc4.set_ 1 (.int .i64 (c2 : Int))
      simp only [List.set_cons_zero, List.set_cons_succ] at hset
      have HS := Lib.hid hset
      have HK4 := Lib.hid ((HK.out.same (w' := w4) (by rw [hw]; rfl)).setOther ⟨g5, 1, none⟩ (.int .i64 (c2 : Int)) HNE.out)
      have H44 := Lib.hid ((H4.out.same (w' := w4) (by rw [hw]; rfl)).setOther ⟨g5, 1, none⟩ (.int .i64 (c2 : Int)) HNE4.out)
      have HL4 := Lib.hid ((show Below w.heap.size w w4 by rw [hw]; exact below_drewn HL.out).setCell (p := ⟨g5, 1, none⟩) HG5.out (.int .i64 (c2 : Int)))
      clear hc4 hset hw
      go_wp2
      go_roundw
      case rel => exact .inr (.inr (.inl ⟨rfl, HS.out, HK4.out, H44.out, HL4.out⟩))
      case measure => simp [intOf]
    · obtain ⟨hc, hk, h4, hl⟩ := hJ
      have ix := (idxB (.pointer (some ⟨a.F1, 0, none⟩)) (.pointer (some ⟨a.F2, 0, none⟩)) (.pointer (some ⟨a.F3, 0, none⟩)) wr).2.2
      have CP := Lib.hid (CP3.out wr hl)
      have HC := Lib.hid hc
      have HK := Lib.hid hk
      have H4 := Lib.hid h4
      have HL := Lib.hid hl
      have kk := hk.cell 2
      simp only [List.getElem?_cons_zero, List.getElem?_cons_succ] at kk
      clear hc hk hl h4
      go_wp2_with fail
      refine CP.out.mono ?_
      rintro e w4 ⟨rfl, j, hw⟩
      have hc4 := HC.out.same (w' := w4) (by rw [hw]; rfl)
      have dd := hc4.cell 2
      have ff := hc4.frozen 2
      simp only [List.getElem?_cons_zero, List.getElem?_cons_succ] at dd
      have hset := hc4.set_ 2 (.int .i64 (c3 : Int))
      simp only [List.set_cons_zero, List.set_cons_succ] at hset
      have HS := Lib.hid hset
      have HK4 := Lib.hid ((HK.out.same (w' := w4) (by rw [hw]; rfl)).setOther ⟨g5, 2, none⟩ (.int .i64 (c3 : Int)) HNE.out)
      have H44 := Lib.hid ((H4.out.same (w' := w4) (by rw [hw]; rfl)).setOther ⟨g5, 2, none⟩ (.int .i64 (c3 : Int)) HNE4.out)
      have HL4 := Lib.hid ((show Below w.heap.size w w4 by rw [hw]; exact below_drewn HL.out).setCell (p := ⟨g5, 2, none⟩) HG5.out (.int .i64 (c3 : Int)))
      clear hc4 hset hw
      go_wp2
      go_roundw
      case rel => exact .inr (.inr (.inr (⟨rfl, HS.out, HK4.out, H44.out, HL4.out⟩)))
      case measure => simp [intOf]
    · obtain ⟨hc, hk, h4, hl⟩ := hJ
      have c0 := hc.cell 0
      have c1' := hc.cell 1
      have c2' := hc.cell 2
      have d0 := h4.cell 0
      have d1 := h4.cell 1
      have d2 := h4.cell 2
      have f0 := h4.frozen 0
      have f1 := h4.frozen 1
      have f2 := h4.frozen 2
      simp only [List.getElem?_cons_zero, List.getElem?_cons_succ] at c0 c1' c2' d0 d1 d2
      have HFIN := Lib.hid (((h4.set_ 0 (.int .i64 (c1 : Int))).set_ 1 (.int .i64 (c2 : Int))).set_ 2 (.int .i64 (c3 : Int)))
      have HL := Lib.hid (((hl.setCell (p := ⟨g4, 0, none⟩) HG4.out (.int .i64 (c1 : Int))).setCell (p := ⟨g4, 1, none⟩) HG4.out (.int .i64 (c2 : Int))).setCell (p := ⟨g4, 2, none⟩) HG4.out (.int .i64 (c3 : Int)))
      clear hc hk h4 hl
      go_wp2
      exact bodyPost_ret (v := .agg #[.int .i64 (c1 : Int), .int .i64 (c2 : Int), .int .i64 (c3 : Int)]) (results_cell_row Tryz.results191 _ _ g4 207 _ (0, 0) _ rfl HFIN.out Tryz.underlying207 rfl size_ints3) rfl ⟨rfl, HL.out⟩
end
end Go.Proofs.YtflcmmeoppdhdaaGreat
namespace Go.Proofs.YtflcmmeoppdhdaaGreat
open Go.RowKit Go.Sort

section
variable {w w' : World} {a : ModA} {s : ModD} {S : List Nat}
theorem IsBank.only {F C bits n : Nat} {R : List Nat} (h : IsBank w F C bits n R) (hu : OnlyS S w w') (h1 : F ∉ S) (h2 : C ∉ S) : IsBank w' F C bits n R := ⟨hu.blk h.fb h1, hu.blk h.cb h2, h.row, h.pow, h.lo⟩
theorem IsMix.only {F n : Nat} {W : List Int} (h : IsMix w F n W) (hu : OnlyS S w w') (h1 : F ∉ S) : IsMix w' F n W := ⟨hu.blk h.fb h1, h.wts, h.lo⟩
theorem IsModel.lt (h : IsModel w a s) : ∀ k ∈ a.every, k < w.heap.size := fun k hk => by
  have h1 := h.mb.lt
  have h2 := h.b1.cb.lt
  have h3 := h.b2.cb.lt
  have h4 := h.b3.cb.lt
  have h5 := h.x.fb.lt
  have h6 := h.b1.fb.lt
  have h7 := h.b2.fb.lt
  have h8 := h.b3.fb.lt
  simp only [ModA.every, List.mem_cons, List.not_mem_nil, or_false] at hk
  omega
theorem ne_one {x y : Nat} (h : x ≠ y) : x ∉ [y] := fun e => h (List.mem_singleton.1 e)
/-- Three values as a new row of their own. -/
theorem row3 (t : TypeId) (v1 v2 v3 : Value) (w : World) : ∃ w3, w3 = w.alloc (.cells #[v1, v2, v3] t) ∧ Blk w3 w.heap.size t [v1, v2, v3] ∧ Below w.heap.size w w3 :=
  ⟨_, rfl, heap_alloc_new w _, (Below.refl w.heap.size w).alloc (Nat.le_refl _) (.cells #[v1, v2, v3] t)⟩
set_option maxRecDepth 100000 in
set_option maxHeartbeats 1000000 in
theorem modP_any (h : IsModel w a s) :
    Calls Tryz.prog 148 #[.pointer (some ⟨a.M, 0, none⟩)] w fun e w' => e = .returned (.int .i64 s.chance) ∧ Below w.heap.size w w' := by
  have CK := Lib.hid (modKeys_any h.mb h.ok.pos)
  have CC := Lib.hid (fun (W : World) (hb : Below w.heap.size w W) => modChances_any (h.grow hb))
  have H := Lib.hid h
  obtain ⟨p, hp⟩ : ∃ p, p = s.chance := ⟨_, rfl⟩
  have HP := Lib.hid hp
  rw [← hp]
  clear h hp
  go_enter Tryz.func148, Tryz.ntmps148
  go_wp2_with fail
  refine CK.out.mono ?_
  rintro e w1 ⟨rfl, hb1⟩
  have CC1 := Lib.hid (CC.out w1 hb1)
  have HB1 := Lib.hid hb1
  clear hb1
  go_wp2_with fail
  refine CC1.out.mono ?_
  rintro e w2 ⟨rfl, hb2⟩
  have HB2 := Lib.hid (HB1.out.trans (hb2.mono HB1.out.size))
  clear hb2
  have hch : zvs s.ch = [.int .i64 ((s.A.getD s.i1 0 : Nat) : Int), .int .i64 ((s.B.getD s.i2 0 : Nat) : Int), .int .i64 ((s.C.getD s.i3 0 : Nat) : Int)] := rfl
  unfold chV
  obtain ⟨c1, hc1⟩ : ∃ c, c = s.A.getD s.i1 0 := ⟨_, rfl⟩
  obtain ⟨c2, hc2⟩ : ∃ c, c = s.B.getD s.i2 0 := ⟨_, rfl⟩
  obtain ⟨c3, hc3⟩ : ∃ c, c = s.C.getD s.i3 0 := ⟨_, rfl⟩
  rw [← hc1, ← hc2, ← hc3] at hch ⊢
  obtain ⟨w3, hw3, hr3, hb3⟩ := row3 207 (.int .i64 (c1 : Int)) (.int .i64 (c2 : Int)) (.int .i64 (c3 : Int)) w2
  have hm3 := (H.out.grow HB2.out).grow hb3
  have CP := Lib.hid (fun (W : World) (e : W.heap = w3.heap) => mixP_any (w := W) (m := 3) (hm3.x.same e) (rd_same (Rd.of_blk (by rw [hch]; exact hr3)) e) s.ch_len)
  have cx := hm3.mb.cell 3
  simp only [modC, List.getElem?_cons_zero, List.getElem?_cons_succ] at cx
  have HB3 := Lib.hid (HB2.out.trans (hb3.mono HB2.out.size))
  have HW3 := Lib.hid hw3
  clear hch hc1 hc2 hc3 hw3 hr3 hb3 hm3
  go_wp2
  rw [← HW3.out]
  go_quiet ((go_at_call 193; exact quietD CP.out))
  go_wp2
  go_ret
  exact ⟨by rw [HP.out]; rfl, below_drewn HB3.out⟩
/-- What holds while a model's banks follow: the chances A, B, C of the three. -/
structure SeenJ (w wr : World) (a : ModA) (s : ModD) (W : List Int) (gk : Nat) (A B C : List Nat) : Prop where
  mb : Blk wr a.M 206 (modC a s.p)
  b1 : IsBank wr a.F1 a.C1 9 512 A
  b2 : IsBank wr a.F2 a.C2 11 2048 B
  b3 : IsBank wr a.F3 a.C3 13 8192 C
  x : IsMix wr a.X 3 W
  kb : Blk wr gk 117 [.int .u32 (s.p.k1 : Int), .int .u32 (s.p.k2 : Int), .int .u32 (s.p.k3 : Int)]
  on : OnlyS a.all w wr
section
variable {wr : World} {W : List Int} {gk : Nat} {A B C R : List Nat}
theorem IsBank.turned {F C F' C' bits bits' n n' : Nat} {R R' : List Nat} (h : IsBank w F C bits n R) (h' : IsBank w F' C' bits' n' R') (hu : TurnsB C' C' w w') (hne : C ≠ C') : IsBank w' F C bits n R :=
  ⟨hu.blk h.fb (blk_ne h.fb h'.cb (by decide)) (blk_ne h.fb h'.cb (by decide)), hu.blk h.cb hne hne, h.row, h.pow, h.lo⟩
theorem SeenJ.rest (h : SeenJ w wr a s W gk A B C) {F C' bits n : Nat} (hb : IsBank wr F C' bits n R) (hu : TurnsB C' C' wr w') (hC : C' ∈ a.all) :
    Blk w' a.M 206 (modC a s.p) ∧ IsMix w' a.X 3 W ∧ Blk w' gk 117 [.int .u32 (s.p.k1 : Int), .int .u32 (s.p.k2 : Int), .int .u32 (s.p.k3 : Int)] ∧ OnlyS a.all w w' :=
  ⟨hu.blk h.mb (blk_ne h.mb hb.cb (by decide)) (blk_ne h.mb hb.cb (by decide)), ⟨hu.blk h.x.fb (blk_ne h.x.fb hb.cb (by decide)) (blk_ne h.x.fb hb.cb (by decide)), h.x.wts, h.x.lo⟩,
    hu.blk h.kb (blk_ne h.kb hb.cb (by decide)) (blk_ne h.kb hb.cb (by decide)), h.on.trans (OnlyS.of_turns hu hC)⟩
theorem SeenJ.one (h : SeenJ w wr a s W gk A B C) (h12 : a.C1 ≠ a.C2) (h13 : a.C1 ≠ a.C3) (hb : IsBank w' a.F1 a.C1 9 512 R) (hu : TurnsB a.C1 a.C1 wr w') : SeenJ w w' a s W gk R B C :=
  have r := h.rest h.b1 hu (by simp [ModA.all])
  ⟨r.1, hb, h.b2.turned h.b1 hu h12.symm, h.b3.turned h.b1 hu h13.symm, r.2.1, r.2.2.1, r.2.2.2⟩
theorem SeenJ.two (h : SeenJ w wr a s W gk A B C) (h12 : a.C1 ≠ a.C2) (h23 : a.C2 ≠ a.C3) (hb : IsBank w' a.F2 a.C2 11 2048 R) (hu : TurnsB a.C2 a.C2 wr w') : SeenJ w w' a s W gk A R C :=
  have r := h.rest h.b2 hu (by simp [ModA.all])
  ⟨r.1, h.b1.turned h.b2 hu h12, hb, h.b3.turned h.b2 hu h23.symm, r.2.1, r.2.2.1, r.2.2.2⟩
theorem SeenJ.three (h : SeenJ w wr a s W gk A B C) (h13 : a.C1 ≠ a.C3) (h23 : a.C2 ≠ a.C3) (hb : IsBank w' a.F3 a.C3 13 8192 R) (hu : TurnsB a.C3 a.C3 wr w') : SeenJ w w' a s W gk A B R :=
  have r := h.rest h.b3 hu (by simp [ModA.all])
  ⟨r.1, h.b1.turned h.b3 hu h13, h.b2.turned h.b3 hu h23, hb, r.2.1, r.2.2.1, r.2.2.2⟩
end
set_option maxRecDepth 100000 in
set_option maxHeartbeats 2000000 in
theorem modSeen_any (bit : Int) (h : IsModel w a s) :
    Calls Tryz.prog 149 #[.pointer (some ⟨a.M, 0, none⟩), .int .i64 bit] w fun e w' => (∃ u, e = .returned u) ∧ IsModel w' a (s.seen bit) ∧ OnlyS a.all w w' := by
  have CK := Lib.hid (modKeys_any h.mb h.ok.pos)
  have CC := Lib.hid (fun (W : World) (hb : Below w.heap.size w W) => modChances_any (h.grow hb))
  have H := Lib.hid h
  clear h
  go_enter Tryz.func149, Tryz.ntmps149
  go_wp2_with fail
  refine CK.out.mono ?_
  rintro e w1 ⟨rfl, hb1⟩
  unfold keysV
  obtain ⟨w2, hw2, hk2, hb2⟩ := row3 117 (.int .u32 (s.p.k1 : Int)) (.int .u32 (s.p.k2 : Int)) (.int .u32 (s.p.k3 : Int)) w1
  have hb12 := hb1.trans (hb2.mono hb1.size)
  have CC1 := CC.out w2 hb12
  unfold keysV at CC1
  have CC2 := Lib.hid CC1
  obtain ⟨k1, hk1⟩ : ∃ k, k = s.p.k1 := ⟨_, rfl⟩
  obtain ⟨k2, hk2'⟩ : ∃ k, k = s.p.k2 := ⟨_, rfl⟩
  obtain ⟨k3, hk3⟩ : ∃ k, k = s.p.k3 := ⟨_, rfl⟩
  rw [← hk1, ← hk2', ← hk3] at hk2 hw2 CC2 ⊢
  have q0 := hk2.cell 0
  have q1 := hk2.cell 1
  have q2 := hk2.cell 2
  simp only [List.getElem?_cons_zero, List.getElem?_cons_succ] at q0 q1 q2
  have HB12 := Lib.hid hb12
  have HW2 := Lib.hid hw2
  have HK2 := Lib.hid hk2
  have HKS := Lib.hid (And.intro hk1 (And.intro hk2' hk3))
  clear hb1 hb2 hb12 CC1 hk2 hw2 hk1 hk2' hk3
  go_wp2_with fail
  rw [← HW2.out]
  refine CC2.out.mono ?_
  rintro e w3 ⟨rfl, hb3⟩
  have hb13 := HB12.out.trans (hb3.mono HB12.out.size)
  have hk3 := HK2.out.grow hb3
  have hch : zvs s.ch = [.int .i64 ((s.A.getD s.i1 0 : Nat) : Int), .int .i64 ((s.B.getD s.i2 0 : Nat) : Int), .int .i64 ((s.C.getD s.i3 0 : Nat) : Int)] := rfl
  unfold chV
  obtain ⟨c1, hc1⟩ : ∃ c, c = s.A.getD s.i1 0 := ⟨_, rfl⟩
  obtain ⟨c2, hc2⟩ : ∃ c, c = s.B.getD s.i2 0 := ⟨_, rfl⟩
  obtain ⟨c3, hc3⟩ : ∃ c, c = s.C.getD s.i3 0 := ⟨_, rfl⟩
  rw [← hc1, ← hc2, ← hc3] at hch ⊢
  obtain ⟨w4, hw4, hr4, hb4⟩ := row3 207 (.int .i64 (c1 : Int)) (.int .i64 (c2 : Int)) (.int .i64 (c3 : Int)) w3
  have hb14 := hb13.trans (hb4.mono hb13.size)
  have hm4 := H.out.grow hb14
  have hk4 := hk3.grow hb4
  have cx := hm4.mb.cell 3
  simp only [modC, List.getElem?_cons_zero, List.getElem?_cons_succ] at cx
  have CS := Lib.hid (mixSeen_any (w := w4.drew) (m := 3) bit (hm4.x.same rfl) (rd_turns2 (t := 207) (cs := zvs s.ch) (by rw [hch]; exact hr4.drew_) (blk_ne hr4 hm4.x.fb (by decide)) rfl) s.ch_len)
  have HM4 := Lib.hid (And.intro hm4 (And.intro hk4 hb14))
  have HW4 := Lib.hid hw4
  obtain ⟨gk, hgk⟩ : ∃ g, g = w1.heap.size := ⟨_, rfl⟩
  have HGK := Lib.hid hgk
  clear hch hc1 hc2 hc3 hw4 hr4 hb4 hm4 hk4 hk3 hb13 hb14 hb3 q0 q1 q2 hgk
  go_wp2
  rw [← HW4.out, ← HGK.out]
  refine wp_region_still_tail 6 (by kernel_rfl) (by kernel_rfl) ?_
  simp only [List.take_succ_cons, List.take_zero, List.drop_succ_cons, List.drop_zero]
  repeat still_step
  refine wpStill_nil ?_
  change wpList _ _ _ _ _ w4.drew
  go_wp2_with fail
  refine CS.out.mono ?_
  rintro e w5 ⟨⟨u, rfl⟩, hx5, hu5⟩
  have hj5 : SeenJ w w5 a s (seenM s.W s.ch bit) gk s.A s.B s.C := by
    obtain ⟨hm, hk, hb⟩ := HM4.out
    rw [← HGK.out, HKS.out.1, HKS.out.2.1, HKS.out.2.2] at hk
    have e1 := fun {g : Nat} {t : TypeId} {cs : List Value} (h : Blk w4 g t cs) (hne : t ≠ 254) => hu5.blk (h.same rfl : Blk w4.drew g t cs) (blk_ne h hm.x.fb hne) (blk_ne h hm.x.fb hne)
    exact ⟨e1 hm.mb (by decide), ⟨e1 hm.b1.fb (by decide), e1 hm.b1.cb (by decide), hm.b1.row, hm.b1.pow, hm.b1.lo⟩, ⟨e1 hm.b2.fb (by decide), e1 hm.b2.cb (by decide), hm.b2.row, hm.b2.pow, hm.b2.lo⟩, ⟨e1 hm.b3.fb (by decide), e1 hm.b3.cb (by decide), hm.b3.row, hm.b3.pow, hm.b3.lo⟩, hx5, e1 hk (by decide),
      ((OnlyS.of_below hb).drew).trans (OnlyS.of_turns hu5 (by simp [ModA.all]))⟩
  have HJ5 := Lib.hid hj5
  have N := Lib.hid (And.intro H.out.n12 (And.intro H.out.n13 H.out.n23))
  have cb0 := hj5.mb.cell 0
  have cb1 := hj5.mb.cell 1
  have cb2 := hj5.mb.cell 2
  simp only [modC, List.getElem?_cons_zero, List.getElem?_cons_succ] at cb0 cb1 cb2
  clear hj5 hx5 hu5 cx
  go_wp2
  clear cb0 cb1 cb2
  go_loopw [26] (fun ii wr =>
    (ii = .int .i64 0 ∧ SeenJ w wr a s (seenM s.W s.ch bit) gk s.A s.B s.C)
    ∨ (ii = .int .i64 1 ∧ SeenJ w wr a s (seenM s.W s.ch bit) gk (seenC s.A (placeC k1 9) bit) s.B s.C)
    ∨ (ii = .int .i64 2 ∧ SeenJ w wr a s (seenM s.W s.ch bit) gk (seenC s.A (placeC k1 9) bit) (seenC s.B (placeC k2 11) bit) s.C)
    ∨ (ii = .int .i64 3 ∧ SeenJ w wr a s (seenM s.W s.ch bit) gk (seenC s.A (placeC k1 9) bit) (seenC s.B (placeC k2 11) bit) (seenC s.C (placeC k3 13) bit))) (fun ii _ => 3 - (intOf ii).toNat)
  case atStart => exact .inl ⟨rfl, HJ5.out⟩
  case round =>
    clear HJ5 HM4 HW4 HW2 HK2 HB12
    rcases hrel with ⟨rfl, hJ⟩ | ⟨rfl, hJ⟩ | ⟨rfl, hJ⟩ | ⟨rfl, hJ⟩
    · have HJ := Lib.hid hJ
      have CS := Lib.hid (ctxSeen_any k1 bit hJ.b1)
      have ix := (idxB (.pointer (some ⟨a.F1, 0, none⟩)) (.pointer (some ⟨a.F2, 0, none⟩)) (.pointer (some ⟨a.F3, 0, none⟩)) wr).1
      have kk := hJ.kb.cell 0
      simp only [List.getElem?_cons_zero] at kk
      rw [← HKS.out.1] at kk
      clear hJ
      go_wp2_with fail
      refine CS.out.mono ?_
      rintro e w6 ⟨⟨u, rfl⟩, hb, hu⟩
      have HJ6 := Lib.hid (HJ.out.one N.out.1 N.out.2.1 hb hu)
      clear hb hu
      go_wp2
      go_roundw
      case rel => exact .inr (.inl ⟨rfl, HJ6.out⟩)
      case measure => simp [intOf]
    · have HJ := Lib.hid hJ
      have CS := Lib.hid (ctxSeen_any k2 bit hJ.b2)
      have ix := (idxB (.pointer (some ⟨a.F1, 0, none⟩)) (.pointer (some ⟨a.F2, 0, none⟩)) (.pointer (some ⟨a.F3, 0, none⟩)) wr).2.1
      have kk := hJ.kb.cell 1
      simp only [List.getElem?_cons_zero, List.getElem?_cons_succ] at kk
      rw [← HKS.out.2.1] at kk
      clear hJ
      go_wp2_with fail
      refine CS.out.mono ?_
      rintro e w6 ⟨⟨u, rfl⟩, hb, hu⟩
      have HJ6 := Lib.hid (HJ.out.two N.out.1 N.out.2.2 hb hu)
      clear hb hu
      go_wp2
      go_roundw
      case rel => exact .inr (.inr (.inl ⟨rfl, HJ6.out⟩))
      case measure => simp [intOf]
    · have HJ := Lib.hid hJ
      have CS := Lib.hid (ctxSeen_any k3 bit hJ.b3)
      have ix := (idxB (.pointer (some ⟨a.F1, 0, none⟩)) (.pointer (some ⟨a.F2, 0, none⟩)) (.pointer (some ⟨a.F3, 0, none⟩)) wr).2.2
      have kk := hJ.kb.cell 2
      simp only [List.getElem?_cons_zero, List.getElem?_cons_succ] at kk
      rw [← HKS.out.2.2] at kk
      clear hJ
      go_wp2_with fail
      refine CS.out.mono ?_
      rintro e w6 ⟨⟨u, rfl⟩, hb, hu⟩
      have HJ6 := Lib.hid (HJ.out.three N.out.2.1 N.out.2.2 hb hu)
      clear hb hu
      go_wp2
      go_roundw
      case rel => exact .inr (.inr (.inr (⟨rfl, HJ6.out⟩)))
      case measure => simp [intOf]
    · have HJ := Lib.hid hJ
      have CT := Lib.hid (modStep_any bit hJ.mb H.out.ok.pos)
      clear hJ
      go_wp2_with fail
      refine CT.out.mono ?_
      rintro e w6 ⟨⟨u, rfl⟩, hm6, hu6⟩
      have hj := HJ.out
      have hs : s.seen bit = ⟨s.p.step bit, seenC s.A (placeC k1 9) bit, seenC s.B (placeC k2 11) bit, seenC s.C (placeC k3 13) bit, seenM s.W s.ch bit⟩ := by
        rw [HKS.out.1, HKS.out.2.1, HKS.out.2.2]; rfl
      have hok := H.out.ok.seen bit
      have hfin : IsModel w6 a (s.seen bit) := by
        have ne := fun {g : Nat} {t : TypeId} {cs : List Value} (h : Blk wr g t cs) (hne : t ≠ 206) => ne_one (blk_ne h hj.mb hne)
        rw [hs] at hok ⊢
        exact ⟨hm6, hj.b1.only hu6 (ne hj.b1.fb (by decide)) (ne hj.b1.cb (by decide)), hj.b2.only hu6 (ne hj.b2.fb (by decide)) (ne hj.b2.cb (by decide)), hj.b3.only hu6 (ne hj.b3.fb (by decide)) (ne hj.b3.cb (by decide)), hj.x.only hu6 (ne hj.x.fb (by decide)), hok, N.out.1, N.out.2.1, N.out.2.2⟩
      have HFIN := Lib.hid (And.intro hfin (hj.on.trans (hu6.mono (T := a.all) fun k hk => by rw [List.mem_singleton.1 hk]; simp [ModA.all])))
      clear hj hs hok hfin hm6 hu6
      go_wp2
      go_end0
      exact ⟨⟨_, rfl⟩, HFIN.out.1, HFIN.out.2⟩
end
end Go.Proofs.YtflcmmeoppdhdaaGreat
namespace Go.Proofs.YtflcmmeoppdhdaaGreat
open Go.RowKit Go.Sort

/-- A new model's cells and mixer, while its banks are made. -/
structure NewBM (w wr : World) (M X : Nat) (f1 f2 f3 : Value) : Prop where
  mb : Blk wr M 206 [f1, f2, f3, .pointer (some ⟨X, 0, none⟩), .int .i64 1, .int .i64 0, .int .i64 0]
  x : IsMix wr X 3 (List.replicate 3 64)
  below : Below w.heap.size w wr
/-- A bank made for it. -/
structure NewK (w wr : World) (F C bits n : Nat) : Prop where
  b : IsBank wr F C bits n (List.replicate n 32768)
  lo : w.heap.size ≤ F ∧ w.heap.size ≤ C
section
variable {w wr w6 : World} {M X F C bits n F' C' bits' n' : Nat} {f1 f2 f3 : Value}
theorem NewK.next (h : NewK w wr F C bits n) (hb : Below wr.heap.size wr w6) {g : Nat} {cs : List Value} (hm : Blk w6 g 206 cs) (k : Nat) (v : Value) : NewK w (w6.setCell ⟨g, k, none⟩ v) F C bits n := by
  have h1 := h.b.grow hb
  exact ⟨⟨h1.fb.setOther _ v (blk_ne h1.fb hm (by decide)), h1.cb.setOther _ v (blk_ne h1.cb hm (by decide)), h1.row, h1.pow, h1.lo⟩, h.lo⟩
theorem NewK.made (h : IsBank w6 F C bits n (List.replicate n 32768)) (hlo : wr.heap.size ≤ F ∧ wr.heap.size ≤ C) (hs : w.heap.size ≤ wr.heap.size) {g : Nat} {cs : List Value} (hm : Blk w6 g 206 cs) (k : Nat) (v : Value) : NewK w (w6.setCell ⟨g, k, none⟩ v) F C bits n :=
  ⟨⟨h.fb.setOther _ v (blk_ne h.fb hm (by decide)), h.cb.setOther _ v (blk_ne h.cb hm (by decide)), h.row, h.pow, h.lo⟩, by omega, by omega⟩
theorem NewBM.next (h : NewBM w wr M X f1 f2 f3) (hM : w.heap.size ≤ M) (hb : Below wr.heap.size wr w6) (v : Value) :
    NewBM w (w6.setCell ⟨M, 0, none⟩ v) M X v f2 f3 ∧ NewBM w (w6.setCell ⟨M, 1, none⟩ v) M X f1 v f3 ∧ NewBM w (w6.setCell ⟨M, 2, none⟩ v) M X f1 f2 v := by
  have hm := h.mb.grow hb
  have hx := h.x.grow hb
  have hl := h.below.trans (hb.mono h.below.size)
  have x2 := fun k => (⟨hx.fb.setOther ⟨M, k, none⟩ v (blk_ne hx.fb hm (by decide)), hx.wts, hx.lo⟩ : IsMix (w6.setCell ⟨M, k, none⟩ v) X 3 (List.replicate 3 64))
  exact ⟨⟨hm.set_ 0 v, x2 0, hl.setCell (p := ⟨M, 0, none⟩) hM v⟩, ⟨hm.set_ 1 v, x2 1, hl.setCell (p := ⟨M, 1, none⟩) hM v⟩, ⟨hm.set_ 2 v, x2 2, hl.setCell (p := ⟨M, 2, none⟩) hM v⟩⟩
theorem NewBM.drew (h : NewBM w wr M X f1 f2 f3) : NewBM w wr.drew M X f1 f2 f3 := ⟨h.mb.same rfl, h.x.same rfl, h.below.drew⟩
theorem NewK.drew (h : NewK w wr F C bits n) : NewK w wr.drew F C bits n := ⟨h.b.same rfl, h.lo⟩
theorem idxI (w : World) : (Instr.index 207 (.agg #[.int .i64 9, .int .i64 11, .int .i64 13]) (.int .i64 0)).run Tryz.prog w = .ok (.int .i64 9) w ∧ (Instr.index 207 (.agg #[.int .i64 9, .int .i64 11, .int .i64 13]) (.int .i64 1)).run Tryz.prog w = .ok (.int .i64 11) w ∧ (Instr.index 207 (.agg #[.int .i64 9, .int .i64 11, .int .i64 13]) (.int .i64 2)).run Tryz.prog w = .ok (.int .i64 13) w :=
  ⟨by kernel_rfl, by kernel_rfl, by kernel_rfl⟩
set_option maxRecDepth 100000 in
set_option maxHeartbeats 4000000 in
theorem modNew_any (w : World) : Calls Tryz.prog 94 #[] w fun e w' => ∃ a : ModA, e = .returned (.pointer (some ⟨a.M, 0, none⟩)) ∧ IsModel w' a newD ∧ (∀ k ∈ a.every, w.heap.size ≤ k) ∧ Below w.heap.size w w' := by
  have CX := Lib.hid (mixNew_any 3 w (by decide))
  have C1c := Lib.hid (fun W => ctxNew_any 9 512 W (by decide) (by decide))
  have C2c := Lib.hid (fun W => ctxNew_any 11 2048 W (by decide) (by decide))
  have C3c := Lib.hid (fun W => ctxNew_any 13 8192 W (by decide) (by decide))
  go_enter Tryz.func94, Tryz.ntmps94
  go_wp2_with fail
  refine CX.out.mono ?_
  rintro e w1 ⟨X, rfl, hx1, hX, hb1⟩
  obtain ⟨w2, hw2⟩ : ∃ w2, w2 = w1.alloc (.cells #[.pointer none, .pointer none, .pointer none, .pointer (some ⟨X, 0, none⟩), .int .i64 1, .int .i64 0, .int .i64 0] 206) := ⟨_, rfl⟩
  have hm2 : Blk w2 w1.heap.size 206 [.pointer none, .pointer none, .pointer none, .pointer (some ⟨X, 0, none⟩), .int .i64 1, .int .i64 0, .int .i64 0] := by rw [hw2]; exact heap_alloc_new w1 _
  have hb2 : Below w1.heap.size w1 w2 := by rw [hw2]; exact (Below.refl w1.heap.size w1).alloc (Nat.le_refl _) _
  obtain ⟨M, hM⟩ : ∃ M, M = w1.heap.size := ⟨_, rfl⟩
  rw [← hM] at hm2
  have HM := Lib.hid (show w.heap.size ≤ M by rw [hM]; exact hb1.size)
  have HN := Lib.hid (⟨hm2, hx1.grow hb2, hb1.trans (hb2.mono hb1.size)⟩ : NewBM w w2 M X (.pointer none) (.pointer none) (.pointer none))
  have HX := Lib.hid hX
  have HW := Lib.hid (And.intro hw2 hM)
  clear hx1 hX hb1 hw2 hm2 hb2 hM
  go_wp2
  rw [← HW.out.1, ← HW.out.2]
  go_loopw [8] (fun ii wr =>
    (ii = .int .i64 0 ∧ NewBM w wr M X (.pointer none) (.pointer none) (.pointer none))
    ∨ (ii = .int .i64 1 ∧ ∃ F1 C1 : Nat, NewBM w wr M X (.pointer (some ⟨F1, 0, none⟩)) (.pointer none) (.pointer none) ∧ NewK w wr F1 C1 9 512)
    ∨ (ii = .int .i64 2 ∧ ∃ F1 C1 F2 C2 : Nat, NewBM w wr M X (.pointer (some ⟨F1, 0, none⟩)) (.pointer (some ⟨F2, 0, none⟩)) (.pointer none) ∧ NewK w wr F1 C1 9 512 ∧ NewK w wr F2 C2 11 2048 ∧ C1 ≠ C2)
    ∨ (ii = .int .i64 3 ∧ ∃ F1 C1 F2 C2 F3 C3 : Nat, NewBM w wr M X (.pointer (some ⟨F1, 0, none⟩)) (.pointer (some ⟨F2, 0, none⟩)) (.pointer (some ⟨F3, 0, none⟩)) ∧ NewK w wr F1 C1 9 512 ∧ NewK w wr F2 C2 11 2048 ∧ NewK w wr F3 C3 13 8192 ∧ C1 ≠ C2 ∧ C1 ≠ C3 ∧ C2 ≠ C3)) (fun ii _ => 3 - (intOf ii).toNat)
  case atStart => exact .inl ⟨rfl, HN.out⟩
  case round =>
    clear HN HW
    rcases hrel with ⟨rfl, hJ⟩ | ⟨rfl, hJ⟩ | ⟨rfl, hJ⟩ | ⟨rfl, hJ⟩
    · have hN := hJ
      have ix := (idxI wr).1
      have HND := Lib.hid hN.drew
      clear hN hJ
      go_wp2
      go_region_with (go_at_call 151; refine (C1c.out _).mono ?_; rintro _ w6 ⟨F1, rfl, C1, hbk, hlo, hb6⟩; have d0 := (HND.out.mb.grow hb6).cell 0; have f0 := (HND.out.mb.grow hb6).frozen 0; simp only [List.getElem?_cons_zero] at d0; have HR := Lib.hid (And.intro hbk (And.intro hlo hb6)); clear hbk hlo hb6)
      have hm6 := HND.out.mb.grow HR.out.2.2
      have HX1 := Lib.hid (NewK.made HR.out.1 HR.out.2.1 HND.out.below.size hm6 0 (.pointer (some ⟨F1, 0, none⟩)))
      have HNN := Lib.hid (HND.out.next HM.out HR.out.2.2 (.pointer (some ⟨F1, 0, none⟩))).1
      clear hm6 d0 f0
      go_wp2
      go_roundw
      case rel => exact .inr (.inl ⟨rfl, F1, C1, HNN.out, HX1.out⟩)
      case measure => simp [intOf]
    · obtain ⟨F1, C1, hN, hk1⟩ := hJ
      have ix := (idxI wr).2.1
      have HND := Lib.hid hN.drew
      have HK1 := Lib.hid hk1.drew
      clear hN hk1
      go_wp2
      go_region_with (go_at_call 151; refine (C2c.out _).mono ?_; rintro _ w6 ⟨F2, rfl, C2, hbk, hlo, hb6⟩; have d0 := (HND.out.mb.grow hb6).cell 1; have f0 := (HND.out.mb.grow hb6).frozen 1; simp only [List.getElem?_cons_zero, List.getElem?_cons_succ] at d0; have HR := Lib.hid (And.intro hbk (And.intro hlo hb6)); clear hbk hlo hb6)
      have hm6 := HND.out.mb.grow HR.out.2.2
      have HX1 := Lib.hid (HK1.out.next HR.out.2.2 hm6 1 (.pointer (some ⟨F2, 0, none⟩)))
      have HX2 := Lib.hid (NewK.made HR.out.1 HR.out.2.1 HND.out.below.size hm6 1 (.pointer (some ⟨F2, 0, none⟩)))
      have HNN := Lib.hid (HND.out.next HM.out HR.out.2.2 (.pointer (some ⟨F2, 0, none⟩))).2.1
      have HNE1 := Lib.hid (show C1 ≠ C2 from Nat.ne_of_lt (Nat.lt_of_lt_of_le HK1.out.b.cb.lt HR.out.2.1.2))
      clear hm6 d0 f0
      go_wp2
      go_roundw
      case rel => exact .inr (.inr (.inl ⟨rfl, F1, C1, F2, C2, HNN.out, HX1.out, HX2.out, HNE1.out⟩))
      case measure => simp [intOf]
    · obtain ⟨F1, C1, F2, C2, hN, hk1, hk2, h12⟩ := hJ
      have ix := (idxI wr).2.2
      have HND := Lib.hid hN.drew
      have HK1 := Lib.hid hk1.drew
      have HK2 := Lib.hid hk2.drew
      have H12 := Lib.hid h12
      clear hN hk1 hk2 h12
      go_wp2
      go_region_with (go_at_call 151; refine (C3c.out _).mono ?_; rintro _ w6 ⟨F3, rfl, C3, hbk, hlo, hb6⟩; have d0 := (HND.out.mb.grow hb6).cell 2; have f0 := (HND.out.mb.grow hb6).frozen 2; simp only [List.getElem?_cons_zero, List.getElem?_cons_succ] at d0; have HR := Lib.hid (And.intro hbk (And.intro hlo hb6)); clear hbk hlo hb6)
      have hm6 := HND.out.mb.grow HR.out.2.2
      have HX1 := Lib.hid (HK1.out.next HR.out.2.2 hm6 2 (.pointer (some ⟨F3, 0, none⟩)))
      have HX2 := Lib.hid (HK2.out.next HR.out.2.2 hm6 2 (.pointer (some ⟨F3, 0, none⟩)))
      have HX3 := Lib.hid (NewK.made HR.out.1 HR.out.2.1 HND.out.below.size hm6 2 (.pointer (some ⟨F3, 0, none⟩)))
      have HNN := Lib.hid (HND.out.next HM.out HR.out.2.2 (.pointer (some ⟨F3, 0, none⟩))).2.2
      have HNE1 := Lib.hid (show C1 ≠ C3 from Nat.ne_of_lt (Nat.lt_of_lt_of_le HK1.out.b.cb.lt HR.out.2.1.2))
      have HNE2 := Lib.hid (show C2 ≠ C3 from Nat.ne_of_lt (Nat.lt_of_lt_of_le HK2.out.b.cb.lt HR.out.2.1.2))
      clear hm6 d0 f0
      go_wp2
      go_roundw
      case rel => exact .inr (.inr (.inr (⟨rfl, F1, C1, F2, C2, F3, C3, HNN.out, HX1.out, HX2.out, HX3.out, H12.out, HNE1.out, HNE2.out⟩)))
      case measure => simp [intOf]
    · obtain ⟨F1, C1, F2, C2, F3, C3, hN, hk1, hk2, hk3, h12, h13, h23⟩ := hJ
      have HFIN := Lib.hid (⟨hN.mb, hk1.b, hk2.b, hk3.b, hN.x, newD_ok, h12, h13, h23⟩ : IsModel wr ⟨M, F1, C1, F2, C2, F3, C3, X⟩ newD)
      have HLO := Lib.hid (And.intro hk1.lo (And.intro hk2.lo (And.intro hk3.lo hN.below)))
      clear hN hk1 hk2 hk3 h12 h13 h23
      go_wp2
      go_ret
      refine ⟨⟨M, F1, C1, F2, C2, F3, C3, X⟩, rfl, HFIN.out, fun k hk => ?_, HLO.out.2.2.2⟩
      simp only [ModA.every, List.mem_cons, List.not_mem_nil, or_false] at hk
      have h1 := HLO.out
      have h2 := HM.out
      have h3 := HX.out
      omega
end
end Go.Proofs.YtflcmmeoppdhdaaGreat
