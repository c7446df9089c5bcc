/-
  Layer 32: the program: blockAt. Written by gen_frmat.py. · Layer 32: what was put is parsed as it was; what was cut ends too early; with a byte behind it is refused. Pure. · Layer 30: the program: numbers as they are.
-/
import Derived.Test.YtjignfnkcbklkaaQ13
import Derived.Test.YtjignfnkcbklkaaQ14
namespace Go.Proofs.Ytjignfnkcbklkaa
open Go.RowKit Go.Sort

/-- What blockAt answers. -/
def BAtOut (W : World) (r : Five × Nat × Nat) (e : Ending) (w' : World) : Prop := e = .returned (.tuple #[.agg (blkF r.1 r.2.1 0).toArray, .int .i64 (r.2.2 : Int)]) ∧ Below W.heap.size W w'
theorem oth7 {w : World} {g k : Nat} {t : TypeId} {cs : List Value} (h : Blk w g t cs) (hk : g ≠ k) (v0 v1 v2 v3 v4 v5 v6 : Value) : Blk (((((((w.setCell ⟨k, 0, none⟩ v0).setCell ⟨k, 1, none⟩ v1).setCell ⟨k, 2, none⟩ v2).setCell ⟨k, 3, none⟩ v3).setCell ⟨k, 4, none⟩ v4).setCell ⟨k, 5, none⟩ v5).setCell ⟨k, 6, none⟩ v6) g t cs :=
  ((((((h.setOther ⟨k, 0, none⟩ v0 hk).setOther ⟨k, 1, none⟩ v1 hk).setOther ⟨k, 2, none⟩ v2 hk).setOther ⟨k, 3, none⟩ v3 hk).setOther ⟨k, 4, none⟩ v4 hk).setOther ⟨k, 5, none⟩ v5 hk).setOther ⟨k, 6, none⟩ v6 hk
theorem alloc7 {w : World} {g : Nat} {t : TypeId} {cs : List Value} (h : Blk w g t cs) (o : Obj) : Blk (w.alloc o) g t cs := (Below.heap_alloc _ _ _ h.lt).trans h
set_option maxHeartbeats 4000000 in
set_option maxRecDepth 100000 in
theorem frmBlockAt_bad (A : Option Addr) (n c p : Nat) (l : List UInt8) (W : World) (hr : Rd W W.heap.size A (bvs l)) (hn : l.length = n) (hnc : n ≤ c) (hn1 : n ≤ 100000) (hp : p ≤ n) {b : Nat} {wd rc md : Int} (hb : b ≤ 16777216) {e : Nat} (he : e ≠ 0) (hg : getB (l.drop p) b = ((0, 0, 0, 0, 0), 0, e)) :
    Calls Try.prog 39 #[.slice A n c, .agg #[.int .i64 (b : Int), .int .i64 wd, .int .i64 rc, .int .i64 md], .int .i64 (p : Int)] W (BAtOut W (noFive, 0, e)) := by
  obtain ⟨w1, hw1⟩ : ∃ w1, w1 = (W.alloc (.cells #[.int .i64 (b : Int), .int .i64 wd, .int .i64 rc, .int .i64 md] 23)).alloc (.cells #[.int .i64 0, .int .i64 0, .int .i64 0, .int .i64 0, .int .u32 0, .int .i64 0, .int .i64 0] 37) := ⟨_, rfl⟩
  have hB1 : Below W.heap.size W w1 := by rw [hw1]; exact ((Below.refl _ _).alloc (Nat.le_refl _) _).alloc (by simp) _
  have hs1 : w1.heap.size = W.heap.size + 1 + 1 := by rw [hw1]; simp
  have hO1 : Blk w1 W.heap.size 23 [.int .i64 (b : Int), .int .i64 wd, .int .i64 rc, .int .i64 md] := by rw [hw1]; exact (blk_new W _ _ rfl).grow ((Below.refl _ _).alloc (Nat.le_refl _) _)
  have hZ1 : Blk w1 (W.heap.size + 1) 37 [.int .i64 0, .int .i64 0, .int .i64 0, .int .i64 0, .int .u32 0, .int .i64 0, .int .i64 0] := by rw [hw1]; exact blk_new _ _ _ (by simp)
  have HW1 := Lib.hid hw1
  have HB1 := Lib.hid hB1
  have HS1 := Lib.hid hs1
  have HZ1 := Lib.hid hZ1
  have HR1 := Lib.hid ((hr.below hB1).more hB1.size)
  have CG := Lib.hid (fun (w : World) (h : Below w1.heap.size w1 w) => blkGet_from (w := w) (wd := wd) (rc := rc) (md := md) (b := b) ((HR1.out.below h).more h.size) hn hnc (by omega) hp hb)
  rw [hg] at CG
  unfold BGetOut at CG
  obtain ⟨A3, hA3⟩ : ∃ A3, A3 = (if c = p then A else Option.map (fun x => x.add p) A) := ⟨_, rfl⟩
  rw [← hA3] at CG
  have HA3 := Lib.hid hA3
  simp only at CG
  rw [show (.agg (blkC ((0, 0, 0, 0, 0))).toArray : Value) = .agg #[.int .i64 0, .int .i64 0, .int .i64 0, .int .i64 0, .int .u32 0, .int .i64 0, .int .i64 0] from rfl] at CG
  have q0 : w1.drew.cell? ⟨W.heap.size, 0, none⟩ = _ := hO1.cell 0
  have q1 : w1.drew.cell? ⟨W.heap.size, 1, none⟩ = _ := hO1.cell 1
  have q2 : w1.drew.cell? ⟨W.heap.size, 2, none⟩ = _ := hO1.cell 2
  have q3 : w1.drew.cell? ⟨W.heap.size, 3, none⟩ = _ := hO1.cell 3
  have hO2 := hO1.grow ((Below.refl w1.heap.size w1).alloc (Nat.le_refl _) (.cells #[.int .i64 0, .int .i64 0, .int .i64 0, .int .i64 0, .int .u32 0, .int .i64 0, .int .i64 0] 37)).drew
  have r0 : (w1.alloc (.cells #[.int .i64 0, .int .i64 0, .int .i64 0, .int .i64 0, .int .u32 0, .int .i64 0, .int .i64 0] 37)).drew.cell? ⟨W.heap.size, 0, none⟩ = _ := hO2.cell 0
  have r1 : (w1.alloc (.cells #[.int .i64 0, .int .i64 0, .int .i64 0, .int .i64 0, .int .u32 0, .int .i64 0, .int .i64 0] 37)).drew.cell? ⟨W.heap.size, 1, none⟩ = _ := hO2.cell 1
  have r2 : (w1.alloc (.cells #[.int .i64 0, .int .i64 0, .int .i64 0, .int .i64 0, .int .u32 0, .int .i64 0, .int .i64 0] 37)).drew.cell? ⟨W.heap.size, 2, none⟩ = _ := hO2.cell 2
  have r3 : (w1.alloc (.cells #[.int .i64 0, .int .i64 0, .int .i64 0, .int .i64 0, .int .u32 0, .int .i64 0, .int .i64 0] 37)).drew.cell? ⟨W.heap.size, 3, none⟩ = _ := hO2.cell 3
  simp only [List.getElem?_cons_zero, List.getElem?_cons_succ] at q0 q1 q2 q3 r0 r1 r2 r3
  have hpi : (p : Int) ≤ (n : Int) := by omega
  have hci : (n : Int) ≤ (c : Int) := by omega
  clear hA3 hr hw1 hB1 hs1 hO1 hO2 hZ1 hg hn
  go_enter Try.func39, Try.ntmps39
  go_wp2_with fail
  rw [← HW1.out]
  go_region_with (first
    | (go_at_call 49; rw [← HA3.out]; (with_reducible refine (CG.out w1.drew (Below.refl _ _).drew).mono ?_); rintro _ w2 ⟨rfl, hb2⟩; have hb2' : Below w1.heap.size w1 w2 := (Below.refl _ _).drew.trans hb2; have HB2 := Lib.hid (HB1.out.trans (hb2'.mono HB1.out.size)); have HZ2 := Lib.hid (HZ1.out.grow hb2'); clear hb2 hb2')
    | (go_at_call 49; rw [← HA3.out]; (with_reducible refine (CG.out (w1.alloc (.cells #[.int .i64 0, .int .i64 0, .int .i64 0, .int .i64 0, .int .u32 0, .int .i64 0, .int .i64 0] 37)).drew ((Below.refl _ _).alloc (Nat.le_refl _) _).drew).mono ?_); rintro _ w2 ⟨rfl, hb2⟩; have hb2' : Below w1.heap.size w1 w2 := ((Below.refl _ _).alloc (Nat.le_refl _) _).drew.trans (hb2.mono (by simp)); have HB2 := Lib.hid (HB1.out.trans (hb2'.mono HB1.out.size)); have HZ2 := Lib.hid (HZ1.out.grow hb2'); have hT2 : Blk w2 w1.heap.size 37 [.int .i64 0, .int .i64 0, .int .i64 0, .int .i64 0, .int .u32 0, .int .i64 0, .int .i64 0] := (show Blk (World.drew (w1.alloc (.cells #[.int .i64 0, .int .i64 0, .int .i64 0, .int .i64 0, .int .u32 0, .int .i64 0, .int .i64 0] 37))) w1.heap.size _ _ from blk_new w1 _ _ rfl).grow hb2; have t0 := hT2.cell 0; have t1 := hT2.cell 1; have t2 := hT2.cell 2; have t3 := hT2.cell 3; have t4 := hT2.cell 4; have t5 := hT2.cell 5; have t6 := hT2.cell 6; have f0 := hT2.frozen 0; have f1 := hT2.frozen 1; have f2 := hT2.frozen 2; have f3 := hT2.frozen 3; have f4 := hT2.frozen 4; have f5 := hT2.frozen 5; have f6 := hT2.frozen 6; simp only [List.getElem?_cons_zero, List.getElem?_cons_succ] at t0 t1 t2 t3 t4 t5 t6; have HT2 := Lib.hid hT2; clear hb2 hb2' hT2))
  all_goals
    clear CG HR1 HA3 HW1 q0 q1 q2 q3 r0 r1 r2 r3
    first
      | (obtain ⟨G, hG⟩ : ∃ G, G = w2.heap.size := ⟨_, rfl⟩
         obtain ⟨wE, hwE⟩ : ∃ wE, wE = w2.alloc (.cells #[.int .i64 0, .int .i64 0, .int .i64 0, .int .i64 0, .int .u32 0, .int .i64 0, .int .i64 0] 37) := ⟨_, rfl⟩
         have hE : Blk wE G 37 [.int .i64 0, .int .i64 0, .int .i64 0, .int .i64 0, .int .u32 0, .int .i64 0, .int .i64 0] := by rw [hwE]; exact blk_new _ _ _ hG
         have hZE : Blk wE (W.heap.size + 1) 37 [.int .i64 0, .int .i64 0, .int .i64 0, .int .i64 0, .int .u32 0, .int .i64 0, .int .i64 0] := by rw [hwE]; exact alloc7 HZ2.out _
         have hBE : Below W.heap.size W wE := by rw [hwE]; exact HB2.out.alloc HB2.out.size _
         have hGE : W.heap.size + 1 < G := by rw [hG]; exact HZ2.out.lt
         rw [← hwE, ← hG])
      | (obtain ⟨G, hG⟩ : ∃ G, G = w1.heap.size := ⟨_, rfl⟩
         obtain ⟨wE, hwE⟩ : ∃ wE, wE = ((((((w2.setCell ⟨w1.heap.size, 0, none⟩ (.int .i64 0)).setCell ⟨w1.heap.size, 1, none⟩ (.int .i64 0)).setCell ⟨w1.heap.size, 2, none⟩ (.int .i64 0)).setCell ⟨w1.heap.size, 3, none⟩ (.int .i64 0)).setCell ⟨w1.heap.size, 4, none⟩ (.int .u32 0)).setCell ⟨w1.heap.size, 5, none⟩ (.int .i64 0)).setCell ⟨w1.heap.size, 6, none⟩ (.int .i64 0) := ⟨_, rfl⟩
         have hE : Blk wE G 37 [.int .i64 0, .int .i64 0, .int .i64 0, .int .i64 0, .int .u32 0, .int .i64 0, .int .i64 0] := by rw [hwE, hG]; exact set7 HT2.out _ _ _ _ _ _ _
         have hZE : Blk wE (W.heap.size + 1) 37 [.int .i64 0, .int .i64 0, .int .i64 0, .int .i64 0, .int .u32 0, .int .i64 0, .int .i64 0] := by rw [hwE]; exact oth7 HZ2.out (by have := HS1.out; omega) _ _ _ _ _ _ _
         have hBE : Below W.heap.size W wE := by rw [hwE]; exact below7 HB2.out HB1.out.size _ _ _ _ _ _ _
         have hGE : W.heap.size + 1 < G := by have := HS1.out; omega
         rw [← hwE, ← hG]
         clear t0 t1 t2 t3 t4 t5 t6 f0 f1 f2 f3 f4 f5 f6 HT2)
    have HZE := Lib.hid hZE
    have HBE := Lib.hid hBE
    have HE := Lib.hid hE
    have z0 := hZE.cell 0
    have g0 := hZE.frozen 0
    have x0 := hE.cell 0
    have z1 := hZE.cell 1
    have g1 := hZE.frozen 1
    have x1 := hE.cell 1
    have z2 := hZE.cell 2
    have g2 := hZE.frozen 2
    have x2 := hE.cell 2
    have z3 := hZE.cell 3
    have g3 := hZE.frozen 3
    have x3 := hE.cell 3
    have z4 := hZE.cell 4
    have g4 := hZE.frozen 4
    have x4 := hE.cell 4
    have z5 := hZE.cell 5
    have g5 := hZE.frozen 5
    have x5 := hE.cell 5
    have z6 := hZE.cell 6
    have g6 := hZE.frozen 6
    have x6 := hE.cell 6
    have y5 := hE.frozen 5
    simp only [List.getElem?_cons_zero, List.getElem?_cons_succ] at z0 z1 z2 z3 z4 z5 z6 x0 x1 x2 x3 x4 x5 x6
    clear hwE hG hE hZE hBE HZ2 HB2
    have hei : ¬ (e : Int) = 0 := by omega
    go_wp2
    exact bodyPost_ret (results_cell_tmp32 Try.results39 _ _ (W.heap.size + 1) 37 _ (0, 0) _ rfl (set7 HZE.out _ _ _ _ _ _ _) Try.underlying37 rfl size_blk) rfl ⟨rfl, below7 HBE.out (by omega) _ _ _ _ _ _ _⟩
set_option maxHeartbeats 4000000 in
set_option maxRecDepth 100000 in
theorem frmBlockAt_short (A : Option Addr) (n c p : Nat) (l : List UInt8) (W : World) (hr : Rd W W.heap.size A (bvs l)) (hn : l.length = n) (hnc : n ≤ c) (hn1 : n ≤ 100000) (hp : p ≤ n) {b : Nat} {wd rc md : Int} (hb : b ≤ 16777216) {mo ra mi co su k : Nat} (hk : p + k ≤ n) (hg : getB (l.drop p) b = ((mo, ra, mi, co, su), k, 0)) (hc : (n : Int) - ((p : Int) + (k : Int)) < (co : Int)) :
    Calls Try.prog 39 #[.slice A n c, .agg #[.int .i64 (b : Int), .int .i64 wd, .int .i64 rc, .int .i64 md], .int .i64 (p : Int)] W (BAtOut W (noFive, 0, 11)) := by
  obtain ⟨w1, hw1⟩ : ∃ w1, w1 = (W.alloc (.cells #[.int .i64 (b : Int), .int .i64 wd, .int .i64 rc, .int .i64 md] 23)).alloc (.cells #[.int .i64 0, .int .i64 0, .int .i64 0, .int .i64 0, .int .u32 0, .int .i64 0, .int .i64 0] 37) := ⟨_, rfl⟩
  have hB1 : Below W.heap.size W w1 := by rw [hw1]; exact ((Below.refl _ _).alloc (Nat.le_refl _) _).alloc (by simp) _
  have hs1 : w1.heap.size = W.heap.size + 1 + 1 := by rw [hw1]; simp
  have hO1 : Blk w1 W.heap.size 23 [.int .i64 (b : Int), .int .i64 wd, .int .i64 rc, .int .i64 md] := by rw [hw1]; exact (blk_new W _ _ rfl).grow ((Below.refl _ _).alloc (Nat.le_refl _) _)
  have hZ1 : Blk w1 (W.heap.size + 1) 37 [.int .i64 0, .int .i64 0, .int .i64 0, .int .i64 0, .int .u32 0, .int .i64 0, .int .i64 0] := by rw [hw1]; exact blk_new _ _ _ (by simp)
  have HW1 := Lib.hid hw1
  have HB1 := Lib.hid hB1
  have HS1 := Lib.hid hs1
  have HZ1 := Lib.hid hZ1
  have HR1 := Lib.hid ((hr.below hB1).more hB1.size)
  have CG := Lib.hid (fun (w : World) (h : Below w1.heap.size w1 w) => blkGet_from (w := w) (wd := wd) (rc := rc) (md := md) (b := b) ((HR1.out.below h).more h.size) hn hnc (by omega) hp hb)
  rw [hg] at CG
  unfold BGetOut at CG
  obtain ⟨A3, hA3⟩ : ∃ A3, A3 = (if c = p then A else Option.map (fun x => x.add p) A) := ⟨_, rfl⟩
  rw [← hA3] at CG
  have HA3 := Lib.hid hA3
  simp only at CG
  rw [show (.agg (blkC ((mo, ra, mi, co, su))).toArray : Value) = .agg #[.int .i64 (mo : Int), .int .i64 (ra : Int), .int .i64 (mi : Int), .int .i64 (co : Int), .int .u32 (su : Int), .int .i64 0, .int .i64 0] from rfl] at CG
  have q0 : w1.drew.cell? ⟨W.heap.size, 0, none⟩ = _ := hO1.cell 0
  have q1 : w1.drew.cell? ⟨W.heap.size, 1, none⟩ = _ := hO1.cell 1
  have q2 : w1.drew.cell? ⟨W.heap.size, 2, none⟩ = _ := hO1.cell 2
  have q3 : w1.drew.cell? ⟨W.heap.size, 3, none⟩ = _ := hO1.cell 3
  have hO2 := hO1.grow ((Below.refl w1.heap.size w1).alloc (Nat.le_refl _) (.cells #[.int .i64 0, .int .i64 0, .int .i64 0, .int .i64 0, .int .u32 0, .int .i64 0, .int .i64 0] 37)).drew
  have r0 : (w1.alloc (.cells #[.int .i64 0, .int .i64 0, .int .i64 0, .int .i64 0, .int .u32 0, .int .i64 0, .int .i64 0] 37)).drew.cell? ⟨W.heap.size, 0, none⟩ = _ := hO2.cell 0
  have r1 : (w1.alloc (.cells #[.int .i64 0, .int .i64 0, .int .i64 0, .int .i64 0, .int .u32 0, .int .i64 0, .int .i64 0] 37)).drew.cell? ⟨W.heap.size, 1, none⟩ = _ := hO2.cell 1
  have r2 : (w1.alloc (.cells #[.int .i64 0, .int .i64 0, .int .i64 0, .int .i64 0, .int .u32 0, .int .i64 0, .int .i64 0] 37)).drew.cell? ⟨W.heap.size, 2, none⟩ = _ := hO2.cell 2
  have r3 : (w1.alloc (.cells #[.int .i64 0, .int .i64 0, .int .i64 0, .int .i64 0, .int .u32 0, .int .i64 0, .int .i64 0] 37)).drew.cell? ⟨W.heap.size, 3, none⟩ = _ := hO2.cell 3
  simp only [List.getElem?_cons_zero, List.getElem?_cons_succ] at q0 q1 q2 q3 r0 r1 r2 r3
  have hpi : (p : Int) ≤ (n : Int) := by omega
  have hci : (n : Int) ≤ (c : Int) := by omega
  clear hA3 hr hw1 hB1 hs1 hO1 hO2 hZ1 hg hn
  go_enter Try.func39, Try.ntmps39
  go_wp2_with fail
  rw [← HW1.out]
  go_region_with (first
    | (go_at_call 49; rw [← HA3.out]; (with_reducible refine (CG.out w1.drew (Below.refl _ _).drew).mono ?_); rintro _ w2 ⟨rfl, hb2⟩; have hb2' : Below w1.heap.size w1 w2 := (Below.refl _ _).drew.trans hb2; have HB2 := Lib.hid (HB1.out.trans (hb2'.mono HB1.out.size)); have HZ2 := Lib.hid (HZ1.out.grow hb2'); clear hb2 hb2')
    | (go_at_call 49; rw [← HA3.out]; (with_reducible refine (CG.out (w1.alloc (.cells #[.int .i64 0, .int .i64 0, .int .i64 0, .int .i64 0, .int .u32 0, .int .i64 0, .int .i64 0] 37)).drew ((Below.refl _ _).alloc (Nat.le_refl _) _).drew).mono ?_); rintro _ w2 ⟨rfl, hb2⟩; have hb2' : Below w1.heap.size w1 w2 := ((Below.refl _ _).alloc (Nat.le_refl _) _).drew.trans (hb2.mono (by simp)); have HB2 := Lib.hid (HB1.out.trans (hb2'.mono HB1.out.size)); have HZ2 := Lib.hid (HZ1.out.grow hb2'); have hT2 : Blk w2 w1.heap.size 37 [.int .i64 0, .int .i64 0, .int .i64 0, .int .i64 0, .int .u32 0, .int .i64 0, .int .i64 0] := (show Blk (World.drew (w1.alloc (.cells #[.int .i64 0, .int .i64 0, .int .i64 0, .int .i64 0, .int .u32 0, .int .i64 0, .int .i64 0] 37))) w1.heap.size _ _ from blk_new w1 _ _ rfl).grow hb2; have t0 := hT2.cell 0; have t1 := hT2.cell 1; have t2 := hT2.cell 2; have t3 := hT2.cell 3; have t4 := hT2.cell 4; have t5 := hT2.cell 5; have t6 := hT2.cell 6; have f0 := hT2.frozen 0; have f1 := hT2.frozen 1; have f2 := hT2.frozen 2; have f3 := hT2.frozen 3; have f4 := hT2.frozen 4; have f5 := hT2.frozen 5; have f6 := hT2.frozen 6; simp only [List.getElem?_cons_zero, List.getElem?_cons_succ] at t0 t1 t2 t3 t4 t5 t6; have HT2 := Lib.hid hT2; clear hb2 hb2' hT2))
  all_goals
    clear CG HR1 HA3 HW1 q0 q1 q2 q3 r0 r1 r2 r3
    first
      | (obtain ⟨G, hG⟩ : ∃ G, G = w2.heap.size := ⟨_, rfl⟩
         obtain ⟨wE, hwE⟩ : ∃ wE, wE = w2.alloc (.cells #[.int .i64 (mo : Int), .int .i64 (ra : Int), .int .i64 (mi : Int), .int .i64 (co : Int), .int .u32 (su : Int), .int .i64 0, .int .i64 0] 37) := ⟨_, rfl⟩
         have hE : Blk wE G 37 [.int .i64 (mo : Int), .int .i64 (ra : Int), .int .i64 (mi : Int), .int .i64 (co : Int), .int .u32 (su : Int), .int .i64 0, .int .i64 0] := by rw [hwE]; exact blk_new _ _ _ hG
         have hZE : Blk wE (W.heap.size + 1) 37 [.int .i64 0, .int .i64 0, .int .i64 0, .int .i64 0, .int .u32 0, .int .i64 0, .int .i64 0] := by rw [hwE]; exact alloc7 HZ2.out _
         have hBE : Below W.heap.size W wE := by rw [hwE]; exact HB2.out.alloc HB2.out.size _
         have hGE : W.heap.size + 1 < G := by rw [hG]; exact HZ2.out.lt
         rw [← hwE, ← hG])
      | (obtain ⟨G, hG⟩ : ∃ G, G = w1.heap.size := ⟨_, rfl⟩
         obtain ⟨wE, hwE⟩ : ∃ wE, wE = ((((((w2.setCell ⟨w1.heap.size, 0, none⟩ (.int .i64 (mo : Int))).setCell ⟨w1.heap.size, 1, none⟩ (.int .i64 (ra : Int))).setCell ⟨w1.heap.size, 2, none⟩ (.int .i64 (mi : Int))).setCell ⟨w1.heap.size, 3, none⟩ (.int .i64 (co : Int))).setCell ⟨w1.heap.size, 4, none⟩ (.int .u32 (su : Int))).setCell ⟨w1.heap.size, 5, none⟩ (.int .i64 0)).setCell ⟨w1.heap.size, 6, none⟩ (.int .i64 0) := ⟨_, rfl⟩
         have hE : Blk wE G 37 [.int .i64 (mo : Int), .int .i64 (ra : Int), .int .i64 (mi : Int), .int .i64 (co : Int), .int .u32 (su : Int), .int .i64 0, .int .i64 0] := by rw [hwE, hG]; exact set7 HT2.out _ _ _ _ _ _ _
         have hZE : Blk wE (W.heap.size + 1) 37 [.int .i64 0, .int .i64 0, .int .i64 0, .int .i64 0, .int .u32 0, .int .i64 0, .int .i64 0] := by rw [hwE]; exact oth7 HZ2.out (by have := HS1.out; omega) _ _ _ _ _ _ _
         have hBE : Below W.heap.size W wE := by rw [hwE]; exact below7 HB2.out HB1.out.size _ _ _ _ _ _ _
         have hGE : W.heap.size + 1 < G := by have := HS1.out; omega
         rw [← hwE, ← hG]
         clear t0 t1 t2 t3 t4 t5 t6 f0 f1 f2 f3 f4 f5 f6 HT2)
    have HZE := Lib.hid hZE
    have HBE := Lib.hid hBE
    have HE := Lib.hid hE
    have z0 := hZE.cell 0
    have g0 := hZE.frozen 0
    have x0 := hE.cell 0
    have z1 := hZE.cell 1
    have g1 := hZE.frozen 1
    have x1 := hE.cell 1
    have z2 := hZE.cell 2
    have g2 := hZE.frozen 2
    have x2 := hE.cell 2
    have z3 := hZE.cell 3
    have g3 := hZE.frozen 3
    have x3 := hE.cell 3
    have z4 := hZE.cell 4
    have g4 := hZE.frozen 4
    have x4 := hE.cell 4
    have z5 := hZE.cell 5
    have g5 := hZE.frozen 5
    have x5 := hE.cell 5
    have z6 := hZE.cell 6
    have g6 := hZE.frozen 6
    have x6 := hE.cell 6
    have y5 := hE.frozen 5
    simp only [List.getElem?_cons_zero, List.getElem?_cons_succ] at z0 z1 z2 z3 z4 z5 z6 x0 x1 x2 x3 x4 x5 x6
    clear hwE hG hE hZE hBE HZ2 HB2
    go_wp2
    exact bodyPost_ret (results_cell_tmp32 Try.results39 _ _ (W.heap.size + 1) 37 _ (0, 0) _ rfl (set7 (HZE.out.setOther ⟨G, 5, none⟩ _ (by simp; omega)) _ _ _ _ _ _ _) Try.underlying37 rfl size_blk) rfl ⟨rfl, below7 (HBE.out.setCell (p := ⟨G, 5, none⟩) (by simp; omega) _) (by omega) _ _ _ _ _ _ _⟩
set_option maxHeartbeats 4000000 in
set_option maxRecDepth 100000 in
theorem frmBlockAt_yes (A : Option Addr) (n c p : Nat) (l : List UInt8) (W : World) (hr : Rd W W.heap.size A (bvs l)) (hn : l.length = n) (hnc : n ≤ c) (hn1 : n ≤ 100000) (hp : p ≤ n) {b : Nat} {wd rc md : Int} (hb : b ≤ 16777216) {mo ra mi co su k : Nat} (hk : p + k ≤ n) (hg : getB (l.drop p) b = ((mo, ra, mi, co, su), k, 0)) (hc : ¬ (n : Int) - ((p : Int) + (k : Int)) < (co : Int)) :
    Calls Try.prog 39 #[.slice A n c, .agg #[.int .i64 (b : Int), .int .i64 wd, .int .i64 rc, .int .i64 md], .int .i64 (p : Int)] W (BAtOut W ((mo, ra, mi, co, su), p + k, 0)) := by
  obtain ⟨w1, hw1⟩ : ∃ w1, w1 = (W.alloc (.cells #[.int .i64 (b : Int), .int .i64 wd, .int .i64 rc, .int .i64 md] 23)).alloc (.cells #[.int .i64 0, .int .i64 0, .int .i64 0, .int .i64 0, .int .u32 0, .int .i64 0, .int .i64 0] 37) := ⟨_, rfl⟩
  have hB1 : Below W.heap.size W w1 := by rw [hw1]; exact ((Below.refl _ _).alloc (Nat.le_refl _) _).alloc (by simp) _
  have hs1 : w1.heap.size = W.heap.size + 1 + 1 := by rw [hw1]; simp
  have hO1 : Blk w1 W.heap.size 23 [.int .i64 (b : Int), .int .i64 wd, .int .i64 rc, .int .i64 md] := by rw [hw1]; exact (blk_new W _ _ rfl).grow ((Below.refl _ _).alloc (Nat.le_refl _) _)
  have hZ1 : Blk w1 (W.heap.size + 1) 37 [.int .i64 0, .int .i64 0, .int .i64 0, .int .i64 0, .int .u32 0, .int .i64 0, .int .i64 0] := by rw [hw1]; exact blk_new _ _ _ (by simp)
  have HW1 := Lib.hid hw1
  have HB1 := Lib.hid hB1
  have HS1 := Lib.hid hs1
  have HZ1 := Lib.hid hZ1
  have HR1 := Lib.hid ((hr.below hB1).more hB1.size)
  have CG := Lib.hid (fun (w : World) (h : Below w1.heap.size w1 w) => blkGet_from (w := w) (wd := wd) (rc := rc) (md := md) (b := b) ((HR1.out.below h).more h.size) hn hnc (by omega) hp hb)
  rw [hg] at CG
  unfold BGetOut at CG
  obtain ⟨A3, hA3⟩ : ∃ A3, A3 = (if c = p then A else Option.map (fun x => x.add p) A) := ⟨_, rfl⟩
  rw [← hA3] at CG
  have HA3 := Lib.hid hA3
  simp only at CG
  rw [show (.agg (blkC ((mo, ra, mi, co, su))).toArray : Value) = .agg #[.int .i64 (mo : Int), .int .i64 (ra : Int), .int .i64 (mi : Int), .int .i64 (co : Int), .int .u32 (su : Int), .int .i64 0, .int .i64 0] from rfl] at CG
  have q0 : w1.drew.cell? ⟨W.heap.size, 0, none⟩ = _ := hO1.cell 0
  have q1 : w1.drew.cell? ⟨W.heap.size, 1, none⟩ = _ := hO1.cell 1
  have q2 : w1.drew.cell? ⟨W.heap.size, 2, none⟩ = _ := hO1.cell 2
  have q3 : w1.drew.cell? ⟨W.heap.size, 3, none⟩ = _ := hO1.cell 3
  have hO2 := hO1.grow ((Below.refl w1.heap.size w1).alloc (Nat.le_refl _) (.cells #[.int .i64 0, .int .i64 0, .int .i64 0, .int .i64 0, .int .u32 0, .int .i64 0, .int .i64 0] 37)).drew
  have r0 : (w1.alloc (.cells #[.int .i64 0, .int .i64 0, .int .i64 0, .int .i64 0, .int .u32 0, .int .i64 0, .int .i64 0] 37)).drew.cell? ⟨W.heap.size, 0, none⟩ = _ := hO2.cell 0
  have r1 : (w1.alloc (.cells #[.int .i64 0, .int .i64 0, .int .i64 0, .int .i64 0, .int .u32 0, .int .i64 0, .int .i64 0] 37)).drew.cell? ⟨W.heap.size, 1, none⟩ = _ := hO2.cell 1
  have r2 : (w1.alloc (.cells #[.int .i64 0, .int .i64 0, .int .i64 0, .int .i64 0, .int .u32 0, .int .i64 0, .int .i64 0] 37)).drew.cell? ⟨W.heap.size, 2, none⟩ = _ := hO2.cell 2
  have r3 : (w1.alloc (.cells #[.int .i64 0, .int .i64 0, .int .i64 0, .int .i64 0, .int .u32 0, .int .i64 0, .int .i64 0] 37)).drew.cell? ⟨W.heap.size, 3, none⟩ = _ := hO2.cell 3
  simp only [List.getElem?_cons_zero, List.getElem?_cons_succ] at q0 q1 q2 q3 r0 r1 r2 r3
  have hpi : (p : Int) ≤ (n : Int) := by omega
  have hci : (n : Int) ≤ (c : Int) := by omega
  clear hA3 hr hw1 hB1 hs1 hO1 hO2 hZ1 hg hn
  go_enter Try.func39, Try.ntmps39
  go_wp2_with fail
  rw [← HW1.out]
  go_region_with (first
    | (go_at_call 49; rw [← HA3.out]; (with_reducible refine (CG.out w1.drew (Below.refl _ _).drew).mono ?_); rintro _ w2 ⟨rfl, hb2⟩; have hb2' : Below w1.heap.size w1 w2 := (Below.refl _ _).drew.trans hb2; have HB2 := Lib.hid (HB1.out.trans (hb2'.mono HB1.out.size)); have HZ2 := Lib.hid (HZ1.out.grow hb2'); clear hb2 hb2')
    | (go_at_call 49; rw [← HA3.out]; (with_reducible refine (CG.out (w1.alloc (.cells #[.int .i64 0, .int .i64 0, .int .i64 0, .int .i64 0, .int .u32 0, .int .i64 0, .int .i64 0] 37)).drew ((Below.refl _ _).alloc (Nat.le_refl _) _).drew).mono ?_); rintro _ w2 ⟨rfl, hb2⟩; have hb2' : Below w1.heap.size w1 w2 := ((Below.refl _ _).alloc (Nat.le_refl _) _).drew.trans (hb2.mono (by simp)); have HB2 := Lib.hid (HB1.out.trans (hb2'.mono HB1.out.size)); have HZ2 := Lib.hid (HZ1.out.grow hb2'); have hT2 : Blk w2 w1.heap.size 37 [.int .i64 0, .int .i64 0, .int .i64 0, .int .i64 0, .int .u32 0, .int .i64 0, .int .i64 0] := (show Blk (World.drew (w1.alloc (.cells #[.int .i64 0, .int .i64 0, .int .i64 0, .int .i64 0, .int .u32 0, .int .i64 0, .int .i64 0] 37))) w1.heap.size _ _ from blk_new w1 _ _ rfl).grow hb2; have t0 := hT2.cell 0; have t1 := hT2.cell 1; have t2 := hT2.cell 2; have t3 := hT2.cell 3; have t4 := hT2.cell 4; have t5 := hT2.cell 5; have t6 := hT2.cell 6; have f0 := hT2.frozen 0; have f1 := hT2.frozen 1; have f2 := hT2.frozen 2; have f3 := hT2.frozen 3; have f4 := hT2.frozen 4; have f5 := hT2.frozen 5; have f6 := hT2.frozen 6; simp only [List.getElem?_cons_zero, List.getElem?_cons_succ] at t0 t1 t2 t3 t4 t5 t6; have HT2 := Lib.hid hT2; clear hb2 hb2' hT2))
  all_goals
    clear CG HR1 HA3 HW1 q0 q1 q2 q3 r0 r1 r2 r3
    first
      | (obtain ⟨G, hG⟩ : ∃ G, G = w2.heap.size := ⟨_, rfl⟩
         obtain ⟨wE, hwE⟩ : ∃ wE, wE = w2.alloc (.cells #[.int .i64 (mo : Int), .int .i64 (ra : Int), .int .i64 (mi : Int), .int .i64 (co : Int), .int .u32 (su : Int), .int .i64 0, .int .i64 0] 37) := ⟨_, rfl⟩
         have hE : Blk wE G 37 [.int .i64 (mo : Int), .int .i64 (ra : Int), .int .i64 (mi : Int), .int .i64 (co : Int), .int .u32 (su : Int), .int .i64 0, .int .i64 0] := by rw [hwE]; exact blk_new _ _ _ hG
         have hZE : Blk wE (W.heap.size + 1) 37 [.int .i64 0, .int .i64 0, .int .i64 0, .int .i64 0, .int .u32 0, .int .i64 0, .int .i64 0] := by rw [hwE]; exact alloc7 HZ2.out _
         have hBE : Below W.heap.size W wE := by rw [hwE]; exact HB2.out.alloc HB2.out.size _
         have hGE : W.heap.size + 1 < G := by rw [hG]; exact HZ2.out.lt
         rw [← hwE, ← hG])
      | (obtain ⟨G, hG⟩ : ∃ G, G = w1.heap.size := ⟨_, rfl⟩
         obtain ⟨wE, hwE⟩ : ∃ wE, wE = ((((((w2.setCell ⟨w1.heap.size, 0, none⟩ (.int .i64 (mo : Int))).setCell ⟨w1.heap.size, 1, none⟩ (.int .i64 (ra : Int))).setCell ⟨w1.heap.size, 2, none⟩ (.int .i64 (mi : Int))).setCell ⟨w1.heap.size, 3, none⟩ (.int .i64 (co : Int))).setCell ⟨w1.heap.size, 4, none⟩ (.int .u32 (su : Int))).setCell ⟨w1.heap.size, 5, none⟩ (.int .i64 0)).setCell ⟨w1.heap.size, 6, none⟩ (.int .i64 0) := ⟨_, rfl⟩
         have hE : Blk wE G 37 [.int .i64 (mo : Int), .int .i64 (ra : Int), .int .i64 (mi : Int), .int .i64 (co : Int), .int .u32 (su : Int), .int .i64 0, .int .i64 0] := by rw [hwE, hG]; exact set7 HT2.out _ _ _ _ _ _ _
         have hZE : Blk wE (W.heap.size + 1) 37 [.int .i64 0, .int .i64 0, .int .i64 0, .int .i64 0, .int .u32 0, .int .i64 0, .int .i64 0] := by rw [hwE]; exact oth7 HZ2.out (by have := HS1.out; omega) _ _ _ _ _ _ _
         have hBE : Below W.heap.size W wE := by rw [hwE]; exact below7 HB2.out HB1.out.size _ _ _ _ _ _ _
         have hGE : W.heap.size + 1 < G := by have := HS1.out; omega
         rw [← hwE, ← hG]
         clear t0 t1 t2 t3 t4 t5 t6 f0 f1 f2 f3 f4 f5 f6 HT2)
    have HZE := Lib.hid hZE
    have HBE := Lib.hid hBE
    have HE := Lib.hid hE
    have z0 := hZE.cell 0
    have g0 := hZE.frozen 0
    have x0 := hE.cell 0
    have z1 := hZE.cell 1
    have g1 := hZE.frozen 1
    have x1 := hE.cell 1
    have z2 := hZE.cell 2
    have g2 := hZE.frozen 2
    have x2 := hE.cell 2
    have z3 := hZE.cell 3
    have g3 := hZE.frozen 3
    have x3 := hE.cell 3
    have z4 := hZE.cell 4
    have g4 := hZE.frozen 4
    have x4 := hE.cell 4
    have z5 := hZE.cell 5
    have g5 := hZE.frozen 5
    have x5 := hE.cell 5
    have z6 := hZE.cell 6
    have g6 := hZE.frozen 6
    have x6 := hE.cell 6
    have y5 := hE.frozen 5
    simp only [List.getElem?_cons_zero, List.getElem?_cons_succ] at z0 z1 z2 z3 z4 z5 z6 x0 x1 x2 x3 x4 x5 x6
    clear hwE hG hE hZE hBE HZ2 HB2
    go_wp2
    exact bodyPost_ret (results_cell_tmp32 Try.results39 _ _ (W.heap.size + 1) 37 _ (0, 0) _ rfl (set7 (HZE.out.setOther ⟨G, 5, none⟩ _ (by simp; omega)) _ _ _ _ _ _ _) Try.underlying37 rfl size_blk) rfl ⟨rfl, below7 (HBE.out.setCell (p := ⟨G, 5, none⟩) (by simp; omega) _) (by omega) _ _ _ _ _ _ _⟩
theorem frmBlockAt_any (A : Option Addr) (n c p : Nat) (l : List UInt8) (W : World) (hr : Rd W W.heap.size A (bvs l)) (hn : l.length = n) (hnc : n ≤ c) (hn1 : n ≤ 100000) (hp : p ≤ n) {b : Nat} {wd rc md : Int} (hb : b ≤ 16777216) :
    Calls Try.prog 39 #[.slice A n c, .agg #[.int .i64 (b : Int), .int .i64 wd, .int .i64 rc, .int .i64 md], .int .i64 (p : Int)] W (BAtOut W (blkAt l b p)) := by
  unfold blkAt
  rcases getB_told (l.drop p) b with ⟨mo, ra, mi, co, su, k, hg, -, -, -, -, -, -, -, hk, -⟩ | ⟨e, hg, he⟩
  · rw [List.length_drop, hn] at hk
    rw [hg]
    simp only
    rw [if_neg (fun h => h rfl), hn]
    by_cases hc : n - (p + k) < co
    · rw [if_pos hc]
      exact frmBlockAt_short A n c p l W hr hn hnc hn1 hp hb (by omega) hg (by omega)
    · rw [if_neg hc]
      exact frmBlockAt_yes A n c p l W hr hn hnc hn1 hp hb (by omega) hg (by omega)
  · have he0 : e ≠ 0 := by omega
    rw [hg]
    simp only
    rw [if_pos he0]
    exact frmBlockAt_bad A n c p l W hr hn hnc hn1 hp hb he0 hg
end Go.Proofs.Ytjignfnkcbklkaa
namespace Go.Proofs.Ytjignfnkcbklkaa

/-- Parse, out of what head's Get tells of the bytes. -/
def parseB (l : List UInt8) : StreamR := parseR l (getP l (lget (l.drop 7)).1 (lget (l.drop 7)).2.1 (lget (l.drop 7)).2.2)
theorem parse_of {l : List UInt8} {m j e : Nat} (hg : lget (l.drop 7) = (m, j, e)) : parseR l (getP l m j e) = parseB l := by
  unfold parseB
  rw [hg]
section
variable {b u r m : Nat} {xs : List (Five × List UInt8)} {su : Nat}
end
end Go.Proofs.Ytjignfnkcbklkaa
namespace Go.Proofs.Ytjignfnkcbklkaa
open Go.RowKit Go.Sort

set_option maxHeartbeats 4000000 in
set_option maxRecDepth 100000 in
theorem numAs_err {W : World} {T b : Nat} {mo ra mi co su fr pl wd rc md : Int} (hT : Blk W T 37 [.int .i64 mo, .int .i64 ra, .int .i64 mi, .int .i64 co, .int .u32 su, .int .i64 fr, .int .i64 pl]) (hb : b ≤ 16777216)
    (hx : ∀ k, -9223372036854775808 ≤ xvB ra mi co k ∧ xvB ra mi co k ≤ 9223372036854775807) (hn : ¬ (1 ≤ ra ∧ ra ≤ (b : Int))) :
    Calls Try.prog 27 #[.pointer (some ⟨T, 0, none⟩), .agg #[.int .i64 (b : Int), .int .i64 wd, .int .i64 rc, .int .i64 md], .func (.func 28) #[] #[]] W fun e w' => e = .returned (.int .i64 15) ∧ Below W.heap.size W w' := by
  have hTl := hT.lt
  have C1 := Lib.hid (fun (w' : World) (N : Nat) (hN : Blk w' N 87 (nvs30 T [(1, 1, b)])) (hb' : Below W.heap.size W w') =>
    show Calls Try.prog 28 #[.slice (some ⟨N, 0, none⟩) 1 1] w' fun e w'' => e = .returned (.int .i64 15) ∧ Below w'.heap.size w' w'' from
    (blkAs_any hN (xv := xvB ra mi co) (by intro q hq; simp at hq; subst hq; exact (hT.grow hb').cell 1) (Nat.lt_of_lt_of_le hTl hb'.size) hx (by intro q hq; simp at hq; subst hq; simp; omega) (by simp)).mono fun e w'' ⟨h1, h2⟩ => ⟨by rw [h1, if_neg (by simp [asE, xvB]; omega)]; rfl, h2⟩)
  have HBX := Lib.hid ((Below.refl W.heap.size W).alloc (Nat.le_refl _) (.cells #[.int .i64 (b : Int), .int .i64 wd, .int .i64 rc, .int .i64 md] 23))
  clear hT hx hn
  go_enter Try.func27, Try.ntmps27
  go_wp2_with fail
  go_region_with (go_at_call 28; refine (C1.out _ _ (blk_new1 W _ _ _) (HBX.out.alloc HBX.out.size _).drew).mono ?_; rintro _ w2 ⟨rfl, hb2⟩; have HB2 := Lib.hid ((HBX.out.alloc HBX.out.size (.cells #[.pointer (some ⟨T, 1, none⟩), .int .i64 1, .int .i64 (b : Int)] 87)).drew.trans (hb2.mono (by simp; omega))); clear hb2)
  go_wp2
  go_ret
  exact ⟨rfl, HB2.out⟩
set_option maxHeartbeats 4000000 in
set_option maxRecDepth 100000 in
theorem numAs_stored {W : World} {T b ra : Nat} {mi co su fr pl wd rc md : Int} (hT : Blk W T 37 [.int .i64 0, .int .i64 (ra : Int), .int .i64 mi, .int .i64 co, .int .u32 su, .int .i64 fr, .int .i64 pl]) (hb : b ≤ 16777216)
    (hx : ∀ k, -9223372036854775808 ≤ xvB ra mi co k ∧ xvB ra mi co k ≤ 9223372036854775807) (h1 : 1 ≤ ra) (hn : ra ≤ b) :
    Calls Try.prog 27 #[.pointer (some ⟨T, 0, none⟩), .agg #[.int .i64 (b : Int), .int .i64 wd, .int .i64 rc, .int .i64 md], .func (.func 28) #[] #[]] W fun e w' => e = .returned (.int .i64 0) ∧ Blk w' T 37 [.int .i64 0, .int .i64 (ra : Int), .int .i64 0, .int .i64 (ra : Int), .int .u32 su, .int .i64 fr, .int .i64 pl] ∧ OnlyS [T] W w' := by
  have hTl := hT.lt
  have C1 := Lib.hid (fun (w' : World) (N : Nat) (hN : Blk w' N 87 (nvs30 T [(1, 1, b)])) (hb' : Below W.heap.size W w') =>
    show Calls Try.prog 28 #[.slice (some ⟨N, 0, none⟩) 1 1] w' fun e w'' => e = .returned (.int .i64 0) ∧ Below w'.heap.size w' w'' from
    (blkAs_any hN (xv := xvB ra mi co) (by intro q hq; simp at hq; subst hq; exact (hT.grow hb').cell 1) (Nat.lt_of_lt_of_le hTl hb'.size) hx (by intro q hq; simp at hq; subst hq; simp; omega) (by simp)).mono fun e w'' ⟨h1, h2⟩ => ⟨by rw [h1, if_pos (by simp [asE, xvB]; omega)]; rfl, h2⟩)
  have HBX := Lib.hid ((Below.refl W.heap.size W).alloc (Nat.le_refl _) (.cells #[.int .i64 (b : Int), .int .i64 wd, .int .i64 rc, .int .i64 md] 23))
  have HT := Lib.hid hT
  clear hT hx
  go_enter Try.func27, Try.ntmps27
  go_wp2_with fail
  go_region_with (go_at_call 28; refine (C1.out _ _ (blk_new1 W _ _ _) (HBX.out.alloc HBX.out.size _).drew).mono ?_; rintro _ w2 ⟨rfl, hb2⟩; have HB2 := Lib.hid ((HBX.out.alloc HBX.out.size (.cells #[.pointer (some ⟨T, 1, none⟩), .int .i64 1, .int .i64 (b : Int)] 87)).drew.trans (hb2.mono (by simp; omega))); clear hb2)
  have HT2 := Lib.hid (HT.out.grow HB2.out)
  have q0 := HT2.out.cell 0
  have q1 := HT2.out.cell 1
  have q2 := HT2.out.cell 2
  have q3 := HT2.out.cell 3
  have f2 := HT2.out.frozen 2
  have f3 := HT2.out.frozen 3
  simp only [List.getElem?_cons_zero, List.getElem?_cons_succ] at q0 q1 q2 q3
  go_wp2
  go_ret
  exact ⟨rfl, (HT2.out.set_ 2 _).set_ 3 _, ((OnlyS.of_below HB2.out).set_ (p := ⟨T, 2, none⟩) (by simp) _).set_ (p := ⟨T, 3, none⟩) (by simp) _⟩
set_option maxHeartbeats 4000000 in
set_option maxRecDepth 100000 in
theorem numAs_coded {W : World} {T b ra : Nat} {mo mi co su fr pl wd rc md : Int} (hT : Blk W T 37 [.int .i64 mo, .int .i64 (ra : Int), .int .i64 mi, .int .i64 co, .int .u32 su, .int .i64 fr, .int .i64 pl]) (hb : b ≤ 16777216)
    (hx : ∀ k, -9223372036854775808 ≤ xvB ra mi co k ∧ xvB ra mi co k ≤ 9223372036854775807) (h1 : 1 ≤ ra) (hn : ra ≤ b) (hmo : mo ≠ 0) (R : Nat) (hR : R = if (0 ≤ mi ∧ mi ≤ 3 * (ra : Int) + 64) ∧ (0 ≤ co ∧ co < (ra : Int)) then 0 else 15) :
    Calls Try.prog 27 #[.pointer (some ⟨T, 0, none⟩), .agg #[.int .i64 (b : Int), .int .i64 wd, .int .i64 rc, .int .i64 md], .func (.func 28) #[] #[]] W fun e w' => e = .returned (.int .i64 (R : Int)) ∧ Below W.heap.size W w' := by
  have hTl := hT.lt
  have C1 := Lib.hid (fun (w' : World) (N : Nat) (hN : Blk w' N 87 (nvs30 T [(1, 1, b)])) (hb' : Below W.heap.size W w') =>
    show Calls Try.prog 28 #[.slice (some ⟨N, 0, none⟩) 1 1] w' fun e w'' => e = .returned (.int .i64 0) ∧ Below w'.heap.size w' w'' from
    (blkAs_any hN (xv := xvB ra mi co) (by intro q hq; simp at hq; subst hq; exact (hT.grow hb').cell 1) (Nat.lt_of_lt_of_le hTl hb'.size) hx (by intro q hq; simp at hq; subst hq; simp; omega) (by simp)).mono fun e w'' ⟨h1, h2⟩ => ⟨by rw [h1, if_pos (by simp [asE, xvB]; omega)]; rfl, h2⟩)
  have C2 := Lib.hid (fun (w' : World) (N : Nat) (hN : Blk w' N 87 [.pointer (some ⟨T, 2, none⟩), .int .i64 0, .int .i64 (3 * (ra : Int) + 64), .pointer (some ⟨T, 3, none⟩), .int .i64 0, .int .i64 ((ra : Int) - 1)]) (hb' : Below W.heap.size W w') =>
    show Calls Try.prog 28 #[.slice (some ⟨N, 0, none⟩) 2 2] w' fun e w'' => e = .returned (.int .i64 (R : Int)) ∧ Below w'.heap.size w' w'' from
    (blkAs_any (L := [(2, 0, 3 * ra + 64), (3, 0, ra - 1)]) (by rw [nvs_two T ra h1]; exact hN) (xv := xvB ra mi co) (by intro q hq; simp at hq; rcases hq with rfl | rfl; exact (hT.grow hb').cell 2; exact (hT.grow hb').cell 3) (Nat.lt_of_lt_of_le hTl hb'.size) hx (by intro q hq; simp at hq; rcases hq with rfl | rfl <;> (simp; omega)) (by simp)).mono fun e w'' ⟨h3, h4⟩ => ⟨by
      rw [h3, hR]
      by_cases hc : (0 ≤ mi ∧ mi ≤ 3 * (ra : Int) + 64) ∧ (0 ≤ co ∧ co < (ra : Int))
      · rw [if_pos hc, if_pos (by simp [asE, xvB]; omega)]
      · rw [if_neg hc, if_neg (by simp [asE, xvB]; omega)], h4⟩)
  have CM := Lib.hid (fun (w' : World) => recMost_any (ra : Int) w')
  rw [show mostR (ra : Int) = 3 * (ra : Int) + 64 by unfold mostR sizedB; rw [if_pos (by simp; omega)]] at CM
  have HBX := Lib.hid ((Below.refl W.heap.size W).alloc (Nat.le_refl _) (.cells #[.int .i64 (b : Int), .int .i64 wd, .int .i64 rc, .int .i64 md] 23))
  have HT := Lib.hid hT
  clear hT hx hR
  go_enter Try.func27, Try.ntmps27
  go_wp2_with fail
  go_region_with (go_at_call 28; refine (C1.out _ _ (blk_new1 W _ _ _) (HBX.out.alloc HBX.out.size _).drew).mono ?_; rintro _ w2 ⟨rfl, hb2⟩; have HB2 := Lib.hid ((HBX.out.alloc HBX.out.size (.cells #[.pointer (some ⟨T, 1, none⟩), .int .i64 1, .int .i64 (b : Int)] 87)).drew.trans (hb2.mono (by simp; omega))); clear hb2)
  have HT2 := Lib.hid (HT.out.grow HB2.out)
  have q0 := HT2.out.cell 0
  have q1 := HT2.out.cell 1
  have q2 := HT2.out.cell 2
  have q3 := HT2.out.cell 3
  simp only [List.getElem?_cons_zero, List.getElem?_cons_succ] at q0 q1 q2 q3
  clear C1
  have hw1 : IntKind.i64.wrap ((ra : Int) - 1) = (ra : Int) - 1 := by rw [IntKind.wrap_i64]; omega
  go_wp2_with fail
  go_region_with (first | (go_at_call 46; refine (CM.out _).mono ?_; rintro _ _ ⟨rfl, rfl⟩) | (go_at_call 28; refine (C2.out _ _ (blk_newd w2 _ _) (HB2.out.alloc HB2.out.size _).drew).mono ?_; rintro _ w3 ⟨rfl, hb3⟩; have HB3 := Lib.hid ((HB2.out.alloc HB2.out.size (.cells #[.pointer (some ⟨T, 2, none⟩), .int .i64 0, .int .i64 (3 * (ra : Int) + 64), .pointer (some ⟨T, 3, none⟩), .int .i64 0, .int .i64 ((ra : Int) - 1)] 87)).drew.trans (hb3.mono (by simp; have := HB2.out.size; omega))); clear hb3))
  all_goals
    go_wp2
    go_ret
    exact ⟨rfl, HB3.out⟩
end Go.Proofs.Ytjignfnkcbklkaa
