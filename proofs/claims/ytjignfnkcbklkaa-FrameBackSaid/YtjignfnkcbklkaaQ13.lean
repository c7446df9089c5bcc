/-
  Layer 32: the program: blockAt. Written by gen_frmat.py. · Layer 32: what was put is parsed as it was; what was cut ends too early; with a byte behind it is refused. Pure.
-/
import Derived.Test.YtjignfnkcbklkaaQ12
namespace Go.Proofs.Ytjignfnkcbklkaa
open Go.RowKit Go.Sort

/-- What blockAt answers. -/
def BAtOut (W : World) (r : Five × Nat × Nat) (e : Ending) (w' : World) : Prop := e = .returned (.tuple #[.agg (blkF r.1 r.2.1 0).toArray, .int .i64 (r.2.2 : Int)]) ∧ Below W.heap.size W w'
theorem oth7 {w : World} {g k : Nat} {t : TypeId} {cs : List Value} (h : Blk w g t cs) (hk : g ≠ k) (v0 v1 v2 v3 v4 v5 v6 : Value) : Blk (((((((w.setCell ⟨k, 0, none⟩ v0).setCell ⟨k, 1, none⟩ v1).setCell ⟨k, 2, none⟩ v2).setCell ⟨k, 3, none⟩ v3).setCell ⟨k, 4, none⟩ v4).setCell ⟨k, 5, none⟩ v5).setCell ⟨k, 6, none⟩ v6) g t cs :=
  ((((((h.setOther ⟨k, 0, none⟩ v0 hk).setOther ⟨k, 1, none⟩ v1 hk).setOther ⟨k, 2, none⟩ v2 hk).setOther ⟨k, 3, none⟩ v3 hk).setOther ⟨k, 4, none⟩ v4 hk).setOther ⟨k, 5, none⟩ v5 hk).setOther ⟨k, 6, none⟩ v6 hk
theorem alloc7 {w : World} {g : Nat} {t : TypeId} {cs : List Value} (h : Blk w g t cs) (o : Obj) : Blk (w.alloc o) g t cs := (Below.heap_alloc _ _ _ h.lt).trans h
set_option maxHeartbeats 4000000 in
set_option maxRecDepth 100000 in
theorem frmBlockAt_bad (A : Option Addr) (n c p : Nat) (l : List UInt8) (W : World) (hr : Rd W W.heap.size A (bvs l)) (hn : l.length = n) (hnc : n ≤ c) (hn1 : n ≤ 100000) (hp : p ≤ n) {b : Nat} {wd rc md : Int} (hb : b ≤ 16777216) {e : Nat} (he : e ≠ 0) (hg : getB (l.drop p) b = ((0, 0, 0, 0, 0), 0, e)) :
    Calls Try.prog 39 #[.slice A n c, .agg #[.int .i64 (b : Int), .int .i64 wd, .int .i64 rc, .int .i64 md], .int .i64 (p : Int)] W (BAtOut W (noFive, 0, e)) := by
  obtain ⟨w1, hw1⟩ : ∃ w1, w1 = (W.alloc (.cells #[.int .i64 (b : Int), .int .i64 wd, .int .i64 rc, .int .i64 md] 23)).alloc (.cells #[.int .i64 0, .int .i64 0, .int .i64 0, .int .i64 0, .int .u32 0, .int .i64 0, .int .i64 0] 37) := ⟨_, rfl⟩
  have hB1 : Below W.heap.size W w1 := by rw [hw1]; exact ((Below.refl _ _).alloc (Nat.le_refl _) _).alloc (by simp) _
  have hs1 : w1.heap.size = W.heap.size + 1 + 1 := by rw [hw1]; simp
  have hO1 : Blk w1 W.heap.size 23 [.int .i64 (b : Int), .int .i64 wd, .int .i64 rc, .int .i64 md] := by rw [hw1]; exact (blk_new W _ _ rfl).grow ((Below.refl _ _).alloc (Nat.le_refl _) _)
  have hZ1 : Blk w1 (W.heap.size + 1) 37 [.int .i64 0, .int .i64 0, .int .i64 0, .int .i64 0, .int .u32 0, .int .i64 0, .int .i64 0] := by rw [hw1]; exact blk_new _ _ _ (by simp)
  have HW1 := Lib.hid hw1
  have HB1 := Lib.hid hB1
  have HS1 := Lib.hid hs1
  have HZ1 := Lib.hid hZ1
  have HR1 := Lib.hid ((hr.below hB1).more hB1.size)
  have CG := Lib.hid (fun (w : World) (h : Below w1.heap.size w1 w) => blkGet_from (w := w) (wd := wd) (rc := rc) (md := md) (b := b) ((HR1.out.below h).more h.size) hn hnc (by omega) hp hb)
  rw [hg] at CG
  unfold BGetOut at CG
  obtain ⟨A3, hA3⟩ : ∃ A3, A3 = (if c = p then A else Option.map (fun x => x.add p) A) := ⟨_, rfl⟩
  rw [← hA3] at CG
  have HA3 := Lib.hid hA3
  simp only at CG
  rw [show (.agg (blkC ((0, 0, 0, 0, 0))).toArray : Value) = .agg #[.int .i64 0, .int .i64 0, .int .i64 0, .int .i64 0, .int .u32 0, .int .i64 0, .int .i64 0] from rfl] at CG
  have q0 : w1.drew.cell? ⟨W.heap.size, 0, none⟩ = _ := hO1.cell 0
  have q1 : w1.drew.cell? ⟨W.heap.size, 1, none⟩ = _ := hO1.cell 1
  have q2 : w1.drew.cell? ⟨W.heap.size, 2, none⟩ = _ := hO1.cell 2
  have q3 : w1.drew.cell? ⟨W.heap.size, 3, none⟩ = _ := hO1.cell 3
  have hO2 := hO1.grow ((Below.refl w1.heap.size w1).alloc (Nat.le_refl _) (.cells #[.int .i64 0, .int .i64 0, .int .i64 0, .int .i64 0, .int .u32 0, .int .i64 0, .int .i64 0] 37)).drew
  have r0 : (w1.alloc (.cells #[.int .i64 0, .int .i64 0, .int .i64 0, .int .i64 0, .int .u32 0, .int .i64 0, .int .i64 0] 37)).drew.cell? ⟨W.heap.size, 0, none⟩ = _ := hO2.cell 0
  have r1 : (w1.alloc (.cells #[.int .i64 0, .int .i64 0, .int .i64 0, .int .i64 0, .int .u32 0, .int .i64 0, .int .i64 0] 37)).drew.cell? ⟨W.heap.size, 1, none⟩ = _ := hO2.cell 1
  have r2 : (w1.alloc (.cells #[.int .i64 0, .int .i64 0, .int .i64 0, .int .i64 0, .int .u32 0, .int .i64 0, .int .i64 0] 37)).drew.cell? ⟨W.heap.size, 2, none⟩ = _ := hO2.cell 2
  have r3 : (w1.alloc (.cells #[.int .i64 0, .int .i64 0, .int .i64 0, .int .i64 0, .int .u32 0, .int .i64 0, .int .i64 0] 37)).drew.cell? ⟨W.heap.size, 3, none⟩ = _ := hO2.cell 3
  simp only [List.getElem?_cons_zero, List.getElem?_cons_succ] at q0 q1 q2 q3 r0 r1 r2 r3
  have hpi : (p : Int) ≤ (n : Int) := by omega
  have hci : (n : Int) ≤ (c : Int) := by omega
  clear hA3 hr hw1 hB1 hs1 hO1 hO2 hZ1 hg hn
  go_enter Try.func39, Try.ntmps39
  go_wp2_with fail
  rw [← HW1.out]
  go_region_with (first
    | (go_at_call 49; rw [← HA3.out]; (with_reducible refine (CG.out w1.drew (Below.refl _ _).drew).mono ?_); rintro _ w2 ⟨rfl, hb2⟩; have hb2' : Below w1.heap.size w1 w2 := (Below.refl _ _).drew.trans hb2; have HB2 := Lib.hid (HB1.out.trans (hb2'.mono HB1.out.size)); have HZ2 := Lib.hid (HZ1.out.grow hb2'); clear hb2 hb2')
    | (go_at_call 49; rw [← HA3.out]; (with_reducible refine (CG.out (w1.alloc (.cells #[.int .i64 0, .int .i64 0, .int .i64 0, .int .i64 0, .int .u32 0, .int .i64 0, .int .i64 0] 37)).drew ((Below.refl _ _).alloc (Nat.le_refl _) _).drew).mono ?_); rintro _ w2 ⟨rfl, hb2⟩; have hb2' : Below w1.heap.size w1 w2 := ((Below.refl _ _).alloc (Nat.le_refl _) _).drew.trans (hb2.mono (by simp)); have HB2 := Lib.hid (HB1.out.trans (hb2'.mono HB1.out.size)); have HZ2 := Lib.hid (HZ1.out.grow hb2'); have hT2 : Blk w2 w1.heap.size 37 [.int .i64 0, .int .i64 0, .int .i64 0, .int .i64 0, .int .u32 0, .int .i64 0, .int .i64 0] := (show Blk (World.drew (w1.alloc (.cells #[.int .i64 0, .int .i64 0, .int .i64 0, .int .i64 0, .int .u32 0, .int .i64 0, .int .i64 0] 37))) w1.heap.size _ _ from blk_new w1 _ _ rfl).grow hb2; have t0 := hT2.cell 0; have t1 := hT2.cell 1; have t2 := hT2.cell 2; have t3 := hT2.cell 3; have t4 := hT2.cell 4; have t5 := hT2.cell 5; have t6 := hT2.cell 6; have f0 := hT2.frozen 0; have f1 := hT2.frozen 1; have f2 := hT2.frozen 2; have f3 := hT2.frozen 3; have f4 := hT2.frozen 4; have f5 := hT2.frozen 5; have f6 := hT2.frozen 6; simp only [List.getElem?_cons_zero, List.getElem?_cons_succ] at t0 t1 t2 t3 t4 t5 t6; have HT2 := Lib.hid hT2; clear hb2 hb2' hT2))
  all_goals
    clear CG HR1 HA3 HW1 q0 q1 q2 q3 r0 r1 r2 r3
    first
      | (obtain ⟨G, hG⟩ : ∃ G, G = w2.heap.size := ⟨_, rfl⟩
         obtain ⟨wE, hwE⟩ : ∃ wE, wE = w2.alloc (.cells #[.int .i64 0, .int .i64 0, .int .i64 0, .int .i64 0, .int .u32 0, .int .i64 0, .int .i64 0] 37) := ⟨_, rfl⟩
         have hE : Blk wE G 37 [.int .i64 0, .int .i64 0, .int .i64 0, .int .i64 0, .int .u32 0, .int .i64 0, .int .i64 0] := by rw [hwE]; exact blk_new _ _ _ hG
         have hZE : Blk wE (W.heap.size + 1) 37 [.int .i64 0, .int .i64 0, .int .i64 0, .int .i64 0, .int .u32 0, .int .i64 0, .int .i64 0] := by rw [hwE]; exact alloc7 HZ2.out _
         have hBE : Below W.heap.size W wE := by rw [hwE]; exact HB2.out.alloc HB2.out.size _
         have hGE : W.heap.size + 1 < G := by rw [hG]; exact HZ2.out.lt
         rw [← hwE, ← hG])
      | (obtain ⟨G, hG⟩ : ∃ G, G = w1.heap.size := ⟨_, rfl⟩
         obtain ⟨wE, hwE⟩ : ∃ wE, wE = ((((((w2.setCell ⟨w1.heap.size, 0, none⟩ (.int .i64 0)).setCell ⟨w1.heap.size, 1, none⟩ (.int .i64 0)).setCell ⟨w1.heap.size, 2, none⟩ (.int .i64 0)).setCell ⟨w1.heap.size, 3, none⟩ (.int .i64 0)).setCell ⟨w1.heap.size, 4, none⟩ (.int .u32 0)).setCell ⟨w1.heap.size, 5, none⟩ (.int .i64 0)).setCell ⟨w1.heap.size, 6, none⟩ (.int .i64 0) := ⟨_, rfl⟩
         have hE : Blk wE G 37 [.int .i64 0, .int .i64 0, .int .i64 0, .int .i64 0, .int .u32 0, .int .i64 0, .int .i64 0] := by rw [hwE, hG]; exact set7 HT2.out _ _ _ _ _ _ _
         have hZE : Blk wE (W.heap.size + 1) 37 [.int .i64 0, .int .i64 0, .int .i64 0, .int .i64 0, .int .u32 0, .int .i64 0, .int .i64 0] := by rw [hwE]; exact oth7 HZ2.out (by have := HS1.out; omega) _ _ _ _ _ _ _
         have hBE : Below W.heap.size W wE := by rw [hwE]; exact below7 HB2.out HB1.out.size _ _ _ _ _ _ _
         have hGE : W.heap.size + 1 < G := by have := HS1.out; omega
         rw [← hwE, ← hG]
         clear t0 t1 t2 t3 t4 t5 t6 f0 f1 f2 f3 f4 f5 f6 HT2)
    have HZE := Lib.hid hZE
    have HBE := Lib.hid hBE
    have HE := Lib.hid hE
    have z0 := hZE.cell 0
    have g0 := hZE.frozen 0
    have x0 := hE.cell 0
    have z1 := hZE.cell 1
    have g1 := hZE.frozen 1
    have x1 := hE.cell 1
    have z2 := hZE.cell 2
    have g2 := hZE.frozen 2
    have x2 := hE.cell 2
    have z3 := hZE.cell 3
    have g3 := hZE.frozen 3
    have x3 := hE.cell 3
    have z4 := hZE.cell 4
    have g4 := hZE.frozen 4
    have x4 := hE.cell 4
    have z5 := hZE.cell 5
    have g5 := hZE.frozen 5
    have x5 := hE.cell 5
    have z6 := hZE.cell 6
    have g6 := hZE.frozen 6
    have x6 := hE.cell 6
    have y5 := hE.frozen 5
    simp only [List.getElem?_cons_zero, List.getElem?_cons_succ] at z0 z1 z2 z3 z4 z5 z6 x0 x1 x2 x3 x4 x5 x6
    clear hwE hG hE hZE hBE HZ2 HB2
    have hei : ¬ (e : Int) = 0 := by omega
    go_wp2
    exact bodyPost_ret (results_cell_tmp32 Try.results39 _ _ (W.heap.size + 1) 37 _ (0, 0) _ rfl (set7 HZE.out _ _ _ _ _ _ _) Try.underlying37 rfl size_blk) rfl ⟨rfl, below7 HBE.out (by omega) _ _ _ _ _ _ _⟩
set_option maxHeartbeats 4000000 in
set_option maxRecDepth 100000 in
theorem frmBlockAt_short (A : Option Addr) (n c p : Nat) (l : List UInt8) (W : World) (hr : Rd W W.heap.size A (bvs l)) (hn : l.length = n) (hnc : n ≤ c) (hn1 : n ≤ 100000) (hp : p ≤ n) {b : Nat} {wd rc md : Int} (hb : b ≤ 16777216) {mo ra mi co su k : Nat} (hk : p + k ≤ n) (hg : getB (l.drop p) b = ((mo, ra, mi, co, su), k, 0)) (hc : (n : Int) - ((p : Int) + (k : Int)) < (co : Int)) :
    Calls Try.prog 39 #[.slice A n c, .agg #[.int .i64 (b : Int), .int .i64 wd, .int .i64 rc, .int .i64 md], .int .i64 (p : Int)] W (BAtOut W (noFive, 0, 11)) := by
  obtain ⟨w1, hw1⟩ : ∃ w1, w1 = (W.alloc (.cells #[.int .i64 (b : Int), .int .i64 wd, .int .i64 rc, .int .i64 md] 23)).alloc (.cells #[.int .i64 0, .int .i64 0, .int .i64 0, .int .i64 0, .int .u32 0, .int .i64 0, .int .i64 0] 37) := ⟨_, rfl⟩
  have hB1 : Below W.heap.size W w1 := by rw [hw1]; exact ((Below.refl _ _).alloc (Nat.le_refl _) _).alloc (by simp) _
  have hs1 : w1.heap.size = W.heap.size + 1 + 1 := by rw [hw1]; simp
  have hO1 : Blk w1 W.heap.size 23 [.int .i64 (b : Int), .int .i64 wd, .int .i64 rc, .int .i64 md] := by rw [hw1]; exact (blk_new W _ _ rfl).grow ((Below.refl _ _).alloc (Nat.le_refl _) _)
  have hZ1 : Blk w1 (W.heap.size + 1) 37 [.int .i64 0, .int .i64 0, .int .i64 0, .int .i64 0, .int .u32 0, .int .i64 0, .int .i64 0] := by rw [hw1]; exact blk_new _ _ _ (by simp)
  have HW1 := Lib.hid hw1
  have HB1 := Lib.hid hB1
  have HS1 := Lib.hid hs1
  have HZ1 := Lib.hid hZ1
  have HR1 := Lib.hid ((hr.below hB1).more hB1.size)
  have CG := Lib.hid (fun (w : World) (h : Below w1.heap.size w1 w) => blkGet_from (w := w) (wd := wd) (rc := rc) (md := md) (b := b) ((HR1.out.below h).more h.size) hn hnc (by omega) hp hb)
  rw [hg] at CG
  unfold BGetOut at CG
  obtain ⟨A3, hA3⟩ : ∃ A3, A3 = (if c = p then A else Option.map (fun x => x.add p) A) := ⟨_, rfl⟩
  rw [← hA3] at CG
  have HA3 := Lib.hid hA3
  simp only at CG
  rw [show (.agg (blkC ((mo, ra, mi, co, su))).toArray : Value) = .agg #[.int .i64 (mo : Int), .int .i64 (ra : Int), .int .i64 (mi : Int), .int .i64 (co : Int), .int .u32 (su : Int), .int .i64 0, .int .i64 0] from rfl] at CG
  have q0 : w1.drew.cell? ⟨W.heap.size, 0, none⟩ = _ := hO1.cell 0
  have q1 : w1.drew.cell? ⟨W.heap.size, 1, none⟩ = _ := hO1.cell 1
  have q2 : w1.drew.cell? ⟨W.heap.size, 2, none⟩ = _ := hO1.cell 2
  have q3 : w1.drew.cell? ⟨W.heap.size, 3, none⟩ = _ := hO1.cell 3
  have hO2 := hO1.grow ((Below.refl w1.heap.size w1).alloc (Nat.le_refl _) (.cells #[.int .i64 0, .int .i64 0, .int .i64 0, .int .i64 0, .int .u32 0, .int .i64 0, .int .i64 0] 37)).drew
  have r0 : (w1.alloc (.cells #[.int .i64 0, .int .i64 0, .int .i64 0, .int .i64 0, .int .u32 0, .int .i64 0, .int .i64 0] 37)).drew.cell? ⟨W.heap.size, 0, none⟩ = _ := hO2.cell 0
  have r1 : (w1.alloc (.cells #[.int .i64 0, .int .i64 0, .int .i64 0, .int .i64 0, .int .u32 0, .int .i64 0, .int .i64 0] 37)).drew.cell? ⟨W.heap.size, 1, none⟩ = _ := hO2.cell 1
  have r2 : (w1.alloc (.cells #[.int .i64 0, .int .i64 0, .int .i64 0, .int .i64 0, .int .u32 0, .int .i64 0, .int .i64 0] 37)).drew.cell? ⟨W.heap.size, 2, none⟩ = _ := hO2.cell 2
  have r3 : (w1.alloc (.cells #[.int .i64 0, .int .i64 0, .int .i64 0, .int .i64 0, .int .u32 0, .int .i64 0, .int .i64 0] 37)).drew.cell? ⟨W.heap.size, 3, none⟩ = _ := hO2.cell 3
  simp only [List.getElem?_cons_zero, List.getElem?_cons_succ] at q0 q1 q2 q3 r0 r1 r2 r3
  have hpi : (p : Int) ≤ (n : Int) := by omega
  have hci : (n : Int) ≤ (c : Int) := by omega
  clear hA3 hr hw1 hB1 hs1 hO1 hO2 hZ1 hg hn
  go_enter Try.func39, Try.ntmps39
  go_wp2_with fail
  rw [← HW1.out]
  go_region_with (first
    | (go_at_call 49; rw [← HA3.out]; (with_reducible refine (CG.out w1.drew (Below.refl _ _).drew).mono ?_); rintro _ w2 ⟨rfl, hb2⟩; have hb2' : Below w1.heap.size w1 w2 := (Below.refl _ _).drew.trans hb2; have HB2 := Lib.hid (HB1.out.trans (hb2'.mono HB1.out.size)); have HZ2 := Lib.hid (HZ1.out.grow hb2'); clear hb2 hb2')
    | (go_at_call 49; rw [← HA3.out]; (with_reducible refine (CG.out (w1.alloc (.cells #[.int .i64 0, .int .i64 0, .int .i64 0, .int .i64 0, .int .u32 0, .int .i64 0, .int .i64 0] 37)).drew ((Below.refl _ _).alloc (Nat.le_refl _) _).drew).mono ?_); rintro _ w2 ⟨rfl, hb2⟩; have hb2' : Below w1.heap.size w1 w2 := ((Below.refl _ _).alloc (Nat.le_refl _) _).drew.trans (hb2.mono (by simp)); have HB2 := Lib.hid (HB1.out.trans (hb2'.mono HB1.out.size)); have HZ2 := Lib.hid (HZ1.out.grow hb2'); have hT2 : Blk w2 w1.heap.size 37 [.int .i64 0, .int .i64 0, .int .i64 0, .int .i64 0, .int .u32 0, .int .i64 0, .int .i64 0] := (show Blk (World.drew (w1.alloc (.cells #[.int .i64 0, .int .i64 0, .int .i64 0, .int .i64 0, .int .u32 0, .int .i64 0, .int .i64 0] 37))) w1.heap.size _ _ from blk_new w1 _ _ rfl).grow hb2; have t0 := hT2.cell 0; have t1 := hT2.cell 1; have t2 := hT2.cell 2; have t3 := hT2.cell 3; have t4 := hT2.cell 4; have t5 := hT2.cell 5; have t6 := hT2.cell 6; have f0 := hT2.frozen 0; have f1 := hT2.frozen 1; have f2 := hT2.frozen 2; have f3 := hT2.frozen 3; have f4 := hT2.frozen 4; have f5 := hT2.frozen 5; have f6 := hT2.frozen 6; simp only [List.getElem?_cons_zero, List.getElem?_cons_succ] at t0 t1 t2 t3 t4 t5 t6; have HT2 := Lib.hid hT2; clear hb2 hb2' hT2))
  all_goals
    clear CG HR1 HA3 HW1 q0 q1 q2 q3 r0 r1 r2 r3
    first
      | (obtain ⟨G, hG⟩ : ∃ G, G = w2.heap.size := ⟨_, rfl⟩
         obtain ⟨wE, hwE⟩ : ∃ wE, wE = w2.alloc (.cells #[.int .i64 (mo : Int), .int .i64 (ra : Int), .int .i64 (mi : Int), .int .i64 (co : Int), .int .u32 (su : Int), .int .i64 0, .int .i64 0] 37) := ⟨_, rfl⟩
         have hE : Blk wE G 37 [.int .i64 (mo : Int), .int .i64 (ra : Int), .int .i64 (mi : Int), .int .i64 (co : Int), .int .u32 (su : Int), .int .i64 0, .int .i64 0] := by rw [hwE]; exact blk_new _ _ _ hG
         have hZE : Blk wE (W.heap.size + 1) 37 [.int .i64 0, .int .i64 0, .int .i64 0, .int .i64 0, .int .u32 0, .int .i64 0, .int .i64 0] := by rw [hwE]; exact alloc7 HZ2.out _
         have hBE : Below W.heap.size W wE := by rw [hwE]; exact HB2.out.alloc HB2.out.size _
         have hGE : W.heap.size + 1 < G := by rw [hG]; exact HZ2.out.lt
         rw [← hwE, ← hG])
      | (obtain ⟨G, hG⟩ : ∃ G, G = w1.heap.size := ⟨_, rfl⟩
         obtain ⟨wE, hwE⟩ : ∃ wE, wE = ((((((w2.setCell ⟨w1.heap.size, 0, none⟩ (.int .i64 (mo : Int))).setCell ⟨w1.heap.size, 1, none⟩ (.int .i64 (ra : Int))).setCell ⟨w1.heap.size, 2, none⟩ (.int .i64 (mi : Int))).setCell ⟨w1.heap.size, 3, none⟩ (.int .i64 (co : Int))).setCell ⟨w1.heap.size, 4, none⟩ (.int .u32 (su : Int))).setCell ⟨w1.heap.size, 5, none⟩ (.int .i64 0)).setCell ⟨w1.heap.size, 6, none⟩ (.int .i64 0) := ⟨_, rfl⟩
         have hE : Blk wE G 37 [.int .i64 (mo : Int), .int .i64 (ra : Int), .int .i64 (mi : Int), .int .i64 (co : Int), .int .u32 (su : Int), .int .i64 0, .int .i64 0] := by rw [hwE, hG]; exact set7 HT2.out _ _ _ _ _ _ _
         have hZE : Blk wE (W.heap.size + 1) 37 [.int .i64 0, .int .i64 0, .int .i64 0, .int .i64 0, .int .u32 0, .int .i64 0, .int .i64 0] := by rw [hwE]; exact oth7 HZ2.out (by have := HS1.out; omega) _ _ _ _ _ _ _
         have hBE : Below W.heap.size W wE := by rw [hwE]; exact below7 HB2.out HB1.out.size _ _ _ _ _ _ _
         have hGE : W.heap.size + 1 < G := by have := HS1.out; omega
         rw [← hwE, ← hG]
         clear t0 t1 t2 t3 t4 t5 t6 f0 f1 f2 f3 f4 f5 f6 HT2)
    have HZE := Lib.hid hZE
    have HBE := Lib.hid hBE
    have HE := Lib.hid hE
    have z0 := hZE.cell 0
    have g0 := hZE.frozen 0
    have x0 := hE.cell 0
    have z1 := hZE.cell 1
    have g1 := hZE.frozen 1
    have x1 := hE.cell 1
    have z2 := hZE.cell 2
    have g2 := hZE.frozen 2
    have x2 := hE.cell 2
    have z3 := hZE.cell 3
    have g3 := hZE.frozen 3
    have x3 := hE.cell 3
    have z4 := hZE.cell 4
    have g4 := hZE.frozen 4
    have x4 := hE.cell 4
    have z5 := hZE.cell 5
    have g5 := hZE.frozen 5
    have x5 := hE.cell 5
    have z6 := hZE.cell 6
    have g6 := hZE.frozen 6
    have x6 := hE.cell 6
    have y5 := hE.frozen 5
    simp only [List.getElem?_cons_zero, List.getElem?_cons_succ] at z0 z1 z2 z3 z4 z5 z6 x0 x1 x2 x3 x4 x5 x6
    clear hwE hG hE hZE hBE HZ2 HB2
    go_wp2
    exact bodyPost_ret (results_cell_tmp32 Try.results39 _ _ (W.heap.size + 1) 37 _ (0, 0) _ rfl (set7 (HZE.out.setOther ⟨G, 5, none⟩ _ (by simp; omega)) _ _ _ _ _ _ _) Try.underlying37 rfl size_blk) rfl ⟨rfl, below7 (HBE.out.setCell (p := ⟨G, 5, none⟩) (by simp; omega) _) (by omega) _ _ _ _ _ _ _⟩
set_option maxHeartbeats 4000000 in
set_option maxRecDepth 100000 in
theorem frmBlockAt_yes (A : Option Addr) (n c p : Nat) (l : List UInt8) (W : World) (hr : Rd W W.heap.size A (bvs l)) (hn : l.length = n) (hnc : n ≤ c) (hn1 : n ≤ 100000) (hp : p ≤ n) {b : Nat} {wd rc md : Int} (hb : b ≤ 16777216) {mo ra mi co su k : Nat} (hk : p + k ≤ n) (hg : getB (l.drop p) b = ((mo, ra, mi, co, su), k, 0)) (hc : ¬ (n : Int) - ((p : Int) + (k : Int)) < (co : Int)) :
    Calls Try.prog 39 #[.slice A n c, .agg #[.int .i64 (b : Int), .int .i64 wd, .int .i64 rc, .int .i64 md], .int .i64 (p : Int)] W (BAtOut W ((mo, ra, mi, co, su), p + k, 0)) := by
  obtain ⟨w1, hw1⟩ : ∃ w1, w1 = (W.alloc (.cells #[.int .i64 (b : Int), .int .i64 wd, .int .i64 rc, .int .i64 md] 23)).alloc (.cells #[.int .i64 0, .int .i64 0, .int .i64 0, .int .i64 0, .int .u32 0, .int .i64 0, .int .i64 0] 37) := ⟨_, rfl⟩
  have hB1 : Below W.heap.size W w1 := by rw [hw1]; exact ((Below.refl _ _).alloc (Nat.le_refl _) _).alloc (by simp) _
  have hs1 : w1.heap.size = W.heap.size + 1 + 1 := by rw [hw1]; simp
  have hO1 : Blk w1 W.heap.size 23 [.int .i64 (b : Int), .int .i64 wd, .int .i64 rc, .int .i64 md] := by rw [hw1]; exact (blk_new W _ _ rfl).grow ((Below.refl _ _).alloc (Nat.le_refl _) _)
  have hZ1 : Blk w1 (W.heap.size + 1) 37 [.int .i64 0, .int .i64 0, .int .i64 0, .int .i64 0, .int .u32 0, .int .i64 0, .int .i64 0] := by rw [hw1]; exact blk_new _ _ _ (by simp)
  have HW1 := Lib.hid hw1
  have HB1 := Lib.hid hB1
  have HS1 := Lib.hid hs1
  have HZ1 := Lib.hid hZ1
  have HR1 := Lib.hid ((hr.below hB1).more hB1.size)
  have CG := Lib.hid (fun (w : World) (h : Below w1.heap.size w1 w) => blkGet_from (w := w) (wd := wd) (rc := rc) (md := md) (b := b) ((HR1.out.below h).more h.size) hn hnc (by omega) hp hb)
  rw [hg] at CG
  unfold BGetOut at CG
  obtain ⟨A3, hA3⟩ : ∃ A3, A3 = (if c = p then A else Option.map (fun x => x.add p) A) := ⟨_, rfl⟩
  rw [← hA3] at CG
  have HA3 := Lib.hid hA3
  simp only at CG
  rw [show (.agg (blkC ((mo, ra, mi, co, su))).toArray : Value) = .agg #[.int .i64 (mo : Int), .int .i64 (ra : Int), .int .i64 (mi : Int), .int .i64 (co : Int), .int .u32 (su : Int), .int .i64 0, .int .i64 0] from rfl] at CG
  have q0 : w1.drew.cell? ⟨W.heap.size, 0, none⟩ = _ := hO1.cell 0
  have q1 : w1.drew.cell? ⟨W.heap.size, 1, none⟩ = _ := hO1.cell 1
  have q2 : w1.drew.cell? ⟨W.heap.size, 2, none⟩ = _ := hO1.cell 2
  have q3 : w1.drew.cell? ⟨W.heap.size, 3, none⟩ = _ := hO1.cell 3
  have hO2 := hO1.grow ((Below.refl w1.heap.size w1).alloc (Nat.le_refl _) (.cells #[.int .i64 0, .int .i64 0, .int .i64 0, .int .i64 0, .int .u32 0, .int .i64 0, .int .i64 0] 37)).drew
  have r0 : (w1.alloc (.cells #[.int .i64 0, .int .i64 0, .int .i64 0, .int .i64 0, .int .u32 0, .int .i64 0, .int .i64 0] 37)).drew.cell? ⟨W.heap.size, 0, none⟩ = _ := hO2.cell 0
  have r1 : (w1.alloc (.cells #[.int .i64 0, .int .i64 0, .int .i64 0, .int .i64 0, .int .u32 0, .int .i64 0, .int .i64 0] 37)).drew.cell? ⟨W.heap.size, 1, none⟩ = _ := hO2.cell 1
  have r2 : (w1.alloc (.cells #[.int .i64 0, .int .i64 0, .int .i64 0, .int .i64 0, .int .u32 0, .int .i64 0, .int .i64 0] 37)).drew.cell? ⟨W.heap.size, 2, none⟩ = _ := hO2.cell 2
  have r3 : (w1.alloc (.cells #[.int .i64 0, .int .i64 0, .int .i64 0, .int .i64 0, .int .u32 0, .int .i64 0, .int .i64 0] 37)).drew.cell? ⟨W.heap.size, 3, none⟩ = _ := hO2.cell 3
  simp only [List.getElem?_cons_zero, List.getElem?_cons_succ] at q0 q1 q2 q3 r0 r1 r2 r3
  have hpi : (p : Int) ≤ (n : Int) := by omega
  have hci : (n : Int) ≤ (c : Int) := by omega
  clear hA3 hr hw1 hB1 hs1 hO1 hO2 hZ1 hg hn
  go_enter Try.func39, Try.ntmps39
  go_wp2_with fail
  rw [← HW1.out]
  go_region_with (first
    | (go_at_call 49; rw [← HA3.out]; (with_reducible refine (CG.out w1.drew (Below.refl _ _).drew).mono ?_); rintro _ w2 ⟨rfl, hb2⟩; have hb2' : Below w1.heap.size w1 w2 := (Below.refl _ _).drew.trans hb2; have HB2 := Lib.hid (HB1.out.trans (hb2'.mono HB1.out.size)); have HZ2 := Lib.hid (HZ1.out.grow hb2'); clear hb2 hb2')
    | (go_at_call 49; rw [← HA3.out]; (with_reducible refine (CG.out (w1.alloc (.cells #[.int .i64 0, .int .i64 0, .int .i64 0, .int .i64 0, .int .u32 0, .int .i64 0, .int .i64 0] 37)).drew ((Below.refl _ _).alloc (Nat.le_refl _) _).drew).mono ?_); rintro _ w2 ⟨rfl, hb2⟩; have hb2' : Below w1.heap.size w1 w2 := ((Below.refl _ _).alloc (Nat.le_refl _) _).drew.trans (hb2.mono (by simp)); have HB2 := Lib.hid (HB1.out.trans (hb2'.mono HB1.out.size)); have HZ2 := Lib.hid (HZ1.out.grow hb2'); have hT2 : Blk w2 w1.heap.size 37 [.int .i64 0, .int .i64 0, .int .i64 0, .int .i64 0, .int .u32 0, .int .i64 0, .int .i64 0] := (show Blk (World.drew (w1.alloc (.cells #[.int .i64 0, .int .i64 0, .int .i64 0, .int .i64 0, .int .u32 0, .int .i64 0, .int .i64 0] 37))) w1.heap.size _ _ from blk_new w1 _ _ rfl).grow hb2; have t0 := hT2.cell 0; have t1 := hT2.cell 1; have t2 := hT2.cell 2; have t3 := hT2.cell 3; have t4 := hT2.cell 4; have t5 := hT2.cell 5; have t6 := hT2.cell 6; have f0 := hT2.frozen 0; have f1 := hT2.frozen 1; have f2 := hT2.frozen 2; have f3 := hT2.frozen 3; have f4 := hT2.frozen 4; have f5 := hT2.frozen 5; have f6 := hT2.frozen 6; simp only [List.getElem?_cons_zero, List.getElem?_cons_succ] at t0 t1 t2 t3 t4 t5 t6; have HT2 := Lib.hid hT2; clear hb2 hb2' hT2))
  all_goals
    clear CG HR1 HA3 HW1 q0 q1 q2 q3 r0 r1 r2 r3
    first
      | (obtain ⟨G, hG⟩ : ∃ G, G = w2.heap.size := ⟨_, rfl⟩
         obtain ⟨wE, hwE⟩ : ∃ wE, wE = w2.alloc (.cells #[.int .i64 (mo : Int), .int .i64 (ra : Int), .int .i64 (mi : Int), .int .i64 (co : Int), .int .u32 (su : Int), .int .i64 0, .int .i64 0] 37) := ⟨_, rfl⟩
         have hE : Blk wE G 37 [.int .i64 (mo : Int), .int .i64 (ra : Int), .int .i64 (mi : Int), .int .i64 (co : Int), .int .u32 (su : Int), .int .i64 0, .int .i64 0] := by rw [hwE]; exact blk_new _ _ _ hG
         have hZE : Blk wE (W.heap.size + 1) 37 [.int .i64 0, .int .i64 0, .int .i64 0, .int .i64 0, .int .u32 0, .int .i64 0, .int .i64 0] := by rw [hwE]; exact alloc7 HZ2.out _
         have hBE : Below W.heap.size W wE := by rw [hwE]; exact HB2.out.alloc HB2.out.size _
         have hGE : W.heap.size + 1 < G := by rw [hG]; exact HZ2.out.lt
         rw [← hwE, ← hG])
      | (obtain ⟨G, hG⟩ : ∃ G, G = w1.heap.size := ⟨_, rfl⟩
         obtain ⟨wE, hwE⟩ : ∃ wE, wE = ((((((w2.setCell ⟨w1.heap.size, 0, none⟩ (.int .i64 (mo : Int))).setCell ⟨w1.heap.size, 1, none⟩ (.int .i64 (ra : Int))).setCell ⟨w1.heap.size, 2, none⟩ (.int .i64 (mi : Int))).setCell ⟨w1.heap.size, 3, none⟩ (.int .i64 (co : Int))).setCell ⟨w1.heap.size, 4, none⟩ (.int .u32 (su : Int))).setCell ⟨w1.heap.size, 5, none⟩ (.int .i64 0)).setCell ⟨w1.heap.size, 6, none⟩ (.int .i64 0) := ⟨_, rfl⟩
         have hE : Blk wE G 37 [.int .i64 (mo : Int), .int .i64 (ra : Int), .int .i64 (mi : Int), .int .i64 (co : Int), .int .u32 (su : Int), .int .i64 0, .int .i64 0] := by rw [hwE, hG]; exact set7 HT2.out _ _ _ _ _ _ _
         have hZE : Blk wE (W.heap.size + 1) 37 [.int .i64 0, .int .i64 0, .int .i64 0, .int .i64 0, .int .u32 0, .int .i64 0, .int .i64 0] := by rw [hwE]; exact oth7 HZ2.out (by have := HS1.out; omega) _ _ _ _ _ _ _
         have hBE : Below W.heap.size W wE := by rw [hwE]; exact below7 HB2.out HB1.out.size _ _ _ _ _ _ _
         have hGE : W.heap.size + 1 < G := by have := HS1.out; omega
         rw [← hwE, ← hG]
         clear t0 t1 t2 t3 t4 t5 t6 f0 f1 f2 f3 f4 f5 f6 HT2)
    have HZE := Lib.hid hZE
    have HBE := Lib.hid hBE
    have HE := Lib.hid hE
    have z0 := hZE.cell 0
    have g0 := hZE.frozen 0
    have x0 := hE.cell 0
    have z1 := hZE.cell 1
    have g1 := hZE.frozen 1
    have x1 := hE.cell 1
    have z2 := hZE.cell 2
    have g2 := hZE.frozen 2
    have x2 := hE.cell 2
    have z3 := hZE.cell 3
    have g3 := hZE.frozen 3
    have x3 := hE.cell 3
    have z4 := hZE.cell 4
    have g4 := hZE.frozen 4
    have x4 := hE.cell 4
    have z5 := hZE.cell 5
    have g5 := hZE.frozen 5
    have x5 := hE.cell 5
    have z6 := hZE.cell 6
    have g6 := hZE.frozen 6
    have x6 := hE.cell 6
    have y5 := hE.frozen 5
    simp only [List.getElem?_cons_zero, List.getElem?_cons_succ] at z0 z1 z2 z3 z4 z5 z6 x0 x1 x2 x3 x4 x5 x6
    clear hwE hG hE hZE hBE HZ2 HB2
    go_wp2
    exact bodyPost_ret (results_cell_tmp32 Try.results39 _ _ (W.heap.size + 1) 37 _ (0, 0) _ rfl (set7 (HZE.out.setOther ⟨G, 5, none⟩ _ (by simp; omega)) _ _ _ _ _ _ _) Try.underlying37 rfl size_blk) rfl ⟨rfl, below7 (HBE.out.setCell (p := ⟨G, 5, none⟩) (by simp; omega) _) (by omega) _ _ _ _ _ _ _⟩
theorem frmBlockAt_any (A : Option Addr) (n c p : Nat) (l : List UInt8) (W : World) (hr : Rd W W.heap.size A (bvs l)) (hn : l.length = n) (hnc : n ≤ c) (hn1 : n ≤ 100000) (hp : p ≤ n) {b : Nat} {wd rc md : Int} (hb : b ≤ 16777216) :
    Calls Try.prog 39 #[.slice A n c, .agg #[.int .i64 (b : Int), .int .i64 wd, .int .i64 rc, .int .i64 md], .int .i64 (p : Int)] W (BAtOut W (blkAt l b p)) := by
  unfold blkAt
  rcases getB_told (l.drop p) b with ⟨mo, ra, mi, co, su, k, hg, -, -, -, -, -, -, -, hk, -⟩ | ⟨e, hg, he⟩
  · rw [List.length_drop, hn] at hk
    rw [hg]
    simp only
    rw [if_neg (fun h => h rfl), hn]
    by_cases hc : n - (p + k) < co
    · rw [if_pos hc]
      exact frmBlockAt_short A n c p l W hr hn hnc hn1 hp hb (by omega) hg (by omega)
    · rw [if_neg hc]
      exact frmBlockAt_yes A n c p l W hr hn hnc hn1 hp hb (by omega) hg (by omega)
  · have he0 : e ≠ 0 := by omega
    rw [hg]
    simp only
    rw [if_pos he0]
    exact frmBlockAt_bad A n c p l W hr hn hnc hn1 hp hb he0 hg
end Go.Proofs.Ytjignfnkcbklkaa
namespace Go.Proofs.Ytjignfnkcbklkaa

/-- A block's bytes, ahead of its payload. -/
def headB (q : Five) : List UInt8 := blkL q.1 q.2.1 q.2.2.1 q.2.2.2.1 q.2.2.2.2
/-- A block that may be, with as many bytes as it says. -/
def okN (b : Nat) (q : Five × List UInt8) : Prop := mayBk (q.1.1 : Int) (q.1.2.1 : Int) (q.1.2.2.1 : Int) (q.1.2.2.2.1 : Int) (b : Int) = true ∧ q.2.length = q.1.2.2.2.1 ∧ q.1.2.2.2.2 < 4294967296
/-- The blocks where they stand, from a place and a number of bytes on. -/
def placedB : Nat → Nat → List (Five × List UInt8) → List Blk7
  | _, _, [] => []
  | p, t, q :: r => (q.1, p + (headB q.1).length, t) :: placedB (p + (headB q.1).length + q.2.length) (t + q.1.2.1) r
def bytesN (xs : List (Five × List UInt8)) : List UInt8 := xs.flatMap fun q => headB q.1 ++ q.2
def rawN (xs : List (Five × List UInt8)) : Nat := (xs.map fun q => q.1.2.1).sum
theorem getB_at {b : Nat} {q : Five} {pl more : List UInt8} (hb : b ≤ 16777216) (h : okN b (q, pl)) : getB (headB q ++ more) b = (q, (headB q).length, 0) := by
  obtain ⟨mo, ra, mi, co, su⟩ := q
  exact getB_put h.1 h.2.2 hb more
/-- A block that is all there. -/
theorem blkAt_yes {l P more : List UInt8} {b : Nat} {q : Five} {pl : List UInt8} (hb : b ≤ 16777216) (h : okN b (q, pl)) (hl : l = P ++ (headB q ++ (pl ++ more))) : blkAt l b P.length = (q, P.length + (headB q).length, 0) := by
  have hd : l.drop P.length = headB q ++ (pl ++ more) := by rw [hl, List.drop_left]
  have hlen : l.length = P.length + ((headB q).length + (pl.length + more.length)) := by rw [hl]; simp only [List.length_append]
  unfold blkAt
  rw [hd, getB_at hb h]
  simp only
  rw [if_neg (fun h => h rfl), if_neg (by have := h.2.1; simp only at this; omega)]
/-- One of which the payload is not all there. -/
theorem blkAt_short {l P : List UInt8} {b i : Nat} {q : Five} {pl : List UInt8} (hb : b ≤ 16777216) (h : okN b (q, pl)) (hl : l = P ++ (headB q ++ pl.take i)) (hi : i < pl.length) : blkAt l b P.length = (noFive, 0, 11) := by
  have hd : l.drop P.length = headB q ++ pl.take i := by rw [hl, List.drop_left]
  have hlen : l.length = P.length + ((headB q).length + i) := by rw [hl]; simp only [List.length_append, List.length_take]; omega
  unfold blkAt
  rw [hd, getB_at hb h]
  simp only
  rw [if_neg (fun h => h rfl), if_pos (by have := h.2.1; simp only at this; omega)]
/-- One of which the bytes ahead are not all there. -/
theorem blkAt_cut {l P : List UInt8} {b i : Nat} {q : Five} {pl : List UInt8} (hb : b ≤ 16777216) (h : okN b (q, pl)) (hl : l = P ++ (headB q).take i) (hi : i < (headB q).length) : blkAt l b P.length = (noFive, 0, 11) := by
  have hd : l.drop P.length = (headB q).take i := by rw [hl, List.drop_left]
  obtain ⟨mo, ra, mi, co, su⟩ := q
  have hc : getB ((headB (mo, ra, mi, co, su)).take i) b = ((0, 0, 0, 0, 0), 0, 11) := getB_cut h.1 hb hi
  unfold blkAt
  rw [hd, hc]
  rfl
/-- At the end's first byte. -/
theorem blkAt_end {l P T : List UInt8} (b : Nat) (hl : l = P ++ 0 :: T) : blkAt l b P.length = (noFive, 0, 14) := by
  have hd : l.drop P.length = 0 :: T := by rw [hl, List.drop_left]
  unfold blkAt
  rw [hd]
  have : getB (0 :: T) b = ((0, 0, 0, 0, 0), 0, 14) := by
    unfold getB
    rw [if_neg (by simp), if_pos (.inl rfl)]
  rw [this]
  rfl
theorem blkAt_none {l : List UInt8} (b : Nat) : blkAt l b l.length = (noFive, 0, 11) := by
  have hd : l.drop l.length = [] := List.drop_length
  unfold blkAt
  rw [hd]
  rfl
theorem parL_stop {l : List UInt8} {b k p t e : Nat} {acc : List Blk7} (hk : l.length < p + k) (hp : p ≤ l.length) (h : blkAt l b p = (noFive, 0, e)) (he : e ≠ 0) : parL l b k p t acc = (acc, t, p, e) := by
  obtain ⟨k, rfl⟩ : ∃ j, k = j + 1 := ⟨k - 1, by omega⟩
  exact parL_end h he
theorem headB_pos (q : Five) : 1 ≤ (headB q).length := by
  unfold headB blkL
  simp
/-- All blocks are parsed, where an end is behind them. -/
theorem parL_put {b : Nat} (hb : b ≤ 16777216) : ∀ (xs : List (Five × List UInt8)) (P T l : List UInt8) (k t : Nat) (acc : List Blk7), (∀ q ∈ xs, okN b q) → l = P ++ (bytesN xs ++ 0 :: T) → l.length < P.length + k →
    parL l b k P.length t acc = (acc ++ placedB P.length t xs, t + rawN xs, P.length + (bytesN xs).length, 14)
  | [], P, T, l, k, t, acc, _, hl, hk => by
    rw [parL_stop hk (by rw [hl]; simp) (blkAt_end b (show l = P ++ 0 :: T by rw [hl]; rfl)) (by decide)]
    simp [placedB, rawN, bytesN]
  | q :: r, P, T, l, k, t, acc, h, hl, hk => by
    have hq := h q (by simp)
    have hl2 : l = P ++ (headB q.1 ++ (q.2 ++ (bytesN r ++ 0 :: T))) := by rw [hl]; simp [bytesN]
    have hll : l.length = P.length + ((headB q.1).length + (q.2.length + ((bytesN r).length + (T.length + 1)))) := by rw [hl2]; simp only [List.length_append, List.length_cons]
    obtain ⟨k, rfl⟩ : ∃ j, k = j + 1 := ⟨k - 1, by omega⟩
    have hP : (P ++ (headB q.1 ++ q.2)).length = P.length + (headB q.1).length + q.1.2.2.2.1 := by rw [List.length_append, List.length_append, hq.2.1]; omega
    have hp1 := headB_pos q.1
    have ih := parL_put hb r (P ++ (headB q.1 ++ q.2)) T l k (t + q.1.2.1) (acc ++ [(q.1, P.length + (headB q.1).length, t)]) (fun x hx => h x (by simp [hx])) (by rw [hl2]; simp) (by rw [hP]; omega)
    rw [hP] at ih
    rw [parL_step (blkAt_yes hb hq hl2), ih]
    have e1 : (bytesN (q :: r)).length = (headB q.1).length + q.2.length + (bytesN r).length := by rw [show bytesN (q :: r) = (headB q.1 ++ q.2) ++ bytesN r from rfl, List.length_append, List.length_append]
    have e2 : rawN (q :: r) = q.1.2.1 + rawN r := by simp [rawN]
    rw [e1, e2, hq.2.1]
    simp only [Prod.mk.injEq, List.append_assoc, List.singleton_append, and_true]
    refine ⟨?_, by omega, by omega⟩
    simp only [placedB, hq.2.1]
/-- What is cut within the blocks, or behind them, ahead of the end, ends too early. -/
theorem parL_cut {b : Nat} (hb : b ≤ 16777216) : ∀ (xs : List (Five × List UInt8)) (P l : List UInt8) (i k t : Nat) (acc : List Blk7), (∀ q ∈ xs, okN b q) → i ≤ (bytesN xs).length → l = P ++ (bytesN xs).take i → l.length < P.length + k →
    (parL l b k P.length t acc).2.2.2 = 11
  | [], P, l, i, k, t, acc, _, hi, hl, hk => by
    have hl2 : l = P := by rw [hl]; simp [bytesN]
    subst hl2
    rw [parL_stop hk (Nat.le_refl _) (blkAt_none b) (by decide)]
  | q :: r, P, l, i, k, t, acc, h, hi, hl, hk => by
    have hq := h q (by simp)
    have hB : bytesN (q :: r) = headB q.1 ++ (q.2 ++ bytesN r) := by simp [bytesN]
    have hle : l.length = P.length + i := by rw [hl, List.length_append, List.length_take]; omega
    rw [hB] at hl hi
    simp only [List.length_append] at hi
    have hp1 := headB_pos q.1
    by_cases h1 : i < (headB q.1).length
    · rw [take_lt _ _ h1] at hl
      by_cases h0 : i = 0
      · have hl2 : l = P := by rw [hl, h0]; simp
        subst hl2
        rw [parL_stop hk (Nat.le_refl _) (blkAt_none b) (by decide)]
      · rw [parL_stop hk (by omega) (blkAt_cut hb hq hl h1) (by decide)]
    · rw [take_ge _ _ (by omega)] at hl
      by_cases h2 : i - (headB q.1).length < q.2.length
      · rw [take_lt _ _ h2] at hl
        rw [parL_stop hk (by omega) (blkAt_short hb hq hl h2) (by decide)]
      · rw [take_ge _ _ (by omega)] at hl
        obtain ⟨k, rfl⟩ : ∃ j, k = j + 1 := ⟨k - 1, by omega⟩
        have hP : (P ++ (headB q.1 ++ q.2)).length = P.length + (headB q.1).length + q.1.2.2.2.1 := by rw [List.length_append, List.length_append, hq.2.1]; omega
        rw [parL_step (blkAt_yes hb hq hl)]
        have ih := parL_cut hb r (P ++ (headB q.1 ++ q.2)) l (i - (headB q.1).length - q.2.length) k (t + q.1.2.1) (acc ++ [(q.1, P.length + (headB q.1).length, t)]) (fun x hx => h x (by simp [hx])) (by omega) (by rw [hl]; simp) (by rw [hP]; omega)
        rw [hP] at ih
        exact ih
/-- A stream's bytes. -/
def strL (b u r m : Nat) (xs : List (Five × List UInt8)) (su : Nat) : List UInt8 := headS b u r m ++ (bytesN xs ++ endL (rawN xs) su)
/-- Parse, out of what head's Get tells of the bytes. -/
def parseB (l : List UInt8) : StreamR := parseR l (getP l (lget (l.drop 7)).1 (lget (l.drop 7)).2.1 (lget (l.drop 7)).2.2)
theorem parse_of {l : List UInt8} {m j e : Nat} (hg : lget (l.drop 7) = (m, j, e)) : parseR l (getP l m j e) = parseB l := by
  unfold parseB
  rw [hg]
section
variable {b u r m : Nat} {xs : List (Five × List UInt8)} {su : Nat}
theorem parse_head (hb : b ≤ 16777216) (hu : u ≤ 8) (hr : r ≤ 10) (hm : m ≤ 6) (hmay : mayO (b : Int) (u : Int) (r : Int) (m : Int) = true) (more : List UInt8) :
    parseB (headS b u r m ++ more) = endR (headS b u r m ++ more) [(b : Int), (u : Int), (r : Int), (m : Int)] (parL (headS b u r m ++ more) b ((headS b u r m ++ more).length + 1) (headS b u r m).length 0 []) := by
  obtain ⟨hlg, hgp⟩ := get_put hb hu hr hm hmay more
  rw [← parse_of hlg, hgp]
  unfold parseR
  rw [if_neg (fun h => h rfl)]
  simp only [List.getD_cons_zero, Int.toNat_natCast]
theorem endL_cons (n su : Nat) : endL n su = 0 :: (lput n ++ fourL su) := rfl
/-- What was put is parsed as it was, whatever is behind; with a byte behind it is refused. -/
theorem parse_put (hb : b ≤ 16777216) (hu : u ≤ 8) (hr : r ≤ 10) (hm : m ≤ 6) (hmay : mayO (b : Int) (u : Int) (r : Int) (m : Int) = true) (hxs : ∀ q ∈ xs, okN b q) (ht : rawN xs ≤ 1099511627776) (hs : su < 4294967296) (more : List UInt8) :
    parseB (strL b u r m xs su ++ more) = if more = [] then ([(b : Int), (u : Int), (r : Int), (m : Int)], placedB (headS b u r m).length 0 xs, rawN xs, su, 0) else noStream 19 := by
  have hS : strL b u r m xs su ++ more = headS b u r m ++ (bytesN xs ++ 0 :: (lput (rawN xs) ++ fourL su ++ more)) := by unfold strL; rw [endL_cons]; simp
  rw [hS, parse_head hb hu hr hm hmay, parL_put hb xs (headS b u r m) (lput (rawN xs) ++ fourL su ++ more) _ _ 0 [] hxs rfl (by omega)]
  unfold endR
  simp only
  rw [if_neg (fun h => h rfl)]
  have hd : (headS b u r m ++ (bytesN xs ++ 0 :: (lput (rawN xs) ++ fourL su ++ more))).drop ((headS b u r m).length + (bytesN xs).length) = endL (rawN xs) su ++ more := by
    rw [← List.append_assoc, ← List.length_append, List.drop_left, endL_cons]
    rfl
  rw [hd, Nat.zero_add]
  have hE : endE (endL (rawN xs) su ++ more) (rawN xs) = if more = [] then (su, 0) else (0, 19) := by
    unfold endE
    rw [endG_put ht hs]
    simp only
    rw [if_neg (fun h => h rfl), if_neg (fun h => h rfl), List.length_append]
    by_cases hm0 : more = []
    · rw [if_pos hm0, hm0, if_neg (by simp)]
    · have : 0 < more.length := List.length_pos_iff.2 hm0
      rw [if_neg hm0, if_pos (by omega)]
  rw [hE]
  by_cases hm0 : more = []
  · rw [if_pos hm0, if_pos hm0, if_neg (fun h => h rfl)]
    rfl
  · rw [if_neg hm0, if_neg hm0, if_pos (show (0, 19).2 ≠ 0 by decide)]
/-- Each beginning of it, but all, ends too early. -/
theorem parse_cut (hb : b ≤ 16777216) (hu : u ≤ 8) (hr : r ≤ 10) (hm : m ≤ 6) (hmay : mayO (b : Int) (u : Int) (r : Int) (m : Int) = true) (hxs : ∀ q ∈ xs, okN b q) (ht : rawN xs ≤ 1099511627776) {i : Nat} (hi : i < (strL b u r m xs su).length) :
    parseB ((strL b u r m xs su).take i) = noStream 11 := by
  have hlen : (strL b u r m xs su).length = (headS b u r m).length + ((bytesN xs).length + (endL (rawN xs) su).length) := by unfold strL; simp only [List.length_append]
  unfold strL
  by_cases h1 : i < (headS b u r m).length
  · rw [take_lt _ _ h1]
    obtain ⟨m', j', e', hg, hp⟩ := get_cut hb h1
    rw [← parse_of hg, hp]
    rfl
  · rw [take_ge _ _ (by omega), parse_head hb hu hr hm hmay]
    by_cases h2 : i - (headS b u r m).length ≤ (bytesN xs).length
    · have ht2 : (bytesN xs ++ endL (rawN xs) su).take (i - (headS b u r m).length) = (bytesN xs).take (i - (headS b u r m).length) := List.take_append_of_le_length h2
      rw [ht2]
      unfold endR
      rw [parL_cut hb xs (headS b u r m) _ _ _ 0 [] hxs h2 rfl (by omega), if_pos (by decide)]
    · have hj : i - (headS b u r m).length - (bytesN xs).length < (endL (rawN xs) su).length := by omega
      obtain ⟨j, hj0⟩ : ∃ j, i - (headS b u r m).length - (bytesN xs).length = j + 1 := ⟨i - (headS b u r m).length - (bytesN xs).length - 1, by omega⟩
      rw [take_ge _ _ (by omega), hj0]
      have ec := endG_cut (n := rawN xs) (su := su) ht (i := j + 1) (by omega)
      rw [endL_cons, List.take_succ_cons] at ec ⊢
      rw [parL_put hb xs (headS b u r m) ((lput (rawN xs) ++ fourL su).take j) _ _ 0 [] hxs rfl (by omega)]
      unfold endR
      simp only
      rw [if_neg (fun h => h rfl)]
      have hd : (headS b u r m ++ (bytesN xs ++ 0 :: (lput (rawN xs) ++ fourL su).take j)).drop ((headS b u r m).length + (bytesN xs).length) = 0 :: (lput (rawN xs) ++ fourL su).take j := by
        rw [← List.append_assoc, ← List.length_append, List.drop_left]
      rw [hd]
      unfold endE
      rw [ec]
      rfl
end
end Go.Proofs.Ytjignfnkcbklkaa
