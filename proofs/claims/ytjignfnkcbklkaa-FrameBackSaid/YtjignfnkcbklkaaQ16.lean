/-
  Layer 32: the program: the blocks, one behind the other (an iterator). · Layer 32: the program: Parse. · Layer 32: rows of blocks of any numbers; the program: Payload. · Layer 32: what Put makes. Pure, and what its walks lean on.
-/
import Derived.Test.YtjignfnkcbklkaaQ05
import Derived.Test.YtjignfnkcbklkaaQ06
import Derived.Test.YtjignfnkcbklkaaQ10
import Derived.Test.YtjignfnkcbklkaaQ13
import Derived.Test.YtjignfnkcbklkaaQ14
import Derived.Test.YtjignfnkcbklkaaQ15
import Derived.RangeFuncLeaves
import Derived.Shelf.Abstract
import Derived.OwnWalkIn
import Derived.TacticsInMore
import Derived.LoopNIn
import Derived.LoopIn
import Derived.BigRegionIn
namespace Go.Proofs.Ytjignfnkcbklkaa
open Go.RowKit Go.Sort Go.Shelf

def encF (x : ItemF) : Array Value := #[.agg (blkF x.1 x.2.1 x.2.2.1).toArray, .int .i64 (x.2.2.2 : Int)]
/-- What the iterator leans on. -/
structure ItSt (n₀ Bs Bo Bp : Nat) (A : Option Addr) (n c b : Nat) (wd rc md : Int) (l : List UInt8) (p : Nat) (w : World) : Prop where
  bs : Blk w Bs 29 [.slice A n c]
  bo : Blk w Bo 23 [.int .i64 (b : Int), .int .i64 wd, .int .i64 rc, .int .i64 md]
  bp : Blk w Bp 3 [.int .i64 (p : Int)]
  rd : Rd w n₀ A (bvs l)
/-- What a round leaves, at least. -/
def keepF (n₀ Bs Bo Bp k : Nat) : Prop := k < n₀ ∨ k = Bs ∨ k = Bo ∨ k = Bp
section
variable {n₀ Bs Bo Bp : Nat} {A : Option Addr} {n c b p : Nat} {wd rc md : Int} {l : List UInt8} {w w' : World}
theorem ItSt.kept (h : ItSt n₀ Bs Bo Bp A n c b wd rc md l p w) (hk : ∀ k, keepF n₀ Bs Bo Bp k → w'.heap[k]? = w.heap[k]?) : ItSt n₀ Bs Bo Bp A n c b wd rc md l p w' :=
  ⟨(hk _ (.inr (.inl rfl))).trans h.bs, (hk _ (.inr (.inr (.inl rfl)))).trans h.bo, (hk _ (.inr (.inr (.inr rfl)))).trans h.bp, h.rd.keep fun q hq => World.cell?_of_block (hk q.block (.inl hq))⟩
theorem ItSt.grow (h : ItSt n₀ Bs Bo Bp A n c b wd rc md l p w) (hn : n₀ ≤ w.heap.size) (hb : Below w.heap.size w w') : ItSt n₀ Bs Bo Bp A n c b wd rc md l p w' :=
  ⟨h.bs.grow hb, h.bo.grow hb, h.bp.grow hb, h.rd.below (hb.mono hn)⟩
theorem ItSt.put (h : ItSt n₀ Bs Bo Bp A n c b wd rc md l p w) (h1 : n₀ ≤ Bp) (p' : Nat) : ItSt n₀ Bs Bo Bp A n c b wd rc md l p' (w.setCell ⟨Bp, 0, none⟩ (.int .i64 (p' : Int))) :=
  ⟨h.bs.setOther _ _ (fun e => by have h2 := h.bp; have h3 := h.bs; simp only at e; rw [e] at h3; have := h3.symm.trans h2; simp at this), h.bo.setOther _ _ (fun e => by have h2 := h.bp; have h3 := h.bo; simp only at e; rw [e] at h3; have := h3.symm.trans h2; simp at this),
    h.bp.set_ 0 _, h.rd.setCell h1 _⟩
end
/-- A whole struct stored, inside a fence. -/
theorem wpListIn_store_row32 {F : Fence} {n : Nat} {P : Program} {ops : Array Oper} {rest : List Oper} {o : Oper} {a : Act} {w : World} {Q : Exit → Act → World → Prop} (hgd : o.guard = none) (ty : TypeId) (x y : Operand) (ho : o.op = .store ty x y)
    (g : Nat) (cells : Array Value) (hx : a.eval x = .pointer (some ⟨g, 0, none⟩)) (hy : a.eval y = .agg cells)
    (t : TypeId) (old : Array Value) (hg : w.heap[g]? = some (.cells old t (0, 0))) (hi : (P.info? ty).map (·.size) = some cells.size)
    (hold : old.size = cells.size) (h1 : cells.all (·.oneCell') = true)
    (h : wpListIn F n P ops Q rest (a.put o.dst undef) (w.setRow g cells)) : wpListIn F n P ops Q (o :: rest) a w := by
  refine wpListIn_plain hgd fun K hK => ?_
  unfold Oper.wpIn
  refine ⟨?_, ?_⟩
  · simp [Oper.about, ho]
  · rw [Oper.semAt_plain F _ _ (by rw [ho]; intro c hc'; cases hc')]
    simp only [execOp, ho, hx, hy, Instr.storeAt, Instr.sureAddr, Sem.run_bind, Sem.run_pure, Result.andThen_ok, run_storeVar_row w g t ty old cells hg hi hold h1]
    exact hK _ _ h
theorem itF_less {e tt ra n : Nat} (h1 : tt ≤ 16777216 * n) (h2 : e = 0 → 1 ≤ ra) : (if intOf (.int .i64 (e : Int)) = 0 then 16777216 * n + 1 - (intOf (.int .i64 ((tt : Int) + (ra : Int)))).toNat else 0) < (if intOf (.int .i64 0) = 0 then 16777216 * n + 1 - (intOf (.int .i64 (tt : Int))).toNat else 0) := by
  show (if (e : Int) = 0 then 16777216 * n + 1 - ((tt : Int) + (ra : Int)).toNat else 0) < (if (0 : Int) = 0 then 16777216 * n + 1 - (tt : Int).toNat else 0)
  by_cases he : e = 0
  · have := h2 he
    subst he
    simp
    omega
  · simp [he]
    omega
theorem step_sum {tt ra p co fr : Nat} (h1 : tt ≤ 16777216 * p) (h2 : ra ≤ 16777216) (h3 : p < fr) : tt + ra ≤ 16777216 * (fr + co) := by omega
set_option maxRecDepth 100000 in
set_option maxHeartbeats 4000000 in
theorem blocks1_hands (N : Nat) (hN : 1 ≤ N) {n₀ Bs Bo Bp p0 : Nat} {A : Option Addr} {n c b : Nat} {wd rc md : Int} {l : List UInt8} {w : World} (hn : l.length = n) (hnc : n ≤ c) (hn1 : n ≤ 100000) (hb : b ≤ 16777216) (hp0 : p0 ≤ n) (hn0 : n₀ ≤ w.heap.size) (hBp : n₀ ≤ Bp)
    (h0 : ItSt n₀ Bs Bo Bp A n c b wd rc md l p0 w) :
    HandsStop N Try.prog 38 #[.pointer (some ⟨Bs, 0, none⟩), .pointer (some ⟨Bo, 0, none⟩), .pointer (some ⟨Bp, 0, none⟩)] [Bp] (keepF n₀ Bs Bo Bp) encF (itemsF l b (n + 1) p0 0) w := by
  intro lp J Jx mine W hW hJ hJx hM hY hJ0
  obtain ⟨xs, hxs⟩ : ∃ xs, xs = itemsF l b (n + 1) p0 0 := ⟨_, rfl⟩
  rw [← hxs] at hY ⊢
  have HXS := Lib.hid hxs
  have HJ := Lib.hid hJ
  have HJX := Lib.hid hJx
  have HM := Lib.hid hM
  have HY := Lib.hid hY
  have HN := Lib.hid hn
  have H0 := Lib.hid (h0.kept hW.2)
  have HNW := Lib.hid (Nat.le_trans hn0 hW.1)
  have HNB := Lib.hid (And.intro hnc (And.intro hp0 hBp))
  clear hxs hW hJ hJx hM hY hn h0 hn0 hnc hp0 hBp
  refine callsIn_of_wp Try.func38 rfl trivial ?_ rfl
  simp only [Try.ntmps38, List.size_toArray, List.length_cons, List.length_nil, Nat.reduceAdd, Nat.reduceSub, Array.replicate_succ, Array.replicate_zero, List.push_toArray, List.append_toArray, List.nil_append, List.cons_append]
  gi_wp2
  gi_loopw [5, 6] (fun t v wr => ∃ (pre rest : List ItemF) (k p tt e0 : Nat), xs = pre ++ rest ∧ t = .int .i64 (tt : Int) ∧ v = .int .i64 (e0 : Int) ∧ rest = (if e0 = 0 then itemsF l b k p tt else []) ∧ (e0 = 0 → p ≤ n ∧ n < p + k ∧ tt ≤ 16777216 * p) ∧ n₀ ≤ wr.heap.size ∧ ItSt n₀ Bs Bo Bp A n c b wd rc md l p wr ∧ J pre wr)
    (fun t v _ => if intOf v = 0 then 16777216 * n + 1 - (intOf t).toNat else 0)
  case atStart => exact ⟨[], xs, n + 1, p0, 0, 0, rfl, rfl, rfl, HXS.out, fun _ => ⟨HNB.out.2.1, by omega, by omega⟩, HNW.out, H0.out, hJ0⟩
  case round =>
    clear H0 hJ0 HXS HNW
    obtain ⟨pre, rest, k, p, tt, e0, hx, rfl, rfl, hrest, hb0, hnw, hst, hj⟩ := hrel
    by_cases he0 : e0 = 0
    · subst he0
      rw [if_pos rfl] at hrest
      obtain ⟨hpn, hpk, htt⟩ := hb0 rfl
      obtain ⟨k, rfl⟩ : ∃ k', k = k' + 1 := ⟨k - 1, by omega⟩
      unfold itemsF at hrest
      have htold := blkAt_told l hb (show p ≤ l.length by rw [HN.out]; exact hpn)
      obtain ⟨w1, hw1⟩ : ∃ w1, w1 = wr.alloc (.cells #[.int .i64 0, .int .i64 0, .int .i64 0, .int .i64 0, .int .u32 0, .int .i64 0, .int .i64 0] 37) := ⟨_, rfl⟩
      have hb1 : Below wr.heap.size wr w1 := by rw [hw1]; exact (Below.refl _ _).alloc (Nat.le_refl _) _
      have hz1 : Blk w1 wr.heap.size 37 [.int .i64 0, .int .i64 0, .int .i64 0, .int .i64 0, .int .u32 0, .int .i64 0, .int .i64 0] := by rw [hw1]; exact blk_new _ _ _ rfl
      have hst1 := hst.grow hnw hb1
      have CB := Lib.hid (frmBlockAt_any A n c p l w1 (hst1.rd.more (Nat.le_trans hnw hb1.size)) HN.out HNB.out.1 hn1 hpn (wd := wd) (rc := rc) (md := md) hb)
      have cs := hst1.bs.cell 0
      have o0 := hst1.bo.cell 0
      have o1 := hst1.bo.cell 1
      have o2 := hst1.bo.cell 2
      have o3 := hst1.bo.cell 3
      have cp := hst1.bp.cell 0
      simp only [List.getElem?_cons_zero, List.getElem?_cons_succ] at cs o0 o1 o2 o3 cp
      rw [hw1] at cs o0 o1 o2 o3 cp
      obtain ⟨q, fr, e, hba⟩ : ∃ q fr e, blkAt l b p = (q, fr, e) := ⟨_, _, _, rfl⟩
      rw [hba] at CB htold hrest
      unfold BAtOut at CB
      simp only at CB hrest
      have hbd : q.2.1 ≤ 16777216 ∧ q.2.2.2.1 ≤ 16777216 ∧ fr ≤ n ∧ (e = 0 → p < fr ∧ fr + q.2.2.2.1 ≤ n ∧ 1 ≤ q.2.1) := by
        rcases htold with ⟨q', fr', h, ho⟩ | ⟨e', h, he'⟩
        · simp only [Prod.mk.injEq] at h
          obtain ⟨rfl, rfl, rfl⟩ := h
          have := ho.le
          rw [HN.out] at this
          exact ⟨ho.ra, ho.co, by omega, fun _ => ⟨ho.lt, this, ho.ra1⟩⟩
        · simp only [Prod.mk.injEq] at h
          obtain ⟨rfl, rfl, rfl⟩ := h
          exact ⟨by decide, by decide, by omega, fun h => by omega⟩
      obtain ⟨mo, ra, mi, co, su⟩ := q
      simp only at hbd hrest
      rw [show (.agg (blkF (mo, ra, mi, co, su) fr 0).toArray : Value) = .agg #[.int .i64 (mo : Int), .int .i64 (ra : Int), .int .i64 (mi : Int), .int .i64 (co : Int), .int .u32 (su : Int), .int .i64 (fr : Int), .int .i64 0] from rfl] at CB
      obtain ⟨hra, hco, hfr, hok⟩ := hbd
      have HW1 := Lib.hid hw1
      have HST := Lib.hid (And.intro hst1 hnw)
      have HSTR := Lib.hid hst
      have HZ1 := Lib.hid hz1
      have HB1 := Lib.hid hb1
      have HJ1 := Lib.hid hj
      have HX := Lib.hid hx
      have HREST := Lib.hid hrest
      have HOK := Lib.hid hok
      have httb : tt ≤ 1677721600000 := by omega
      have HTT := Lib.hid (And.intro htt hpk)
      clear htold hw1 hb1 hz1 hst1 hst hj hx hrest hb0 hba hok htt hpk
      gi_wp2_with fail
      rw [← HW1.out]
      refine ⟨trivial, (callsIn_wide.2 CB.out).mono ?_⟩
      rintro _ w3 ⟨rfl, hb3⟩
      have HST3 := Lib.hid (HST.out.1.grow (Nat.le_trans HST.out.2 HB1.out.size) hb3)
      have HB3 := Lib.hid (HB1.out.trans (hb3.mono HB1.out.size))
      have HZ3 := Lib.hid (HZ1.out.grow hb3)
      clear hb3 CB cs o0 o1 o2 o3 cp
      obtain ⟨g, hg⟩ : ∃ g, g = wr.heap.size := ⟨_, rfl⟩
      rw [← hg] at HZ3 ⊢
      have hz3 := HZ3.out
      have H1C := Lib.hid (show (#[.int .i64 (mo : Int), .int .i64 (ra : Int), .int .i64 (mi : Int), .int .i64 (co : Int), .int .u32 (su : Int), .int .i64 (fr : Int), .int .i64 0] : Array Value).all (·.oneCell') = true by simp [Value.oneCell'])
      obtain ⟨w4, hw4⟩ : ∃ w4, w4 = w3.setRow g #[.int .i64 (mo : Int), .int .i64 (ra : Int), .int .i64 (mi : Int), .int .i64 (co : Int), .int .u32 (su : Int), .int .i64 (fr : Int), .int .i64 0] := ⟨_, rfl⟩
      have hc4 : Blk w4 g 37 [.int .i64 (mo : Int), .int .i64 (ra : Int), .int .i64 (mi : Int), .int .i64 (co : Int), .int .u32 (su : Int), .int .i64 (fr : Int), .int .i64 0] := by rw [hw4]; exact hz3.setRow_ _
      have hb4 : Below wr.heap.size wr w4 := by rw [hw4]; exact below_setRow HB3.out (by omega) _
      have HW4 := Lib.hid hw4
      have hw5 : Blk (w4.setCell ⟨g, 6, none⟩ (.int .i64 (tt : Int))) g 37 (blkF (mo, ra, mi, co, su) fr tt) := hc4.set_ 6 _
      have hb5 : Below wr.heap.size wr (w4.setCell ⟨g, 6, none⟩ (.int .i64 (tt : Int))) := hb4.setCell (p := ⟨g, 6, none⟩) (by simp; omega) _
      have x0 := hc4.cell 0
      have x1 := hc4.cell 1
      have x2 := hc4.cell 2
      have x3 := hc4.cell 3
      have x4 := hc4.cell 4
      have x5 := hc4.cell 5
      have x6 := hc4.cell 6
      have y6 := hc4.frozen 6
      simp only [List.getElem?_cons_zero, List.getElem?_cons_succ] at x0 x1 x2 x3 x4 x5 x6
      obtain ⟨hj5, hm5⟩ := HJ.out _ _ _ HJ1.out (OnlyS.of_below (S := [Bp]) hb5)
      obtain ⟨fn, tmps, assign, body, hy, hYR⟩ := HY.out pre ((mo, ra, mi, co, su), fr, tt, e) _ _ (by rw [HX.out, HREST.out]) hj5
      unfold encF blkF at hy
      simp only at hy
      have hgs : g < w3.heap.size := HZ3.out.lt
      have HG := Lib.hid hg
      have HW5 := Lib.hid hw5
      have HB5 := Lib.hid hb5
      have HM5 := Lib.hid hm5
      have HJ5 := Lib.hid hj5
      clear hw5 hb5 hj5 hm5 hz3 hg hw4 hc4 hb4 hgs
      gi_wp2_with ((with_reducible show wpListIn _ _ _ _ _ (({ dst := none, op := .store 37 _ _, type := _, pos := _, after := _, guard := _ } : Oper) :: _) _ _); (refine wpListIn_store_row32 rfl 37 (.tmp 7) (.tmp 15) rfl g _ rfl rfl 37 _ HZ3.out size_blk rfl H1C.out ?_; rw [← HW4.out]))
      refine hYR.mono ?_
      rintro _ W6 (⟨rfl, hJ6, hk6⟩ | ⟨rfl, hJx6⟩)
      · have hst5 := HSTR.out.grow HST.out.2 HB5.out
        have hgl := HW5.out.lt
        have hng : ¬ mine (w4.setCell ⟨g, 6, none⟩ (.int .i64 (tt : Int))) g := fun h => by
          have := (HM.out _ _ _ HJ1.out (HM5.out g h)).1
          have := HG.out
          omega
        have hx6 : Blk W6 g 37 (blkF (mo, ra, mi, co, su) fr tt) := (hk6.2 g hgl hng).trans HW5.out
        have hst6 : ItSt n₀ Bs Bo Bp A n c b wd rc md l p W6 := hst5.kept (fun k hk => hk6.2 k (by
          rcases hk with h | rfl | rfl | rfl
          · have := HB5.out.size; have := HST.out.2; omega
          · exact hst5.bs.lt
          · exact hst5.bo.lt
          · exact hst5.bp.lt) (fun h => (HM.out _ _ _ HJ1.out (HM5.out k h)).2 hk))
        have v1 := hx6.cell 1
        have v3 := hx6.cell 3
        have v5 := hx6.cell 5
        have cp := hst6.bp.cell 0
        have fp := hst6.bp.frozen 0
        simp only [blkF, List.getElem?_cons_zero, List.getElem?_cons_succ] at v1 v3 v5 cp
        have HST6 := Lib.hid hst6
        have HJ6 := Lib.hid hJ6
        have HS6 := Lib.hid (show n₀ ≤ W6.heap.size by have := hk6.1; have := HB5.out.size; have := HST.out.2; omega)
        have HTB := Lib.hid (show tt ≤ 16777216 * n by have := HTT.out.1; omega)
        clear hst5 hgl hng hx6 hst6 hJ6 hk6 x0 x1 x2 x3 x4 x5 x6 y6 hy hYR H1C HW4
        gi_wp2
        go_roundw
        case rel =>
          refine ⟨pre ++ [((mo, ra, mi, co, su), fr, tt, e)], _, k, fr + co, tt + ra, e, ?_, by rw [Int.natCast_add], rfl, rfl, fun he => ?_, ?_, ?_, ?_⟩
          · rw [HX.out, HREST.out, List.append_assoc]
            rfl
          · obtain ⟨h1, h2, h3⟩ := HOK.out he
            exact ⟨h2, by have := HTT.out.2; omega, step_sum HTT.out.1 hra h1⟩
          · simpa [World.setCell] using HS6.out
          · rw [← Int.natCast_add]
            exact HST6.out.put HNB.out.2.2 (fr + co)
          · exact (HJ.out _ _ _ HJ6.out ((OnlyS.refl [Bp] W6).set_ (by simp) _)).1
        case measure =>
          exact itF_less HTB.out (fun he => (HOK.out he).2.2)
      · gi_wp2
        refine bodyPost_ret (results_none rfl _ _ _) rfl ?_
        exact ⟨⟨_, rfl⟩, .inr ⟨_, ⟨_, by rw [HX.out, HREST.out, List.append_assoc]; rfl⟩, hJx6⟩⟩
    · have hz : ¬ (e0 : Int) = 0 := by omega
      rw [if_neg he0] at hrest
      rw [hrest, List.append_nil] at hx
      clear hst hb0 hrest
      gi_wp2
      go_end0
      exact ⟨⟨_, rfl⟩, .inl (by rw [hx]; exact hj)⟩
end Go.Proofs.Ytjignfnkcbklkaa
namespace Go.Proofs.Ytjignfnkcbklkaa
open Go.RowKit Go.Sort Go.Shelf
attribute [local go_sem] Oper.semAt_some

def blksC (bs : List Blk7) : List Value := bs.flatMap fun q => blkF q.1 q.2.1 q.2.2
theorem blksC_snoc (bs : List Blk7) (q : Blk7) : blksC (bs ++ [q]) = blksC bs ++ blkF q.1 q.2.1 q.2.2 := by simp [blksC]
/-- A row of blocks. -/
def IsBlks (bs : List Blk7) (v : Value) (w : World) : Prop := ∃ A c, v = .slice A bs.length c ∧ bs.length ≤ c ∧ Rd w w.heap.size A (blksC bs)
theorem nilBlks (w : World) : IsBlks [] (.slice none 0 0) w := ⟨none, 0, rfl, Nat.le_refl _, Rd.nil_ _ _ _⟩
theorem IsBlks.of_own {w : World} {base : Nat} {v : Value} {bs : List Blk7} (h : w.ownsRow base 37 7 v bs.length (blksC bs)) : IsBlks bs v w := by
  obtain ⟨A, c, rfl, hc, -, -⟩ := own_form h
  exact ⟨A, c, rfl, hc, Rd.of_own h⟩
/-- A stream as cells. -/
def strC (o : List Int) (v : Value) (tt su : Nat) : List Value := optC o ++ [v, .int .i64 (tt : Int), .int .u32 (su : Int)]
def StrOut (W : World) (r : StreamR) (e : Ending) (w' : World) : Prop := ∃ v, e = .returned (.tuple #[.agg (strC r.1 v r.2.2.1 r.2.2.2.1).toArray, .int .i64 (r.2.2.2.2 : Int)]) ∧ IsBlks r.2.1 v w' ∧ Below W.heap.size W w'
theorem size_str : (Try.prog.info? 27).map (·.size) = some 7 := by kernel_rfl
theorem results_row_box {P : Program} {fn : Func} {p q : Tmp} {ty u : TypeId} (h : fn.results = #[.cell p ty, .cell q u]) (tmps : Array Value) (w : World) (g k : Nat) (cs : Array Value) (v : Value)
    (hp : tmps.getD p undef = .pointer (some ⟨g, 0, none⟩)) (hq : tmps.getD q undef = .pointer (some ⟨k, 0, none⟩)) (hl : (loadVar ty ⟨g, 0, none⟩).run P w = .ok (.agg cs) w) (hk : w.cell? ⟨k, 0, none⟩ = some v)
    (hx : (isAgg u).run P w = .ok false w) :
    (results fn tmps).run P w = .ok (.tuple #[.agg cs, v]) w := by
  have hp' : tmps[p]?.getD undef = .pointer (some ⟨g, 0, none⟩) := by simpa using hp
  have hq' : tmps[q]?.getD undef = .pointer (some ⟨k, 0, none⟩) := by simpa using hq
  have e2 : (loadVar u ⟨k, 0, none⟩).run P w = .ok v w := by simp [loadVar, go_sem, hk, hx]
  simp [results, h, hp', hq', asAddr, hl, e2]
theorem load_str {w : World} {g : Nat} {cs : List Value} (h : Blk w g 27 cs) (hc : cs.length = 7) : (loadVar 27 ⟨g, 0, none⟩).run Try.prog w = .ok (.agg cs.toArray) w :=
  run_loadVar_row w g _ _ _ (0, 0) _ h Try.underlying27 rfl (by rw [size_str]; simp [hc])
theorem plain_errno (w : World) : (isAgg 32).run Try.prog w = .ok false w := run_isAgg_plain Try.underlying32 rfl w
theorem size_blk32 : (Try.prog.info? 37).map (fun i => (i.size, i.bytes, i.zero.map (·.cells.size))) = some (7, 56, some 7) := by kernel_rfl
theorem info_blk : ∃ i z, Try.prog.info? 37 = some i ∧ i.zero = some z ∧ i.size = 7 ∧ i.bytes = 56 ∧ z.cells.size = 7 := by
  have h := size_blk32
  rw [Option.map_eq_some_iff] at h
  obtain ⟨i, hi, h⟩ := h
  simp only [Prod.mk.injEq] at h
  obtain ⟨h1, h2, h3⟩ := h
  rw [Option.map_eq_some_iff] at h3
  obtain ⟨z, hz, h3⟩ := h3
  exact ⟨i, z, hi, hz, h1, h2, h3⟩
theorem own_addr {w : World} {base n g c : Nat} {e : TypeId} {size : Nat} {A : Option Addr} {xs : List Value} (h : w.ownsRow base e size (.slice A n c) n xs) (hk : some g = (Value.slice A n c).ownBlock) : A = some ⟨g, 0, none⟩ := by
  rcases h.2 with ⟨h0, -⟩ | ⟨k, cap, cur, h0, -⟩
  · injection h0 with h1 h2 h3
    subst h1
    cases hk
  · injection h0 with h1 h2 h3
    subst h1
    have : g = k := by simpa [Value.ownBlock] using hk
    rw [this]
/-- Between two rounds. -/
structure ParV (w : World) (l : List UInt8) (b n H0 B2 B3 B5 B7 : Nat) (o0 o1 o2 o3 : Int) (p tt : Nat) (bs : List Blk7) (v : Value) (W : World) : Prop where
  b5 : Blk W B5 3 [.int .i64 (p : Int)]
  b7 : Blk W B7 27 [.int .i64 o0, .int .i64 o1, .int .i64 o2, .int .i64 o3, v, .int .i64 (tt : Int), .int .u32 0]
  own : W.ownsRow H0 37 7 v bs.length (blksC bs)
  b2 : Blk W B2 27 [.int .i64 0, .int .i64 0, .int .i64 0, .int .i64 0, .slice none 0 0, .int .i64 0, .int .u32 0]
  b3 : Blk W B3 32 [.int .i64 0]
  below : Below w.heap.size w W
/-- Where all blocks lie. -/
structure ParB (w : World) (H0 B2 B3 B5 B7 Bp : Nat) : Prop where
  h2 : B2 = w.heap.size
  h3 : B3 = w.heap.size + 1
  h5 : B3 < B5
  h7 : B7 = B5 + 1
  hp : Bp = B7 + 3
  h0 : H0 = Bp + 1
theorem ParV.turns {w A C : World} {l : List UInt8} {b n H0 B2 B3 B5 B7 Bp : Nat} {o0 o1 o2 o3 : Int} {p tt : Nat} {bs : List Blk7} {v : Value} (hB : ParB w H0 B2 B3 B5 B7 Bp) (h : ParV w l b n H0 B2 B3 B5 B7 o0 o1 o2 o3 p tt bs v A) (hu : TurnsF H0 [Bp] A C) : ParV w l b n H0 B2 B3 B5 B7 o0 o1 o2 o3 p tt bs v C := by
  have h2 := hB.h2; have h3 := hB.h3; have h5 := hB.h5; have h7 := hB.h7; have hp := hB.hp; have h0 := hB.h0
  exact ⟨hu.blk h.b5 (by simp; omega), hu.blk h.b7 (by simp; omega), hu.own h.own (by simp; omega), hu.blk h.b2 (by simp; omega), hu.blk h.b3 (by simp; omega), h.below.trans (hu.below (by simp; omega) (by omega) h.below.size)⟩
/-- What a round may turn. -/
def mineF (B2 B3 B5 B7 : Nat) (W : World) (k : Nat) : Prop := k = B2 ∨ k = B3 ∨ k = B5 ∨ k = B7 ∨ ∃ m c, W.cell? ⟨B7, 4, none⟩ = some (.slice (some ⟨k, 0, none⟩) m c)
/-- Between two rounds: what is left, and where all stands. -/
def ParI (w : World) (l : List UInt8) (b n p0 H0 B2 B3 B5 B7 : Nat) (o0 o1 o2 o3 : Int) (xs pre : List ItemF) (W : World) : Prop :=
  ∃ k p tt bs v, (∀ rest, xs = pre ++ rest → rest = itemsF l b k p tt) ∧ parL l b (n + 1) p0 0 [] = parL l b k p tt bs ∧ p ≤ n ∧ n < p + k ∧ tt ≤ 16777216 * p ∧ bs.length ≤ p ∧ ParV w l b n H0 B2 B3 B5 B7 o0 o1 o2 o3 p tt bs v W
/-- A round has left. -/
def ParX (w : World) (l : List UInt8) (b n p0 H0 B2 B3 B5 B7 : Nat) (o0 o1 o2 o3 : Int) (c : Code) (_ : List ItemF) (W : World) : Prop :=
  (∃ p tt bs v, c = .exit 0 ∧ parL l b (n + 1) p0 0 [] = (bs, tt, p, 14) ∧ p ≤ n ∧ tt ≤ 16777216 * p ∧ bs.length ≤ p ∧ ParV w l b n H0 B2 B3 B5 B7 o0 o1 o2 o3 p tt bs v W) ∨
  (∃ p tt bs e, c = .ret ∧ parL l b (n + 1) p0 0 [] = (bs, tt, p, e) ∧ e ≠ 14 ∧ Blk W B2 27 [.int .i64 0, .int .i64 0, .int .i64 0, .int .i64 0, .slice none 0 0, .int .i64 0, .int .u32 0] ∧ Blk W B3 32 [.int .i64 (e : Int)] ∧ Below w.heap.size w W)
/-- What a round is handed, in its box. -/
def ParAt (H0 : Nat) (x : ItemF) (g : Nat) (W : World) : Prop := H0 ≤ g ∧ Blk W g 37 (blkF x.1 x.2.1 x.2.2.1)
theorem parI_turns {w A C : World} {l : List UInt8} {b n p0 H0 B2 B3 B5 B7 Bp : Nat} {o0 o1 o2 o3 : Int} {xs pre : List ItemF} (hB : ParB w H0 B2 B3 B5 B7 Bp) (h : ParI w l b n p0 H0 B2 B3 B5 B7 o0 o1 o2 o3 xs pre A) (hu : TurnsF H0 [Bp] A C) :
    ParI w l b n p0 H0 B2 B3 B5 B7 o0 o1 o2 o3 xs pre C ∧ ∀ k, mineF B2 B3 B5 B7 C k → mineF B2 B3 B5 B7 A k := by
  obtain ⟨k, p, tt, bs, v, h1, h2, h3, h4, h5, h6, hV⟩ := h
  have hV2 := hV.turns hB hu
  refine ⟨⟨k, p, tt, bs, v, h1, h2, h3, h4, h5, h6, hV2⟩, fun j hj => ?_⟩
  have e1 := hV.b7.cell 4
  have e2 := hV2.b7.cell 4
  simp only [List.getElem?_cons_zero, List.getElem?_cons_succ] at e1 e2
  rcases hj with h | h | h | h | ⟨m, c, hc⟩
  · exact .inl h
  · exact .inr (.inl h)
  · exact .inr (.inr (.inl h))
  · exact .inr (.inr (.inr (.inl h)))
  · exact .inr (.inr (.inr (.inr ⟨m, c, by rw [e1, ← e2]; exact hc⟩)))
theorem parI_mine {w A : World} {l : List UInt8} {b n p0 H0 B2 B3 B5 B7 Bp : Nat} {o0 o1 o2 o3 : Int} {xs pre : List ItemF} {j : Nat} (hB : ParB w H0 B2 B3 B5 B7 Bp) (h : ParI w l b n p0 H0 B2 B3 B5 B7 o0 o1 o2 o3 xs pre A) (hj : mineF B2 B3 B5 B7 A j) :
    j < A.heap.size ∧ ¬ keepF w.heap.size (B7 + 1) (B7 + 2) Bp j := by
  obtain ⟨k, p, tt, bs, v, h1, h2, h3, h4, h5, h6, hV⟩ := h
  have q2 := hB.h2; have q3 := hB.h3; have q5 := hB.h5; have q7 := hB.h7; have qp := hB.hp; have q0 := hB.h0
  have e1 := hV.b7.cell 4
  simp only [List.getElem?_cons_zero, List.getElem?_cons_succ] at e1
  have hno : ∀ i, w.heap.size ≤ i → i ≠ B7 + 1 → i ≠ B7 + 2 → i ≠ Bp → ¬ keepF w.heap.size (B7 + 1) (B7 + 2) Bp i := fun i h0 h1 h2 h3 h => by
    rcases h with h | h | h | h
    · omega
    · exact h1 h
    · exact h2 h
    · exact h3 h
  rcases hj with rfl | rfl | rfl | rfl | ⟨m, c, hc⟩
  · exact ⟨hV.b2.lt, hno _ (by omega) (by omega) (by omega) (by omega)⟩
  · exact ⟨hV.b3.lt, hno _ (by omega) (by omega) (by omega) (by omega)⟩
  · exact ⟨hV.b5.lt, hno _ (by omega) (by omega) (by omega) (by omega)⟩
  · exact ⟨hV.b7.lt, hno _ (by omega) (by omega) (by omega) (by omega)⟩
  · rw [e1] at hc
    injection hc with hc
    have ho : v.ownBlock = some j := by rw [hc]; rfl
    obtain ⟨g1, g2⟩ := hV.own.lt j ho
    exact ⟨g2, hno _ (by omega) (by omega) (by omega) (by omega)⟩
theorem parX_turns {w A C : World} {l : List UInt8} {b n p0 H0 B2 B3 B5 B7 Bp : Nat} {o0 o1 o2 o3 : Int} {c : Code} {pre : List ItemF} (hB : ParB w H0 B2 B3 B5 B7 Bp) (h : ParX w l b n p0 H0 B2 B3 B5 B7 o0 o1 o2 o3 c pre A) (hu : TurnsF H0 [Bp] A C) : ParX w l b n p0 H0 B2 B3 B5 B7 o0 o1 o2 o3 c pre C := by
  have q2 := hB.h2; have q3 := hB.h3; have q5 := hB.h5; have q7 := hB.h7; have qp := hB.hp; have q0 := hB.h0
  rcases h with ⟨p, tt, bs, v, h1, h2, h3, h4, h5, hV⟩ | ⟨p, tt, bs, e, h1, h2, h3, h4, h5, h6⟩
  · exact .inl ⟨p, tt, bs, v, h1, h2, h3, h4, h5, hV.turns hB hu⟩
  · exact .inr ⟨p, tt, bs, e, h1, h2, h3, hu.blk h4 (by simp; omega), hu.blk h5 (by simp; omega), h6.trans (hu.below (by simp; omega) (by omega) h6.size)⟩
theorem keepsFrom_two {B g h : Nat} {W : World} {t u : TypeId} {cs ds : List Value} (hg : Blk W g t cs) (hh : Blk W h u ds) (rs : Array Value) (v : Value) : KeepsFrom B W ((W.setRow g rs).setCell ⟨h, 0, none⟩ v) :=
  ⟨by simp [World.setCell], fun k o _ hk ho => by
    have k1 : k ≠ g := fun e => by
      subst e
      rw [show W.heap[k]? = _ from hg] at hk
      cases hk
      cases ho
    have k2 : k ≠ h := fun e => by
      subst e
      rw [show W.heap[k]? = _ from hh] at hk
      cases hk
      cases ho
    exact (Below.heap_setCell _ _ _ _ k2).trans ((setRow_other W g k rs k1).trans hk)⟩
theorem oneCell_blkF (q : Five) (fr pl : Nat) : ∀ u ∈ blkF q fr pl, u.oneCell' = true := by
  intro u hu
  simp only [blkF, List.mem_cons, List.not_mem_nil, or_false] at hu
  rcases hu with rfl | rfl | rfl | rfl | rfl | rfl | rfl <;> rfl
theorem cells_new32 {w : World} {g : Nat} {t : TypeId} {cs : List Value} (h : Blk w g t cs) : ∀ j v, cs[j]? = some v → w.cell? ((⟨g, 0, none⟩ : Addr).add j) = some v := fun j v hj => by
  rw [Addr.add_lit, Nat.zero_add]
  exact (h.cell j).trans hj
/-- What a round that goes on leaves. -/
theorem parV_more {w Wd w4 : World} {l : List UInt8} {b n H0 B2 B3 B5 B7 Bp : Nat} {o0 o1 o2 o3 : Int} {p tt p' tt' : Nat} {bs : List Blk7} {q : Blk7} {v v' : Value} {tmp : Obj} (hB : ParB w H0 B2 B3 B5 B7 Bp) (h : ParV w l b n H0 B2 B3 B5 B7 o0 o1 o2 o3 p tt bs v Wd) (hs : H0 ≤ Wd.heap.size)
    (hown : w4.ownsRow H0 37 7 v' (bs.length + 1) (blksC bs ++ blkF q.1 q.2.1 q.2.2)) (hg : (Wd.alloc tmp).grownBy w4 v.ownBlock) :
    Blk w4 B7 27 [.int .i64 o0, .int .i64 o1, .int .i64 o2, .int .i64 o3, v, .int .i64 (tt : Int), .int .u32 0] ∧ Blk w4 B5 3 [.int .i64 (p : Int)] ∧
    KeepsFrom H0 Wd (((w4.setCell ⟨B7, 4, none⟩ v').setCell ⟨B7, 5, none⟩ (.int .i64 (tt' : Int))).setCell ⟨B5, 0, none⟩ (.int .i64 (p' : Int))) ∧
    KeepsM (mineF B2 B3 B5 B7) Wd (((w4.setCell ⟨B7, 4, none⟩ v').setCell ⟨B7, 5, none⟩ (.int .i64 (tt' : Int))).setCell ⟨B5, 0, none⟩ (.int .i64 (p' : Int))) ∧
    ParV w l b n H0 B2 B3 B5 B7 o0 o1 o2 o3 p' tt' (bs ++ [q]) v' (((w4.setCell ⟨B7, 4, none⟩ v').setCell ⟨B7, 5, none⟩ (.int .i64 (tt' : Int))).setCell ⟨B5, 0, none⟩ (.int .i64 (p' : Int))) := by
  have h2 := hB.h2; have h3 := hB.h3; have h5 := hB.h5; have h7 := hB.h7; have hp := hB.hp; have h0 := hB.h0
  have hrow := own_block h.own
  have hblk : ∀ k, k < Wd.heap.size → (∀ r, v.ownBlock = some r → k ≠ r) → w4.heap[k]? = Wd.heap[k]? := fun k hk hr =>
    (hg.block k (by simp; omega) (fun e => hr k e.symm rfl)).trans (Below.heap_alloc _ _ _ hk)
  have hlow : ∀ k, k < H0 → w4.heap[k]? = Wd.heap[k]? := fun k hk => hblk k (by omega) (fun r hr e => by have := hrow r hr; omega)
  have c7 : Blk w4 B7 27 [.int .i64 o0, .int .i64 o1, .int .i64 o2, .int .i64 o3, v, .int .i64 (tt : Int), .int .u32 0] := (hlow _ (by omega)).trans h.b7
  have c5 : Blk w4 B5 3 [.int .i64 (p : Int)] := (hlow _ (by omega)).trans h.b5
  have c2 : Blk w4 B2 27 _ := (hlow _ (by omega)).trans h.b2
  have c3 : Blk w4 B3 32 _ := (hlow _ (by omega)).trans h.b3
  have hsz : Wd.heap.size ≤ w4.heap.size := Nat.le_trans (by simp) hg.size
  have hset : ∀ k, k ≠ B7 → k ≠ B5 → (((w4.setCell ⟨B7, 4, none⟩ v').setCell ⟨B7, 5, none⟩ (.int .i64 (tt' : Int))).setCell ⟨B5, 0, none⟩ (.int .i64 (p' : Int))).heap[k]? = w4.heap[k]? := fun k k7 k5 =>
    (Below.heap_setCell _ _ _ _ k5).trans ((Below.heap_setCell _ _ _ _ k7).trans (Below.heap_setCell _ _ _ _ k7))
  have hall : (((w4.setCell ⟨B7, 4, none⟩ v').setCell ⟨B7, 5, none⟩ (.int .i64 (tt' : Int))).setCell ⟨B5, 0, none⟩ (.int .i64 (p' : Int))).heap.size = w4.heap.size := by simp [World.setCell]
  refine ⟨c7, c5, ⟨by rw [hall]; exact hsz, fun k o hk ho hc => ?_⟩, ⟨by rw [hall]; exact hsz, fun k hk hm => ?_⟩, ⟨(c5.setOther _ _ (by simp; omega)).setOther _ _ (by simp; omega) |>.set_ 0 _, ?_, ?_, ?_, ?_, ?_⟩⟩
  · rw [hset k (by omega) (by omega), hblk k (Array.getElem?_eq_some_iff.1 ho).1 (fun r hr e => ?_)]
    · exact ho
    · subst e
      rcases h.own.2 with ⟨rfl, -⟩ | ⟨g, cap, cur, rfl, hbg, hgg, -⟩
      · cases hr
      · have : k = g := by simpa [Value.ownBlock] using hr.symm
        subst this
        rw [hgg] at ho
        cases ho
        cases hc
  · have k7 : k ≠ B7 := fun e => hm (.inr (.inr (.inr (.inl e))))
    have k5 : k ≠ B5 := fun e => hm (.inr (.inr (.inl e)))
    rw [hset k k7 k5]
    refine hblk k hk (fun r hr e => ?_)
    subst e
    refine hm (.inr (.inr (.inr (.inr ?_))))
    have c4 := h.b7.cell 4
    simp only [List.getElem?_cons_zero, List.getElem?_cons_succ] at c4
    rcases h.own.2 with ⟨rfl, -⟩ | ⟨g, cap, cur, rfl, hbg, hgg, -⟩
    · cases hr
    · have : k = g := by simpa [Value.ownBlock] using hr.symm
      subst this
      exact ⟨_, _, c4⟩
  · have := (((c7.set_ 4 v').set_ 5 (.int .i64 (tt' : Int))).setOther ⟨B5, 0, none⟩ (.int .i64 (p' : Int)) (by simp; omega))
    exact this
  · rw [List.length_append, List.length_singleton, blksC_snoc]
    have hk : ∀ k, H0 ≤ k → (((w4.setCell ⟨B7, 4, none⟩ v').setCell ⟨B7, 5, none⟩ (.int .i64 (tt' : Int))).setCell ⟨B5, 0, none⟩ (.int .i64 (p' : Int))).heap[k]? = w4.heap[k]? := fun k hk => hset k (by omega) (by omega)
    refine ⟨hown.1, ?_⟩
    rcases hown.2 with hn | ⟨g, cap, cur, e, hbg, hgg, rest⟩
    · exact .inl hn
    · exact .inr ⟨g, cap, cur, e, hbg, (hk g hbg).trans hgg, rest⟩
  · exact (hset _ (by omega) (by omega)).trans c2
  · exact (hset _ (by omega) (by omega)).trans c3
  · refine h.below.trans ?_
    have e1 : Below w.heap.size Wd w4 := by
      refine ((Below.refl w.heap.size Wd).alloc h.below.size tmp).trans ⟨hg.os, hg.tape, hg.output, hg.size, fun k hk => hg.block k (by have := h.below.size; simp; omega) (fun e => by have := hrow k e.symm; omega)⟩
    exact ((e1.setCell (p := ⟨B7, 4, none⟩) (by simp; omega) _).setCell (p := ⟨B7, 5, none⟩) (by simp; omega) _).setCell (p := ⟨B5, 0, none⟩) (by simp; omega) _
end Go.Proofs.Ytjignfnkcbklkaa
namespace Go.Proofs.Ytjignfnkcbklkaa
open Go.RowKit Go.Sort

/-- A block of any numbers. -/
structure B7 where
  mo : Int
  ra : Int
  mi : Int
  co : Int
  su : Int
  fr : Int
  pl : Int
def B7.cells (x : B7) : List Value := [.int .i64 x.mo, .int .i64 x.ra, .int .i64 x.mi, .int .i64 x.co, .int .u32 x.su, .int .i64 x.fr, .int .i64 x.pl]
def blksI (bs : List B7) : List Value := bs.flatMap B7.cells
def B7.of (q : Blk7) : B7 := ⟨q.1.1, q.1.2.1, q.1.2.2.1, q.1.2.2.2.1, q.1.2.2.2.2, q.2.1, q.2.2⟩
theorem blksC_of (bs : List Blk7) : blksC bs = blksI (bs.map B7.of) := by
  simp only [blksC, blksI, List.flatMap_map]
  rfl
theorem blksI_get : ∀ (bs : List B7) (i : Nat) (x : B7), bs[i]? = some x → ∀ j v, x.cells[j]? = some v → (blksI bs)[i * 7 + j]? = some v
  | [], _, _, h => by simp at h
  | x :: bs, 0, y, h => fun j v hv => by
    simp at h
    subst h
    have hj : j < x.cells.length := (List.getElem?_eq_some_iff.1 hv).1
    rw [show blksI (x :: bs) = x.cells ++ blksI bs from rfl, Nat.zero_mul, Nat.zero_add, List.getElem?_append_left hj]
    exact hv
  | x :: bs, i + 1, y, h => fun j v hv => by
    have h2 := blksI_get bs i y (by simpa using h) j v hv
    rw [show blksI (x :: bs) = x.cells ++ blksI bs from rfl, show (i + 1) * 7 + j = i * 7 + j + 7 by omega, List.getElem?_append_right (by simp [B7.cells])]
    exact h2
/-- The k-th of a row of blocks. -/
theorem rd_blk {w : World} {B : Nat} {A : Option Addr} {bs : List B7} (h : Rd w B A (blksI bs)) {i : Nat} {x : B7} (hi : bs[i]? = some x) :
    ∃ b off, A = some ⟨b, off, none⟩ ∧ b < B ∧ w.cell? ⟨b, off + i * 7, none⟩ = some (.int .i64 x.mo) ∧ w.cell? ⟨b, off + i * 7 + 1, none⟩ = some (.int .i64 x.ra) ∧ w.cell? ⟨b, off + i * 7 + 2, none⟩ = some (.int .i64 x.mi) ∧ w.cell? ⟨b, off + i * 7 + 3, none⟩ = some (.int .i64 x.co) ∧
      w.cell? ⟨b, off + i * 7 + 4, none⟩ = some (.int .u32 x.su) ∧ w.cell? ⟨b, off + i * 7 + 5, none⟩ = some (.int .i64 x.fr) ∧ w.cell? ⟨b, off + i * 7 + 6, none⟩ = some (.int .i64 x.pl) := by
  obtain ⟨b, off, rfl, hb, -⟩ := h _ _ (blksI_get bs i x hi 0 _ rfl)
  have each : ∀ j v, x.cells[j]? = some v → w.cell? ⟨b, off + i * 7 + j, none⟩ = some v := fun j v hv => by
    obtain ⟨b', off', e, -, hc⟩ := h _ _ (blksI_get bs i x hi j v hv)
    injection e with e
    injection e with e1 e2
    subst e1 e2
    rw [Nat.add_assoc]
    exact hc
  exact ⟨b, off, rfl, hb, each 0 _ rfl, each 1 _ rfl, each 2 _ rfl, each 3 _ rfl, each 4 _ rfl, each 5 _ rfl, each 6 _ rfl⟩
theorem nilB32 (w : World) : IsBytes [] (.slice none 0 0) w := ⟨none, 0, rfl, Nat.le_refl _, Rd.nil_ _ _ _⟩
/-- A payload that is there. -/
def payOk (n : Nat) (x : B7) : Prop := 0 ≤ x.fr ∧ 0 ≤ x.co ∧ x.fr + x.co ≤ (n : Int)
instance (n : Nat) (x : B7) : Decidable (payOk n x) := by unfold payOk; infer_instance
/-- The payload of a block. -/
def payR (l : List UInt8) (bs : List B7) (k : Int) : List UInt8 :=
  if 0 ≤ k then (match bs[k.toNat]? with | some x => if payOk l.length x then (l.drop x.fr.toNat).take x.co.toNat else [] | none => []) else []
set_option maxRecDepth 100000 in
set_option maxHeartbeats 4000000 in
theorem frmPay_any {A A2 : Option Addr} {n c c2 : Nat} {l : List UInt8} {bs : List B7} {o0 o1 o2 o3 tt su : Int} (k : Int) (W : World) (hr : Rd W W.heap.size A (bvs l)) (hn : l.length = n) (hnc : n ≤ c) (hn1 : n ≤ 100000) (hb : Rd W W.heap.size A2 (blksI bs))
    (hf : ∀ x ∈ bs, (-9223372036854775808 ≤ x.fr ∧ x.fr ≤ 9223372036854775807) ∧ (-9223372036854775808 ≤ x.co ∧ x.co ≤ 9223372036854775807)) :
    Calls Try.prog 9 #[.slice A n c, .agg #[.int .i64 o0, .int .i64 o1, .int .i64 o2, .int .i64 o3, .slice A2 bs.length c2, .int .i64 tt, .int .u32 su], .int .i64 k] W fun e w' => ∃ v, e = .returned v ∧ IsBytes (payR l bs k) v w' ∧ Below W.heap.size W w' := by
  have hB1 : Below W.heap.size W (W.alloc (.cells #[.int .i64 o0, .int .i64 o1, .int .i64 o2, .int .i64 o3, .slice A2 bs.length c2, .int .i64 tt, .int .u32 su] 27)) := (Below.refl _ _).alloc (Nat.le_refl _) _
  have HB1 := Lib.hid hB1
  by_cases hk0 : k < 0
  · have hp : payR l bs k = [] := by unfold payR; rw [if_neg (by omega)]
    rw [hp]
    clear hr hb hf hB1
    go_enter Try.func9, Try.ntmps9
    go_wp2
    go_ret
    exact ⟨_, rfl, nilB32 _, HB1.out⟩
  obtain ⟨k, rfl⟩ := Int.eq_ofNat_of_zero_le (show 0 ≤ k by omega)
  by_cases hkl : bs.length ≤ k
  · have hp : payR l bs k = [] := by
      unfold payR
      rw [if_pos (by omega), Int.toNat_natCast, List.getElem?_eq_none hkl]
    have hkli : (bs.length : Int) ≤ (k : Int) := by omega
    rw [hp]
    clear hr hb hf hB1
    go_enter Try.func9, Try.ntmps9
    go_wp2
    go_ret
    exact ⟨_, rfl, nilB32 _, HB1.out⟩
  have hkl2 : k < bs.length := by omega
  obtain ⟨x, hx⟩ : ∃ x, bs[k]? = some x := ⟨_, List.getElem?_eq_getElem hkl2⟩
  obtain ⟨hfx, hcx⟩ := hf x (List.mem_of_getElem? hx)
  obtain ⟨b2, off2, rfl, hb2, c0, c1, c2', c3, c4, c5, c6⟩ := rd_blk hb hx
  have hkli : (k : Int) < (bs.length : Int) := by omega
  have hpr : payR l bs k = if payOk n x then (l.drop x.fr.toNat).take x.co.toNat else [] := by
    unfold payR
    rw [if_pos (by omega), Int.toNat_natCast, hx, hn]
  rw [hpr]
  have HR1 := Lib.hid ((hr.below hB1).more hB1.size)
  have HN := Lib.hid hn
  obtain ⟨mo, ra, mi, co, s, fr, pl⟩ := x
  simp only at c0 c1 c2' c3 c4 c5 c6 hfx hcx
  obtain ⟨hf0, hf1⟩ := hfx
  obtain ⟨hc0, hc1⟩ := hcx
  clear hr hb hf hB1 hpr hx hn
  by_cases hok : payOk n ⟨mo, ra, mi, co, s, fr, pl⟩
  · rw [if_pos hok]
    obtain ⟨h1, h2, h3⟩ := hok
    simp only at h1 h2 h3
    obtain ⟨fr, rfl⟩ := Int.eq_ofNat_of_zero_le h1
    obtain ⟨co, rfl⟩ := Int.eq_ofNat_of_zero_le h2
    simp only [Int.toNat_natCast]
    have hfc : fr + co ≤ n := by omega
    go_enter Try.func9, Try.ntmps9
    go_wp2_with fail
    all_goals
      have hL : ((l.drop fr).take co).length = co := by rw [List.length_take, List.length_drop, HN.out]; omega
      refine (bcloneB_any _ co _ ((l.drop fr).take co) _ ?hrd hL (by omega)).mono ?_
      case hrd =>
        first
          | (have h := (((HR1.out.alloc (Nat.le_refl _) (.cells #[.int .i64 mo, .int .i64 ra, .int .i64 mi, .int .i64 (co : Int), .int .u32 s, .int .i64 (fr : Int), .int .i64 pl] 37)).more (B' := ((W.alloc (.cells #[.int .i64 o0, .int .i64 o1, .int .i64 o2, .int .i64 o3, .slice (some ⟨b2, off2, none⟩) bs.length c2, .int .i64 tt, .int .u32 su] 27)).alloc (.cells #[.int .i64 mo, .int .i64 ra, .int .i64 mi, .int .i64 (co : Int), .int .u32 s, .int .i64 (fr : Int), .int .i64 pl] 37)).heap.size) (by simp)).drop fr).take co
             rw [bvs_drop, bvs_take] at h
             exact h)
          | (rw [show co = 0 by omega, List.take_zero]
             exact Rd.nil_ _ _ _)
      rintro _ w3 ⟨v, rfl, ho, hbw⟩
      have HO := Lib.hid (IsBytes.of_own ho)
      have HB3 := Lib.hid ((HB1.out.alloc HB1.out.size (.cells #[.int .i64 mo, .int .i64 ra, .int .i64 mi, .int .i64 (co : Int), .int .u32 s, .int .i64 (fr : Int), .int .i64 pl] 37)).trans (hbw.mono (by simp; omega)))
      clear ho hbw hL
      go_wp2
      go_ret
      exact ⟨_, rfl, HO.out, HB3.out⟩
  · rw [if_neg hok]
    have hno : fr < 0 ∨ co < 0 ∨ (0 ≤ fr ∧ 0 ≤ co ∧ (n : Int) - fr < co) := by
      by_cases h1 : fr < 0
      · exact .inl h1
      · by_cases h2 : co < 0
        · exact .inr (.inl h2)
        · refine .inr (.inr ⟨by omega, by omega, ?_⟩)
          by_cases h3 : (n : Int) - fr < co
          · exact h3
          · exact absurd ⟨by show 0 ≤ fr; omega, by show 0 ≤ co; omega, by show fr + co ≤ n; omega⟩ hok
    rcases hno with h | h | ⟨h1, h2, h3⟩
    all_goals
      go_enter Try.func9, Try.ntmps9
      go_wp2
      all_goals
        go_ret
        exact ⟨_, rfl, nilB32 _, HB1.out.alloc HB1.out.size _⟩
end Go.Proofs.Ytjignfnkcbklkaa
namespace Go.Proofs.Ytjignfnkcbklkaa
open Go.RowKit

/-- A block and its payload. -/
abbrev BP := B7 × List UInt8
def pieceB (q : BP) : List UInt8 := blkL q.1.mo.toNat q.1.ra.toNat q.1.mi.toNat q.1.co.toNat q.1.su.toNat
def okP (b : Int) (q : BP) : Bool := mayBk q.1.mo q.1.ra q.1.mi q.1.co b && decide ((q.2.length : Int) = q.1.co)
def bytesP (xs : List BP) : List UInt8 := xs.flatMap fun q => pieceB q ++ q.2
def rawP : List BP → Nat
  | [] => 0
  | q :: r => q.1.ra.toNat + rawP r
theorem bytesP_snoc (xs : List BP) (q : BP) : bytesP (xs ++ [q]) = bytesP xs ++ (pieceB q ++ q.2) := by simp [bytesP]
theorem rawP_snoc : ∀ (xs : List BP) (q : BP), rawP (xs ++ [q]) = rawP xs + q.1.ra.toNat
  | [], q => by simp [rawP]
  | x :: r, q => by
    have := rawP_snoc r q
    simp only [List.cons_append, rawP]
    omega
/-- What Put tells. -/
def putR (b u r m : Int) (nb np : Nat) (xs : List BP) (su : Int) : List UInt8 × Nat :=
  if mayO b u r m = false then ([], 10) else if np ≠ nb then ([], 15) else if xs.all (okP b) = true then (headS b.toNat u.toNat r.toNat m.toNat ++ bytesP xs ++ endL (rawP xs) su.toNat, 0) else ([], 15)
def PutOut (W : World) (q : List UInt8 × Nat) (e : Ending) (w' : World) : Prop := ∃ v, e = .returned (.tuple #[v, .int .i64 (q.2 : Int)]) ∧ IsBytes q.1 v w' ∧ Below W.heap.size W w'
/-- The numbers of a block that came in. -/
def B7.inI (x : B7) : Prop := (-9223372036854775808 ≤ x.ra ∧ x.ra ≤ 9223372036854775807) ∧ (-9223372036854775808 ≤ x.mi ∧ x.mi ≤ 9223372036854775807) ∧ (-9223372036854775808 ≤ x.co ∧ x.co ≤ 9223372036854775807) ∧ (-9223372036854775808 ≤ x.fr ∧ x.fr ≤ 9223372036854775807) ∧ (0 ≤ x.su ∧ x.su ≤ 4294967295)
/-- One that may be: its numbers. -/
theorem okP_nat {b : Nat} {q : BP} (hi : q.1.inI) (h : okP (b : Int) q = true) (hb : b ≤ 16777216) : ∃ mo ra mi co su : Nat, q.1 = ⟨mo, ra, mi, co, su, q.1.fr, q.1.pl⟩ ∧ mo ≤ 5 ∧ 1 ≤ ra ∧ ra ≤ 16777216 ∧ mi ≤ 100000000 ∧ co ≤ 16777216 ∧ su < 4294967296 ∧ q.2.length = co ∧ pieceB q = blkL mo ra mi co su ∧
    mayBk (mo : Int) (ra : Int) (mi : Int) (co : Int) (b : Int) = true ∧ q.1.ra.toNat = ra := by
  obtain ⟨⟨mo, ra, mi, co, su, fr, pl⟩, p⟩ := q
  obtain ⟨-, -, -, -, hs0, hs1⟩ := hi
  unfold okP at h
  rw [Bool.and_eq_true] at h
  obtain ⟨h1, h2⟩ := h
  simp only [decide_eq_true_eq] at h1 h2 hs0 hs1
  obtain ⟨mo, ra, mi, co, rfl, rfl, rfl, rfl⟩ := mayBk_ex h1
  obtain ⟨su, rfl⟩ := Int.eq_ofNat_of_zero_le hs0
  obtain ⟨k5, k1, km, kz, kn⟩ := mayBk_nat h1
  have hmi : mi ≤ 3 * ra + 64 := by
    by_cases h0 : mo = 0
    · have := kz h0; omega
    · exact (kn h0).1
  have hco : co ≤ ra := by
    by_cases h0 : mo = 0
    · have := kz h0; omega
    · have := kn h0; omega
  have h3 : p.length = co := Int.ofNat.inj h2
  have h4 : su ≤ 4294967295 := by omega
  exact ⟨mo, ra, mi, co, su, rfl, k5, k1, by omega, by omega, by omega, by omega, h3, rfl, h1, rfl⟩
theorem all_take_false {α : Type} {p : α → Bool} {l : List α} {k : Nat} {x : α} (h : l[k]? = some x) (hp : p x = false) : l.all p = false := by
  rw [List.all_eq_false]
  exact ⟨x, List.mem_of_getElem? h, by rw [hp]; decide⟩
theorem bytesP_le : ∀ (xs : List BP) {b : Nat} (_ : b ≤ 16777216), (∀ q ∈ xs, q.1.inI ∧ okP (b : Int) q = true ∧ q.2.length ≤ 1000) → (bytesP xs).length ≤ 1017 * xs.length ∧ rawP xs ≤ 16777216 * xs.length
  | [], _, _, _ => ⟨Nat.le_refl _, Nat.le_refl _⟩
  | q :: r, b, hb, h => by
    obtain ⟨h1, h2⟩ := bytesP_le r hb (fun x hx => h x (by simp [hx]))
    obtain ⟨hi, ho, hl⟩ := h q (by simp)
    obtain ⟨mo, ra, mi, co, su, he, -, -, h4, h5, h6, -, h7, h8, h9, h10⟩ := okP_nat hi ho hb
    have h17 : (pieceB q).length ≤ 17 := by
      rw [h8]
      obtain ⟨k5, k1, km, kz, kn⟩ := mayBk_nat h9
      refine blkL_len h4 ?_ ?_
      · by_cases h0 : mo = 0
        · have := kz h0; omega
        · exact (kn h0).1
      · by_cases h0 : mo = 0
        · have := kz h0; omega
        · have := kn h0; omega
    have e1 : (bytesP (q :: r)).length = (pieceB q).length + q.2.length + (bytesP r).length := by rw [show bytesP (q :: r) = (pieceB q ++ q.2) ++ bytesP r from rfl, List.length_append, List.length_append]
    have e2 : rawP (q :: r) = q.1.ra.toNat + rawP r := rfl
    rw [e1, e2, List.length_cons]
    omega
end Go.Proofs.Ytjignfnkcbklkaa
