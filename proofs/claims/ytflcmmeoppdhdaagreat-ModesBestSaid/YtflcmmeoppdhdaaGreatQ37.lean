/-
  Layer 13's reference: counts as a plain row. · A region that draws its order, in which one operation turns a row of one's own (append), and all others only read or make memory. General: no code of the project. · Layer 17: the reference's Lay.
-/
import Derived.Test.YtflcmmeoppdhdaaGreatQ02
import Derived.Test.YtflcmmeoppdhdaaGreatQ21
import Derived.Test.YtflcmmeoppdhdaaGreatQ27
import Derived.Test.YtflcmmeoppdhdaaGreatQ32
import Derived.Test.YtflcmmeoppdhdaaGreatQ33
import Derived.StillTailTactics
namespace Go.Proofs.YtflcmmeoppdhdaaGreat
open Go.RowKit Go.Sort

/-- At M lie plain counts, whose row lies from block B on. -/
structure RF (w : World) (B M n : Nat) (v : Value) (c : List Int) (st mo : Int) : Prop where
  mb : Blk w M 101 [v, .int .i64 st, .int .i64 mo]
  own : w.ownsRow B 3 1 v n (zvs c)
  len : c.length = n
  lo : B ≤ M
section
variable {w w' : World} {B M n : Nat} {v : Value} {c : List Int} {st mo : Int}
theorem RF.grow (h : RF w B M n v c st mo) (hb : Below w.heap.size w w') : RF w' B M n v c st mo := ⟨h.mb.grow hb, own_kept h.own hb, h.len, h.lo⟩
theorem RF.same (h : RF w B M n v c st mo) (e : w'.heap = w.heap) : RF w' B M n v c st mo :=
  ⟨h.mb.same e, ⟨h.own.1, by have := h.own.2; rw [← e] at this; exact this⟩, h.len, h.lo⟩
set_option maxRecDepth 100000 in
theorem rTotal_any {A : Option Addr} {m : Nat} (h : RF w B M n (.slice A n m) c st mo) (hc : ∀ x ∈ c, 0 ≤ x) (hs : c.sum ≤ 1000000000) (h60 : n ≤ 4096) :
    Calls Tryz.prog 63 #[.pointer (some ⟨M, 0, none⟩)] w fun e w' => e = .returned (.int .i64 c.sum) ∧ Below w.heap.size w w' := by
  have c0 := h.mb.cell 0
  simp only [List.getElem?_cons_zero] at c0
  have cq := fun (W' : World) (e : W'.heap = w.heap) => rBelow_any (m := m) (n : Int) (rd_same (Rd.of_own h.own) e) h.len hc hs (by omega) n (by omega)
  rw [fPre_most c (by rw [h.len]; exact Nat.le_refl _)] at cq
  have CQ := Lib.hid cq
  clear h cq
  go_enter Tryz.func63, Tryz.ntmps63
  go_wp2
  go_big_quiet ((go_at_call 62; exact quietOf CQ.out))
  go_wp2
  go_ret
  exact ⟨rfl, below_drawn w nq⟩

set_option maxRecDepth 100000 in
set_option maxHeartbeats 2000000 in
theorem rNew_any (n : Nat) (st mo : Int) (w : World) (h60 : n ≤ 4096) :
    Calls Tryz.prog 33 #[.int .i64 (n : Int), .int .i64 st, .int .i64 mo] w fun e w' => ∃ M, e = .returned (.pointer (some ⟨M, 0, none⟩)) ∧ (∃ v, RF w' w.heap.size M n v (List.replicate n 1) st mo) ∧ Below w.heap.size w w' := by
  obtain ⟨i0, hi, hz0, hz1, hz2⟩ := info_parts info_int12
  have hw1 : ∃ w1, w1 = w.alloc (.cells #[.slice none 0 0, .int .i64 st, .int .i64 mo] 101) := ⟨_, rfl⟩
  obtain ⟨w1, hw1⟩ := hw1
  have hrf : RF w1 w.heap.size w.heap.size 0 (.slice none 0 0) [] st mo := ⟨by rw [hw1]; exact heap_alloc_new w _, World.ownsRow_nil _ _ _ _, rfl, Nat.le_refl _⟩
  have HRF := Lib.hid hrf
  have HB := Lib.hid (show Below w.heap.size w w1 by rw [hw1]; exact (Below.refl _ _).alloc (Nat.le_refl _) _)
  have HW1 := Lib.hid hw1
  clear hrf hw1
  go_enter Tryz.func33, Tryz.ntmps33
  go_wp2
  rw [← HW1.out]
  go_loopw [8] (fun ii wr => ∃ (k : Nat) (v : Value), k ≤ n ∧ ii = .int .i64 (k : Int) ∧ RF wr w.heap.size w.heap.size k v (List.replicate k 1) st mo ∧ Below w.heap.size w wr) (fun ii _ => n - (intOf ii).toNat)
  case atStart => exact ⟨0, _, Nat.zero_le _, rfl, HRF.out, HB.out⟩
  case round =>
    clear HRF HB HW1
    obtain ⟨k, v, hk, rfl, hf, hb⟩ := hrel
    obtain ⟨Av, cv, rfl, -, -, -⟩ := own_form hf.own
    have HF := Lib.hid hf
    have HB := Lib.hid hb
    have c0 := hf.mb.cell 0
    simp only [List.getElem?_cons_zero] at c0
    have hbs := hb.size
    clear hf hb
    by_cases hlt : k < n
    · have hki : (k : Int) < (n : Int) := by omega
      go_wp2_with (at_builtin; go_must (refine wpList_app rfl (.tmp 22) (.tmp 23) 53 rfl w.heap.size 3 i0 (.int .i64 0) 1 8 Tryz.underlying53 hi hz0 hz1 hz2 rfl (by decide) _ _ _ rfl (HF.out.own.alloc _) _ _ 1 1 _ rfl (Rd.new _ _ _) rfl (by intro u hu; simp at hu; subst hu; rfl) (by simp only [maxLen]; omega) (by omega) (by simp; omega) ?_; intro v1 w2 hown1 hg1; have hmb := blk_row (HF.out.mb.alloc_ _) hg1 (own_ne HF.out.mb HF.out.own (by decide)); have HG := Lib.hid hg1; have HO1 := Lib.hid hown1; have HMB := Lib.hid hmb; have d0 := hmb.cell 0; have d1 := hmb.frozen 0; simp only [List.getElem?_cons_zero] at d0; obtain ⟨A1, c1, rfl, -, -, -⟩ := own_form hown1; clear hown1 hg1 hmb))
      have hset := HMB.out.set_ 0 (.slice A1 (k + 1) c1)
      simp only [List.set_cons_zero] at hset
      have hown2 := HO1.out.kept (grownBy_setCell' w2 w.heap.size (.slice A1 (k + 1) c1)) (.inr (fun e => own_ne HMB.out HO1.out (by decide) _ e rfl))
      have hb2 := ((HB.out.alloc hbs _).grown HG.out (by simp; omega) (own_block HF.out.own)).setCell (p := ⟨w.heap.size, 0, none⟩) (Nat.le_refl _) (.slice A1 (k + 1) c1)
      have HN : Hid (RF (w2.setCell ⟨w.heap.size, 0, none⟩ (.slice A1 (k + 1) c1)) w.heap.size w.heap.size (k + 1) (.slice A1 (k + 1) c1) (List.replicate (k + 1) 1) st mo ∧ Below w.heap.size w (w2.setCell ⟨w.heap.size, 0, none⟩ (.slice A1 (k + 1) c1))) := ⟨⟨hset, by rw [List.replicate_succ']; simpa [zvs] using hown2, by simp, Nat.le_refl _⟩, hb2⟩
      clear hset hown2 hb2
      go_roundw
      case rel => exact ⟨k + 1, _, by omega, by go_num, HN.out.1, HN.out.2⟩
      case measure => simp [intOf]; omega
    · obtain rfl : k = n := by omega
      go_wp2
      go_ret
      exact ⟨w.heap.size, rfl, ⟨_, HF.out⟩, HB.out⟩

set_option maxRecDepth 100000 in
/-- The types of the blocks that plain counts turn. -/
def rfT : List TypeId := [101, 3]
theorem OnlyT.set_of {w : World} {B : Nat} {ts : List TypeId} {g i : Nat} {t : TypeId} (h : OfType w g t) (hg : B ≤ g) (u : Value) (ht : t ∈ ts) : OnlyT B ts w (w.setCell ⟨g, i, none⟩ u) :=
  ⟨rfl, rfl, rfl, by simp [World.setCell], fun k _ hn => Below.heap_setCell w _ u k (fun e => by
    subst e
    rcases hn with hn | hn
    · exact absurd hn (by simp; omega)
    · exact hn t ht h)⟩
set_option maxHeartbeats 4000000 in
theorem rSeen_anyT (k : Nat) (h : RF w B M n v c st mo) (ho : Ones n c) (hk : k < c.length) (hs : 1 ≤ st) (hsum : c.sum ≤ 65536 - st) (hmo : (n : Int) ≤ mo) (h1 : 1 ≤ n) (h60 : n ≤ 4096) (hst : st ≤ 1024) (hBw : B ≤ w.heap.size) :
    Calls Tryz.prog 35 #[.pointer (some ⟨M, 0, none⟩), .int .i64 (k : Int)] w fun e w' => (∃ u, e = .returned u) ∧ (∃ r v', Shrunk mo (c.set k (c[k]'hk + st)) r ∧ RF w' B M n v' r st mo) ∧ OnlyT B rfT w w' := by
  obtain ⟨A, m, rfl, -, -, hform⟩ := own_form h.own
  obtain ⟨g, rfl, hgB, hgl⟩ : ∃ g, A = some ⟨g, 0, none⟩ ∧ B ≤ g ∧ g < w.heap.size := by
    rcases hform with h | h
    · omega
    · exact h
  have hkn : k < n := by rw [← h.len]; exact hk
  have c0 := h.mb.cell 0
  have c1 := h.mb.cell 1
  simp only [List.getElem?_cons_zero, List.getElem?_cons_succ] at c0 c1
  have hcell : w.cell? ⟨g, k, none⟩ = some (.int .i64 (c[k]'hk)) := by
    rw [h.own.cellAt k (by omega), zvs_get, List.getElem?_eq_getElem hk]; rfl
  have hfr := h.own.frozenAt k
  have hxs := le_sum12 (fun x hx => Int.le_trans (by decide) (ho.2 x hx)) hk
  have hx0 := ho.2 _ (List.getElem_mem hk)
  have hset := h.own.stored k (.int .i64 (c[k]'hk + st))
  rw [zvs_set] at hset
  have hneg : M ≠ g := fun e => own_ne h.mb h.own (by decide) g rfl e.symm
  have hsm := set_sum c k hk st
  have HO := Lib.hid (ho.set hk (d := st) (by omega))
  obtain ⟨c1', hc1⟩ : ∃ c1', c1' = c.set k (c[k]'hk + st) := ⟨_, rfl⟩
  obtain ⟨x, hx⟩ : ∃ x, x = c[k]'hk := ⟨_, rfl⟩
  rw [← hc1] at hset HO hsm ⊢
  rw [← hx] at hset hcell hxs hx0
  have hb1 : OnlyT B rfT w (w.setCell ⟨g, k, none⟩ (.int .i64 (x + st))) := OnlyT.set_of (own_type h.own g rfl).2 hgB _ (by simp [rfT])
  have hrf1 : RF (w.setCell ⟨g, k, none⟩ (.int .i64 (x + st))) B M n (.slice (some ⟨g, 0, none⟩) n m) c1' st mo := ⟨h.mb.setOther _ _ hneg, hset.1, HO.out.1, h.lo⟩
  have HRF := Lib.hid hrf1
  have HB := Lib.hid hb1
  have HSM := Lib.hid (show c1'.sum ≤ 65536 by omega)
  have hkni : (k : Int) < (n : Int) := by omega
  have hk60 : k < 4096 := by omega
  have hxx : x ≤ 65536 := by omega
  have HLO := Lib.hid h.lo
  clear h ho hsm hset hb1 hrf1 hc1 hx hsum hk hkn hform hxs
  go_enter Tryz.func35, Tryz.ntmps35
  go_wp2
  go_region
  go_wp2
  clear c0 c1 hcell hfr
  go_loopg [] (c1'.sum.toNat) (fun gg wr => ∃ (cur : List Int) (v' : Value), RF wr B M n v' cur st mo ∧ Ones n cur ∧ (∀ r, Shrunk mo cur r → Shrunk mo c1' r) ∧ OnlyT B rfT w wr ∧ B ≤ wr.heap.size ∧ cur.sum ≤ 65536 ∧ cur.sum.toNat = gg)
  case atStart => exact ⟨c1', _, HRF.out.same rfl, HO.out, fun _ h => h, HB.out.drew, by simp [World.setCell]; omega, HSM.out, rfl⟩
  case round =>
    clear HRF HB
    obtain ⟨cur, v', hf, hon, hsh, hb, hBr, hcs, hg⟩ := hrel
    obtain ⟨A', m', rfl, -, -, -⟩ := own_form hf.own
    have hnn : ∀ y ∈ cur, 0 ≤ y := fun y hy => Int.le_trans (by decide) (hon.2 y hy)
    have c0 := hf.mb.cell 0
    have c2 := hf.mb.cell 2
    simp only [List.getElem?_cons_zero, List.getElem?_cons_succ] at c0 c2
    have k2 := cell_regrown c2
    have CT := Lib.hid (fun d os => Calls.regrown_of (rTotal_any (hf.grow (below_regrown wr d os)) hnn (Int.le_trans hcs (by decide)) h60))
    have HF := Lib.hid hf
    have HON := Lib.hid hon
    have HSH := Lib.hid hsh
    have HB := Lib.hid hb
    have HG := Lib.hid hg
    have HCS := Lib.hid hcs
    obtain ⟨tot, htot⟩ : ∃ t, t = cur.sum := ⟨_, rfl⟩
    rw [← htot] at CT
    have HTOT := Lib.hid htot
    have HNN := Lib.hid hnn
    clear hf hon hsh hb hg htot hcs hnn c0 c2
    by_cases hlt : mo < tot
    · have HQ : Hid (decide (mo < tot) = true) := decide_eq_true hlt
      go_wp2
      have hq := HQ.out
      refine wp_region_quiet_below (by kernel_rfl) (by kernel_rfl) ?_
      repeat (go_big_quiet_step ((go_at_call 63; exact CT.out _ _)))
      refine wpQuiet_nil ?_
      intro _ hw'
      obtain ⟨⟨dq, osq⟩, hw''⟩ := hw'
      subst hw''
      obtain ⟨w2, hw2⟩ : ∃ w2, w2 = grow (redrawn wr dq) osq := ⟨_, rfl⟩
      have hb2 := below_regrown wr dq osq
      simp only at hb2 ⊢
      rw [← hw2] at hb2 ⊢
      have HF2 := Lib.hid (HF.out.grow hb2)
      have HB2 := Lib.hid (HB.out.trans (OnlyT.of_below hb2))
      have hBr2 : B ≤ w2.heap.size := Nat.le_trans hBr hb2.size
      have d0 := HF2.out.mb.cell 0
      simp only [List.getElem?_cons_zero] at d0
      have CH := Lib.hid (rHalve_any (m := m') (Rd.of_own HF2.out.own) (Nat.le_refl _) HF2.out.len (fun y hy => ⟨HNN.out y hy, by
        obtain ⟨i, hi, rfl⟩ := List.getElem_of_mem hy
        exact Int.le_trans (le_sum12 HNN.out hi) (Int.le_trans HCS.out (by decide))⟩) (by omega))
      clear hb2 hw2 k2 hq
      go_wp2_with fail
      refine CH.out.mono ?_
      rintro e w3 ⟨v3, rfl, hown3, hb3⟩
      obtain ⟨A3, m3, rfl, -, -, -⟩ := own_form hown3
      have hmb3 := HF2.out.mb.grow hb3
      have d0 := hmb3.cell 0
      have d1 := hmb3.frozen 0
      simp only [List.getElem?_cons_zero] at d0
      have hset := hmb3.set_ 0 (.slice A3 n m3)
      simp only [List.set_cons_zero] at hset
      have hown4 := hown3.kept (grownBy_setCell' w3 M (.slice A3 n m3)) (.inr (fun e => own_ne hmb3 hown3 (by decide) _ e rfl))
      have hb4 := (HB2.out.trans (OnlyT.of_below hb3)).trans (OnlyT.set_ (i := 0) hmb3 HLO.out (.slice A3 n m3) (by simp [rfT]))
      have hsz : w3.heap.size ≤ (w3.setCell ⟨M, 0, none⟩ (.slice A3 n m3)).heap.size := by simp [World.setCell]
      have HN : Hid (RF (w3.setCell ⟨M, 0, none⟩ (.slice A3 n m3)) B M n (.slice A3 n m3) (fHalf cur) st mo ∧ OnlyT B rfT w (w3.setCell ⟨M, 0, none⟩ (.slice A3 n m3)) ∧ B ≤ (w3.setCell ⟨M, 0, none⟩ (.slice A3 n m3)).heap.size) :=
        ⟨⟨hset, own_more hown4 hBr2, by rw [fHalf_length]; exact HF2.out.len, HLO.out⟩, hb4, Nat.le_trans hBr2 (Nat.le_trans hb3.size hsz)⟩
      clear hmb3 hset hown4 hb4 hsz hown3 hb3
      go_wp2
      go_roundg ((fHalf cur).sum.toNat)
      case measure =>
        have h1 := HTOT.out
        have h2 := HON.out.1
        have h3 := fHalf_less HON.out.2 (by rw [h2]; omega)
        have h4 := HG.out
        have h5 := sum_nn12 (fHalf_nn HNN.out)
        omega
      case rel => exact ⟨fHalf cur, _, HN.out.1, HON.out.half, fun r hr => HSH.out r (.more cur r (by rw [← HTOT.out]; exact hlt) hr), HN.out.2.1, HN.out.2.2, Int.le_trans (fHalf_sum HNN.out) HCS.out, rfl⟩
    · have HQ : Hid (decide (mo < tot) = false) := decide_eq_false hlt
      go_wp2
      have hq := HQ.out
      refine wp_region_quiet_below (by kernel_rfl) (by kernel_rfl) ?_
      repeat (go_big_quiet_step ((go_at_call 63; exact CT.out _ _)))
      refine wpQuiet_nil ?_
      intro _ hw'
      obtain ⟨⟨dq, osq⟩, hw''⟩ := hw'
      subst hw''
      have HF2 := Lib.hid (HF.out.grow (below_regrown wr dq osq))
      have HB2 := Lib.hid (HB.out.trans (OnlyT.of_below (below_regrown wr dq osq)))
      clear k2 hq
      go_wp2
      go_end0
      exact ⟨⟨_, rfl⟩, ⟨cur, _, HSH.out cur (.stop cur (by rw [← HTOT.out]; omega)), HF2.out⟩, HB2.out⟩
end
end Go.Proofs.YtflcmmeoppdhdaaGreat
namespace Go.Proofs.YtflcmmeoppdhdaaGreat
open Go.RowKit

section
variable {P : Program} {ops : Array Oper} {a0 : Act} {w0 : World} {Q : Exit → Act → World → Prop}
/-- How the world stands meanwhile. -/
def Amid (w0 : World) (base : Nat) (w : World) : Prop := Below base w0 w ∧ w0.heap.size ≤ w.heap.size
def OblH (P : Program) (w0 : World) (base : Nat) (rows : List Row) (outs : List (Nat × Value)) (r : Row) (o : Oper) : Prop :=
  ∀ (ev : Operand → Value) (yi : Nat → Option Bool) (w : World), Amid w0 base w → (∀ c, ev (.const c) = c) → (∀ f, ev (.func f) = .func (.func f) #[] #[]) → OutsSay ev outs → NeedSay rows ev yi w r.need →
    if Region.wanted o yi = true then OpSays P o ev w (fun v w' => r.fact.says v w' ∧ Below w.heap.size w w') else r.fact.says undef w
def OblHAll (P : Program) (w0 : World) (base : Nat) (rows : List Row) (outs : List (Nat × Value)) (ka : Nat) : Nat → List Row → List Oper → Prop
  | k, r :: rs, o :: os => (k ≠ ka → OblH P w0 base rows outs r o) ∧ OblHAll P w0 base rows outs ka (k + 1) rs os
  | _, _, _ => True
theorem OblHAll.cons {P : Program} {w0 : World} {base : Nat} {rows : List Row} {outs : List (Nat × Value)} {ka k : Nat} {r : Row} {rs : List Row} {o : Oper} {os : List Oper} (h : k ≠ ka → OblH P w0 base rows outs r o) (hs : OblHAll P w0 base rows outs ka (k + 1) rs os) : OblHAll P w0 base rows outs ka k (r :: rs) (o :: os) := ⟨h, hs⟩
theorem OblHAll.nil {P : Program} {w0 : World} {base : Nat} {rows : List Row} {outs : List (Nat × Value)} {ka k : Nat} : OblHAll P w0 base rows outs ka k [] [] := trivial
/-- The obligation of the operation that turns the row. -/
def OblKa (P : Program) (w0 : World) (base e size : Nat) (v0 : Value) (n0 : Nat) (xs : List Value) (rows : List Row) (outs : List (Nat × Value)) (r : Row) (o : Oper) : Prop :=
  ∀ (ev : Operand → Value) (yi : Nat → Option Bool) (w : World), Amid w0 base w → w.ownsRow base e size v0 n0 xs → (∀ c, ev (.const c) = c) → (∀ f, ev (.func f) = .func (.func f) #[] #[]) → OutsSay ev outs → NeedSay rows ev yi w r.need →
    if Region.wanted o yi = true then OpSays P o ev w (fun v w' => r.fact.says v w' ∧ w.grownBy w' v0.ownBlock) else r.fact.says undef w
theorem oblAll_of_own {rows : List Row} {outs : List (Nat × Value)} {ka base e size : Nat} {v0 : Value} {n0 : Nat} {xs : List Value} (hout : outsOk ops outs = true) (houts : OutsSay a0.eval outs) (hd : ∀ k, k < ops.size → (rowAt rows k).dst = dstOf ops k)
    (hka : ∀ o, ops[ka]? = some o → OblKa P w0 base e size v0 n0 xs rows outs (rowAt rows ka) o) :
    ∀ (l : List Oper) (rs : List Row) (k : Nat), rs.length = l.length → (∀ i r, rs[i]? = some r → rowAt rows (k + i) = r) → (∀ i o, l[i]? = some o → ops[k + i]? = some o) → OblHAll P w0 base rows outs ka k rs l → (∀ (i : Nat) (o : Oper) (r : Row), l[i]? = some o → rs[i]? = some r → ∀ j ∈ r.need, j ∈ predsOf o ∧ j < ops.size) →
    OblAll P ops a0 (fun k => (rowAt rows k).fact.says) (fun k w => if k = ka then w.ownsRow base e size v0 n0 xs else True) (fun k w w' => if k = ka then w.grownBy w' v0.ownBlock else Below w.heap.size w w') (Amid w0 base) k l
  | [], _, _, _, _, _, _, _ => trivial
  | o :: l, [], _, hl, _, _, _, _ => by simp at hl
  | o :: l, r :: rs, k, hl, hr, ho, h, hp => by
    have hrk := hr 0 r rfl
    have hok := ho 0 o rfl
    rw [Nat.add_zero] at hrk hok
    refine ⟨fun ev yi w hG hE henv => ?_, oblAll_of_own hout houts hd hka l rs (k + 1) (by simpa using hl) (fun i r' hi => by rw [← hr (i + 1) r' (by simpa using hi)]; congr 1; omega) (fun i o' hi => by rw [← ho (i + 1) o' (by simpa using hi)]; congr 1; omega) h.2 fun i o' r' ho' hr' => hp (i + 1) o' r' (by simpa using ho') (by simpa using hr')⟩
    by_cases hk : k = ka
    · subst hk
      simp only [if_true] at hE
      have := hka o hok ev yi w hG hE henv.const henv.func (outs_say henv outs hout houts) (need_say henv hd _ fun j hj => hp 0 o r rfl rfl j (by rw [hrk] at hj; exact hj))
      simp only [if_true]
      exact this
    · have := h.1 hk ev yi w hG henv.const henv.func (outs_say henv outs hout houts) (need_say henv hd _ fun j hj => hp 0 o r rfl rfl j hj)
      simp only [hrk, if_neg hk]
      exact this
/-- THE RULE, where one operation, number ka, turns a row of one's own. -/
theorem wp_region_own {id : Nat} (rows : List Row) (outs : List (Nat × Value)) (ka base e size : Nat) (v0 : Value) (n0 : Nat) (xs : List Value) (hown : w0.ownsRow base e size v0 n0 xs) (hbase : base ≤ w0.heap.size)
    (hst : ∀ j, j ≠ ka → (∀ o', ops[j]? = some o' → ka ∉ predsOf o') → ∀ v w w', Amid w0 base w → w.grownBy w' v0.ownBlock → (rowAt rows j).fact.says v w → (rowAt rows j).fact.says v w')
    (hm : P.follows .mixedOrders = true) (hok : dstsOk ops a0.tmps.size = true) (hac : acyc ops = true) (hrows : rowsOk ops rows = true) (hout : outsOk ops outs = true) (houts : OutsSay a0.eval outs)
    (hobl : OblHAll P w0 base rows outs ka 0 rows ops.toList) (hka : ∀ o, ops[ka]? = some o → OblKa P w0 base e size v0 n0 xs rows outs (rowAt rows ka) o)
    (hend : ∀ (x : Nat → Value) (w : World), Amid w0 base w → (∀ k, k < ops.size → (rowAt rows k).fact.says (x k) w) → Q .normal ⟨layAll ops x 0 ops.toList a0.tmps, a0.defers⟩ w) :
    (Code.region id ops true).wp P Q a0 w0 := by
  simp only [rowsOk, Bool.and_eq_true, beq_iff_eq] at hrows
  have hd : ∀ k, k < ops.size → (rowAt rows k).dst = dstOf ops k := fun k hk => by
    have := List.all_eq_true.1 hrows.2 k (List.mem_range.2 hk)
    simp only [Bool.and_eq_true, beq_iff_eq] at this
    exact this.1
  have hp : ∀ (i : Nat) (o : Oper) (r : Row), ops.toList[i]? = some o → rows[i]? = some r → ∀ j ∈ r.need, j ∈ predsOf o ∧ j < ops.size := by
    intro i o r ho hr j hj
    have ho' : ops[i]? = some o := by simpa using ho
    have hi : i < ops.size := (Array.getElem?_eq_some_iff.1 ho').1
    have h1 := List.all_eq_true.1 hrows.2 i (List.mem_range.2 hi)
    simp only [Bool.and_eq_true] at h1
    have h2 := List.all_eq_true.1 h1.2 j (by rw [rowAt_get rows i r hr]; exact hj)
    simp only [ho', Option.map_some, Option.getD_some] at h2
    have hmem : j ∈ predsOf o := by simpa using h2
    refine ⟨hmem, ?_⟩
    obtain ⟨e, he, rfl⟩ := List.mem_map.1 hmem
    obtain ⟨he1, he2⟩ := List.mem_filter.1 he
    have h := List.all_eq_true.1 hac i (List.mem_range.2 hi)
    have h3 := List.all_eq_true.1 h e (by simpa [ho'] using he1)
    simp only [he2, Bool.not_true, Bool.false_or, decide_eq_true_eq] at h3
    omega
  refine wp_region_mid2 (F := fun k => (rowAt rows k).fact.says) (E := fun k w => if k = ka then w.ownsRow base e size v0 n0 xs else True) (R := fun k w w' => if k = ka then w.grownBy w' v0.ownBlock else Below w.heap.size w w') (G := Amid w0 base) hm hok hac ⟨(Below.refl base w0).drew, Nat.le_refl _⟩ (fun k _ => ?_) ?_ ?_ ?_
    (oblAll_of_own hout houts hd hka _ rows 0 (by simpa using hrows.1) (fun i r hi => by rw [Nat.zero_add]; exact rowAt_get rows i r hi) (fun i o hi => by rw [Nat.zero_add]; simpa using hi) hobl hp) hend
  · by_cases h : k = ka
    · rw [if_pos h]; exact hown
    · rw [if_neg h]; trivial
  · intro j k v w w' hjk hpre hG hR hF
    by_cases h : k = ka
    · rw [if_pos h] at hR; exact hst j (by rw [← h]; exact hjk) (by rw [← h]; exact hpre) v w w' hG hR hF
    · rw [if_neg h] at hR; exact Fact.grow hF hR
  · intro j k w w' hjk hG hR hE
    by_cases hj : j = ka
    · rw [if_pos hj] at hE ⊢
      rw [if_neg (by rw [← hj]; exact fun h => hjk h.symm)] at hR
      exact own_kept hE hR
    · rw [if_neg hj]; trivial
  · intro k w w' hG hR
    by_cases h : k = ka
    · rw [if_pos h] at hR
      exact ⟨hG.1.grown hR (Nat.le_trans hbase hG.2) (own_block hown), Nat.le_trans hG.2 hR.size⟩
    · rw [if_neg h] at hR
      exact ⟨hG.1.trans (hR.mono (Nat.le_trans hbase hG.2)), Nat.le_trans hG.2 hR.size⟩
/-- append onto a row of one's own, as the operation of a region. -/
theorem says_app {o : Oper} {ev : Operand → Value} {w : World} {post : Value → World → Prop} {s x : Operand} {t : TypeId} (hop : o.op = .call { callee := .builtin .append, args := #[s, x], argTypes := #[t, t] })
    (base : Nat) (e : TypeId) (i : TypeInfo) (z : Value) (size bytes : Nat) (ht : P.underlying t = some (.slice e)) (hi : P.info? e = some i) (hz : i.zero = some z)
    (hsize : i.size = size) (hby : i.bytes = bytes) (hzs : z.cells.size = size) (hsz : 0 < size)
    (v : Value) (n : Nat) (xs : List Value) (hs : ev s = v) (hown : w.ownsRow base e size v n xs)
    (B : Nat) (A : Option Addr) (m c : Nat) (news : List Value) (hx : ev x = .slice A m c) (hr : Rd w B A news) (hm : news.length = m * size) (h1 : ∀ u ∈ news, u.oneCell' = true)
    (h63 : n + m ≤ maxLen) (hbytes : (n + m) * bytes ≤ 140737488355328) (hbase : base ≤ w.heap.size)
    (h : ∀ v' w', w'.ownsRow base e size v' (n + m) (xs ++ news) → w.grownBy w' v.ownBlock → post v' w') : OpSays P o ev w post := by
  obtain ⟨v', w', hrun, h2, h3⟩ := run_app (P := P) w base t o.type e i z size bytes ht hi hz hsize hby hzs hsz v n xs hown B A m c news hr hm h1 h63 hbytes hbase
  unfold OpSays execOp
  simp only [hop, resolve, invoke, builtin, Sem.run_bind, Sem.run_pure, Result.andThen_ok, List.map_toArray, List.map_cons, List.map_nil, hs, hx, hrun]
  exact h v' w' h2 h3
end
end Go.Proofs.YtflcmmeoppdhdaaGreat
namespace Go.Proofs.YtflcmmeoppdhdaaGreat
open Go.RowKit Go.Sort

/-- The parts that may be. -/
def partOf (s : S3) : RcPart := ⟨s.kind.toNat, s.i.toNat, s.n.toNat⟩
def partsOf (ss : List S3) : List RcPart := (ss.filter fun s => mayP s.kind s.i s.n).map partOf
theorem partsOf_snoc (ss : List S3) (s : S3) : partsOf (ss ++ [s]) = partsOf ss ++ if mayP s.kind s.i s.n = true then [partOf s] else [] := by
  unfold partsOf
  rw [List.filter_append, List.map_append]
  congr 1
  by_cases h : mayP s.kind s.i s.n = true
  · rw [if_pos h]; simp [h]
  · rw [if_neg h]; simp [h]
theorem partOf_ok {s : S3} (h : mayP s.kind s.i s.n = true) : (partOf s).ok ∧ ((partOf s).low : Int) = s.kind ∧ ((partOf s).size : Int) = s.i ∧ ((partOf s).total : Int) = s.n := by
  obtain ⟨h1, h2, h3, h4⟩ := mayP_yes h
  exact ⟨⟨by simp only [partOf]; omega, by simp only [partOf]; omega, by simp only [partOf]; omega⟩, by simp only [partOf]; omega, by simp only [partOf]; omega, by simp only [partOf]; omega⟩
theorem partsOf_ok (ss : List S3) : ∀ p ∈ partsOf ss, p.ok := fun p hp => by
  obtain ⟨s, hs, rfl⟩ := List.mem_map.1 hp
  exact (partOf_ok (List.mem_filter.1 hs).2).1
theorem partsOf_len (ss : List S3) : (partsOf ss).length ≤ ss.length := by
  unfold partsOf; rw [List.length_map]; exact List.length_filter_le _ _
theorem take_snocS {α : Type} (l : List α) {k : Nat} (h : k < l.length) : l.take (k + 1) = l.take k ++ [l[k]] := by
  rw [List.take_add_one, List.getElem?_eq_getElem h]; rfl
/-- L's four bytes, as the walk says them. -/
theorem be4_vals {L : Nat} (hL : L < 4294967296) : ∃ a b c x y z t : Nat, IntKind.u64.wrap ((L : Int) / 16777216) = (a : Int) ∧ IntKind.u64.wrap ((L : Int) / 65536) = (b : Int) ∧ IntKind.u64.wrap ((L : Int) / 256) = (c : Int) ∧ IntKind.u8.wrap (a : Int) = (x : Int) ∧ IntKind.u8.wrap (b : Int) = (y : Int) ∧ IntKind.u8.wrap (c : Int) = (z : Int) ∧ IntKind.u8.wrap (L : Int) = (t : Int) ∧ be4 L = [x, y, z, t] ∧ x < 256 ∧ y < 256 ∧ z < 256 ∧ t < 256 := by
  refine ⟨L / 16777216, L / 65536, L / 256, L / 16777216, L / 65536 % 256, L / 256 % 256, L % 256, ?_, ?_, ?_, ?_, ?_, ?_, ?_, rfl, by omega, by omega, by omega, by omega⟩
  · rw [IntKind.wrap_u64]; omega
  · rw [IntKind.wrap_u64]; omega
  · rw [IntKind.wrap_u64]; omega
  · rw [IntKind.wrap_u8]; omega
  · rw [IntKind.wrap_u8]; omega
  · rw [IntKind.wrap_u8]; omega
  · rw [IntKind.wrap_u8]; omega
/-- What holds at the head of a round of Lay. -/
def LayRelP (w : World) (G : Nat) (ss : List S3) (v i : Value) (wr : World) : Prop :=
  ∃ (k L R : Nat) (o : List Nat), k ≤ ss.length ∧ i = .int .i64 (k : Int) ∧ Enc (partsOf (ss.take k)) L R o ∧ wr.ownsRow (G + 1) 5 1 v o.length (bvs (u8s o)) ∧ Blk wr G 106 [.int .u64 (L : Int), .int .u64 (R : Int)] ∧ Below w.heap.size w wr
section
variable {w : World} {A : Option Addr} {n m : Nat} {ss : List S3}
set_option maxHeartbeats 2000000 in
set_option maxRecDepth 100000 in
theorem rcLay_any (hr : RdS3 w w.heap.size A ss) (hn : ss.length = n) (hn1 : n ≤ 2000) :
    Calls Tryz.prog 36 #[.slice A n m] w fun e w' => ∃ (v : Value) (L R : Nat) (o : List Nat), Enc (partsOf ss) L R o ∧ e = .returned v ∧ w'.ownsRow w.heap.size 5 1 v (o ++ be4 L).length (bvs (u8s (o ++ be4 L))) ∧ Below w.heap.size w w' := by
  obtain ⟨i0, hi0, hz0, hz1, hz2⟩ := info_parts info_u8r
  obtain ⟨G, hG⟩ : ∃ G, G = w.heap.size := ⟨_, rfl⟩
  obtain ⟨w1, hw1⟩ : ∃ w1, w1 = w.alloc (.cells #[.int .u64 0, .int .u64 4294967295] 106) := ⟨_, rfl⟩
  have hb1 : Below w.heap.size w w1 := by rw [hw1]; exact (Below.refl _ _).alloc (Nat.le_refl _) _
  have hg1 : Blk w1 G 106 [.int .u64 ((0 : Nat) : Int), .int .u64 ((4294967295 : Nat) : Int)] := by rw [hw1, hG]; exact heap_alloc_new w _
  have HREL := Lib.hid (show LayRelP w G ss (.slice none 0 0) (.int .i64 ((0 : Nat) : Int)) w1 from ⟨0, 0, 4294967295, [], Nat.zero_le _, rfl, by simpa [partsOf] using Enc.nil, World.ownsRow_nil _ _ _ _, hg1, hb1⟩)
  have HR := Lib.hid hr
  have HN := Lib.hid hn
  have HW := Lib.hid hw1
  have HG := Lib.hid hG
  have hGs : G + 1 ≤ w1.heap.size := hg1.lt
  have hGw : G + 1 ≤ w1.heap.size ∧ G = w.heap.size := ⟨hGs, hG⟩
  have HGW := Lib.hid hGw
  clear hr hn hw1 hG hb1 hg1 hGs hGw
  go_enter Tryz.func36, Tryz.ntmps36
  go_wp2
  simp only [← HW.out, ← HG.out]
  go_loopw [4, 5] (LayRelP w G ss) (fun _ i _ => n - (intOf i).toNat)
  case atStart => exact HREL.out
  case round =>
    clear HREL
    obtain ⟨k, L, R, o, hk, rfl, henc, hown, hblk, hb⟩ := hrel
    have hins := henc.inside (partsOf_ok _)
    have hbs := hb.size
    obtain ⟨A1, c1, rfl, -, -, -⟩ := own_form hown
    have HE := Lib.hid henc
    have HI := Lib.hid hins
    have HOWN := Lib.hid hown
    have HBL := Lib.hid hblk
    have HB := Lib.hid hb
    have hol : o.length ≤ 14000 := by
      have h1 := hins.2.2.2
      have h2 := partsOf_len (ss.take k)
      rw [List.length_take] at h2
      have := HN.out
      omega
    have hgl : G < wr.heap.size := HBL.out.lt
    clear henc hins hown hblk hb
    by_cases hlt : k < n
    · have hks : k < ss.length := by have := HN.out; omega
      obtain ⟨ab, ao, rfl, hab, hc0, hc1, hc2⟩ := HR.out k ss[k] (List.getElem?_eq_getElem hks)
      have hsn := take_snocS ss hks
      obtain ⟨⟨lo, sz, tot⟩, hs⟩ : ∃ s, s = ss[k]'hks := ⟨_, rfl⟩
      rw [← hs] at hc0 hc1 hc2 hsn
      have hd0 := (HB.out.cell (p := ⟨ab, _, none⟩) hab).trans hc0
      have hd1 := (HB.out.cell (p := ⟨ab, _, none⟩) hab).trans hc1
      have hd2 := (HB.out.cell (p := ⟨ab, _, none⟩) hab).trans hc2
      simp only at hd0 hd1 hd2
      have HC0 := Lib.hid hc0
      have HC1 := Lib.hid hc1
      have HC2 := Lib.hid hc2
      have HSN := Lib.hid hsn
      have hki : (k : Int) < (n : Int) := by omega
      have C1 := Lib.hid (fun W => rcMay_any lo sz tot W)
      clear hc0 hc1 hc2 hsn hs
      cases hmay : mayP lo sz tot with
      | false =>
        rw [hmay] at C1
        have HE2 := Lib.hid (show Enc (partsOf (ss.take (k + 1))) L R o by rw [HSN.out, partsOf_snoc, hmay]; simpa using HE.out)
        clear hmay HE
        go_wp2_with fail
        refine (C1.out _).mono ?_
        rintro _ w2 ⟨rfl, hb2⟩
        have HOWN2 := Lib.hid (own_kept HOWN.out hb2)
        have HBL2 := Lib.hid (HBL.out.grow hb2)
        have HB2 := Lib.hid (HB.out.trans (hb2.mono hbs))
        clear hb2 hd0 hd1 hd2 C1 HOWN HBL HB
        go_wp2
        go_roundw
        case rel => exact ⟨k + 1, L, R, o, by omega, by go_num, HE2.out, HOWN2.out, HBL2.out, HB2.out⟩
        case measure => simp [intOf]; omega
      | true =>
        obtain ⟨hpk, -, -, -⟩ := partOf_ok (s := ⟨lo, sz, tot⟩) hmay
        obtain ⟨o2, L', R', hmv, henc2⟩ := HE.out.more (partsOf_ok _) hpk
        have hy := mayP_yes hmay
        rw [hmay] at C1
        have HE2 := Lib.hid (show Enc (partsOf (ss.take (k + 1))) L' R' (o ++ o2) by rw [HSN.out, partsOf_snoc, hmay, if_pos rfl]; exact henc2)
        obtain ⟨a, rfl⟩ := Int.eq_ofNat_of_zero_le hy.1
        obtain ⟨b, rfl⟩ := Int.eq_ofNat_of_zero_le (show 0 ≤ sz by omega)
        obtain ⟨c, rfl⟩ := Int.eq_ofNat_of_zero_le (show 0 ≤ tot by omega)
        obtain ⟨p1, p2, p3⟩ := hpk
        simp only [partOf, Int.toNat_natCast] at hmv p1 p2 p3
        obtain ⟨n1, n2, n3, n4⟩ := narrow_span HI.out.1 HI.out.2.1 p1 p2 p3
        have hol2 := hmv.few n4
        have C2 := Lib.hid (fun (W : World) (hbl : Blk W G 106 [.int .u64 (L : Int), .int .u64 (R : Int)]) => rcNarrow_any hbl HI.out.1 HI.out.2.1 p1 p2 p3 hmv)
        clear hmay henc2 hmv hy p1 p2 p3 n1 n2 n3 n4 HE HSN
        go_wp2_with fail
        refine (C1.out _).mono ?_
        rintro _ w2 ⟨rfl, hb2⟩
        have hw2 := HB.out.trans (hb2.mono hbs)
        have hd0 := (hw2.cell (p := ⟨ab, _, none⟩) hab).trans HC0.out
        have hd1 := (hw2.cell (p := ⟨ab, _, none⟩) hab).trans HC1.out
        have hd2 := (hw2.cell (p := ⟨ab, _, none⟩) hab).trans HC2.out
        have HOWN2 := Lib.hid (own_kept HOWN.out hb2)
        have HBL2 := Lib.hid (HBL.out.grow hb2)
        have HB2 := Lib.hid hw2
        have hs2 : G + 1 ≤ w2.heap.size := Nat.le_trans hgl hb2.size
        clear hb2 hw2 C1 HOWN HBL HB
        go_wp2_with fail
        refine (C2.out _ HBL2.out).mono ?_
        rintro _ w3 ⟨v3, rfl, hown3, hbl3, ht3⟩
        obtain ⟨A3, c3, rfl, -, -, -⟩ := own_form hown3
        have HOWN3 := Lib.hid (own_turns HOWN2.out ht3 (Nat.lt_succ_self _) (Nat.lt_succ_self _))
        have HRD3 := Lib.hid (Rd.of_own hown3)
        have HBL3 := Lib.hid hbl3
        have HB3 := Lib.hid (HB2.out.trans (ht3.below (B := w.heap.size) (by rw [HGW.out.2]; exact Nat.le_refl _) (by rw [HGW.out.2]; exact Nat.le_refl _) (by have := HGW.out.2; omega)))
        have hs3 : G + 1 ≤ w3.heap.size := Nat.le_trans hs2 ht3.size
        have HZ := Lib.hid (show (bvs (u8s o2)).length = o2.length * 1 by rw [bvs_length, u8s_length, Nat.mul_one])
        have hA1 : o.length + o2.length ≤ maxLen := by simp only [maxLen]; omega
        have hA2 : (o.length + o2.length) * 1 ≤ 140737488355328 := by omega
        clear hown3 hbl3 ht3 C2 HOWN2 HBL2 HB2 hd0 hd1 hd2
        go_wp2_with ((with_reducible show wpList _ _ _ (({ dst := some 26, op := _, type := _, pos := _, after := _, guard := _ } : Oper) :: _) _ _); go_must (refine wpList_app rfl (.tmp 19) (.tmp 25) 22 rfl (G + 1) 5 i0 (.int .u8 0) 1 1 Tryz.underlying22 hi0 hz0 hz1 hz2 rfl (by decide) _ _ _ rfl HOWN3.out w3.heap.size A3 o2.length c3 (bvs (u8s o2)) rfl HRD3.out HZ.out (bvs_one _) hA1 hA2 hs3 ?_; intro v4 w4 hown4 hg4; have hrow := own_block HOWN3.out; have hbl4 := blk_row HBL3.out hg4 (fun r e => by have := hrow r e; omega); have hb4 := HB3.out.grown hg4 HB3.out.size (fun r e => by have := hrow r e; have := HGW.out.2; omega); clear hg4 hrow))
        rw [← bvs_append, ← u8s_append] at hown4
        go_roundw
        case rel => exact ⟨k + 1, L', R', o ++ o2, by omega, by go_num, HE2.out, by rw [List.length_append]; exact hown4, hbl4, hb4⟩
        case measure => simp [intOf]; omega
    · obtain rfl : k = n := by have := HN.out; omega
      have HE2 := Lib.hid (show Enc (partsOf ss) L R o by have h := HE.out; rw [List.take_of_length_le (by have := HN.out; omega)] at h; exact h)
      obtain ⟨a, b, c, x, y, z, t, e1, e2, e3, e4, e5, e6, e7, e8, f1, f2, f3, f4⟩ := be4_vals (L := L) HI.out.1.1
      have hc0 := HBL.out.cell 0
      simp only [List.getElem?_cons_zero] at hc0
      clear HE
      go_wp2
      have hrow := own_block HOWN.out
      refine wp_region_own [⟨27, [], .is (.slice A1 o.length c1)⟩,
    ⟨28, [], .is (.pointer (some ⟨G, 0, none⟩))⟩,
    ⟨29, [1], .is (.pointer (some ⟨G, 0, none⟩))⟩,
    ⟨30, [2], .is (.pointer (some ⟨G, 0, none⟩))⟩,
    ⟨31, [3], .is (.int .u64 (L : Int))⟩,
    ⟨32, [4], .is (.int .u64 (a : Int))⟩,
    ⟨33, [5], .is (.int .u8 (x : Int))⟩,
    ⟨34, [], .is (.pointer (some ⟨G, 0, none⟩))⟩,
    ⟨35, [7], .is (.pointer (some ⟨G, 0, none⟩))⟩,
    ⟨36, [8], .is (.pointer (some ⟨G, 0, none⟩))⟩,
    ⟨37, [9], .is (.int .u64 (L : Int))⟩,
    ⟨38, [10], .is (.int .u64 (b : Int))⟩,
    ⟨39, [11], .is (.int .u8 (y : Int))⟩,
    ⟨40, [], .is (.pointer (some ⟨G, 0, none⟩))⟩,
    ⟨41, [13], .is (.pointer (some ⟨G, 0, none⟩))⟩,
    ⟨42, [14], .is (.pointer (some ⟨G, 0, none⟩))⟩,
    ⟨43, [15], .is (.int .u64 (L : Int))⟩,
    ⟨44, [16], .is (.int .u64 (c : Int))⟩,
    ⟨45, [17], .is (.int .u8 (z : Int))⟩,
    ⟨46, [], .is (.pointer (some ⟨G, 0, none⟩))⟩,
    ⟨47, [19], .is (.pointer (some ⟨G, 0, none⟩))⟩,
    ⟨48, [20], .is (.pointer (some ⟨G, 0, none⟩))⟩,
    ⟨49, [21], .is (.int .u64 (L : Int))⟩,
    ⟨50, [22], .is (.int .u8 (t : Int))⟩,
    ⟨51, [6, 12, 18, 23], .such (NewFour wr.heap.size [x, y, z, t]) (NewFour.grow wr.heap.size [x, y, z, t])⟩,
    ⟨52, [0, 24], .such (OwnB (G + 1) (o ++ [x, y, z, t])) (OwnB.grow (G + 1) (o ++ [x, y, z, t]))⟩,
    ⟨2, [25], .such (OwnB (G + 1) (o ++ [x, y, z, t])) (OwnB.grow (G + 1) (o ++ [x, y, z, t]))⟩]
        [(4, .slice A1 o.length c1), (3, .pointer (some ⟨G, 0, none⟩))]
        25 (G + 1) 5 1 (.slice A1 o.length c1) o.length (bvs (u8s o)) HOWN.out HBL.out.lt ?_ (by kernel_rfl) (by kernel_rfl) (by kernel_rfl) (by kernel_rfl) (by kernel_rfl) ⟨rfl, rfl, trivial⟩ ?_ ?_ ?_
      · intro j hj hpre v w' w'' hG hg hF
        iterate 24 (rcases j with _ | j; · exact hF)
        rcases j with _ | j
        · obtain ⟨g, h1, h2, h3⟩ := hF
          exact ⟨g, h1, h2, blk_row h3 hg (fun r e => by have h4 := (HOWN.out.lt r e).2; omega)⟩
        rcases j with _ | j
        · exact absurd rfl hj
        rcases j with _ | j
        · exact absurd (by decide) (hpre _ rfl)
        · exact hF
      · repeat' (first | exact OblHAll.nil | refine OblHAll.cons ?_ ?_)
        all_goals (first | exact (fun h => absurd rfl h) | (intro _ ev yi w1 hB hc hf ho hn; simp only [OutsSay, NeedSay, rowAt, Fact.says, and_true] at ho hn))
        all_goals (try ((simp [OpSays, execOp, Region.wanted, Fact.says, go_sem, ho, hn, hc, Below.refl, e1, e2, e3, e4, e5, e6, e7]; done)))
        · rw [if_pos (by simp [Region.wanted])]
          have hcc := (HBL.out.below hB.1 (Nat.lt_succ_self _)).cell 0
          simp only [List.getElem?_cons_zero] at hcc
          simp [OpSays, execOp, go_sem, hn, hcc, Fact.says, Below.refl]
        · rw [if_pos (by simp [Region.wanted])]
          have hcc := (HBL.out.below hB.1 (Nat.lt_succ_self _)).cell 0
          simp only [List.getElem?_cons_zero] at hcc
          simp [OpSays, execOp, go_sem, hn, hcc, Fact.says, Below.refl]
        · rw [if_pos (by simp [Region.wanted])]
          have hcc := (HBL.out.below hB.1 (Nat.lt_succ_self _)).cell 0
          simp only [List.getElem?_cons_zero] at hcc
          simp [OpSays, execOp, go_sem, hn, hcc, Fact.says, Below.refl]
        · rw [if_pos (by simp [Region.wanted])]
          have hcc := (HBL.out.below hB.1 (Nat.lt_succ_self _)).cell 0
          simp only [List.getElem?_cons_zero] at hcc
          simp [OpSays, execOp, go_sem, hn, hcc, Fact.says, Below.refl]
        · rw [if_pos (by simp [Region.wanted])]
          simp [OpSays, execOp, go_sem, hn]
          exact ⟨⟨w1.heap.size, rfl, hB.2, heap_alloc_new w1 _⟩, (Below.refl _ _).alloc (Nat.le_refl _) _⟩
      · intro o1 ho1
        obtain rfl : _ = o1 := Option.some.inj ho1
        intro ev yi w1 hB how hc hf ho hn
        simp only [OutsSay, NeedSay, rowAt, Fact.says, and_true] at ho hn
        rw [if_pos (by simp [Region.wanted])]
        obtain ⟨h27, -, ⟨g5, h51, hg5, hb5⟩, -⟩ := hn
        refine says_app rfl (G + 1) 5 i0 (.int .u8 0) 1 1 Tryz.underlying22 hi0 hz0 hz1 hz2 rfl (by decide) _ _ _ h27 how w1.heap.size (some ⟨g5, 0, none⟩) 4 4 _ h51 (Rd.of_blk hb5) rfl (by intro u hu; simp at hu; rcases hu with rfl | rfl | rfl | rfl <;> rfl) (by simp only [maxLen]; omega) (by omega) (Nat.le_trans hgl hB.2) ?_
        intro v' w' h1 h2
        refine ⟨?_, h2⟩
        show w'.ownsRow (G + 1) 5 1 v' (o ++ [x, y, z, t]).length (bvs (u8s (o ++ [x, y, z, t])))
        rw [show (o ++ [x, y, z, t]).length = o.length + 4 by simp, u8s_four o f1 f2 f3 f4]
        exact h1
      · intro X w4 hb4 hx
        have h2 : OwnB (G + 1) (o ++ [x, y, z, t]) (X 26) w4 := hx 26 (by decide)
        clear hx
        have H2 := Lib.hid h2
        have H8 := Lib.hid e8
        have H4 := Lib.hid hb4
        clear h2 hb4 e1 e2 e3 e4 e5 e6 e7 e8 hc0 hrow
        simp only [layAll, List.setIfInBounds_toArray, List.set_cons_succ, List.set_cons_zero, Nat.zero_add, Nat.reduceAdd]
        go_wp2
        go_ret
        exact ⟨X 26, L, R, o, HE2.out, rfl, by rw [H8.out]; exact own_more H2.out (by have := HGW.out.2; omega), HB.out.trans (H4.out.1.mono (by have := HGW.out.2; omega))⟩
end
end Go.Proofs.YtflcmmeoppdhdaaGreat
