/- Layer 13's reference: counts as a plain row. -/
import Derived.Test.YtgbibmgedmbboaaGreatFreqNew
import Derived.StillTailTactics
namespace Go.Proofs.YtgbibmgedmbboaaGreat
open Go.RowKit Go.Sort

/-- At M lie plain counts, whose row lies from block B on. -/
structure RF (w : World) (B M n : Nat) (v : Value) (c : List Int) (st mo : Int) : Prop where
  mb : Blk w M 94 [v, .int .i64 st, .int .i64 mo]
  own : w.ownsRow B 3 1 v n (zvs c)
  len : c.length = n
  lo : B ≤ M
section
variable {w w' : World} {B M n : Nat} {v : Value} {c : List Int} {st mo : Int}
theorem RF.grow (h : RF w B M n v c st mo) (hb : Below w.heap.size w w') : RF w' B M n v c st mo := ⟨h.mb.grow hb, own_kept h.own hb, h.len, h.lo⟩
theorem RF.same (h : RF w B M n v c st mo) (e : w'.heap = w.heap) : RF w' B M n v c st mo :=
  ⟨h.mb.same e, ⟨h.own.1, by have := h.own.2; rw [← e] at this; exact this⟩, h.len, h.lo⟩
theorem RF.turns {T S : Nat} (h : RF w B M n v c st mo) (hu : TurnsB T S w w') (hT : T < B) (hS : S < B) : RF w' B M n v c st mo :=
  ⟨hu.blk h.mb (by have := h.lo; omega) (by have := h.lo; omega), own_turns h.own hu hT hS, h.len, h.lo⟩
set_option maxRecDepth 100000 in
theorem rTotal_any {A : Option Addr} {m : Nat} (h : RF w B M n (.slice A n m) c st mo) (hc : ∀ x ∈ c, 0 ≤ x) (hs : c.sum ≤ 1000000000) (h60 : n ≤ 4096) :
    Calls Tryz.prog 52 #[.pointer (some ⟨M, 0, none⟩)] w fun e w' => e = .returned (.int .i64 c.sum) ∧ Below w.heap.size w w' := by
  have c0 := h.mb.cell 0
  simp only [List.getElem?_cons_zero] at c0
  have cq := fun (W' : World) (e : W'.heap = w.heap) => rBelow_any (m := m) (n : Int) (rd_same (Rd.of_own h.own) e) h.len hc hs (by omega) n (by omega)
  rw [fPre_most c (by rw [h.len]; exact Nat.le_refl _)] at cq
  have CQ := Lib.hid cq
  clear h cq
  go_enter Tryz.func52, Tryz.ntmps52
  go_wp2
  go_big_quiet ((go_at_call 51; exact quietOf CQ.out))
  go_wp2
  go_ret
  exact ⟨rfl, below_drawn w nq⟩

set_option maxRecDepth 100000 in
set_option maxHeartbeats 2000000 in
theorem rNew_any (n : Nat) (st mo : Int) (w : World) (h60 : n ≤ 4096) :
    Calls Tryz.prog 22 #[.int .i64 (n : Int), .int .i64 st, .int .i64 mo] w fun e w' => ∃ M, e = .returned (.pointer (some ⟨M, 0, none⟩)) ∧ (∃ v, RF w' w.heap.size M n v (List.replicate n 1) st mo) ∧ Below w.heap.size w w' := by
  obtain ⟨i0, hi, hz0, hz1, hz2⟩ := info_parts info_int12
  have hw1 : ∃ w1, w1 = w.alloc (.cells #[.slice none 0 0, .int .i64 st, .int .i64 mo] 94) := ⟨_, rfl⟩
  obtain ⟨w1, hw1⟩ := hw1
  have hrf : RF w1 w.heap.size w.heap.size 0 (.slice none 0 0) [] st mo := ⟨by rw [hw1]; exact heap_alloc_new w _, World.ownsRow_nil _ _ _ _, rfl, Nat.le_refl _⟩
  have HRF := Lib.hid hrf
  have HB := Lib.hid (show Below w.heap.size w w1 by rw [hw1]; exact (Below.refl _ _).alloc (Nat.le_refl _) _)
  have HW1 := Lib.hid hw1
  clear hrf hw1
  go_enter Tryz.func22, Tryz.ntmps22
  go_wp2
  rw [← HW1.out]
  go_loopw [8] (fun ii wr => ∃ (k : Nat) (v : Value), k ≤ n ∧ ii = .int .i64 (k : Int) ∧ RF wr w.heap.size w.heap.size k v (List.replicate k 1) st mo ∧ Below w.heap.size w wr) (fun ii _ => n - (intOf ii).toNat)
  case atStart => exact ⟨0, _, Nat.zero_le _, rfl, HRF.out, HB.out⟩
  case round =>
    clear HRF HB HW1
    obtain ⟨k, v, hk, rfl, hf, hb⟩ := hrel
    obtain ⟨Av, cv, rfl, -, -, -⟩ := own_form hf.own
    have HF := Lib.hid hf
    have HB := Lib.hid hb
    have c0 := hf.mb.cell 0
    simp only [List.getElem?_cons_zero] at c0
    have hbs := hb.size
    clear hf hb
    by_cases hlt : k < n
    · have hki : (k : Int) < (n : Int) := by omega
      go_wp2_with (at_builtin; go_must (refine wpList_app rfl (.tmp 22) (.tmp 23) 72 rfl w.heap.size 3 i0 (.int .i64 0) 1 8 Tryz.underlying72 hi hz0 hz1 hz2 rfl (by decide) _ _ _ rfl (HF.out.own.alloc _) _ _ 1 1 _ rfl (Rd.new _ _ _) rfl (by intro u hu; simp at hu; subst hu; rfl) (by simp only [maxLen]; omega) (by omega) (by simp; omega) ?_; intro v1 w2 hown1 hg1; have hmb := blk_row (HF.out.mb.alloc_ _) hg1 (own_ne HF.out.mb HF.out.own (by decide)); have HG := Lib.hid hg1; have HO1 := Lib.hid hown1; have HMB := Lib.hid hmb; have d0 := hmb.cell 0; have d1 := hmb.frozen 0; simp only [List.getElem?_cons_zero] at d0; obtain ⟨A1, c1, rfl, -, -, -⟩ := own_form hown1; clear hown1 hg1 hmb))
      have hset := HMB.out.set_ 0 (.slice A1 (k + 1) c1)
      simp only [List.set_cons_zero] at hset
      have hown2 := HO1.out.kept (grownBy_setCell' w2 w.heap.size (.slice A1 (k + 1) c1)) (.inr (fun e => own_ne HMB.out HO1.out (by decide) _ e rfl))
      have hb2 := ((HB.out.alloc hbs _).grown HG.out (by simp; omega) (own_block HF.out.own)).setCell (p := ⟨w.heap.size, 0, none⟩) (Nat.le_refl _) (.slice A1 (k + 1) c1)
      have HN : Hid (RF (w2.setCell ⟨w.heap.size, 0, none⟩ (.slice A1 (k + 1) c1)) w.heap.size w.heap.size (k + 1) (.slice A1 (k + 1) c1) (List.replicate (k + 1) 1) st mo ∧ Below w.heap.size w (w2.setCell ⟨w.heap.size, 0, none⟩ (.slice A1 (k + 1) c1))) := ⟨⟨hset, by rw [List.replicate_succ']; simpa [zvs] using hown2, by simp, Nat.le_refl _⟩, hb2⟩
      clear hset hown2 hb2
      go_roundw
      case rel => exact ⟨k + 1, _, by omega, by go_num, HN.out.1, HN.out.2⟩
      case measure => simp [intOf]; omega
    · obtain rfl : k = n := by omega
      go_wp2
      go_ret
      exact ⟨w.heap.size, rfl, ⟨_, HF.out⟩, HB.out⟩

set_option maxRecDepth 100000 in
/-- The types of the blocks that plain counts turn. -/
def rfT : List TypeId := [94, 3]
theorem OnlyT.set_of {w : World} {B : Nat} {ts : List TypeId} {g i : Nat} {t : TypeId} (h : OfType w g t) (hg : B ≤ g) (u : Value) (ht : t ∈ ts) : OnlyT B ts w (w.setCell ⟨g, i, none⟩ u) :=
  ⟨rfl, rfl, rfl, by simp [World.setCell], fun k _ hn => Below.heap_setCell w _ u k (fun e => by
    subst e
    rcases hn with hn | hn
    · exact absurd hn (by simp; omega)
    · exact hn t ht h)⟩
set_option maxHeartbeats 4000000 in
theorem rSeen_anyT (k : Nat) (h : RF w B M n v c st mo) (ho : Ones n c) (hk : k < c.length) (hs : 1 ≤ st) (hsum : c.sum ≤ 65536 - st) (hmo : (n : Int) ≤ mo) (h1 : 1 ≤ n) (h60 : n ≤ 4096) (hst : st ≤ 1024) (hBw : B ≤ w.heap.size) :
    Calls Tryz.prog 24 #[.pointer (some ⟨M, 0, none⟩), .int .i64 (k : Int)] w fun e w' => (∃ u, e = .returned u) ∧ (∃ r v', Shrunk mo (c.set k (c[k]'hk + st)) r ∧ RF w' B M n v' r st mo) ∧ OnlyT B rfT w w' := by
  obtain ⟨A, m, rfl, -, -, hform⟩ := own_form h.own
  obtain ⟨g, rfl, hgB, hgl⟩ : ∃ g, A = some ⟨g, 0, none⟩ ∧ B ≤ g ∧ g < w.heap.size := by
    rcases hform with h | h
    · omega
    · exact h
  have hkn : k < n := by rw [← h.len]; exact hk
  have c0 := h.mb.cell 0
  have c1 := h.mb.cell 1
  simp only [List.getElem?_cons_zero, List.getElem?_cons_succ] at c0 c1
  have hcell : w.cell? ⟨g, k, none⟩ = some (.int .i64 (c[k]'hk)) := by
    rw [h.own.cellAt k (by omega), zvs_get, List.getElem?_eq_getElem hk]; rfl
  have hfr := h.own.frozenAt k
  have hxs := le_sum12 (fun x hx => Int.le_trans (by decide) (ho.2 x hx)) hk
  have hx0 := ho.2 _ (List.getElem_mem hk)
  have hset := h.own.stored k (.int .i64 (c[k]'hk + st))
  rw [zvs_set] at hset
  have hneg : M ≠ g := fun e => own_ne h.mb h.own (by decide) g rfl e.symm
  have hsm := set_sum c k hk st
  have HO := Lib.hid (ho.set hk (d := st) (by omega))
  obtain ⟨c1', hc1⟩ : ∃ c1', c1' = c.set k (c[k]'hk + st) := ⟨_, rfl⟩
  obtain ⟨x, hx⟩ : ∃ x, x = c[k]'hk := ⟨_, rfl⟩
  rw [← hc1] at hset HO hsm ⊢
  rw [← hx] at hset hcell hxs hx0
  have hb1 : OnlyT B rfT w (w.setCell ⟨g, k, none⟩ (.int .i64 (x + st))) := OnlyT.set_of (own_type h.own g rfl).2 hgB _ (by simp [rfT])
  have hrf1 : RF (w.setCell ⟨g, k, none⟩ (.int .i64 (x + st))) B M n (.slice (some ⟨g, 0, none⟩) n m) c1' st mo := ⟨h.mb.setOther _ _ hneg, hset.1, HO.out.1, h.lo⟩
  have HRF := Lib.hid hrf1
  have HB := Lib.hid hb1
  have HSM := Lib.hid (show c1'.sum ≤ 65536 by omega)
  have hkni : (k : Int) < (n : Int) := by omega
  have hk60 : k < 4096 := by omega
  have hxx : x ≤ 65536 := by omega
  have HLO := Lib.hid h.lo
  clear h ho hsm hset hb1 hrf1 hc1 hx hsum hk hkn hform hxs
  go_enter Tryz.func24, Tryz.ntmps24
  go_wp2
  go_region
  go_wp2
  clear c0 c1 hcell hfr
  go_loopg [] (c1'.sum.toNat) (fun gg wr => ∃ (cur : List Int) (v' : Value), RF wr B M n v' cur st mo ∧ Ones n cur ∧ (∀ r, Shrunk mo cur r → Shrunk mo c1' r) ∧ OnlyT B rfT w wr ∧ B ≤ wr.heap.size ∧ cur.sum ≤ 65536 ∧ cur.sum.toNat = gg)
  case atStart => exact ⟨c1', _, HRF.out.same rfl, HO.out, fun _ h => h, HB.out.drew, by simp [World.setCell]; omega, HSM.out, rfl⟩
  case round =>
    clear HRF HB
    obtain ⟨cur, v', hf, hon, hsh, hb, hBr, hcs, hg⟩ := hrel
    obtain ⟨A', m', rfl, -, -, -⟩ := own_form hf.own
    have hnn : ∀ y ∈ cur, 0 ≤ y := fun y hy => Int.le_trans (by decide) (hon.2 y hy)
    have c0 := hf.mb.cell 0
    have c2 := hf.mb.cell 2
    simp only [List.getElem?_cons_zero, List.getElem?_cons_succ] at c0 c2
    have k2 := cell_regrown c2
    have CT := Lib.hid (fun d os => Calls.regrown_of (rTotal_any (hf.grow (below_regrown wr d os)) hnn (Int.le_trans hcs (by decide)) h60))
    have HF := Lib.hid hf
    have HON := Lib.hid hon
    have HSH := Lib.hid hsh
    have HB := Lib.hid hb
    have HG := Lib.hid hg
    have HCS := Lib.hid hcs
    obtain ⟨tot, htot⟩ : ∃ t, t = cur.sum := ⟨_, rfl⟩
    rw [← htot] at CT
    have HTOT := Lib.hid htot
    have HNN := Lib.hid hnn
    clear hf hon hsh hb hg htot hcs hnn c0 c2
    by_cases hlt : mo < tot
    · have HQ : Hid (decide (mo < tot) = true) := decide_eq_true hlt
      go_wp2
      have hq := HQ.out
      refine wp_region_quiet_below (by kernel_rfl) (by kernel_rfl) ?_
      repeat (go_big_quiet_step ((go_at_call 52; exact CT.out _ _)))
      refine wpQuiet_nil ?_
      intro _ hw'
      obtain ⟨⟨dq, osq⟩, hw''⟩ := hw'
      subst hw''
      obtain ⟨w2, hw2⟩ : ∃ w2, w2 = grow (redrawn wr dq) osq := ⟨_, rfl⟩
      have hb2 := below_regrown wr dq osq
      simp only at hb2 ⊢
      rw [← hw2] at hb2 ⊢
      have HF2 := Lib.hid (HF.out.grow hb2)
      have HB2 := Lib.hid (HB.out.trans (OnlyT.of_below hb2))
      have hBr2 : B ≤ w2.heap.size := Nat.le_trans hBr hb2.size
      have d0 := HF2.out.mb.cell 0
      simp only [List.getElem?_cons_zero] at d0
      have CH := Lib.hid (rHalve_any (m := m') (Rd.of_own HF2.out.own) (Nat.le_refl _) HF2.out.len (fun y hy => ⟨HNN.out y hy, by
        obtain ⟨i, hi, rfl⟩ := List.getElem_of_mem hy
        exact Int.le_trans (le_sum12 HNN.out hi) (Int.le_trans HCS.out (by decide))⟩) (by omega))
      clear hb2 hw2 k2 hq
      go_wp2_with fail
      refine CH.out.mono ?_
      rintro e w3 ⟨v3, rfl, hown3, hb3⟩
      obtain ⟨A3, m3, rfl, -, -, -⟩ := own_form hown3
      have hmb3 := HF2.out.mb.grow hb3
      have d0 := hmb3.cell 0
      have d1 := hmb3.frozen 0
      simp only [List.getElem?_cons_zero] at d0
      have hset := hmb3.set_ 0 (.slice A3 n m3)
      simp only [List.set_cons_zero] at hset
      have hown4 := hown3.kept (grownBy_setCell' w3 M (.slice A3 n m3)) (.inr (fun e => own_ne hmb3 hown3 (by decide) _ e rfl))
      have hb4 := (HB2.out.trans (OnlyT.of_below hb3)).trans (OnlyT.set_ (i := 0) hmb3 HLO.out (.slice A3 n m3) (by simp [rfT]))
      have hsz : w3.heap.size ≤ (w3.setCell ⟨M, 0, none⟩ (.slice A3 n m3)).heap.size := by simp [World.setCell]
      have HN : Hid (RF (w3.setCell ⟨M, 0, none⟩ (.slice A3 n m3)) B M n (.slice A3 n m3) (fHalf cur) st mo ∧ OnlyT B rfT w (w3.setCell ⟨M, 0, none⟩ (.slice A3 n m3)) ∧ B ≤ (w3.setCell ⟨M, 0, none⟩ (.slice A3 n m3)).heap.size) :=
        ⟨⟨hset, own_more hown4 hBr2, by rw [fHalf_length]; exact HF2.out.len, HLO.out⟩, hb4, Nat.le_trans hBr2 (Nat.le_trans hb3.size hsz)⟩
      clear hmb3 hset hown4 hb4 hsz hown3 hb3
      go_wp2
      go_roundg ((fHalf cur).sum.toNat)
      case measure =>
        have h1 := HTOT.out
        have h2 := HON.out.1
        have h3 := fHalf_less HON.out.2 (by rw [h2]; omega)
        have h4 := HG.out
        have h5 := sum_nn12 (fHalf_nn HNN.out)
        omega
      case rel => exact ⟨fHalf cur, _, HN.out.1, HON.out.half, fun r hr => HSH.out r (.more cur r (by rw [← HTOT.out]; exact hlt) hr), HN.out.2.1, HN.out.2.2, Int.le_trans (fHalf_sum HNN.out) HCS.out, rfl⟩
    · have HQ : Hid (decide (mo < tot) = false) := decide_eq_false hlt
      go_wp2
      have hq := HQ.out
      refine wp_region_quiet_below (by kernel_rfl) (by kernel_rfl) ?_
      repeat (go_big_quiet_step ((go_at_call 52; exact CT.out _ _)))
      refine wpQuiet_nil ?_
      intro _ hw'
      obtain ⟨⟨dq, osq⟩, hw''⟩ := hw'
      subst hw''
      have HF2 := Lib.hid (HF.out.grow (below_regrown wr dq osq))
      have HB2 := Lib.hid (HB.out.trans (OnlyT.of_below (below_regrown wr dq osq)))
      clear k2 hq
      go_wp2
      go_end0
      exact ⟨⟨_, rfl⟩, ⟨cur, _, HSH.out cur (.stop cur (by rw [← HTOT.out]; omega)), HF2.out⟩, HB2.out⟩
theorem rSeen_any (k : Nat) (h : RF w B M n v c st mo) (ho : Ones n c) (hk : k < c.length) (hs : 1 ≤ st) (hsum : c.sum ≤ 65536 - st) (hmo : (n : Int) ≤ mo) (h1 : 1 ≤ n) (h60 : n ≤ 4096) (hst : st ≤ 1024) (hBw : B ≤ w.heap.size) :
    Calls Tryz.prog 24 #[.pointer (some ⟨M, 0, none⟩), .int .i64 (k : Int)] w fun e w' => (∃ u, e = .returned u) ∧ (∃ r v', Shrunk mo (c.set k (c[k]'hk + st)) r ∧ RF w' B M n v' r st mo) ∧ Below B w w' :=
  (rSeen_anyT k h ho hk hs hsum hmo h1 h60 hst hBw).mono fun _ _ h => ⟨h.1, h.2.1, h.2.2.below hBw⟩
end
end Go.Proofs.YtgbibmgedmbboaaGreat
