/- Layer 28: the program: Check, First, Read. -/
import Derived.Test.YtnfkekaeppgaoaaDoorOptAll
namespace Go.Proofs.YtnfkekaeppgaoaaDoor
open Go.RowKit Go.Sort

def chkE (b w r m : Int) : Int := if mayO b w r m = true then 0 else 10
theorem ret_i {a b : Int} (h : a = b) : Ending.returned (.int .i64 a) = .returned (.int .i64 b) := by rw [h]
theorem may_lo {b w r m : Int} (h : b < 1 ∨ 16777216 < b ∨ r < 0 ∨ 11 ≤ r ∨ m < 0 ∨ 6 < m) : chkE b w r m = 10 := by
  unfold chkE
  rw [if_neg]
  unfold mayO
  intro hc
  simp only [Bool.and_eq_true, decide_eq_true_eq] at hc
  omega
theorem may_hi {b w r m : Int} (hR : rightB w = true) (h : 1 ≤ b ∧ b ≤ 16777216 ∧ 0 ≤ r ∧ r < 11 ∧ 0 ≤ m ∧ m ≤ 6) : chkE b w r m = 0 := by
  unfold chkE
  rw [if_pos]
  unfold mayO
  simp only [Bool.and_eq_true, decide_eq_true_eq]
  exact ⟨⟨⟨⟨⟨⟨h.1, h.2.1⟩, hR⟩, h.2.2.1⟩, by omega⟩, h.2.2.2.2.1⟩, h.2.2.2.2.2⟩
theorem may_w {b w r m : Int} (hR : rightB w = false) : chkE b w r m = 10 := by
  unfold chkE
  rw [if_neg]
  unfold mayO
  rw [hR]
  simp
set_option maxRecDepth 100000 in
set_option maxHeartbeats 2000000 in
theorem optCheck_any (b w r m : Int) (W : World) : Calls Tryd.prog 6 #[optV b w r m] W fun e w' => e = .returned (.int .i64 (chkE b w r m)) ∧ Below W.heap.size W w' := by
  obtain ⟨c, hc⟩ : ∃ c, c = chkE b w r m := ⟨_, rfl⟩
  rw [← hc]
  unfold optV
  cases hR : rightB w with
  | false =>
    have CR := Lib.hid (wordRight_any w false hR.symm)
    have e1 := may_w (b := b) (r := r) (m := m) hR
    rw [e1] at hc
    subst hc
    clear hR e1
    go_enter Tryd.func6, Tryd.ntmps6
    go_wp2_with (go_at_call 15; go_must (refine (CR.out _).mono ?_; rintro e w' ⟨rfl, hw⟩; subst hw))
    all_goals
      go_ret
      exact ⟨rfl, (Below.refl _ _).alloc (Nat.le_refl _) _⟩
  | true =>
    have CR := Lib.hid (wordRight_any w true hR.symm)
    have HLO := Lib.hid (fun h => hc.trans (may_lo (b := b) (w := w) (r := r) (m := m) h))
    have HHI := Lib.hid (fun h => hc.trans (may_hi (b := b) (r := r) (m := m) hR h))
    clear hR hc
    go_enter Tryd.func6, Tryd.ntmps6
    go_wp2_with (go_at_call 15; go_must (refine (CR.out _).mono ?_; rintro e w' ⟨rfl, hw⟩; subst hw))
    all_goals
      go_ret
      refine ⟨ret_i ?_, (Below.refl _ _).alloc (Nat.le_refl _) _⟩
      first
        | exact (HLO.out (by omega)).symm
        | exact (HHI.out (by omega)).symm
set_option maxRecDepth 100000 in
theorem optFirst_any (W : World) : Calls Tryd.prog 9 #[] W fun e w' => e = .returned (optV 65536 1 0 6) ∧ Below W.heap.size W w' := by
  go_enter Tryd.func9, Tryd.ntmps9
  go_wp2
  exact bodyPost_ret (v := optV 65536 1 0 6) (results_cell_row Tryd.results9 _ _ W.heap.size 23 _ (0, 0) _ rfl (heap_alloc_new W _) Tryd.underlying23 rfl size_opt) rfl ⟨rfl, (Below.refl _ _).alloc (Nat.le_refl _) _⟩
theorem results_cell_tmp {P : Program} {fn : Func} {u p : Tmp} {ty : TypeId} (h : fn.results = #[.cell p ty, .tmp u]) (tmps : Array Value) (w : World) (g : Nat) (t : TypeId) (cs : Array Value) (fr : Nat × Nat) (d : TypeDesc)
    (hp : tmps.getD p undef = .pointer (some ⟨g, 0, none⟩)) (hg : w.heap[g]? = some (.cells cs t fr))
    (hu : P.underlying ty = some d) (hd : (match d with | .struct _ | .array _ _ => true | _ => false) = true) (hi : (P.info? ty).map (·.size) = some cs.size) :
    (results fn tmps).run P w = .ok (.tuple #[.agg cs, tmps.getD u undef]) w := by
  have hp' : tmps[p]?.getD undef = .pointer (some ⟨g, 0, none⟩) := by simpa using hp
  simp [results, h, hp', asAddr, run_loadVar_row w g t ty cs fr d hg hu hd hi]
def rAll (l : List UInt8) (o : List Int) : Option (List Int × List Bool) := if l = [] then some (o, seen0) else pairsR (cutL 32 l) (o, seen0)
set_option maxRecDepth 100000 in
set_option maxHeartbeats 1000000 in
theorem optAll_all {l : List UInt8} (hl : l.length ≤ 1000) {O : Nat} {o : List Int} (ho : o.length = 4) (W : World) (hO : Blk W O 23 (optC o)) :
    Calls Tryd.prog 21 #[.string (strA l), .pointer (some ⟨O, 0, none⟩)] W (AllPost W O (rAll l o)) := by
  by_cases h : l = []
  · have hr : rAll l o = some (o, seen0) := if_pos h
    rw [hr]
    subst h
    have HO := Lib.hid hO
    rw [show strA [] = ⟨#[]⟩ from rfl]
    clear hO hr
    go_enter Tryd.func21, Tryd.ntmps21
    go_wp2
    go_ret
    exact ⟨⟨true, rfl, (fun h => nomatch h), fun _ => ⟨_, rfl, HO.out, ho⟩⟩, Below.refl _ _⟩
  · have hr : rAll l o = pairsR (cutL 32 l) (o, seen0) := if_neg h
    rw [hr]
    exact optAll_any hl h ho W hO
theorem readR_all (l : List UInt8) : readR l = match rAll l [65536, 1, 0, 6] with | none => ([0, 0, 0, 0], 30) | some st => if mayL st.1 = true then (st.1, 0) else ([0, 0, 0, 0], 10) := by
  unfold readR rAll
  by_cases h : l = []
  · rw [if_pos h, if_pos h]
    rfl
  · rw [if_neg h, if_neg h]
    rfl
theorem four_of {α : Type} {l : List α} (h : l.length = 4) : ∃ a b c d, l = [a, b, c, d] := by
  match l, h with
  | [a, b, c, d], _ => exact ⟨a, b, c, d, rfl⟩
theorem set4 {w : World} {g : Nat} {t : TypeId} {u0 u1 u2 u3 : Value} (h : Blk w g t [u0, u1, u2, u3]) (v0 v1 v2 v3 : Value) : Blk ((((w.setCell ⟨g, 0, none⟩ v0).setCell ⟨g, 1, none⟩ v1).setCell ⟨g, 2, none⟩ v2).setCell ⟨g, 3, none⟩ v3) g t [v0, v1, v2, v3] :=
  (((h.set_ 0 v0).set_ 1 v1).set_ 2 v2).set_ 3 v3
theorem below4 {B g : Nat} {a w : World} (h : Below B a w) (hg : B ≤ g) (v0 v1 v2 v3 : Value) : Below B a ((((w.setCell ⟨g, 0, none⟩ v0).setCell ⟨g, 1, none⟩ v1).setCell ⟨g, 2, none⟩ v2).setCell ⟨g, 3, none⟩ v3) :=
  (((h.setCell (p := ⟨g, 0, none⟩) hg v0).setCell (p := ⟨g, 1, none⟩) hg v1).setCell (p := ⟨g, 2, none⟩) hg v2).setCell (p := ⟨g, 3, none⟩) hg v3
/-- Options, as a value, of a row of four numbers. -/
def optA (o : List Int) : Value := .agg (optC o).toArray
set_option maxRecDepth 100000 in
set_option maxHeartbeats 2000000 in
theorem optRead_any {l : List UInt8} (hl : l.length ≤ 1000) (W : World) : Calls Tryd.prog 13 #[.string (strA l)] W fun e w' => e = .returned (.tuple #[optA (readR l).1, .int .i64 ((readR l).2 : Int)]) ∧ Below W.heap.size W w' := by
  have CF := Lib.hid optFirst_any
  have CA := Lib.hid (fun O w (h : Blk w O 23 (optC [65536, 1, 0, 6])) => optAll_all hl rfl w h)
  have HR := Lib.hid (readR_all l)
  unfold optV at CF
  obtain ⟨S, hS⟩ : ∃ S, S = strA l := ⟨_, rfl⟩
  rw [← hS] at CA ⊢
  clear hS
  go_enter Tryd.func13, Tryd.ntmps13
  go_wp2_with fail
  refine (CF.out _).mono ?_
  rintro e w1 ⟨rfl, hb1⟩
  have hR1 : Blk w1 W.heap.size 23 [.int .i64 0, .int .i64 0, .int .i64 0, .int .i64 0] := (hb1.block _ (by simp)).trans (heap_alloc_new W _)
  have HB1 := Lib.hid (((Below.refl W.heap.size W).alloc (Nat.le_refl _) _).trans (hb1.mono (by simp)))
  have HR1 := Lib.hid hR1
  clear hb1 hR1
  go_wp2_with fail
  obtain ⟨O, hO⟩ : ∃ O, O = w1.heap.size := ⟨_, rfl⟩
  have HRO := Lib.hid (show W.heap.size < O by rw [hO]; exact HR1.out.lt)
  have hOb : Blk (w1.alloc (.cells #[.int .i64 65536, .int .i64 1, .int .i64 0, .int .i64 6] 23)) O 23 (optC [65536, 1, 0, 6]) := by rw [hO]; exact heap_alloc_new w1 _
  have HR2 := Lib.hid (HR1.out.alloc_ (.cells #[.int .i64 65536, .int .i64 1, .int .i64 0, .int .i64 6] 23))
  have HB2 := Lib.hid (HB1.out.alloc HB1.out.size (.cells #[.int .i64 65536, .int .i64 1, .int .i64 0, .int .i64 6] 23))
  rw [← hO]
  obtain ⟨w2, hw2⟩ : ∃ w2, w2 = w1.alloc (.cells #[.int .i64 65536, .int .i64 1, .int .i64 0, .int .i64 6] 23) := ⟨_, rfl⟩
  rw [← hw2] at hOb HR2 HB2 ⊢
  have HOb := Lib.hid hOb
  clear hO hOb hw2 HR1 HB1
  refine (CA.out O w2 HOb.out).mono ?_
  rintro e w3 ⟨⟨ok, rfl, hno, hyes⟩, hb3⟩
  have HR3 := Lib.hid (HR2.out.below hb3 HRO.out)
  have HB3 := Lib.hid (HB2.out.trans (hb3.mono (Nat.le_of_lt HRO.out)))
  clear hb3 HR2 HB2
  cases ok with
  | false =>
    have hrd : readR l = ([0, 0, 0, 0], 30) := by rw [HR.out, hno rfl]
    have HRD := Lib.hid hrd
    clear hrd hno hyes
    have q0 := HR3.out.cell 0
    have q1 := HR3.out.cell 1
    have q2 := HR3.out.cell 2
    have q3 := HR3.out.cell 3
    have f0 := HR3.out.frozen 0
    have f1 := HR3.out.frozen 1
    have f2 := HR3.out.frozen 2
    have f3 := HR3.out.frozen 3
    simp only [List.getElem?_cons_zero, List.getElem?_cons_succ] at q0 q1 q2 q3
    go_wp2
    exact bodyPost_ret (results_cell_tmp Tryd.results13 _ _ W.heap.size 23 _ (0, 0) _ rfl (set4 HR3.out _ _ _ _) Tryd.underlying23 rfl size_opt) rfl ⟨by rw [HRD.out]; rfl, below4 HB3.out (Nat.le_refl _) _ _ _ _⟩
  | true =>
    obtain ⟨st, hst, hbo, hlen⟩ := hyes rfl
    obtain ⟨x0, x1, x2, x3, hx⟩ := four_of hlen
    have hrd : readR l = if mayO x0 x1 x2 x3 = true then ([x0, x1, x2, x3], 0) else ([0, 0, 0, 0], 10) := by
      rw [HR.out, hst]
      show (if mayL st.1 = true then (st.1, 0) else ([0, 0, 0, 0], 10)) = _
      rw [hx]
      rfl
    rw [hx] at hbo
    have CC := Lib.hid (optCheck_any x0 x1 x2 x3)
    unfold optV at CC
    have HRD := Lib.hid hrd
    have HO3 := Lib.hid (show Blk w3 O 23 [.int .i64 x0, .int .i64 x1, .int .i64 x2, .int .i64 x3] from hbo)
    clear hrd hno hyes hst hx hlen hbo
    have o0 := HO3.out.cell 0
    have o1 := HO3.out.cell 1
    have o2 := HO3.out.cell 2
    have o3 := HO3.out.cell 3
    simp only [List.getElem?_cons_zero, List.getElem?_cons_succ] at o0 o1 o2 o3
    go_wp2_with fail
    refine (CC.out _).mono ?_
    rintro e w4 ⟨rfl, hb4⟩
    have HR4 := Lib.hid (HR3.out.grow hb4)
    have HO4 := Lib.hid (HO3.out.grow hb4)
    have HB4 := Lib.hid (HB3.out.trans (hb4.mono HB3.out.size))
    clear o0 o1 o2 o3 hb4 HR3 HO3 HB3
    obtain ⟨c, hc⟩ : ∃ c, c = chkE x0 x1 x2 x3 := ⟨_, rfl⟩
    rw [← hc]
    have HC := Lib.hid hc
    clear hc CC
    cases hm : mayO x0 x1 x2 x3 with
    | false =>
      have hc0 : c = 10 := by rw [HC.out]; unfold chkE; rw [hm]; rfl
      have hrd : readR l = ([0, 0, 0, 0], 10) := by rw [HRD.out, hm]; rfl
      have HRD2 := Lib.hid hrd
      subst hc0
      clear hrd hm HC
      have q0 := HR4.out.cell 0
      have q1 := HR4.out.cell 1
      have q2 := HR4.out.cell 2
      have q3 := HR4.out.cell 3
      have f0 := HR4.out.frozen 0
      have f1 := HR4.out.frozen 1
      have f2 := HR4.out.frozen 2
      have f3 := HR4.out.frozen 3
      simp only [List.getElem?_cons_zero, List.getElem?_cons_succ] at q0 q1 q2 q3
      go_wp2
      exact bodyPost_ret (results_cell_tmp Tryd.results13 _ _ W.heap.size 23 _ (0, 0) _ rfl (set4 HR4.out _ _ _ _) Tryd.underlying23 rfl size_opt) rfl ⟨by rw [HRD2.out]; rfl, below4 HB4.out (Nat.le_refl _) _ _ _ _⟩
    | true =>
      have hc0 : c = 0 := by rw [HC.out]; unfold chkE; rw [hm]; rfl
      have hrd : readR l = ([x0, x1, x2, x3], 0) := by rw [HRD.out, hm]; rfl
      have HRD2 := Lib.hid hrd
      subst hc0
      clear hrd hm HC
      have q0 := HR4.out.cell 0
      have q1 := HR4.out.cell 1
      have q2 := HR4.out.cell 2
      have q3 := HR4.out.cell 3
      have f0 := HR4.out.frozen 0
      have f1 := HR4.out.frozen 1
      have f2 := HR4.out.frozen 2
      have f3 := HR4.out.frozen 3
      have o0 := HO4.out.cell 0
      have o1 := HO4.out.cell 1
      have o2 := HO4.out.cell 2
      have o3 := HO4.out.cell 3
      simp only [List.getElem?_cons_zero, List.getElem?_cons_succ] at q0 q1 q2 q3 o0 o1 o2 o3
      go_wp2
      exact bodyPost_ret (results_cell_tmp Tryd.results13 _ _ W.heap.size 23 _ (0, 0) _ rfl (set4 HR4.out _ _ _ _) Tryd.underlying23 rfl size_opt) rfl ⟨by rw [HRD2.out]; rfl, below4 HB4.out (Nat.le_refl _) _ _ _ _⟩
end Go.Proofs.YtnfkekaeppgaoaaDoor
