/- Layer 29: the program: Get. -/
import Derived.Test.YtnfkekaeppgaoaaHeadPut
namespace Go.Proofs.Ytnfkekaeppgaoaa
open Go.RowKit Go.Sort

theorem results_cell_tmp2 {P : Program} {fn : Func} {u u2 p : Tmp} {ty : TypeId} (h : fn.results = #[.cell p ty, .tmp u, .tmp u2]) (tmps : Array Value) (w : World) (g : Nat) (t : TypeId) (cs : Array Value) (fr : Nat × Nat) (d : TypeDesc)
    (hp : tmps.getD p undef = .pointer (some ⟨g, 0, none⟩)) (hg : w.heap[g]? = some (.cells cs t fr))
    (hu : P.underlying ty = some d) (hd : (match d with | .struct _ | .array _ _ => true | _ => false) = true) (hi : (P.info? ty).map (·.size) = some cs.size) :
    (results fn tmps).run P w = .ok (.tuple #[.agg cs, tmps.getD u undef, tmps.getD u2 undef]) w := by
  have hp' : tmps[p]?.getD undef = .pointer (some ⟨g, 0, none⟩) := by simpa using hp
  simp [results, h, hp', asAddr, run_loadVar_row w g t ty cs fr d hg hu hd hi]
set_option maxRecDepth 100000 in
set_option maxHeartbeats 1000000 in
theorem hdEqual_any (v1 v2 : Value) (l1 l2 : List UInt8) (w : World) (h1 : IsBytes l1 v1 w) (h2 : IsBytes l2 v2 w) : Calls Try.prog 31 #[v1, v2] w fun e w' => e = .returned (.bool (l1 == l2)) ∧ w' = w := by
  have s1 := strOf_run h1
  have s2 := strOf_run h2
  have heq : ((strA l1).toList == (strA l2).toList) = (l1 == l2) := by rw [strA_list, strA_list]
  obtain ⟨S1, hS1⟩ : ∃ S, S = strA l1 := ⟨_, rfl⟩
  obtain ⟨S2, hS2⟩ : ∃ S, S = strA l2 := ⟨_, rfl⟩
  obtain ⟨q, hq⟩ : ∃ q, q = (l1 == l2) := ⟨_, rfl⟩
  rw [← hS1] at s1 heq
  rw [← hS2] at s2 heq
  rw [← hq] at heq ⊢
  clear hS1 hS2 hq h1 h2
  go_enter Try.func31, Try.ntmps31
  go_wp2
  go_ret
  exact ⟨rfl, rfl⟩
theorem wrap64_small_add {E : Nat} (h : E ≤ 10007) : IntKind.i64.wrap ((E : Int) + 4) = (E : Int) + 4 := by rw [IntKind.wrap_i64]; omega
/-- What Get tells of bytes whose Block is told so: options, how many bytes the head has, an error. -/
def getP (l : List UInt8) (m j e : Nat) : List Int × Nat × Nat :=
  if begB l = false then ([0, 0, 0, 0], 0, 12)
  else if e = 11 then ([0, 0, 0, 0], 0, 11)
  else if e = 0 ∧ l.length < 7 + j + 4 then ([0, 0, 0, 0], 0, 11)
  else if e ≠ 0 then ([0, 0, 0, 0], 0, 13)
  else if (fourL (crcOf (l.take (7 + j))).toNat == (l.drop (7 + j)).take 4) = false then ([0, 0, 0, 0], 0, 13)
  else if mayO ((min m 16777217 : Nat) : Int) ((l.getD 4 0).toNat : Int) ((l.getD 5 0).toNat : Int) ((l.getD 6 0).toNat : Int) = false then ([0, 0, 0, 0], 0, 13)
  else ([((min m 16777217 : Nat) : Int), ((l.getD 4 0).toNat : Int), ((l.getD 5 0).toNat : Int), ((l.getD 6 0).toNat : Int)], 7 + j + 4, 0)
def GetOut (W : World) (r : List Int × Nat × Nat) (e : Ending) (w' : World) : Prop := e = .returned (.tuple #[optA r.1, .int .i64 (r.2.1 : Int), .int .i64 (r.2.2 : Int)]) ∧ Below W.heap.size W w'
theorem get_ret {r r' : List Int × Nat × Nat} (h : r = r') : Ending.returned (.tuple #[optA r.1, .int .i64 (r.2.1 : Int), .int .i64 (r.2.2 : Int)]) = .returned (.tuple #[optA r'.1, .int .i64 (r'.2.1 : Int), .int .i64 (r'.2.2 : Int)]) := by rw [h]
set_option maxRecDepth 100000 in
set_option maxHeartbeats 4000000 in
theorem hdGet_any (A : Option Addr) (n c : Nat) (l : List UInt8) (W : World) (hr : Rd W W.heap.size A (bvs l)) (hn : l.length = n) (hnc : n ≤ c) (hn1 : n ≤ 10000) {m j e : Nat} (hg : lget (l.drop 7) = (m, j, e)) :
    Calls Try.prog 14 #[.slice A n c] W (GetOut W (getP l m j e)) := by
  obtain ⟨r, hr0⟩ : ∃ r, r = getP l m j e := ⟨_, rfl⟩
  rw [← hr0]
  have HR0 := Lib.hid hr0
  have hlg := lget_told (l.drop 7)
  have hme : m < 18446744073709551616 ∧ j ≤ n ∧ (e = 0 → 7 + j ≤ n ∧ 0 < j) ∧ (e = 0 ∨ e = 11 ∨ e = 21) := by
    rcases hlg with ⟨q, h1, h2, h3, -⟩ | h1 | h1
    · rw [hg] at h1
      simp only [Prod.mk.injEq] at h1
      obtain ⟨rfl, rfl, rfl⟩ := h1
      have := lput_pos m
      rw [List.length_drop] at h3
      exact ⟨h2, by omega, fun _ => ⟨by omega, by omega⟩, .inl rfl⟩
    · rw [hg] at h1
      simp only [Prod.mk.injEq] at h1
      obtain ⟨rfl, rfl, rfl⟩ := h1
      exact ⟨by decide, by omega, fun h => (by omega), .inr (.inl rfl)⟩
    · rw [hg] at h1
      simp only [Prod.mk.injEq] at h1
      obtain ⟨rfl, rfl, rfl⟩ := h1
      exact ⟨by decide, by omega, fun h => (by omega), .inr (.inr rfl)⟩
  obtain ⟨s, hs⟩ : ∃ s, s = min 7 n := ⟨_, rfl⟩
  have hdr : l.drop s = l.drop 7 := by
    by_cases h7 : 7 ≤ n
    · rw [hs, Nat.min_eq_left h7]
    · rw [hs, Nat.min_eq_right (by omega), ← hn, List.drop_length, List.drop_eq_nil_of_le (by omega)]
  have CB := Lib.hid (fun w (hr : Rd w w.heap.size A (bvs l)) => hdBegins_any A n c l w hr hn hnc (by omega))
  have CLG := Lib.hid (fun A2 c2 w (hr : Rd w w.heap.size A2 (bvs (l.drop 7))) => lebGet_any A2 (n - s) c2 (l.drop 7) w hr (by rw [← hdr, List.length_drop, hn]) (by omega) m j e hg)
  have HDR := Lib.hid hdr
  have HRD := Lib.hid hr
  have hse : min (7 : Int) (n : Int) = (s : Int) := by omega
  have hsn : s ≤ n := by omega
  have HN := Lib.hid hn
  have HSE := Lib.hid hs
  obtain ⟨hm1, hj1, hE, he3⟩ := hme
  have HE := Lib.hid hE
  have HE3 := Lib.hid he3
  have hRb := heap_alloc_new W (.cells #[.int .i64 0, .int .i64 0, .int .i64 0, .int .i64 0] 24)
  obtain ⟨R, hRR⟩ : ∃ R, R = W.heap.size := ⟨_, rfl⟩
  have HRT := Lib.hid hRR
  obtain ⟨w1, hw1⟩ : ∃ w1, w1 = W.alloc (.cells #[.int .i64 0, .int .i64 0, .int .i64 0, .int .i64 0] 24) := ⟨_, rfl⟩
  have hB1 := (Below.refl W.heap.size W).alloc (Nat.le_refl _) (.cells #[.int .i64 0, .int .i64 0, .int .i64 0, .int .i64 0] 24)
  rw [← hw1] at hRb hB1
  rw [← hRR] at hRb
  have HB1 := Lib.hid hB1
  have HR1 := Lib.hid (show Blk w1 R 24 [.int .i64 0, .int .i64 0, .int .i64 0, .int .i64 0] from hRb)
  have HRD1 := Lib.hid ((hr.below hB1).more hB1.size)
  have HW1 := Lib.hid hw1
  clear hw1 hB1 hRb hRR hr hdr hr0 hg hlg hE he3 hs
  go_enter Try.func14, Try.ntmps14
  go_wp2_with ((with_reducible show wpList _ _ _ (({ dst := some 14, op := _, type := _, pos := _, after := _, guard := _ } : Oper) :: _) _ _); go_must (rw [← HW1.out]; refine wpList_from rfl (.tmp 10) (.tmp 13) rfl Try.underlying29 (by kernel_rfl) w1.heap.size A n c s (bvs l) rfl (by rw [HSE.out]; rfl) HRD1.out (by rw [bvs_length]; exact hn) hnc hsn ?_; intro A2 c2 hc2 hrd2))
  rw [show (bvs l).drop s = bvs (l.drop 7) by rw [← HDR.out]; unfold bvs; rw [List.map_drop]] at hrd2
  rw [← HRT.out]
  refine (CLG.out A2 c2 w1 hrd2).mono ?_
  rintro e' w2 ⟨rfl, hw⟩
  subst hw
  have hj7 : (7 : Int) + (j : Int) = ((7 + j : Nat) : Int) := by omega
  obtain ⟨E, hEE⟩ : ∃ E, E = 7 + j := ⟨_, rfl⟩
  rw [← hEE] at hj7
  have hEn : E ≤ 10007 := by omega
  have HEE := Lib.hid hEE
  clear hrd2 hc2 CLG hEE hse
  go_wp2_with fail
  refine (CB.out w1 HRD1.out).mono ?_
  rintro e' w3 ⟨rfl, hb3⟩
  have HR3 := Lib.hid (HR1.out.grow hb3)
  have HB3 := Lib.hid (HB1.out.trans (hb3.mono HB1.out.size))
  have HRD3 := Lib.hid ((HRD1.out.below hb3).more hb3.size)
  clear hb3 HR1 HB1 HRD1 CB
  cases hbg : begB l with
  | false =>
    have hres : r = ([0, 0, 0, 0], 0, 12) := by rw [HR0.out]; unfold getP; rw [if_pos hbg]
    have HRS := Lib.hid hres
    clear hres hbg
    have q0 := HR3.out.cell 0
    have q1 := HR3.out.cell 1
    have q2 := HR3.out.cell 2
    have q3 := HR3.out.cell 3
    have f0 := HR3.out.frozen 0
    have f1 := HR3.out.frozen 1
    have f2 := HR3.out.frozen 2
    have f3 := HR3.out.frozen 3
    simp only [List.getElem?_cons_zero, List.getElem?_cons_succ] at q0 q1 q2 q3
    go_wp2
    exact bodyPost_ret (results_cell_tmp2 Try.results14 _ _ R 24 _ (0, 0) _ rfl (set4 HR3.out _ _ _ _) Try.underlying24 rfl size_opt) rfl ⟨get_ret HRS.out.symm, below4 HB3.out (Nat.le_of_eq HRT.out.symm) _ _ _ _⟩
  | true =>
    by_cases h11 : e = 11
    · have hres : r = ([0, 0, 0, 0], 0, 11) := by rw [HR0.out]; unfold getP; rw [if_neg (by rw [hbg]; decide), if_pos h11]
      have HRS := Lib.hid hres
      subst h11
      clear hres hbg
      have q0 := HR3.out.cell 0
      have q1 := HR3.out.cell 1
      have q2 := HR3.out.cell 2
      have q3 := HR3.out.cell 3
      have f0 := HR3.out.frozen 0
      have f1 := HR3.out.frozen 1
      have f2 := HR3.out.frozen 2
      have f3 := HR3.out.frozen 3
      simp only [List.getElem?_cons_zero, List.getElem?_cons_succ] at q0 q1 q2 q3
      go_wp2
      exact bodyPost_ret (results_cell_tmp2 Try.results14 _ _ R 24 _ (0, 0) _ rfl (set4 HR3.out _ _ _ _) Try.underlying24 rfl size_opt) rfl ⟨get_ret HRS.out.symm, below4 HB3.out (Nat.le_of_eq HRT.out.symm) _ _ _ _⟩
    · by_cases h0 : e = 0
      · subst h0
        by_cases hsz : n < 7 + j + 4
        · have hres : r = ([0, 0, 0, 0], 0, 11) := by rw [HR0.out]; unfold getP; rw [if_neg (by rw [hbg]; decide), if_neg (by decide), if_pos ⟨rfl, by rw [HN.out]; exact hsz⟩]
          have HRS := Lib.hid hres
          have hszi : (n : Int) < (E : Int) + 4 := by have := HEE.out; omega
          clear hres hbg hsz h11
          have q0 := HR3.out.cell 0
          have q1 := HR3.out.cell 1
          have q2 := HR3.out.cell 2
          have q3 := HR3.out.cell 3
          have f0 := HR3.out.frozen 0
          have f1 := HR3.out.frozen 1
          have f2 := HR3.out.frozen 2
          have f3 := HR3.out.frozen 3
          simp only [List.getElem?_cons_zero, List.getElem?_cons_succ] at q0 q1 q2 q3
          go_wp2
          exact bodyPost_ret (results_cell_tmp2 Try.results14 _ _ R 24 _ (0, 0) _ rfl (set4 HR3.out _ _ _ _) Try.underlying24 rfl size_opt) rfl ⟨get_ret HRS.out.symm, below4 HB3.out (Nat.le_of_eq HRT.out.symm) _ _ _ _⟩
        · have hEn4 : E + 4 ≤ n := by have := HEE.out; omega
          have hszi : ¬ (n : Int) < (E : Int) + 4 := by omega
          have hres : r = if (fourL (crcOf (l.take E)).toNat == (l.drop E).take 4) = false then ([0, 0, 0, 0], 0, 13) else if mayO ((min m 16777217 : Nat) : Int) ((l.getD 4 0).toNat : Int) ((l.getD 5 0).toNat : Int) ((l.getD 6 0).toNat : Int) = false then ([0, 0, 0, 0], 0, 13) else ([((min m 16777217 : Nat) : Int), ((l.getD 4 0).toNat : Int), ((l.getD 5 0).toNat : Int), ((l.getD 6 0).toNat : Int)], E + 4, 0) := by
            rw [HR0.out]; unfold getP; rw [if_neg (by rw [hbg]; decide), if_neg (by decide), if_neg (fun h => hsz (by rw [← HN.out]; exact h.2)), if_neg (by decide), HEE.out]
          have HRS := Lib.hid hres
          obtain ⟨ab, ao, rfl, hbl, hcell⟩ := HRD3.out.at_ (by rw [bvs_length]; omega)
          clear hres hbg hsz h11 hcell
          obtain ⟨q, hq⟩ : ∃ q, q = (fourL (crcOf (l.take E)).toNat == (l.drop E).take 4) := ⟨_, rfl⟩
          rw [← hq] at HRS
          have C1 := Lib.hid (fun w (hr : Rd w w.heap.size (some ⟨ab, ao, none⟩) (bvs (l.take E))) => hdSum_any (some ⟨ab, ao, none⟩) E c (l.take E) w hr (by rw [List.length_take]; omega) (by omega))
          have C2 := Lib.hid (fun v1 v2 w (h1 : IsBytes (fourL (crcOf (l.take E)).toNat) v1 w) (h2 : IsBytes ((l.drop E).take 4) v2 w) => hdEqual_any v1 v2 _ _ w h1 h2)
          rw [← hq] at C2
          obtain ⟨F, hF⟩ : ∃ F, F = fourL (crcOf (l.take E)).toNat := ⟨_, rfl⟩
          rw [← hF] at C1 C2
          have HT := Lib.hid (show Rd w3 w3.heap.size (some ⟨ab, ao, none⟩) (bvs (l.take E)) by
            have h := HRD3.out.take E
            unfold bvs at h ⊢
            rw [List.map_take]
            exact h)
          have HM := Lib.hid (show Rd w3 w3.heap.size (some ⟨ab, ao + E, none⟩) (bvs ((l.drop E).take 4)) by
            have h := (HRD3.out.drop E).take 4
            unfold bvs at h ⊢
            rw [List.map_take, List.map_drop]
            rw [Option.map_some, Addr.add_lit] at h
            exact h)
          have hEc : (E : Int) ≤ (c : Int) := by omega
          have hE4c : (E : Int) + 4 ≤ (c : Int) := by omega
          have hl4 : ((l.drop E).take 4).length = 4 := by rw [List.length_take, List.length_drop]; omega
          have HL4 := Lib.hid hl4
          obtain ⟨nq, hnq⟩ : ∃ nq, nq = !q := ⟨_, rfl⟩
          have HNQ := Lib.hid hnq
          have HW4 := Lib.hid (wrap64_small_add hEn)
          clear hq hF hl4 hnq
          go_wp2_with fail
          refine wp_region_grow [⟨42, [], .is (.slice (some ⟨ab, ao, none⟩) n c)⟩, ⟨43, [], .is (.int .i64 (E : Int))⟩, ⟨44, [0, 1], .is (.slice (some ⟨ab, ao, none⟩) E c)⟩, ⟨45, [2], .bytes F⟩, ⟨46, [], .is (.slice (some ⟨ab, ao, none⟩) n c)⟩, ⟨47, [], .is (.int .i64 (E : Int))⟩, ⟨48, [], .is (.int .i64 (E : Int))⟩, ⟨49, [6], .is (.int .i64 ((E : Int) + 4))⟩, ⟨50, [4, 5, 7], .is (.slice (some ⟨ab, ao + E, none⟩) 4 (c - E))⟩, ⟨51, [3, 8], .is (.bool q)⟩, ⟨52, [9], .is (.bool nq)⟩, ⟨41, [10], .is (.bool nq)⟩]
            [(0, .slice (some ⟨ab, ao, none⟩) n c), (8, .int .i64 (E : Int))] (by kernel_rfl) (by kernel_rfl) (by kernel_rfl) (by kernel_rfl) (by kernel_rfl) ⟨rfl, rfl, trivial⟩ ?_ ?_
          · repeat' (first | exact OblGAll.nil | refine OblGAll.cons ?_ ?_)
            all_goals (intro ev yi w' hB hc hf ho hn; simp only [OutsSay, NeedSay, rowAt, Fact.says, and_true] at ho hn)
            all_goals (try ((simp [OpSays, execOp, Region.wanted, Fact.says, go_sem, ho, hn, hc, Below.refl]; done)))
            · rw [if_pos (by simp [Region.wanted])]
              simp [OpSays, execOp, Fact.says, go_sem, hn, Below.refl, hEc]
            · rw [if_pos (by simp [Region.wanted])]
              exact says_call Try.call24 (vs := #[.slice (some ⟨ab, ao, none⟩) E c]) rfl hf (by simp [hn]) ((C1.out w' ((HT.out.below hB).more hB.size)).mono fun _ _ => NewBs.says)
            · rw [if_pos (by simp [Region.wanted])]
              simp [OpSays, execOp, Fact.says, go_sem, hn, hc, Below.refl, HW4.out]
            · rw [if_pos (by simp [Region.wanted])]
              simp [OpSays, execOp, Fact.says, go_sem, hn, Below.refl, hE4c, show (0 : Int) ≤ (E : Int) + 4 by omega, show E ≤ ((E : Int) + 4).toNat by omega, show ¬ c = E by omega, show ((E : Int) + 4).toNat - E = 4 by omega]
            · rw [if_pos (by simp [Region.wanted])]
              exact says_call Try.call31 (vs := #[ev (.tmp 45), .slice (some ⟨ab, ao + E, none⟩) 4 (c - E)]) rfl hf (by simp [hn.2]) ((C2.out _ _ w' hn.1 ⟨some ⟨ab, ao + E, none⟩, c - E, by rw [HL4.out], by rw [HL4.out]; omega, (HM.out.below hB).more hB.size⟩).mono fun _ _ h => ⟨_, h.1, rfl, by rw [h.2]; exact Below.refl _ _⟩)
            · rw [if_pos (by simp [Region.wanted])]
              simp [OpSays, execOp, Fact.says, go_sem, hn, Below.refl, HNQ.out]
          · intro X w4 hb4 hx
            have hlast : X 11 = .bool nq := hx 11 (by decide)
            clear hx
            have HL := Lib.hid hlast
            have HR4 := Lib.hid (HR3.out.grow hb4)
            have HB4 := Lib.hid (HB3.out.trans (hb4.mono HB3.out.size))
            have HRD4 := Lib.hid ((HRD3.out.below hb4).more hb4.size)
            clear hlast hb4 HR3 HB3 HRD3 C1 C2 HT HM
            simp only [layAll, List.setIfInBounds_toArray, List.set_cons_succ, List.set_cons_zero]
            rw [HL.out]
            cases hqq : q with
            | false =>
              have hnt : nq = true := by rw [HNQ.out, hqq]; rfl
              have hrs2 : r = ([0, 0, 0, 0], 0, 13) := by rw [HRS.out, if_pos hqq]
              have HRS2 := Lib.hid hrs2
              rw [hnt]
              clear hrs2 hqq hnt HL
              have q0 := HR4.out.cell 0
              have q1 := HR4.out.cell 1
              have q2 := HR4.out.cell 2
              have q3 := HR4.out.cell 3
              have f0 := HR4.out.frozen 0
              have f1 := HR4.out.frozen 1
              have f2 := HR4.out.frozen 2
              have f3 := HR4.out.frozen 3
              simp only [List.getElem?_cons_zero, List.getElem?_cons_succ] at q0 q1 q2 q3
              go_wp2
              exact bodyPost_ret (results_cell_tmp2 Try.results14 _ _ R 24 _ (0, 0) _ rfl (set4 HR4.out _ _ _ _) Try.underlying24 rfl size_opt) rfl ⟨get_ret HRS2.out.symm, below4 HB4.out (Nat.le_of_eq HRT.out.symm) _ _ _ _⟩
            | true =>
              have hnt : nq = false := by rw [HNQ.out, hqq]; rfl
              have hrs2 : r = if mayO ((min m 16777217 : Nat) : Int) ((l.getD 4 0).toNat : Int) ((l.getD 5 0).toNat : Int) ((l.getD 6 0).toNat : Int) = false then ([0, 0, 0, 0], 0, 13) else ([((min m 16777217 : Nat) : Int), ((l.getD 4 0).toNat : Int), ((l.getD 5 0).toNat : Int), ((l.getD 6 0).toNat : Int)], E + 4, 0) := by rw [HRS.out, if_neg (by rw [hqq]; decide)]
              have HRS2 := Lib.hid hrs2
              rw [hnt]
              have CO := Lib.hid (fun w (hr : Rd w w.heap.size (some ⟨ab, ao, none⟩) (bvs l)) => hdOptions_any (some ⟨ab, ao, none⟩) n c l m w hr hn (by omega) hm1)
              have CC := Lib.hid (optCheck_any ((min m 16777217 : Nat) : Int) ((l.getD 4 0).toNat : Int) ((l.getD 5 0).toNat : Int) ((l.getD 6 0).toNat : Int))
              unfold optsH at CO
              unfold optV at CO CC
              obtain ⟨x0, hx0⟩ : ∃ x0 : Int, x0 = ((min m 16777217 : Nat) : Int) := ⟨_, rfl⟩
              obtain ⟨x1, hx1⟩ : ∃ x1 : Int, x1 = ((l.getD 4 0).toNat : Int) := ⟨_, rfl⟩
              obtain ⟨x2, hx2⟩ : ∃ x2 : Int, x2 = ((l.getD 5 0).toNat : Int) := ⟨_, rfl⟩
              obtain ⟨x3, hx3⟩ : ∃ x3 : Int, x3 = ((l.getD 6 0).toNat : Int) := ⟨_, rfl⟩
              rw [← hx0, ← hx1, ← hx2, ← hx3] at CO CC HRS2
              clear hrs2 hqq hnt HL hx0 hx1 hx2 hx3
              go_wp2_with fail
              refine (CO.out w4 HRD4.out).mono ?_
              rintro e' w5 ⟨rfl, hb5⟩
              have HR5 := Lib.hid (HR4.out.grow hb5)
              have HB5 := Lib.hid (HB4.out.trans (hb5.mono HB4.out.size))
              have HRD5 := Lib.hid ((HRD4.out.below hb5).more hb5.size)
              clear hb5 HR4 HB4 HRD4
              go_wp2_with fail
              refine (CC.out w5).mono ?_
              rintro e' w6 ⟨rfl, hb6⟩
              have HR6 := Lib.hid (HR5.out.grow hb6)
              have HB6 := Lib.hid (HB5.out.trans (hb6.mono HB5.out.size))
              have HRD6 := Lib.hid ((HRD5.out.below hb6).more hb6.size)
              clear hb6 HR5 HB5 HRD5
              obtain ⟨ce, hce⟩ : ∃ ce, ce = chkE x0 x1 x2 x3 := ⟨_, rfl⟩
              rw [← hce]
              have HCE := Lib.hid hce
              clear hce CC
              cases hmm : mayO x0 x1 x2 x3 with
              | false =>
                have hc10 : ce = 10 := by rw [HCE.out]; unfold chkE; rw [hmm]; rfl
                have hrs3 : r = ([0, 0, 0, 0], 0, 13) := by rw [HRS2.out, if_pos hmm]
                have HRS3 := Lib.hid hrs3
                subst hc10
                clear hrs3 hmm HCE
                have q0 := HR6.out.cell 0
                have q1 := HR6.out.cell 1
                have q2 := HR6.out.cell 2
                have q3 := HR6.out.cell 3
                have f0 := HR6.out.frozen 0
                have f1 := HR6.out.frozen 1
                have f2 := HR6.out.frozen 2
                have f3 := HR6.out.frozen 3
                simp only [List.getElem?_cons_zero, List.getElem?_cons_succ] at q0 q1 q2 q3
                go_wp2
                exact bodyPost_ret (results_cell_tmp2 Try.results14 _ _ R 24 _ (0, 0) _ rfl (set4 HR6.out _ _ _ _) Try.underlying24 rfl size_opt) rfl ⟨get_ret HRS3.out.symm, below4 HB6.out (Nat.le_of_eq HRT.out.symm) _ _ _ _⟩
              | true =>
                have hc0 : ce = 0 := by rw [HCE.out]; unfold chkE; rw [hmm]; rfl
                have hrs3 : r = ([x0, x1, x2, x3], E + 4, 0) := by rw [HRS2.out, if_neg (by rw [hmm]; decide)]
                have HRS3 := Lib.hid hrs3
                subst hc0
                clear hrs3 hmm HCE
                go_wp2_with fail
                refine (CO.out w6 HRD6.out).mono ?_
                rintro e' w7 ⟨rfl, hb7⟩
                have HR7 := Lib.hid (HR6.out.grow hb7)
                have HB7 := Lib.hid (HB6.out.trans (hb7.mono HB6.out.size))
                clear hb7 HR6 HB6 HRD6 CO
                have q0 := HR7.out.cell 0
                have q1 := HR7.out.cell 1
                have q2 := HR7.out.cell 2
                have q3 := HR7.out.cell 3
                have f0 := HR7.out.frozen 0
                have f1 := HR7.out.frozen 1
                have f2 := HR7.out.frozen 2
                have f3 := HR7.out.frozen 3
                simp only [List.getElem?_cons_zero, List.getElem?_cons_succ] at q0 q1 q2 q3
                go_wp2
                exact bodyPost_ret (results_cell_tmp2 Try.results14 _ _ R 24 _ (0, 0) _ rfl (set4 HR7.out _ _ _ _) Try.underlying24 rfl size_opt) rfl ⟨get_ret HRS3.out.symm, below4 HB7.out (Nat.le_of_eq HRT.out.symm) _ _ _ _⟩
      · have hres : r = ([0, 0, 0, 0], 0, 13) := by rw [HR0.out]; unfold getP; rw [if_neg (by rw [hbg]; decide), if_neg h11, if_neg (fun h => h0 h.1), if_pos h0]
        have he21 : e = 21 := by have := HE3.out; omega
        have HRS := Lib.hid hres
        subst he21
        clear hres hbg h11 h0
        have q0 := HR3.out.cell 0
        have q1 := HR3.out.cell 1
        have q2 := HR3.out.cell 2
        have q3 := HR3.out.cell 3
        have f0 := HR3.out.frozen 0
        have f1 := HR3.out.frozen 1
        have f2 := HR3.out.frozen 2
        have f3 := HR3.out.frozen 3
        simp only [List.getElem?_cons_zero, List.getElem?_cons_succ] at q0 q1 q2 q3
        go_wp2
        exact bodyPost_ret (results_cell_tmp2 Try.results14 _ _ R 24 _ (0, 0) _ rfl (set4 HR3.out _ _ _ _) Try.underlying24 rfl size_opt) rfl ⟨get_ret HRS.out.symm, below4 HB3.out (Nat.le_of_eq HRT.out.symm) _ _ _ _⟩
end Go.Proofs.Ytnfkekaeppgaoaa
