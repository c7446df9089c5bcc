/-
  Layer 32: the reference: Parse. Written by gen_frmref.py. · Layer 32: what Put makes. Pure, and what its walks lean on.
-/
import Derived.Test.YtlbpolkmhhmkgaaQ07
import Derived.Test.YtlbpolkmhhmkgaaQ18
import Derived.Test.YtlbpolkmhhmkgaaQ20
import Derived.Test.YtlbpolkmhhmkgaaQ21
namespace Go.Proofs.Ytlbpolkmhhmkgaa
open Go.RowKit Go.Sort

set_option maxRecDepth 100000 in
set_option maxHeartbeats 16000000 in
theorem refFParse_ok (A : Option Addr) (n c : Nat) (l : List UInt8) (W : World) (hr : Rd W W.heap.size A (bvs l)) (hn : l.length = n) (hnc : n ≤ c) (hn1 : n ≤ 10000) {m j e0 : Nat} (hg : lget (l.drop 7) = (m, j, e0)) {b u r md p0 : Nat} (hP : getP l m j e0 = ([(b : Int), (u : Int), (r : Int), (md : Int)], p0, 0)) (hb : b ≤ 16777216) (hp0 : p0 ≤ n) :
    Calls Try.prog 8 #[.slice A n c] W (StrOut W (endR l [(b : Int), (u : Int), (r : Int), (md : Int)] (parL l b (n + 1) p0 0 []))) := by
  obtain ⟨i0, z0, hi0, hz0, hz1, hz2, hz3⟩ := info_blk
  have C := Lib.hid (fun w (h : Rd w w.heap.size A (bvs l)) => refHGet_any A n c l w h hn hnc hn1 hg)
  rw [← get_same hg, hP] at C
  unfold GetOut at C
  rw [show optA ([(b : Int), (u : Int), (r : Int), (md : Int)], p0, 0).1 = .agg #[.int .i64 (b : Int), .int .i64 (u : Int), .int .i64 (r : Int), .int .i64 (md : Int)] from rfl] at C
  obtain ⟨w1, hw1⟩ : ∃ w1, w1 = W.alloc (.cells #[.int .i64 0, .int .i64 0, .int .i64 0, .int .i64 0, .slice none 0 0, .int .i64 0, .int .u32 0] 29) := ⟨_, rfl⟩
  have hB1 : Below W.heap.size W w1 := by rw [hw1]; exact (Below.refl _ _).alloc (Nat.le_refl _) _
  have h2 : Blk w1 W.heap.size 29 [.int .i64 0, .int .i64 0, .int .i64 0, .int .i64 0, .slice none 0 0, .int .i64 0, .int .u32 0] := by rw [hw1]; exact blk_new W _ _ rfl
  have HRD := Lib.hid hr
  have HR1 := Lib.hid ((hr.below hB1).more hB1.size)
  have HN := Lib.hid hn
  have HW1 := Lib.hid hw1
  have HB1 := Lib.hid hB1
  have H2 := Lib.hid h2
  have HP0 := Lib.hid (And.intro hnc (And.intro hn1 (And.intro hb hp0)))
  clear hr hw1 hB1 h2 hP hg hn hnc hn1 hb hp0
  go_enter Try.func8, Try.ntmps8
  go_wp2_with fail
  rw [← HW1.out]
  refine (C.out _ HR1.out).mono ?_
  rintro _ w2 ⟨rfl, hb2⟩
  have hbw := HB1.out.trans (hb2.mono HB1.out.size)
  have h22 := H2.out.grow hb2
  obtain ⟨B4, hB4⟩ : ∃ B4, B4 = w2.heap.size := ⟨_, rfl⟩
  obtain ⟨w5, hw5⟩ : ∃ w5, w5 = (w2.alloc (.cells #[.int .i64 (b : Int), .int .i64 (u : Int), .int .i64 (r : Int), .int .i64 (md : Int)] 25)).alloc (.cells #[.int .i64 (b : Int), .int .i64 (u : Int), .int .i64 (r : Int), .int .i64 (md : Int), .slice none 0 0, .int .i64 0, .int .u32 0] 29) := ⟨_, rfl⟩
  have hB25 : Below w2.heap.size w2 w5 := by rw [hw5]; exact ((Below.refl _ _).alloc (Nat.le_refl _) _).alloc (by simp) _
  have h45 : Blk w5 B4 25 [.int .i64 (b : Int), .int .i64 (u : Int), .int .i64 (r : Int), .int .i64 (md : Int)] := by rw [hw5]; exact (blk_new _ _ _ hB4).grow ((Below.refl _ _).alloc (Nat.le_refl _) _)
  have h75 : Blk w5 (B4 + 1) 29 [.int .i64 (b : Int), .int .i64 (u : Int), .int .i64 (r : Int), .int .i64 (md : Int), .slice none 0 0, .int .i64 0, .int .u32 0] := by rw [hw5]; exact blk_new _ _ _ (by rw [hB4]; simp)
  have hlt2 : W.heap.size < B4 := by rw [hB4]; exact h22.lt
  have HV := Lib.hid (⟨h45, h75, World.ownsRow_nil _ _ _ _, h22.grow hB25, hbw.trans (hB25.mono hbw.size), Nat.le_refl _⟩ : RefV W w5.heap.size W.heap.size B4 (B4 + 1) (b : Int) (u : Int) (r : Int) (md : Int) 0 [] (.slice none 0 0) w5)
  have HSZ := Lib.hid (And.intro hlt2 (show w5.heap.size = B4 + 2 by rw [hw5, hB4]; simp))
  have HW5 := Lib.hid hw5
  have HB4 := Lib.hid hB4
  clear hb2 C HB1 H2 HR1 hbw h22 hw5 hB25 h45 h75 hlt2 hB4
  go_wp2_with fail
  rw [← HW5.out, ← HB4.out]
  go_loopw [5] (fun iv wr => ∃ (k p tt : Nat) (bs : List Blk7) (v : Value), iv = .int .i64 (p : Int) ∧ Hid (parL l b (n + 1) p0 0 [] = parL l b k p tt bs) ∧ p ≤ n ∧ n < p + k ∧ tt ≤ 16777216 * p ∧ bs.length ≤ p ∧ RefV W w5.heap.size W.heap.size B4 (B4 + 1) (b : Int) (u : Int) (r : Int) (md : Int) tt bs v wr) (fun iv _ => n + 1 - (intOf iv).toNat)
  case atStart => exact ⟨n + 1, p0, 0, [], .slice none 0 0, rfl, Lib.hid rfl, HP0.out.2.2.2, by omega, by omega, by simp, HV.out⟩
  case round =>
    obtain ⟨k, p, tt, bs, v, rfl, HPR, hpn, hpk, htt, hbl, hV⟩ := hrel
    obtain ⟨k, rfl⟩ : ∃ k', k = k' + 1 := ⟨k - 1, by omega⟩
    by_cases hx : p = n ∨ (l.getD p 0).toNat = 0
    · have hHP := HP0.out
      have HE0 := Lib.hid (HPR.out.trans rfl)
      have hres : endR l [(b : Int), (u : Int), (r : Int), (md : Int)] (parL l b (n + 1) p0 0 []) = exitR l [(b : Int), (u : Int), (r : Int), (md : Int)] bs tt p := by
        rw [HPR.out]
        exact exit_is (by rw [HN.out]; exact hpn) (by rw [HN.out]; exact hx)
      have hrw : Rd wr wr.heap.size A (bvs l) := (HRD.out.below hV.below).more hV.below.size
      have HRW := Lib.hid hrw
      obtain ⟨⟨t', s', k', e'⟩, hq⟩ : ∃ q, q = endG (l.drop p) := ⟨_, rfl⟩
      have htold := endG_told (l.drop p)
      rw [← hq, List.length_drop, HN.out] at htold
      have CE := Lib.hid (fun A3 c3 (h : Rd wr wr.heap.size A3 (bvs (l.drop p))) (hc : n - p ≤ c3) => refGetEnd_any A3 (n - p) c3 (l.drop p) wr h (by rw [List.length_drop, HN.out]) hc (by omega))
      rw [← hq] at CE
      unfold EndOut at CE
      simp only at CE
      have HOUT := Lib.hid (show endR l [(b : Int), (u : Int), (r : Int), (md : Int)] (parL l b (n + 1) p0 0 []) = (if e' ≠ 0 then noStream e' else if t' ≠ tt then noStream 15 else if p + k' < n then noStream 19 else ([(b : Int), (u : Int), (r : Int), (md : Int)], bs, tt, s', 0)) from by
        rw [hres]
        unfold exitR
        rw [← hq]
        simp only
        rw [HN.out])
      have HV1 := Lib.hid hV
      have HLN := Lib.hid (show (bvs l).length = n by rw [bvs_length]; exact HN.out)
      have hpni : (p : Int) ≤ (n : Int) := by omega
      have hn1 : n ≤ 10000 := hHP.2.1
      have hcb : (p = n) ∨ (∃ ab ao, A = some ⟨ab, ao, none⟩ ∧ wr.cell? ⟨ab, ao + p, none⟩ = some (.int .u8 0) ∧ p < n) := by
        by_cases h1 : p = n
        · exact .inl h1
        · have h2 : (l.getD p 0).toNat = 0 := by
            rcases hx with h | h
            · exact absurd h h1
            · exact h
          have hpl : p < l.length := by rw [HN.out]; omega
          obtain ⟨ab, ao, e1, -, e2⟩ := hrw p _ (bvs_get l p hpl)
          rw [List.getD_eq_getElem?_getD, List.getElem?_eq_getElem hpl] at h2
          have h3 : l[p].toNat = 0 := h2
          rw [h3] at e2
          exact .inr ⟨ab, ao, e1, e2, by omega⟩
      clear hres hrw hq hV hHP hx HPR HE0 hbl hpk
      have hlt5 : W.heap.size < B4 + 1 := by have := HSZ.out.1; omega
      rcases hcb with hpn2 | ⟨ab, ao, rfl, hc0, hpn2⟩
      all_goals
        first
          | (have hpi : ¬ (p : Int) < (n : Int) := by omega
             have HNP := Lib.hid (show n - p = 0 by omega))
          | (have hpi : (p : Int) < (n : Int) := by omega)
        go_wp2_with ((with_reducible show wpList _ _ _ (({ dst := some 84, op := _, type := _, pos := _, after := _, guard := _ } : Oper) :: _) _ _); go_must (refine wpList_from rfl (.tmp 82) (.tmp 83) rfl Try.underlying22 (by kernel_rfl) wr.heap.size _ n c p (bvs l) rfl rfl HRW.out HLN.out HP0.out.1 hpn ?_; intro A3 c3 hc3 hrd3; rw [bvs_drop] at hrd3; have CE3 := Lib.hid (CE.out A3 c3 hrd3 hc3); clear hrd3))
        first
          | rw [HNP.out] at CE3
          | skip
        refine CE3.out.mono ?_
        rintro _ w9 ⟨rfl, hb9⟩
        have hV9 := HV1.out.grow hb9
        have c75 := hV9.b7.cell 5
        have c76 := hV9.b7.cell 6
        have f76 := hV9.b7.frozen 6
        simp only [List.getElem?_cons_zero, List.getElem?_cons_succ] at c75 c76
        have hE := hV9.b2
        have hEB := hV9.below
        have HV9 := Lib.hid hV9
        clear hb9 hV9 CE3 CE
        by_cases h1 : e' = 0
        · subst h1
          have hk' : k' ≤ n - p ∧ t' ≤ 1099511627776 ∧ s' < 4294967296 := by
            rcases htold with ⟨x1, x2, x3, h, h40, hs, hk, -, -⟩ | ⟨x, h, hx2⟩
            · simp only [Prod.mk.injEq] at h
              obtain ⟨rfl, rfl, rfl, -⟩ := h
              exact ⟨hk, h40, hs⟩
            · simp only [Prod.mk.injEq] at h
              omega
          obtain ⟨hk1, hk2, hk3⟩ := hk'
          by_cases h2 : t' = tt
          · subst h2
            by_cases h3 : p + k' < n
            · first
                | exact absurd h3 (by omega)
                | skip
              all_goals
                have h3i : (p : Int) + (k' : Int) < (n : Int) := by omega
                obtain ⟨wC, hwC⟩ : ∃ wC, wC = w9.setRow W.heap.size #[.int .i64 0, .int .i64 0, .int .i64 0, .int .i64 0, .slice none 0 0, .int .i64 0, .int .u32 0] := ⟨_, rfl⟩
                have h2C : Blk wC W.heap.size 29 [.int .i64 0, .int .i64 0, .int .i64 0, .int .i64 0, .slice none 0 0, .int .i64 0, .int .u32 0] := by rw [hwC]; exact hE.setRow_ _
                have hbC : Below W.heap.size W wC := by rw [hwC]; exact below_setRow hEB (Nat.le_refl _) _
                have H1Z := Lib.hid (show (#[.int .i64 0, .int .i64 0, .int .i64 0, .int .i64 0, .slice none 0 0, .int .i64 0, .int .u32 0] : Array Value).all (·.oneCell') = true by simp [Value.oneCell'])
                have HEE := Lib.hid hE
                have H2C := Lib.hid h2C
                have HBC := Lib.hid hbC
                have HWC := Lib.hid hwC
                clear h2C hbC hwC hE hEB htold
                go_wp2_with ((with_reducible show wpList _ _ _ (({ dst := none, op := .store 29 _ _, type := _, pos := _, after := _, guard := _ } : Oper) :: _) _ _); refine wpList_store_row rfl 29 (.tmp 2) (.tmp 105) rfl W.heap.size _ rfl rfl 29 _ HEE.out size_str rfl H1Z.out ?_; rw [← HWC.out])
                refine bodyPost_ret (results_cell_tmp32 Try.results8 _ _ W.heap.size 29 _ (0, 0) _ rfl H2C.out Try.underlying29 rfl size_str) rfl ?_
                rw [HOUT.out, if_neg (fun h => h rfl), if_neg (fun h => h rfl), if_pos h3]
                exact ⟨_, rfl, nilBlks _, HBC.out⟩
            · have h3i : ¬ (p : Int) + (k' : Int) < (n : Int) := by omega
              obtain ⟨Av, cv, rfl, -, -, -⟩ := own_form HV9.out.own
              obtain ⟨wA, hwA⟩ : ∃ wA, wA = w9.setCell ⟨B4 + 1, 6, none⟩ (.int .u32 (s' : Int)) := ⟨_, rfl⟩
              have hvA : Blk wA (B4 + 1) 29 [.int .i64 (b : Int), .int .i64 (u : Int), .int .i64 (r : Int), .int .i64 (md : Int), .slice Av bs.length cv, .int .i64 (t' : Int), .int .u32 (s' : Int)] := by rw [hwA]; exact HV9.out.b7.set_ 6 _
              have h2A : Blk wA W.heap.size 29 [.int .i64 0, .int .i64 0, .int .i64 0, .int .i64 0, .slice none 0 0, .int .i64 0, .int .u32 0] := by rw [hwA]; exact hE.setOther _ _ (by simp; omega)
              have hbA : Below W.heap.size W wA := by rw [hwA]; exact hEB.setCell (p := ⟨B4 + 1, 6, none⟩) (by simp; omega) _
              obtain ⟨wC, hwC⟩ : ∃ wC, wC = wA.setRow W.heap.size #[.int .i64 (b : Int), .int .i64 (u : Int), .int .i64 (r : Int), .int .i64 (md : Int), .slice Av bs.length cv, .int .i64 (t' : Int), .int .u32 (s' : Int)] := ⟨_, rfl⟩
              have h2C : Blk wC W.heap.size 29 [.int .i64 (b : Int), .int .i64 (u : Int), .int .i64 (r : Int), .int .i64 (md : Int), .slice Av bs.length cv, .int .i64 (t' : Int), .int .u32 (s' : Int)] := by rw [hwC]; exact h2A.setRow_ _
              have hbC : Below W.heap.size W wC := by rw [hwC]; exact below_setRow hbA (Nat.le_refl _) _
              have hoC : wC.ownsRow w5.heap.size 36 7 (.slice Av bs.length cv) bs.length (blksC bs) := by
                have h0 := HV9.out.own
                refine ⟨h0.1, ?_⟩
                rcases h0.2 with hn | ⟨q, cap, cur, eq, hbq, hgq, rest⟩
                · exact .inl hn
                · have hq2 := HSZ.out.2
                  exact .inr ⟨q, cap, cur, eq, hbq, by rw [hwC]; exact (setRow_other wA W.heap.size q _ (by omega)).trans (by rw [hwA]; exact (Below.heap_setCell _ _ _ _ (by simp; omega)).trans hgq), rest⟩
              have x0 := hvA.cell 0
              have x1 := hvA.cell 1
              have x2 := hvA.cell 2
              have x3 := hvA.cell 3
              have x4 := hvA.cell 4
              have x5 := hvA.cell 5
              have x6 := hvA.cell 6
              simp only [List.getElem?_cons_zero, List.getElem?_cons_succ] at x0 x1 x2 x3 x4 x5 x6
              have H1V := Lib.hid (show (#[.int .i64 (b : Int), .int .i64 (u : Int), .int .i64 (r : Int), .int .i64 (md : Int), .slice Av bs.length cv, .int .i64 (t' : Int), .int .u32 (s' : Int)] : Array Value).all (·.oneCell') = true by simp [Value.oneCell'])
              have H2A := Lib.hid h2A
              have H2C := Lib.hid h2C
              have HBC := Lib.hid hbC
              have HOC := Lib.hid hoC
              have HWA := Lib.hid hwA
              have HWC := Lib.hid hwC
              clear hvA h2A hbA h2C hbC hoC hwA hwC hE hEB htold
              go_wp2_with (first
                | ((with_reducible show wpList _ _ _ (({ dst := some 108, op := _, type := _, pos := _, after := _, guard := _ } : Oper) :: _) _ _); rw [← HWA.out])
                | ((with_reducible show wpList _ _ _ (({ dst := none, op := .store 29 _ _, type := _, pos := _, after := _, guard := _ } : Oper) :: _) _ _); refine wpList_store_row rfl 29 (.tmp 2) (.tmp 108) rfl W.heap.size _ rfl rfl 29 _ H2A.out size_str rfl H1V.out ?_; rw [← HWC.out]))
              refine bodyPost_ret (results_cell_tmp32 Try.results8 _ _ W.heap.size 29 _ (0, 0) _ rfl H2C.out Try.underlying29 rfl size_str) rfl ?_
              rw [HOUT.out, if_neg (fun h => h rfl), if_neg (fun h => h rfl), if_neg h3]
              exact ⟨_, rfl, IsBlks.of_own HOC.out, HBC.out⟩
          · have h2i : ¬ (t' : Int) = (tt : Int) := by omega
            obtain ⟨wC, hwC⟩ : ∃ wC, wC = w9.setRow W.heap.size #[.int .i64 0, .int .i64 0, .int .i64 0, .int .i64 0, .slice none 0 0, .int .i64 0, .int .u32 0] := ⟨_, rfl⟩
            have h2C : Blk wC W.heap.size 29 [.int .i64 0, .int .i64 0, .int .i64 0, .int .i64 0, .slice none 0 0, .int .i64 0, .int .u32 0] := by rw [hwC]; exact hE.setRow_ _
            have hbC : Below W.heap.size W wC := by rw [hwC]; exact below_setRow hEB (Nat.le_refl _) _
            have H1Z := Lib.hid (show (#[.int .i64 0, .int .i64 0, .int .i64 0, .int .i64 0, .slice none 0 0, .int .i64 0, .int .u32 0] : Array Value).all (·.oneCell') = true by simp [Value.oneCell'])
            have HEE := Lib.hid hE
            have H2C := Lib.hid h2C
            have HBC := Lib.hid hbC
            have HWC := Lib.hid hwC
            clear h2C hbC hwC hE hEB htold
            go_wp2_with ((with_reducible show wpList _ _ _ (({ dst := none, op := .store 29 _ _, type := _, pos := _, after := _, guard := _ } : Oper) :: _) _ _); refine wpList_store_row rfl 29 (.tmp 2) (.tmp 98) rfl W.heap.size _ rfl rfl 29 _ HEE.out size_str rfl H1Z.out ?_; rw [← HWC.out])
            refine bodyPost_ret (results_cell_tmp32 Try.results8 _ _ W.heap.size 29 _ (0, 0) _ rfl H2C.out Try.underlying29 rfl size_str) rfl ?_
            rw [HOUT.out, if_neg (fun h => h rfl), if_pos h2]
            exact ⟨_, rfl, nilBlks _, HBC.out⟩
        · have h1i : ¬ (e' : Int) = 0 := by omega
          obtain ⟨wC, hwC⟩ : ∃ wC, wC = w9.setRow W.heap.size #[.int .i64 0, .int .i64 0, .int .i64 0, .int .i64 0, .slice none 0 0, .int .i64 0, .int .u32 0] := ⟨_, rfl⟩
          have h2C : Blk wC W.heap.size 29 [.int .i64 0, .int .i64 0, .int .i64 0, .int .i64 0, .slice none 0 0, .int .i64 0, .int .u32 0] := by rw [hwC]; exact hE.setRow_ _
          have hbC : Below W.heap.size W wC := by rw [hwC]; exact below_setRow hEB (Nat.le_refl _) _
          have H1Z := Lib.hid (show (#[.int .i64 0, .int .i64 0, .int .i64 0, .int .i64 0, .slice none 0 0, .int .i64 0, .int .u32 0] : Array Value).all (·.oneCell') = true by simp [Value.oneCell'])
          have HEE := Lib.hid hE
          have H2C := Lib.hid h2C
          have HBC := Lib.hid hbC
          have HWC := Lib.hid hwC
          clear h2C hbC hwC hE hEB htold
          go_wp2_with ((with_reducible show wpList _ _ _ (({ dst := none, op := .store 29 _ _, type := _, pos := _, after := _, guard := _ } : Oper) :: _) _ _); refine wpList_store_row rfl 29 (.tmp 2) (.tmp 92) rfl W.heap.size _ rfl rfl 29 _ HEE.out size_str rfl H1Z.out ?_; rw [← HWC.out])
          refine bodyPost_ret (results_cell_tmp32 Try.results8 _ _ W.heap.size 29 _ (0, 0) _ rfl H2C.out Try.underlying29 rfl size_str) rfl ?_
          rw [HOUT.out, if_pos h1]
          exact ⟨_, rfl, nilBlks _, HBC.out⟩
    · have hpn2 : p < n := by omega
      have hl0 : (l.getD p 0).toNat ≠ 0 := fun h => hx (.inr h)
      have hHP := HP0.out
      have hn1 : n ≤ 10000 := hHP.2.1
      have hb16 : b ≤ 16777216 := hHP.2.2.1
      have hrw : Rd wr wr.heap.size A (bvs l) := (HRD.out.below hV.below).more hV.below.size
      have HRW := Lib.hid hrw
      have HV1 := Lib.hid hV
      have hpl : p < l.length := by rw [HN.out]; omega
      obtain ⟨ab, ao, rfl, -, hc0⟩ := hrw p _ (bvs_get l p hpl)
      obtain ⟨x0, hx0⟩ : ∃ x0 : Nat, x0 = l[p].toNat := ⟨_, rfl⟩
      rw [← hx0] at hc0
      have hxi : 0 < (x0 : Int) := by
        have h2 := hl0
        rw [List.getD_eq_getElem?_getD, List.getElem?_eq_getElem hpl] at h2
        have h3 : l[p].toNat ≠ 0 := h2
        omega
      have hpi : (p : Int) < (n : Int) := by omega
      have hpi2 : (p : Int) ≤ (n : Int) := by omega
      have hci : (n : Int) ≤ (c : Int) := by have := hHP.1; omega
      obtain ⟨A3, hA3⟩ : ∃ A3, A3 = (if c = p then some (⟨ab, ao, none⟩ : Addr) else Option.map (fun x => x.add p) (some (⟨ab, ao, none⟩ : Addr))) := ⟨_, rfl⟩
      have CG := Lib.hid (fun (w : World) (h : Below wr.heap.size wr w) => refBGet_at (w := w) (b := b) hA3 ((HRW.out.below h).more h.size) HN.out hHP.1 (by omega) hpn hb16)
      have hA3 : A3 = (if c = p then some (⟨ab, ao, none⟩ : Addr) else some ⟨ab, ao + p, none⟩) := by
        rw [hA3]
        simp only [Option.map_some, Addr.add]
        by_cases h : p = 0
        · subst h; simp
        · simp [h]
      have HA3 := Lib.hid hA3
      have q0 : wr.drew.cell? ⟨B4, 0, none⟩ = _ := hV.b4.cell 0
      have hO2 := hV.b4.grow ((Below.refl wr.heap.size wr).alloc (Nat.le_refl _) (.cells #[.int .i64 0, .int .i64 0, .int .i64 0, .int .i64 0, .int .u32 0, .int .i64 0, .int .i64 0] 36)).drew
      have r0 : (wr.alloc (.cells #[.int .i64 0, .int .i64 0, .int .i64 0, .int .i64 0, .int .u32 0, .int .i64 0, .int .i64 0] 36)).drew.cell? ⟨B4, 0, none⟩ = _ := hO2.cell 0
      simp only [List.getElem?_cons_zero] at q0 r0
      have hbl4 : B4 < wr.heap.size := hV.b4.lt
      clear hrw hV hx0 hA3 hx hO2
      rcases getB_told (l.drop p) b with ⟨mo, ra, mi, co, su, k2, hg, t1, t2, t3, t4, t5, t6, t7, t8, -⟩ | ⟨e, hg, he⟩
      · rw [List.length_drop, HN.out] at t8
        rw [hg] at CG
        unfold BGetOut at CG
        simp only at CG
        rw [show (.agg (blkC (mo, ra, mi, co, su)).toArray : Value) = .agg #[.int .i64 (mo : Int), .int .i64 (ra : Int), .int .i64 (mi : Int), .int .i64 (co : Int), .int .u32 (su : Int), .int .i64 0, .int .i64 0] from rfl] at CG
        go_wp2_with fail
        go_region_with (first
          | (go_at_call 18; rw [← HA3.out]; (with_reducible refine (CG.out wr.drew (Below.refl _ _).drew).mono ?_); rintro _ w2 ⟨rfl, hb2⟩; have hb2' : Below wr.heap.size wr w2 := (Below.refl _ _).drew.trans hb2; have HB2 := Lib.hid hb2'; clear hb2 hb2')
          | (go_at_call 18; rw [← HA3.out]; (with_reducible refine (CG.out (wr.alloc (.cells #[.int .i64 0, .int .i64 0, .int .i64 0, .int .i64 0, .int .u32 0, .int .i64 0, .int .i64 0] 36)).drew ((Below.refl _ _).alloc (Nat.le_refl _) _).drew).mono ?_); rintro _ w2 ⟨rfl, hb2⟩; have hb2' : Below wr.heap.size wr w2 := ((Below.refl _ _).alloc (Nat.le_refl _) _).drew.trans (hb2.mono (by simp)); have HB2 := Lib.hid hb2'; have hT2 : Blk w2 wr.heap.size 36 [.int .i64 0, .int .i64 0, .int .i64 0, .int .i64 0, .int .u32 0, .int .i64 0, .int .i64 0] := (show Blk (World.drew (wr.alloc (.cells #[.int .i64 0, .int .i64 0, .int .i64 0, .int .i64 0, .int .u32 0, .int .i64 0, .int .i64 0] 36))) wr.heap.size _ _ from blk_new wr _ _ rfl).grow hb2; have t0 := hT2.cell 0; have t1 := hT2.cell 1; have t2 := hT2.cell 2; have t3 := hT2.cell 3; have t4 := hT2.cell 4; have t5 := hT2.cell 5; have t6 := hT2.cell 6; have f0 := hT2.frozen 0; have f1 := hT2.frozen 1; have f2 := hT2.frozen 2; have f3 := hT2.frozen 3; have f4 := hT2.frozen 4; have f5 := hT2.frozen 5; have f6 := hT2.frozen 6; simp only [List.getElem?_cons_zero, List.getElem?_cons_succ] at t0 t1 t2 t3 t4 t5 t6; have HT2 := Lib.hid hT2; clear hb2 hb2' hT2))
        all_goals
          clear CG HA3 q0 r0
          first
            | (obtain ⟨G, hG⟩ : ∃ G, G = w2.heap.size := ⟨_, rfl⟩
               obtain ⟨wE, hwE⟩ : ∃ wE, wE = w2.alloc (.cells #[.int .i64 (mo : Int), .int .i64 (ra : Int), .int .i64 (mi : Int), .int .i64 (co : Int), .int .u32 (su : Int), .int .i64 0, .int .i64 0] 36) := ⟨_, rfl⟩
               have hE : Blk wE G 36 [.int .i64 (mo : Int), .int .i64 (ra : Int), .int .i64 (mi : Int), .int .i64 (co : Int), .int .u32 (su : Int), .int .i64 0, .int .i64 0] := by rw [hwE]; exact blk_new _ _ _ hG
               have hBE : Below wr.heap.size wr wE := by rw [hwE]; exact HB2.out.alloc HB2.out.size _
               have hGE : wr.heap.size ≤ G := by rw [hG]; exact HB2.out.size
               rw [← hwE, ← hG])
            | (obtain ⟨G, hG⟩ : ∃ G, G = wr.heap.size := ⟨_, rfl⟩
               obtain ⟨wE, hwE⟩ : ∃ wE, wE = (((((((w2.setCell ⟨wr.heap.size, 0, none⟩ (.int .i64 (mo : Int))).setCell ⟨wr.heap.size, 1, none⟩ (.int .i64 (ra : Int))).setCell ⟨wr.heap.size, 2, none⟩ (.int .i64 (mi : Int))).setCell ⟨wr.heap.size, 3, none⟩ (.int .i64 (co : Int))).setCell ⟨wr.heap.size, 4, none⟩ (.int .u32 (su : Int))).setCell ⟨wr.heap.size, 5, none⟩ (.int .i64 0)).setCell ⟨wr.heap.size, 6, none⟩ (.int .i64 0)) := ⟨_, rfl⟩
               have hE : Blk wE G 36 [.int .i64 (mo : Int), .int .i64 (ra : Int), .int .i64 (mi : Int), .int .i64 (co : Int), .int .u32 (su : Int), .int .i64 0, .int .i64 0] := by rw [hwE, hG]; exact set7 HT2.out _ _ _ _ _ _ _
               have hBE : Below wr.heap.size wr wE := by rw [hwE]; exact below7 HB2.out (Nat.le_refl _) _ _ _ _ _ _ _
               have hGE : wr.heap.size ≤ G := Nat.le_of_eq hG.symm
               rw [← hwE, ← hG]
               clear t0 t1 t2 t3 t4 t5 t6 f0 f1 f2 f3 f4 f5 f6 HT2)
          clear hwE hG HB2
          have HVE := Lib.hid (HV1.out.grow hBE)
          have hlE : l.length = n := HN.out
          obtain ⟨F, hF⟩ : ∃ F, F = p + k2 := ⟨_, rfl⟩
          have hFi : (p : Int) + (k2 : Int) = (F : Int) := by omega
          have hFn : F ≤ n := by omega
          have hFp : p < F := by omega
          have hra : ra ≤ 16777216 := by omega
          have hco : co ≤ 16777216 := by omega
          have HF := Lib.hid hF
          obtain ⟨wG, hwG⟩ : ∃ wG, wG = (wE.setCell ⟨G, 5, none⟩ (.int .i64 (F : Int))).setCell ⟨G, 6, none⟩ (.int .i64 (tt : Int)) := ⟨_, rfl⟩
          have hGG : Blk wG G 36 [.int .i64 (mo : Int), .int .i64 (ra : Int), .int .i64 (mi : Int), .int .i64 (co : Int), .int .u32 (su : Int), .int .i64 (F : Int), .int .i64 (tt : Int)] := by rw [hwG]; exact (hE.set_ 5 _).set_ 6 _
          have HVG := Lib.hid (HV1.out.grow (show Below wr.heap.size wr wG by rw [hwG]; exact (hBE.setCell (p := ⟨G, 5, none⟩) hGE _).setCell (p := ⟨G, 6, none⟩) hGE _))
          have HGG := Lib.hid hGG
          have HWG := Lib.hid hwG
          have hGB : B4 + 1 < G := by have := HV1.out.b7.lt; omega
          have hGN : ¬ B4 + 1 = G := by omega
          have hGN2 : ¬ G = B4 + 1 := by omega
          have m0 := hGG.cell 0
          have m1 := hGG.cell 1
          have m2 := hGG.cell 2
          have m3 := hGG.cell 3
          have m4 := hGG.cell 4
          have m5 := hGG.cell 5
          have m6 := hGG.cell 6
          simp only [List.getElem?_cons_zero, List.getElem?_cons_succ] at m0 m1 m2 m3 m4 m5 m6
          have x5 := hE.frozen 5
          have y5 := hE.cell 5
          have y6 := hE.cell 6
          simp only [List.getElem?_cons_zero, List.getElem?_cons_succ] at y5 y6
          have x6 := hE.frozen 6
          have e75 := HVE.out.b7.cell 5
          simp only [List.getElem?_cons_zero, List.getElem?_cons_succ] at e75
          have HHE := Lib.hid (And.intro hE (And.intro hBE hGE))
          clear hwG hGG hE hBE hGE hF
          by_cases hs : n - F < co
          · have hsi : (n : Int) < (F : Int) + (co : Int) := by omega
            have hres : endR l [(b : Int), (u : Int), (r : Int), (md : Int)] (parL l b (n + 1) p0 0 []) = noStream 11 := by
              rw [HPR.out]
              exact res_short hg (by rw [HN.out, ← HF.out]; exact hs)
            have hE2 := HVG.out.b2
            have hEB := HVG.out.below
            obtain ⟨wC, hwC⟩ : ∃ wC, wC = wG.setRow W.heap.size #[.int .i64 0, .int .i64 0, .int .i64 0, .int .i64 0, .slice none 0 0, .int .i64 0, .int .u32 0] := ⟨_, rfl⟩
            have h2C : Blk wC W.heap.size 29 [.int .i64 0, .int .i64 0, .int .i64 0, .int .i64 0, .slice none 0 0, .int .i64 0, .int .u32 0] := by rw [hwC]; exact hE2.setRow_ _
            have hbC : Below W.heap.size W wC := by rw [hwC]; exact below_setRow hEB (Nat.le_refl _) _
            have H1Z := Lib.hid (show (#[.int .i64 0, .int .i64 0, .int .i64 0, .int .i64 0, .slice none 0 0, .int .i64 0, .int .u32 0] : Array Value).all (·.oneCell') = true by simp [Value.oneCell'])
            have HEE := Lib.hid hE2
            have H2C := Lib.hid h2C
            have HBC := Lib.hid hbC
            have HWC := Lib.hid hwC
            clear h2C hbC hwC hE2 hEB
            go_wp2_with (first
              | ((with_reducible show wpList _ _ _ (({ dst := some 59, op := _, type := _, pos := _, after := _, guard := _ } : Oper) :: _) _ _); rw [← HWG.out])
              | ((with_reducible show wpList _ _ _ (({ dst := none, op := .store 29 _ _, type := _, pos := _, after := _, guard := _ } : Oper) :: _) _ _); refine wpList_store_row rfl 29 (.tmp 2) (.tmp 68) rfl W.heap.size _ rfl rfl 29 _ HEE.out size_str rfl H1Z.out ?_; rw [← HWC.out]))
            refine bodyPost_ret (results_cell_tmp32 Try.results8 _ _ W.heap.size 29 _ (0, 0) _ rfl H2C.out Try.underlying29 rfl size_str) rfl ?_
            rw [hres]
            exact ⟨_, rfl, nilBlks _, HBC.out⟩
          · have hsi : ¬ (n : Int) < (F : Int) + (co : Int) := by omega
            have hby : blkAt l b p = ((mo, ra, mi, co, su), F, 0) := by rw [HF.out]; exact blk_yes hg (by rw [HN.out, ← HF.out]; exact hs)
            have HPS := Lib.hid (HPR.out.trans (parL_step (k := k) (t := tt) (acc := bs) hby))
            clear hby
            obtain ⟨Av, cv, rfl, -, -, -⟩ := own_form HVG.out.own
            have c74 := HVG.out.b7.cell 4
            have c75 := HVG.out.b7.cell 5
            have f74 := HVG.out.b7.frozen 4
            have f75 := HVG.out.b7.frozen 5
            simp only [List.getElem?_cons_zero, List.getElem?_cons_succ] at c74 c75
            go_wp2_with (first
              | ((with_reducible show wpList _ _ _ (({ dst := some 59, op := _, type := _, pos := _, after := _, guard := _ } : Oper) :: _) _ _); rw [← HWG.out])
              | ((with_reducible show wpList _ _ _ (({ dst := some 73, op := _, type := _, pos := _, after := _, guard := _ } : Oper) :: _) _ _); go_must (refine wpList_app rfl (.tmp 70) (.tmp 72) 26 rfl w5.heap.size 36 i0 z0 7 56 Try.underlying26 hi0 hz0 hz1 hz2 hz3 (by decide) _ bs.length (blksC bs) rfl (HVG.out.own.alloc _) (wG.alloc (.cells #[.int .i64 (mo : Int), .int .i64 (ra : Int), .int .i64 (mi : Int), .int .i64 (co : Int), .int .u32 (su : Int), .int .i64 (F : Int), .int .i64 (tt : Int)] 36)).heap.size (some ⟨wG.heap.size, 0, none⟩) 1 1 [.int .i64 (mo : Int), .int .i64 (ra : Int), .int .i64 (mi : Int), .int .i64 (co : Int), .int .u32 (su : Int), .int .i64 (F : Int), .int .i64 (tt : Int)] rfl (Rd.new wG _ _) rfl (oneCell_blkF (mo, ra, mi, co, su) F tt) (by simp only [maxLen]; omega) (by omega) (by have := HVG.out.le; simp; omega) ?_; intro v4 w4 hown4 hg4; obtain ⟨A4, c4, rfl, -, -, -⟩ := own_form hown4; obtain ⟨d7, dV⟩ := refV_more (q := ((mo, ra, mi, co, su), F, tt)) (tt' := tt + ra) HVG.out (by have := HSZ.out.1; have := HSZ.out.2; omega) (by have := HSZ.out.2; omega) (by have := HSZ.out.2; omega) (by have := HSZ.out.1; omega) (by omega) (by have := HSZ.out.1; omega) hown4 hg4; have k74 := d7.cell 4; have k75 := d7.cell 5; have j74 := d7.frozen 4; have j75 := d7.frozen 5; have g41 : w4.cell? ⟨G, 1, none⟩ = some (.int .i64 (ra : Int)) := Blk.cell ((hg4.block G (by have := HGG.out.lt; simp; omega) (fun e => by have := (HV1.out.own.lt G e.symm).2; have := HHE.out.2.2; omega)).trans ((Below.heap_alloc _ _ _ HGG.out.lt).trans HGG.out)) 1; simp only [List.getElem?_cons_zero, List.getElem?_cons_succ] at k74 k75; rw [Int.natCast_add] at dV; have HDV := Lib.hid dV; clear c74 c75 f74 f75 m0 m1 m2 m3 m4 m5 m6 hown4 hg4 d7 dV)))
            go_roundw
            case rel =>
              refine ⟨k, F + co, tt + ra, _, _, by go_num, HPS, ?_, ?_, ?_, ?_, HDV.out⟩
              · have hs2 := hs; omega
              · omega
              · exact step_sum htt hra hFp
              · rw [List.length_append, List.length_singleton]; omega
            case measure => simp [intOf]; omega
      · have he0 : e ≠ 0 := by omega
        have hres : endR l [(b : Int), (u : Int), (r : Int), (md : Int)] (parL l b (n + 1) p0 0 []) = noStream e := by
          rw [HPR.out]
          exact res_bad hg he0 hpl hl0
        rw [hres]
        rw [hg] at CG
        unfold BGetOut at CG
        simp only at CG
        rw [show (.agg (blkC (0, 0, 0, 0, 0)).toArray : Value) = .agg #[.int .i64 0, .int .i64 0, .int .i64 0, .int .i64 0, .int .u32 0, .int .i64 0, .int .i64 0] from rfl] at CG
        go_wp2_with fail
        go_region_with (first
          | (go_at_call 18; rw [← HA3.out]; (with_reducible refine (CG.out wr.drew (Below.refl _ _).drew).mono ?_); rintro _ w2 ⟨rfl, hb2⟩; have hb2' : Below wr.heap.size wr w2 := (Below.refl _ _).drew.trans hb2; have HB2 := Lib.hid hb2'; clear hb2 hb2')
          | (go_at_call 18; rw [← HA3.out]; (with_reducible refine (CG.out (wr.alloc (.cells #[.int .i64 0, .int .i64 0, .int .i64 0, .int .i64 0, .int .u32 0, .int .i64 0, .int .i64 0] 36)).drew ((Below.refl _ _).alloc (Nat.le_refl _) _).drew).mono ?_); rintro _ w2 ⟨rfl, hb2⟩; have hb2' : Below wr.heap.size wr w2 := ((Below.refl _ _).alloc (Nat.le_refl _) _).drew.trans (hb2.mono (by simp)); have HB2 := Lib.hid hb2'; have hT2 : Blk w2 wr.heap.size 36 [.int .i64 0, .int .i64 0, .int .i64 0, .int .i64 0, .int .u32 0, .int .i64 0, .int .i64 0] := (show Blk (World.drew (wr.alloc (.cells #[.int .i64 0, .int .i64 0, .int .i64 0, .int .i64 0, .int .u32 0, .int .i64 0, .int .i64 0] 36))) wr.heap.size _ _ from blk_new wr _ _ rfl).grow hb2; have t0 := hT2.cell 0; have t1 := hT2.cell 1; have t2 := hT2.cell 2; have t3 := hT2.cell 3; have t4 := hT2.cell 4; have t5 := hT2.cell 5; have t6 := hT2.cell 6; have f0 := hT2.frozen 0; have f1 := hT2.frozen 1; have f2 := hT2.frozen 2; have f3 := hT2.frozen 3; have f4 := hT2.frozen 4; have f5 := hT2.frozen 5; have f6 := hT2.frozen 6; simp only [List.getElem?_cons_zero, List.getElem?_cons_succ] at t0 t1 t2 t3 t4 t5 t6; have HT2 := Lib.hid hT2; clear hb2 hb2' hT2))
        all_goals
          clear CG HA3 q0 r0
          first
            | (obtain ⟨G, hG⟩ : ∃ G, G = w2.heap.size := ⟨_, rfl⟩
               obtain ⟨wE, hwE⟩ : ∃ wE, wE = w2.alloc (.cells #[.int .i64 0, .int .i64 0, .int .i64 0, .int .i64 0, .int .u32 0, .int .i64 0, .int .i64 0] 36) := ⟨_, rfl⟩
               have hE : Blk wE G 36 [.int .i64 0, .int .i64 0, .int .i64 0, .int .i64 0, .int .u32 0, .int .i64 0, .int .i64 0] := by rw [hwE]; exact blk_new _ _ _ hG
               have hBE : Below wr.heap.size wr wE := by rw [hwE]; exact HB2.out.alloc HB2.out.size _
               have hGE : wr.heap.size ≤ G := by rw [hG]; exact HB2.out.size
               rw [← hwE, ← hG])
            | (obtain ⟨G, hG⟩ : ∃ G, G = wr.heap.size := ⟨_, rfl⟩
               obtain ⟨wE, hwE⟩ : ∃ wE, wE = (((((((w2.setCell ⟨wr.heap.size, 0, none⟩ (.int .i64 0)).setCell ⟨wr.heap.size, 1, none⟩ (.int .i64 0)).setCell ⟨wr.heap.size, 2, none⟩ (.int .i64 0)).setCell ⟨wr.heap.size, 3, none⟩ (.int .i64 0)).setCell ⟨wr.heap.size, 4, none⟩ (.int .u32 0)).setCell ⟨wr.heap.size, 5, none⟩ (.int .i64 0)).setCell ⟨wr.heap.size, 6, none⟩ (.int .i64 0)) := ⟨_, rfl⟩
               have hE : Blk wE G 36 [.int .i64 0, .int .i64 0, .int .i64 0, .int .i64 0, .int .u32 0, .int .i64 0, .int .i64 0] := by rw [hwE, hG]; exact set7 HT2.out _ _ _ _ _ _ _
               have hBE : Below wr.heap.size wr wE := by rw [hwE]; exact below7 HB2.out (Nat.le_refl _) _ _ _ _ _ _ _
               have hGE : wr.heap.size ≤ G := Nat.le_of_eq hG.symm
               rw [← hwE, ← hG]
               clear t0 t1 t2 t3 t4 t5 t6 f0 f1 f2 f3 f4 f5 f6 HT2)
          clear hwE hG HB2
          have HVE := Lib.hid (HV1.out.grow hBE)
          have hei : ¬ (e : Int) = 0 := by omega
          have hE2 := HVE.out.b2
          have hEB := HVE.out.below
          obtain ⟨wC, hwC⟩ : ∃ wC, wC = wE.setRow W.heap.size #[.int .i64 0, .int .i64 0, .int .i64 0, .int .i64 0, .slice none 0 0, .int .i64 0, .int .u32 0] := ⟨_, rfl⟩
          have h2C : Blk wC W.heap.size 29 [.int .i64 0, .int .i64 0, .int .i64 0, .int .i64 0, .slice none 0 0, .int .i64 0, .int .u32 0] := by rw [hwC]; exact hE2.setRow_ _
          have hbC : Below W.heap.size W wC := by rw [hwC]; exact below_setRow hEB (Nat.le_refl _) _
          have H1Z := Lib.hid (show (#[.int .i64 0, .int .i64 0, .int .i64 0, .int .i64 0, .slice none 0 0, .int .i64 0, .int .u32 0] : Array Value).all (·.oneCell') = true by simp [Value.oneCell'])
          have HEE := Lib.hid hE2
          have H2C := Lib.hid h2C
          have HBC := Lib.hid hbC
          have HWC := Lib.hid hwC
          clear h2C hbC hwC hE hBE hGE hE2 hEB
          go_wp2_with ((with_reducible show wpList _ _ _ (({ dst := none, op := .store 29 _ _, type := _, pos := _, after := _, guard := _ } : Oper) :: _) _ _); refine wpList_store_row rfl 29 (.tmp 2) (.tmp 50) rfl W.heap.size _ rfl rfl 29 _ HEE.out size_str rfl H1Z.out ?_; rw [← HWC.out])
          refine bodyPost_ret (results_cell_tmp32 Try.results8 _ _ W.heap.size 29 _ (0, 0) _ rfl H2C.out Try.underlying29 rfl size_str) rfl ?_
          exact ⟨_, rfl, nilBlks _, HBC.out⟩
end Go.Proofs.Ytlbpolkmhhmkgaa
namespace Go.Proofs.Ytlbpolkmhhmkgaa
open Go.RowKit

/-- A block and its payload. -/
abbrev BP := B7 × List UInt8
def pieceB (q : BP) : List UInt8 := blkL q.1.mo.toNat q.1.ra.toNat q.1.mi.toNat q.1.co.toNat q.1.su.toNat
def okP (b : Int) (q : BP) : Bool := mayBk q.1.mo q.1.ra q.1.mi q.1.co b && decide ((q.2.length : Int) = q.1.co)
def bytesP (xs : List BP) : List UInt8 := xs.flatMap fun q => pieceB q ++ q.2
def rawP : List BP → Nat
  | [] => 0
  | q :: r => q.1.ra.toNat + rawP r
theorem bytesP_snoc (xs : List BP) (q : BP) : bytesP (xs ++ [q]) = bytesP xs ++ (pieceB q ++ q.2) := by simp [bytesP]
theorem rawP_snoc : ∀ (xs : List BP) (q : BP), rawP (xs ++ [q]) = rawP xs + q.1.ra.toNat
  | [], q => by simp [rawP]
  | x :: r, q => by
    have := rawP_snoc r q
    simp only [List.cons_append, rawP]
    omega
/-- What Put tells. -/
def putR (b u r m : Int) (nb np : Nat) (xs : List BP) (su : Int) : List UInt8 × Nat :=
  if mayO b u r m = false then ([], 10) else if np ≠ nb then ([], 15) else if xs.all (okP b) = true then (headS b.toNat u.toNat r.toNat m.toNat ++ bytesP xs ++ endL (rawP xs) su.toNat, 0) else ([], 15)
def PutOut (W : World) (q : List UInt8 × Nat) (e : Ending) (w' : World) : Prop := ∃ v, e = .returned (.tuple #[v, .int .i64 (q.2 : Int)]) ∧ IsBytes q.1 v w' ∧ Below W.heap.size W w'
/-- The numbers of a block that came in. -/
def B7.inI (x : B7) : Prop := (-9223372036854775808 ≤ x.ra ∧ x.ra ≤ 9223372036854775807) ∧ (-9223372036854775808 ≤ x.mi ∧ x.mi ≤ 9223372036854775807) ∧ (-9223372036854775808 ≤ x.co ∧ x.co ≤ 9223372036854775807) ∧ (-9223372036854775808 ≤ x.fr ∧ x.fr ≤ 9223372036854775807) ∧ (0 ≤ x.su ∧ x.su ≤ 4294967295)
/-- One that may be: its numbers. -/
theorem okP_nat {b : Nat} {q : BP} (hi : q.1.inI) (h : okP (b : Int) q = true) (hb : b ≤ 16777216) : ∃ mo ra mi co su : Nat, q.1 = ⟨mo, ra, mi, co, su, q.1.fr, q.1.pl⟩ ∧ mo ≤ 5 ∧ 1 ≤ ra ∧ ra ≤ 16777216 ∧ mi ≤ 100000000 ∧ co ≤ 16777216 ∧ su < 4294967296 ∧ q.2.length = co ∧ pieceB q = blkL mo ra mi co su ∧
    mayBk (mo : Int) (ra : Int) (mi : Int) (co : Int) (b : Int) = true ∧ q.1.ra.toNat = ra := by
  obtain ⟨⟨mo, ra, mi, co, su, fr, pl⟩, p⟩ := q
  obtain ⟨-, -, -, -, hs0, hs1⟩ := hi
  unfold okP at h
  rw [Bool.and_eq_true] at h
  obtain ⟨h1, h2⟩ := h
  simp only [decide_eq_true_eq] at h1 h2 hs0 hs1
  obtain ⟨mo, ra, mi, co, rfl, rfl, rfl, rfl⟩ := mayBk_ex h1
  obtain ⟨su, rfl⟩ := Int.eq_ofNat_of_zero_le hs0
  obtain ⟨k5, k1, km, kz, kn⟩ := mayBk_nat h1
  have hmi : mi ≤ 3 * ra + 64 := by
    by_cases h0 : mo = 0
    · have := kz h0; omega
    · exact (kn h0).1
  have hco : co ≤ ra := by
    by_cases h0 : mo = 0
    · have := kz h0; omega
    · have := kn h0; omega
  have h3 : p.length = co := Int.ofNat.inj h2
  have h4 : su ≤ 4294967295 := by omega
  exact ⟨mo, ra, mi, co, su, rfl, k5, k1, by omega, by omega, by omega, by omega, h3, rfl, h1, rfl⟩
theorem all_take_false {α : Type} {p : α → Bool} {l : List α} {k : Nat} {x : α} (h : l[k]? = some x) (hp : p x = false) : l.all p = false := by
  rw [List.all_eq_false]
  exact ⟨x, List.mem_of_getElem? h, by rw [hp]; decide⟩
theorem bytesP_le : ∀ (xs : List BP) {b : Nat} (_ : b ≤ 16777216), (∀ q ∈ xs, q.1.inI ∧ okP (b : Int) q = true ∧ q.2.length ≤ 1000) → (bytesP xs).length ≤ 1017 * xs.length ∧ rawP xs ≤ 16777216 * xs.length
  | [], _, _, _ => ⟨Nat.le_refl _, Nat.le_refl _⟩
  | q :: r, b, hb, h => by
    obtain ⟨h1, h2⟩ := bytesP_le r hb (fun x hx => h x (by simp [hx]))
    obtain ⟨hi, ho, hl⟩ := h q (by simp)
    obtain ⟨mo, ra, mi, co, su, he, -, -, h4, h5, h6, -, h7, h8, h9, h10⟩ := okP_nat hi ho hb
    have h17 : (pieceB q).length ≤ 17 := by
      rw [h8]
      obtain ⟨k5, k1, km, kz, kn⟩ := mayBk_nat h9
      refine blkL_len h4 ?_ ?_
      · by_cases h0 : mo = 0
        · have := kz h0; omega
        · exact (kn h0).1
      · by_cases h0 : mo = 0
        · have := kz h0; omega
        · have := kn h0; omega
    have e1 : (bytesP (q :: r)).length = (pieceB q).length + q.2.length + (bytesP r).length := by rw [show bytesP (q :: r) = (pieceB q ++ q.2) ++ bytesP r from rfl, List.length_append, List.length_append]
    have e2 : rawP (q :: r) = q.1.ra.toNat + rawP r := rfl
    rw [e1, e2, List.length_cons]
    omega
end Go.Proofs.Ytlbpolkmhhmkgaa
