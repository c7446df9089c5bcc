/- Layer 21: the law CanonMakes. -/
import Derived.Test.YtgcegdjnemlcoaaCanonKn
namespace Go.Proofs.Ytgcegdjnemlcoaa
open Go.RowKit Go.Sort Go.Shelf

set_option maxRecDepth 100000 in
set_option maxHeartbeats 4000000 in
theorem makes_nil (code n err : Int) (he : err = 2 ∨ err = 3) (A : Option Addr) (L m : Nat) (l : List Int) (w : World) (hr : Rd w w.heap.size A (zvs l)) (hL : l.length = L) (hL3 : L ≤ 300)
    (hmk : Calls Try.prog 15 #[.slice A L m] w fun e w' => e = .returned (.tuple #[.pointer none, .int .i64 err]) ∧ w' = w) (hck : ckE l = err) :
    Calls Try.prog 6 #[.slice A L m, .int .i64 code, .int .i64 n] w (Yes w) := by
  have CK := Lib.hid canonKnown_any
  have h2 : ¬ ((300 : Int) < (L : Int)) := by omega
  have C1 := Lib.hid hmk
  have C2 := Lib.hid (ref_check (m := m) hr hL (by omega))
  have C3 := Lib.hid (ref_codes (m := m) hr hL (by omega))
  have HN := Lib.hid (fun W => codesLetter_nil code n W)
  have HO := Lib.hid (fun W => codesOf_nil (L : Int) W)
  rw [hck] at C2
  clear hr hL hmk hck
  rcases he with rfl | rfl
  · go_enter Try.func6, Try.ntmps6
    go_wp2_with fail
    refine C1.out.mono ?_
    rintro e w1 ⟨rfl, hw⟩
    subst w1
    go_wp2_with fail
    refine C2.out.mono ?_
    rintro e w1 ⟨rfl, hw⟩
    subst w1
    go_wp2_with fail
    refine C3.out.mono ?_
    rintro e w2 ⟨v2, rfl, hv2, hb2⟩
    have HB2 := Lib.hid hb2
    clear hv2 hb2 C1 C2 C3
    go_wp2
    go_loopw [10, 11, 13] (fun x b i wr => x = .int .i64 0 ∧ b = .bool false ∧ i = .int .i64 0 ∧ wr = w2) (fun _ _ _ _ => 0)
    case atStart => exact ⟨rfl, rfl, rfl, rfl⟩
    case round =>
      obtain ⟨rfl, rfl, rfl, hw⟩ := hrel
      subst hw
      by_cases hL0 : (0 : Int) < (L : Int)
      · go_wp2_with fail
        refine (HN.out _).mono ?_
        rintro e w3 ⟨rfl, hw⟩
        subst hw
        go_wp2_with fail
        refine (HO.out _).mono ?_
        rintro e w3 ⟨rfl, hw⟩
        subst hw
        go_wp2_with fail
        refine (CK.out _).mono ?_
        rintro e w6 ⟨rfl, hb6⟩
        have HB6 := Lib.hid (HB2.out.trans (hb6.mono HB2.out.size))
        clear hb6
        go_wp2
        go_ret
        exact ⟨rfl, HB6.out⟩
      · go_wp2_with fail
        refine (HN.out _).mono ?_
        rintro e w3 ⟨rfl, hw⟩
        subst hw
        go_wp2_with fail
        refine (HO.out _).mono ?_
        rintro e w3 ⟨rfl, hw⟩
        subst hw
        go_wp2_with fail
        refine (CK.out _).mono ?_
        rintro e w6 ⟨rfl, hb6⟩
        have HB6 := Lib.hid (HB2.out.trans (hb6.mono HB2.out.size))
        clear hb6
        go_wp2
        go_ret
        exact ⟨rfl, HB6.out⟩
  · go_enter Try.func6, Try.ntmps6
    go_wp2_with fail
    refine C1.out.mono ?_
    rintro e w1 ⟨rfl, hw⟩
    subst w1
    go_wp2_with fail
    refine C2.out.mono ?_
    rintro e w1 ⟨rfl, hw⟩
    subst w1
    go_wp2_with fail
    refine C3.out.mono ?_
    rintro e w2 ⟨v2, rfl, hv2, hb2⟩
    have HB2 := Lib.hid hb2
    clear hv2 hb2 C1 C2 C3
    go_wp2
    go_loopw [10, 11, 13] (fun x b i wr => x = .int .i64 0 ∧ b = .bool false ∧ i = .int .i64 0 ∧ wr = w2) (fun _ _ _ _ => 0)
    case atStart => exact ⟨rfl, rfl, rfl, rfl⟩
    case round =>
      obtain ⟨rfl, rfl, rfl, hw⟩ := hrel
      subst hw
      by_cases hL0 : (0 : Int) < (L : Int)
      · go_wp2_with fail
        refine (HN.out _).mono ?_
        rintro e w3 ⟨rfl, hw⟩
        subst hw
        go_wp2_with fail
        refine (HO.out _).mono ?_
        rintro e w3 ⟨rfl, hw⟩
        subst hw
        go_wp2_with fail
        refine (CK.out _).mono ?_
        rintro e w6 ⟨rfl, hb6⟩
        have HB6 := Lib.hid (HB2.out.trans (hb6.mono HB2.out.size))
        clear hb6
        go_wp2
        go_ret
        exact ⟨rfl, HB6.out⟩
      · go_wp2_with fail
        refine (HN.out _).mono ?_
        rintro e w3 ⟨rfl, hw⟩
        subst hw
        go_wp2_with fail
        refine (HO.out _).mono ?_
        rintro e w3 ⟨rfl, hw⟩
        subst hw
        go_wp2_with fail
        refine (CK.out _).mono ?_
        rintro e w6 ⟨rfl, hb6⟩
        have HB6 := Lib.hid (HB2.out.trans (hb6.mono HB2.out.size))
        clear hb6
        go_wp2
        go_ret
        exact ⟨rfl, HB6.out⟩
set_option maxRecDepth 100000 in
set_option maxHeartbeats 4000000 in
theorem makes_ok (code n : Int) (A : Option Addr) (L m : Nat) (l : List Int) (w : World) (hr : Rd w w.heap.size A (zvs l)) (hL : l.length = L) (hL3 : L ≤ 300) (hok : l.any cBad = false) (hw : WholeC l) :
    Calls Try.prog 6 #[.slice A L m, .int .i64 code, .int .i64 n] w (Yes w) := by
  have CK := Lib.hid canonKnown_any
  have h2 : ¬ ((300 : Int) < (L : Int)) := by omega
  have hck : ckE l = 0 := by unfold ckE; rw [hok, if_neg (by decide), if_pos ((wholeB_iff l).2 hw)]
  have C1 := Lib.hid (canonMake_ok (m := m) hr hL (by omega) hok hw)
  have hl := cBad_none.1 hok
  have HR := Lib.hid (And.intro hr (And.intro hL hl))
  clear hr hL hok hw hl
  go_enter Try.func6, Try.ntmps6
  go_wp2_with fail
  refine C1.out.mono ?_
  rintro e w1 ⟨E, g, M, S, rfl, ho, hca, hb1⟩
  have hr1 := (HR.out.1.below hb1).more hb1.size
  have C2 := Lib.hid (ref_check (m := m) hr1 HR.out.2.1 (by omega))
  rw [hck] at C2
  have C3 := Lib.hid (ref_codes (m := m) hr1 HR.out.2.1 (by omega))
  have H1 := Lib.hid (And.intro ho (And.intro hca (And.intro hb1 hr1)))
  clear ho hca hb1 hr1 hck C1
  go_wp2_with fail
  refine C2.out.mono ?_
  rintro e w2 ⟨rfl, hw⟩
  subst hw
  go_wp2_with fail
  refine C3.out.mono ?_
  rintro e w3 ⟨v3, rfl, hv3, hb3⟩
  obtain ⟨g3, n3, rfl, hn3, -, hk3⟩ := hv3
  have hn3L : n3 = L := by rw [hn3, outC_len, natL_len]; exact HR.out.2.1
  subst hn3L
  have H3 := Lib.hid (And.intro (H1.out.2.1.grow hb3) (And.intro ((H1.out.2.2.2.below hb3).more hb3.size) (And.intro hk3 (H1.out.2.2.1.trans (hb3.mono H1.out.2.2.1.size)))))
  have HO := Lib.hid H1.out.1
  have hLn : (natL l).length = n3 := by rw [natL_len]; exact HR.out.2.1
  have HLn := Lib.hid hLn
  clear hn3 hk3 hb3 C2 C3 H1 hLn
  go_wp2
  go_loopw [10, 11, 13] (fun x b i wr => ∃ (k : Nat) (X : Int) (B : Bool), k ≤ n3 ∧ i = .int .i64 (k : Int) ∧ x = .int .i64 X ∧ b = .bool B ∧ Hid ((∃ j, j < n3 ∧ 0 < (natL l).getD j 0 ∧ code = (codeL (natL l) j : Int) ∧ n = ((natL l).getD j 0 : Int) ∧ X = (j : Int) ∧ B = true) ∨ ((∀ j, j < k → 0 < (natL l).getD j 0 → ¬ (code = (codeL (natL l) j : Int) ∧ n = ((natL l).getD j 0 : Int))) ∧ X = 0 ∧ B = false)) ∧ wr.heap = w3.heap ∧ Below w.heap.size w wr) (fun _ _ i _ => n3 - (intOf i).toNat)
  case atStart => exact ⟨0, 0, false, Nat.zero_le _, rfl, rfl, rfl, Lib.hid (.inr ⟨fun j hj => by omega, rfl, rfl⟩), rfl, H3.out.2.2.2⟩
  case round =>
    obtain ⟨k, X, B, hk, rfl, rfl, rfl, HQ, hh, hb⟩ := hrel
    have HH := Lib.hid hh
    have HB := Lib.hid hb
    have hcaw := H3.out.1.same hh
    clear hh hb
    by_cases hkn : k < n3
    · have hkl : k < l.length := by have := HR.out.2.1; omega
      have hkN : k < (natL l).length := by have := HLn.out; omega
      have C4 := codesOf_in hcaw k hkn
      have hpc := pat_code HO.out hkN
      obtain ⟨pa, hpa⟩ : ∃ pa, pa = (pat (codesS (natL l) S) k).1 := ⟨_, rfl⟩
      obtain ⟨pb, hpb⟩ : ∃ pb, pb = (pat (codesS (natL l) S) k).2 := ⟨_, rfl⟩
      rw [← hpa, ← hpb] at C4
      have hlk := HR.out.2.2 _ (List.getElem_mem hkl)
      have hgk := natL_get l hkl
      have hpb2 : pb = (natL l).getD k 0 := by
        rw [hpb, hpc]
        by_cases h0 : 0 < (natL l).getD k 0
        · rw [if_pos h0]; rfl
        · rw [if_neg h0]; show 0 = _; omega
      have hpa2 : (pa : Int) = if (1 ≤ (natL l).getD k 0 ∧ (natL l).getD k 0 < 16) ∨ ((natL l).getD k 0 = 16 ∧ 1 ≤ 16 ∧ k < 0) then (codeL (natL l) k : Int) else 0 := by
        rw [hpa, hpc]
        by_cases h0 : 0 < (natL l).getD k 0
        · rw [if_pos h0, if_pos (.inl ⟨h0, by omega⟩)]; rfl
        · rw [if_neg h0, if_neg (by omega)]; rfl
      have hpa3 : 0 < pb → pa = codeL (natL l) k := fun h => by
        rw [hpb2] at h
        rw [hpa, hpc, if_pos h]; rfl
      have hcm := zvs_getC _ (outC_get (natL l) 16 0 hkN)
      rw [← hpa2] at hcm
      obtain ⟨mb, mo, hme, -, hcM⟩ := (Rd.of_blk H3.out.2.2.1) k _ hcm
      obtain ⟨rfl, rfl⟩ : g3 = mb ∧ mo = 0 := by injection hme with e; injection e with e1 e2; exact ⟨e1, e2.symm⟩
      rw [Nat.zero_add] at hcM
      have hcM := (World.cell?_of_block (by rw [HH.out])).trans hcM
      obtain ⟨lb, lo, rfl, -, hcL⟩ := cell_of_rd H3.out.2.1 hkl
      rw [show l[k]'hkl = (pb : Int) by rw [hpb2, hgk]; omega] at hcL
      have hcL := (World.cell?_of_block (by rw [HH.out])).trans hcL
      have HP := Lib.hid (And.intro hpb2 hpa3)
      have C4 := Lib.hid C4
      have hki : (k : Int) < (n3 : Int) := by omega
      clear hpc hpa hpb hpa2 hpa3 hcm hme hgk hlk hcaw hpb2
      by_cases h0 : 0 < pb
      · have d0 : decide (0 < pb) = true := decide_eq_true h0
        by_cases h1 : (pb : Int) = n
        · have d1 : ((pb : Int) == n) = true := beq_iff_eq.2 h1
          by_cases h3 : (pa : Int) = code
          · have d3 : ((pa : Int) == code) = true := beq_iff_eq.2 h3
            have HQ2 := Lib.hid (show ∃ j, j < n3 ∧ 0 < (natL l).getD j 0 ∧ code = (codeL (natL l) j : Int) ∧ n = ((natL l).getD j 0 : Int) ∧ (k : Int) = (j : Int) ∧ true = true from ⟨k, hkn, by rw [← HP.out.1]; exact h0, by rw [← h3, HP.out.2 h0], by rw [← h1, HP.out.1], rfl, rfl⟩)
            clear d1 d3 HQ
            subst h1
            subst h3
            go_wp2_with fail
            refine C4.out.mono ?_
            rintro e w5 ⟨rfl, q, rfl⟩
            have e1 := (World.cell?_of_block (w := wr) (w' := wr.drewN q) rfl).trans hcM
            have e2 := (World.cell?_of_block (w := wr) (w' := wr.drewN q) rfl).trans hcL
            clear hcM hcL C4
            go_wp2
            go_roundw
            case rel => exact ⟨k + 1, (k : Int), true, by omega, by go_num, rfl, rfl, Lib.hid (.inl (by obtain ⟨j, a1, a2, a3, a4, a5, -⟩ := HQ2.out; exact ⟨j, a1, a2, a3, a4, a5, by first | trivial | rfl⟩)), HH.out, below_drewN HB.out q⟩
            case measure => simp [intOf]; omega
          · have d3 : ((pa : Int) == code) = false := beq_eq_false_iff_ne.2 h3
            have HNO := Lib.hid (show ¬ (code = (codeL (natL l) k : Int) ∧ n = ((natL l).getD k 0 : Int)) from fun e => h3 (by rw [e.1, HP.out.2 h0]))
            clear d1
            subst h1
            go_wp2_with fail
            refine C4.out.mono ?_
            rintro e w5 ⟨rfl, q, rfl⟩
            have e1 := (World.cell?_of_block (w := wr) (w' := wr.drewN q) rfl).trans hcM
            have e2 := (World.cell?_of_block (w := wr) (w' := wr.drewN q) rfl).trans hcL
            clear hcM hcL C4
            go_wp2
            go_roundw
            case rel => exact ⟨k + 1, X, B, by omega, by go_num, rfl, rfl, Lib.hid (HQ.out.imp id fun hq => ⟨fun j hj => by
                by_cases e : j = k
                · subst e; exact fun _ => HNO.out
                · exact hq.1 j (by omega), hq.2⟩), HH.out, below_drewN HB.out q⟩
            case measure => simp [intOf]; omega
        · have d1 : ((pb : Int) == n) = false := beq_eq_false_iff_ne.2 h1
          have HNO := Lib.hid (show ¬ (code = (codeL (natL l) k : Int) ∧ n = ((natL l).getD k 0 : Int)) from fun e => h1 (by rw [e.2, HP.out.1]))
          go_wp2_with fail
          refine C4.out.mono ?_
          rintro e w5 ⟨rfl, q, rfl⟩
          have e1 := (World.cell?_of_block (w := wr) (w' := wr.drewN q) rfl).trans hcM
          have e2 := (World.cell?_of_block (w := wr) (w' := wr.drewN q) rfl).trans hcL
          clear hcM hcL C4
          go_wp2
          go_roundw
          case rel => exact ⟨k + 1, X, B, by omega, by go_num, rfl, rfl, Lib.hid (HQ.out.imp id fun hq => ⟨fun j hj => by
              by_cases e : j = k
              · subst e; exact fun _ => HNO.out
              · exact hq.1 j (by omega), hq.2⟩), HH.out, below_drewN HB.out q⟩
          case measure => simp [intOf]; omega
      · have d0 : decide ((0 : Int) < (pb : Int)) = false := decide_eq_false (by omega)
        have HNO := Lib.hid (show 0 < (natL l).getD k 0 → ¬ (code = (codeL (natL l) k : Int) ∧ n = ((natL l).getD k 0 : Int)) from fun e => absurd (by rw [HP.out.1]; exact e) h0)
        clear d0
        obtain rfl : pb = 0 := by omega
        go_wp2_with fail
        refine C4.out.mono ?_
        rintro e w5 ⟨rfl, q, rfl⟩
        have e1 := (World.cell?_of_block (w := wr) (w' := wr.drewN q) rfl).trans hcM
        have e2 := (World.cell?_of_block (w := wr) (w' := wr.drewN q) rfl).trans hcL
        clear hcM hcL C4
        go_wp2
        go_roundw
        case rel => exact ⟨k + 1, X, B, by omega, by go_num, rfl, rfl, Lib.hid (HQ.out.imp id fun hq => ⟨fun j hj => by
            by_cases e : j = k
            · subst e; exact HNO.out
            · exact hq.1 j (by omega), hq.2⟩), HH.out, below_drewN HB.out q⟩
        case measure => simp [intOf]; omega
    · obtain rfl : k = n3 := by omega
      have C6 := Lib.hid (fun (W : World) (h : W.heap = wr.heap) => codesOf_out (hcaw.same h) k (Nat.le_refl _))
      have C5 := codesLetter hcaw code n
      rcases HQ.out with ⟨j, hj, hj0, hc, hnn, rfl, rfl⟩ | ⟨hnone, rfl, rfl⟩
      · obtain ⟨r, hf⟩ := find_letter HO.out (by have := HLn.out; omega) hj0 hc hnn
        rw [hf] at C5
        have C5 := Lib.hid C5
        clear hcaw hf hj hj0 hc hnn HQ
        unfold letV at C5
        go_wp2_with fail
        refine C5.out.mono ?_
        rintro e w5 ⟨rfl, hw⟩
        subst hw
        go_wp2_with fail
        refine (C6.out _ rfl).mono ?_
        rintro e w5 ⟨rfl, hw⟩
        subst hw
        go_wp2_with fail
        refine (CK.out _).mono ?_
        rintro e w6 ⟨rfl, hb6⟩
        have HB6 := Lib.hid (HB.out.trans (hb6.mono HB.out.size))
        clear hb6
        go_wp2
        go_ret
        exact ⟨rfl, HB6.out⟩
      · have hf := find_none HO.out (x := code) (y := n) (fun i hi h0 => hnone i (by have := HLn.out; omega) h0)
        rw [hf] at C5
        have C5 := Lib.hid C5
        clear hcaw hf hnone HQ
        unfold letV at C5
        go_wp2_with fail
        refine C5.out.mono ?_
        rintro e w5 ⟨rfl, hw⟩
        subst hw
        go_wp2_with fail
        refine (C6.out _ rfl).mono ?_
        rintro e w5 ⟨rfl, hw⟩
        subst hw
        go_wp2_with fail
        refine (CK.out _).mono ?_
        rintro e w6 ⟨rfl, hb6⟩
        have HB6 := Lib.hid (HB.out.trans (hb6.mono HB.out.size))
        clear hb6
        go_wp2
        go_ret
        exact ⟨rfl, HB6.out⟩
theorem canonMakes_law (code n : Int) (A : Option Addr) (L m : Nat) (l : List Int) (w : World) (hr : Rd w w.heap.size A (zvs l)) (hL : l.length = L) (hL63 : L ≤ 9223372036854775807) :
    Calls Try.prog 6 #[.slice A L m, .int .i64 code, .int .i64 n] w (Yes w) := by
  by_cases h300 : 300 < L
  · have CK := Lib.hid canonKnown_any
    have h2 : (300 : Int) < (L : Int) := by omega
    clear hr hL
    go_enter Try.func6, Try.ntmps6
    go_wp2_with fail
    refine (CK.out _).mono ?_
    rintro e w' ⟨rfl, hb⟩
    go_wp2
    go_ret
    exact ⟨rfl, hb⟩
  · cases hbad : l.any cBad with
    | true => exact makes_nil code n 2 (.inl rfl) A L m l w hr hL (by omega) (canonMake_arg hr hL (.inr hbad)) (by unfold ckE; rw [if_pos hbad])
    | false =>
      by_cases hw : WholeC l
      · exact makes_ok code n A L m l w hr hL (by omega) hbad hw
      · exact makes_nil code n 3 (.inr rfl) A L m l w hr hL (by omega) (canonMake_range hr hL (by omega) hbad hw) (by unfold ckE; rw [hbad, if_neg (by decide), if_neg (fun h => hw ((wholeB_iff l).1 h))])
end Go.Proofs.Ytgcegdjnemlcoaa
