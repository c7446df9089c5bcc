/-
  Layer 27: the best mode: the program's Best, and the reference's.
-/
import Derived.Test.YtflcmmeoppdhdaaGreatQ35
import Derived.Test.YtflcmmeoppdhdaaGreatQ38
namespace Go.Proofs.YtflcmmeoppdhdaaGreat
open Go.RowKit Go.Sort Go.Shelf

/-- The best of j + 1 modes, from 1 on. -/
def bstR (q : Nat → List UInt8) : Nat → Nat × List UInt8
  | 0 => (1, q 1)
  | j + 1 => if (q (j + 2)).length < (bstR q j).2.length then (j + 2, q (j + 2)) else bstR q j
theorem bstR_yes {q : Nat → List UInt8} {j : Nat} (h : (q (j + 2)).length < (bstR q j).2.length) : bstR q (j + 1) = (j + 2, q (j + 2)) := if_pos h
theorem bstR_not {q : Nat → List UInt8} {j : Nat} (h : ¬ (q (j + 2)).length < (bstR q j).2.length) : bstR q (j + 1) = bstR q j := if_neg h
/-- What holds at the head of a round. -/
def BstRel (w : World) (q : Nat → List UInt8) (g : Nat) (bv fv mv : Value) (wr : World) : Prop :=
  ∃ j : Nat, j ≤ 4 ∧ mv = .int .i64 ((j + 2 : Nat) : Int) ∧ bv = .int .i64 ((bstR q j).1 : Int) ∧ IsBytes (bstR q j).2 fv wr ∧ Blk wr g 48 waysL ∧ Below w.heap.size w wr
def SaysB (w : World) (m : Nat) (Q : List UInt8) (E : Int) (e : Ending) (w' : World) : Prop := ∃ v, e = .returned (.tuple #[.int .i64 (m : Int), v, .int .i64 E]) ∧ IsBytes Q v w' ∧ Below w.heap.size w w'
section
variable {V : Nat} {l : List UInt8} {w : World}
set_option maxRecDepth 100000 in
set_option maxHeartbeats 4000000 in
theorem mdsBest_any (hV : IsW V) (hl : l.length ≤ 1000) {q : Nat → List UInt8} (hq : ∀ k, k ≤ 5 → ModeQ k V l (q k)) {A : Option Addr} {c : Nat} (h : IsBytes l (.slice A l.length c) w) :
    Calls Tryz.prog 13 #[.slice A l.length c, .int .i64 (V : Int)] w (SaysB w (bstR q 4).1 (bstR q 4).2 0) := by
  have CR := Lib.hid (wordRight_any (V : Int) true hV.right)
  have CA := Lib.hid allWays_any
  have H := Lib.hid h
  have CC := Lib.hid (fun (k : Nat) (hk : k ≤ 5) (W : World) (hb : Below w.heap.size w W) => wayCode_any (V := V) hk (hq k hk) hl (h.grow hb))
  have CL := Lib.hid (fun (k : Nat) (hk : k ≤ 5) (W : World) => least_any (V := V) (n := l.length) hk hV (by omega) W)
  have HL := Lib.hid (fun (k : Nat) (hk : k ≤ 5) => leastM_le hV (hq k hk))
  clear hV hl hq h
  have HM := Lib.hid (fun (k : Nat) (hk : k ≤ 5) W => meth_code (k := k) hk W)
  have HE := Lib.hid (fun (k : Nat) (hk : k ≤ 5) => enters_code (k := k) hk)
  simp only [Tryz.types_size, Nat.reduceAdd] at HM
  have hm1 := HM.out 1 (by decide)
  go_enter Tryz.func13, Tryz.ntmps13
  go_wp2_with fail
  refine (CR.out _).mono ?_
  rintro e w1 ⟨rfl, hw⟩
  subst hw
  go_wp2_with fail
  refine (CA.out _).mono ?_
  rintro e w1 ⟨rfl, hb1⟩
  obtain ⟨hr2, hb2⟩ := ways_row w1
  have hc := hr2.cell 1
  rw [ways_at 1 (by decide)] at hc
  have HB2 := Lib.hid (hb1.trans (hb2.mono hb1.size))
  have HR2 := Lib.hid hr2
  have C1 := Lib.hid (CC.out 1 (by decide) _ HB2.out)
  clear hr2 hb2 hb1
  go_wp2_with fail
  rw [(HE.out 1 (by decide))]
  refine C1.out.mono ?_
  rintro e w3 ⟨v3, rfl, hv3, hb3⟩
  have HV3 := Lib.hid hv3
  have HB3 := Lib.hid (HB2.out.trans (hb3.mono HB2.out.size))
  have HR3 := Lib.hid (HR2.out.grow hb3)
  obtain ⟨g, hg⟩ : ∃ g, g = w1.heap.size := ⟨_, rfl⟩
  rw [← hg] at HR3
  have HG := Lib.hid hg
  clear hv3 hb3 C1 HB2 HR2 hm1 hc hg
  go_wp2
  rw [← HG.out]
  go_loopw [8, 9, 10] (fun a b c wr => BstRel w q g a b c wr) (fun _ _ c _ => 6 - (intOf c).toNat)
  case atStart => exact ⟨0, by decide, rfl, rfl, HV3.out, HR3.out, HB3.out⟩
  case round =>
    obtain ⟨j, hj, rfl, rfl, hf, hr, hb⟩ := hrel
    obtain ⟨k, hk⟩ : ∃ k, k = j + 2 := ⟨_, rfl⟩
    rw [← hk]
    by_cases hlt : k < 6
    · have hk5 : k ≤ 5 := by omega
      have hc := hr.cell k
      rw [ways_at k hk5] at hc
      have HC := Lib.hid hc
      have HR := Lib.hid hr
      have HB := Lib.hid hb
      have HF := Lib.hid hf
      have HK := Lib.hid hk
      have CL1 := CL.out k hk5 wr
      have hle := HL.out k hk5
      obtain ⟨T, hT⟩ : ∃ T, T = leastM k V l.length := ⟨_, rfl⟩
      obtain ⟨b, hbb⟩ : ∃ b, b = bstR q j := ⟨_, rfl⟩
      rw [← hT] at CL1 hle
      rw [← hbb] at HF ⊢
      obtain ⟨A2, c2, rfl, -, -⟩ := HF.out
      have HBB := Lib.hid hbb
      have C2 := Lib.hid CL1
      have HLE := Lib.hid hle
      have hk6 : (k : Int) < 6 := by omega
      clear hf hr hb hk CL1 hle hT hbb
      obtain ⟨F, hF⟩ : ∃ F, F = b.2.length := ⟨_, rfl⟩
      rw [← hF]
      by_cases hsk : F ≤ T
      · have hge : (F : Int) ≤ (T : Int) := by omega
        have HSK := Lib.hid hsk
        have HF2 := Lib.hid hF
        clear hsk hF
        go_wp2_with fail
        refine (C2.out).mono ?_
        rintro e w4 ⟨rfl, hb4⟩
        have HB4 := Lib.hid hb4
        clear hb4
        go_wp2
        go_roundw
        case rel =>
          have e1 : bstR q (j + 1) = b := by
            rw [HBB.out]
            refine bstR_not ?_
            rw [← HBB.out, ← HK.out]
            have := HLE.out; have := HSK.out; have := HF2.out; omega
          refine ⟨j + 1, by have := HK.out; omega, by rw [show ((j + 1 + 2 : Nat) : Int) = (k : Int) + 1 by rw [HK.out]; omega], by rw [e1], ?_, HR.out.grow HB4.out, HB.out.trans (HB4.out.mono HB.out.size)⟩
          rw [e1]
          have := HF.out.grow HB4.out
          rwa [← HF2.out] at this
        case measure => simp [intOf]; omega
      · have hge : ¬ (F : Int) ≤ (T : Int) := by omega
        have HF2 := Lib.hid hF
        clear hsk hF
        go_wp2_with fail
        refine (C2.out).mono ?_
        rintro e w4 ⟨rfl, hb4⟩
        have HB4 := Lib.hid (HB.out.trans (hb4.mono HB.out.size))
        have HB5 := Lib.hid hb4
        have hr4 := HR.out.grow hb4
        have hc4 := hr4.cell k
        rw [ways_at k hk5] at hc4
        have HR4 := Lib.hid hr4
        have hmk := HM.out k hk5 w4
        have C3 := Lib.hid (CC.out k hk5 w4 HB4.out)
        have HE2 := Lib.hid (HE.out k hk5)
        obtain ⟨KC, hKC⟩ : ∃ KC, KC = codeK k := ⟨_, rfl⟩
        rw [← hKC] at hmk C3 HE2
        clear hb4 hr4 hKC C2
        go_wp2_with fail
        rw [HE2.out]
        refine C3.out.mono ?_
        rintro e w5 ⟨v5, rfl, hv5, hb5⟩
        have HV5 := Lib.hid hv5
        obtain ⟨A5, c5, rfl, -, -⟩ := hv5
        obtain ⟨Q, hQ⟩ : ∃ Q, Q = q k := ⟨_, rfl⟩
        rw [← hQ] at HV5 ⊢
        have HQ := Lib.hid hQ
        have HB6 := Lib.hid (HB4.out.trans (hb5.mono HB4.out.size))
        have HR6 := Lib.hid (HR4.out.grow hb5)
        have HF6 := Lib.hid ((HF.out.grow HB5.out).grow hb5)
        clear hb5 hmk hc4 C3 HR4 hQ
        obtain ⟨M, hM⟩ : ∃ M, M = Q.length := ⟨_, rfl⟩
        rw [← hM]
        have HM2 := Lib.hid hM
        clear hM
        by_cases hlt2 : M < F
        · have hlt3 : (M : Int) < (F : Int) := by omega
          have HLT := Lib.hid hlt2
          clear hlt2
          go_wp2
          go_roundw
          case rel =>
            have e1 : bstR q (j + 1) = (k, Q) := by
              rw [HQ.out, HK.out]
              refine bstR_yes ?_
              rw [← HBB.out, ← HK.out, ← HQ.out, ← HM2.out, ← HF2.out]; exact HLT.out
            refine ⟨j + 1, by have := HK.out; omega, by rw [show ((j + 1 + 2 : Nat) : Int) = (k : Int) + 1 by rw [HK.out]; omega], by rw [e1], ?_, HR6.out, HB6.out⟩
            rw [e1]
            have := HV5.out
            rwa [← HM2.out] at this
          case measure => simp [intOf]; omega
        · have hlt3 : ¬ (M : Int) < (F : Int) := by omega
          have HLT := Lib.hid hlt2
          clear hlt2
          go_wp2
          go_roundw
          case rel =>
            have e1 : bstR q (j + 1) = b := by
              rw [HBB.out]
              refine bstR_not ?_
              rw [← HBB.out, ← HK.out, ← HQ.out, ← HM2.out, ← HF2.out]; exact HLT.out
            refine ⟨j + 1, by have := HK.out; omega, by rw [show ((j + 1 + 2 : Nat) : Int) = (k : Int) + 1 by rw [HK.out]; omega], by rw [e1], ?_, HR6.out, HB6.out⟩
            rw [e1]
            have := HF6.out
            rwa [← HF2.out] at this
          case measure => simp [intOf]; omega
    · obtain rfl : j = 4 := by omega
      subst hk
      have HF := Lib.hid (And.intro hf hb)
      clear hf hb hr
      go_wp2
      go_ret3
      exact ⟨_, rfl, HF.out⟩
/-- What holds at the head of a round of the reference. -/
def RBstRel (w : World) (q : Nat → List UInt8) (bv fv mv : Value) (wr : World) : Prop :=
  ∃ j : Nat, j ≤ 4 ∧ mv = .int .i64 ((j + 2 : Nat) : Int) ∧ bv = .int .i64 ((bstR q j).1 : Int) ∧ IsBytes (bstR q j).2 fv wr ∧ Below w.heap.size w wr
def SaysR (w : World) (m : Nat) (Q : List UInt8) (e : Ending) (w' : World) : Prop := ∃ v, e = .returned (.tuple #[.int .i64 (m : Int), v]) ∧ IsBytes Q v w' ∧ Below w.heap.size w w'
set_option maxRecDepth 100000 in
set_option maxHeartbeats 4000000 in
theorem refBest_any (hV : IsW V) (hl : l.length ≤ 200) {q : Nat → List UInt8} (hq : ∀ k, k ≤ 5 → ModeQ k V l (q k)) {A : Option Addr} {c : Nat} (h : IsBytes l (.slice A l.length c) w) :
    Calls Tryz.prog 15 #[.slice A l.length c, .int .i64 (V : Int)] w (SaysR w (bstR q 4).1 (bstR q 4).2) := by
  have CC := Lib.hid (fun (k : Nat) (hk : k ≤ 5) (W : World) (hb : Below w.heap.size w W) => mdsRef_q (V := V) hk hV (hq k hk) hl (h.grow hb))
  have C1 := Lib.hid (CC.out 1 (by decide) w (Below.refl _ _))
  clear hV hl hq h
  go_enter Tryz.func15, Tryz.ntmps15
  go_wp2_with fail
  refine C1.out.mono ?_
  rintro e w3 ⟨v3, rfl, hv3, hb3⟩
  have HV3 := Lib.hid hv3
  have HB3 := Lib.hid hb3
  clear hv3 hb3 C1
  go_wp2
  go_loopw [6, 7, 9] (fun a b c wr => RBstRel w q a b c wr) (fun _ _ c _ => 6 - (intOf c).toNat)
  case atStart => exact ⟨0, by decide, rfl, rfl, HV3.out, HB3.out⟩
  case round =>
    obtain ⟨j, hj, rfl, rfl, hf, hb⟩ := hrel
    obtain ⟨k, hk⟩ : ∃ k, k = j + 2 := ⟨_, rfl⟩
    rw [← hk]
    by_cases hlt : k < 6
    · have hk5 : k ≤ 5 := by omega
      have HB := Lib.hid hb
      have HF := Lib.hid hf
      have HK := Lib.hid hk
      have C2 := Lib.hid (CC.out k hk5 wr hb)
      obtain ⟨b, hbb⟩ : ∃ b, b = bstR q j := ⟨_, rfl⟩
      rw [← hbb] at HF ⊢
      obtain ⟨A2, c2, rfl, -, -⟩ := HF.out
      have HBB := Lib.hid hbb
      have hk6 : (k : Int) ≤ 5 := by omega
      clear hf hb hk hbb
      obtain ⟨F, hF⟩ : ∃ F, F = b.2.length := ⟨_, rfl⟩
      rw [← hF]
      have HF2 := Lib.hid hF
      clear hF
      go_wp2_with fail
      refine C2.out.mono ?_
      rintro e w5 ⟨v5, rfl, hv5, hb5⟩
      have HV5 := Lib.hid hv5
      obtain ⟨A5, c5, rfl, -, -⟩ := hv5
      obtain ⟨Q, hQ⟩ : ∃ Q, Q = q k := ⟨_, rfl⟩
      rw [← hQ] at HV5 ⊢
      have HQ := Lib.hid hQ
      have HB6 := Lib.hid (HB.out.trans (hb5.mono HB.out.size))
      have HF6 := Lib.hid (HF.out.grow hb5)
      clear hb5 hQ C2
      obtain ⟨M, hM⟩ : ∃ M, M = Q.length := ⟨_, rfl⟩
      rw [← hM]
      have HM2 := Lib.hid hM
      clear hM
      by_cases hlt2 : M < F
      · have hlt3 : (M : Int) < (F : Int) := by omega
        have HLT := Lib.hid hlt2
        clear hlt2
        go_wp2
        go_roundw
        case rel =>
          have e1 : bstR q (j + 1) = (k, Q) := by
            rw [HQ.out, HK.out]
            refine bstR_yes ?_
            rw [← HBB.out, ← HK.out, ← HQ.out, ← HM2.out, ← HF2.out]; exact HLT.out
          refine ⟨j + 1, by have := HK.out; omega, by rw [show ((j + 1 + 2 : Nat) : Int) = (k : Int) + 1 by rw [HK.out]; omega], by rw [e1], ?_, HB6.out⟩
          rw [e1]
          have := HV5.out
          rwa [← HM2.out] at this
        case measure => simp [intOf]; omega
      · have hlt3 : ¬ (M : Int) < (F : Int) := by omega
        have HLT := Lib.hid hlt2
        clear hlt2
        go_wp2
        go_roundw
        case rel =>
          have e1 : bstR q (j + 1) = b := by
            rw [HBB.out]
            refine bstR_not ?_
            rw [← HBB.out, ← HK.out, ← HQ.out, ← HM2.out, ← HF2.out]; exact HLT.out
          refine ⟨j + 1, by have := HK.out; omega, by rw [show ((j + 1 + 2 : Nat) : Int) = (k : Int) + 1 by rw [HK.out]; omega], by rw [e1], ?_, HB6.out⟩
          rw [e1]
          have := HF6.out
          rwa [← HF2.out] at this
        case measure => simp [intOf]; omega
    · obtain rfl : j = 4 := by omega
      subst hk
      have HF := Lib.hid (And.intro hf hb)
      clear hf hb
      go_wp2
      go_ret2
      exact ⟨_, rfl, HF.out⟩
set_option maxRecDepth 100000 in
set_option maxHeartbeats 1000000 in
/-- No such width. -/
theorem mdsBest_width {W : Int} (hW : rightB W = false) (v : Value) (w : World) : Calls Tryz.prog 13 #[v, .int .i64 W] w (SaysB w 0 [] 2) := by
  have CR := Lib.hid (wordRight_any W false hW.symm)
  go_enter Tryz.func13, Tryz.ntmps13
  go_wp2_with fail
  refine (CR.out _).mono ?_
  rintro e w2 ⟨rfl, hw⟩
  subst hw
  go_wp2
  go_ret3
  exact ⟨_, rfl, none_bytes _, Below.refl _ _⟩
end
set_option maxRecDepth 100000 in
set_option maxHeartbeats 2000000 in
theorem modesBest_law (W : Int) (A : Option Addr) (L c : Nat) (l : List UInt8) (w : World) (hr : Rd w w.heap.size A (bvs l)) (hL : l.length = L) (hLc : L ≤ c) (hL63 : L ≤ 9223372036854775807) :
    Calls Tryz.prog 5 #[.slice A L c, .int .i64 W] w (Yes w) := by
  subst hL
  have CK := Lib.hid mdsKnown_any
  by_cases h150 : 150 < l.length
  · have h2 : (150 : Int) < (l.length : Int) := by omega
    clear hr
    go_enter Tryz.func5, Tryz.ntmps5
    go_wp2_with fail
    refine (CK.out _).mono ?_
    rintro e w' ⟨rfl, hb⟩
    go_wp2
    go_ret
    exact ⟨rfl, hb⟩
  · have h2 : ¬ (150 : Int) < (l.length : Int) := by omega
    have hv0 : IsBytes l (.slice A l.length c) w := ⟨A, c, rfl, hLc, hr⟩
    cases hW : rightB W with
    | false =>
      have C1 := Lib.hid (mdsBest_width hW (.slice A l.length c) w)
      have CR := Lib.hid (refRight_any W false hW.symm)
      clear hv0 hr h150 hW
      go_enter Tryz.func5, Tryz.ntmps5
      go_wp2_with fail
      refine C1.out.mono ?_
      rintro e w1 ⟨v1, rfl, ⟨A1, c1, rfl, -, -⟩, hb1⟩
      have HB1 := Lib.hid hb1
      clear hb1 C1
      go_wp2_with fail
      refine (CR.out _).mono ?_
      rintro e w2 ⟨rfl, hw⟩
      subst hw
      go_wp2_with fail
      refine (CK.out _).mono ?_
      rintro e w3 ⟨rfl, hb3⟩
      have HB3 := Lib.hid (HB1.out.trans (hb3.mono HB1.out.size))
      clear hb3
      go_wp2
      go_ret
      exact ⟨rfl, HB3.out⟩
    | true =>
      obtain ⟨V, rfl, hV⟩ := isW_of hW
      have hq : ∀ k, ∃ Q, ModeQ k V l Q := fun k => modeQ_some k l (by omega) hr
      obtain ⟨q, hq⟩ := Classical.axiomOfChoice hq
      have C1 := Lib.hid (mdsBest_any hV (by omega) (fun k _ => hq k) hv0)
      have C2 := Lib.hid (fun w1 (hb : Below w.heap.size w w1) => refBest_any hV (by omega) (fun k _ => hq k) (hv0.grow hb))
      have CR := Lib.hid (refRight_any (V : Int) true hV.right)
      obtain ⟨b, hb⟩ : ∃ b, b = bstR q 4 := ⟨_, rfl⟩
      rw [← hb] at C1 C2
      obtain ⟨m, Q⟩ := b
      clear hv0 hr h150 hW hV hq hb
      go_enter Tryz.func5, Tryz.ntmps5
      go_wp2_with fail
      refine C1.out.mono ?_
      rintro e w1 ⟨v1, rfl, hv1, hb1⟩
      have HV1 := Lib.hid hv1
      have HB1 := Lib.hid hb1
      clear hv1 hb1 C1
      go_wp2_with fail
      refine (CR.out _).mono ?_
      rintro e w2 ⟨rfl, hw⟩
      subst hw
      go_wp2_with fail
      refine (C2.out _ HB1.out).mono ?_
      rintro e w2 ⟨v2, rfl, hv2, hb2⟩
      have HV2 := Lib.hid hv2
      have HV3 := Lib.hid (HV1.out.grow hb2)
      have HB2 := Lib.hid (HB1.out.trans (hb2.mono HB1.out.size))
      clear hv2 hb2 C2 HV1 HB1
      go_wp2_with (first
        | ((with_reducible show wpList _ _ _ (({ dst := some 49, op := _, type := _, pos := _, after := _, guard := _ } : Oper) :: _) _ _); go_must (refine wpList_strW rfl 22 9 5 (.tmp 48) rfl Tryz.underlying22 Tryz.underlying5 Tryz.underlying9 _ HV3.out ?_))
        | ((with_reducible show wpList _ _ _ (({ dst := some 51, op := _, type := _, pos := _, after := _, guard := _ } : Oper) :: _) _ _); go_must (refine wpList_strW rfl 22 9 5 (.tmp 50) rfl Tryz.underlying22 Tryz.underlying5 Tryz.underlying9 _ HV2.out ?_))
        | (go_at_call 7; go_must (refine (CK.out _).mono ?_; rintro e w3 ⟨rfl, hb3⟩; have HB3 := Lib.hid (HB2.out.trans (hb3.mono HB2.out.size)); clear hb3)))
      go_ret
      exact ⟨rfl, HB3.out⟩
end Go.Proofs.YtflcmmeoppdhdaaGreat
