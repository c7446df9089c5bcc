/- Layer 19: the reference's Bits and Code. -/
import Derived.Test.YtfdgnhfppginiaaRiceRef
import Derived.Test.YtfdgnhfppginiaaWordOfR
import Derived.Test.YtfdgnhfppginiaaRefSt
import Derived.StillTailTactics
namespace Go.Proofs.Ytfdgnhfppginiaa
open Go.RowKit Go.Sort

/-- What holds at the head of a round of Bits. -/
def RBRel (w3 : World) (W CB : Nat) (ws : List Nat) (L : List Bool) (v i : Value) (wr : World) : Prop :=
  ∃ (k A N : Nat) (o R : List Bool), k ≤ ws.length ∧ i = .int .i64 (k : Int) ∧ RiceB (8 * W) A N (ws.drop k) R ∧ o ++ R = L ∧ CountsOk (8 * W) A N ∧ wr.ownsRow w3.heap.size 3 1 v o.length (ivs o) ∧ Blk wr CB 89 [.int .u64 (A : Int), .int .u64 (N : Int)] ∧ TurnsB CB CB w3 wr
/-- A word's place among those that are left. -/
theorem riceB_next {D A N : Nat} {ws : List Nat} {k : Nat} {R : List Bool} (h : RiceB D A N (ws.drop k) R) (hk : k < ws.length) : ∃ (K : Nat) (R2 : List Bool), IsK A N K ∧ R = riceW D K ws[k] ++ R2 ∧ RiceB D (behindA A N ws[k]) (behindN N) (ws.drop (k + 1)) R2 := by
  rw [List.drop_eq_getElem_cons hk] at h
  cases h with
  | word _ _ K _ _ R2 hK hr => exact ⟨K, R2, hK, rfl, hr⟩
theorem own_setC {w : World} {base e size n CB : Nat} {v u : Value} {xs : List Value} {i : Nat} (h : w.ownsRow base e size v n xs) (_ : CB ≤ base) (hC : CB < base) : (w.setCell ⟨CB, i, none⟩ u).ownsRow base e size v n xs := by
  refine ⟨h.1, ?_⟩
  rcases h.2 with h0 | ⟨g, cap, cur, rfl, hbg, hg, rest⟩
  · exact .inl h0
  · exact .inr ⟨g, cap, cur, rfl, hbg, by rw [Below.heap_setCell w ⟨CB, i, none⟩ u g (by simp; omega)]; exact hg, rest⟩
theorem D_le {W : Nat} (hW : IsW W) : 8 ≤ 8 * W ∧ 8 * W ≤ 64 := by have := hW.pos; omega
set_option maxHeartbeats 4000000 in
set_option maxRecDepth 100000 in
theorem riceBits_any {W : Nat} (hW : IsW W) (A : Option Addr) (c : Nat) (l : List UInt8) (w : World) (hr : Rd w w.heap.size A (bvs l)) (hnc : l.length ≤ c) (hb : l.length ≤ 2000) {L : List Bool} (hL : RiceB (8 * W) 16 1 (wordsOf W l) L) (hLl : L.length ≤ 200000) :
    Calls Try.prog 42 #[.slice A l.length c, .int .i64 (W : Int)] w fun e w' => ∃ v, e = .returned v ∧ w'.ownsRow w.heap.size 3 1 v (L ++ allBits (restOf W l)).length (ivs (L ++ allBits (restOf W l))) ∧ Below w.heap.size w w' := by
  obtain ⟨i0, hi0, hz0, hz1, hz2⟩ := info_parts info_int
  have C1 := Lib.hid (refTake_any hW A c l w hr hnc (by omega))
  obtain ⟨ws, hws⟩ : ∃ ws, ws = wordsOf W l := ⟨_, rfl⟩
  obtain ⟨rs, hrs⟩ : ∃ rs, rs = restOf W l := ⟨_, rfl⟩
  have hp := hW.pos
  have hwl : ws.length ≤ 2000 := by rw [hws, wordsOf_len]; exact Nat.le_trans (Nat.div_le_self _ _) hb
  have hrl : rs.length < 8 := by have := rest_lt (W := W) (by omega) l; rw [hrs]; omega
  have hw256 : ∀ x ∈ ws, x < 2 ^ (8 * W) := by
    intro x hx
    rw [hws] at hx
    have := wordsOf_lt (W := W) (by omega) l x hx
    rw [show 2 ^ (8 * W) = 256 ^ W by rw [Nat.pow_mul]]
    exact this
  rw [← hws, ← hrs] at C1
  rw [← hws] at hL
  rw [← hrs]
  have HL := Lib.hid hL
  have HLL := Lib.hid hLl
  have HWL := Lib.hid hwl
  have HRL := Lib.hid hrl
  have H256 := Lib.hid hw256
  have HWW := Lib.hid hW
  have h8W : (8 : Int) * (W : Int) = ((8 * W : Nat) : Int) := by omega
  have H8W := Lib.hid h8W
  have hW8 : (W : Int) ≤ 8 := by omega
  have hW1 : (1 : Int) ≤ (W : Int) := by omega
  clear hL hLl hwl hrl hw256 hr hnc hb hws hrs h8W hW hp
  obtain ⟨U, hU⟩ : ∃ U, U = allBits rs := ⟨_, rfl⟩
  rw [← hU]
  have HUU := Lib.hid hU
  clear hU
  go_enter Try.func42, Try.ntmps42
  go_wp2_with fail
  refine C1.out.mono ?_
  rintro _ w1 ⟨v1, v2, rfl, h1, h2, hb1⟩
  have HB1 := Lib.hid hb1
  have H1 := Lib.hid h1
  have H2 := Lib.hid h2
  clear h1 h2 hb1 C1
  go_wp2_with fail
  refine (riceBegin_any w1).mono ?_
  rintro _ w2 ⟨rfl, hb2⟩
  obtain ⟨A1, c1, rfl, hc1, hr1⟩ := H1.out.grow hb2
  obtain ⟨A2, c2, rfl, hc2, hr2⟩ := H2.out.grow hb2
  have HB2 := Lib.hid (HB1.out.trans (hb2.mono HB1.out.size))
  have HR1 := Lib.hid hr1
  have HR2 := Lib.hid hr2
  rw [wvs_length]
  unfold cntV
  obtain ⟨CB, hCB⟩ : ∃ CB, CB = w2.heap.size := ⟨_, rfl⟩
  obtain ⟨w3, hw3⟩ : ∃ w3, w3 = w2.alloc (.cells #[.int .u64 16, .int .u64 1] 89) := ⟨_, rfl⟩
  have hb3 : Below w2.heap.size w2 w3 := by rw [hw3]; exact (Below.refl _ _).alloc (Nat.le_refl _) _
  have HREL := Lib.hid (show RBRel w3 W CB ws L (.slice none 0 0) (.int .i64 ((0 : Nat) : Int)) w3 from ⟨0, 16, 1, [], L, Nat.zero_le _, rfl, HL.out, rfl, counts_start (D_le HWW.out).1, World.ownsRow_nil _ _ _ _, by rw [hw3, hCB]; exact heap_alloc_new w2 _, TurnsB.refl _ _ _⟩)
  have HR3 := Lib.hid (hr1.below hb3)
  have HR4 := Lib.hid (hr2.below hb3)
  have HW := Lib.hid hw3
  have HCB := Lib.hid hCB
  have HCW := Lib.hid (show w.heap.size ≤ CB by rw [hCB]; exact HB2.out.size)
  have HB3 := Lib.hid (HB2.out.trans (hb3.mono HB2.out.size))
  have HC3 := Lib.hid (show CB < w3.heap.size by rw [hw3, hCB]; simp)
  rw [← hCB] at HR3 HR4
  clear hb2 hr1 hr2 hCB hw3 hb3 HR1 HR2 H1 H2 HB1
  go_wp2
  simp only [← HW.out, ← HCB.out]
  go_loopw [7, 9] (RBRel w3 W CB ws L) (fun _ i _ => ws.length - (intOf i).toNat)
  case atStart => exact HREL.out
  case round =>
    clear HREL
    obtain ⟨k, A0, N0, o, R, hk, rfl, hric, hoR, hcok, hown, hblk, htr⟩ := hrel
    obtain ⟨Ao, co, rfl, -, -, -⟩ := own_form hown
    have HOWN := Lib.hid hown
    have HBL := Lib.hid hblk
    have HTR := Lib.hid htr
    have HOR := Lib.hid hoR
    have hol : o.length ≤ 200000 := by have := HLL.out; rw [← hoR, List.length_append] at this; omega
    have HOL := Lib.hid hol
    have hrw := HR3.out.below (htr.below (B := CB) (Nat.le_refl _) (Nat.le_refl _) (Nat.le_of_lt HC3.out))
    have hCr : CB < wr.heap.size := Nat.lt_of_lt_of_le HC3.out htr.size
    have hk2 : ws.length ≤ 2000 := HWL.out
    have HRW := Lib.hid hrw
    clear hown hblk hoR hol hrw
    by_cases hlt : k < ws.length
    · obtain ⟨K, R2, hK, hRe, hric2⟩ := riceB_next hric hlt
      obtain ⟨ab, ao, rfl, hab, hcell⟩ := HRW.out k _ (wvs_get ws k hlt)
      obtain ⟨V, hV⟩ : ∃ V, V = ws[k]'hlt := ⟨_, rfl⟩
      have hVD : V < 2 ^ (8 * W) := by rw [hV]; exact H256.out _ (List.getElem_mem hlt)
      rw [← hV] at hcell hRe hric2
      have hcok2 := counts_behind hcok hVD
      have hV64 : V < 18446744073709551616 := Nat.lt_of_lt_of_le hVD (Nat.pow_le_pow_right (n := 2) (by decide) (D_le HWW.out).2)
      have hK33 := isK_few hcok hK
      have C2 := Lib.hid (fun W' => riceK_any hcok hK W')
      have C5 := Lib.hid (fun W' => riceBehind_any (A := A0) (N := N0) (v := V) (by obtain ⟨g1, g2, g3, g4⟩ := hcok; omega) hcok.2.1 hV64 W')
      have hP0 : 0 < 2 ^ K := Nat.two_pow_pos K
      have hc0 := HBL.out.cell 0
      have hc1 := HBL.out.cell 1
      simp only [List.getElem?_cons_zero, List.getElem?_cons_succ] at hc0 hc1
      have HCL := Lib.hid (fun (W' : World) (h : Rd W' CB (some ⟨ab, ao, none⟩) (wvs ws)) => (show W'.cell? ⟨ab, ao + k, none⟩ = some (.int .u64 (V : Int)) by
        obtain ⟨b, off, e, -, hc⟩ := h k _ (wvs_get ws k hlt)
        injection e with e
        injection e with e1 e2
        subst e1 e2
        rw [hV]; exact hc))
      have HNX := Lib.hid (And.intro hric2 hcok2)
      obtain ⟨P, hP⟩ : ∃ P, P = 2 ^ K := ⟨_, rfl⟩
      rw [← hP] at C2 hP0
      obtain ⟨q, hq⟩ : ∃ q, q = V / P := ⟨_, rfl⟩
      have hdq : (V : Int) / (P : Int) = (q : Int) := by rw [hq]; exact (Int.natCast_ediv _ _).symm
      have hqV : q ≤ V := by rw [hq]; exact Nat.div_le_self _ _
      have hwq : IntKind.u64.wrap ((V : Int) / (P : Int)) = (q : Int) := by rw [hdq, IntKind.wrap_u64]; omega
      have hP1 : ¬ (P : Int) = 0 := by omega
      have hP2 : ¬ P = 0 := by omega
      unfold cntV at C2 C5
      have hki : (k : Int) < (ws.length : Int) := by omega
      have HKS := Lib.hid hlt
      have HREQ := Lib.hid hRe
      have HQ := Lib.hid (show q = V / 2 ^ K by rw [← hP]; exact hq)
      have hk2i : (k : Int) ≤ 2000 := by omega
      clear hric hK hric2 hcok2 hV hVD hcok hab hRe hP hlt hdq hqV hq
      go_wp2_with fail
      refine (C2.out wr).mono ?_
      rintro _ w4 ⟨rfl, hb4⟩
      have HOWN4 := Lib.hid (own_kept HOWN.out hb4)
      have HBL4 := Lib.hid (HBL.out.grow hb4)
      have ht4 := HTR.out.trans (TurnsB.of_below (T := CB) (S := CB) hb4)
      have HTR4 := Lib.hid ht4
      have hcell4 := HCL.out w4 (HR3.out.below (ht4.below (B := CB) (Nat.le_refl _) (Nat.le_refl _) (Nat.le_of_lt HC3.out)))
      clear hb4 ht4 HOWN HBL HTR hc0 hc1 hcell C2 HRW
      by_cases h24 : q < 24
      · have hq24 : (q : Int) < 24 := by omega

        have hu1 := (onesOf_len q 24).1
        have hu2 := bitsOf_length V K
        have co := fun W' => rfOnes_any q 24 W' (by omega) (by decide)
        have cq := fun W' => rfBits_any V K W' hV64 (by omega)
        have HRW8 := Lib.hid (show riceW (8 * W) K V = onesOf q 24 ++ bitsOf V K by unfold riceW; rw [← HQ.out, if_pos h24])
        obtain ⟨U1, hU1⟩ : ∃ U1, U1 = onesOf q 24 := ⟨_, rfl⟩
        obtain ⟨U2, hU2⟩ : ∃ U2, U2 = bitsOf V K := ⟨_, rfl⟩
        rw [← hU1] at co hu1 HRW8
        rw [← hU2] at cq hu2 HRW8
        have hl1 : U1.length ≤ 25 := by omega
        have hl2 : U2.length ≤ 64 := by omega
        have CO := Lib.hid co
        have CQ := Lib.hid cq
        have hol := HOL.out
        clear co cq hu1 hu2 hU1 hU2 h24
        go_wp2_with fail
        refine (CO.out w4).mono ?_
        rintro _ w5 ⟨v5, rfl, hown5, ho5⟩
        have hb5 := ho5.below (Nat.le_refl _)
        obtain ⟨A5, c5, rfl, -, -, -⟩ := own_form hown5
        have HRD5 := Lib.hid (Rd.of_own hown5)
        have HOWN5 := Lib.hid (own_kept HOWN4.out hb5)
        have HBL5 := Lib.hid (HBL4.out.grow hb5)
        have HTR5 := Lib.hid (HTR4.out.trans (TurnsB.of_below hb5))
        clear hown5 ho5 hb5 HOWN4 HBL4 HTR4 hcell4 CO
        go_wp2_with ((with_reducible show wpList _ _ _ (({ dst := some 46, op := _, type := _, pos := _, after := _, guard := _ } : Oper) :: _) _ _); go_must (refine wpList_app rfl (.tmp 37) (.tmp 45) 37 rfl w3.heap.size 3 i0 (.int .i64 0) 1 8 Try.underlying37 hi0 hz0 hz1 hz2 rfl (by decide) _ _ _ rfl HOWN5.out w5.heap.size A5 U1.length c5 (ivs U1) rfl HRD5.out (by rw [ivs_length, Nat.mul_one]) (ivs_one _) (by simp only [maxLen]; omega) (by omega) HTR5.out.size ?_; intro v6 w6 hown6 hg6; have hrow := own_block HOWN5.out; have hb6 := blk_row HBL5.out hg6 (fun r e => by have := hrow r e; have := HC3.out; omega); have ht6 := HTR5.out.growO hg6 hrow; have HBL6 := Lib.hid hb6; have HTR6 := Lib.hid ht6; rw [← ivs_append] at hown6; have HOWN6 := Lib.hid hown6; have hcell6 := HCL.out w6 (HR3.out.below (ht6.below (B := CB) (Nat.le_refl _) (Nat.le_refl _) (Nat.le_of_lt HC3.out))); obtain ⟨A6, c6, rfl, -, -, -⟩ := own_form HOWN6.out; clear hown6 hg6 hrow hb6 ht6))
        refine (CQ.out w6).mono ?_
        rintro _ w7 ⟨v7, rfl, hown7, ho7⟩
        have hb7 := ho7.below (Nat.le_refl _)
        obtain ⟨A7, c7, rfl, -, -, -⟩ := own_form hown7
        have HRD7 := Lib.hid (Rd.of_own hown7)
        have HOWN7 := Lib.hid (own_kept HOWN6.out hb7)
        have HBL7 := Lib.hid (HBL6.out.grow hb7)
        have HTR7 := Lib.hid (HTR6.out.trans (TurnsB.of_below hb7))
        clear hown7 ho7 hb7 HOWN6 HBL6 HTR6 hcell6 CQ
        go_wp2_with ((with_reducible show wpList _ _ _ (({ dst := some 54, op := _, type := _, pos := _, after := _, guard := _ } : Oper) :: _) _ _); go_must (refine wpList_app rfl (.tmp 47) (.tmp 53) 37 rfl w3.heap.size 3 i0 (.int .i64 0) 1 8 Try.underlying37 hi0 hz0 hz1 hz2 rfl (by decide) _ _ _ rfl HOWN7.out w7.heap.size A7 U2.length c7 (ivs U2) rfl HRD7.out (by rw [ivs_length, Nat.mul_one]) (ivs_one _) (by simp only [maxLen]; omega) (by omega) HTR7.out.size ?_; intro v8 w8 hown8 hg8; have hrow := own_block HOWN7.out; have hb8 := blk_row HBL7.out hg8 (fun r e => by have := hrow r e; have := HC3.out; omega); have ht8 := HTR7.out.growO hg8 hrow; have HBL8 := Lib.hid hb8; have HTR8 := Lib.hid ht8; rw [← ivs_append] at hown8; have HOWN8 := Lib.hid hown8; have hcell8 := HCL.out w8 (HR3.out.below (ht8.below (B := CB) (Nat.le_refl _) (Nat.le_refl _) (Nat.le_of_lt HC3.out))); have hc0 := hb8.cell 0; have hc1 := hb8.cell 1; have hf0 := hb8.frozen 0; have hf1 := hb8.frozen 1; simp only [List.getElem?_cons_zero, List.getElem?_cons_succ] at hc0 hc1; clear hown8 hg8 hrow hb8 ht8))
        refine wp_region_still_tail 5 (by kernel_rfl) (by kernel_rfl) ?_
        simp only [List.take_succ_cons, List.take_zero, List.drop_succ_cons, List.drop_zero]
        repeat still_step
        refine wpStill_nil ?_
        change wpList _ _ _ _ _ w8.drew
        go_wp2_with fail
        refine (C5.out w8.drew).mono ?_
        rintro _ w9 ⟨rfl, hb9⟩
        have hbl9 := HBL8.out.drew_.grow hb9
        have HT9 := Lib.hid (HTR8.out.drew.trans (TurnsB.of_below (T := CB) (S := CB) hb9))
        have HO9 := Lib.hid (own_kept (own_drew HOWN8.out) hb9)
        have hc0 := hbl9.cell 0
        have hc1 := hbl9.cell 1
        have hf0 := hbl9.frozen 0
        have hf1 := hbl9.frozen 1
        simp only [List.getElem?_cons_zero, List.getElem?_cons_succ] at hc0 hc1
        have HBL9 := Lib.hid hbl9
        clear hb9 hbl9 HOWN8 HBL8 HTR8 C5 hcell8
        go_wp2
        go_roundw
        case rel => exact ⟨k + 1, behindA A0 N0 V, behindN N0, o ++ U1 ++ U2, R2, HKS.out, by go_num, HNX.out.1, by rw [← HOR.out, HREQ.out, HRW8.out]; simp, HNX.out.2, by rw [List.length_append, List.length_append]; exact own_setC (own_setC HO9.out (Nat.le_of_lt HC3.out) HC3.out) (Nat.le_of_lt HC3.out) HC3.out, (HBL9.out.set_ 0 _).set_ 1 _, HT9.out.trans ((TurnsB.set_ 0 _).trans (TurnsB.set_ 1 _))⟩
        case measure => have := HKS.out; simp [intOf]; omega
      · have hq24 : ¬ (q : Int) < 24 := by omega
        have hu1 := (onesOf_len 24 24).1
        have hu2 := bitsOf_length V (8 * W)
        have co := fun W' => rfOnes_any 24 24 W' (by omega) (by decide)
        have cq := fun W' => rfBits_any V (8 * W) W' hV64 (D_le HWW.out).2
        rw [← H8W.out] at cq
        have HRW8 := Lib.hid (show riceW (8 * W) K V = onesOf 24 24 ++ bitsOf V (8 * W) by unfold riceW; rw [← HQ.out, if_neg h24])
        obtain ⟨U1, hU1⟩ : ∃ U1, U1 = onesOf 24 24 := ⟨_, rfl⟩
        obtain ⟨U2, hU2⟩ : ∃ U2, U2 = bitsOf V (8 * W) := ⟨_, rfl⟩
        rw [← hU1] at co hu1 HRW8
        rw [← hU2] at cq hu2 HRW8
        have hl1 : U1.length ≤ 25 := by omega
        have hl2 : U2.length ≤ 64 := by have := D_le HWW.out; omega
        have CO := Lib.hid co
        have CQ := Lib.hid cq
        have hol := HOL.out
        clear co cq hu1 hu2 hU1 hU2 h24
        go_wp2_with fail
        refine (CO.out w4).mono ?_
        rintro _ w5 ⟨v5, rfl, hown5, ho5⟩
        have hb5 := ho5.below (Nat.le_refl _)
        obtain ⟨A5, c5, rfl, -, -, -⟩ := own_form hown5
        have HRD5 := Lib.hid (Rd.of_own hown5)
        have HOWN5 := Lib.hid (own_kept HOWN4.out hb5)
        have HBL5 := Lib.hid (HBL4.out.grow hb5)
        have HTR5 := Lib.hid (HTR4.out.trans (TurnsB.of_below hb5))
        clear hown5 ho5 hb5 HOWN4 HBL4 HTR4 hcell4 CO
        go_wp2_with ((with_reducible show wpList _ _ _ (({ dst := some 57, op := _, type := _, pos := _, after := _, guard := _ } : Oper) :: _) _ _); go_must (refine wpList_app rfl (.tmp 55) (.tmp 56) 37 rfl w3.heap.size 3 i0 (.int .i64 0) 1 8 Try.underlying37 hi0 hz0 hz1 hz2 rfl (by decide) _ _ _ rfl HOWN5.out w5.heap.size A5 U1.length c5 (ivs U1) rfl HRD5.out (by rw [ivs_length, Nat.mul_one]) (ivs_one _) (by simp only [maxLen]; omega) (by omega) HTR5.out.size ?_; intro v6 w6 hown6 hg6; have hrow := own_block HOWN5.out; have hb6 := blk_row HBL5.out hg6 (fun r e => by have := hrow r e; have := HC3.out; omega); have ht6 := HTR5.out.growO hg6 hrow; have HBL6 := Lib.hid hb6; have HTR6 := Lib.hid ht6; rw [← ivs_append] at hown6; have HOWN6 := Lib.hid hown6; have hcell6 := HCL.out w6 (HR3.out.below (ht6.below (B := CB) (Nat.le_refl _) (Nat.le_refl _) (Nat.le_of_lt HC3.out))); obtain ⟨A6, c6, rfl, -, -, -⟩ := own_form HOWN6.out; clear hown6 hg6 hrow hb6 ht6))
        refine (CQ.out w6).mono ?_
        rintro _ w7 ⟨v7, rfl, hown7, ho7⟩
        have hb7 := ho7.below (Nat.le_refl _)
        obtain ⟨A7, c7, rfl, -, -, -⟩ := own_form hown7
        have HRD7 := Lib.hid (Rd.of_own hown7)
        have HOWN7 := Lib.hid (own_kept HOWN6.out hb7)
        have HBL7 := Lib.hid (HBL6.out.grow hb7)
        have HTR7 := Lib.hid (HTR6.out.trans (TurnsB.of_below hb7))
        clear hown7 ho7 hb7 HOWN6 HBL6 HTR6 hcell6 CQ
        go_wp2_with ((with_reducible show wpList _ _ _ (({ dst := some 66, op := _, type := _, pos := _, after := _, guard := _ } : Oper) :: _) _ _); go_must (refine wpList_app rfl (.tmp 58) (.tmp 65) 37 rfl w3.heap.size 3 i0 (.int .i64 0) 1 8 Try.underlying37 hi0 hz0 hz1 hz2 rfl (by decide) _ _ _ rfl HOWN7.out w7.heap.size A7 U2.length c7 (ivs U2) rfl HRD7.out (by rw [ivs_length, Nat.mul_one]) (ivs_one _) (by simp only [maxLen]; omega) (by omega) HTR7.out.size ?_; intro v8 w8 hown8 hg8; have hrow := own_block HOWN7.out; have hb8 := blk_row HBL7.out hg8 (fun r e => by have := hrow r e; have := HC3.out; omega); have ht8 := HTR7.out.growO hg8 hrow; have HBL8 := Lib.hid hb8; have HTR8 := Lib.hid ht8; rw [← ivs_append] at hown8; have HOWN8 := Lib.hid hown8; have hcell8 := HCL.out w8 (HR3.out.below (ht8.below (B := CB) (Nat.le_refl _) (Nat.le_refl _) (Nat.le_of_lt HC3.out))); have hc0 := hb8.cell 0; have hc1 := hb8.cell 1; have hf0 := hb8.frozen 0; have hf1 := hb8.frozen 1; simp only [List.getElem?_cons_zero, List.getElem?_cons_succ] at hc0 hc1; clear hown8 hg8 hrow hb8 ht8))
        refine wp_region_still_tail 5 (by kernel_rfl) (by kernel_rfl) ?_
        simp only [List.take_succ_cons, List.take_zero, List.drop_succ_cons, List.drop_zero]
        repeat still_step
        refine wpStill_nil ?_
        change wpList _ _ _ _ _ w8.drew
        go_wp2_with fail
        refine (C5.out w8.drew).mono ?_
        rintro _ w9 ⟨rfl, hb9⟩
        have hbl9 := HBL8.out.drew_.grow hb9
        have HT9 := Lib.hid (HTR8.out.drew.trans (TurnsB.of_below (T := CB) (S := CB) hb9))
        have HO9 := Lib.hid (own_kept (own_drew HOWN8.out) hb9)
        have hc0 := hbl9.cell 0
        have hc1 := hbl9.cell 1
        have hf0 := hbl9.frozen 0
        have hf1 := hbl9.frozen 1
        simp only [List.getElem?_cons_zero, List.getElem?_cons_succ] at hc0 hc1
        have HBL9 := Lib.hid hbl9
        clear hb9 hbl9 HOWN8 HBL8 HTR8 C5 hcell8
        go_wp2
        go_roundw
        case rel => exact ⟨k + 1, behindA A0 N0 V, behindN N0, o ++ U1 ++ U2, R2, HKS.out, by go_num, HNX.out.1, by rw [← HOR.out, HREQ.out, HRW8.out]; simp, HNX.out.2, by rw [List.length_append, List.length_append]; exact own_setC (own_setC HO9.out (Nat.le_of_lt HC3.out) HC3.out) (Nat.le_of_lt HC3.out) HC3.out, (HBL9.out.set_ 0 _).set_ 1 _, HT9.out.trans ((TurnsB.set_ 0 _).trans (TurnsB.set_ 1 _))⟩
        case measure => have := HKS.out; simp [intOf]; omega
    · obtain rfl : k = ws.length := by omega
      rw [List.drop_length] at hric
      have hRn : R = [] := by cases hric; rfl
      have hoL : o = L := by rw [← HOR.out, hRn, List.append_nil]
      have CA := Lib.hid (rfAll_any A2 rs.length c2 rs wr (((HR4.out.below (htr.below (B := CB) (Nat.le_refl _) (Nat.le_refl _) (Nat.le_of_lt HC3.out))).more (Nat.le_of_lt hCr))) rfl (by have := HRL.out; omega))
      have hol := HOL.out
      have hal : (allBits rs).length ≤ 64 := by rw [allBits_length]; have := HRL.out; omega
      rw [← HUU.out] at CA hal
      have HOLQ := Lib.hid hoL
      have HBW := Lib.hid (HB3.out.trans (htr.below (B := w.heap.size) HCW.out HCW.out HB3.out.size))
      clear hric hRn hoL hcok htr HRW hlt
      go_wp2_with fail
      refine CA.out.mono ?_
      rintro _ w5 ⟨v5, rfl, hown5, ho5⟩
      have hb5 := ho5.below (Nat.le_refl _)
      obtain ⟨A5, c5, rfl, -, -, -⟩ := own_form hown5
      have HRD5 := Lib.hid (Rd.of_own hown5)
      have HOWN5 := Lib.hid (own_kept HOWN.out hb5)
      have HTR5 := Lib.hid (HTR.out.trans (TurnsB.of_below (T := CB) (S := CB) hb5))
      have HB5 := Lib.hid (HBW.out.trans (hb5.mono HBW.out.size))
      clear hown5 ho5 hb5 HOWN HTR HBW CA
      go_wp2_with ((with_reducible show wpList _ _ _ (({ dst := some 76, op := _, type := _, pos := _, after := _, guard := _ } : Oper) :: _) _ _); go_must (refine wpList_app rfl (.tmp 73) (.tmp 75) 37 rfl w3.heap.size 3 i0 (.int .i64 0) 1 8 Try.underlying37 hi0 hz0 hz1 hz2 rfl (by decide) _ _ _ rfl HOWN5.out w5.heap.size A5 U.length c5 (ivs U) rfl HRD5.out (by rw [ivs_length, Nat.mul_one]) (ivs_one _) (by simp only [maxLen]; omega) (by omega) HTR5.out.size ?_; intro v6 w6 hown6 hg6; rw [← ivs_append, ← List.length_append, HOLQ.out] at hown6; have hb6 := HB5.out.grown hg6 HB5.out.size (fun r e => by have := own_block HOWN5.out r e; have := HB3.out.size; omega); have HE := Lib.hid (And.intro (own_more hown6 HB3.out.size) hb6); clear hown6 hg6 hb6))
      go_ret
      exact ⟨_, rfl, HE.out.1, HE.out.2⟩
end Go.Proofs.Ytfdgnhfppginiaa
