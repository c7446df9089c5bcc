/-
  Layer 19: the program takes a word. · Layer 19: the program takes words. · Layer 19: the program takes bytes as they are.
-/
import Derived.Test.YtflcmmeoppdhdaaGreatR03
import Derived.Test.YtflcmmeoppdhdaaGreatR07
namespace Go.Proofs.YtflcmmeoppdhdaaGreat
open Go.RowKit Go.Sort

theorem results_tmp_cell_row {P : Program} {fn : Func} {u p : Tmp} {ty : TypeId} (h : fn.results = #[.tmp u, .cell p ty]) (tmps : Array Value) (w : World) (g : Nat) (t : TypeId) (cs : Array Value) (fr : Nat × Nat) (d : TypeDesc)
    (hp : tmps.getD p undef = .pointer (some ⟨g, 0, none⟩)) (hg : w.heap[g]? = some (.cells cs t fr))
    (hu : P.underlying ty = some d) (hd : (match d with | .struct _ | .array _ _ => true | _ => false) = true) (hi : (P.info? ty).map (·.size) = some cs.size) :
    (results fn tmps).run P w = .ok (.tuple #[tmps.getD u undef, .agg cs]) w := by
  have hp' : tmps[p]?.getD undef = .pointer (some ⟨g, 0, none⟩) := by simpa using hp
  simp [results, h, hp', asAddr, run_loadVar_row w g t ty cs fr d hg hu hd hi]
theorem OnlyT.set_new {B : Nat} {ts : List TypeId} {w w' : World} (h : OnlyT B ts w w') {p : Addr} (hp : w.heap.size ≤ p.block) (u : Value) : OnlyT B ts w (w'.setCell p u) :=
  ⟨h.os, h.tape, h.output, by simpa [World.setCell] using h.size, fun k hk hn => (Below.heap_setCell w' p u k (by omega)).trans (h.block k hk hn)⟩
/-- A word that is taken, as the program takes it, and what is left. -/
def riceQV (D k : Nat) (s : List Bool × Nat) : Nat := if onesV s 24 = 24 then getV (onesS s 24) D else onesV s 24 * 2 ^ k + getV (onesS s 24) k
def riceQS (D k : Nat) (s : List Bool × Nat) : List Bool × Nat := if onesV s 24 = 24 then getS (onesS s 24) D else getS (onesS s 24) k
theorem riceQ_out {D k : Nat} {s : List Bool × Nat} (h : 2 ^ D - 1 < riceQV D k s) : riceV D k s = none := by
  have hp : 0 < 2 ^ D := Nat.two_pow_pos D
  unfold riceQV at h
  by_cases h24 : onesV s 24 = 24
  · rw [if_pos h24] at h
    have := getV_lt (onesS s 24) D
    omega
  · rw [if_neg h24] at h
    by_cases hc : 0 < onesV s 24 ∧ (2 ^ D - 1) / onesV s 24 < 2 ^ k
    · exact riceV_C rfl rfl h24 hc
    · exact riceV_D rfl rfl h24 hc h
theorem riceQ_in {D k : Nat} {s : List Bool × Nat} (h : ¬ 2 ^ D - 1 < riceQV D k s) : riceV D k s = if (riceQS D k s).2 = 0 then some (riceQV D k s, riceQS D k s) else none := by
  unfold riceQV at h
  unfold riceQV riceQS
  by_cases h24 : onesV s 24 = 24
  · rw [if_pos h24, if_pos h24]
    exact riceV_A rfl rfl h24
  · rw [if_neg h24] at h
    rw [if_neg h24, if_neg h24]
    have hc : ¬ (0 < onesV s 24 ∧ (2 ^ D - 1) / onesV s 24 < 2 ^ k) := fun ⟨h1, h2⟩ => by
      rw [Nat.div_lt_iff_lt_mul h1, Nat.mul_comm] at h2
      omega
    exact riceV_F rfl rfl h24 hc h
theorem riceQ_stuck {D k : Nat} {s : List Bool × Nat} (h : s.2 ≠ 0) : riceQV D k s = 0 ∧ riceQS D k s = s := by
  have h1 : onesV s 24 = 0 := by unfold onesV; rw [if_neg h]
  have h2 : onesS s 24 = s := by unfold onesS; rw [if_neg h]
  have h3 : getV s k = 0 := by unfold getV; rw [if_neg (fun q => h q.1)]
  have h4 : getS s k = s := by unfold getS; rw [if_neg h]
  unfold riceQV riceQS
  rw [h1, if_neg (by decide), if_neg (by decide), h2, h3, h4]
  exact ⟨by simp, rfl⟩
/-- What take answers. -/
def takeAns (D A N pv : Nat) : Value := if 2 ^ D - 1 < pv then .tuple #[.int .u64 0, cntV 0 0] else .tuple #[.int .u64 (pv : Int), cntV (behindA A N pv) (behindN N)]
set_option maxHeartbeats 4000000 in
set_option maxRecDepth 100000 in
theorem riceTake_any {W A N K g : Nat} {s : List Bool × Nat} (hW : IsW W) (hc : CountsOk (8 * W) A N) (hK : IsK A N K) (w : World) (hr : RdrIs w g s.1 s.2) :
    Calls Tryz.prog 291 #[cntV A N, .pointer (some ⟨g, 0, none⟩), .int .i64 (W : Int)] w fun e w' => e = .returned (takeAns (8 * W) A N (riceQV (8 * W) K s)) ∧ RdrIs w' g (riceQS (8 * W) K s).1 (riceQS (8 * W) K s).2 ∧ OnlyT g [222] w w' := by
  have hK33 := isK_few hc hK
  have C1 := Lib.hid (fun W' => ricePar_any hc hK W')
  have HBH := Lib.hid (fun (v : Nat) (hv : v < 18446744073709551616) W' => riceBeh_any (A := A) (N := N) (v := v) (by obtain ⟨g1, g2, g3, g4⟩ := hc; omega) hc.2.1 hv W')
  unfold cntV at C1 HBH ⊢
  have hMk : maskN (W : Int) = 2 ^ (8 * W) - 1 := by unfold maskN; rw [← hW.right, if_pos rfl, Int.toNat_natCast, Nat.pow_mul]
  have cmk := fun w' => wordMask_any (W : Int) w'
  rw [hMk] at cmk
  have hM64 : 2 ^ (8 * W) - 1 < 18446744073709551616 := by
    have h1 : 2 ^ (8 * W) ≤ 2 ^ 64 := Nat.pow_le_pow_right (n := 2) (by decide) (D_le hW).2
    have h2 : 0 < 2 ^ (8 * W) := Nat.two_pow_pos _
    omega
  have hans : ∀ pv, takeAns (8 * W) A N pv = if 2 ^ (8 * W) - 1 < pv then .tuple #[.int .u64 0, cntV 0 0] else .tuple #[.int .u64 (pv : Int), cntV (behindA A N pv) (behindN N)] := fun pv => rfl
  obtain ⟨Mk, hMk2⟩ : ∃ Mk, Mk = 2 ^ (8 * W) - 1 := ⟨_, rfl⟩
  rw [← hMk2] at cmk hM64
  simp only [← hMk2] at hans
  have CMK := Lib.hid cmk
  have HANS := Lib.hid hans
  have hb0 := ((Below.refl w.heap.size w).alloc (Nat.le_refl _) (.cells #[.int .u64 (A : Int), .int .u64 (N : Int)] 325)).alloc (by simp) (.cells #[.int .u64 0, .int .u64 0] 325)
  have hk0 : Blk ((w.alloc (.cells #[.int .u64 (A : Int), .int .u64 (N : Int)] 325)).alloc (.cells #[.int .u64 0, .int .u64 0] 325)) w.heap.size 325 [.int .u64 (A : Int), .int .u64 (N : Int)] := (show Blk _ w.heap.size 325 [.int .u64 (A : Int), .int .u64 (N : Int)] from heap_alloc_new w _).alloc_ _
  have hk1 : Blk ((w.alloc (.cells #[.int .u64 (A : Int), .int .u64 (N : Int)] 325)).alloc (.cells #[.int .u64 0, .int .u64 0] 325)) (w.heap.size + 1) 325 [.int .u64 0, .int .u64 0] := by
    have := heap_alloc_new (w.alloc (.cells #[.int .u64 (A : Int), .int .u64 (N : Int)] 325)) (.cells #[.int .u64 0, .int .u64 0] 325)
    rwa [World.size_alloc] at this
  have HW0 := Lib.hid (hr.only (OnlyT.of_below (B := w.heap.size) (ts := []) hb0) (by simp) (by simp))
  have HO0 := Lib.hid (OnlyT.of_below (B := g) (ts := [222]) hb0)
  have HK0 := Lib.hid hk0
  have HL0 := Lib.hid hk1
  have HWW := Lib.hid hW
  have hW8 : (W : Int) ≤ 8 := by have := hW.pos; omega
  have hW1 : (1 : Int) ≤ (W : Int) := by have := hW.pos; omega
  have H8W := Lib.hid (show (8 : Int) * (W : Int) = ((8 * W : Nat) : Int) by omega)
  have hql := onesV_le s
  have hqv : riceQV (8 * W) K s = if onesV s 24 = 24 then getV (onesS s 24) (8 * W) else onesV s 24 * 2 ^ K + getV (onesS s 24) K := rfl
  have hqs : riceQS (8 * W) K s = if onesV s 24 = 24 then getS (onesS s 24) (8 * W) else getS (onesS s 24) K := rfl
  obtain ⟨QV, hQV⟩ : ∃ QV, QV = riceQV (8 * W) K s := ⟨_, rfl⟩
  obtain ⟨QS, hQS⟩ : ∃ QS, QS = riceQS (8 * W) K s := ⟨_, rfl⟩
  have co := fun W' h => rOnes_st g 24 s W' h (by decide)
  obtain ⟨q, hq⟩ : ∃ q, q = onesV s 24 := ⟨_, rfl⟩
  obtain ⟨s1, hs1⟩ : ∃ s1, s1 = onesS s 24 := ⟨_, rfl⟩
  rw [← hq, ← hs1] at co hqv hqs
  rw [← hq] at hql
  rw [← hQV] at hqv ⊢
  rw [← hQS] at hqs ⊢
  have CO := Lib.hid co
  have HQV := Lib.hid hqv
  have HQS := Lib.hid hqs
  have hqw : IntKind.u64.wrap (q : Int) = (q : Int) := by rw [IntKind.wrap_u64]; omega
  clear hqv hqs hQV hQS co hq hs1 cmk hans hMk hMk2 hb0 hk0 hk1 hr hc hK hW
  go_enter Tryz.func291, Tryz.ntmps291
  go_wp2_with fail
  obtain ⟨w0, hw0⟩ : ∃ w0, w0 = (w.alloc (.cells #[.int .u64 (A : Int), .int .u64 (N : Int)] 325)).alloc (.cells #[.int .u64 0, .int .u64 0] 325) := ⟨_, rfl⟩
  rw [← hw0] at HW0 HO0 HK0 HL0 ⊢
  clear hw0
  refine (C1.out _).mono ?_
  rintro _ w1 ⟨rfl, hb1⟩
  have HW1 := Lib.hid (HW0.out.only (OnlyT.of_below (B := w0.heap.size) (ts := []) hb1) (by simp) (by simp))
  have HO1 := Lib.hid (HO0.out.trans (OnlyT.of_below hb1))
  have HK1 := Lib.hid (HK0.out.grow hb1)
  have HL1 := Lib.hid (HL0.out.grow hb1)
  clear hb1 HW0 HO0 HK0 HL0 C1
  go_wp2_with fail
  refine (CO.out w1 HW1.out).mono ?_
  rintro _ w2 ⟨rfl, hrd, ho⟩
  have HW2 := Lib.hid hrd
  have HO2 := Lib.hid (HO1.out.trans ho)
  have HK2 := Lib.hid (HK1.out.only ho (by decide))
  have HL2 := Lib.hid (HL1.out.only ho (by decide))
  clear hrd ho HW1 HO1 HK1 HL1 CO
  by_cases h24 : q = 24
  · have hqlt : ¬ (q : Int) < 24 := by omega
    have hqv := HQV.out
    have hqs := HQS.out
    rw [if_pos h24] at hqv hqs
    have cg := rGet_st g (8 * W) s1 w2 HW2.out (D_le HWW.out).2
    rw [← hqv, ← hqs, ← H8W.out] at cg
    have hqb := getV_lt s1 (8 * W)
    rw [← hqv] at hqb
    have hQ64 : QV < 18446744073709551616 := Nat.lt_of_lt_of_le hqb (Nat.pow_le_pow_right (n := 2) (by decide) (D_le HWW.out).2)
    have CG := Lib.hid cg
    clear cg hqv hqs hqb h24
    go_wp2_with fail
    refine CG.out.mono ?_
    rintro _ w3 ⟨rfl, hrd, ho⟩
    have HW3 := Lib.hid hrd
    have HO3 := Lib.hid (HO2.out.trans ho)
    have HK3 := Lib.hid (HK2.out.only ho (by decide))
    have HL3 := Lib.hid (HL2.out.only ho (by decide))
    clear hrd ho HW2 HO2 HK2 HL2 CG
    go_wp2_with fail
    refine (CMK.out w3).mono ?_
    rintro _ w7 ⟨rfl, hw7⟩
    subst w7
    have hc0 := HK3.out.cell 0
    have hc1 := HK3.out.cell 1
    simp only [List.getElem?_cons_zero, List.getElem?_cons_succ] at hc0 hc1
    by_cases hbig : Mk < QV
    · have hbi : (Mk : Int) < (QV : Int) := by omega
      have han := HANS.out QV
      rw [if_pos hbig] at han
      unfold cntV at han
      have HAN := Lib.hid han
      have hd0 := HL3.out.cell 0
      have hd1 := HL3.out.cell 1
      have hf0 := HL3.out.frozen 0
      have hf1 := HL3.out.frozen 1
      simp only [List.getElem?_cons_zero, List.getElem?_cons_succ] at hd0 hd1
      clear han HBH
      go_wp2
      (try simp only [Exit.inBlock, Exit.then])
      exact bodyPost_ret (results_tmp_cell_row (u := 6) (p := 7) (cs := #[.int .u64 0, .int .u64 0]) (t := 325) (fr := (0, 0)) Tryz.results291 _ _ (w.heap.size + 1) _ rfl ((HL3.out.set_ 0 _).set_ 1 _) Tryz.underlying325 rfl pcnt_size) rfl ⟨by rw [HAN.out]; rfl, (HW3.out.only (B := w.heap.size) (ts := [325]) ((OnlyT.set_ HL3.out (by omega) _ (by simp)).trans (OnlyT.set_ (HL3.out.set_ 0 _) (by omega) _ (by simp))) (by decide) (by decide)), (HO3.out.set_new (p := ⟨w.heap.size + 1, 0, none⟩) (by simp) _).set_new (p := ⟨w.heap.size + 1, 1, none⟩) (by simp) _⟩
    · have hbi : ¬ (Mk : Int) < (QV : Int) := by omega
      have han := HANS.out QV
      rw [if_neg hbig] at han
      unfold cntV at han
      have HAN := Lib.hid han
      have CB := Lib.hid (HBH.out QV (by omega) w3)
      clear han HBH
      go_wp2_with fail
      refine CB.out.mono ?_
      rintro _ w4 ⟨rfl, hb4⟩
      have HW4 := Lib.hid (HW3.out.only (OnlyT.of_below (B := w3.heap.size) (ts := []) hb4) (by simp) (by simp))
      have HO4 := Lib.hid (HO3.out.trans (OnlyT.of_below hb4))
      have HL4 := Lib.hid (HL3.out.grow hb4)
      have hd0 := HL4.out.cell 0
      have hd1 := HL4.out.cell 1
      have hf0 := HL4.out.frozen 0
      have hf1 := HL4.out.frozen 1
      simp only [List.getElem?_cons_zero, List.getElem?_cons_succ] at hd0 hd1
      clear hb4 HW3 HO3 HK3 HL3 CB hc0 hc1
      go_wp2
      (try simp only [Exit.inBlock, Exit.then])
      exact bodyPost_ret (results_tmp_cell_row (u := 6) (p := 7) (cs := #[.int .u64 ((behindA A N QV : Nat) : Int), .int .u64 ((behindN N : Nat) : Int)]) (t := 325) (fr := (0, 0)) Tryz.results291 _ _ (w.heap.size + 1) _ rfl ((HL4.out.set_ 0 _).set_ 1 _) Tryz.underlying325 rfl pcnt_size) rfl ⟨by rw [HAN.out]; rfl, (HW4.out.only (B := w.heap.size) (ts := [325]) ((OnlyT.set_ HL4.out (by omega) _ (by simp)).trans (OnlyT.set_ (HL4.out.set_ 0 _) (by omega) _ (by simp))) (by decide) (by decide)), (HO4.out.set_new (p := ⟨w.heap.size + 1, 0, none⟩) (by simp) _).set_new (p := ⟨w.heap.size + 1, 1, none⟩) (by simp) _⟩
  · have hqlt : (q : Int) < 24 := by omega
    have hqv := HQV.out
    have hqs := HQS.out
    rw [if_neg h24] at hqv hqs
    have cg := fun W' h => rGet_st g K s1 W' h (by omega)
    have hgb := getV_lt s1 K
    have hP33 : 2 ^ K ≤ 8589934592 := Nat.pow_le_pow_right (n := 2) (by decide) hK33
    have hqP : q * 2 ^ K ≤ 24 * 8589934592 := Nat.mul_le_mul hql hP33
    obtain ⟨gv, hgv⟩ : ∃ gv, gv = getV s1 K := ⟨_, rfl⟩
    rw [← hgv] at cg hqv hgb
    rw [← hqs] at cg
    obtain ⟨qk, hqk⟩ : ∃ qk, qk = q * 2 ^ K := ⟨_, rfl⟩
    rw [← hqk] at hqv hqP
    have hshl : IntKind.u64.wrap ((q : Int) * 2 ^ K) = (qk : Int) := by
      have e : (q : Int) * 2 ^ K = (qk : Int) := by rw [hqk]; simp
      rw [e, IntKind.wrap_u64]; omega
    have hadd : IntKind.u64.wrap ((qk : Int) + (gv : Int)) = (QV : Int) := by rw [IntKind.wrap_u64]; omega
    have hQ64 : QV < 18446744073709551616 := by omega
    have hK0 : (0 : Int) ≤ (K : Int) := by omega
    have CG := Lib.hid cg
    have hsz := HO2.out.size
    clear cg hqv hqs hgb hgv hqk hqP h24 hP33
    go_wp2
    have HWD := Lib.hid (show RdrIs w2.drew g s1.1 s1.2 from HW2.out.only (OnlyT.of_below (B := w2.heap.size) (ts := []) (Below.refl _ _).drew) (by simp) (by simp))
    have HOD := Lib.hid HO2.out.drew
    have HKD := Lib.hid (show Blk w2.drew w.heap.size 325 [.int .u64 (A : Int), .int .u64 (N : Int)] from HK2.out.same rfl)
    have HLD := Lib.hid (show Blk w2.drew (w.heap.size + 1) 325 [.int .u64 0, .int .u64 0] from HL2.out.same rfl)
    clear HW2 HO2 HK2 HL2
    go_region_with (go_at_call 165; refine (CG.out _ HWD.out).mono ?_; rintro _ w3 ⟨rfl, hrd, ho⟩; have HW3 := Lib.hid hrd; have HO3 := Lib.hid (HOD.out.trans ho); have HK3 := Lib.hid (HKD.out.only ho (by decide)); have HL3 := Lib.hid (HLD.out.only ho (by decide)); clear hrd ho)
    clear HWD HOD HKD HLD CG hshl hadd
    go_wp2_with fail
    refine (CMK.out w3).mono ?_
    rintro _ w7 ⟨rfl, hw7⟩
    subst w7
    have hc0 := HK3.out.cell 0
    have hc1 := HK3.out.cell 1
    simp only [List.getElem?_cons_zero, List.getElem?_cons_succ] at hc0 hc1
    by_cases hbig : Mk < QV
    · have hbi : (Mk : Int) < (QV : Int) := by omega
      have han := HANS.out QV
      rw [if_pos hbig] at han
      unfold cntV at han
      have HAN := Lib.hid han
      have hd0 := HL3.out.cell 0
      have hd1 := HL3.out.cell 1
      have hf0 := HL3.out.frozen 0
      have hf1 := HL3.out.frozen 1
      simp only [List.getElem?_cons_zero, List.getElem?_cons_succ] at hd0 hd1
      clear han HBH
      go_wp2
      (try simp only [Exit.inBlock, Exit.then])
      exact bodyPost_ret (results_tmp_cell_row (u := 6) (p := 7) (cs := #[.int .u64 0, .int .u64 0]) (t := 325) (fr := (0, 0)) Tryz.results291 _ _ (w.heap.size + 1) _ rfl ((HL3.out.set_ 0 _).set_ 1 _) Tryz.underlying325 rfl pcnt_size) rfl ⟨by rw [HAN.out]; rfl, (HW3.out.only (B := w.heap.size) (ts := [325]) ((OnlyT.set_ HL3.out (by omega) _ (by simp)).trans (OnlyT.set_ (HL3.out.set_ 0 _) (by omega) _ (by simp))) (by decide) (by decide)), (HO3.out.set_new (p := ⟨w.heap.size + 1, 0, none⟩) (by simp) _).set_new (p := ⟨w.heap.size + 1, 1, none⟩) (by simp) _⟩
    · have hbi : ¬ (Mk : Int) < (QV : Int) := by omega
      have han := HANS.out QV
      rw [if_neg hbig] at han
      unfold cntV at han
      have HAN := Lib.hid han
      have CB := Lib.hid (HBH.out QV (by omega) w3)
      clear han HBH
      go_wp2_with fail
      refine CB.out.mono ?_
      rintro _ w4 ⟨rfl, hb4⟩
      have HW4 := Lib.hid (HW3.out.only (OnlyT.of_below (B := w3.heap.size) (ts := []) hb4) (by simp) (by simp))
      have HO4 := Lib.hid (HO3.out.trans (OnlyT.of_below hb4))
      have HL4 := Lib.hid (HL3.out.grow hb4)
      have hd0 := HL4.out.cell 0
      have hd1 := HL4.out.cell 1
      have hf0 := HL4.out.frozen 0
      have hf1 := HL4.out.frozen 1
      simp only [List.getElem?_cons_zero, List.getElem?_cons_succ] at hd0 hd1
      clear hb4 HW3 HO3 HK3 HL3 CB hc0 hc1
      go_wp2
      (try simp only [Exit.inBlock, Exit.then])
      exact bodyPost_ret (results_tmp_cell_row (u := 6) (p := 7) (cs := #[.int .u64 ((behindA A N QV : Nat) : Int), .int .u64 ((behindN N : Nat) : Int)]) (t := 325) (fr := (0, 0)) Tryz.results291 _ _ (w.heap.size + 1) _ rfl ((HL4.out.set_ 0 _).set_ 1 _) Tryz.underlying325 rfl pcnt_size) rfl ⟨by rw [HAN.out]; rfl, (HW4.out.only (B := w.heap.size) (ts := [325]) ((OnlyT.set_ HL4.out (by omega) _ (by simp)).trans (OnlyT.set_ (HL4.out.set_ 0 _) (by omega) _ (by simp))) (by decide) (by decide)), (HO4.out.set_new (p := ⟨w.heap.size + 1, 0, none⟩) (by simp) _).set_new (p := ⟨w.heap.size + 1, 1, none⟩) (by simp) _⟩
end Go.Proofs.YtflcmmeoppdhdaaGreat
namespace Go.Proofs.YtflcmmeoppdhdaaGreat
open Go.RowKit Go.Sort

theorem riceFirst_at (w : World) : Calls Tryz.prog 281 #[] w fun e w' => e = .returned (.agg #[.int .u64 16, .int .u64 1]) ∧ w' = w.alloc (.cells #[.int .u64 16, .int .u64 1] 325) := by
  go_enter Tryz.func281, Tryz.ntmps281
  go_wp2
  exact bodyPost_ret (v := .agg #[.int .u64 16, .int .u64 1]) (pcnt_end Tryz.results281 rfl (heap_alloc_new w _)) rfl ⟨rfl, rfl⟩
/-- make of n noughts, as an equation. -/
theorem make_eq {P : Program} {t e : TypeId} {i : TypeInfo} {z : Value} (ht : P.underlying t = some (.slice e)) (hi : P.info? e = some i) (hz : i.zero = some z) (hzs : z.cells = #[z]) (hsize : i.size = 1) (hby : i.bytes ≤ 8) (n : Nat) (hn : n ≤ 1000000) (w : World) :
    (Instr.makeSlice t (.int .i64 (n : Int)) (.int .i64 (n : Int))).run P w = .ok (.slice (some ⟨w.heap.size, 0, none⟩) n n) (w.alloc (.cells (List.replicate n z).toArray e)) := by
  have hbn : ((i.bytes * n : Nat) : Int) ≤ 281474976710656 := by have := Nat.mul_le_mul_right n hby; omega
  rw [Int.natCast_mul] at hbn
  have hrun := run_make (P := P) w t e i z ht hi hz .i64 .i64 n n (by omega) (Int.le_refl _) hbn (by omega)
  simp only [Int.toNat_natCast, hsize, Nat.mul_one, hzs] at hrun
  have hcells : madeCells #[z] n = (List.replicate n z).toArray := by
    apply Array.ext'; rw [toList_madeCells_one]
  rw [hcells] at hrun
  exact hrun
/-- So many words, and noughts behind them. -/
def padW (X : List Nat) (M : Nat) : List Nat := X ++ List.replicate (M - X.length) 0
theorem padW_set {X : List Nat} {M : Nat} (h : X.length < M) (v : Nat) : (wvs (padW X M)).set X.length (.int .u64 (v : Int)) = wvs (padW (X ++ [v]) M) := by
  obtain ⟨k, hk⟩ : ∃ k, M - X.length = k + 1 := ⟨M - X.length - 1, by omega⟩
  have e : M - (X.length + 1) = k := by omega
  have e2 : (wvs (padW X M)).set X.length (.int .u64 (v : Int)) = wvs ((padW X M).set X.length v) := by simp [wvs, List.map_set]
  rw [e2]
  unfold padW
  rw [hk, List.length_append, List.length_singleton, e, List.set_append_right _ _ (Nat.le_refl _), Nat.sub_self, List.replicate_succ, List.set_cons_zero, List.append_assoc]
  rfl
/-- Words that are told up to here, and what the rest will tell; or an error, and nothing is told. -/
def WdsOk (D M : Nat) (o : Option (List Nat × (List Bool × Nat))) (X : List Nat) (A N : Nat) (s : List Bool × Nat) : Prop :=
  (s.2 = 0 ∧ ∃ o2, RiceR D (M - X.length) A N s o2 ∧ aheadO X o2 = o) ∨ (s.2 ≠ 0 ∧ o = none)
theorem WdsOk.bad {D M A N K : Nat} {o : Option (List Nat × (List Bool × Nat))} {X : List Nat} {s : List Bool × Nat} (h : WdsOk D M o X A N s) (hlt : X.length < M) (hK : IsK A N K) (hb : 2 ^ D - 1 < riceQV D K s) : o = none := by
  rcases h with ⟨h1, o2, h2, h3⟩ | ⟨h1, h2⟩
  · obtain ⟨k, hk⟩ : ∃ k, M - X.length = k + 1 := ⟨M - X.length - 1, by omega⟩
    rw [hk] at h2
    rw [← h3, (h2.next hK).1 (riceQ_out hb)]
    rfl
  · exact h2
theorem WdsOk.next {D M A N K : Nat} {o : Option (List Nat × (List Bool × Nat))} {X : List Nat} {s : List Bool × Nat} (h : WdsOk D M o X A N s) (hlt : X.length < M) (hK : IsK A N K) (hb : ¬ 2 ^ D - 1 < riceQV D K s) :
    WdsOk D M o (X ++ [riceQV D K s]) (behindA A N (riceQV D K s)) (behindN N) (riceQS D K s) := by
  rcases h with ⟨h1, o2, h2, h3⟩ | ⟨h1, h2⟩
  · obtain ⟨k, hk⟩ : ∃ k, M - X.length = k + 1 := ⟨M - X.length - 1, by omega⟩
    rw [hk] at h2
    have hq := riceQ_in hb
    by_cases h0 : (riceQS D K s).2 = 0
    · rw [if_pos h0] at hq
      obtain ⟨o3, h4, h5⟩ := (h2.next hK).2 _ _ hq
      refine .inl ⟨h0, o3, ?_, by rw [← h3, h5, aheadO_cons]⟩
      rw [List.length_append, List.length_singleton, show M - (X.length + 1) = k by omega]
      exact h4
    · rw [if_neg h0] at hq
      refine .inr ⟨h0, ?_⟩
      rw [← h3, (h2.next hK).1 hq]
      rfl
  · rw [(riceQ_stuck h1).2]
    exact .inr ⟨h1, h2⟩
theorem behindN_pos {N : Nat} : 1 ≤ behindN N := by unfold behindN; split <;> omega
/-- What holds at the head of a round. -/
def RWRel (w : World) (D M g a b : Nat) (o : Option (List Nat × (List Bool × Nat))) (i : Value) (wr : World) : Prop :=
  ∃ (X : List Nat) (A N : Nat) (s : List Bool × Nat), X.length ≤ M ∧ i = .int .i64 (X.length : Int) ∧ CountsOk D A N ∧ (∀ x ∈ X, x < 2 ^ D) ∧ RdrIs wr g s.1 s.2 ∧ Blk wr a 88 (wvs (padW X M)) ∧ Blk wr b 325 [.int .u64 (A : Int), .int .u64 (N : Int)] ∧ OnlyT g [222] w wr ∧ WdsOk D M o X A N s
/-- What words hands back. -/
def WordsSays (w : World) (D M g : Nat) (o : Option (List Nat × (List Bool × Nat))) (e : Ending) (w' : World) : Prop :=
  OnlyT g [222] w w' ∧ ((e = .returned (.tuple #[.slice none 0 0, .bool false]) ∧ o = none) ∨ ∃ a X s, e = .returned (.tuple #[.slice (some ⟨a, 0, none⟩) M M, .bool true]) ∧ w.heap.size ≤ a ∧ Blk w' a 88 (wvs X) ∧ X.length = M ∧ (∀ x ∈ X, x < 2 ^ D) ∧ RdrIs w' g s.1 s.2 ∧ ((s.2 = 0 ∧ o = some (X, s)) ∨ (s.2 ≠ 0 ∧ o = none)))
theorem three_blk {w : World} {o1 o2 o3 : Obj} : (((w.alloc o1).alloc o2).alloc o3).drew.heap[w.heap.size]? = some o1 ∧ (((w.alloc o1).alloc o2).alloc o3).drew.heap[w.heap.size + 1]? = some o2 ∧ (((w.alloc o1).alloc o2).alloc o3).drew.heap[w.heap.size + 1 + 1]? = some o3 ∧ Below w.heap.size w (((w.alloc o1).alloc o2).alloc o3).drew := by
  have h1 := heap_alloc_new w o1
  have h2 := heap_alloc_new (w.alloc o1) o2
  have h3 := heap_alloc_new ((w.alloc o1).alloc o2) o3
  simp only [World.size_alloc] at h2 h3
  refine ⟨?_, ?_, h3, ((((Below.refl _ _).alloc (Nat.le_refl _) _).alloc (by simp) _).alloc (by simp; omega) _).drew⟩
  · exact (Below.heap_alloc _ _ _ (by simp; omega)).trans ((Below.heap_alloc _ _ _ (by simp)).trans h1)
  · exact (Below.heap_alloc _ _ _ (by simp)).trans h2
set_option maxHeartbeats 4000000 in
set_option maxRecDepth 100000 in
theorem riceWords_any {W M g : Nat} {s0 : List Bool × Nat} {o : Option (List Nat × (List Bool × Nat))} (hW : IsW W) (w : World) (hM : M ≤ 100000) (hr : RdrIs w g s0.1 s0.2) (hs0 : s0.2 = 0) (ho : RiceR (8 * W) M 16 1 s0 o) :
    Calls Tryz.prog 284 #[.pointer (some ⟨g, 0, none⟩), .int .i64 (W : Int), .int .i64 (M : Int)] w (WordsSays w (8 * W) M g o) := by
  have C0 := Lib.hid (fun W' => riceFirst_at W')
  obtain ⟨j0, hj0, hy0, hy1, hy2⟩ := info_parts info_u64r
  obtain ⟨Z, hZ⟩ : ∃ Z, Z = (List.replicate M (Value.int .u64 0)).toArray := ⟨_, rfl⟩
  have hmk := fun W' => make_eq (P := Tryz.prog) (t := 85) (e := 88) Tryz.underlying85 hj0 hy0 rfl hy1 (by rw [hy2]; decide) M (by omega) W'
  rw [← hZ] at hmk
  have HZ := Lib.hid (show Z = (wvs (padW [] M)).toArray by rw [hZ]; simp [wvs, padW])
  have HR := Lib.hid hr
  have HO := Lib.hid (show WdsOk (8 * W) M o [] 16 1 s0 from .inl ⟨hs0, o, ho, by cases o <;> simp [aheadO]⟩)
  have HWW := Lib.hid hW
  clear hZ hj0 hy0 hy1 hy2 hr ho hs0 hW
  have hM0 : (0 : Int) ≤ (M : Int) := by omega
  have hMi : (M : Int) ≤ 100000 := by omega
  go_enter Tryz.func284, Tryz.ntmps284
  go_wp2
  rename_i K1 hK1
  have HEND : ∀ (a b : Nat) (wE : World), a ≠ b → w.heap.size ≤ a → w.heap.size ≤ b → Blk wE a 88 (wvs (padW [] M)) → Blk wE b 325 [.int .u64 16, .int .u64 1] → Below w.heap.size w wE →
      K1 { tmps := #[.pointer (some ⟨g, 0, none⟩), .int .i64 (W : Int), .int .i64 (M : Int), undef, undef, undef, .slice none 0 0, .bool false, .slice (some ⟨a, 0, none⟩) M M, .pointer (some ⟨b, 0, none⟩), undef, .int .i64 (M : Int), .slice (some ⟨a, 0, none⟩) M M, .agg #[.int .u64 16, .int .u64 1], undef, undef, undef, undef, undef, undef, undef, undef, undef, undef, undef, undef, undef, undef, undef, undef, undef, undef, undef, undef], defers := [] } wE := by
    intro a b wE hab hwa hwb hba hbb hbel
    have HREL := Lib.hid (show RWRel w (8 * W) M g a b o (.int .i64 ((0 : Nat) : Int)) wE from ⟨[], 16, 1, s0, Nat.zero_le _, rfl, counts_start (D_le HWW.out).1, by simp, HR.out.only (OnlyT.of_below (B := w.heap.size) (ts := []) hbel) (by simp) (by simp), hba, hbb, OnlyT.of_below hbel, HO.out⟩)
    clear hmk C0 HZ HR HO hba hbb hbel
    refine hK1 _ _ ?_
    clear hK1
    go_wp2
    go_loopw [16] (RWRel w (8 * W) M g a b o) (fun i _ => M - (intOf i).toNat)
    case atStart => exact HREL.out
    case round =>
      clear HREL
      obtain ⟨X, A0, N0, s, hX, rfl, hcok, hxs, hrd, hba, hbb, hot, hok⟩ := hrel
      have HBA := Lib.hid hba
      have HBB := Lib.hid hbb
      have HOT := Lib.hid hot
      have HXS := Lib.hid hxs
      by_cases hlt : X.length < M
      · obtain ⟨K, hKD, hK⟩ := isK_some hcok.2.2.1
        have CT := Lib.hid (riceTake_any HWW.out hcok hK wr hrd)
        have HBAD := Lib.hid (hok.bad hlt hK)
        have HNEXT := Lib.hid (hok.next hlt hK)
        have HCK := Lib.hid hcok
        have hans : ∀ pv, takeAns (8 * W) A0 N0 pv = if 2 ^ (8 * W) - 1 < pv then .tuple #[.int .u64 0, cntV 0 0] else .tuple #[.int .u64 (pv : Int), cntV (behindA A0 N0 pv) (behindN N0)] := fun pv => rfl
        have HD0 := Lib.hid (Nat.two_pow_pos (8 * W))
        obtain ⟨QV, hQV⟩ : ∃ QV, QV = riceQV (8 * W) K s := ⟨_, rfl⟩
        obtain ⟨QS, hQS⟩ : ∃ QS, QS = riceQS (8 * W) K s := ⟨_, rfl⟩
        rw [← hQV, ← hQS] at CT HNEXT
        rw [← hQV] at HBAD
        have hla : wr.cell? ⟨a, X.length, none⟩ = some (.int .u64 0) := by
          rw [hba.cell X.length]; simp [wvs, padW, show 0 < M - X.length by omega]
        have hc0 := hbb.cell 0
        have hc1 := hbb.cell 1
        simp only [List.getElem?_cons_zero, List.getElem?_cons_succ] at hc0 hc1
        have hki : (X.length : Int) < (M : Int) := by omega
        have HLT := Lib.hid hlt
        by_cases hbig : 2 ^ (8 * W) - 1 < QV
        · have hon := HBAD.out hbig
          rw [hans, if_pos hbig] at CT
          unfold cntV at CT
          clear hX hcok hxs hrd hba hbb hot hok hQV hQS hKD hK hbig hans HBAD HNEXT
          go_wp2_with fail
          refine CT.out.mono ?_
          rintro _ w5 ⟨rfl, hrd5, ho5⟩
          have hba5 := HBA.out.only ho5 (by decide)
          have hbb5 := HBB.out.only ho5 (by decide)
          have hfa := hba5.frozen X.length
          have hda : w5.cell? ⟨a, X.length, none⟩ = some (.int .u64 0) := by
            rw [hba5.cell X.length]; have := HLT.out; simp [wvs, padW, show 0 < M - X.length by omega]
          have hd0 := hbb5.cell 0
          have hd1 := hbb5.cell 1
          have hf0 := hbb5.frozen 0
          have hf1 := hbb5.frozen 1
          simp only [List.getElem?_cons_zero, List.getElem?_cons_succ] at hd0 hd1
          have HOT5 := Lib.hid (((HOT.out.trans ho5).set_new (p := ⟨a, X.length, none⟩) hwa (.int .u64 0)))
          have HOT6 := Lib.hid ((HOT5.out.set_new (p := ⟨b, 0, none⟩) hwb (.int .u64 0)).set_new (p := ⟨b, 1, none⟩) hwb (.int .u64 0))
          clear hrd5 ho5 hba5 hbb5 CT hc0 hc1 hla
          go_wp2
          go_ret2
          exact ⟨HOT6.out, .inl ⟨rfl, hon⟩⟩
        · have hQD : QV < 2 ^ (8 * W) := by have := HD0.out; omega
          have HNX := Lib.hid (HNEXT.out hbig)
          have HCB := Lib.hid (counts_behind HCK.out hQD)
          rw [hans, if_neg hbig] at CT
          unfold cntV at CT
          have HQD := Lib.hid hQD
          have hbn : ((behindN N0 : Nat) : Int) ≠ 0 := by have := behindN_pos (N := N0); omega
          obtain ⟨A2, hA2⟩ : ∃ A2, A2 = behindA A0 N0 QV := ⟨_, rfl⟩
          obtain ⟨N2, hN2⟩ : ∃ N2, N2 = behindN N0 := ⟨_, rfl⟩
          rw [← hN2] at hbn
          rw [← hA2, ← hN2] at CT HNX HCB
          clear hX hcok hxs hrd hba hbb hot hok hQV hQS hKD hK hbig hans HBAD HNEXT hQD HCK hA2 hN2
          go_wp2_with fail
          refine CT.out.mono ?_
          rintro _ w5 ⟨rfl, hrd5, ho5⟩
          have hba5 := HBA.out.only ho5 (by decide)
          have hbb5 := HBB.out.only ho5 (by decide)
          have hfa := hba5.frozen X.length
          have hda : w5.cell? ⟨a, X.length, none⟩ = some (.int .u64 0) := by
            rw [hba5.cell X.length]; have := HLT.out; simp [wvs, padW, show 0 < M - X.length by omega]
          have hd0 := hbb5.cell 0
          have hd1 := hbb5.cell 1
          have hf0 := hbb5.frozen 0
          have hf1 := hbb5.frozen 1
          simp only [List.getElem?_cons_zero, List.getElem?_cons_succ] at hd0 hd1
          have HOT5 := Lib.hid (((HOT.out.trans ho5).set_new (p := ⟨a, X.length, none⟩) hwa (.int .u64 (QV : Int))))
          have HOT6 := Lib.hid ((HOT5.out.set_new (p := ⟨b, 0, none⟩) hwb (.int .u64 (A2 : Int))).set_new (p := ⟨b, 1, none⟩) hwb (.int .u64 (N2 : Int)))
          have hsa := hba5.set_ X.length (.int .u64 (QV : Int))
          rw [padW_set HLT.out] at hsa
          have HBA6 := Lib.hid ((hsa.setOther ⟨b, 0, none⟩ (.int .u64 (A2 : Int)) (by simpa using hab)).setOther ⟨b, 1, none⟩ (.int .u64 (N2 : Int)) (by simpa using hab))
          have hb2 := (hbb5.setOther ⟨a, X.length, none⟩ (.int .u64 (QV : Int)) (by simpa using Ne.symm hab))
          have HBB6 := Lib.hid ((hb2.set_ 0 (.int .u64 (A2 : Int))).set_ 1 (.int .u64 (N2 : Int)))
          have hrd6 := hrd5.only (B := 0) (ts := [88]) (OnlyT.set_ (i := X.length) hba5 (Nat.zero_le _) (.int .u64 (QV : Int)) (by simp)) (by decide) (by decide)
          have hrd7 := (hrd6.only (B := 0) (ts := [325]) (OnlyT.set_ (i := 0) hb2 (Nat.zero_le _) (.int .u64 (A2 : Int)) (by simp)) (by decide) (by decide)).only (B := 0) (ts := [325]) (OnlyT.set_ (i := 1) (hb2.set_ 0 _) (Nat.zero_le _) (.int .u64 (N2 : Int)) (by simp)) (by decide) (by decide)
          have HRD7 := Lib.hid hrd7
          clear hrd5 hrd6 hrd7 ho5 hba5 hbb5 CT hc0 hc1 hla hsa hb2
          go_wp2
          go_roundw
          case rel => exact ⟨X ++ [QV], A2, N2, QS, by rw [List.length_append, List.length_singleton]; have := HLT.out; omega, by rw [List.length_append, List.length_singleton]; go_num, HCB.out, lt_snoc' HXS.out HQD.out, HRD7.out, HBA6.out, HBB6.out, HOT6.out, HNX.out⟩
          case measure => have := HLT.out; simp [intOf]; omega
      · have hXM : X.length = M := by omega
        have hpad : padW X M = X := by unfold padW; rw [hXM, Nat.sub_self]; simp
        rw [hpad] at HBA
        have HE := Lib.hid (show WordsSays w (8 * W) M g o (.returned (.tuple #[.slice (some ⟨a, 0, none⟩) M M, .bool true])) wr from ⟨HOT.out, .inr ⟨a, X, s, rfl, hwa, HBA.out, hXM, HXS.out, hrd, by
          rcases hok with ⟨h1, o2, h2, h3⟩ | h
          · left
            refine ⟨h1, ?_⟩
            rw [hXM, Nat.sub_self] at h2
            have : o2 = some ([], s) := by cases h2; rfl
            rw [← h3, this]
            simp [aheadO]
          · exact .inr h⟩⟩)
        clear hX hcok hxs hrd hba hbb hot hok hpad HBA HBB HOT HXS
        go_wp2
        go_ret2
        exact HE.out
  go_region_with (go_at_call 281; refine (C0.out _).mono ?_; rintro _ w3 ⟨rfl, rfl⟩)
  all_goals clear C0 hmk HR HO
  · obtain ⟨t1, t2, t3, t4⟩ := three_blk (w := w) (o1 := .cells Z 88) (o2 := .cells #[.int .u64 16, .int .u64 1] 325) (o3 := .cells #[.int .u64 16, .int .u64 1] 325)
    exact HEND w.heap.size (w.heap.size + 1 + 1) _ (by omega) (by omega) (by omega) (by unfold Blk; rw [← HZ.out]; exact t1) t3 t4
  · obtain ⟨t1, t2, t3, t4⟩ := three_blk (w := w) (o1 := .cells Z 88) (o2 := .cells #[.int .u64 16, .int .u64 1] 325) (o3 := .cells #[.int .u64 16, .int .u64 1] 325)
    exact HEND w.heap.size (w.heap.size + 1) _ (by omega) (by omega) (by omega) (by unfold Blk; rw [← HZ.out]; exact t1) t2 t4
  · obtain ⟨t1, t2, t3, t4⟩ := three_blk (w := w) (o1 := .cells #[.int .u64 16, .int .u64 1] 325) (o2 := .cells Z 88) (o3 := .cells #[.int .u64 16, .int .u64 1] 325)
    exact HEND (w.heap.size + 1) (w.heap.size + 1 + 1) _ (by omega) (by omega) (by omega) (by unfold Blk; rw [← HZ.out]; exact t2) t3 t4
  · obtain ⟨t1, t2, t3, t4⟩ := three_blk (w := w) (o1 := .cells #[.int .u64 16, .int .u64 1] 325) (o2 := .cells #[.int .u64 16, .int .u64 1] 325) (o3 := .cells Z 88)
    exact HEND (w.heap.size + 1 + 1) (w.heap.size + 1) _ (by omega) (by omega) (by omega) (by unfold Blk; rw [← HZ.out]; exact t3) t2 t4
  · obtain ⟨t1, t2, t3, t4⟩ := three_blk (w := w) (o1 := .cells #[.int .u64 16, .int .u64 1] 325) (o2 := .cells Z 88) (o3 := .cells #[.int .u64 16, .int .u64 1] 325)
    exact HEND (w.heap.size + 1) w.heap.size _ (by omega) (by omega) (by omega) (by unfold Blk; rw [← HZ.out]; exact t2) t1 t4
  · obtain ⟨t1, t2, t3, t4⟩ := three_blk (w := w) (o1 := .cells #[.int .u64 16, .int .u64 1] 325) (o2 := .cells #[.int .u64 16, .int .u64 1] 325) (o3 := .cells Z 88)
    exact HEND (w.heap.size + 1 + 1) w.heap.size _ (by omega) (by omega) (by omega) (by unfold Blk; rw [← HZ.out]; exact t3) t1 t4
end Go.Proofs.YtflcmmeoppdhdaaGreat
namespace Go.Proofs.YtflcmmeoppdhdaaGreat
open Go.RowKit Go.Sort

theorem restF_stuck : ∀ (m : Nat) (s : List Bool × Nat), s.2 ≠ 0 → (restF m s).2 = s
  | 0, _, _ => rfl
  | m + 1, s, h => by
    have h4 : getS s 8 = s := by unfold getS; rw [if_neg h]
    rw [restF, h4]
    exact restF_stuck m s h
/-- If no error is told behind so many bytes, there were as many. -/
theorem restF_few : ∀ (m : Nat) (s : List Bool × Nat), (restF m s).2.2 = 0 → s.2 = 0 ∧ 8 * m ≤ s.1.length
  | 0, s, h => ⟨h, by omega⟩
  | m + 1, s, h => by
    rw [restF] at h
    obtain ⟨h1, h2⟩ := restF_few m _ h
    obtain ⟨h3, h4⟩ := getS_err h1
    have h5 : (getS s 8).1.length + 8 = s.1.length := by
      unfold getS at h1 ⊢
      rw [if_pos h3] at h1 ⊢
      by_cases h8 : 8 ≤ s.1.length
      · rw [if_pos h8]; simp; omega
      · rw [if_neg h8] at h1; cases h1
    exact ⟨h3, by omega⟩
def RPRel (w : World) (g n a : Nat) (A : Option Addr) (c : Nat) (bs R : List UInt8) (SE : List Bool × Nat) (i : Value) (wr : World) : Prop :=
  ∃ (j : Nat) (rs : List UInt8) (s : List Bool × Nat), j ≤ n ∧ i = .int .i64 (j : Int) ∧ rs.length = j ∧ rs ++ (restF (n - j) s).1 = R ∧ (restF (n - j) s).2 = SE ∧ Blk wr a 5 (bvs (rs ++ List.replicate (n - j) 0)) ∧ RdrA wr g A c bs s.1 s.2 ∧ OnlyT g [222] w wr
theorem info_u8n : (Tryz.prog.info? 5).map (fun i => (i.zero, i.size, i.bytes)) = some (some (.int .u8 0), 1, 1) := by kernel_rfl
set_option maxHeartbeats 2000000 in
set_option maxRecDepth 100000 in
theorem ricePlain_any {g n : Nat} {s0 : List Bool × Nat} (w : World) (hn : n ≤ 8) (hr : RdrIs w g s0.1 s0.2) (hg : g < w.heap.size) :
    Calls Tryz.prog 285 #[.pointer (some ⟨g, 0, none⟩), .int .i64 (n : Int)] w fun e w' => ∃ a, e = .returned (.slice (some ⟨a, 0, none⟩) n n) ∧ w.heap.size ≤ a ∧ Blk w' a 5 (bvs (restF n s0).1) ∧ RdrIs w' g (restF n s0).2.1 (restF n s0).2.2 ∧ OnlyT g [222] w w' := by
  obtain ⟨j0, hj0, hy0, hy1, hy2⟩ := info_parts info_u8n
  obtain ⟨Z, hZ⟩ : ∃ Z, Z = (List.replicate n (Value.int .u8 0)).toArray := ⟨_, rfl⟩
  have hmk := fun W' => make_eq (P := Tryz.prog) (t := 22) (e := 5) Tryz.underlying22 hj0 hy0 rfl hy1 (by rw [hy2]; decide) n (by omega) W'
  rw [← hZ] at hmk
  obtain ⟨A, c, bs, hra⟩ := hr.at_
  have hrow : bs = [] ∨ ∃ b off, A = some ⟨b, off, none⟩ ∧ b ≠ w.heap.size := hra.row.imp id fun ⟨b, off, e, h⟩ => ⟨b, off, e, by omega⟩
  have HROW := Lib.hid hrow
  have hb1 : Below w.heap.size w (w.alloc (.cells Z 5)) := (Below.refl _ _).alloc (Nat.le_refl _) _
  have hk1 : Blk (w.alloc (.cells Z 5)) w.heap.size 5 (bvs ([] ++ List.replicate (n - 0) 0)) := by
    have := heap_alloc_new w (.cells Z 5)
    rw [hZ] at this ⊢
    simpa [Blk, bvs] using this
  have HREL := Lib.hid (show RPRel w g n w.heap.size A c bs (restF n s0).1 (restF n s0).2 (.int .i64 ((0 : Nat) : Int)) _ from ⟨0, [], s0, Nat.zero_le _, rfl, rfl, rfl, rfl, hk1, hra.only (OnlyT.of_below (B := w.heap.size) (ts := []) hb1) (by simp) (by simp), OnlyT.of_below hb1⟩)
  have hgn : g ≠ w.heap.size := by omega
  have hn0 : (0 : Int) ≤ (n : Int) := by omega
  have hn8 : (n : Int) ≤ 8 := by omega
  obtain ⟨R, hR⟩ : ∃ R, R = (restF n s0).1 := ⟨_, rfl⟩
  obtain ⟨SE, hSE⟩ : ∃ SE, SE = (restF n s0).2 := ⟨_, rfl⟩
  rw [← hR, ← hSE] at HREL ⊢
  clear hZ hra hrow hb1 hk1 hr hj0 hy0 hy1 hy2 hR hSE
  go_enter Tryz.func285, Tryz.ntmps285
  go_wp2
  clear hmk
  go_loopw [11] (RPRel w g n w.heap.size A c bs R SE) (fun i _ => n - (intOf i).toNat)
  case atStart => exact HREL.out
  case round =>
    clear HREL
    obtain ⟨j, rs, s, hj, rfl, hrs, hR, hS, hbl, hrd, hot⟩ := hrel
    have HBL := Lib.hid hbl
    have HOT := Lib.hid hot
    by_cases hlt : j < n
    · obtain ⟨t, ht⟩ : ∃ t, n - j = t + 1 := ⟨n - j - 1, by omega⟩
      rw [ht] at hR hS
      have cg := aGet_st g 8 s wr hrd (by decide)
      have hgv := getV_lt s 8
      simp only [restF] at hR hS
      obtain ⟨gv, hgv2⟩ : ∃ gv, gv = getV s 8 := ⟨_, rfl⟩
      obtain ⟨s2, hs2⟩ : ∃ s2, s2 = getS s 8 := ⟨_, rfl⟩
      rw [← hgv2] at cg hgv hR
      rw [← hs2] at cg hR hS
      have CG := Lib.hid cg
      have HH := Lib.hid (And.intro hrs (And.intro hR (And.intro hS (show j < n ∧ n - (j + 1) = t from ⟨hlt, by omega⟩))))
      have hji : (j : Int) < (n : Int) := by omega
      have hg256 : gv < 256 := by simpa using hgv
      have hgw : IntKind.u8.wrap (gv : Int) = (gv : Int) := by rw [IntKind.wrap_u8]; omega
      have h8 : (UInt8.ofNat gv).toNat = gv := by simp [UInt8.toNat_ofNat']; omega
      have HT := Lib.hid ht
      clear hrs hR hS hbl hrd hot cg hgv hgv2 hs2 hj hlt ht
      go_wp2_with fail
      refine CG.out.mono ?_
      rintro _ w5 ⟨rfl, hrd5, ho5⟩
      obtain ⟨w6, hw6⟩ : ∃ w6, w6 = w5.setCell ⟨w.heap.size, j, none⟩ (.int .u8 (gv : Int)) := ⟨_, rfl⟩
      have hbl5 : Blk w5 w.heap.size 5 (bvs (rs ++ List.replicate (n - j) 0)) := HBL.out.only ho5 (by decide)
      have hda : w5.cell? ⟨w.heap.size, j, none⟩ = some (.int .u8 0) := by
        rw [hbl5.cell j, HT.out]; have := HH.out.1; simp [bvs, ← this]
      have hfa := hbl5.frozen j
      have hset := hbl5.set_ j (.int .u8 (gv : Int))
      have he : (bvs (rs ++ List.replicate (n - j) 0)).set j (.int .u8 (gv : Int)) = bvs ((rs ++ [UInt8.ofNat gv]) ++ List.replicate (n - (j + 1)) 0) := by
        have h1 := HH.out.1
        rw [HT.out, HH.out.2.2.2.2, List.replicate_succ, ← h1, bvs_append, List.set_append_right _ _ (by simp [bvs]), show rs.length - (bvs rs).length = 0 by simp [bvs], List.append_assoc, bvs_append, bvs_append]
        simp [bvs, h8]
      rw [he] at hset
      have HSET := Lib.hid hset
      have HRD := Lib.hid (hrd5.setOther (r := w.heap.size) (i := j) HROW.out hgn (.int .u8 (gv : Int)))
      have HOT5 := Lib.hid ((HOT.out.trans ho5).set_new (p := ⟨w.heap.size, j, none⟩) (Nat.le_refl _) (.int .u8 (gv : Int)))
      clear hrd5 ho5 hbl5 hset he hw6 CG HBL HOT
      go_wp2
      go_roundw
      case rel => exact ⟨j + 1, rs ++ [UInt8.ofNat gv], s2, by have := HH.out.2.2.2.1; omega, by go_num, by rw [List.length_append, List.length_singleton, HH.out.1], by rw [HH.out.2.2.2.2, List.append_assoc]; exact HH.out.2.1, by rw [HH.out.2.2.2.2]; exact HH.out.2.2.1, HSET.out, HRD.out, HOT5.out⟩
      case measure => have := HH.out.2.2.2.1; simp [intOf]; omega
    · obtain rfl : j = n := by omega
      rw [Nat.sub_self] at hR hS hbl
      simp only [restF, List.append_nil, List.replicate_zero] at hR hS hbl
      subst hR hS
      have HE := Lib.hid (And.intro hbl (And.intro hrd.is hot))
      clear hbl hrd hot HBL HOT
      go_wp2
      go_ret
      exact ⟨_, rfl, Nat.le_refl _, HE.out.1, HE.out.2.1, HE.out.2.2⟩
end Go.Proofs.YtflcmmeoppdhdaaGreat
