/- Layer 19: the program takes a word. -/
import Derived.Test.YtfdgnhfppginiaaRiceFn
import Derived.Test.YtfdgnhfppginiaaRiceRefD
import Derived.Test.YtfdgnhfppginiaaRdrSt
import Derived.Test.YtfdgnhfppginiaaRegionSeq
namespace Go.Proofs.Ytfdgnhfppginiaa
open Go.RowKit Go.Sort

theorem results_tmp_cell_row {P : Program} {fn : Func} {u p : Tmp} {ty : TypeId} (h : fn.results = #[.tmp u, .cell p ty]) (tmps : Array Value) (w : World) (g : Nat) (t : TypeId) (cs : Array Value) (fr : Nat × Nat) (d : TypeDesc)
    (hp : tmps.getD p undef = .pointer (some ⟨g, 0, none⟩)) (hg : w.heap[g]? = some (.cells cs t fr))
    (hu : P.underlying ty = some d) (hd : (match d with | .struct _ | .array _ _ => true | _ => false) = true) (hi : (P.info? ty).map (·.size) = some cs.size) :
    (results fn tmps).run P w = .ok (.tuple #[tmps.getD u undef, .agg cs]) w := by
  have hp' : tmps[p]?.getD undef = .pointer (some ⟨g, 0, none⟩) := by simpa using hp
  simp [results, h, hp', asAddr, run_loadVar_row w g t ty cs fr d hg hu hd hi]
theorem OnlyT.set_new {B : Nat} {ts : List TypeId} {w w' : World} (h : OnlyT B ts w w') {p : Addr} (hp : w.heap.size ≤ p.block) (u : Value) : OnlyT B ts w (w'.setCell p u) :=
  ⟨h.os, h.tape, h.output, by simpa [World.setCell] using h.size, fun k hk hn => (Below.heap_setCell w' p u k (by omega)).trans (h.block k hk hn)⟩
/-- A word that is taken, as the program takes it, and what is left. -/
def riceQV (D k : Nat) (s : List Bool × Nat) : Nat := if onesV s 24 = 24 then getV (onesS s 24) D else onesV s 24 * 2 ^ k + getV (onesS s 24) k
def riceQS (D k : Nat) (s : List Bool × Nat) : List Bool × Nat := if onesV s 24 = 24 then getS (onesS s 24) D else getS (onesS s 24) k
theorem riceQ_out {D k : Nat} {s : List Bool × Nat} (h : 2 ^ D - 1 < riceQV D k s) : riceV D k s = none := by
  have hp : 0 < 2 ^ D := Nat.two_pow_pos D
  unfold riceQV at h
  by_cases h24 : onesV s 24 = 24
  · rw [if_pos h24] at h
    have := getV_lt (onesS s 24) D
    omega
  · rw [if_neg h24] at h
    by_cases hc : 0 < onesV s 24 ∧ (2 ^ D - 1) / onesV s 24 < 2 ^ k
    · exact riceV_C rfl rfl h24 hc
    · exact riceV_D rfl rfl h24 hc h
theorem riceQ_in {D k : Nat} {s : List Bool × Nat} (h : ¬ 2 ^ D - 1 < riceQV D k s) : riceV D k s = if (riceQS D k s).2 = 0 then some (riceQV D k s, riceQS D k s) else none := by
  unfold riceQV at h
  unfold riceQV riceQS
  by_cases h24 : onesV s 24 = 24
  · rw [if_pos h24, if_pos h24]
    exact riceV_A rfl rfl h24
  · rw [if_neg h24] at h
    rw [if_neg h24, if_neg h24]
    have hc : ¬ (0 < onesV s 24 ∧ (2 ^ D - 1) / onesV s 24 < 2 ^ k) := fun ⟨h1, h2⟩ => by
      rw [Nat.div_lt_iff_lt_mul h1, Nat.mul_comm] at h2
      omega
    exact riceV_F rfl rfl h24 hc h
theorem riceQ_stuck {D k : Nat} {s : List Bool × Nat} (h : s.2 ≠ 0) : riceQV D k s = 0 ∧ riceQS D k s = s := by
  have h1 : onesV s 24 = 0 := by unfold onesV; rw [if_neg h]
  have h2 : onesS s 24 = s := by unfold onesS; rw [if_neg h]
  have h3 : getV s k = 0 := by unfold getV; rw [if_neg (fun q => h q.1)]
  have h4 : getS s k = s := by unfold getS; rw [if_neg h]
  unfold riceQV riceQS
  rw [h1, if_neg (by decide), if_neg (by decide), h2, h3, h4]
  exact ⟨by simp, rfl⟩
/-- What take answers. -/
def takeAns (D A N pv : Nat) : Value := if 2 ^ D - 1 < pv then .tuple #[.int .u64 0, cntV 0 0] else .tuple #[.int .u64 (pv : Int), cntV (behindA A N pv) (behindN N)]
set_option maxHeartbeats 4000000 in
set_option maxRecDepth 100000 in
theorem riceTake_any {W A N K g : Nat} {s : List Bool × Nat} (hW : IsW W) (hc : CountsOk (8 * W) A N) (hK : IsK A N K) (w : World) (hr : RdrIs w g s.1 s.2) :
    Calls Try.prog 92 #[cntV A N, .pointer (some ⟨g, 0, none⟩), .int .i64 (W : Int)] w fun e w' => e = .returned (takeAns (8 * W) A N (riceQV (8 * W) K s)) ∧ RdrIs w' g (riceQS (8 * W) K s).1 (riceQS (8 * W) K s).2 ∧ OnlyT g [121] w w' := by
  have hK33 := isK_few hc hK
  have C1 := Lib.hid (fun W' => ricePar_any hc hK W')
  have HBH := Lib.hid (fun (v : Nat) (hv : v < 18446744073709551616) W' => riceBeh_any (A := A) (N := N) (v := v) (by obtain ⟨g1, g2, g3, g4⟩ := hc; omega) hc.2.1 hv W')
  unfold cntV at C1 HBH ⊢
  have hMk : maskN (W : Int) = 2 ^ (8 * W) - 1 := by unfold maskN; rw [← hW.right, if_pos rfl, Int.toNat_natCast, Nat.pow_mul]
  have cmk := fun w' => wordMask_any (W : Int) w'
  rw [hMk] at cmk
  have hM64 : 2 ^ (8 * W) - 1 < 18446744073709551616 := by
    have h1 : 2 ^ (8 * W) ≤ 2 ^ 64 := Nat.pow_le_pow_right (n := 2) (by decide) (D_le hW).2
    have h2 : 0 < 2 ^ (8 * W) := Nat.two_pow_pos _
    omega
  have hans : ∀ pv, takeAns (8 * W) A N pv = if 2 ^ (8 * W) - 1 < pv then .tuple #[.int .u64 0, cntV 0 0] else .tuple #[.int .u64 (pv : Int), cntV (behindA A N pv) (behindN N)] := fun pv => rfl
  obtain ⟨Mk, hMk2⟩ : ∃ Mk, Mk = 2 ^ (8 * W) - 1 := ⟨_, rfl⟩
  rw [← hMk2] at cmk hM64
  simp only [← hMk2] at hans
  have CMK := Lib.hid cmk
  have HANS := Lib.hid hans
  have hb0 := ((Below.refl w.heap.size w).alloc (Nat.le_refl _) (.cells #[.int .u64 (A : Int), .int .u64 (N : Int)] 68)).alloc (by simp) (.cells #[.int .u64 0, .int .u64 0] 68)
  have hk0 : Blk ((w.alloc (.cells #[.int .u64 (A : Int), .int .u64 (N : Int)] 68)).alloc (.cells #[.int .u64 0, .int .u64 0] 68)) w.heap.size 68 [.int .u64 (A : Int), .int .u64 (N : Int)] := (show Blk _ w.heap.size 68 [.int .u64 (A : Int), .int .u64 (N : Int)] from heap_alloc_new w _).alloc_ _
  have hk1 : Blk ((w.alloc (.cells #[.int .u64 (A : Int), .int .u64 (N : Int)] 68)).alloc (.cells #[.int .u64 0, .int .u64 0] 68)) (w.heap.size + 1) 68 [.int .u64 0, .int .u64 0] := by
    have := heap_alloc_new (w.alloc (.cells #[.int .u64 (A : Int), .int .u64 (N : Int)] 68)) (.cells #[.int .u64 0, .int .u64 0] 68)
    rwa [World.size_alloc] at this
  have HW0 := Lib.hid (hr.only (OnlyT.of_below (B := w.heap.size) (ts := []) hb0) (by simp) (by simp))
  have HO0 := Lib.hid (OnlyT.of_below (B := g) (ts := [121]) hb0)
  have HK0 := Lib.hid hk0
  have HL0 := Lib.hid hk1
  have HWW := Lib.hid hW
  have hW8 : (W : Int) ≤ 8 := by have := hW.pos; omega
  have hW1 : (1 : Int) ≤ (W : Int) := by have := hW.pos; omega
  have H8W := Lib.hid (show (8 : Int) * (W : Int) = ((8 * W : Nat) : Int) by omega)
  have hql := onesV_le s
  have hqv : riceQV (8 * W) K s = if onesV s 24 = 24 then getV (onesS s 24) (8 * W) else onesV s 24 * 2 ^ K + getV (onesS s 24) K := rfl
  have hqs : riceQS (8 * W) K s = if onesV s 24 = 24 then getS (onesS s 24) (8 * W) else getS (onesS s 24) K := rfl
  obtain ⟨QV, hQV⟩ : ∃ QV, QV = riceQV (8 * W) K s := ⟨_, rfl⟩
  obtain ⟨QS, hQS⟩ : ∃ QS, QS = riceQS (8 * W) K s := ⟨_, rfl⟩
  have co := fun W' h => rOnes_st g 24 s W' h (by decide)
  obtain ⟨q, hq⟩ : ∃ q, q = onesV s 24 := ⟨_, rfl⟩
  obtain ⟨s1, hs1⟩ : ∃ s1, s1 = onesS s 24 := ⟨_, rfl⟩
  rw [← hq, ← hs1] at co hqv hqs
  rw [← hq] at hql
  rw [← hQV] at hqv ⊢
  rw [← hQS] at hqs ⊢
  have CO := Lib.hid co
  have HQV := Lib.hid hqv
  have HQS := Lib.hid hqs
  have hqw : IntKind.u64.wrap (q : Int) = (q : Int) := by rw [IntKind.wrap_u64]; omega
  clear hqv hqs hQV hQS co hq hs1 cmk hans hMk hMk2 hb0 hk0 hk1 hr hc hK hW
  go_enter Try.func92, Try.ntmps92
  go_wp2_with fail
  obtain ⟨w0, hw0⟩ : ∃ w0, w0 = (w.alloc (.cells #[.int .u64 (A : Int), .int .u64 (N : Int)] 68)).alloc (.cells #[.int .u64 0, .int .u64 0] 68) := ⟨_, rfl⟩
  rw [← hw0] at HW0 HO0 HK0 HL0 ⊢
  clear hw0
  refine (C1.out _).mono ?_
  rintro _ w1 ⟨rfl, hb1⟩
  have HW1 := Lib.hid (HW0.out.only (OnlyT.of_below (B := w0.heap.size) (ts := []) hb1) (by simp) (by simp))
  have HO1 := Lib.hid (HO0.out.trans (OnlyT.of_below hb1))
  have HK1 := Lib.hid (HK0.out.grow hb1)
  have HL1 := Lib.hid (HL0.out.grow hb1)
  clear hb1 HW0 HO0 HK0 HL0 C1
  go_wp2_with fail
  refine (CO.out w1 HW1.out).mono ?_
  rintro _ w2 ⟨rfl, hrd, ho⟩
  have HW2 := Lib.hid hrd
  have HO2 := Lib.hid (HO1.out.trans ho)
  have HK2 := Lib.hid (HK1.out.only ho (by decide))
  have HL2 := Lib.hid (HL1.out.only ho (by decide))
  clear hrd ho HW1 HO1 HK1 HL1 CO
  by_cases h24 : q = 24
  · have hqlt : ¬ (q : Int) < 24 := by omega
    have hqv := HQV.out
    have hqs := HQS.out
    rw [if_pos h24] at hqv hqs
    have cg := rGet_st g (8 * W) s1 w2 HW2.out (D_le HWW.out).2
    rw [← hqv, ← hqs, ← H8W.out] at cg
    have hqb := getV_lt s1 (8 * W)
    rw [← hqv] at hqb
    have hQ64 : QV < 18446744073709551616 := Nat.lt_of_lt_of_le hqb (Nat.pow_le_pow_right (n := 2) (by decide) (D_le HWW.out).2)
    have CG := Lib.hid cg
    clear cg hqv hqs hqb h24
    go_wp2_with fail
    refine CG.out.mono ?_
    rintro _ w3 ⟨rfl, hrd, ho⟩
    have HW3 := Lib.hid hrd
    have HO3 := Lib.hid (HO2.out.trans ho)
    have HK3 := Lib.hid (HK2.out.only ho (by decide))
    have HL3 := Lib.hid (HL2.out.only ho (by decide))
    clear hrd ho HW2 HO2 HK2 HL2 CG
    go_wp2_with fail
    refine (CMK.out w3).mono ?_
    rintro _ w7 ⟨rfl, hw7⟩
    subst w7
    have hc0 := HK3.out.cell 0
    have hc1 := HK3.out.cell 1
    simp only [List.getElem?_cons_zero, List.getElem?_cons_succ] at hc0 hc1
    by_cases hbig : Mk < QV
    · have hbi : (Mk : Int) < (QV : Int) := by omega
      have han := HANS.out QV
      rw [if_pos hbig] at han
      unfold cntV at han
      have HAN := Lib.hid han
      have hd0 := HL3.out.cell 0
      have hd1 := HL3.out.cell 1
      have hf0 := HL3.out.frozen 0
      have hf1 := HL3.out.frozen 1
      simp only [List.getElem?_cons_zero, List.getElem?_cons_succ] at hd0 hd1
      clear han HBH
      go_wp2
      (try simp only [Exit.inBlock, Exit.then])
      exact bodyPost_ret (results_tmp_cell_row (u := 6) (p := 7) (cs := #[.int .u64 0, .int .u64 0]) (t := 68) (fr := (0, 0)) Try.results92 _ _ (w.heap.size + 1) _ rfl ((HL3.out.set_ 0 _).set_ 1 _) Try.underlying68 rfl pcnt_size) rfl ⟨by rw [HAN.out]; rfl, (HW3.out.only (B := w.heap.size) (ts := [68]) ((OnlyT.set_ HL3.out (by omega) _ (by simp)).trans (OnlyT.set_ (HL3.out.set_ 0 _) (by omega) _ (by simp))) (by decide) (by decide)), (HO3.out.set_new (p := ⟨w.heap.size + 1, 0, none⟩) (by simp) _).set_new (p := ⟨w.heap.size + 1, 1, none⟩) (by simp) _⟩
    · have hbi : ¬ (Mk : Int) < (QV : Int) := by omega
      have han := HANS.out QV
      rw [if_neg hbig] at han
      unfold cntV at han
      have HAN := Lib.hid han
      have CB := Lib.hid (HBH.out QV (by omega) w3)
      clear han HBH
      go_wp2_with fail
      refine CB.out.mono ?_
      rintro _ w4 ⟨rfl, hb4⟩
      have HW4 := Lib.hid (HW3.out.only (OnlyT.of_below (B := w3.heap.size) (ts := []) hb4) (by simp) (by simp))
      have HO4 := Lib.hid (HO3.out.trans (OnlyT.of_below hb4))
      have HL4 := Lib.hid (HL3.out.grow hb4)
      have hd0 := HL4.out.cell 0
      have hd1 := HL4.out.cell 1
      have hf0 := HL4.out.frozen 0
      have hf1 := HL4.out.frozen 1
      simp only [List.getElem?_cons_zero, List.getElem?_cons_succ] at hd0 hd1
      clear hb4 HW3 HO3 HK3 HL3 CB hc0 hc1
      go_wp2
      (try simp only [Exit.inBlock, Exit.then])
      exact bodyPost_ret (results_tmp_cell_row (u := 6) (p := 7) (cs := #[.int .u64 ((behindA A N QV : Nat) : Int), .int .u64 ((behindN N : Nat) : Int)]) (t := 68) (fr := (0, 0)) Try.results92 _ _ (w.heap.size + 1) _ rfl ((HL4.out.set_ 0 _).set_ 1 _) Try.underlying68 rfl pcnt_size) rfl ⟨by rw [HAN.out]; rfl, (HW4.out.only (B := w.heap.size) (ts := [68]) ((OnlyT.set_ HL4.out (by omega) _ (by simp)).trans (OnlyT.set_ (HL4.out.set_ 0 _) (by omega) _ (by simp))) (by decide) (by decide)), (HO4.out.set_new (p := ⟨w.heap.size + 1, 0, none⟩) (by simp) _).set_new (p := ⟨w.heap.size + 1, 1, none⟩) (by simp) _⟩
  · have hqlt : (q : Int) < 24 := by omega
    have hqv := HQV.out
    have hqs := HQS.out
    rw [if_neg h24] at hqv hqs
    have cg := fun W' h => rGet_st g K s1 W' h (by omega)
    have hgb := getV_lt s1 K
    have hP33 : 2 ^ K ≤ 8589934592 := Nat.pow_le_pow_right (n := 2) (by decide) hK33
    have hqP : q * 2 ^ K ≤ 24 * 8589934592 := Nat.mul_le_mul hql hP33
    obtain ⟨gv, hgv⟩ : ∃ gv, gv = getV s1 K := ⟨_, rfl⟩
    rw [← hgv] at cg hqv hgb
    rw [← hqs] at cg
    obtain ⟨qk, hqk⟩ : ∃ qk, qk = q * 2 ^ K := ⟨_, rfl⟩
    rw [← hqk] at hqv hqP
    have hshl : IntKind.u64.wrap ((q : Int) * 2 ^ K) = (qk : Int) := by
      have e : (q : Int) * 2 ^ K = (qk : Int) := by rw [hqk]; simp
      rw [e, IntKind.wrap_u64]; omega
    have hadd : IntKind.u64.wrap ((qk : Int) + (gv : Int)) = (QV : Int) := by rw [IntKind.wrap_u64]; omega
    have hQ64 : QV < 18446744073709551616 := by omega
    have hK0 : (0 : Int) ≤ (K : Int) := by omega
    have CG := Lib.hid cg
    have hsz := HO2.out.size
    clear cg hqv hqs hgb hgv hqk hqP h24 hP33
    go_wp2
    have HWD := Lib.hid (show RdrIs w2.drew g s1.1 s1.2 from HW2.out.only (OnlyT.of_below (B := w2.heap.size) (ts := []) (Below.refl _ _).drew) (by simp) (by simp))
    have HOD := Lib.hid HO2.out.drew
    have HKD := Lib.hid (show Blk w2.drew w.heap.size 68 [.int .u64 (A : Int), .int .u64 (N : Int)] from HK2.out.same rfl)
    have HLD := Lib.hid (show Blk w2.drew (w.heap.size + 1) 68 [.int .u64 0, .int .u64 0] from HL2.out.same rfl)
    clear HW2 HO2 HK2 HL2
    go_region_with (go_at_call 93; refine (CG.out _ HWD.out).mono ?_; rintro _ w3 ⟨rfl, hrd, ho⟩; have HW3 := Lib.hid hrd; have HO3 := Lib.hid (HOD.out.trans ho); have HK3 := Lib.hid (HKD.out.only ho (by decide)); have HL3 := Lib.hid (HLD.out.only ho (by decide)); clear hrd ho)
    clear HWD HOD HKD HLD CG hshl hadd
    go_wp2_with fail
    refine (CMK.out w3).mono ?_
    rintro _ w7 ⟨rfl, hw7⟩
    subst w7
    have hc0 := HK3.out.cell 0
    have hc1 := HK3.out.cell 1
    simp only [List.getElem?_cons_zero, List.getElem?_cons_succ] at hc0 hc1
    by_cases hbig : Mk < QV
    · have hbi : (Mk : Int) < (QV : Int) := by omega
      have han := HANS.out QV
      rw [if_pos hbig] at han
      unfold cntV at han
      have HAN := Lib.hid han
      have hd0 := HL3.out.cell 0
      have hd1 := HL3.out.cell 1
      have hf0 := HL3.out.frozen 0
      have hf1 := HL3.out.frozen 1
      simp only [List.getElem?_cons_zero, List.getElem?_cons_succ] at hd0 hd1
      clear han HBH
      go_wp2
      (try simp only [Exit.inBlock, Exit.then])
      exact bodyPost_ret (results_tmp_cell_row (u := 6) (p := 7) (cs := #[.int .u64 0, .int .u64 0]) (t := 68) (fr := (0, 0)) Try.results92 _ _ (w.heap.size + 1) _ rfl ((HL3.out.set_ 0 _).set_ 1 _) Try.underlying68 rfl pcnt_size) rfl ⟨by rw [HAN.out]; rfl, (HW3.out.only (B := w.heap.size) (ts := [68]) ((OnlyT.set_ HL3.out (by omega) _ (by simp)).trans (OnlyT.set_ (HL3.out.set_ 0 _) (by omega) _ (by simp))) (by decide) (by decide)), (HO3.out.set_new (p := ⟨w.heap.size + 1, 0, none⟩) (by simp) _).set_new (p := ⟨w.heap.size + 1, 1, none⟩) (by simp) _⟩
    · have hbi : ¬ (Mk : Int) < (QV : Int) := by omega
      have han := HANS.out QV
      rw [if_neg hbig] at han
      unfold cntV at han
      have HAN := Lib.hid han
      have CB := Lib.hid (HBH.out QV (by omega) w3)
      clear han HBH
      go_wp2_with fail
      refine CB.out.mono ?_
      rintro _ w4 ⟨rfl, hb4⟩
      have HW4 := Lib.hid (HW3.out.only (OnlyT.of_below (B := w3.heap.size) (ts := []) hb4) (by simp) (by simp))
      have HO4 := Lib.hid (HO3.out.trans (OnlyT.of_below hb4))
      have HL4 := Lib.hid (HL3.out.grow hb4)
      have hd0 := HL4.out.cell 0
      have hd1 := HL4.out.cell 1
      have hf0 := HL4.out.frozen 0
      have hf1 := HL4.out.frozen 1
      simp only [List.getElem?_cons_zero, List.getElem?_cons_succ] at hd0 hd1
      clear hb4 HW3 HO3 HK3 HL3 CB hc0 hc1
      go_wp2
      (try simp only [Exit.inBlock, Exit.then])
      exact bodyPost_ret (results_tmp_cell_row (u := 6) (p := 7) (cs := #[.int .u64 ((behindA A N QV : Nat) : Int), .int .u64 ((behindN N : Nat) : Int)]) (t := 68) (fr := (0, 0)) Try.results92 _ _ (w.heap.size + 1) _ rfl ((HL4.out.set_ 0 _).set_ 1 _) Try.underlying68 rfl pcnt_size) rfl ⟨by rw [HAN.out]; rfl, (HW4.out.only (B := w.heap.size) (ts := [68]) ((OnlyT.set_ HL4.out (by omega) _ (by simp)).trans (OnlyT.set_ (HL4.out.set_ 0 _) (by omega) _ (by simp))) (by decide) (by decide)), (HO4.out.set_new (p := ⟨w.heap.size + 1, 0, none⟩) (by simp) _).set_new (p := ⟨w.heap.size + 1, 1, none⟩) (by simp) _⟩
end Go.Proofs.Ytfdgnhfppginiaa
