/- Layer 19: the program takes words. -/
import Derived.Test.YtfdgnhfppginiaaRiceTake
namespace Go.Proofs.Ytfdgnhfppginiaa
open Go.RowKit Go.Sort

theorem riceFirst_at (w : World) : Calls Try.prog 35 #[] w fun e w' => e = .returned (.agg #[.int .u64 16, .int .u64 1]) ∧ w' = w.alloc (.cells #[.int .u64 16, .int .u64 1] 68) := by
  go_enter Try.func35, Try.ntmps35
  go_wp2
  exact bodyPost_ret (v := .agg #[.int .u64 16, .int .u64 1]) (pcnt_end Try.results35 rfl (heap_alloc_new w _)) rfl ⟨rfl, rfl⟩
/-- make of n noughts, as an equation. -/
theorem make_eq {P : Program} {t e : TypeId} {i : TypeInfo} {z : Value} (ht : P.underlying t = some (.slice e)) (hi : P.info? e = some i) (hz : i.zero = some z) (hzs : z.cells = #[z]) (hsize : i.size = 1) (hby : i.bytes ≤ 8) (n : Nat) (hn : n ≤ 1000000) (w : World) :
    (Instr.makeSlice t (.int .i64 (n : Int)) (.int .i64 (n : Int))).run P w = .ok (.slice (some ⟨w.heap.size, 0, none⟩) n n) (w.alloc (.cells (List.replicate n z).toArray e)) := by
  have hbn : ((i.bytes * n : Nat) : Int) ≤ 281474976710656 := by have := Nat.mul_le_mul_right n hby; omega
  rw [Int.natCast_mul] at hbn
  have hrun := run_make (P := P) w t e i z ht hi hz .i64 .i64 n n (by omega) (Int.le_refl _) hbn (by omega)
  simp only [Int.toNat_natCast, hsize, Nat.mul_one, hzs] at hrun
  have hcells : madeCells #[z] n = (List.replicate n z).toArray := by
    apply Array.ext'; rw [toList_madeCells_one]
  rw [hcells] at hrun
  exact hrun
/-- So many words, and noughts behind them. -/
def padW (X : List Nat) (M : Nat) : List Nat := X ++ List.replicate (M - X.length) 0
theorem padW_set {X : List Nat} {M : Nat} (h : X.length < M) (v : Nat) : (wvs (padW X M)).set X.length (.int .u64 (v : Int)) = wvs (padW (X ++ [v]) M) := by
  obtain ⟨k, hk⟩ : ∃ k, M - X.length = k + 1 := ⟨M - X.length - 1, by omega⟩
  have e : M - (X.length + 1) = k := by omega
  have e2 : (wvs (padW X M)).set X.length (.int .u64 (v : Int)) = wvs ((padW X M).set X.length v) := by simp [wvs, List.map_set]
  rw [e2]
  unfold padW
  rw [hk, List.length_append, List.length_singleton, e, List.set_append_right _ _ (Nat.le_refl _), Nat.sub_self, List.replicate_succ, List.set_cons_zero, List.append_assoc]
  rfl
/-- Words that are told up to here, and what the rest will tell; or an error, and nothing is told. -/
def WdsOk (D M : Nat) (o : Option (List Nat × (List Bool × Nat))) (X : List Nat) (A N : Nat) (s : List Bool × Nat) : Prop :=
  (s.2 = 0 ∧ ∃ o2, RiceR D (M - X.length) A N s o2 ∧ aheadO X o2 = o) ∨ (s.2 ≠ 0 ∧ o = none)
theorem WdsOk.bad {D M A N K : Nat} {o : Option (List Nat × (List Bool × Nat))} {X : List Nat} {s : List Bool × Nat} (h : WdsOk D M o X A N s) (hlt : X.length < M) (hK : IsK A N K) (hb : 2 ^ D - 1 < riceQV D K s) : o = none := by
  rcases h with ⟨h1, o2, h2, h3⟩ | ⟨h1, h2⟩
  · obtain ⟨k, hk⟩ : ∃ k, M - X.length = k + 1 := ⟨M - X.length - 1, by omega⟩
    rw [hk] at h2
    rw [← h3, (h2.next hK).1 (riceQ_out hb)]
    rfl
  · exact h2
theorem WdsOk.next {D M A N K : Nat} {o : Option (List Nat × (List Bool × Nat))} {X : List Nat} {s : List Bool × Nat} (h : WdsOk D M o X A N s) (hlt : X.length < M) (hK : IsK A N K) (hb : ¬ 2 ^ D - 1 < riceQV D K s) :
    WdsOk D M o (X ++ [riceQV D K s]) (behindA A N (riceQV D K s)) (behindN N) (riceQS D K s) := by
  rcases h with ⟨h1, o2, h2, h3⟩ | ⟨h1, h2⟩
  · obtain ⟨k, hk⟩ : ∃ k, M - X.length = k + 1 := ⟨M - X.length - 1, by omega⟩
    rw [hk] at h2
    have hq := riceQ_in hb
    by_cases h0 : (riceQS D K s).2 = 0
    · rw [if_pos h0] at hq
      obtain ⟨o3, h4, h5⟩ := (h2.next hK).2 _ _ hq
      refine .inl ⟨h0, o3, ?_, by rw [← h3, h5, aheadO_cons]⟩
      rw [List.length_append, List.length_singleton, show M - (X.length + 1) = k by omega]
      exact h4
    · rw [if_neg h0] at hq
      refine .inr ⟨h0, ?_⟩
      rw [← h3, (h2.next hK).1 hq]
      rfl
  · rw [(riceQ_stuck h1).2]
    exact .inr ⟨h1, h2⟩
theorem behindN_pos {N : Nat} : 1 ≤ behindN N := by unfold behindN; split <;> omega
/-- What holds at the head of a round. -/
def RWRel (w : World) (D M g a b : Nat) (o : Option (List Nat × (List Bool × Nat))) (i : Value) (wr : World) : Prop :=
  ∃ (X : List Nat) (A N : Nat) (s : List Bool × Nat), X.length ≤ M ∧ i = .int .i64 (X.length : Int) ∧ CountsOk D A N ∧ (∀ x ∈ X, x < 2 ^ D) ∧ RdrIs wr g s.1 s.2 ∧ Blk wr a 66 (wvs (padW X M)) ∧ Blk wr b 68 [.int .u64 (A : Int), .int .u64 (N : Int)] ∧ OnlyT g [121] w wr ∧ WdsOk D M o X A N s
/-- What words hands back. -/
def WordsSays (w : World) (D M g : Nat) (o : Option (List Nat × (List Bool × Nat))) (e : Ending) (w' : World) : Prop :=
  OnlyT g [121] w w' ∧ ((e = .returned (.tuple #[.slice none 0 0, .bool false]) ∧ o = none) ∨ ∃ a X s, e = .returned (.tuple #[.slice (some ⟨a, 0, none⟩) M M, .bool true]) ∧ w.heap.size ≤ a ∧ Blk w' a 66 (wvs X) ∧ X.length = M ∧ (∀ x ∈ X, x < 2 ^ D) ∧ RdrIs w' g s.1 s.2 ∧ ((s.2 = 0 ∧ o = some (X, s)) ∨ (s.2 ≠ 0 ∧ o = none)))
theorem three_blk {w : World} {o1 o2 o3 : Obj} : (((w.alloc o1).alloc o2).alloc o3).drew.heap[w.heap.size]? = some o1 ∧ (((w.alloc o1).alloc o2).alloc o3).drew.heap[w.heap.size + 1]? = some o2 ∧ (((w.alloc o1).alloc o2).alloc o3).drew.heap[w.heap.size + 1 + 1]? = some o3 ∧ Below w.heap.size w (((w.alloc o1).alloc o2).alloc o3).drew := by
  have h1 := heap_alloc_new w o1
  have h2 := heap_alloc_new (w.alloc o1) o2
  have h3 := heap_alloc_new ((w.alloc o1).alloc o2) o3
  simp only [World.size_alloc] at h2 h3
  refine ⟨?_, ?_, h3, ((((Below.refl _ _).alloc (Nat.le_refl _) _).alloc (by simp) _).alloc (by simp; omega) _).drew⟩
  · exact (Below.heap_alloc _ _ _ (by simp; omega)).trans ((Below.heap_alloc _ _ _ (by simp)).trans h1)
  · exact (Below.heap_alloc _ _ _ (by simp)).trans h2
set_option maxHeartbeats 4000000 in
set_option maxRecDepth 100000 in
theorem riceWords_any {W M g : Nat} {s0 : List Bool × Nat} {o : Option (List Nat × (List Bool × Nat))} (hW : IsW W) (w : World) (hM : M ≤ 100000) (hr : RdrIs w g s0.1 s0.2) (hs0 : s0.2 = 0) (ho : RiceR (8 * W) M 16 1 s0 o) :
    Calls Try.prog 46 #[.pointer (some ⟨g, 0, none⟩), .int .i64 (W : Int), .int .i64 (M : Int)] w (WordsSays w (8 * W) M g o) := by
  have C0 := Lib.hid (fun W' => riceFirst_at W')
  obtain ⟨j0, hj0, hy0, hy1, hy2⟩ := info_parts info_u64r
  obtain ⟨Z, hZ⟩ : ∃ Z, Z = (List.replicate M (Value.int .u64 0)).toArray := ⟨_, rfl⟩
  have hmk := fun W' => make_eq (P := Try.prog) (t := 70) (e := 66) Try.underlying70 hj0 hy0 rfl hy1 (by rw [hy2]; decide) M (by omega) W'
  rw [← hZ] at hmk
  have HZ := Lib.hid (show Z = (wvs (padW [] M)).toArray by rw [hZ]; simp [wvs, padW])
  have HR := Lib.hid hr
  have HO := Lib.hid (show WdsOk (8 * W) M o [] 16 1 s0 from .inl ⟨hs0, o, ho, by cases o <;> simp [aheadO]⟩)
  have HWW := Lib.hid hW
  clear hZ hj0 hy0 hy1 hy2 hr ho hs0 hW
  have hM0 : (0 : Int) ≤ (M : Int) := by omega
  have hMi : (M : Int) ≤ 100000 := by omega
  go_enter Try.func46, Try.ntmps46
  go_wp2
  rename_i K1 hK1
  have HEND : ∀ (a b : Nat) (wE : World), a ≠ b → w.heap.size ≤ a → w.heap.size ≤ b → Blk wE a 66 (wvs (padW [] M)) → Blk wE b 68 [.int .u64 16, .int .u64 1] → Below w.heap.size w wE →
      K1 { tmps := #[.pointer (some ⟨g, 0, none⟩), .int .i64 (W : Int), .int .i64 (M : Int), undef, undef, undef, .slice none 0 0, .bool false, .slice (some ⟨a, 0, none⟩) M M, .pointer (some ⟨b, 0, none⟩), undef, .int .i64 (M : Int), .slice (some ⟨a, 0, none⟩) M M, .agg #[.int .u64 16, .int .u64 1], undef, undef, undef, undef, undef, undef, undef, undef, undef, undef, undef, undef, undef, undef, undef, undef, undef, undef, undef, undef], defers := [] } wE := by
    intro a b wE hab hwa hwb hba hbb hbel
    have HREL := Lib.hid (show RWRel w (8 * W) M g a b o (.int .i64 ((0 : Nat) : Int)) wE from ⟨[], 16, 1, s0, Nat.zero_le _, rfl, counts_start (D_le HWW.out).1, by simp, HR.out.only (OnlyT.of_below (B := w.heap.size) (ts := []) hbel) (by simp) (by simp), hba, hbb, OnlyT.of_below hbel, HO.out⟩)
    clear hmk C0 HZ HR HO hba hbb hbel
    refine hK1 _ _ ?_
    clear hK1
    go_wp2
    go_loopw [16] (RWRel w (8 * W) M g a b o) (fun i _ => M - (intOf i).toNat)
    case atStart => exact HREL.out
    case round =>
      clear HREL
      obtain ⟨X, A0, N0, s, hX, rfl, hcok, hxs, hrd, hba, hbb, hot, hok⟩ := hrel
      have HBA := Lib.hid hba
      have HBB := Lib.hid hbb
      have HOT := Lib.hid hot
      have HXS := Lib.hid hxs
      by_cases hlt : X.length < M
      · obtain ⟨K, hKD, hK⟩ := isK_some hcok.2.2.1
        have CT := Lib.hid (riceTake_any HWW.out hcok hK wr hrd)
        have HBAD := Lib.hid (hok.bad hlt hK)
        have HNEXT := Lib.hid (hok.next hlt hK)
        have HCK := Lib.hid hcok
        have hans : ∀ pv, takeAns (8 * W) A0 N0 pv = if 2 ^ (8 * W) - 1 < pv then .tuple #[.int .u64 0, cntV 0 0] else .tuple #[.int .u64 (pv : Int), cntV (behindA A0 N0 pv) (behindN N0)] := fun pv => rfl
        have HD0 := Lib.hid (Nat.two_pow_pos (8 * W))
        obtain ⟨QV, hQV⟩ : ∃ QV, QV = riceQV (8 * W) K s := ⟨_, rfl⟩
        obtain ⟨QS, hQS⟩ : ∃ QS, QS = riceQS (8 * W) K s := ⟨_, rfl⟩
        rw [← hQV, ← hQS] at CT HNEXT
        rw [← hQV] at HBAD
        have hla : wr.cell? ⟨a, X.length, none⟩ = some (.int .u64 0) := by
          rw [hba.cell X.length]; simp [wvs, padW, show 0 < M - X.length by omega]
        have hc0 := hbb.cell 0
        have hc1 := hbb.cell 1
        simp only [List.getElem?_cons_zero, List.getElem?_cons_succ] at hc0 hc1
        have hki : (X.length : Int) < (M : Int) := by omega
        have HLT := Lib.hid hlt
        by_cases hbig : 2 ^ (8 * W) - 1 < QV
        · have hon := HBAD.out hbig
          rw [hans, if_pos hbig] at CT
          unfold cntV at CT
          clear hX hcok hxs hrd hba hbb hot hok hQV hQS hKD hK hbig hans HBAD HNEXT
          go_wp2_with fail
          refine CT.out.mono ?_
          rintro _ w5 ⟨rfl, hrd5, ho5⟩
          have hba5 := HBA.out.only ho5 (by decide)
          have hbb5 := HBB.out.only ho5 (by decide)
          have hfa := hba5.frozen X.length
          have hda : w5.cell? ⟨a, X.length, none⟩ = some (.int .u64 0) := by
            rw [hba5.cell X.length]; have := HLT.out; simp [wvs, padW, show 0 < M - X.length by omega]
          have hd0 := hbb5.cell 0
          have hd1 := hbb5.cell 1
          have hf0 := hbb5.frozen 0
          have hf1 := hbb5.frozen 1
          simp only [List.getElem?_cons_zero, List.getElem?_cons_succ] at hd0 hd1
          have HOT5 := Lib.hid (((HOT.out.trans ho5).set_new (p := ⟨a, X.length, none⟩) hwa (.int .u64 0)))
          have HOT6 := Lib.hid ((HOT5.out.set_new (p := ⟨b, 0, none⟩) hwb (.int .u64 0)).set_new (p := ⟨b, 1, none⟩) hwb (.int .u64 0))
          clear hrd5 ho5 hba5 hbb5 CT hc0 hc1 hla
          go_wp2
          go_ret2
          exact ⟨HOT6.out, .inl ⟨rfl, hon⟩⟩
        · have hQD : QV < 2 ^ (8 * W) := by have := HD0.out; omega
          have HNX := Lib.hid (HNEXT.out hbig)
          have HCB := Lib.hid (counts_behind HCK.out hQD)
          rw [hans, if_neg hbig] at CT
          unfold cntV at CT
          have HQD := Lib.hid hQD
          have hbn : ((behindN N0 : Nat) : Int) ≠ 0 := by have := behindN_pos (N := N0); omega
          obtain ⟨A2, hA2⟩ : ∃ A2, A2 = behindA A0 N0 QV := ⟨_, rfl⟩
          obtain ⟨N2, hN2⟩ : ∃ N2, N2 = behindN N0 := ⟨_, rfl⟩
          rw [← hN2] at hbn
          rw [← hA2, ← hN2] at CT HNX HCB
          clear hX hcok hxs hrd hba hbb hot hok hQV hQS hKD hK hbig hans HBAD HNEXT hQD HCK hA2 hN2
          go_wp2_with fail
          refine CT.out.mono ?_
          rintro _ w5 ⟨rfl, hrd5, ho5⟩
          have hba5 := HBA.out.only ho5 (by decide)
          have hbb5 := HBB.out.only ho5 (by decide)
          have hfa := hba5.frozen X.length
          have hda : w5.cell? ⟨a, X.length, none⟩ = some (.int .u64 0) := by
            rw [hba5.cell X.length]; have := HLT.out; simp [wvs, padW, show 0 < M - X.length by omega]
          have hd0 := hbb5.cell 0
          have hd1 := hbb5.cell 1
          have hf0 := hbb5.frozen 0
          have hf1 := hbb5.frozen 1
          simp only [List.getElem?_cons_zero, List.getElem?_cons_succ] at hd0 hd1
          have HOT5 := Lib.hid (((HOT.out.trans ho5).set_new (p := ⟨a, X.length, none⟩) hwa (.int .u64 (QV : Int))))
          have HOT6 := Lib.hid ((HOT5.out.set_new (p := ⟨b, 0, none⟩) hwb (.int .u64 (A2 : Int))).set_new (p := ⟨b, 1, none⟩) hwb (.int .u64 (N2 : Int)))
          have hsa := hba5.set_ X.length (.int .u64 (QV : Int))
          rw [padW_set HLT.out] at hsa
          have HBA6 := Lib.hid ((hsa.setOther ⟨b, 0, none⟩ (.int .u64 (A2 : Int)) (by simpa using hab)).setOther ⟨b, 1, none⟩ (.int .u64 (N2 : Int)) (by simpa using hab))
          have hb2 := (hbb5.setOther ⟨a, X.length, none⟩ (.int .u64 (QV : Int)) (by simpa using Ne.symm hab))
          have HBB6 := Lib.hid ((hb2.set_ 0 (.int .u64 (A2 : Int))).set_ 1 (.int .u64 (N2 : Int)))
          have hrd6 := hrd5.only (B := 0) (ts := [66]) (OnlyT.set_ (i := X.length) hba5 (Nat.zero_le _) (.int .u64 (QV : Int)) (by simp)) (by decide) (by decide)
          have hrd7 := (hrd6.only (B := 0) (ts := [68]) (OnlyT.set_ (i := 0) hb2 (Nat.zero_le _) (.int .u64 (A2 : Int)) (by simp)) (by decide) (by decide)).only (B := 0) (ts := [68]) (OnlyT.set_ (i := 1) (hb2.set_ 0 _) (Nat.zero_le _) (.int .u64 (N2 : Int)) (by simp)) (by decide) (by decide)
          have HRD7 := Lib.hid hrd7
          clear hrd5 hrd6 hrd7 ho5 hba5 hbb5 CT hc0 hc1 hla hsa hb2
          go_wp2
          go_roundw
          case rel => exact ⟨X ++ [QV], A2, N2, QS, by rw [List.length_append, List.length_singleton]; have := HLT.out; omega, by rw [List.length_append, List.length_singleton]; go_num, HCB.out, lt_snoc' HXS.out HQD.out, HRD7.out, HBA6.out, HBB6.out, HOT6.out, HNX.out⟩
          case measure => have := HLT.out; simp [intOf]; omega
      · have hXM : X.length = M := by omega
        have hpad : padW X M = X := by unfold padW; rw [hXM, Nat.sub_self]; simp
        rw [hpad] at HBA
        have HE := Lib.hid (show WordsSays w (8 * W) M g o (.returned (.tuple #[.slice (some ⟨a, 0, none⟩) M M, .bool true])) wr from ⟨HOT.out, .inr ⟨a, X, s, rfl, hwa, HBA.out, hXM, HXS.out, hrd, by
          rcases hok with ⟨h1, o2, h2, h3⟩ | h
          · left
            refine ⟨h1, ?_⟩
            rw [hXM, Nat.sub_self] at h2
            have : o2 = some ([], s) := by cases h2; rfl
            rw [← h3, this]
            simp [aheadO]
          · exact .inr h⟩⟩)
        clear hX hcok hxs hrd hba hbb hot hok hpad HBA HBB HOT HXS
        go_wp2
        go_ret2
        exact HE.out
  go_region_with (go_at_call 35; refine (C0.out _).mono ?_; rintro _ w3 ⟨rfl, rfl⟩)
  all_goals clear C0 hmk HR HO
  · obtain ⟨t1, t2, t3, t4⟩ := three_blk (w := w) (o1 := .cells Z 66) (o2 := .cells #[.int .u64 16, .int .u64 1] 68) (o3 := .cells #[.int .u64 16, .int .u64 1] 68)
    exact HEND w.heap.size (w.heap.size + 1 + 1) _ (by omega) (by omega) (by omega) (by unfold Blk; rw [← HZ.out]; exact t1) t3 t4
  · obtain ⟨t1, t2, t3, t4⟩ := three_blk (w := w) (o1 := .cells Z 66) (o2 := .cells #[.int .u64 16, .int .u64 1] 68) (o3 := .cells #[.int .u64 16, .int .u64 1] 68)
    exact HEND w.heap.size (w.heap.size + 1) _ (by omega) (by omega) (by omega) (by unfold Blk; rw [← HZ.out]; exact t1) t2 t4
  · obtain ⟨t1, t2, t3, t4⟩ := three_blk (w := w) (o1 := .cells #[.int .u64 16, .int .u64 1] 68) (o2 := .cells Z 66) (o3 := .cells #[.int .u64 16, .int .u64 1] 68)
    exact HEND (w.heap.size + 1) (w.heap.size + 1 + 1) _ (by omega) (by omega) (by omega) (by unfold Blk; rw [← HZ.out]; exact t2) t3 t4
  · obtain ⟨t1, t2, t3, t4⟩ := three_blk (w := w) (o1 := .cells #[.int .u64 16, .int .u64 1] 68) (o2 := .cells #[.int .u64 16, .int .u64 1] 68) (o3 := .cells Z 66)
    exact HEND (w.heap.size + 1 + 1) (w.heap.size + 1) _ (by omega) (by omega) (by omega) (by unfold Blk; rw [← HZ.out]; exact t3) t2 t4
  · obtain ⟨t1, t2, t3, t4⟩ := three_blk (w := w) (o1 := .cells #[.int .u64 16, .int .u64 1] 68) (o2 := .cells Z 66) (o3 := .cells #[.int .u64 16, .int .u64 1] 68)
    exact HEND (w.heap.size + 1) w.heap.size _ (by omega) (by omega) (by omega) (by unfold Blk; rw [← HZ.out]; exact t2) t1 t4
  · obtain ⟨t1, t2, t3, t4⟩ := three_blk (w := w) (o1 := .cells #[.int .u64 16, .int .u64 1] 68) (o2 := .cells #[.int .u64 16, .int .u64 1] 68) (o3 := .cells Z 66)
    exact HEND (w.heap.size + 1 + 1) w.heap.size _ (by omega) (by omega) (by omega) (by unfold Blk; rw [← HZ.out]; exact t3) t1 t4
end Go.Proofs.Ytfdgnhfppginiaa
