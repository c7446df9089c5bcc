/- Contracts of layer 12: Add, where it may. -/
import Derived.Test.YtgbibmgedmbboaaGreatFenAdd
import Derived.BigRegionIn
namespace Go.Proofs.YtgbibmgedmbboaaGreat
open Go.RowKit Go.Shelf Go.Sort
attribute [local go_sem] Oper.semAt_some

theorem TurnsB.more {T S : Nat} {w A B : World} {row : Option Nat} (h : TurnsB T S w A) (hg : A.grownBy B row) (hr : ∀ r, row = some r → w.heap.size ≤ r) : TurnsB T S w B :=
  ⟨hg.os.trans h.os, hg.tape.trans h.tape, hg.output.trans h.output, Nat.le_trans h.size hg.size, fun k hk h1 h2 => (hg.block k (Nat.lt_of_lt_of_le hk h.size) (fun e => by have := hr k e.symm; omega)).trans (h.block k hk h1 h2)⟩
/-- Between two places of the way up. -/
def AddI (w : World) (BT T S k : Nat) (c c' : List Int) (d : Int) (pre : List Nat) (W : World) : Prop :=
  Boxed W BT 129 (.pointer (some ⟨T, 0, none⟩)) ∧ Boxed W (BT + 1) 3 (.int .i64 d) ∧ Lies W T S c.length (mixRow c c' (upAt (k + 1) pre)) c.sum ∧ TurnsB T S w W
theorem addI_own {w w0 : World} {BT T S k Bp : Nat} {c c' : List Int} {d : Int} (hT : T < w.heap.size) (hS : S < w.heap.size) (h0 : w.heap.size ≤ BT) (h1 : BT + 1 < Bp) (h2 : w.heap.size ≤ w0.heap.size) :
    ∀ s A B row, AddI w BT T S k c c' d s A → A.grownBy B row → (∀ r, row = some r → r = Bp ∨ (w0.heap.size ≤ r ∧ ∃ o : Obj, A.heap[r]? = some o ∧ o.isCells = false)) → AddI w BT T S k c c' d s B := by
  rintro s A B row ⟨x1, x2, x3, x4⟩ hg hr
  have hne : ∀ g, g < w.heap.size → ∀ r, row = some r → r ≠ g := fun g hlt r e => by rcases hr r e with e | e <;> omega
  exact ⟨boxed_grown x1 hg hr (by omega), boxed_grown x2 hg hr (by omega), ⟨blk_row x3.tb hg (hne T hT), blk_row x3.sb hg (hne S hS)⟩, x4.more hg (fun r e => by rcases hr r e with e | e <;> omega)⟩
/-- One place more. -/
theorem add_round {w Wd : World} {BT T S k N x : Nat} {c c' : List Int} {d : Int} {keep : Nat → Prop} {pre : List Nat} {v : Int} (h : AddI w BT T S k c c' d pre Wd) (hS : S < w.heap.size) (h0 : w.heap.size ≤ BT) (n2 : ∀ k, keep k → k ≠ S)
    (hm : mixRow c c' (upAt (k + 1) (pre ++ [x])) = (mixRow c c' (upAt (k + 1) pre)).set x v) :
    KeepsFrom N Wd (Wd.setCell ⟨S, x, none⟩ (.int .i64 v)).drew ∧ KeepsB keep Wd (Wd.setCell ⟨S, x, none⟩ (.int .i64 v)).drew ∧ AddI w BT T S k c c' d (pre ++ [x]) (Wd.setCell ⟨S, x, none⟩ (.int .i64 v)).drew := by
  obtain ⟨x1, x2, x3, x4⟩ := h
  have h1 : KeepsFrom N Wd (Wd.setCell ⟨S, x, none⟩ (.int .i64 v)) := (KeepsOthers.setCell Wd ⟨S, x, none⟩ (.int .i64 v)).from N
  have h3 := x3.set_ x v
  rw [← hm] at h3
  have h4 : Boxed (Wd.setCell ⟨S, x, none⟩ (.int .i64 v)) BT 129 (.pointer (some ⟨T, 0, none⟩)) := Blk.setOther (cs := [_]) x1 _ _ (by simp; omega)
  have h5 : Boxed (Wd.setCell ⟨S, x, none⟩ (.int .i64 v)) (BT + 1) 3 (.int .i64 d) := Blk.setOther (cs := [_]) x2 _ _ (by simp; omega)
  exact ⟨⟨h1.size, h1.same⟩, ⟨h1.size, fun k hk => Below.heap_setCell _ _ _ k (n2 k hk)⟩, h4, h5, ⟨h3.tb, h3.sb⟩, (x4.trans (TurnsB.set_ x _)).drew⟩

set_option maxRecDepth 100000 in
set_option maxHeartbeats 4000000 in
theorem fenAdd_any {w : World} {T S : Nat} {c : List Int} (k : Nat) (d : Int) (h : IsTree w T S c) (hk : k < c.length) (hd : -c[k] ≤ d) (hd2 : d ≤ 65536 - c.sum) :
    Calls Tryz.prog 83 #[.pointer (some ⟨T, 0, none⟩), .int .i64 (k : Int), .int .i64 d] w fun e w' => e = .returned (.int .i64 0) ∧ IsTree w' T S (c.set k (c[k] + d)) ∧ TurnsB T S w w' := by
  have hlen := h.1.1
  have HTS : Hid (T < w.heap.size ∧ S < w.heap.size ∧ T ≠ S) := ⟨h.2.tb.lt, h.2.sb.lt, h.2.ne⟩
  have hc' : Counts (c.set k (c[k] + d)) := by
    refine ⟨by simpa using h.1.1, fun x hx => ?_, by rw [set_sum c k hk d]; omega⟩
    rcases List.mem_or_eq_of_mem_set hx with hx | rfl
    · exact h.1.2.1 x hx
    · omega
  have HC := Lib.hid hc'
  have HC0 := Lib.hid h.1
  have HSUM := Lib.hid (set_sum c k hk d)
  have hmf := mixRow_first c k hk d
  have HMN := Lib.hid (fun q hm hq => mixRow_next c k q hk d (by omega) hm hq)
  have hfn := fun q (hm : Mix c.length k q) (hq : q ≤ c.length) => fNode_set c k hk d q
  have hfn2 : ∀ q, Mix c.length k q → q ≤ c.length → fNode (c.set k (c[k] + d)) q = fNode c q + d := fun q hm hq => by
    rw [hfn q hm hq, if_pos ((hm.2 q (Nat.le_refl _) hq).2 (by have := fLow_pos q; have := hm.1; omega))]
  have HFN := Lib.hid hfn2
  have hll : (c.set k (c[k] + d)).length = c.length := by simp
  have HLL := Lib.hid hll
  obtain ⟨xs, hx⟩ := isUp_ex c.length _ (k + 1) rfl
  have HX := Lib.hid hx
  clear hc' hfn hfn2 hx hll
  have hl0 := h.2
  rw [← hmf] at hl0
  have HMF := Lib.hid hl0
  clear hl0 hmf
  obtain ⟨c', hcc⟩ : ∃ c', c' = c.set k (c[k] + d) := ⟨_, rfl⟩
  rw [← hcc] at HC HSUM HMN HFN HLL HMF ⊢
  obtain ⟨hb1, hbt, hbd, hsz⟩ := addBoxes w (.pointer (some ⟨T, 0, none⟩)) (.int .i64 d)
  obtain ⟨w1, hw1⟩ : ∃ w1, w1 = (w.alloc (.cells #[.pointer (some ⟨T, 0, none⟩)] 129)).alloc (.cells #[.int .i64 d] 3) := ⟨_, rfl⟩
  have HW1 := Lib.hid hw1
  rw [← hw1] at hb1 hbt hbd hsz
  have hl := h.2.grow hb1
  have ch := fun d os => (fenHas_any (k : Int) (hl.grow (below_regrown w1 d os)) h.1.1.2)
  rw [decide_eq_true (show 0 ≤ (k : Int) ∧ (k : Int) < c.length by omega)] at ch
  have cH := fun d os => Calls.regrown_of ((ch d os).mono fun _ _ h => ⟨h.1, h.2 ▸ Below.refl _ _⟩)
  have cG := fun d os => Calls.regrown_of (fenGet_at k ((h.grow hb1).grow (below_regrown w1 d os)) hk)
  have k1 := cell_regrown hbt.cell
  have k2 := cell_regrown hbd.cell
  have hT1 := hl.tb.cell 1
  simp only [List.getElem?_cons_zero, List.getElem?_cons_succ] at hT1
  have k3 := cell_regrown hT1
  have x0 := h.1.2.1 _ (List.getElem_mem hk)
  have x1 : c[k] ≤ 65536 := by
    have h1 := fPre_succ c k hk
    have h2 := fPre_le h.1.2.1 (k + 1)
    have h3 := fPre_nn h.1.2.1 k
    have := h.1.2.2
    omega
  obtain ⟨ck, hck⟩ : ∃ ck, ck = c[k] := ⟨_, rfl⟩
  rw [← hck] at cG x0 x1 hd
  have t0 := sum_nn12 h.1.2.1
  have t1 := h.1.2.2
  obtain ⟨tot, htot⟩ : ∃ tot, tot = c.sum := ⟨_, rfl⟩
  rw [← htot] at k3 t0 t1 hT1
  rw [← htot] at hd2
  have hq1 : decide (d < IntKind.i64.wrap (-ck)) = false := by rw [decide_eq_false_iff_not, IntKind.wrap_i64]; omega
  have hq2 : decide (IntKind.i64.wrap (65536 - tot) < d) = false := by rw [decide_eq_false_iff_not, IntKind.wrap_i64]; omega
  have hd4 : -65536 ≤ d := by omega
  have hd5 : d ≤ 65536 := by omega
  have hk4 : k < 4096 := by omega
  have cU := fenUp_any T (k + 1)
  rw [show ((k + 1 : Nat) : Int) = (k : Int) + 1 by omega] at cU
  have CU := Lib.hid cU
  have CH := Lib.hid cH
  have CG := Lib.hid cG
  have HB1 := Lib.hid hb1
  have HSZ := Lib.hid hsz
  have HBT := Lib.hid hbt
  have HBD := Lib.hid hbd
  have HTOT := Lib.hid htot
  have HD := Lib.hid (And.intro hd hd2)
  clear h hl ch cH cG cU hw1 hb1 hck htot hT1 hbt hbd hcc hsz hd hd2
  refine (callsIn_wide (n := 4)).1 ?_
  refine callsIn_of_wp_marks Tryz.func83 rfl trivial ?_ rfl
  simp only [Tryz.ntmps83, List.size_toArray, List.length_cons, List.length_nil, Nat.reduceAdd, Nat.reduceSub, Array.replicate_succ, Array.replicate_zero, List.push_toArray, List.append_toArray, List.nil_append, List.cons_append]
  gi_wp2
  rw [← HW1.out]
  refine wpIn_wide.2 ?_
  refine wp_region_quiet_below (by kernel_rfl) (by kernel_rfl) ?_
  repeat (quiet_step (first | exact CH.out _ _ | exact CG.out _ _))
  refine wpQuiet_nil ?_
  intro _ hw'
  obtain ⟨⟨dq, osq⟩, hw''⟩ := hw'
  subst hw''
  obtain ⟨w2, hw2⟩ : ∃ w2, w2 = grow (redrawn w1 dq) osq := ⟨_, rfl⟩
  have hb2 := below_regrown w1 dq osq
  simp only at hb2 ⊢
  rw [← hw2] at hb2 ⊢
  have HB2 := Lib.hid hb2
  have hbt2 : Boxed w2 w.heap.size 129 (.pointer (some ⟨T, 0, none⟩)) := (hb2.block _ (by have := HSZ.out; omega)).trans HBT.out
  have hbd2 : Boxed w2 (w.heap.size + 1) 3 (.int .i64 d) := (hb2.block _ (by have := HSZ.out; omega)).trans HBD.out
  have hct := hbt2.cell
  have HT2 := Lib.hid hbt2
  have HD2 := Lib.hid hbd2
  clear hb2 hbt2 hbd2 hw2 k1 k2 k3 x0 x1 t0 t1 hq1 hq2
  gi_wp2_with (refine ⟨trivial, ?_⟩; gi_at_call 104; refine (callsIn_wide.2 (CU.out _)).mono ?_; rintro e w3 ⟨rfl, hb3, hs3, hbt3, hbp3⟩)
  have hsz2 : w.heap.size + 1 + 1 ≤ w2.heap.size := by have := HSZ.out; have := HB2.out.size; omega
  have hb03 := (HB1.out.trans (HB2.out.mono HB1.out.size)).trans (hb3.mono (by omega))
  have hT3 : Boxed w3 w.heap.size 129 (.pointer (some ⟨T, 0, none⟩)) := (hb3.block _ (by omega)).trans HT2.out
  have hD3 : Boxed w3 (w.heap.size + 1) 3 (.int .i64 d) := (hb3.block _ (by omega)).trans HD2.out
  have hts := HTS.out
  have hl3 := HMF.out.grow hb03
  have HTB := Lib.hid hl3.tb
  have hI0 : AddI w w.heap.size T S k c c' d [] w3 := ⟨hT3, hD3, hl3, TurnsB.of_below hb03⟩
  have HI0 := Lib.hid hI0
  have HLT := Lib.hid (Nat.le_trans hsz2 (by rw [hs3]; omega : w2.heap.size ≤ w3.heap.size))
  obtain ⟨B2, hB2⟩ : ∃ B2, B2 = w2.heap.size := ⟨_, rfl⟩
  rw [← hB2] at hs3 hbt3 hbp3 hsz2 ⊢
  obtain ⟨BT, hBT⟩ : ∃ BT, BT = w.heap.size := ⟨_, rfl⟩
  rw [← hBT] at hsz2 ⊢
  have HBT2 := Lib.hid hBT
  have HI1 : Hid (AddI w BT T S k c c' d [] w3) := by rw [hBT]; exact hI0
  have hle : w.heap.size ≤ BT := by omega
  have hT2 : T < BT := by omega
  have hS2 : S < BT := by omega
  clear hT3 hD3 hl3 hI0 hb3 hb03 hB2 HBT HBD HW1 HSZ HB1 HB2 HT2 HD2 HI0 CH CG CU hct hBT
  obtain ⟨z1, hz1⟩ : ∃ z1, z1 = IntKind.i64.wrap (-ck) := ⟨_, rfl⟩
  obtain ⟨z2, hz2⟩ : ∃ z2, z2 = IntKind.i64.wrap (65536 - tot) := ⟨_, rfl⟩
  rw [← hz1, ← hz2]
  clear hz1 hz2
  refine wpIn_range_state (by omega) (gf := 109) (lb := #[.pointer (some ⟨B2 + 1, 0, none⟩), .pointer (some ⟨B2, 0, none⟩)]) rfl (enters_of Tryz.func109 (by kernel_rfl) rfl)
    (up1_hands 3 (by omega) (B2 + 1) B2 T S c.length (k + 1) c.sum (by omega) (by omega) (by omega) (by omega) hlen.2 xs HX.out w3 (by rw [show ((k + 1 : Nat) : Int) = (k : Int) + 1 by omega]; exact hbp3) hbt3 HTB.out) (fun k hk => by rcases hk with rfl | rfl | rfl <;> omega) (by omega) (fun _ => rfl)
    (AddI w BT T S k c c' d) (addI_own hts.1 hts.2.1 hle (by omega) (by omega)) (fun _ _ _ h => ⟨h.1, h.2.1, ⟨h.2.2.1.tb, h.2.2.1.sb⟩, ⟨h.2.2.2.os, h.2.2.2.tape, h.2.2.2.output, h.2.2.2.size, h.2.2.2.block⟩⟩) HI1.out
    (fun x => { tmps := #[.pointer (some ⟨T, 0, none⟩), .int .i64 (k : Int), .int .i64 d, .pointer (some ⟨BT, 0, none⟩), undef, .pointer (some ⟨BT + 1, 0, none⟩), .int .i64 0, .int .i64 (x : Int), .pointer (some ⟨T, 0, none⟩), .bool false, .pointer (some ⟨T, 0, none⟩), .int .i64 (k : Int), .bool true, .bool false, .bool false, .int .i64 d, .pointer (some ⟨T, 0, none⟩), .int .i64 (k : Int), .int .i64 ck, .int .i64 z1, .bool false, .bool false, .bool false, .int .i64 d, .pointer (some ⟨T, 0, none⟩), .pointer (some ⟨T, 0, none⟩), .pointer (some ⟨T, 1, none⟩), .int .i64 tot, .int .i64 z2, .bool false, .bool false, .pointer (some ⟨T, 0, none⟩), .int .i64 (k : Int), .int .i64 ((k : Int) + 1), .func (.func 109) #[] #[.pointer (some ⟨B2 + 1, 0, none⟩), .pointer (some ⟨B2, 0, none⟩)], .int .i64 (x : Int), undef, undef, undef, undef, undef, undef, undef, undef, undef, undef, undef, undef, undef, undef, undef, undef, undef, undef], defers := [] }) ?assign ?body ?done
  case assign =>
    intro l x Wd K hK
    gi_wp2
    exact hK
  case body =>
    rintro l pre x rest Wd hxs hI hsz hkp
    have hHX := HX.out
    rw [← hxs] at hHX
    obtain ⟨hxq, hxn, -⟩ := isUp_at hHX
    have hmix := mix_all (n := c.length) (k := k) (by omega) (mix_first c.length k) hHX
    rw [← hxq] at hmix hxn
    have hfx := HFN.out x hmix hxn
    have hmn := HMN.out x hmix hxn
    have hv0 := fNode_nn HC.out.2.1 x
    have hv1 := Int.le_trans (fNode_le HC.out.2.1 x) HC.out.2.2
    have hu0 := fNode_nn HC0.out.2.1 x
    have hu1 := Int.le_trans (fNode_le HC0.out.2.1 x) HC0.out.2.2
    have hl := hI.2.2.1
    have hT0 := hl.tb.cell 0
    have hS := hl.sb.cell x
    have hF := hl.sb.frozen x
    rw [zvs_get, mixRow_get c c' _ x hxn, if_neg (by omega)] at hS
    simp only [List.getElem?_cons_zero, Option.map_some] at hT0 hS
    have htc := hI.1.cell
    have hdc := hI.2.1.cell
    obtain ⟨nd, hnd⟩ : ∃ nd, nd = fNode c x := ⟨_, rfl⟩
    rw [← hnd] at hS hfx hmn hu0 hu1
    have hadd : IntKind.i64.wrap (nd + d) = nd + d := by rw [IntKind.wrap_i64]; omega
    have hxb : (x : Int) < (c.length : Int) + 1 := by omega
    have hmn2 : mixRow c c' (upAt (k + 1) (pre ++ [x])) = (mixRow c c' (upAt (k + 1) pre)).set x (nd + d) := by rw [upAt_snoc, hmn, ← hxq]
    have HADD := Lib.hid hadd
    have HM := Lib.hid hmn2
    have HI := Lib.hid hI
    clear hadd hmn2 hI hmn hfx hv0 hv1 hu0 hu1 hnd hl hxq hxn hmix hHX hkp hsz hxs hk4 hd4 hd5 hs3 hbt3 hbp3 hlen hk
    gi_wp2
    gi_region
    all_goals gi_wp2
    all_goals
      rw [HADD.out]
      exact add_round HI.out hts.2.1 (by omega) (fun k hk => by rcases hk with rfl | rfl | rfl <;> omega) HM.out
  case done =>
    rintro D Wd hD hI hK
    have hend : c.length < upAt (k + 1) xs := isUp_at (pre := xs) (rest := []) (by simpa using HX.out)
    have hl := hI.2.2.1
    rw [mixRow_most c c' _ HLL.out hend] at hl
    have hT1 := hl.tb.cell 1
    have hF1 := hl.tb.frozen 1
    simp only [List.getElem?_cons_zero, List.getElem?_cons_succ] at hT1
    have htc := hI.1.cell
    have hdc := hI.2.1.cell
    have hl2 := hl.setTotal (c.sum + d)
    have ht2 := hI.2.2.2.trans (TurnsB.setT 1 (.int .i64 (c.sum + d)))
    have hK2 : (Wd.setCell ⟨T, 1, none⟩ (.int .i64 (c.sum + d))).heap[D]? = some (.deferred (some [])) := (Below.heap_setCell _ _ _ D (by simp; omega)).trans hK
    have hsn := sum_nn12 HC0.out.2.1
    have hst := HC0.out.2.2
    have hadd : wrap64 (c.sum + d) = c.sum + d := IntWalk.wrap64_in _ (by omega)
    have HADD := Lib.hid hadd
    have HL2 := Lib.hid hl2
    have HT2 := Lib.hid ht2
    have HK2 := Lib.hid hK2
    obtain ⟨sm, hsm⟩ : ∃ sm, sm = c.sum := ⟨_, rfl⟩
    have HSM := Lib.hid hsm
    rw [← hsm] at hT1
    clear hadd hl2 ht2 hK2 hl hI hend hK hsn hst hsm hd4 hd5
    gi_wp2
    refine wpIn_wide.2 ?_
    go_region
    rw [HSM.out, HADD.out]
    have HDD := Lib.hid hD
    clear hD
    gi_wp2
    refine ⟨by simp, .inl ⟨_, _, rfl, run_takeDeferred (w := (Wd.setCell ⟨T, 1, none⟩ (.int .i64 (c.sum + d))).drew) HK2.out, ?_⟩⟩
    refine ⟨_, results_tmp rfl _ _ _, ?_⟩
    have hge := HDD.out
    have hlt3 := HLT.out
    have hbt2 := HBT2.out
    refine ⟨rfl, ⟨HC.out, ?_⟩, ?_⟩
    · rw [HLL.out, HSUM.out]
      exact ⟨(World.putObj_heap_other (by omega)).trans HL2.out.tb, (World.putObj_heap_other (by omega)).trans HL2.out.sb⟩
    · exact HT2.out.drew.more (grownBy_putObj' _ D (.deferred none)) (fun r e => by cases e; omega)
end Go.Proofs.YtgbibmgedmbboaaGreat
