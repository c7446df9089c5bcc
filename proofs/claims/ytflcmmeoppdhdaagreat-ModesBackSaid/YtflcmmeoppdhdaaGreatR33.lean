/-
  Contracts of layer 12: Add, where it may. · Contracts of layer 12: New, Find. · Contracts of layer 12: Halve. · Layer 12: the fixed calls; of a tree that is none. · Layer 12: of a tree that is none; the law FenNil. · Layer 12: the law FenFinds. · Layer 12: a slice of steps of three numbers, as a list. · Layer 12: a row of counts and its tree, beside one another.
-/
import Derived.Test.YtflcmmeoppdhdaaGreatR02
import Derived.Test.YtflcmmeoppdhdaaGreatR32
import Derived.BigRegionIn
import Derived.Lib.QuietBelow
namespace Go.Proofs.YtflcmmeoppdhdaaGreat
open Go.RowKit Go.Shelf Go.Sort
attribute [local go_sem] Oper.semAt_some

theorem TurnsB.more {T S : Nat} {w A B : World} {row : Option Nat} (h : TurnsB T S w A) (hg : A.grownBy B row) (hr : ∀ r, row = some r → w.heap.size ≤ r) : TurnsB T S w B :=
  ⟨hg.os.trans h.os, hg.tape.trans h.tape, hg.output.trans h.output, Nat.le_trans h.size hg.size, fun k hk h1 h2 => (hg.block k (Nat.lt_of_lt_of_le hk h.size) (fun e => by have := hr k e.symm; omega)).trans (h.block k hk h1 h2)⟩
/-- Between two places of the way up. -/
def AddI (w : World) (BT T S k : Nat) (c c' : List Int) (d : Int) (pre : List Nat) (W : World) : Prop :=
  Boxed W BT 239 (.pointer (some ⟨T, 0, none⟩)) ∧ Boxed W (BT + 1) 3 (.int .i64 d) ∧ Lies W T S c.length (mixRow c c' (upAt (k + 1) pre)) c.sum ∧ TurnsB T S w W
theorem addI_own {w w0 : World} {BT T S k Bp : Nat} {c c' : List Int} {d : Int} (hT : T < w.heap.size) (hS : S < w.heap.size) (h0 : w.heap.size ≤ BT) (h1 : BT + 1 < Bp) (h2 : w.heap.size ≤ w0.heap.size) :
    ∀ s A B row, AddI w BT T S k c c' d s A → A.grownBy B row → (∀ r, row = some r → r = Bp ∨ (w0.heap.size ≤ r ∧ ∃ o : Obj, A.heap[r]? = some o ∧ o.isCells = false)) → AddI w BT T S k c c' d s B := by
  rintro s A B row ⟨x1, x2, x3, x4⟩ hg hr
  have hne : ∀ g, g < w.heap.size → ∀ r, row = some r → r ≠ g := fun g hlt r e => by rcases hr r e with e | e <;> omega
  exact ⟨boxed_grown x1 hg hr (by omega), boxed_grown x2 hg hr (by omega), ⟨blk_row x3.tb hg (hne T hT), blk_row x3.sb hg (hne S hS)⟩, x4.more hg (fun r e => by rcases hr r e with e | e <;> omega)⟩
/-- One place more. -/
theorem add_round {w Wd : World} {BT T S k N x : Nat} {c c' : List Int} {d : Int} {keep : Nat → Prop} {pre : List Nat} {v : Int} (h : AddI w BT T S k c c' d pre Wd) (hS : S < w.heap.size) (h0 : w.heap.size ≤ BT) (n2 : ∀ k, keep k → k ≠ S)
    (hm : mixRow c c' (upAt (k + 1) (pre ++ [x])) = (mixRow c c' (upAt (k + 1) pre)).set x v) :
    KeepsFrom N Wd (Wd.setCell ⟨S, x, none⟩ (.int .i64 v)).drew ∧ KeepsB keep Wd (Wd.setCell ⟨S, x, none⟩ (.int .i64 v)).drew ∧ AddI w BT T S k c c' d (pre ++ [x]) (Wd.setCell ⟨S, x, none⟩ (.int .i64 v)).drew := by
  obtain ⟨x1, x2, x3, x4⟩ := h
  have h1 : KeepsFrom N Wd (Wd.setCell ⟨S, x, none⟩ (.int .i64 v)) := (KeepsOthers.setCell Wd ⟨S, x, none⟩ (.int .i64 v)).from N
  have h3 := x3.set_ x v
  rw [← hm] at h3
  have h4 : Boxed (Wd.setCell ⟨S, x, none⟩ (.int .i64 v)) BT 239 (.pointer (some ⟨T, 0, none⟩)) := Blk.setOther (cs := [_]) x1 _ _ (by simp; omega)
  have h5 : Boxed (Wd.setCell ⟨S, x, none⟩ (.int .i64 v)) (BT + 1) 3 (.int .i64 d) := Blk.setOther (cs := [_]) x2 _ _ (by simp; omega)
  exact ⟨⟨h1.size, h1.same⟩, ⟨h1.size, fun k hk => Below.heap_setCell _ _ _ k (n2 k hk)⟩, h4, h5, ⟨h3.tb, h3.sb⟩, (x4.trans (TurnsB.set_ x _)).drew⟩

set_option maxRecDepth 100000 in
set_option maxHeartbeats 4000000 in
theorem fenAdd_any {w : World} {T S : Nat} {c : List Int} (k : Nat) (d : Int) (h : IsTree w T S c) (hk : k < c.length) (hd : -c[k] ≤ d) (hd2 : d ≤ 65536 - c.sum) :
    Calls Tryz.prog 183 #[.pointer (some ⟨T, 0, none⟩), .int .i64 (k : Int), .int .i64 d] w fun e w' => e = .returned (.int .i64 0) ∧ IsTree w' T S (c.set k (c[k] + d)) ∧ TurnsB T S w w' := by
  have hlen := h.1.1
  have HTS : Hid (T < w.heap.size ∧ S < w.heap.size ∧ T ≠ S) := ⟨h.2.tb.lt, h.2.sb.lt, h.2.ne⟩
  have hc' : Counts (c.set k (c[k] + d)) := by
    refine ⟨by simpa using h.1.1, fun x hx => ?_, by rw [set_sum c k hk d]; omega⟩
    rcases List.mem_or_eq_of_mem_set hx with hx | rfl
    · exact h.1.2.1 x hx
    · omega
  have HC := Lib.hid hc'
  have HC0 := Lib.hid h.1
  have HSUM := Lib.hid (set_sum c k hk d)
  have hmf := mixRow_first c k hk d
  have HMN := Lib.hid (fun q hm hq => mixRow_next c k q hk d (by omega) hm hq)
  have hfn := fun q (hm : Mix c.length k q) (hq : q ≤ c.length) => fNode_set c k hk d q
  have hfn2 : ∀ q, Mix c.length k q → q ≤ c.length → fNode (c.set k (c[k] + d)) q = fNode c q + d := fun q hm hq => by
    rw [hfn q hm hq, if_pos ((hm.2 q (Nat.le_refl _) hq).2 (by have := fLow_pos q; have := hm.1; omega))]
  have HFN := Lib.hid hfn2
  have hll : (c.set k (c[k] + d)).length = c.length := by simp
  have HLL := Lib.hid hll
  obtain ⟨xs, hx⟩ := isUp_ex c.length _ (k + 1) rfl
  have HX := Lib.hid hx
  clear hc' hfn hfn2 hx hll
  have hl0 := h.2
  rw [← hmf] at hl0
  have HMF := Lib.hid hl0
  clear hl0 hmf
  obtain ⟨c', hcc⟩ : ∃ c', c' = c.set k (c[k] + d) := ⟨_, rfl⟩
  rw [← hcc] at HC HSUM HMN HFN HLL HMF ⊢
  obtain ⟨hb1, hbt, hbd, hsz⟩ := addBoxes w (.pointer (some ⟨T, 0, none⟩)) (.int .i64 d)
  obtain ⟨w1, hw1⟩ : ∃ w1, w1 = (w.alloc (.cells #[.pointer (some ⟨T, 0, none⟩)] 239)).alloc (.cells #[.int .i64 d] 3) := ⟨_, rfl⟩
  have HW1 := Lib.hid hw1
  rw [← hw1] at hb1 hbt hbd hsz
  have hl := h.2.grow hb1
  have ch := fun d os => (fenHas_any (k : Int) (hl.grow (below_regrown w1 d os)) h.1.1.2)
  rw [decide_eq_true (show 0 ≤ (k : Int) ∧ (k : Int) < c.length by omega)] at ch
  have cH := fun d os => Calls.regrown_of ((ch d os).mono fun _ _ h => ⟨h.1, h.2 ▸ Below.refl _ _⟩)
  have cG := fun d os => Calls.regrown_of (fenGet_at k ((h.grow hb1).grow (below_regrown w1 d os)) hk)
  have k1 := cell_regrown hbt.cell
  have k2 := cell_regrown hbd.cell
  have hT1 := hl.tb.cell 1
  simp only [List.getElem?_cons_zero, List.getElem?_cons_succ] at hT1
  have k3 := cell_regrown hT1
  have x0 := h.1.2.1 _ (List.getElem_mem hk)
  have x1 : c[k] ≤ 65536 := by
    have h1 := fPre_succ c k hk
    have h2 := fPre_le h.1.2.1 (k + 1)
    have h3 := fPre_nn h.1.2.1 k
    have := h.1.2.2
    omega
  obtain ⟨ck, hck⟩ : ∃ ck, ck = c[k] := ⟨_, rfl⟩
  rw [← hck] at cG x0 x1 hd
  have t0 := sum_nn12 h.1.2.1
  have t1 := h.1.2.2
  obtain ⟨tot, htot⟩ : ∃ tot, tot = c.sum := ⟨_, rfl⟩
  rw [← htot] at k3 t0 t1 hT1
  rw [← htot] at hd2
  have hq1 : decide (d < IntKind.i64.wrap (-ck)) = false := by rw [decide_eq_false_iff_not, IntKind.wrap_i64]; omega
  have hq2 : decide (IntKind.i64.wrap (65536 - tot) < d) = false := by rw [decide_eq_false_iff_not, IntKind.wrap_i64]; omega
  have hd4 : -65536 ≤ d := by omega
  have hd5 : d ≤ 65536 := by omega
  have hk4 : k < 4096 := by omega
  have cU := fenUp_any T (k + 1)
  rw [show ((k + 1 : Nat) : Int) = (k : Int) + 1 by omega] at cU
  have CU := Lib.hid cU
  have CH := Lib.hid cH
  have CG := Lib.hid cG
  have HB1 := Lib.hid hb1
  have HSZ := Lib.hid hsz
  have HBT := Lib.hid hbt
  have HBD := Lib.hid hbd
  have HTOT := Lib.hid htot
  have HD := Lib.hid (And.intro hd hd2)
  clear h hl ch cH cG cU hw1 hb1 hck htot hT1 hbt hbd hcc hsz hd hd2
  refine (callsIn_wide (n := 4)).1 ?_
  refine callsIn_of_wp_marks Tryz.func183 rfl trivial ?_ rfl
  simp only [Tryz.ntmps183, List.size_toArray, List.length_cons, List.length_nil, Nat.reduceAdd, Nat.reduceSub, Array.replicate_succ, Array.replicate_zero, List.push_toArray, List.append_toArray, List.nil_append, List.cons_append]
  gi_wp2
  rw [← HW1.out]
  refine wpIn_wide.2 ?_
  refine wp_region_quiet_below (by kernel_rfl) (by kernel_rfl) ?_
  repeat (quiet_step (first | exact CH.out _ _ | exact CG.out _ _))
  refine wpQuiet_nil ?_
  intro _ hw'
  obtain ⟨⟨dq, osq⟩, hw''⟩ := hw'
  subst hw''
  obtain ⟨w2, hw2⟩ : ∃ w2, w2 = grow (redrawn w1 dq) osq := ⟨_, rfl⟩
  have hb2 := below_regrown w1 dq osq
  simp only at hb2 ⊢
  rw [← hw2] at hb2 ⊢
  have HB2 := Lib.hid hb2
  have hbt2 : Boxed w2 w.heap.size 239 (.pointer (some ⟨T, 0, none⟩)) := (hb2.block _ (by have := HSZ.out; omega)).trans HBT.out
  have hbd2 : Boxed w2 (w.heap.size + 1) 3 (.int .i64 d) := (hb2.block _ (by have := HSZ.out; omega)).trans HBD.out
  have hct := hbt2.cell
  have HT2 := Lib.hid hbt2
  have HD2 := Lib.hid hbd2
  clear hb2 hbt2 hbd2 hw2 k1 k2 k3 x0 x1 t0 t1 hq1 hq2
  gi_wp2_with (refine ⟨trivial, ?_⟩; gi_at_call 213; refine (callsIn_wide.2 (CU.out _)).mono ?_; rintro e w3 ⟨rfl, hb3, hs3, hbt3, hbp3⟩)
  have hsz2 : w.heap.size + 1 + 1 ≤ w2.heap.size := by have := HSZ.out; have := HB2.out.size; omega
  have hb03 := (HB1.out.trans (HB2.out.mono HB1.out.size)).trans (hb3.mono (by omega))
  have hT3 : Boxed w3 w.heap.size 239 (.pointer (some ⟨T, 0, none⟩)) := (hb3.block _ (by omega)).trans HT2.out
  have hD3 : Boxed w3 (w.heap.size + 1) 3 (.int .i64 d) := (hb3.block _ (by omega)).trans HD2.out
  have hts := HTS.out
  have hl3 := HMF.out.grow hb03
  have HTB := Lib.hid hl3.tb
  have hI0 : AddI w w.heap.size T S k c c' d [] w3 := ⟨hT3, hD3, hl3, TurnsB.of_below hb03⟩
  have HI0 := Lib.hid hI0
  have HLT := Lib.hid (Nat.le_trans hsz2 (by rw [hs3]; omega : w2.heap.size ≤ w3.heap.size))
  obtain ⟨B2, hB2⟩ : ∃ B2, B2 = w2.heap.size := ⟨_, rfl⟩
  rw [← hB2] at hs3 hbt3 hbp3 hsz2 ⊢
  obtain ⟨BT, hBT⟩ : ∃ BT, BT = w.heap.size := ⟨_, rfl⟩
  rw [← hBT] at hsz2 ⊢
  have HBT2 := Lib.hid hBT
  have HI1 : Hid (AddI w BT T S k c c' d [] w3) := by rw [hBT]; exact hI0
  have hle : w.heap.size ≤ BT := by omega
  have hT2 : T < BT := by omega
  have hS2 : S < BT := by omega
  clear hT3 hD3 hl3 hI0 hb3 hb03 hB2 HBT HBD HW1 HSZ HB1 HB2 HT2 HD2 HI0 CH CG CU hct hBT
  obtain ⟨z1, hz1⟩ : ∃ z1, z1 = IntKind.i64.wrap (-ck) := ⟨_, rfl⟩
  obtain ⟨z2, hz2⟩ : ∃ z2, z2 = IntKind.i64.wrap (65536 - tot) := ⟨_, rfl⟩
  rw [← hz1, ← hz2]
  clear hz1 hz2
  refine wpIn_range_state (by omega) (gf := 230) (lb := #[.pointer (some ⟨B2 + 1, 0, none⟩), .pointer (some ⟨B2, 0, none⟩)]) rfl (enters_of Tryz.func230 (by kernel_rfl) rfl)
    (up1_hands 3 (by omega) (B2 + 1) B2 T S c.length (k + 1) c.sum (by omega) (by omega) (by omega) (by omega) hlen.2 xs HX.out w3 (by rw [show ((k + 1 : Nat) : Int) = (k : Int) + 1 by omega]; exact hbp3) hbt3 HTB.out) (fun k hk => by rcases hk with rfl | rfl | rfl <;> omega) (by omega) (fun _ => rfl)
    (AddI w BT T S k c c' d) (addI_own hts.1 hts.2.1 hle (by omega) (by omega)) (fun _ _ _ h => ⟨h.1, h.2.1, ⟨h.2.2.1.tb, h.2.2.1.sb⟩, ⟨h.2.2.2.os, h.2.2.2.tape, h.2.2.2.output, h.2.2.2.size, h.2.2.2.block⟩⟩) HI1.out
    (fun x => { tmps := #[.pointer (some ⟨T, 0, none⟩), .int .i64 (k : Int), .int .i64 d, .pointer (some ⟨BT, 0, none⟩), undef, .pointer (some ⟨BT + 1, 0, none⟩), .int .i64 0, .int .i64 (x : Int), .pointer (some ⟨T, 0, none⟩), .bool false, .pointer (some ⟨T, 0, none⟩), .int .i64 (k : Int), .bool true, .bool false, .bool false, .int .i64 d, .pointer (some ⟨T, 0, none⟩), .int .i64 (k : Int), .int .i64 ck, .int .i64 z1, .bool false, .bool false, .bool false, .int .i64 d, .pointer (some ⟨T, 0, none⟩), .pointer (some ⟨T, 0, none⟩), .pointer (some ⟨T, 1, none⟩), .int .i64 tot, .int .i64 z2, .bool false, .bool false, .pointer (some ⟨T, 0, none⟩), .int .i64 (k : Int), .int .i64 ((k : Int) + 1), .func (.func 230) #[] #[.pointer (some ⟨B2 + 1, 0, none⟩), .pointer (some ⟨B2, 0, none⟩)], .int .i64 (x : Int), undef, undef, undef, undef, undef, undef, undef, undef, undef, undef, undef, undef, undef, undef, undef, undef, undef, undef], defers := [] }) ?assign ?body ?done
  case assign =>
    intro l x Wd K hK
    gi_wp2
    exact hK
  case body =>
    rintro l pre x rest Wd hxs hI hsz hkp
    have hHX := HX.out
    rw [← hxs] at hHX
    obtain ⟨hxq, hxn, -⟩ := isUp_at hHX
    have hmix := mix_all (n := c.length) (k := k) (by omega) (mix_first c.length k) hHX
    rw [← hxq] at hmix hxn
    have hfx := HFN.out x hmix hxn
    have hmn := HMN.out x hmix hxn
    have hv0 := fNode_nn HC.out.2.1 x
    have hv1 := Int.le_trans (fNode_le HC.out.2.1 x) HC.out.2.2
    have hu0 := fNode_nn HC0.out.2.1 x
    have hu1 := Int.le_trans (fNode_le HC0.out.2.1 x) HC0.out.2.2
    have hl := hI.2.2.1
    have hT0 := hl.tb.cell 0
    have hS := hl.sb.cell x
    have hF := hl.sb.frozen x
    rw [zvs_get, mixRow_get c c' _ x hxn, if_neg (by omega)] at hS
    simp only [List.getElem?_cons_zero, Option.map_some] at hT0 hS
    have htc := hI.1.cell
    have hdc := hI.2.1.cell
    obtain ⟨nd, hnd⟩ : ∃ nd, nd = fNode c x := ⟨_, rfl⟩
    rw [← hnd] at hS hfx hmn hu0 hu1
    have hadd : IntKind.i64.wrap (nd + d) = nd + d := by rw [IntKind.wrap_i64]; omega
    have hxb : (x : Int) < (c.length : Int) + 1 := by omega
    have hmn2 : mixRow c c' (upAt (k + 1) (pre ++ [x])) = (mixRow c c' (upAt (k + 1) pre)).set x (nd + d) := by rw [upAt_snoc, hmn, ← hxq]
    have HADD := Lib.hid hadd
    have HM := Lib.hid hmn2
    have HI := Lib.hid hI
    clear hadd hmn2 hI hmn hfx hv0 hv1 hu0 hu1 hnd hl hxq hxn hmix hHX hkp hsz hxs hk4 hd4 hd5 hs3 hbt3 hbp3 hlen hk
    gi_wp2
    gi_region
    all_goals gi_wp2
    all_goals
      rw [HADD.out]
      exact add_round HI.out hts.2.1 (by omega) (fun k hk => by rcases hk with rfl | rfl | rfl <;> omega) HM.out
  case done =>
    rintro D Wd hD hI hK
    have hend : c.length < upAt (k + 1) xs := isUp_at (pre := xs) (rest := []) (by simpa using HX.out)
    have hl := hI.2.2.1
    rw [mixRow_most c c' _ HLL.out hend] at hl
    have hT1 := hl.tb.cell 1
    have hF1 := hl.tb.frozen 1
    simp only [List.getElem?_cons_zero, List.getElem?_cons_succ] at hT1
    have htc := hI.1.cell
    have hdc := hI.2.1.cell
    have hl2 := hl.setTotal (c.sum + d)
    have ht2 := hI.2.2.2.trans (TurnsB.setT 1 (.int .i64 (c.sum + d)))
    have hK2 : (Wd.setCell ⟨T, 1, none⟩ (.int .i64 (c.sum + d))).heap[D]? = some (.deferred (some [])) := (Below.heap_setCell _ _ _ D (by simp; omega)).trans hK
    have hsn := sum_nn12 HC0.out.2.1
    have hst := HC0.out.2.2
    have hadd : wrap64 (c.sum + d) = c.sum + d := IntWalk.wrap64_in _ (by omega)
    have HADD := Lib.hid hadd
    have HL2 := Lib.hid hl2
    have HT2 := Lib.hid ht2
    have HK2 := Lib.hid hK2
    obtain ⟨sm, hsm⟩ : ∃ sm, sm = c.sum := ⟨_, rfl⟩
    have HSM := Lib.hid hsm
    rw [← hsm] at hT1
    clear hadd hl2 ht2 hK2 hl hI hend hK hsn hst hsm hd4 hd5
    gi_wp2
    refine wpIn_wide.2 ?_
    go_region
    rw [HSM.out, HADD.out]
    have HDD := Lib.hid hD
    clear hD
    gi_wp2
    refine ⟨by simp, .inl ⟨_, _, rfl, run_takeDeferred (w := (Wd.setCell ⟨T, 1, none⟩ (.int .i64 (c.sum + d))).drew) HK2.out, ?_⟩⟩
    refine ⟨_, results_tmp rfl _ _ _, ?_⟩
    have hge := HDD.out
    have hlt3 := HLT.out
    have hbt2 := HBT2.out
    refine ⟨rfl, ⟨HC.out, ?_⟩, ?_⟩
    · rw [HLL.out, HSUM.out]
      exact ⟨(World.putObj_heap_other (by omega)).trans HL2.out.tb, (World.putObj_heap_other (by omega)).trans HL2.out.sb⟩
    · exact HT2.out.drew.more (grownBy_putObj' _ D (.deferred none)) (fun r e => by cases e; omega)
end Go.Proofs.YtflcmmeoppdhdaaGreat
namespace Go.Proofs.YtflcmmeoppdhdaaGreat
open Go.RowKit

theorem fRow_zero (n : Nat) : fRow (List.replicate n 0) = List.replicate (n + 1) 0 := by
  refine List.eq_replicate_iff.2 ⟨by simp [fRow_len], fun b hb => ?_⟩
  obtain ⟨j, _, rfl⟩ := List.mem_map.1 hb
  have h : ∀ k, fPre (List.replicate n 0) k = 0 := fun k => by simp [fPre]
  unfold fNode; rw [h, h]; rfl

theorem fenNew_bad (n : Int) (w : World) (h : n < 1 ∨ 4096 < n) :
    Calls Tryz.prog 185 #[.int .i64 n] w fun e w' => e = .returned (.pointer none) ∧ w' = w := by
  rcases h with h | h
  · go_enter Tryz.func185, Tryz.ntmps185
    go_wp2
    go_ret
    exact ⟨rfl, rfl⟩
  · have h1 : ¬ n < 1 := by omega
    go_enter Tryz.func185, Tryz.ntmps185
    go_wp2
    go_ret
    exact ⟨rfl, rfl⟩
theorem fenNew_any (n : Nat) (w : World) (h1 : 1 ≤ n) (h2 : n ≤ 4096) :
    Calls Tryz.prog 185 #[.int .i64 (n : Int)] w fun e w' => ∃ T, e = .returned (.pointer (some ⟨T, 0, none⟩)) ∧ ∃ S, IsTree w' T S (List.replicate n 0) ∧ (w.heap.size ≤ T ∧ w.heap.size ≤ S) ∧ Below w.heap.size w w' := by
  obtain ⟨i0, hi, hz0, hz1, hz2⟩ := info_parts info_int12
  have a1 : ¬ ((n : Int) < 1) := by omega
  have a2 : ¬ ((4096 : Int) < n) := by omega
  go_enter Tryz.func185, Tryz.ntmps185
  go_wp2_with (at_make; go_must (refine wpList_mk rfl (.tmp 10) (.tmp 10) 53 rfl w.heap.size 3 i0 (.int .i64 0) 8 Tryz.underlying53 hi hz0 rfl hz1 hz2 .i64 .i64 _ _ rfl rfl (n + 1) (n + 1) (by omega) (by omega) (Nat.le_refl _) (by omega) (by simp only [maxLen]; omega) (Nat.le_refl _) ?_; intro w1 hg1 hown1 hgr1; have hb : Below w.heap.size w w1 := (Below.refl _ _).grown hgr1 (Nat.le_refl _) (by simp)))
  go_ret
  refine ⟨w1.heap.size, rfl, w.heap.size, ⟨⟨by simp; omega, ?_, by simp⟩, ?_, ?_⟩, ⟨hb.size, Nat.le_refl _⟩, hb.alloc hb.size _⟩
  · intro x hx; obtain ⟨-, rfl⟩ := List.mem_replicate.1 hx; exact Int.le_refl _
  · have := heap_alloc_new w1 (.cells #[.slice (some ⟨w.heap.size, 0, none⟩) (n + 1) (n + 1), .int .i64 0] 265)
    unfold Blk
    rw [this]
    simp
  · have hs : Blk w1 w.heap.size 3 (zvs (fRow (List.replicate n 0))) := by unfold Blk; rw [hg1, fRow_zero]; simp [zvs]
    exact hs.alloc_ _

theorem lt_bitLen (x : Nat) (h : x < 2 ^ 64) : x < 2 ^ Lib.bitLen x := by
  have key : ∀ (f x : Nat), x < 2 ^ f → x < 2 ^ Lib.bitLenAux f x := by
    intro f
    induction f with
    | zero => intro x h; simpa [Lib.bitLenAux] using h
    | succ f ih =>
      intro x h
      unfold Lib.bitLenAux
      split
      · omega
      · have := ih (x / 2) (by rw [Nat.pow_succ] at h; omega)
        rw [Nat.add_comm, Nat.pow_succ]; omega
  exact key 64 x h
/-- Find, where there is none. -/
theorem fenFind_none {w : World} {T S : Nat} {c : List Int} (v : Int) (h : IsTree w T S c) (hv : v < 0 ∨ c.sum ≤ v) :
    Calls Tryz.prog 189 #[.pointer (some ⟨T, 0, none⟩), .int .i64 v] w fun e w' => e = .returned (.tuple #[.int .i64 0, .bool false]) ∧ w' = w := by
  have C := Lib.hid (fenTotal_any h.2)
  clear h
  rcases hv with hv | hv
  · go_enter Tryz.func189, Tryz.ntmps189
    go_wp2
    go_ret2
    exact ⟨rfl, rfl⟩
  · by_cases h0 : v < 0
    · go_enter Tryz.func189, Tryz.ntmps189
      go_wp2
      go_ret2
      exact ⟨rfl, rfl⟩
    · go_enter Tryz.func189, Tryz.ntmps189
      go_wp2_with (go_at_call 182; refine C.out.mono ?_; rintro e w' ⟨rfl, rfl⟩)
      go_ret2
      exact ⟨rfl, rfl⟩

/-- The step of the search: half the places left. -/
def stepAt : Nat → Nat
  | 0 => 0
  | j + 1 => 2 ^ j
set_option maxHeartbeats 2000000 in
theorem fenFind_some {w : World} {T S : Nat} {c : List Int} (v : Int) (r : Nat) (h : IsTree w T S c) (hv : fFind c v = some r) :
    Calls Tryz.prog 189 #[.pointer (some ⟨T, 0, none⟩), .int .i64 v] w fun e w' => e = .returned (.tuple #[.int .i64 (r : Int), .bool true]) ∧ w' = w := by
  have hlen := h.1.1
  have hnn := h.1.2.1
  have htot := h.1.2.2
  have hin := fFind_in hv
  have hvs : v < c.sum := by have := fPre_le hnn (r + 1); omega
  have hle : Lib.bitLen c.length ≤ 13 := Lib.bitLen_le c.length 13 (by omega) (by omega)
  have h1 : 1 ≤ Lib.bitLen c.length := by
    have := Lib.bitLen_half c.length (by omega) (by omega); omega
  obtain ⟨L, hL⟩ : ∃ L, Lib.bitLen c.length = L + 1 := ⟨Lib.bitLen c.length - 1, by omega⟩
  have hlt : c.length < 2 ^ (L + 1) := by rw [← hL]; exact lt_bitLen _ (by omega)
  obtain ⟨hfd, hfl⟩ := fSeek_find hnn hin.1 hvs hlt
  rw [hv] at hfd
  injection hfd with hfd
  have hg := fenGreatest_any c.length (by omega) hlen.2
  rw [hL, Nat.add_sub_cancel] at hg
  have C := Lib.hid (fenTotal_any h.2)
  have CL := Lib.hid (fenLen_any h.2 hlen.2)
  have CG := Lib.hid hg
  have HL := Lib.hid h.2
  have HN := Lib.hid hnn
  have HFD := Lib.hid hfd
  have HLT := Lib.hid hlt
  have hv0 := hin.1
  have hL12 : L ≤ 12 := by omega
  have hT0 := h.2.tb.cell 0
  simp only [List.getElem?_cons_zero] at hT0
  have hge : ¬ (c.sum ≤ v) := by omega
  clear h hnn hfd hlt hg hin hfl hle h1 hL hv
  go_enter Tryz.func189, Tryz.ntmps189
  go_wp2_with (first
    | (go_at_call 182; refine C.out.mono ?_; rintro e w' ⟨rfl, rfl⟩)
    | (go_at_call 176; refine CL.out.mono ?_; rintro e w' ⟨rfl, rfl⟩)
    | (go_at_call 215; refine (CG.out _).mono ?_; rintro e w' ⟨rfl, rfl⟩))
  go_loop [1, 6, 7] (fun vv ff ss => ∃ j p : Nat, j ≤ L + 1 ∧ ss = .int .i64 (stepAt j : Nat) ∧ ff = .int .i64 (p : Int) ∧ vv = .int .i64 (v - fPre c p) ∧ 2 ^ j ∣ p ∧ p ≤ c.length ∧ fPre c p ≤ v ∧ fSeek c v j p = r)
    (fun _ _ ss => (intOf ss).toNat)
  case atStart => exact ⟨L + 1, 0, Nat.le_refl _, rfl, rfl, by rw [fPre_zero, Int.sub_zero], Nat.dvd_zero _, Nat.zero_le _, by rw [fPre_zero]; exact hv0, HFD.out.symm⟩
  case round =>
    obtain ⟨j, p, hj, rfl, rfl, rfl, hdv, hp, hpv, hsk⟩ := hrel
    cases j with
    | zero =>
      simp only [stepAt, fSeek] at hsk ⊢
      subst hsk
      go_wp2
      go_ret2
      exact ⟨rfl, rfl⟩
    | succ j =>
      obtain ⟨P, hP⟩ : ∃ P, P = 2 ^ j := ⟨_, rfl⟩
      have hst : stepAt (j + 1) = P := hP.symm
      have hP0 : 0 < P := by rw [hP]; exact Nat.two_pow_pos j
      have hP4 : P ≤ 4096 := by rw [hP]; exact Nat.pow_le_pow_right (n := 2) (by decide) (show j ≤ 12 by omega)
      have hsn : P / 2 = stepAt j := by
        cases j with
        | zero => rw [hP]; rfl
        | succ j => rw [hP, Nat.pow_succ]; simp [stepAt]
      have hdv0 : 2 ^ j ∣ p := Nat.dvd_trans ⟨2, by rw [Nat.pow_succ]⟩ hdv
      have hdv1 : 2 ^ j ∣ p + P := by rw [hP]; exact Nat.dvd_add hdv0 (Nat.dvd_refl _)
      have hnode := fNode_half c hdv (by rw [← hP]; omega)
      have hsk2 : (if p + P ≤ c.length ∧ fPre c (p + P) ≤ v then fSeek c v j (p + P) else fSeek c v j p) = r := by rw [hP]; exact hsk
      rw [← hP] at hnode
      have HDV0 := Lib.hid hdv0
      have HDV1 := Lib.hid hdv1
      have HSN := Lib.hid hsn
      have HSK := Lib.hid hsk2
      have HNODE := Lib.hid hnode
      have pp0 := fPre_nn HN.out p
      have HPV := Lib.hid hpv
      rw [hst]
      obtain ⟨q, hq⟩ : ∃ q, q = v - fPre c p := ⟨_, rfl⟩
      rw [← hq]
      have HQ := Lib.hid hq
      have hq0 : 0 ≤ q := by omega
      have hq1 : q ≤ 65536 := by omega
      have hPi : (0 : Int) < (P : Int) := by omega
      clear hdv hsk hsk2 hnode hdv0 hdv1 hsn hst hP hq pp0 hpv
      by_cases hin : p + P ≤ c.length
      · have hS := HL.out.sb.cell (p + P)
        rw [zvs_get, fRow_get c (p + P) hin, HNODE.out] at hS
        simp only [Option.map_some] at hS
        obtain ⟨nd, hnd⟩ : ∃ nd, nd = fPre c (p + P) - fPre c p := ⟨_, rfl⟩
        rw [← hnd] at hS
        have HND := Lib.hid hnd
        have hnd0 : 0 ≤ nd := by have := fPre_mono HN.out (a := p) (b := p + P) (by omega); omega
        have hnd1 : nd ≤ 65536 := by have := fPre_le HN.out (p + P); have := fPre_nn HN.out p; omega
        have hini : (p : Int) + (P : Int) ≤ (c.length : Int) := by omega
        have hinx : (p : Int) + (P : Int) < (c.length : Int) + 1 := by omega
        clear hnd
        by_cases hle : nd ≤ q
        · go_wp2_with (go_at_call 176; refine CL.out.mono ?_; rintro e w' ⟨rfl, rfl⟩)
          go_round
          case rel =>
            have h1 := HQ.out
            have h2 := HND.out
            have hle2 : fPre c (p + P) ≤ v := by omega
            refine ⟨j, p + P, by omega, ?_, ?_, ?_, HDV1.out, hin, hle2, ?_⟩
            · rw [← HSN.out]; congr 1
            · congr 1
            · congr 1; omega
            · have := HSK.out; rwa [if_pos ⟨hin, hle2⟩] at this
          case measure => simp [intOf]; omega
        · go_wp2_with (go_at_call 176; refine CL.out.mono ?_; rintro e w' ⟨rfl, rfl⟩)
          go_round
          case rel =>
            have h1 := HQ.out
            have h2 := HND.out
            have hle2 : ¬ fPre c (p + P) ≤ v := by omega
            refine ⟨j, p, by omega, ?_, rfl, ?_, HDV0.out, hp, HPV.out, ?_⟩
            · rw [← HSN.out]; congr 1
            · congr 1
            · have := HSK.out; rwa [if_neg (fun x => hle2 x.2)] at this
          case measure => simp [intOf]; omega
      · have hini : ¬ ((p : Int) + (P : Int) ≤ (c.length : Int)) := by omega
        go_wp2_with (go_at_call 176; refine CL.out.mono ?_; rintro e w' ⟨rfl, rfl⟩)
        go_round
        case rel =>
          refine ⟨j, p, by omega, ?_, rfl, ?_, HDV0.out, hp, HPV.out, ?_⟩
          · rw [← HSN.out]; congr 1
          · rw [HQ.out]
          · have := HSK.out; rwa [if_neg (fun x => hin x.1)] at this
        case measure => simp [intOf]; omega
end Go.Proofs.YtflcmmeoppdhdaaGreat
namespace Go.Proofs.YtflcmmeoppdhdaaGreat
open Go.RowKit

/-- The row in the midst of halving. -/
def midRow (c : List Int) (i : Nat) : List Int := 0 :: (fHalf (c.take i) ++ c.drop i)
theorem midRow_zero (c : List Int) : midRow c 0 = bRow c 0 := by rw [bRow_zero]; simp [midRow, fHalf]
theorem midRow_most (c : List Int) : midRow c c.length = bRow (fHalf c) 0 := by rw [bRow_zero]; simp [midRow]
theorem fHalf_take (c : List Int) (i : Nat) (h : i < c.length) : fHalf (c.take (i + 1)) = fHalf (c.take i) ++ [(c[i] + 1) / 2] := by
  unfold fHalf; rw [List.map_take, List.map_take, List.take_add_one, List.getElem?_map, List.getElem?_eq_getElem h]; rfl
theorem midRow_get (c : List Int) (i : Nat) (h : i < c.length) : (midRow c i)[i + 1]? = some c[i] := by
  simp only [midRow, List.getElem?_cons_succ]
  rw [List.getElem?_append_right (by simp [fHalf]; omega)]
  have : i - (fHalf (c.take i)).length = 0 := by simp [fHalf]; omega
  rw [this, List.getElem?_drop]; simp [h]
theorem midRow_set (c : List Int) (i : Nat) (h : i < c.length) : (midRow c i).set (i + 1) ((c[i] + 1) / 2) = midRow c (i + 1) := by
  unfold midRow
  rw [List.set_cons_succ, List.set_append_right _ _ (by simp [fHalf]; omega), fHalf_take c i h]
  have : i - (fHalf (c.take i)).length = 0 := by simp [fHalf]; omega
  rw [this, List.drop_eq_getElem_cons h, List.set_cons_zero, List.append_assoc]; rfl
theorem fHalf_takeSum (c : List Int) (i : Nat) (h : i < c.length) : (fHalf (c.take (i + 1))).sum = (fHalf (c.take i)).sum + (c[i] + 1) / 2 := by
  rw [fHalf_take c i h]; simp
theorem fHalf_counts {c : List Int} (h : Counts c) : Counts (fHalf c) :=
  ⟨by rw [fHalf_length]; exact h.1, fHalf_nn h.2.1, Int.le_trans (fHalf_sum h.2.1) h.2.2⟩
theorem take_nn {c : List Int} (hc : ∀ x ∈ c, 0 ≤ x) (k : Nat) : ∀ x ∈ c.take k, 0 ≤ x := fun x hx => hc x (List.mem_of_mem_take hx)
theorem sum_take_le {c : List Int} (hc : ∀ x ∈ c, 0 ≤ x) (k : Nat) : (c.take k).sum ≤ c.sum := fPre_le hc k
theorem sum_nn {c : List Int} (hc : ∀ x ∈ c, 0 ≤ x) : 0 ≤ c.sum := by have := fPre_nn hc c.length; rwa [fPre_most c (Nat.le_refl _)] at this
/-- One place taken away from the next. -/
theorem fenLift_down {w : World} {T S k : Nat} {c : List Int} {t : Int} (hc : Counts c) (h : Lies w T S c.length (bRow c (k + 1)) t) (hk : k < c.length) :
    Calls Tryz.prog 214 #[.pointer (some ⟨T, 0, none⟩), .int .i64 ((k : Int) + 1), .int .i64 (-1)] w fun e w' => (∃ v, e = .returned v) ∧ Lies w' T S c.length (bRow c k) t ∧ TurnsB T S w w' := by
  have h64 : c.length < 2 ^ 64 := by have := hc.1.2; omega
  have hx := bRow_get c (k + 1) (k + 1) hk
  rw [(bRow_here c k hk h64).2] at hx
  have := fenLift_any (k + 1) (-1) (fNode c (k + 1)) (bAt c (k + 1) (k + 1 + fLow (k + 1))) h hc.1.2 (by omega) hk (.inr rfl) hx (fNode_nn hc.2.1 _) (Int.le_trans (fNode_le hc.2.1 _) hc.2.2)
    (fun hle => ⟨bRow_get c (k + 1) _ hle, bAt_nn hc.2.1 _ _, Int.le_trans (bAt_le hc.2.1 h64 hle) hc.2.2⟩)
  rw [show ((k + 1 : Nat) : Int) = (k : Int) + 1 by omega] at this
  refine this.mono fun e w' hh => ⟨hh.1, ?_, hh.2.2⟩
  have e1 := bRow_back c k
  have h2 := hh.2.1
  rw [Int.neg_one_mul, ← Int.sub_eq_add_neg] at h2
  rw [e1]; exact h2
/-- One place added to the next. -/
theorem fenLift_up {w : World} {T S k : Nat} {c : List Int} {t : Int} (hc : Counts c) (h : Lies w T S c.length (bRow c k) t) (hk : k < c.length) :
    Calls Tryz.prog 214 #[.pointer (some ⟨T, 0, none⟩), .int .i64 ((k : Int) + 1), .int .i64 1] w fun e w' => (∃ v, e = .returned v) ∧ Lies w' T S c.length (bRow c (k + 1)) t ∧ TurnsB T S w w' := by
  have h64 : c.length < 2 ^ 64 := by have := hc.1.2; omega
  have hx := bRow_get c k (k + 1) hk
  rw [(bRow_here c k hk h64).1] at hx
  have := fenLift_any (k + 1) 1 (fNode c (k + 1)) (bAt c k (k + 1 + fLow (k + 1))) h hc.1.2 (by omega) hk (.inl rfl) hx (fNode_nn hc.2.1 _) (Int.le_trans (fNode_le hc.2.1 _) hc.2.2)
    (fun hle => ⟨bRow_get c k _ hle, bAt_nn hc.2.1 _ _, Int.le_trans (bAt_le hc.2.1 h64 hle) hc.2.2⟩)
  rw [show ((k + 1 : Nat) : Int) = (k : Int) + 1 by omega] at this
  refine this.mono fun e w' hh => ⟨hh.1, ?_, hh.2.2⟩
  have e1 := bRow_step c k
  have h2 := hh.2.1
  rw [Int.one_mul] at h2
  rw [e1]; exact h2

set_option maxHeartbeats 4000000 in
theorem fenHalve_any {w : World} {T S : Nat} {c : List Int} (h : IsTree w T S c) :
    Calls Tryz.prog 184 #[.pointer (some ⟨T, 0, none⟩)] w fun e w' => (∃ v, e = .returned v) ∧ IsTree w' T S (fHalf c) ∧ TurnsB T S w w' := by
  have hn := h.1.1
  have HC := Lib.hid h.1
  have h64 : c.length < 2 ^ 64 := by omega
  have HL := Lib.hid h.2
  have CL : Hid (∀ (W : World) (l : List Int) (t : Int), Lies W T S c.length l t → Calls Tryz.prog 176 #[.pointer (some ⟨T, 0, none⟩)] W fun e w' => e = .returned (.int .i64 (c.length : Int)) ∧ w' = W) := fun W l t h => fenLen_any h hn.2
  clear h
  go_enter Tryz.func184, Tryz.ntmps184
  go_wp2_with (go_at_call 176; refine (CL.out _ _ _ HL.out).mono ?_; rintro e w' ⟨rfl, hw⟩; obtain rfl : w = w' := hw.symm)
  go_loopw [2] (fun i wr => ∃ k : Nat, k ≤ c.length ∧ i = .int .i64 (k : Int) ∧ Lies wr T S c.length (bRow c k) c.sum ∧ TurnsB T S w wr) (fun i _ => (intOf i).toNat)
  case atStart => exact ⟨c.length, Nat.le_refl _, rfl, by rw [bRow_most c h64]; exact HL.out, TurnsB.refl _ _ _⟩
  case round =>
    obtain ⟨k, hk, rfl, hl, ht⟩ := hrel
    cases k with
    | succ k =>
      have CD := Lib.hid (fenLift_down HC.out hl hk)
      rw [show ((k + 1 : Nat) : Int) = (k : Int) + 1 by omega]
      have hk0 : (0 : Int) < (k : Int) + 1 := by omega
      have HT := Lib.hid ht
      clear hl ht
      go_wp2_with (go_at_call 214; refine CD.out.mono ?_; rintro e w2 ⟨⟨v, rfl⟩, hl2, ht2⟩)
      go_roundw
      case rel => exact ⟨k, by omega, by go_num, hl2, HT.out.trans ht2⟩
      case measure => simp [intOf]
    | zero =>
      have hl0 := hl.setTotal 0
      have ht0 := ht.trans (TurnsB.setT 1 (.int .i64 0))
      have HL0 := Lib.hid hl0
      have HT0 := Lib.hid ht0
      have hc1 := hl.tb.cell 1
      have hf1 := hl.tb.frozen 1
      simp only [List.getElem?_cons_zero, List.getElem?_cons_succ] at hc1
      clear hl ht hl0 ht0 HL
      go_wp2_with (go_at_call 176; refine (CL.out _ _ _ HL0.out).mono ?_; rintro e w2 ⟨rfl, hw⟩; obtain rfl : _ = w2 := hw.symm)
      go_loopw [22] (fun i wr => ∃ k : Nat, k ≤ c.length ∧ i = .int .i64 (k : Int) ∧ Lies wr T S c.length (midRow c k) (fHalf (c.take k)).sum ∧ TurnsB T S w wr) (fun i _ => c.length - (intOf i).toNat)
      case atStart => exact ⟨0, Nat.zero_le _, rfl, by rw [midRow_zero]; simpa [fHalf] using HL0.out, HT0.out⟩
      case round =>
        clear hc1 hf1 HL0 HT0
        obtain ⟨k, hk, rfl, hl, ht⟩ := hrel
        by_cases hlt : k < c.length
        · have hT0 := hl.tb.cell 0
          have hS := hl.sb.cell (k + 1)
          have hF := hl.sb.frozen (k + 1)
          rw [zvs_get, midRow_get c k hlt] at hS
          simp only [List.getElem?_cons_zero, Option.map_some] at hT0 hS
          have x0 := HC.out.2.1 _ (List.getElem_mem hlt)
          have x1 : c[k] ≤ 65536 := by
            have h1 := fPre_succ c k hlt
            have h2 := fPre_le HC.out.2.1 (k + 1)
            have h3 := fPre_nn HC.out.2.1 k
            have := HC.out.2.2
            omega
          have hl2 := hl.set_ (k + 1) ((c[k] + 1) / 2)
          rw [midRow_set c k hlt] at hl2
          have s1 := sum_take_le HC.out.2.1 k
          have s2 := fHalf_sum (take_nn HC.out.2.1 k)
          have s3 := sum_nn (fHalf_nn (take_nn HC.out.2.1 k))
          have s4 := HC.out.2.2
          have hsum := fHalf_takeSum c k hlt
          obtain ⟨x, hx⟩ : ∃ x, x = c[k] := ⟨_, rfl⟩
          rw [← hx] at hS x0 x1 hl2 hsum
          obtain ⟨sm, hsm⟩ : ∃ sm, sm = (fHalf (c.take k)).sum := ⟨_, rfl⟩
          rw [← hsm] at hl2 hsum s2 s3
          have hx1 : (k : Int) + 1 < (c.length : Int) + 1 := by omega
          have hk4 : k < 4096 := by omega
          have hl3 := hl2.setTotal (sm + (x + 1) / 2)
          have HSUM := Lib.hid hsum
          have ht3 := (ht.trans (TurnsB.set_ (k + 1) (.int .i64 ((x + 1) / 2)))).trans (TurnsB.setT 1 (.int .i64 (sm + (x + 1) / 2)))
          have g0 := hl2.tb.cell 0
          have g1 := hl2.tb.cell 1
          have g2 := hl2.sb.cell (k + 1)
          have g3 := hl2.tb.frozen 1
          rw [zvs_get] at g2
          have g2' : (midRow c (k + 1))[k + 1]? = some ((x + 1) / 2) := by rw [hx, ← midRow_set c k hlt, List.getElem?_set_self (by have := midRow_get c k hlt; exact (List.getElem?_eq_some_iff.1 this).1)]
          rw [g2'] at g2
          simp only [List.getElem?_cons_zero, List.getElem?_cons_succ, Option.map_some] at g0 g1 g2
          have y1 : (x + 1) / 2 ≤ 65536 := by omega
          have y0 : 0 ≤ (x + 1) / 2 := by omega
          have s5 : sm ≤ 65536 := by omega
          have HL3 := Lib.hid hl3
          have HT3 := Lib.hid ht3
          clear hl ht hl2 hl3 ht3 hx hsm hsum s1 s2 s4 g2'
          go_wp2
          go_region
          go_wp2
          go_region
          go_wp2
          exact ⟨⟨k + 1, by omega, by go_num, by rw [HSUM.out]; exact ⟨HL3.out.tb, HL3.out.sb⟩, HT3.out.drew.drew⟩, by simp [intOf]; omega⟩
        · obtain rfl : k = c.length := by omega
          rw [List.take_length, midRow_most] at hl
          have HHC := Lib.hid (fHalf_counts HC.out)
          have hfl : (fHalf c).length = c.length := fHalf_length c
          have hl0 : Lies wr T S (fHalf c).length (bRow (fHalf c) 0) (fHalf c).sum := by rw [hfl]; exact hl
          have HL0 := Lib.hid hl0
          have HLL := Lib.hid hl
          have HT := Lib.hid ht
          clear hl ht hl0
          go_wp2_with (go_at_call 176; refine (CL.out _ _ _ HLL.out).mono ?_; rintro e w2 ⟨rfl, hw⟩; obtain rfl : _ = w2 := hw.symm)
          go_loopw [59] (fun i wr => ∃ k : Nat, k ≤ c.length ∧ i = .int .i64 (k : Int) ∧ Lies wr T S (fHalf c).length (bRow (fHalf c) k) (fHalf c).sum ∧ TurnsB T S w wr) (fun i _ => c.length - (intOf i).toNat)
          case atStart => exact ⟨0, Nat.zero_le _, rfl, HL0.out, HT.out⟩
          case round =>
            clear HL0 HT HLL
            obtain ⟨k, hk, rfl, hl, ht⟩ := hrel
            by_cases hlt : k < c.length
            · have CU := Lib.hid (fenLift_up HHC.out hl (by rw [hfl]; exact hlt))
              have HT := Lib.hid ht
              have hlti : (k : Int) < (c.length : Int) := by omega
              have hk4 : k < 4096 := by omega
              clear hl ht
              go_wp2_with (go_at_call 214; refine CU.out.mono ?_; rintro e w2 ⟨⟨v, rfl⟩, hl2, ht2⟩)
              go_roundw
              case rel => exact ⟨k + 1, by omega, by go_num, hl2, HT.out.trans ht2⟩
              case measure => simp [intOf]; omega
            · obtain rfl : k = c.length := by omega
              have hm := bRow_most (fHalf c) (by rw [hfl]; exact h64)
              rw [hfl] at hm
              rw [hm] at hl
              have HL := Lib.hid hl
              have HT := Lib.hid ht
              clear hl ht hm
              go_wp2
              go_end0
              exact ⟨⟨_, rfl⟩, ⟨HHC.out, HL.out⟩, HT.out⟩
end Go.Proofs.YtflcmmeoppdhdaaGreat
namespace Go.Proofs.YtflcmmeoppdhdaaGreat
open Go.RowKit

/- a tree that is none -/
end Go.Proofs.YtflcmmeoppdhdaaGreat
namespace Go.Proofs.YtflcmmeoppdhdaaGreat
open Go.RowKit Go.Shelf
attribute [local go_sem] Oper.semAt_some

end Go.Proofs.YtflcmmeoppdhdaaGreat
namespace Go.Proofs.YtflcmmeoppdhdaaGreat
open Go.RowKit

end Go.Proofs.YtflcmmeoppdhdaaGreat
namespace Go.Proofs.YtflcmmeoppdhdaaGreat
open Go.RowKit

end Go.Proofs.YtflcmmeoppdhdaaGreat
namespace Go.Proofs.YtflcmmeoppdhdaaGreat
open Go.RowKit Go.Sort

section
variable {w x : World} {B T S n m g : Nat} {A : Option Addr} {mv : Value} {c : List Int}
theorem fFind_out (hc : ∀ x ∈ c, 0 ≤ x) {v : Int} (hf : fFind c v = none) : v < 0 ∨ c.sum ≤ v := by
  rcases Int.lt_or_le v 0 with h | h
  · exact .inl h
  · refine .inr (Int.not_lt.1 fun h' => ?_)
    have := (fSeek_find hc h h' (k := c.length) Nat.lt_two_pow_self).1
    rw [hf] at this; cases this
theorem fenFind_val (v : Int) (h : IsTree x T S c) : Calls Tryz.prog 189 #[.pointer (some ⟨T, 0, none⟩), .int .i64 v] x fun e w' => e = .returned (findV (fFind c v)) ∧ w' = x := by
  cases hf : fFind c v with
  | none => exact fenFind_none v h (fFind_out h.1.2.1 hf)
  | some r => exact fenFind_some v r h hf
end
end Go.Proofs.YtflcmmeoppdhdaaGreat
