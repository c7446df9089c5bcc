/- Contracts of layer 12: Below, Get: sums over a way down. · Contracts of layer 12: Get. -/
import Derived.Test.YtgbibmgedmbboaaGreatFenSeq
import Derived.BigRegionIn
namespace Go.Proofs.YtgbibmgedmbboaaGreat
open Go.RowKit Go.Shelf
attribute [local go_sem] Oper.semAt_some

theorem isDown_in {e : Nat} : ∀ {xs : List Nat} {p : Nat}, IsDown e p xs → ∀ x ∈ xs, x ≤ p ∧ e < x := by
  intro xs
  induction xs with
  | nil => intro p _ x hx; cases hx
  | cons y r ih =>
    intro p h x hx
    obtain ⟨rfl, h1, h2⟩ := h
    rcases List.mem_cons.1 hx with rfl | hx
    · exact ⟨Nat.le_refl _, h1⟩
    · have := ih h2 x hx
      exact ⟨by omega, this.2⟩
def sumN (c : List Int) (xs : List Nat) : Int := (xs.map (fNode c)).sum
theorem sumN_snoc (c : List Int) (xs : List Nat) (x : Nat) : sumN c (xs ++ [x]) = sumN c xs + fNode c x := by simp [sumN]
theorem sumN_cons (c : List Int) (xs : List Nat) (x : Nat) : sumN c (x :: xs) = fNode c x + sumN c xs := by simp [sumN]
theorem sumN_app (c : List Int) (xs ys : List Nat) : sumN c (xs ++ ys) = sumN c xs + sumN c ys := by simp [sumN]
theorem sumN_nn {c : List Int} (hc : ∀ x ∈ c, 0 ≤ x) (xs : List Nat) : 0 ≤ sumN c xs := by
  induction xs with
  | nil => simp [sumN]
  | cons x r ih => rw [sumN_cons]; have := fNode_nn hc x; omega
/-- What the way down from p to e has together. -/
theorem sumN_down (c : List Int) {e k : Nat} (hk : 2 ^ k ∣ e) : ∀ (xs : List Nat) (p : Nat), IsDown e p xs → e ≤ p → p < e + 2 ^ k → p < 2 ^ 64 → sumN c xs = fPre c p - fPre c e := by
  intro xs
  induction xs with
  | nil => intro p h h1 _ _; obtain rfl : p = e := Nat.le_antisymm h h1; simp [sumN]
  | cons x r ih =>
    intro p h h1 h2 h3
    obtain ⟨rfl, h4, h5⟩ := h
    have e1 : fLow x = fLow (x - e) := by
      have := fLow_add (q := e) (r := x - e) (k := k) hk (by omega) (by omega) (by omega)
      rw [← this]; congr 1; omega
    have e2 := fLow_le (i := x - e) (by omega) (by omega)
    rw [sumN_cons, ih _ h5 (by omega) (by omega) (by omega)]
    unfold fNode; omega

theorem fenDown_any (p e : Int) (w : World) :
    Calls Tryz.prog 101 #[.int .i64 p, .int .i64 e] w fun r w' => r = .returned (.func (.func 108) #[] #[.pointer (some ⟨w.heap.size, 0, none⟩), .pointer (some ⟨w.heap.size + 1, 0, none⟩)]) ∧
      Below w.heap.size w w' ∧ w'.heap.size = w.heap.size + 2 ∧ Boxed w' w.heap.size 3 (.int .i64 p) ∧ Boxed w' (w.heap.size + 1) 3 (.int .i64 e) := by
  go_enter Tryz.func101, Tryz.ntmps101
  go_wp2
  go_ret
  refine ⟨rfl, ((Below.refl _ _).alloc (Nat.le_refl _) _).alloc (by simp) _, by simp, (Boxed.new _ _ _).alloc _, ?_⟩
  have h := Boxed.new (w.alloc (.cells #[.int .i64 p] 3)) 3 (.int .i64 e)
  rwa [World.size_alloc] at h

/-- What goes through a row reads it: the box of the sum, the box of the tree, and all that lay. -/
def SumI (w : World) (Bs Bt T : Nat) (f : List Nat → Int) (pre : List Nat) (W : World) : Prop :=
  Boxed W Bs 3 (.int .i64 (f pre)) ∧ Boxed W Bt 129 (.pointer (some ⟨T, 0, none⟩)) ∧ Below w.heap.size w W
theorem boxed_grown {W W' : World} {row : Option Nat} {B N : Nat} {t : TypeId} {v : Value} {Bp : Nat} (h : Boxed W B t v) (hg : W.grownBy W' row)
    (hr : ∀ r, row = some r → r = Bp ∨ (N ≤ r ∧ ∃ o : Obj, W.heap[r]? = some o ∧ o.isCells = false)) (hne : B ≠ Bp) : Boxed W' B t v := by
  refine h.kept hg fun e => ?_
  rcases hr B e.symm with e | ⟨_, o, ho, hc⟩
  · exact hne e
  · rw [show W.heap[B]? = _ from h] at ho; cases ho; cases hc
theorem sumI_own {w w0 : World} {Bs Bt T Bp : Nat} {f : List Nat → Int} (hBp : w.heap.size ≤ Bp) (h1 : Bs ≠ Bp) (h2 : Bt ≠ Bp) (h0 : w.heap.size ≤ w0.heap.size) :
    ∀ s A B row, SumI w Bs Bt T f s A → A.grownBy B row → (∀ r, row = some r → r = Bp ∨ (w0.heap.size ≤ r ∧ ∃ o : Obj, A.heap[r]? = some o ∧ o.isCells = false)) → SumI w Bs Bt T f s B := by
  rintro s A B row ⟨x1, x2, x3⟩ hg hr
  exact ⟨boxed_grown x1 hg hr h1, boxed_grown x2 hg hr h2, x3.grown hg x3.size (fun r e => by rcases hr r e with e | e <;> omega)⟩

theorem sum_round {w Wd : World} {Bs Bt T N : Nat} {f : List Nat → Int} {keep : Nat → Prop} {pre : List Nat} {sm v : Int} (hs : Boxed Wd Bs 3 (.int .i64 sm)) (ht : Boxed Wd Bt 129 (.pointer (some ⟨T, 0, none⟩))) (hB : Below w.heap.size w Wd)
    (n1 : Bt ≠ Bs) (n2 : ∀ k, keep k → k ≠ Bs) (hle : w.heap.size ≤ Bs) (e : f pre = v) :
    KeepsFrom N Wd (Wd.setCell ⟨Bs, 0, none⟩ (.int .i64 v)).drew ∧ KeepsB keep Wd (Wd.setCell ⟨Bs, 0, none⟩ (.int .i64 v)).drew ∧ SumI w Bs Bt T f pre (Wd.setCell ⟨Bs, 0, none⟩ (.int .i64 v)).drew := by
  have h1 : KeepsFrom N Wd (Wd.setCell ⟨Bs, 0, none⟩ (.int .i64 v)) := (KeepsOthers.setCell Wd ⟨Bs, 0, none⟩ (.int .i64 v)).from N
  have h3 : Boxed (Wd.setCell ⟨Bs, 0, none⟩ (.int .i64 v)) Bs 3 (.int .i64 v) := hs.set _
  have h4 : Boxed (Wd.setCell ⟨Bs, 0, none⟩ (.int .i64 v)) Bt 129 (.pointer (some ⟨T, 0, none⟩)) := Blk.setOther (cs := [_]) ht _ _ n1
  refine ⟨⟨h1.size, h1.same⟩, ⟨(grownBy_setCell' Wd _ _).size, fun k hk => Below.heap_setCell _ _ _ k (n2 k hk)⟩, ?_, h4, below_drewN (hB.setCell (p := ⟨Bs, 0, none⟩) hle _) 1⟩
  rw [e]; exact h3

set_option maxRecDepth 100000 in
set_option maxHeartbeats 2000000 in
theorem fenBelow_any {w : World} {T S : Nat} {c : List Int} (i : Int) (h : IsTree w T S c) (p : Nat) (hp : (p : Int) = min (max i 0) (c.length : Int)) :
    Calls Tryz.prog 80 #[.pointer (some ⟨T, 0, none⟩), .int .i64 i] w fun e w' => e = .returned (.int .i64 (fPre c p)) ∧ Below w.heap.size w w' := by
  have hlen := h.1.1
  have hnn := h.1.2.1
  have htot := h.1.2.2
  have hpn : p ≤ c.length := by omega
  have HC := Lib.hid h.1
  have HL := Lib.hid h.2
  have CL := Lib.hid (fun (W' : World) (hb : Below w.heap.size w W') => fenLen_any (h.2.grow hb) hlen.2)
  have cd := fenDown_any (min (max i 0) (c.length : Int)) 0
  have CD := Lib.hid cd
  clear cd
  obtain ⟨xs, hx⟩ := isDown_ex 0 p
  have hsum := sumN_down c (e := 0) (k := 13) (Nat.dvd_zero _) xs p hx (Nat.zero_le _) (by omega) (by omega)
  rw [fPre_zero, Int.sub_zero] at hsum
  have HX := Lib.hid hx
  have HS := Lib.hid hsum
  have HN := Lib.hid hnn
  clear h hx hsum hnn
  refine (callsIn_wide (n := 4)).1 ?_
  refine callsIn_of_wp_marks Tryz.func80 rfl trivial ?_ rfl
  simp only [Tryz.ntmps80, List.size_toArray, List.length_cons, List.length_nil, Nat.reduceAdd, Nat.reduceSub, Array.replicate_succ, Array.replicate_zero, List.push_toArray, List.append_toArray, List.nil_append, List.cons_append]
  gi_wp2_with (first
    | (refine ⟨trivial, ?_⟩; gi_at_call 79; refine (callsIn_wide.2 (CL.out _ (((Below.refl _ _).alloc (Nat.le_refl _) _).alloc (by simp) _))).mono ?_; rintro e w' ⟨rfl, rfl⟩)
    | (refine ⟨trivial, ?_⟩; gi_at_call 101; refine (callsIn_wide.2 (CD.out _)).mono ?_; rintro e w3 ⟨rfl, hb3, hs3, hbp, hbe⟩))
  rw [← hp] at hbp
  have hBt := (Boxed.new w 129 (.pointer (some ⟨T, 0, none⟩))).alloc (.cells #[.int .i64 0] 3)
  have hBs := Boxed.new (w.alloc (.cells #[.pointer (some ⟨T, 0, none⟩)] 129)) 3 (.int .i64 0)
  have hB2 : Below w.heap.size w _ := ((Below.refl _ w).alloc (Nat.le_refl _) (.cells #[.pointer (some ⟨T, 0, none⟩)] 129)).alloc (by simp) (.cells #[.int .i64 0] 3)
  simp only [World.size_alloc] at hs3 hbp hbe hBs
  have hBt3 : Boxed w3 w.heap.size 129 (.pointer (some ⟨T, 0, none⟩)) := (hb3.block _ (by simp; omega)).trans hBt
  have hBs3 : Boxed w3 (w.heap.size + 1) 3 (.int .i64 0) := (hb3.block _ (by simp)).trans hBs
  have hB3 := hB2.trans (hb3.mono hB2.size)
  obtain ⟨BT, hBT⟩ : ∃ BT, BT = w.heap.size := ⟨_, rfl⟩
  clear hBt hBs hB2 hb3
  rw [← hBT] at hs3 hbp hbe hBt3 hBs3 ⊢
  have hle : w.heap.size ≤ BT := by omega
  clear hBT
  refine wpIn_range_state (by omega) (gf := 108) (lb := #[.pointer (some ⟨BT + 1 + 1, 0, none⟩), .pointer (some ⟨BT + 1 + 1 + 1, 0, none⟩)]) rfl (enters_of Tryz.func108 (by kernel_rfl) rfl)
    (down1_hands 3 (by omega) (BT + 1 + 1) (BT + 1 + 1 + 1) p 0 (by omega) (by omega) xs HX.out w3 hbp hbe) (fun k hk => by rcases hk with rfl | rfl <;> omega) (by omega) (fun _ => rfl)
    (SumI w (BT + 1) BT T (sumN c)) (sumI_own (by omega) (by omega) (by omega) (by omega)) (fun _ _ k h => ⟨h.1, h.2.1, below_drewN h.2.2 k⟩) ⟨hBs3, hBt3, hB3⟩
    (fun x => { tmps := #[.pointer (some ⟨T, 0, none⟩), .int .i64 i, .pointer (some ⟨BT, 0, none⟩), undef, .int .i64 0, .pointer (some ⟨BT + 1, 0, none⟩), .int .i64 (x : Int), .int .i64 i, .int .i64 (max i 0), .pointer (some ⟨T, 0, none⟩), .int .i64 (c.length : Int), .int .i64 (min (max i 0) (c.length : Int)), .func (.func 108) #[] #[.pointer (some ⟨BT + 1 + 1, 0, none⟩), .pointer (some ⟨BT + 1 + 1 + 1, 0, none⟩)], .int .i64 (x : Int), undef, undef, undef, undef, undef, undef, undef, undef, undef, undef], defers := [] }) ?assign ?body ?done
  case assign =>
    intro l x Wd K hK
    gi_wp2
    exact hK
  case body =>
    rintro l pre x rest Wd hxs ⟨hs, ht, hB⟩ hsz hkp
    have hsc := hs.cell
    have hsf := hs.frozen
    have htc := ht.cell
    have hl := HL.out.grow hB
    have hT0 := hl.tb.cell 0
    have hxin := isDown_in HX.out x (by rw [← hxs]; simp)
    have hS := hl.sb.cell x
    rw [zvs_get, fRow_get c x (by omega)] at hS
    simp only [List.getElem?_cons_zero, Option.map_some] at hT0 hS
    have hsn := sumN_snoc c pre x
    have h0 := sumN_nn HN.out pre
    have h1 := fNode_nn HN.out x
    have h2 := fPre_le HN.out p
    have h3 := sumN_nn HN.out rest
    have h4 : sumN c pre + (fNode c x + sumN c rest) = fPre c p := by rw [← HS.out, ← hxs, sumN_app, sumN_cons]
    obtain ⟨sm, hsm⟩ : ∃ sm, sm = sumN c pre := ⟨_, rfl⟩
    obtain ⟨nd, hnd⟩ : ∃ nd, nd = fNode c x := ⟨_, rfl⟩
    rw [← hsm] at hsc hsn h0 h4
    rw [← hnd] at hS hsn h1 h4
    have hadd : IntKind.i64.wrap (sm + nd) = sm + nd := by rw [IntKind.wrap_i64]; omega
    have hxb : (x : Int) < (c.length : Int) + 1 := by omega
    rw [← hsm] at hs
    have HADD := Lib.hid hadd
    have HSN := Lib.hid hsn
    have HSS := Lib.hid hs
    have HTT := Lib.hid ht
    have HBB := Lib.hid hB
    clear hadd hsn hsm hnd h0 h1 h2 h3 h4 hxin hkp hl hs ht hB hxs htot hlen hpn hsz hB3 hBs3 hBt3 hbe hbp hp
    gi_wp2
    gi_region
    all_goals gi_wp2
    all_goals
      rw [HADD.out]
      exact sum_round HSS.out HTT.out HBB.out (by omega) (fun k hk => by rcases hk with rfl | rfl <;> omega) (by omega) HSN.out
  case done =>
    rintro D Wd hD ⟨hs, ht, hB⟩ hK
    have hsc := hs.cell
    rw [HS.out] at hsc
    gi_wp2
    refine ⟨by simp, .inl ⟨_, _, rfl, run_takeDeferred hK, ?_⟩⟩
    refine ⟨_, results_tmp rfl _ _ _, ?_⟩
    exact ⟨rfl, hB.trans (belowK_b (w := w) (Nat.le_refl _) Wd D _ _ (by rw [hs3] at hD; omega) hK rfl rfl)⟩
end Go.Proofs.YtgbibmgedmbboaaGreat
namespace Go.Proofs.YtgbibmgedmbboaaGreat
open Go.RowKit Go.Shelf
attribute [local go_sem] Oper.semAt_some

/-- What a place ends with, ahead of its own. -/
theorem low_dvd {k : Nat} (h : k + 1 < 2 ^ 64) : ∃ a, fLow (k + 1) = 2 ^ a ∧ 2 ^ a ∣ k + 1 - fLow (k + 1) := by
  obtain ⟨m, hm⟩ := ctz_odd (i := k + 1) (by omega) h
  obtain ⟨a, ha⟩ := fLow_pow (k + 1)
  refine ⟨a, ha, ⟨2 * m, ?_⟩⟩
  rw [ha] at hm ⊢
  rw [Nat.mul_add] at hm
  omega

set_option maxRecDepth 100000 in
set_option maxHeartbeats 2000000 in
theorem fenGet_none {w : World} {T S : Nat} {c : List Int} (i : Int) (h : IsTree w T S c) (hi : ¬ (0 ≤ i ∧ i < c.length)) :
    Calls Tryz.prog 81 #[.pointer (some ⟨T, 0, none⟩), .int .i64 i] w fun e w' => e = .returned (.int .i64 0) ∧ Below w.heap.size w w' := by
  have hlen := h.1.1
  have ch := fun (W' : World) (hb : Below w.heap.size w W') => fenHas_any i (h.2.grow hb) hlen.2
  rw [decide_eq_false hi] at ch
  have CH := Lib.hid ch
  clear h ch
  refine (callsIn_wide (n := 4)).1 ?_
  refine callsIn_of_wp_marks Tryz.func81 rfl trivial ?_ rfl
  simp only [Tryz.ntmps81, List.size_toArray, List.length_cons, List.length_nil, Nat.reduceAdd, Nat.reduceSub, Array.replicate_succ, Array.replicate_zero, List.push_toArray, List.append_toArray, List.nil_append, List.cons_append]
  gi_wp2_with (refine ⟨trivial, ?_⟩; gi_at_call 102; refine (callsIn_wide.2 (CH.out _ ((Below.refl _ _).alloc (Nat.le_refl _) _))).mono ?_; rintro e w' ⟨rfl, rfl⟩)
  refine ⟨_, results_tmp rfl _ _ _, ?_⟩
  exact ⟨rfl, (Below.refl _ _).alloc (Nat.le_refl _) _⟩

set_option maxRecDepth 100000 in
set_option maxHeartbeats 2000000 in
theorem fenGet_at {w : World} {T S : Nat} {c : List Int} (k : Nat) (h : IsTree w T S c) (hk : k < c.length) :
    Calls Tryz.prog 81 #[.pointer (some ⟨T, 0, none⟩), .int .i64 (k : Int)] w fun e w' => e = .returned (.int .i64 (c[k]'hk)) ∧ Below w.heap.size w w' := by
  have hlen := h.1.1
  have hnn := h.1.2.1
  have htot := h.1.2.2
  have hk1 : k + 1 < 2 ^ 64 := by omega
  have HL := Lib.hid h.2
  have ch := fun (W' : World) (hb : Below w.heap.size w W') => fenHas_any (k : Int) (h.2.grow hb) hlen.2
  rw [decide_eq_true (show 0 ≤ (k : Int) ∧ (k : Int) < c.length by omega)] at ch
  have CH := Lib.hid ch
  have cw := fenLowest_any (k + 1) (by omega) (by omega)
  rw [show ((k + 1 : Nat) : Int) = (k : Int) + 1 by omega] at cw
  have CW := Lib.hid cw
  clear cw
  obtain ⟨a, ha, had⟩ := low_dvd hk1
  have hlow := fLow_le (i := k + 1) (by omega) hk1
  have hlow0 := fLow_pos (k + 1)
  obtain ⟨E, hE⟩ : ∃ E, E = k + 1 - fLow (k + 1) := ⟨_, rfl⟩
  rw [← hE] at had
  have hEi : (k : Int) + 1 - (fLow (k + 1) : Int) = (E : Int) := by omega
  have CD := Lib.hid (fenDown_any (k : Int) (E : Int))
  obtain ⟨xs, hx⟩ := isDown_ex E k
  have hsum := sumN_down c had xs k hx (by omega) (by omega) (by omega)
  have hA := h.2.grow ((Below.refl _ w).alloc (Nat.le_refl _) (.cells #[.pointer (some ⟨T, 0, none⟩)] 129))
  have hS := hA.sb.cell (k + 1)
  rw [zvs_get, fRow_get c (k + 1) (by omega)] at hS
  have hnd : fNode c (k + 1) = c[k] + sumN c xs := by rw [hsum]; unfold fNode; rw [← hE, fPre_succ c k hk]; omega
  have hck := hnn _ (List.getElem_mem hk)
  have hndle := fNode_le hnn (k + 1)
  have hT0 := hA.tb.cell 0
  simp only [List.getElem?_cons_zero, Option.map_some] at hT0 hS
  obtain ⟨ck, hckq⟩ : ∃ ck, ck = c[k] := ⟨_, rfl⟩
  rw [← hckq] at hck hnd ⊢
  obtain ⟨nd, hndq⟩ : ∃ nd, nd = fNode c (k + 1) := ⟨_, rfl⟩
  rw [← hndq] at hS hnd hndle
  have HX := Lib.hid hx
  have HN := Lib.hid hnn
  have HND := Lib.hid hnd
  have HCK := Lib.hid hck
  have HNL := Lib.hid hndle
  have HEI := Lib.hid hEi
  have hx1 : (k : Int) + 1 < (c.length : Int) + 1 := by omega
  have hEk : E ≤ k := by omega
  have hkn : k < 4097 := by omega
  have hlow1 : (fLow (k + 1) : Int) ≤ (k : Int) + 1 := by omega
  clear h hA hx hsum hnn ch hE had hnd hndq hckq hck hndle hEi ha
  refine (callsIn_wide (n := 4)).1 ?_
  refine callsIn_of_wp_marks Tryz.func81 rfl trivial ?_ rfl
  simp only [Tryz.ntmps81, List.size_toArray, List.length_cons, List.length_nil, Nat.reduceAdd, Nat.reduceSub, Array.replicate_succ, Array.replicate_zero, List.push_toArray, List.append_toArray, List.nil_append, List.cons_append]
  gi_wp2_with (first
    | (refine ⟨trivial, ?_⟩; gi_at_call 102; refine (callsIn_wide.2 (CH.out _ ((Below.refl _ _).alloc (Nat.le_refl _) _))).mono ?_; rintro e w' ⟨rfl, rfl⟩)
    | (refine ⟨trivial, ?_⟩; gi_at_call 103; refine (callsIn_wide.2 (CW.out _)).mono ?_; rintro e w' ⟨rfl, rfl⟩))
  rw [HEI.out]
  gi_wp2_with (refine ⟨trivial, ?_⟩; gi_at_call 101; refine (callsIn_wide.2 (CD.out _)).mono ?_; rintro e w3 ⟨rfl, hb3, hs3, hbp, hbe⟩)
  have hBt := (Boxed.new w 129 (.pointer (some ⟨T, 0, none⟩))).alloc (.cells #[.int .i64 nd] 3)
  have hBs := Boxed.new (w.alloc (.cells #[.pointer (some ⟨T, 0, none⟩)] 129)) 3 (.int .i64 nd)
  have hB2 : Below w.heap.size w _ := ((Below.refl _ w).alloc (Nat.le_refl _) (.cells #[.pointer (some ⟨T, 0, none⟩)] 129)).alloc (by simp) (.cells #[.int .i64 nd] 3)
  simp only [World.size_alloc] at hs3 hbp hbe hBs
  have hBt3 : Boxed w3 w.heap.size 129 (.pointer (some ⟨T, 0, none⟩)) := (hb3.block _ (by simp; omega)).trans hBt
  have hBs3 : Boxed w3 (w.heap.size + 1) 3 (.int .i64 nd) := (hb3.block _ (by simp)).trans hBs
  have hB3 := hB2.trans (hb3.mono hB2.size)
  obtain ⟨BT, hBT⟩ : ∃ BT, BT = w.heap.size := ⟨_, rfl⟩
  clear hBt hBs hB2 hb3
  rw [← hBT] at hs3 hbp hbe hBt3 hBs3 ⊢
  have hle : w.heap.size ≤ BT := by omega
  clear hBT
  refine wpIn_range_state (by omega) (gf := 108) (lb := #[.pointer (some ⟨BT + 1 + 1, 0, none⟩), .pointer (some ⟨BT + 1 + 1 + 1, 0, none⟩)]) rfl (enters_of Tryz.func108 (by kernel_rfl) rfl)
    (down1_hands 3 (by omega) (BT + 1 + 1) (BT + 1 + 1 + 1) k E (by omega) (by omega) xs HX.out w3 hbp hbe) (fun k hk => by rcases hk with rfl | rfl <;> omega) (by omega) (fun _ => rfl)
    (SumI w (BT + 1) BT T (fun pre => nd - sumN c pre)) (sumI_own (by omega) (by omega) (by omega) (by omega)) (fun _ _ k h => ⟨h.1, h.2.1, below_drewN h.2.2 k⟩) ⟨by simpa [sumN] using hBs3, hBt3, hB3⟩
    (fun x => { tmps := #[.pointer (some ⟨T, 0, none⟩), .int .i64 (k : Int), .pointer (some ⟨BT, 0, none⟩), undef, .int .i64 0, .int .i64 ((k : Int) + 1), .pointer (some ⟨BT + 1, 0, none⟩), .int .i64 (x : Int), .pointer (some ⟨T, 0, none⟩), .int .i64 (k : Int), .bool true, .bool false, .int .i64 (k : Int), .int .i64 ((k : Int) + 1), .pointer (some ⟨T, 0, none⟩), .pointer (some ⟨T, 0, none⟩), .pointer (some ⟨T, 0, none⟩), .slice (some ⟨S, 0, none⟩) (c.length + 1) (c.length + 1), .int .i64 ((k : Int) + 1), .pointer (some ⟨S, k + 1, none⟩), .int .i64 nd, .int .i64 (k : Int), .int .i64 ((k : Int) + 1), .int .i64 ((k : Int) + 1), .int .i64 (fLow (k + 1) : Int), .int .i64 (E : Int), .func (.func 108) #[] #[.pointer (some ⟨BT + 1 + 1, 0, none⟩), .pointer (some ⟨BT + 1 + 1 + 1, 0, none⟩)], .int .i64 (x : Int), undef, undef, undef, undef, undef, undef, undef, undef, undef, undef], defers := [] }) ?assign ?body ?done
  case assign =>
    intro l x Wd K hK
    gi_wp2
    exact hK
  case body =>
    rintro l pre x rest Wd hxs ⟨hs, ht, hB⟩ hsz hkp
    dsimp only at hs
    have hsc := hs.cell
    have hsf := hs.frozen
    have htc := ht.cell
    have hl := HL.out.grow hB
    have hT0 := hl.tb.cell 0
    have hxin := isDown_in HX.out x (by rw [← hxs]; simp)
    have hS := hl.sb.cell x
    rw [zvs_get, fRow_get c x (by omega)] at hS
    simp only [List.getElem?_cons_zero, Option.map_some] at hT0 hS
    have hsn := sumN_snoc c pre x
    have h0 := sumN_nn HN.out pre
    have h1 := fNode_nn HN.out x
    have h3 := sumN_nn HN.out rest
    have h4 : sumN c pre + (fNode c x + sumN c rest) = sumN c xs := by rw [← hxs, sumN_app, sumN_cons]
    have h5 := HND.out
    have h6 := HCK.out
    have h7 := HNL.out
    obtain ⟨sm, hsm⟩ : ∃ sm, sm = nd - sumN c pre := ⟨_, rfl⟩
    obtain ⟨y, hy⟩ : ∃ y, y = fNode c x := ⟨_, rfl⟩
    have hsn' : nd - sumN c (pre ++ [x]) = sm - y := by omega
    have hadd : IntKind.i64.wrap (sm - y) = sm - y := by rw [IntKind.wrap_i64]; omega
    rw [← hsm] at hs hsc
    rw [← hy] at hS
    have hxb : (x : Int) < (c.length : Int) + 1 := by omega
    have HADD := Lib.hid hadd
    have HSN := Lib.hid hsn'
    have HSS := Lib.hid hs
    have HTT := Lib.hid ht
    have HBB := Lib.hid hB
    clear hadd hsn hsn' hsm hy h0 h1 h3 h4 h5 h6 h7 hxin hkp hl hs ht hB hxs htot hlen hsz hB3 hBs3 hBt3 hbe hbp hx1 hEk hkn hlow hlow0 hlow1 hk1 hk
    gi_wp2
    gi_region
    all_goals gi_wp2
    all_goals
      rw [HADD.out]
      exact sum_round HSS.out HTT.out HBB.out (by omega) (fun k hk => by rcases hk with rfl | rfl <;> omega) (by omega) HSN.out
  case done =>
    rintro D Wd hD ⟨hs, ht, hB⟩ hK
    have hsc := hs.cell
    dsimp only at hsc
    rw [show nd - sumN c xs = ck by have := HND.out; omega] at hsc
    gi_wp2
    refine ⟨by simp, .inl ⟨_, _, rfl, run_takeDeferred hK, ?_⟩⟩
    refine ⟨_, results_tmp rfl _ _ _, ?_⟩
    exact ⟨rfl, hB.trans (belowK_b (w := w) (Nat.le_refl _) Wd D _ _ (by rw [hs3] at hD; omega) hK rfl rfl)⟩
end Go.Proofs.YtgbibmgedmbboaaGreat
