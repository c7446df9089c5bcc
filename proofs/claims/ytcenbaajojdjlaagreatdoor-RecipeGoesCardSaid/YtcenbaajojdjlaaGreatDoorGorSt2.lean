/- Contracts of gorilla's told and take, whatever the bits. · gorilla's take of any bits, as one function of the reader's state. -/
import Derived.Test.YtcenbaajojdjlaaGreatDoorGorTake2
namespace Go.Proofs.YtcenbaajojdjlaaGreatDoor
open Go.RowKit

/-- What a number of n bits is, and what is left: of a reader's state. -/
def getV (s : List Bool × Nat) (n : Nat) : Nat := if s.2 = 0 ∧ n ≤ s.1.length then valOf (s.1.take n) else 0
def getS (s : List Bool × Nat) (n : Nat) : List Bool × Nat := if s.2 = 0 then (if n ≤ s.1.length then (s.1.drop n, 0) else (s.1, 11)) else s
theorem getV_lt (s : List Bool × Nat) (n : Nat) : getV s n < 2 ^ n := by
  unfold getV
  split
  · have := valOf_lt (s.1.take n)
    rw [List.length_take, Nat.min_eq_left (by omega)] at this
    exact this
  · exact Nat.two_pow_pos n
theorem rGet_st (g n : Nat) (s : List Bool × Nat) (w : World) (h : RdrIs w g s.1 s.2) (hn : n ≤ 64) :
    Calls Tryz.prog 110 #[.pointer (some ⟨g, 0, none⟩), .int .i64 (n : Int)] w fun e' w' => e' = .returned (.int .u64 (getV s n : Nat)) ∧ RdrIs w' g (getS s n).1 (getS s n).2 ∧ OnlyT g [119] w w' := by
  obtain ⟨L, e⟩ := s
  unfold getV getS
  simp only at h ⊢
  by_cases he : e = 0
  · subst he
    by_cases hl : n ≤ L.length
    · rw [if_pos ⟨rfl, hl⟩, if_pos rfl, if_pos hl]
      exact rGet_ok n h hn hl
    · rw [if_neg (fun q => hl q.2), if_pos rfl, if_neg hl]
      exact rGet_trunc n h hn (Nat.lt_of_not_le hl)
  · rw [if_neg (fun q => he q.1), if_neg he]
    refine (rGet_err (n : Int) e h he).mono ?_
    rintro e' w' ⟨rfl, rfl⟩
    exact ⟨rfl, h, OnlyT.refl _ _ _⟩
/-- The window that the next bits tell. -/
def toldT (W : Nat) (s : List Bool × Nat) : Nat × Nat × Nat :=
  if getV s 6 + (getV (getS s 6) 6 + 1) ≤ 8 * W then (getV s 6, getV (getS s 6) 6 + 1, 8 * W - getV s 6 - (getV (getS s 6) 6 + 1)) else (0, 0, 0)
def toldS (s : List Bool × Nat) : List Bool × Nat := getS (getS s 6) 6
def tri (t : Nat × Nat × Nat) : Value := triV t.1 t.2.1 t.2.2

set_option maxHeartbeats 2000000 in
set_option maxRecDepth 100000 in
theorem told_pos {W : Nat} (hW8 : W ≤ 8) (g : Nat) (s : List Bool × Nat) (w : World) (hc : getV s 6 + (getV (getS s 6) 6 + 1) ≤ 8 * W) (h : RdrIs w g s.1 s.2) :
    Calls Tryz.prog 122 #[.pointer (some ⟨g, 0, none⟩), .int .i64 (W : Int)] w fun e w' => e = .returned (tri (toldT W s)) ∧ RdrIs w' g (toldS s).1 (toldS s).2 ∧ OnlyT g [119] w w' := by
  unfold toldT toldS tri
  obtain ⟨a, ha0⟩ : ∃ a, a = getV s 6 := ⟨_, rfl⟩
  obtain ⟨m, hm0⟩ : ∃ m, m = getV (getS s 6) 6 := ⟨_, rfl⟩
  have ha64 := getV_lt s 6
  have hm64 := getV_lt (getS s 6) 6
  rw [← ha0] at hc ha64 ⊢
  rw [← hm0] at hc hm64 ⊢
  rw [if_pos hc]
  unfold triV
  have hb1 : Below w.heap.size w (w.alloc (.cells #[.int .i64 0, .int .i64 0, .int .i64 0] 96)) := (Below.refl _ _).alloc (Nat.le_refl _) _
  have hk1 : Blk (w.alloc (.cells #[.int .i64 0, .int .i64 0, .int .i64 0] 96)) w.heap.size 96 [.int .i64 0, .int .i64 0, .int .i64 0] := heap_alloc_new w _
  have c1 := rGet_st g 6 s _ (h.only (OnlyT.of_below (B := 0) (ts := []) hb1) (by decide) (by decide)) (by decide)
  rw [← ha0] at c1
  have C1 := Lib.hid c1
  have HA := Lib.hid hm0
  have HO1 := Lib.hid (OnlyT.of_below (B := g) (ts := [119]) hb1)
  have HK1 := Lib.hid hk1
  have ha : (a : Int) < 64 := by omega
  have hm : (m : Int) < 64 := by omega
  have hWi : (W : Int) ≤ 8 := by omega
  have hg := h.lt
  have hnn : ¬ (8 * (W : Int) - (a : Int) - ((m : Int) + 1) < 0) := by omega
  have hbe : 8 * (W : Int) - (a : Int) - ((m : Int) + 1) = ((8 * W - a - (m + 1) : Nat) : Int) := by omega
  have hm1 : ((m + 1 : Nat) : Int) = (m : Int) + 1 := by omega
  have HBE := Lib.hid hbe
  have HM1 := Lib.hid hm1
  clear hbe hm1
  clear h hb1 hk1 hc ha0 hm0 c1 ha64 hm64
  go_enter Tryz.func122, Tryz.ntmps122
  go_wp2_with fail
  refine C1.out.mono ?_
  rintro e w2 ⟨rfl, hr2, ho2⟩
  have c2 := rGet_st g 6 _ _ hr2 (by decide)
  rw [← HA.out] at c2
  have C2 := Lib.hid c2
  have HO2 := Lib.hid (HO1.out.trans ho2)
  have HK2 := Lib.hid (HK1.out.only ho2 (by decide))
  clear hr2 ho2 C1 HO1 HK1 c2
  go_wp2_with fail
  refine C2.out.mono ?_
  rintro e w3 ⟨rfl, hr3, ho3⟩
  have HR3 := Lib.hid hr3
  have HO3 := Lib.hid (HO2.out.trans ho3)
  have HK3 := Lib.hid (HK2.out.only ho3 (by decide))
  have hk3 := HK3.out
  have d0 := hk3.cell 0
  have d1 := hk3.cell 1
  have d2 := hk3.cell 2
  simp only [List.getElem?_cons_zero, List.getElem?_cons_succ] at d0 d1 d2
  have f0 := hk3.frozen 0
  have f1 := hk3.frozen 1
  have f2 := hk3.frozen 2
  clear hr3 ho3 C2 HO2 HK2 hk3
  go_wp2_with fail
  rw [HBE.out, ← HM1.out]
  exact bodyPost_ret (win_end Tryz.results122 rfl (set3 HK3.out (.int .i64 (a : Int)) (.int .i64 ((m + 1 : Nat) : Int)) (.int .i64 ((8 * W - a - (m + 1) : Nat) : Int)))) rfl
    ⟨rfl, HR3.out.only (set3_only HK3.out (B := 0) (Nat.zero_le _) _ _ _) (by decide) (by decide), HO3.out.late (set3_below (Nat.le_refl _) _ _ _)⟩
set_option maxHeartbeats 2000000 in
set_option maxRecDepth 100000 in
theorem told_none {W : Nat} (hW8 : W ≤ 8) (g : Nat) (s : List Bool × Nat) (w : World) (hc : ¬ getV s 6 + (getV (getS s 6) 6 + 1) ≤ 8 * W) (h : RdrIs w g s.1 s.2) :
    Calls Tryz.prog 122 #[.pointer (some ⟨g, 0, none⟩), .int .i64 (W : Int)] w fun e w' => e = .returned (tri (toldT W s)) ∧ RdrIs w' g (toldS s).1 (toldS s).2 ∧ OnlyT g [119] w w' := by
  unfold toldT toldS tri
  obtain ⟨a, ha0⟩ : ∃ a, a = getV s 6 := ⟨_, rfl⟩
  obtain ⟨m, hm0⟩ : ∃ m, m = getV (getS s 6) 6 := ⟨_, rfl⟩
  have ha64 := getV_lt s 6
  have hm64 := getV_lt (getS s 6) 6
  rw [← ha0] at hc ha64 ⊢
  rw [← hm0] at hc hm64 ⊢
  rw [if_neg hc]
  unfold triV
  have hb1 : Below w.heap.size w (w.alloc (.cells #[.int .i64 0, .int .i64 0, .int .i64 0] 96)) := (Below.refl _ _).alloc (Nat.le_refl _) _
  have hk1 : Blk (w.alloc (.cells #[.int .i64 0, .int .i64 0, .int .i64 0] 96)) w.heap.size 96 [.int .i64 0, .int .i64 0, .int .i64 0] := heap_alloc_new w _
  have c1 := rGet_st g 6 s _ (h.only (OnlyT.of_below (B := 0) (ts := []) hb1) (by decide) (by decide)) (by decide)
  rw [← ha0] at c1
  have C1 := Lib.hid c1
  have HA := Lib.hid hm0
  have HO1 := Lib.hid (OnlyT.of_below (B := g) (ts := [119]) hb1)
  have HK1 := Lib.hid hk1
  have ha : (a : Int) < 64 := by omega
  have hm : (m : Int) < 64 := by omega
  have hWi : (W : Int) ≤ 8 := by omega
  have hg := h.lt
  have hnn : 8 * (W : Int) - (a : Int) - ((m : Int) + 1) < 0 := by omega
  clear h hb1 hk1 hc ha0 hm0 c1 ha64 hm64
  go_enter Tryz.func122, Tryz.ntmps122
  go_wp2_with fail
  refine C1.out.mono ?_
  rintro e w2 ⟨rfl, hr2, ho2⟩
  have c2 := rGet_st g 6 _ _ hr2 (by decide)
  rw [← HA.out] at c2
  have C2 := Lib.hid c2
  have HO2 := Lib.hid (HO1.out.trans ho2)
  have HK2 := Lib.hid (HK1.out.only ho2 (by decide))
  clear hr2 ho2 C1 HO1 HK1 c2
  go_wp2_with fail
  refine C2.out.mono ?_
  rintro e w3 ⟨rfl, hr3, ho3⟩
  have HR3 := Lib.hid hr3
  have HO3 := Lib.hid (HO2.out.trans ho3)
  have HK3 := Lib.hid (HK2.out.only ho3 (by decide))
  have hk3 := HK3.out
  have d0 := hk3.cell 0
  have d1 := hk3.cell 1
  have d2 := hk3.cell 2
  simp only [List.getElem?_cons_zero, List.getElem?_cons_succ] at d0 d1 d2
  have f0 := hk3.frozen 0
  have f1 := hk3.frozen 1
  have f2 := hk3.frozen 2
  clear hr3 ho3 C2 HO2 HK2 hk3
  go_wp2_with fail
  exact bodyPost_ret (win_end Tryz.results122 rfl (set3 HK3.out (.int .i64 0) (.int .i64 0) (.int .i64 0))) rfl
    ⟨rfl, HR3.out.only (set3_only HK3.out (B := 0) (Nat.zero_le _) _ _ _) (by decide) (by decide), HO3.out.late (set3_below (Nat.le_refl _) _ _ _)⟩
theorem told_st {W : Nat} (hW8 : W ≤ 8) (g : Nat) (s : List Bool × Nat) (w : World) (h : RdrIs w g s.1 s.2) :
    Calls Tryz.prog 122 #[.pointer (some ⟨g, 0, none⟩), .int .i64 (W : Int)] w fun e w' => e = .returned (tri (toldT W s)) ∧ RdrIs w' g (toldS s).1 (toldS s).2 ∧ OnlyT g [119] w w' := by
  by_cases hc : getV s 6 + (getV (getS s 6) 6 + 1) ≤ 8 * W
  · exact told_pos hW8 g s w hc h
  · exact told_none hW8 g s w hc h
set_option maxHeartbeats 4000000 in
set_option maxRecDepth 100000 in
theorem tkS_al {W : Nat} (a0 m0 b0 : Nat) (g : Nat) (s s1 : List Bool × Nat) (w : World) (h : RdrIs w g s.1 s.2) (h1 : getS s 1 = s1) (hv1 : getV s 1 = 0) :
    Calls Tryz.prog 111 #[.agg #[.int .i64 (a0 : Int), .int .i64 (m0 : Int), .int .i64 (b0 : Int)], .pointer (some ⟨g, 0, none⟩), .int .i64 (W : Int)] w fun e w' => e = .returned (.tuple #[.int .u64 0, .agg #[.int .i64 (a0 : Int), .int .i64 (m0 : Int), .int .i64 (b0 : Int)], .bool (decide (s1.2 = 0))]) ∧ RdrIs w' g s1.1 s1.2 ∧ OnlyT g [119] w w' := by
  have C1 := Lib.hid fun (w0 : World) (hh : RdrIs w0 g s.1 s.2) => (show Calls Tryz.prog 110 #[.pointer (some ⟨g, 0, none⟩), .int .i64 1] w0 fun e' w' => e' = .returned (.int .u64 0) ∧ RdrIs w' g s1.1 s1.2 ∧ OnlyT g [119] w0 w' from by
    have := rGet_st g 1 s w0 hh (by decide)
    rw [h1, hv1] at this
    exact this)
  have hg := h.lt
  have hb1 : Below w.heap.size w ((w.alloc (.cells #[.int .i64 (a0 : Int), .int .i64 (m0 : Int), .int .i64 (b0 : Int)] 96)).alloc (.cells #[.int .i64 0, .int .i64 0, .int .i64 0] 96)) := ((Below.refl _ _).alloc (Nat.le_refl _) _).alloc (by simp) _
  have hk1 : Blk ((w.alloc (.cells #[.int .i64 (a0 : Int), .int .i64 (m0 : Int), .int .i64 (b0 : Int)] 96)).alloc (.cells #[.int .i64 0, .int .i64 0, .int .i64 0] 96)) w.heap.size 96 [.int .i64 (a0 : Int), .int .i64 (m0 : Int), .int .i64 (b0 : Int)] := Blk.alloc_ (heap_alloc_new w _) _
  have hk2 : Blk ((w.alloc (.cells #[.int .i64 (a0 : Int), .int .i64 (m0 : Int), .int .i64 (b0 : Int)] 96)).alloc (.cells #[.int .i64 0, .int .i64 0, .int .i64 0] 96)) (w.heap.size + 1) 96 [.int .i64 0, .int .i64 0, .int .i64 0] := by
    have := heap_alloc_new (w.alloc (.cells #[.int .i64 (a0 : Int), .int .i64 (m0 : Int), .int .i64 (b0 : Int)] 96)) (.cells #[.int .i64 0, .int .i64 0, .int .i64 0] 96)
    simpa [Blk] using this
  have HR := Lib.hid (h.only (OnlyT.of_below (B := 0) (ts := []) hb1) (by decide) (by decide))
  have HO := Lib.hid (OnlyT.of_below (B := g) (ts := [119]) hb1)
  have L1 := Lib.hid hk1
  have L2 := Lib.hid hk2
  clear h hb1 hk1 hk2 h1 hv1
  go_enter Tryz.func111, Tryz.ntmps111
  go_wp2_with fail
  refine (C1.out _ HR.out).mono ?_
  rintro e w2 ⟨rfl, hrn, hon⟩
  have HRn := Lib.hid hrn
  have HOn := Lib.hid (HO.out.trans hon)
  have L1n := Lib.hid (L1.out.only hon (by decide))
  have L2n := Lib.hid (L2.out.only hon (by decide))
  clear hrn hon HR HO L1 L2
  have HR := HRn
  have HO := HOn
  have L1 := L1n
  have L2 := L2n
  clear HRn HOn L1n L2n
  have hk1 := L1.out
  have hk2 := L2.out
  have c0 := hk1.cell 0
  have c1 := hk1.cell 1
  have c2 := hk1.cell 2
  simp only [List.getElem?_cons_zero, List.getElem?_cons_succ] at c0 c1 c2
  have d0 := hk2.cell 0
  have d1 := hk2.cell 1
  have d2 := hk2.cell 2
  simp only [List.getElem?_cons_zero, List.getElem?_cons_succ] at d0 d1 d2
  have df0 := hk2.frozen 0
  have df1 := hk2.frozen 1
  have df2 := hk2.frozen 2
  clear hk1 hk2
  have hso := set3_only L2.out (B := 0) (Nat.zero_le _) (.int .i64 (a0 : Int)) (.int .i64 (m0 : Int)) (.int .i64 (b0 : Int))
  have HK := Lib.hid (set3 L2.out (.int .i64 (a0 : Int)) (.int .i64 (m0 : Int)) (.int .i64 (b0 : Int))).drew_
  have HF := Lib.hid ((HR.out.only hso (by decide) (by decide)).only (OnlyT.refl 0 [] _).drew (by simp) (by simp))
  have HOF := Lib.hid (HO.out.late (set3_below (B := w.heap.size) (g := w.heap.size + 1) (by omega) (.int .i64 (a0 : Int)) (.int .i64 (m0 : Int)) (.int .i64 (b0 : Int)))).drew
  clear hso
  have HRD : Hid (RdrIs w2.drew g s1.1 s1.2) := HR.out.only (OnlyT.refl 0 [] w2).drew (by simp) (by simp)
  obtain ⟨E, hE⟩ : ∃ E, E = s1.2 := ⟨_, rfl⟩
  have HE := Lib.hid hE
  have ce := rErr_is s1.2 HRD.out
  rw [← hE] at ce
  have CE := Lib.hid ce
  clear hE ce
  obtain ⟨ok, hok⟩ : ∃ ok, ok = decide (E = 0) := ⟨_, rfl⟩
  have hok1 : ((E : Int) == 0) = ok := by rw [hok]; cases E <;> rfl
  have hok2 : decide ((E : Int) = 0) = ok := by rw [hok]; cases E <;> rfl
  have HOK := Lib.hid hok
  clear hok
  go_wp2_with fail
  go_region_with (go_at_call 118; refine CE.out.mono ?_; rintro e w7 ⟨rfl, rfl⟩)
  all_goals
    go_wp2
    exact bodyPost_ret (take_end (x := .int .u64 0) (y := .bool ok) Tryz.results111 rfl HK.out rfl rfl) rfl ⟨by rw [HOK.out, HE.out], HF.out, HOF.out⟩
set_option maxHeartbeats 4000000 in
set_option maxRecDepth 100000 in
theorem tkS_no {W : Nat} (g : Nat) (s s1 s2 : List Bool × Nat) (w : World) (h : RdrIs w g s.1 s.2) (h1 : getS s 1 = s1) (hv1 : getV s 1 = 1) (h2 : getS s1 1 = s2) (hv2 : getV s1 1 = 0) :
    Calls Tryz.prog 111 #[.agg #[.int .i64 0, .int .i64 0, .int .i64 0], .pointer (some ⟨g, 0, none⟩), .int .i64 (W : Int)] w fun e w' => e = .returned (.tuple #[.int .u64 0, .agg #[.int .i64 0, .int .i64 0, .int .i64 0], .bool false]) ∧ RdrIs w' g s2.1 s2.2 ∧ OnlyT g [119] w w' := by
  have C1 := Lib.hid fun (w0 : World) (hh : RdrIs w0 g s.1 s.2) => (show Calls Tryz.prog 110 #[.pointer (some ⟨g, 0, none⟩), .int .i64 1] w0 fun e' w' => e' = .returned (.int .u64 1) ∧ RdrIs w' g s1.1 s1.2 ∧ OnlyT g [119] w0 w' from by
    have := rGet_st g 1 s w0 hh (by decide)
    rw [h1, hv1] at this
    exact this)
  have C2 := Lib.hid fun (w0 : World) (hh : RdrIs w0 g s1.1 s1.2) => (show Calls Tryz.prog 110 #[.pointer (some ⟨g, 0, none⟩), .int .i64 1] w0 fun e' w' => e' = .returned (.int .u64 0) ∧ RdrIs w' g s2.1 s2.2 ∧ OnlyT g [119] w0 w' from by
    have := rGet_st g 1 s1 w0 hh (by decide)
    rw [h2, hv2] at this
    exact this)
  have hg := h.lt
  have hb1 : Below w.heap.size w ((w.alloc (.cells #[.int .i64 0, .int .i64 0, .int .i64 0] 96)).alloc (.cells #[.int .i64 0, .int .i64 0, .int .i64 0] 96)) := ((Below.refl _ _).alloc (Nat.le_refl _) _).alloc (by simp) _
  have hk1 : Blk ((w.alloc (.cells #[.int .i64 0, .int .i64 0, .int .i64 0] 96)).alloc (.cells #[.int .i64 0, .int .i64 0, .int .i64 0] 96)) w.heap.size 96 [.int .i64 0, .int .i64 0, .int .i64 0] := Blk.alloc_ (heap_alloc_new w _) _
  have hk2 : Blk ((w.alloc (.cells #[.int .i64 0, .int .i64 0, .int .i64 0] 96)).alloc (.cells #[.int .i64 0, .int .i64 0, .int .i64 0] 96)) (w.heap.size + 1) 96 [.int .i64 0, .int .i64 0, .int .i64 0] := by
    have := heap_alloc_new (w.alloc (.cells #[.int .i64 0, .int .i64 0, .int .i64 0] 96)) (.cells #[.int .i64 0, .int .i64 0, .int .i64 0] 96)
    simpa [Blk] using this
  have HR := Lib.hid (h.only (OnlyT.of_below (B := 0) (ts := []) hb1) (by decide) (by decide))
  have HO := Lib.hid (OnlyT.of_below (B := g) (ts := [119]) hb1)
  have L1 := Lib.hid hk1
  have L2 := Lib.hid hk2
  clear h hb1 hk1 hk2 h1 hv1 h2 hv2
  go_enter Tryz.func111, Tryz.ntmps111
  go_wp2_with fail
  refine (C1.out _ HR.out).mono ?_
  rintro e w2 ⟨rfl, hrn, hon⟩
  have HRn := Lib.hid hrn
  have HOn := Lib.hid (HO.out.trans hon)
  have L1n := Lib.hid (L1.out.only hon (by decide))
  have L2n := Lib.hid (L2.out.only hon (by decide))
  clear hrn hon HR HO L1 L2
  have HR := HRn
  have HO := HOn
  have L1 := L1n
  have L2 := L2n
  clear HRn HOn L1n L2n
  go_wp2_with fail
  refine (C2.out _ HR.out).mono ?_
  rintro e w3 ⟨rfl, hrn, hon⟩
  have HRn := Lib.hid hrn
  have HOn := Lib.hid (HO.out.trans hon)
  have L1n := Lib.hid (L1.out.only hon (by decide))
  have L2n := Lib.hid (L2.out.only hon (by decide))
  clear hrn hon HR HO L1 L2
  have HR := HRn
  have HO := HOn
  have L1 := L1n
  have L2 := L2n
  clear HRn HOn L1n L2n
  have hk1 := L1.out
  have hk2 := L2.out
  have c0 := hk1.cell 0
  have c1 := hk1.cell 1
  have c2 := hk1.cell 2
  simp only [List.getElem?_cons_zero, List.getElem?_cons_succ] at c0 c1 c2
  have d0 := hk2.cell 0
  have d1 := hk2.cell 1
  have d2 := hk2.cell 2
  simp only [List.getElem?_cons_zero, List.getElem?_cons_succ] at d0 d1 d2
  have df0 := hk2.frozen 0
  have df1 := hk2.frozen 1
  have df2 := hk2.frozen 2
  clear hk1 hk2
  have hso := set3_only L2.out (B := 0) (Nat.zero_le _) (.int .i64 0) (.int .i64 0) (.int .i64 0)
  have HK := Lib.hid (set3 L2.out (.int .i64 0) (.int .i64 0) (.int .i64 0)).drew_
  have HF := Lib.hid ((HR.out.only hso (by decide) (by decide)).only (OnlyT.refl 0 [] _).drew (by simp) (by simp))
  have HOF := Lib.hid (HO.out.late (set3_below (B := w.heap.size) (g := w.heap.size + 1) (by omega) (.int .i64 0) (.int .i64 0) (.int .i64 0))).drew
  clear hso HR HO L1 L2
  go_wp2_with fail
  go_region_with fail
  all_goals
    go_wp2
    exact bodyPost_ret (take_end (x := .int .u64 0) (y := .bool false) Tryz.results111 rfl HK.out rfl rfl) rfl ⟨rfl, HF.out, HOF.out⟩
set_option maxHeartbeats 4000000 in
set_option maxRecDepth 100000 in
theorem tkS_in {W : Nat} (a0 m0 b0 : Nat) (g : Nat) (v : Nat) (s s1 s2 s3 : List Bool × Nat) (w : World) (h : RdrIs w g s.1 s.2) (h1 : getS s 1 = s1) (hv1 : getV s 1 = 1) (h2 : getS s1 1 = s2) (hv2 : getV s1 1 = 0) (hm0 : 0 < m0) (hmb : m0 + b0 ≤ 64) (h3 : getS s2 m0 = s3) (hv3 : getV s2 m0 = v) :
    Calls Tryz.prog 111 #[.agg #[.int .i64 (a0 : Int), .int .i64 (m0 : Int), .int .i64 (b0 : Int)], .pointer (some ⟨g, 0, none⟩), .int .i64 (W : Int)] w fun e w' => e = .returned (.tuple #[.int .u64 ((v * 2 ^ b0 : Nat) : Int), .agg #[.int .i64 (a0 : Int), .int .i64 (m0 : Int), .int .i64 (b0 : Int)], .bool (decide (s3.2 = 0))]) ∧ RdrIs w' g s3.1 s3.2 ∧ OnlyT g [119] w w' := by
  have C1 := Lib.hid fun (w0 : World) (hh : RdrIs w0 g s.1 s.2) => (show Calls Tryz.prog 110 #[.pointer (some ⟨g, 0, none⟩), .int .i64 1] w0 fun e' w' => e' = .returned (.int .u64 1) ∧ RdrIs w' g s1.1 s1.2 ∧ OnlyT g [119] w0 w' from by
    have := rGet_st g 1 s w0 hh (by decide)
    rw [h1, hv1] at this
    exact this)
  have C2 := Lib.hid fun (w0 : World) (hh : RdrIs w0 g s1.1 s1.2) => (show Calls Tryz.prog 110 #[.pointer (some ⟨g, 0, none⟩), .int .i64 1] w0 fun e' w' => e' = .returned (.int .u64 0) ∧ RdrIs w' g s2.1 s2.2 ∧ OnlyT g [119] w0 w' from by
    have := rGet_st g 1 s1 w0 hh (by decide)
    rw [h2, hv2] at this
    exact this)
  have hvlt : v < 2 ^ m0 := by rw [← hv3]; exact getV_lt _ _
  obtain ⟨x, hx⟩ : ∃ x, x = v * 2 ^ b0 := ⟨_, rfl⟩
  have hsh : IntKind.u64.wrap ((v : Int) * 2 ^ b0) = (x : Int) := by
    have e : (v : Int) * 2 ^ b0 = ((v * 2 ^ b0 : Nat) : Int) := by rw [Int.natCast_mul, Int.natCast_pow]; rfl
    have e2 : v * 2 ^ b0 < 2 ^ m0 * 2 ^ b0 := Nat.mul_lt_mul_of_pos_right hvlt (Nat.two_pow_pos _)
    have e3 : 2 ^ m0 * 2 ^ b0 ≤ 2 ^ 64 := by rw [← Nat.pow_add]; exact Nat.pow_le_pow_right (by decide) hmb
    rw [e, ← hx, IntKind.wrap_u64]
    omega
  rw [← hx]
  have hm64 : m0 ≤ 64 := by omega
  have hb64 : b0 < 64 := by omega
  have CV := Lib.hid fun (w0 : World) (hh : RdrIs w0 g s2.1 s2.2) => (show Calls Tryz.prog 110 #[.pointer (some ⟨g, 0, none⟩), .int .i64 (m0 : Int)] w0 fun e' w' => e' = .returned (.int .u64 (v : Int)) ∧ RdrIs w' g s3.1 s3.2 ∧ OnlyT g [119] w0 w' from by
    have := rGet_st g m0 s2 w0 hh hm64
    rw [hv3, h3] at this
    exact this)
  have HSH := Lib.hid hsh
  clear hsh hx hvlt hmb
  have hg := h.lt
  have hb1 : Below w.heap.size w ((w.alloc (.cells #[.int .i64 (a0 : Int), .int .i64 (m0 : Int), .int .i64 (b0 : Int)] 96)).alloc (.cells #[.int .i64 0, .int .i64 0, .int .i64 0] 96)) := ((Below.refl _ _).alloc (Nat.le_refl _) _).alloc (by simp) _
  have hk1 : Blk ((w.alloc (.cells #[.int .i64 (a0 : Int), .int .i64 (m0 : Int), .int .i64 (b0 : Int)] 96)).alloc (.cells #[.int .i64 0, .int .i64 0, .int .i64 0] 96)) w.heap.size 96 [.int .i64 (a0 : Int), .int .i64 (m0 : Int), .int .i64 (b0 : Int)] := Blk.alloc_ (heap_alloc_new w _) _
  have hk2 : Blk ((w.alloc (.cells #[.int .i64 (a0 : Int), .int .i64 (m0 : Int), .int .i64 (b0 : Int)] 96)).alloc (.cells #[.int .i64 0, .int .i64 0, .int .i64 0] 96)) (w.heap.size + 1) 96 [.int .i64 0, .int .i64 0, .int .i64 0] := by
    have := heap_alloc_new (w.alloc (.cells #[.int .i64 (a0 : Int), .int .i64 (m0 : Int), .int .i64 (b0 : Int)] 96)) (.cells #[.int .i64 0, .int .i64 0, .int .i64 0] 96)
    simpa [Blk] using this
  have HR := Lib.hid (h.only (OnlyT.of_below (B := 0) (ts := []) hb1) (by decide) (by decide))
  have HO := Lib.hid (OnlyT.of_below (B := g) (ts := [119]) hb1)
  have L1 := Lib.hid hk1
  have L2 := Lib.hid hk2
  clear h hb1 hk1 hk2 h1 hv1 h2 hv2 h3 hv3
  go_enter Tryz.func111, Tryz.ntmps111
  go_wp2_with fail
  refine (C1.out _ HR.out).mono ?_
  rintro e w2 ⟨rfl, hrn, hon⟩
  have HRn := Lib.hid hrn
  have HOn := Lib.hid (HO.out.trans hon)
  have L1n := Lib.hid (L1.out.only hon (by decide))
  have L2n := Lib.hid (L2.out.only hon (by decide))
  clear hrn hon HR HO L1 L2
  have HR := HRn
  have HO := HOn
  have L1 := L1n
  have L2 := L2n
  clear HRn HOn L1n L2n
  go_wp2_with fail
  refine (C2.out _ HR.out).mono ?_
  rintro e w3 ⟨rfl, hrn, hon⟩
  have HRn := Lib.hid hrn
  have HOn := Lib.hid (HO.out.trans hon)
  have L1n := Lib.hid (L1.out.only hon (by decide))
  have L2n := Lib.hid (L2.out.only hon (by decide))
  clear hrn hon HR HO L1 L2
  have HR := HRn
  have HO := HOn
  have L1 := L1n
  have L2 := L2n
  clear HRn HOn L1n L2n
  have hk1 := L1.out
  have c0 := hk1.cell 0
  have c1 := hk1.cell 1
  have c2 := hk1.cell 2
  simp only [List.getElem?_cons_zero, List.getElem?_cons_succ] at c0 c1 c2
  clear hk1
  go_wp2_with fail
  have S1 := Lib.hid c1
  have S2 := Lib.hid c2
  clear c0 c1 c2
  have HRA : Hid (RdrIs w3.drew g s2.1 s2.2) := HR.out.only (OnlyT.refl 0 [] w3).drew (by simp) (by simp)
  have C := Lib.hid (CV.out _ HRA.out)
  clear HRA HR
  go_region_held3 (fun w' => w'.cell? ⟨w.heap.size, 1, none⟩ = some (.int .i64 (m0 : Int)) ∧ w'.cell? ⟨w.heap.size, 2, none⟩ = some (.int .i64 (b0 : Int))) (first | exact ⟨S1.out, S2.out⟩ | exact ⟨T1.out, T2.out⟩)
    (first
      | (go_at_call 110; refine C.out.mono ?_; rintro e w6 ⟨rfl, hr6, ho6⟩; have HR := Lib.hid hr6; have HOx := Lib.hid (HO.out.drew.trans ho6); have M1 := Lib.hid (L1.out.drew_.only ho6 (by decide)); have M2 := Lib.hid (L2.out.drew_.only ho6 (by decide)); have t1 := M1.out.cell 1; have t2 := M1.out.cell 2; simp only [List.getElem?_cons_zero, List.getElem?_cons_succ] at t1 t2; have T1 := Lib.hid t1; have T2 := Lib.hid t2; clear hr6 ho6 t1 t2))
  simp only [HSH.out]
  rename_i hHeld
  clear hHeld S1 S2 T1 T2 C L1 L2 HO
  have hk1 := M1.out
  have hk2 := M2.out
  have c0 := hk1.cell 0
  have c1 := hk1.cell 1
  have c2 := hk1.cell 2
  simp only [List.getElem?_cons_zero, List.getElem?_cons_succ] at c0 c1 c2
  have d0 := hk2.cell 0
  have d1 := hk2.cell 1
  have d2 := hk2.cell 2
  simp only [List.getElem?_cons_zero, List.getElem?_cons_succ] at d0 d1 d2
  have df0 := hk2.frozen 0
  have df1 := hk2.frozen 1
  have df2 := hk2.frozen 2
  clear hk1 hk2
  have hso := set3_only M2.out (B := 0) (Nat.zero_le _) (.int .i64 (a0 : Int)) (.int .i64 (m0 : Int)) (.int .i64 (b0 : Int))
  have HK := Lib.hid (set3 M2.out (.int .i64 (a0 : Int)) (.int .i64 (m0 : Int)) (.int .i64 (b0 : Int))).drew_
  have HF := Lib.hid ((HR.out.only hso (by decide) (by decide)).only (OnlyT.refl 0 [] _).drew (by simp) (by simp))
  have HOF := Lib.hid (HOx.out.late (set3_below (B := w.heap.size) (g := w.heap.size + 1) (by omega) (.int .i64 (a0 : Int)) (.int .i64 (m0 : Int)) (.int .i64 (b0 : Int)))).drew
  clear hso
  have HRD : Hid (RdrIs w6.drew g s3.1 s3.2) := HR.out.only (OnlyT.refl 0 [] w6).drew (by simp) (by simp)
  obtain ⟨E, hE⟩ : ∃ E, E = s3.2 := ⟨_, rfl⟩
  have HE := Lib.hid hE
  have ce := rErr_is s3.2 HRD.out
  rw [← hE] at ce
  have CE := Lib.hid ce
  clear hE ce
  obtain ⟨ok, hok⟩ : ∃ ok, ok = decide (E = 0) := ⟨_, rfl⟩
  have hok1 : ((E : Int) == 0) = ok := by rw [hok]; cases E <;> rfl
  have hok2 : decide ((E : Int) = 0) = ok := by rw [hok]; cases E <;> rfl
  have HOK := Lib.hid hok
  clear hok
  go_wp2_with fail
  go_region_with (go_at_call 118; refine CE.out.mono ?_; rintro e w7 ⟨rfl, rfl⟩)
  all_goals
    go_wp2
    exact bodyPost_ret (take_end (x := .int .u64 (x : Int)) (y := .bool ok) Tryz.results111 rfl HK.out rfl rfl) rfl ⟨by rw [HOK.out, HE.out], HF.out, HOF.out⟩
set_option maxHeartbeats 4000000 in
set_option maxRecDepth 100000 in
theorem tkS_tn {W : Nat} (hW8 : W ≤ 8) (a0 m0 b0 : Nat) (g : Nat) (s s1 s2 s3 : List Bool × Nat) (w : World) (h : RdrIs w g s.1 s.2) (h1 : getS s 1 = s1) (hv1 : getV s 1 = 1) (h2 : getS s1 1 = s2) (hv2 : getV s1 1 = 1) (hT : toldT W s2 = (0, 0, 0)) (hs3 : toldS s2 = s3) :
    Calls Tryz.prog 111 #[.agg #[.int .i64 (a0 : Int), .int .i64 (m0 : Int), .int .i64 (b0 : Int)], .pointer (some ⟨g, 0, none⟩), .int .i64 (W : Int)] w fun e w' => e = .returned (.tuple #[.int .u64 0, .agg #[.int .i64 0, .int .i64 0, .int .i64 0], .bool false]) ∧ RdrIs w' g s3.1 s3.2 ∧ OnlyT g [119] w w' := by
  have C1 := Lib.hid fun (w0 : World) (hh : RdrIs w0 g s.1 s.2) => (show Calls Tryz.prog 110 #[.pointer (some ⟨g, 0, none⟩), .int .i64 1] w0 fun e' w' => e' = .returned (.int .u64 1) ∧ RdrIs w' g s1.1 s1.2 ∧ OnlyT g [119] w0 w' from by
    have := rGet_st g 1 s w0 hh (by decide)
    rw [h1, hv1] at this
    exact this)
  have C2 := Lib.hid fun (w0 : World) (hh : RdrIs w0 g s1.1 s1.2) => (show Calls Tryz.prog 110 #[.pointer (some ⟨g, 0, none⟩), .int .i64 1] w0 fun e' w' => e' = .returned (.int .u64 1) ∧ RdrIs w' g s2.1 s2.2 ∧ OnlyT g [119] w0 w' from by
    have := rGet_st g 1 s1 w0 hh (by decide)
    rw [h2, hv2] at this
    exact this)
  have CT := Lib.hid fun (w0 : World) (hh : RdrIs w0 g s2.1 s2.2) => (show Calls Tryz.prog 122 #[.pointer (some ⟨g, 0, none⟩), .int .i64 (W : Int)] w0 fun e' w' => e' = .returned (.agg #[.int .i64 0, .int .i64 0, .int .i64 0]) ∧ RdrIs w' g s3.1 s3.2 ∧ OnlyT g [119] w0 w' from by
    have := told_st hW8 g s2 w0 hh
    rw [hT, hs3] at this
    exact this)
  have hg := h.lt
  have hb1 : Below w.heap.size w ((w.alloc (.cells #[.int .i64 (a0 : Int), .int .i64 (m0 : Int), .int .i64 (b0 : Int)] 96)).alloc (.cells #[.int .i64 0, .int .i64 0, .int .i64 0] 96)) := ((Below.refl _ _).alloc (Nat.le_refl _) _).alloc (by simp) _
  have hk1 : Blk ((w.alloc (.cells #[.int .i64 (a0 : Int), .int .i64 (m0 : Int), .int .i64 (b0 : Int)] 96)).alloc (.cells #[.int .i64 0, .int .i64 0, .int .i64 0] 96)) w.heap.size 96 [.int .i64 (a0 : Int), .int .i64 (m0 : Int), .int .i64 (b0 : Int)] := Blk.alloc_ (heap_alloc_new w _) _
  have hk2 : Blk ((w.alloc (.cells #[.int .i64 (a0 : Int), .int .i64 (m0 : Int), .int .i64 (b0 : Int)] 96)).alloc (.cells #[.int .i64 0, .int .i64 0, .int .i64 0] 96)) (w.heap.size + 1) 96 [.int .i64 0, .int .i64 0, .int .i64 0] := by
    have := heap_alloc_new (w.alloc (.cells #[.int .i64 (a0 : Int), .int .i64 (m0 : Int), .int .i64 (b0 : Int)] 96)) (.cells #[.int .i64 0, .int .i64 0, .int .i64 0] 96)
    simpa [Blk] using this
  have HR := Lib.hid (h.only (OnlyT.of_below (B := 0) (ts := []) hb1) (by decide) (by decide))
  have HO := Lib.hid (OnlyT.of_below (B := g) (ts := [119]) hb1)
  have L1 := Lib.hid hk1
  have L2 := Lib.hid hk2
  clear h hb1 hk1 hk2 h1 hv1 h2 hv2 hT hs3 hW8
  go_enter Tryz.func111, Tryz.ntmps111
  go_wp2_with fail
  refine (C1.out _ HR.out).mono ?_
  rintro e w2 ⟨rfl, hrn, hon⟩
  have HRn := Lib.hid hrn
  have HOn := Lib.hid (HO.out.trans hon)
  have L1n := Lib.hid (L1.out.only hon (by decide))
  have L2n := Lib.hid (L2.out.only hon (by decide))
  clear hrn hon HR HO L1 L2
  have HR := HRn
  have HO := HOn
  have L1 := L1n
  have L2 := L2n
  clear HRn HOn L1n L2n
  go_wp2_with fail
  refine (C2.out _ HR.out).mono ?_
  rintro e w3 ⟨rfl, hrn, hon⟩
  have HRn := Lib.hid hrn
  have HOn := Lib.hid (HO.out.trans hon)
  have L1n := Lib.hid (L1.out.only hon (by decide))
  have L2n := Lib.hid (L2.out.only hon (by decide))
  clear hrn hon HR HO L1 L2
  have HR := HRn
  have HO := HOn
  have L1 := L1n
  have L2 := L2n
  clear HRn HOn L1n L2n
  go_wp2_with fail
  refine (CT.out _ HR.out).mono ?_
  rintro e w4 ⟨rfl, hrn, hon⟩
  have HRn := Lib.hid hrn
  have HOn := Lib.hid (HO.out.trans hon)
  have L1n := Lib.hid (L1.out.only hon (by decide))
  have L2n := Lib.hid (L2.out.only hon (by decide))
  clear hrn hon HR HO L1 L2
  have HR := HRn
  have HO := HOn
  have L1 := L1n
  have L2 := L2n
  clear HRn HOn L1n L2n
  have hk1 := L1.out
  have d0 := hk1.cell 0
  have d1 := hk1.cell 1
  have d2 := hk1.cell 2
  simp only [List.getElem?_cons_zero, List.getElem?_cons_succ] at d0 d1 d2
  have df0 := hk1.frozen 0
  have df1 := hk1.frozen 1
  have df2 := hk1.frozen 2
  clear hk1
  go_wp2_with fail
  clear d0 d1 d2 df0 df1 df2
  have HRn := Lib.hid (HR.out.only (set3_only L1.out (B := 0) (Nat.zero_le _) (.int .i64 0) (.int .i64 0) (.int .i64 0)) (by decide) (by decide))
  have HOn := Lib.hid (HO.out.late (set3_below (B := w.heap.size) (g := w.heap.size) (Nat.le_refl _) (.int .i64 0) (.int .i64 0) (.int .i64 0)))
  have L1n := Lib.hid (set3 L1.out (.int .i64 0) (.int .i64 0) (.int .i64 0))
  have L2n := Lib.hid (set3_other L2.out (g := w.heap.size) (by omega) (.int .i64 0) (.int .i64 0) (.int .i64 0))
  clear HR HO L1 L2
  generalize ((w4.setCell ⟨w.heap.size, 0, none⟩ (.int .i64 0)).setCell ⟨w.heap.size, 1, none⟩ (.int .i64 0)).setCell ⟨w.heap.size, 2, none⟩ (.int .i64 0) = w5 at *
  have HR := HRn
  have HO := HOn
  have L1 := L1n
  have L2 := L2n
  clear HRn HOn L1n L2n
  have hk1 := L1.out
  have hk2 := L2.out
  have c0 := hk1.cell 0
  have c1 := hk1.cell 1
  have c2 := hk1.cell 2
  simp only [List.getElem?_cons_zero, List.getElem?_cons_succ] at c0 c1 c2
  have d0 := hk2.cell 0
  have d1 := hk2.cell 1
  have d2 := hk2.cell 2
  simp only [List.getElem?_cons_zero, List.getElem?_cons_succ] at d0 d1 d2
  have df0 := hk2.frozen 0
  have df1 := hk2.frozen 1
  have df2 := hk2.frozen 2
  clear hk1 hk2
  have hso := set3_only L2.out (B := 0) (Nat.zero_le _) (.int .i64 0) (.int .i64 0) (.int .i64 0)
  have HK := Lib.hid (set3 L2.out (.int .i64 0) (.int .i64 0) (.int .i64 0)).drew_
  have HF := Lib.hid ((HR.out.only hso (by decide) (by decide)).only (OnlyT.refl 0 [] _).drew (by simp) (by simp))
  have HOF := Lib.hid (HO.out.late (set3_below (B := w.heap.size) (g := w.heap.size + 1) (by omega) (.int .i64 0) (.int .i64 0) (.int .i64 0))).drew
  clear hso HR HO L1 L2
  go_wp2_with fail
  go_region_with fail
  all_goals
    go_wp2
    exact bodyPost_ret (take_end (x := .int .u64 0) (y := .bool false) Tryz.results111 rfl HK.out rfl rfl) rfl ⟨rfl, HF.out, HOF.out⟩
set_option maxHeartbeats 4000000 in
set_option maxRecDepth 100000 in
theorem tkS_tw {W : Nat} (hW8 : W ≤ 8) (a0 m0 b0 : Nat) (g : Nat) (a m b v : Nat) (s s1 s2 s3 s4 : List Bool × Nat) (w : World) (h : RdrIs w g s.1 s.2) (h1 : getS s 1 = s1) (hv1 : getV s 1 = 1) (h2 : getS s1 1 = s2) (hv2 : getV s1 1 = 1) (hT : toldT W s2 = (a, m, b)) (hs3 : toldS s2 = s3) (hm0 : 0 < m) (hmb : m + b ≤ 64) (h3 : getS s3 m = s4) (hv3 : getV s3 m = v) :
    Calls Tryz.prog 111 #[.agg #[.int .i64 (a0 : Int), .int .i64 (m0 : Int), .int .i64 (b0 : Int)], .pointer (some ⟨g, 0, none⟩), .int .i64 (W : Int)] w fun e w' => e = .returned (.tuple #[.int .u64 ((v * 2 ^ b : Nat) : Int), .agg #[.int .i64 (a : Int), .int .i64 (m : Int), .int .i64 (b : Int)], .bool (decide (s4.2 = 0))]) ∧ RdrIs w' g s4.1 s4.2 ∧ OnlyT g [119] w w' := by
  have C1 := Lib.hid fun (w0 : World) (hh : RdrIs w0 g s.1 s.2) => (show Calls Tryz.prog 110 #[.pointer (some ⟨g, 0, none⟩), .int .i64 1] w0 fun e' w' => e' = .returned (.int .u64 1) ∧ RdrIs w' g s1.1 s1.2 ∧ OnlyT g [119] w0 w' from by
    have := rGet_st g 1 s w0 hh (by decide)
    rw [h1, hv1] at this
    exact this)
  have C2 := Lib.hid fun (w0 : World) (hh : RdrIs w0 g s1.1 s1.2) => (show Calls Tryz.prog 110 #[.pointer (some ⟨g, 0, none⟩), .int .i64 1] w0 fun e' w' => e' = .returned (.int .u64 1) ∧ RdrIs w' g s2.1 s2.2 ∧ OnlyT g [119] w0 w' from by
    have := rGet_st g 1 s1 w0 hh (by decide)
    rw [h2, hv2] at this
    exact this)
  have CT := Lib.hid fun (w0 : World) (hh : RdrIs w0 g s2.1 s2.2) => (show Calls Tryz.prog 122 #[.pointer (some ⟨g, 0, none⟩), .int .i64 (W : Int)] w0 fun e' w' => e' = .returned (.agg #[.int .i64 (a : Int), .int .i64 (m : Int), .int .i64 (b : Int)]) ∧ RdrIs w' g s3.1 s3.2 ∧ OnlyT g [119] w0 w' from by
    have := told_st hW8 g s2 w0 hh
    rw [hT, hs3] at this
    exact this)
  have hvlt : v < 2 ^ m := by rw [← hv3]; exact getV_lt _ _
  obtain ⟨x, hx⟩ : ∃ x, x = v * 2 ^ b := ⟨_, rfl⟩
  have hsh : IntKind.u64.wrap ((v : Int) * 2 ^ b) = (x : Int) := by
    have e : (v : Int) * 2 ^ b = ((v * 2 ^ b : Nat) : Int) := by rw [Int.natCast_mul, Int.natCast_pow]; rfl
    have e2 : v * 2 ^ b < 2 ^ m * 2 ^ b := Nat.mul_lt_mul_of_pos_right hvlt (Nat.two_pow_pos _)
    have e3 : 2 ^ m * 2 ^ b ≤ 2 ^ 64 := by rw [← Nat.pow_add]; exact Nat.pow_le_pow_right (by decide) hmb
    rw [e, ← hx, IntKind.wrap_u64]
    omega
  rw [← hx]
  have hm64 : m ≤ 64 := by omega
  have hb64 : b < 64 := by omega
  have CV := Lib.hid fun (w0 : World) (hh : RdrIs w0 g s3.1 s3.2) => (show Calls Tryz.prog 110 #[.pointer (some ⟨g, 0, none⟩), .int .i64 (m : Int)] w0 fun e' w' => e' = .returned (.int .u64 (v : Int)) ∧ RdrIs w' g s4.1 s4.2 ∧ OnlyT g [119] w0 w' from by
    have := rGet_st g m s3 w0 hh hm64
    rw [hv3, h3] at this
    exact this)
  have HSH := Lib.hid hsh
  clear hsh hx hvlt hmb
  have hg := h.lt
  have hb1 : Below w.heap.size w ((w.alloc (.cells #[.int .i64 (a0 : Int), .int .i64 (m0 : Int), .int .i64 (b0 : Int)] 96)).alloc (.cells #[.int .i64 0, .int .i64 0, .int .i64 0] 96)) := ((Below.refl _ _).alloc (Nat.le_refl _) _).alloc (by simp) _
  have hk1 : Blk ((w.alloc (.cells #[.int .i64 (a0 : Int), .int .i64 (m0 : Int), .int .i64 (b0 : Int)] 96)).alloc (.cells #[.int .i64 0, .int .i64 0, .int .i64 0] 96)) w.heap.size 96 [.int .i64 (a0 : Int), .int .i64 (m0 : Int), .int .i64 (b0 : Int)] := Blk.alloc_ (heap_alloc_new w _) _
  have hk2 : Blk ((w.alloc (.cells #[.int .i64 (a0 : Int), .int .i64 (m0 : Int), .int .i64 (b0 : Int)] 96)).alloc (.cells #[.int .i64 0, .int .i64 0, .int .i64 0] 96)) (w.heap.size + 1) 96 [.int .i64 0, .int .i64 0, .int .i64 0] := by
    have := heap_alloc_new (w.alloc (.cells #[.int .i64 (a0 : Int), .int .i64 (m0 : Int), .int .i64 (b0 : Int)] 96)) (.cells #[.int .i64 0, .int .i64 0, .int .i64 0] 96)
    simpa [Blk] using this
  have HR := Lib.hid (h.only (OnlyT.of_below (B := 0) (ts := []) hb1) (by decide) (by decide))
  have HO := Lib.hid (OnlyT.of_below (B := g) (ts := [119]) hb1)
  have L1 := Lib.hid hk1
  have L2 := Lib.hid hk2
  clear h hb1 hk1 hk2 h1 hv1 h2 hv2 h3 hv3 hT hs3 hW8
  go_enter Tryz.func111, Tryz.ntmps111
  go_wp2_with fail
  refine (C1.out _ HR.out).mono ?_
  rintro e w2 ⟨rfl, hrn, hon⟩
  have HRn := Lib.hid hrn
  have HOn := Lib.hid (HO.out.trans hon)
  have L1n := Lib.hid (L1.out.only hon (by decide))
  have L2n := Lib.hid (L2.out.only hon (by decide))
  clear hrn hon HR HO L1 L2
  have HR := HRn
  have HO := HOn
  have L1 := L1n
  have L2 := L2n
  clear HRn HOn L1n L2n
  go_wp2_with fail
  refine (C2.out _ HR.out).mono ?_
  rintro e w3 ⟨rfl, hrn, hon⟩
  have HRn := Lib.hid hrn
  have HOn := Lib.hid (HO.out.trans hon)
  have L1n := Lib.hid (L1.out.only hon (by decide))
  have L2n := Lib.hid (L2.out.only hon (by decide))
  clear hrn hon HR HO L1 L2
  have HR := HRn
  have HO := HOn
  have L1 := L1n
  have L2 := L2n
  clear HRn HOn L1n L2n
  go_wp2_with fail
  refine (CT.out _ HR.out).mono ?_
  rintro e w4 ⟨rfl, hrn, hon⟩
  have HRn := Lib.hid hrn
  have HOn := Lib.hid (HO.out.trans hon)
  have L1n := Lib.hid (L1.out.only hon (by decide))
  have L2n := Lib.hid (L2.out.only hon (by decide))
  clear hrn hon HR HO L1 L2
  have HR := HRn
  have HO := HOn
  have L1 := L1n
  have L2 := L2n
  clear HRn HOn L1n L2n
  have hk1 := L1.out
  have d0 := hk1.cell 0
  have d1 := hk1.cell 1
  have d2 := hk1.cell 2
  simp only [List.getElem?_cons_zero, List.getElem?_cons_succ] at d0 d1 d2
  have df0 := hk1.frozen 0
  have df1 := hk1.frozen 1
  have df2 := hk1.frozen 2
  clear hk1
  go_wp2_with fail
  clear d0 d1 d2 df0 df1 df2
  have HRn := Lib.hid (HR.out.only (set3_only L1.out (B := 0) (Nat.zero_le _) (.int .i64 (a : Int)) (.int .i64 (m : Int)) (.int .i64 (b : Int))) (by decide) (by decide))
  have HOn := Lib.hid (HO.out.late (set3_below (B := w.heap.size) (g := w.heap.size) (Nat.le_refl _) (.int .i64 (a : Int)) (.int .i64 (m : Int)) (.int .i64 (b : Int))))
  have L1n := Lib.hid (set3 L1.out (.int .i64 (a : Int)) (.int .i64 (m : Int)) (.int .i64 (b : Int)))
  have L2n := Lib.hid (set3_other L2.out (g := w.heap.size) (by omega) (.int .i64 (a : Int)) (.int .i64 (m : Int)) (.int .i64 (b : Int)))
  clear HR HO L1 L2
  generalize ((w4.setCell ⟨w.heap.size, 0, none⟩ (.int .i64 (a : Int))).setCell ⟨w.heap.size, 1, none⟩ (.int .i64 (m : Int))).setCell ⟨w.heap.size, 2, none⟩ (.int .i64 (b : Int)) = w5 at *
  have HR := HRn
  have HO := HOn
  have L1 := L1n
  have L2 := L2n
  clear HRn HOn L1n L2n
  have hk1 := L1.out
  have c0 := hk1.cell 0
  have c1 := hk1.cell 1
  have c2 := hk1.cell 2
  simp only [List.getElem?_cons_zero, List.getElem?_cons_succ] at c0 c1 c2
  clear hk1
  go_wp2_with fail
  have S1 := Lib.hid c1
  have S2 := Lib.hid c2
  clear c0 c1 c2
  have HRA : Hid (RdrIs w5.drew g s3.1 s3.2) := HR.out.only (OnlyT.refl 0 [] w5).drew (by simp) (by simp)
  have C := Lib.hid (CV.out _ HRA.out)
  clear HRA HR
  go_region_held3 (fun w' => w'.cell? ⟨w.heap.size, 1, none⟩ = some (.int .i64 (m : Int)) ∧ w'.cell? ⟨w.heap.size, 2, none⟩ = some (.int .i64 (b : Int))) (first | exact ⟨S1.out, S2.out⟩ | exact ⟨T1.out, T2.out⟩)
    (first
      | (go_at_call 110; refine C.out.mono ?_; rintro e w6 ⟨rfl, hr6, ho6⟩; have HR := Lib.hid hr6; have HOx := Lib.hid (HO.out.drew.trans ho6); have M1 := Lib.hid (L1.out.drew_.only ho6 (by decide)); have M2 := Lib.hid (L2.out.drew_.only ho6 (by decide)); have t1 := M1.out.cell 1; have t2 := M1.out.cell 2; simp only [List.getElem?_cons_zero, List.getElem?_cons_succ] at t1 t2; have T1 := Lib.hid t1; have T2 := Lib.hid t2; clear hr6 ho6 t1 t2))
  simp only [HSH.out]
  rename_i hHeld
  clear hHeld S1 S2 T1 T2 C L1 L2 HO
  have hk1 := M1.out
  have hk2 := M2.out
  have c0 := hk1.cell 0
  have c1 := hk1.cell 1
  have c2 := hk1.cell 2
  simp only [List.getElem?_cons_zero, List.getElem?_cons_succ] at c0 c1 c2
  have d0 := hk2.cell 0
  have d1 := hk2.cell 1
  have d2 := hk2.cell 2
  simp only [List.getElem?_cons_zero, List.getElem?_cons_succ] at d0 d1 d2
  have df0 := hk2.frozen 0
  have df1 := hk2.frozen 1
  have df2 := hk2.frozen 2
  clear hk1 hk2
  have hso := set3_only M2.out (B := 0) (Nat.zero_le _) (.int .i64 (a : Int)) (.int .i64 (m : Int)) (.int .i64 (b : Int))
  have HK := Lib.hid (set3 M2.out (.int .i64 (a : Int)) (.int .i64 (m : Int)) (.int .i64 (b : Int))).drew_
  have HF := Lib.hid ((HR.out.only hso (by decide) (by decide)).only (OnlyT.refl 0 [] _).drew (by simp) (by simp))
  have HOF := Lib.hid (HOx.out.late (set3_below (B := w.heap.size) (g := w.heap.size + 1) (by omega) (.int .i64 (a : Int)) (.int .i64 (m : Int)) (.int .i64 (b : Int)))).drew
  clear hso
  have HRD : Hid (RdrIs w6.drew g s4.1 s4.2) := HR.out.only (OnlyT.refl 0 [] w6).drew (by simp) (by simp)
  obtain ⟨E, hE⟩ : ∃ E, E = s4.2 := ⟨_, rfl⟩
  have HE := Lib.hid hE
  have ce := rErr_is s4.2 HRD.out
  rw [← hE] at ce
  have CE := Lib.hid ce
  clear hE ce
  obtain ⟨ok, hok⟩ : ∃ ok, ok = decide (E = 0) := ⟨_, rfl⟩
  have hok1 : ((E : Int) == 0) = ok := by rw [hok]; cases E <;> rfl
  have hok2 : decide ((E : Int) = 0) = ok := by rw [hok]; cases E <;> rfl
  have HOK := Lib.hid hok
  clear hok
  go_wp2_with fail
  go_region_with (go_at_call 118; refine CE.out.mono ?_; rintro e w7 ⟨rfl, rfl⟩)
  all_goals
    go_wp2
    exact bodyPost_ret (take_end (x := .int .u64 (x : Int)) (y := .bool ok) Tryz.results111 rfl HK.out rfl rfl) rfl ⟨by rw [HOK.out, HE.out], HF.out, HOF.out⟩
end Go.Proofs.YtcenbaajojdjlaaGreatDoor
namespace Go.Proofs.YtcenbaajojdjlaaGreatDoor
open Go.RowKit

/-- A window as three numbers: none, or as many bits as there are between. -/
def WinT (W : Nat) (t : Nat × Nat × Nat) : Prop := t = (0, 0, 0) ∨ (0 < t.2.1 ∧ t.1 + t.2.1 + t.2.2 = 8 * W)
/-- The word that stands within a window. -/
def fromT (t : Nat × Nat × Nat) (s : List Bool × Nat) : Nat × (Nat × Nat × Nat) × Bool × (List Bool × Nat) :=
  if t.2.1 = 0 then (0, t, false, s) else (getV s t.2.1 * 2 ^ t.2.2, t, decide ((getS s t.2.1).2 = 0), getS s t.2.1)
/-- The next word, the window from then on, whether bits told it, and what is left. -/
def takeR (W : Nat) (t : Nat × Nat × Nat) (s : List Bool × Nat) : Nat × (Nat × Nat × Nat) × Bool × (List Bool × Nat) :=
  if getV s 1 = 0 then (0, t, decide ((getS s 1).2 = 0), getS s 1)
  else if getV (getS s 1) 1 = 0 then fromT t (getS (getS s 1) 1)
  else fromT (toldT W (getS (getS s 1) 1)) (toldS (getS (getS s 1) 1))
theorem bit1 (s : List Bool × Nat) : getV s 1 = 0 ∨ getV s 1 = 1 := by
  have := getV_lt s 1
  omega
theorem toldT_ok (W : Nat) (s : List Bool × Nat) : WinT W (toldT W s) := by
  unfold toldT
  split
  · exact .inr ⟨by simp, by simp; omega⟩
  · exact .inl rfl
theorem takeR_ok {W : Nat} {t : Nat × Nat × Nat} (ht : WinT W t) (s : List Bool × Nat) : WinT W (takeR W t s).2.1 := by
  unfold takeR fromT
  split
  · exact ht
  · split <;> split
    · exact ht
    · exact ht
    · exact toldT_ok W _
    · exact toldT_ok W _
theorem takeR_lt {W : Nat} {t : Nat × Nat × Nat} (ht : WinT W t) (s : List Bool × Nat) : (takeR W t s).1 < 2 ^ (8 * W) := by
  have key : ∀ (u : Nat × Nat × Nat) (q : List Bool × Nat), WinT W u → (fromT u q).1 < 2 ^ (8 * W) := by
    intro u q hu
    unfold fromT
    split
    · exact Nat.two_pow_pos _
    · next h0 =>
      rcases hu with rfl | ⟨h1, h2⟩
      · exact absurd rfl h0
      · refine Nat.lt_of_lt_of_le (Nat.mul_lt_mul_of_pos_right (getV_lt q u.2.1) (Nat.two_pow_pos u.2.2)) ?_
        rw [← Nat.pow_add]
        exact Nat.pow_le_pow_right (by decide) (by omega)
  unfold takeR
  split
  · exact Nat.two_pow_pos _
  · split
    · exact key _ _ ht
    · exact key _ _ (toldT_ok W _)
theorem take_st {W : Nat} (hW8 : W ≤ 8) (t : Nat × Nat × Nat) (ht : WinT W t) (g : Nat) (s : List Bool × Nat) (w : World) (h : RdrIs w g s.1 s.2) :
    Calls Tryz.prog 111 #[tri t, .pointer (some ⟨g, 0, none⟩), .int .i64 (W : Int)] w fun e w' => e = .returned (.tuple #[.int .u64 ((takeR W t s).1 : Int), tri (takeR W t s).2.1, .bool (takeR W t s).2.2.1]) ∧ RdrIs w' g (takeR W t s).2.2.2.1 (takeR W t s).2.2.2.2 ∧ OnlyT g [119] w w' := by
  obtain ⟨a0, m0, b0⟩ := t
  unfold takeR fromT
  rcases bit1 s with h1 | h1
  · rw [if_pos h1]
    exact tkS_al (W := W) a0 m0 b0 g s _ w h rfl h1
  · rw [if_neg (by omega)]
    rcases bit1 (getS s 1) with h2 | h2
    · rw [if_pos h2]
      rcases ht with ht | ⟨hm, hab⟩
      · injection ht with e1 e2
        injection e2 with e2 e3
        subst e1 e2 e3
        exact tkS_no (W := W) g s _ _ w h rfl h1 rfl h2
      · simp only at hm hab
        rw [if_neg (show ¬ m0 = 0 by omega)]
        exact tkS_in (W := W) a0 m0 b0 g _ s _ _ _ w h rfl h1 rfl h2 hm (by omega) rfl rfl
    · rw [if_neg (by omega)]
      rcases toldT_ok W (getS (getS s 1) 1) with ht2 | ⟨hm, hab⟩
      · rw [ht2]
        exact tkS_tn hW8 a0 m0 b0 g s _ _ _ w h rfl h1 rfl h2 ht2 rfl
      · rw [if_neg (by omega)]
        exact tkS_tw hW8 a0 m0 b0 g (toldT W (getS (getS s 1) 1)).1 (toldT W (getS (getS s 1) 1)).2.1 (toldT W (getS (getS s 1) 1)).2.2 _ s _ _ _ _ w h rfl h1 rfl h2 rfl rfl hm (by omega) rfl rfl
end Go.Proofs.YtcenbaajojdjlaaGreatDoor
