/- gorilla's taken of any bits. -/
import Derived.Test.YtcenbaajojdjlaaGreatDoorGorSt2
import Derived.Test.YtcenbaajojdjlaaGreatDoorGorTaken
namespace Go.Proofs.YtcenbaajojdjlaaGreatDoor
open Go.RowKit

/-- What is told of what is left, when all words have been taken. -/
def doneE (s : List Bool × Nat) : Nat := if s.2 ≠ 0 then s.2 else if 8 ≤ s.1.length then 22 else if s.1.any id = true then 16 else 0
theorem any_split : ∀ L : List Bool, L.any id = true → ∃ n R, L = List.replicate n false ++ true :: R
  | [], h => by cases h
  | true :: t, _ => ⟨0, t, rfl⟩
  | false :: t, h => by
    obtain ⟨n, R, e⟩ := any_split t (by simpa using h)
    exact ⟨n + 1, R, by rw [e]; rfl⟩
theorem any_none : ∀ L : List Bool, ¬ L.any id = true → L = List.replicate L.length false
  | [], _ => rfl
  | true :: t, h => absurd (by simp) h
  | false :: t, h => by
    have := any_none t (by simpa using h)
    rw [List.length_cons, List.replicate_succ, ← this]
theorem rDone_st (g : Nat) (s : List Bool × Nat) (w : World) (h : RdrIs w g s.1 s.2) (hl : s.1.length ≤ 9000000000000000) :
    Calls Tryz.prog 112 #[.pointer (some ⟨g, 0, none⟩)] w fun e' w' => e' = .returned (.int .i64 (doneE s : Nat)) ∧ OnlyT g [119] w w' := by
  obtain ⟨L, e⟩ := s
  unfold doneE
  simp only at h hl ⊢
  by_cases he : e = 0
  · subst he
    rw [if_neg (by simp)]
    by_cases h8 : 8 ≤ L.length
    · rw [if_pos h8]
      refine (rDone_more h h8 hl).mono ?_
      rintro e' w' ⟨rfl, rfl⟩
      exact ⟨rfl, (OnlyT.refl _ _ _).drew⟩
    · rw [if_neg h8]
      by_cases ha : L.any id = true
      · rw [if_pos ha]
        obtain ⟨n, R, hL⟩ := any_split L ha
        have hlen := congrArg List.length hL
        simp at hlen
        refine (rDone_pay n R h (by omega) hL).mono ?_
        rintro e' w' ⟨rfl, rfl⟩
        exact ⟨rfl, (OnlyT.refl _ _ _).drew⟩
      · rw [if_neg ha]
        refine (rDone_ok L.length h (by omega) (any_none L ha)).mono ?_
        rintro e' w' ⟨rfl, rfl⟩
        exact ⟨rfl, (OnlyT.refl _ _ _).drew⟩
  · rw [if_pos he]
    refine (rDone_err e h he).mono ?_
    rintro e' w' ⟨rfl, rfl⟩
    exact ⟨rfl, OnlyT.refl _ _ _⟩
/-- So many words, and what is left; none, if the bits don't tell them. -/
def loopR (W : Nat) : Nat → (Nat × Nat × Nat) → (List Bool × Nat) → Option (List Nat × (List Bool × Nat))
  | 0, _, s => some ([], s)
  | k + 1, t, s => if (takeR W t s).2.2.1 = true then (loopR W k (takeR W t s).2.1 (takeR W t s).2.2.2).map (fun q => ((takeR W t s).1 :: q.1, q.2)) else none
def takenR (W n : Nat) (L : List Bool) : Option (List Nat × (List Bool × Nat)) :=
  if L.length < n then none else if n = 0 then some ([], (L, 0)) else (loopR W (n - 1) (0, 0, 0) (getS (L, 0) (8 * W))).map (fun q => (getV (L, 0) (8 * W) :: q.1, q.2))
def aheadR (Y : List Nat) (o : Option (List Nat × (List Bool × Nat))) : Option (List Nat × (List Bool × Nat)) := o.map (fun q => (Y ++ q.1, q.2))
theorem loopR_next {W k x : Nat} {t t1 : Nat × Nat × Nat} {s s1 : List Bool × Nat} (hR : takeR W t s = (x, t1, true, s1)) (Y : List Nat) : aheadR Y (loopR W (k + 1) t s) = aheadR (Y ++ [x]) (loopR W k t1 s1) := by
  unfold aheadR
  rw [loopR, hR]
  simp [Function.comp_def]
theorem loopR_stop {W k x : Nat} {t t1 : Nat × Nat × Nat} {s s1 : List Bool × Nat} (hR : takeR W t s = (x, t1, false, s1)) (Y : List Nat) : aheadR Y (loopR W (k + 1) t s) = none := by
  unfold aheadR
  rw [loopR, hR]
  simp
theorem getS_len (s : List Bool × Nat) (n : Nat) : (getS s n).1.length ≤ s.1.length := by
  unfold getS
  split
  · split
    · simp
    · exact Nat.le_refl _
  · exact Nat.le_refl _
theorem takeR_len (W : Nat) (t : Nat × Nat × Nat) (s : List Bool × Nat) : (takeR W t s).2.2.2.1.length ≤ s.1.length := by
  have key : ∀ (u : Nat × Nat × Nat) (q : List Bool × Nat), q.1.length ≤ s.1.length → (fromT u q).2.2.2.1.length ≤ s.1.length := by
    intro u q hq
    unfold fromT
    split
    · exact hq
    · exact Nat.le_trans (getS_len _ _) hq
  have h2 := Nat.le_trans (getS_len (getS s 1) 1) (getS_len s 1)
  unfold takeR
  split
  · exact getS_len s 1
  · split
    · exact key _ _ h2
    · exact key _ _ (Nat.le_trans (getS_len _ _) (Nat.le_trans (getS_len _ _) h2))
/-- What taken answers of any bits. -/
def TellsR (w : World) (g : Nat) (o : Option (List Nat × (List Bool × Nat))) (e : Ending) (w' : World) : Prop :=
  OnlyT g [119] w w' ∧ ∃ v ok, e = .returned (.tuple #[v, .bool ok]) ∧ (∃ A n c, v = .slice A n c) ∧ match o with
    | none => ok = false
    | some (X, s) => ok = decide (doneE s = 0) ∧ w'.ownsRow w.heap.size 63 1 v X.length (wvs X)
/-- What holds at the head of a round. -/
def TakenRR (w : World) (g W n B : Nat) (o : Option (List Nat × (List Bool × Nat))) (P : Nat) (v : Value) (wr : World) : Prop :=
  ∃ (Y : List Nat) (a m b : Nat) (s : List Bool × Nat), Y.length ≤ n ∧ wr.ownsRow w.heap.size 63 1 v Y.length (wvs Y) ∧ WinT W (a, m, b) ∧ s.1.length ≤ B ∧ RdrIs wr g s.1 s.2 ∧ aheadR Y (loopR W (n - Y.length) (a, m, b) s) = o ∧
    Blk wr P 96 [.int .i64 (a : Int), .int .i64 (m : Int), .int .i64 (b : Int)] ∧ OnlyT g [119] w wr

set_option maxHeartbeats 4000000 in
set_option maxRecDepth 100000 in
theorem taken_st {W : Nat} (hW8 : W ≤ 8) (g n : Nat) (L : List Bool) (hL : L.length ≤ 1000000) (hn26 : n ≤ 67108864) (w : World) (h : RdrIs w g L 0) :
    Calls Tryz.prog 94 #[.pointer (some ⟨g, 0, none⟩), .int .i64 (W : Int), .int .i64 (n : Int)] w (TellsR w g (takenR W n L)) := by
  obtain ⟨i0, hi, hz0, hz1, hz2⟩ := info_parts info_u64r
  have hg := h.lt
  have C1 := Lib.hid (rLeft_is h)
  have HH : Hid (RdrIs w.drew g L 0) := h.only (OnlyT.refl 0 [] w).drew (by simp) (by simp)
  obtain ⟨LL, hLL⟩ : ∃ LL, LL = L.length := ⟨_, rfl⟩
  have hc1 := C1.out
  rw [← hLL] at hc1 hL
  have C1 := Lib.hid hc1
  have hW8i : (W : Int) ≤ 8 := by omega
  have HW := Lib.hid hW8
  have HLL := Lib.hid hLL
  clear h hc1 hLL hW8
  by_cases hlt0 : LL < n
  · have hli : (LL : Int) < (n : Int) := by omega
    have ho : takenR W n L = none := by unfold takenR; rw [if_pos (by have := HLL.out; omega)]
    rw [ho]
    clear ho hlt0 HH
    go_enter Tryz.func94, Tryz.ntmps94
    go_wp2_with fail
    refine C1.out.mono ?_
    rintro e w1 ⟨rfl, rfl⟩
    go_wp2
    go_ret2
    exact ⟨(OnlyT.refl _ _ _).drew, _, _, rfl, ⟨_, _, _, rfl⟩, rfl⟩
  have hli : (n : Int) ≤ (LL : Int) := by omega
  have ho : takenR W n L = if n = 0 then some ([], (L, 0)) else (loopR W (n - 1) (0, 0, 0) (getS (L, 0) (8 * W))).map (fun q => (getV (L, 0) (8 * W) :: q.1, q.2)) := by unfold takenR; rw [if_neg (by have := HLL.out; omega)]
  obtain ⟨o, hoo⟩ : ∃ o, o = takenR W n L := ⟨_, rfl⟩
  rw [← hoo]
  rw [ho] at hoo
  have HOO0 := Lib.hid hoo
  clear ho hoo hlt0
  have hnb : n ≤ 1000000 := by omega
  have HNB := Lib.hid hnb
  go_enter Tryz.func94, Tryz.ntmps94
  go_wp2_with fail
  refine C1.out.mono ?_
  rintro e w1 ⟨rfl, rfl⟩
  clear C1
  by_cases hn0 : n = 0
  · have hn1 : ¬ (0 : Int) < (n : Int) := by omega
    have hoo := HOO0.out
    rw [if_pos hn0] at hoo
    have HOO := Lib.hid hoo
    clear hoo HOO0
    have HN0 := Lib.hid hn0
    clear hn0
    go_wp2_with (at_make; go_must (refine wpList_mk rfl (.const (.int .i64 0)) (.tmp 17) 53 rfl w.heap.size 63 i0 (.int .u64 0) 8 Tryz.underlying53 hi hz0 rfl hz1 hz2 .i64 .i64 _ _ rfl rfl 0 n rfl rfl (Nat.zero_le _) (by omega) (by simp only [maxLen]; omega) (Nat.le_refl _) ?_; intro w2 hg2 hown2 hgr2))
    have hb2 : Below w.heap.size w.drew w2 := (Below.refl w.heap.size w.drew).grown hgr2 (Nat.le_refl _) (by simp)
    have hr2 := HH.out.only (OnlyT.of_below (B := 0) (ts := []) hb2) (by decide) (by decide)
    have hsz2 : w.heap.size ≤ w2.heap.size := hb2.size
    have HR4 := Lib.hid (hr2.only (OnlyT.of_below (B := 0) (ts := []) ((Below.refl w2.heap.size w2).alloc (Nat.le_refl _) (.cells #[.int .i64 0, .int .i64 0, .int .i64 0] 96))) (by decide) (by decide))
    have HO4 := Lib.hid (((OnlyT.refl g [119] w).drew.trans (OnlyT.of_below hb2)).late ((Below.refl w.heap.size w2).alloc hsz2 (.cells #[.int .i64 0, .int .i64 0, .int .i64 0] 96)))
    have HW4 := Lib.hid (hown2.alloc (.cells #[.int .i64 0, .int .i64 0, .int .i64 0] 96))
    have hk4 : Blk (w2.alloc (.cells #[.int .i64 0, .int .i64 0, .int .i64 0] 96)) w2.heap.size 96 [.int .i64 0, .int .i64 0, .int .i64 0] := heap_alloc_new w2 _
    have HK4 := Lib.hid hk4
    clear hk4 hr2 hb2 hg2 hown2 hgr2 HH
    go_loopw [8, 10, 11, 12] (fun v _ _ _ wr => TakenRR w g W n LL o w2.heap.size v wr) (fun v _ _ _ _ => n - lenOfV v)
    case atStart => exact ⟨[], 0, 0, 0, (L, 0), by simp, HW4.out, .inl rfl, by have := HLL.out; simp; omega, HR4.out, by rw [HOO.out, HN0.out]; rfl, HK4.out, HO4.out⟩
    case round =>
      clear HR4 HO4 HW4 HK4 HOO
      obtain ⟨Y, a, m, b, s, hk, hown, ht, hsl, hrd, hTot, hblk, ho⟩ := hrel
      have hlt : ¬ Y.length < n := by have := HN0.out; omega
      have hkx : Y.length = n := by omega
      have hT : o = some (Y, s) := by rw [← hTot, hkx, Nat.sub_self]; simp [aheadR, loopR]
      have HT := Lib.hid hT
      have HOWN := Lib.hid hown
      have HO := Lib.hid ho
      obtain ⟨A1, c1, rfl, hc1, hc2, -⟩ := own_form hown
      simp only [maxLen] at hc2
      have hki : ¬ (Y.length : Int) < (n : Int) := by omega
      have c2 := rDone_st g s wr hrd (by have := HLL.out; omega)
      obtain ⟨E, hE⟩ : ∃ E, E = doneE s := ⟨_, rfl⟩
      rw [← hE] at c2
      have HE := Lib.hid hE
      obtain ⟨ok, hok⟩ : ∃ ok, ok = decide (E = 0) := ⟨_, rfl⟩
      have hok1 : ((E : Int) == 0) = ok := by rw [hok]; cases E <;> rfl
      have hok2 : decide ((E : Int) = 0) = ok := by rw [hok]; cases E <;> rfl
      have HOK := Lib.hid hok
      have C2 := Lib.hid c2
      clear hE hok c2 hrd hown ho hblk ht hkx hk hTot hT hsl
      go_wp2_with fail
      refine C2.out.mono ?_
      rintro e w9 ⟨rfl, ho9⟩
      have HW9 := Lib.hid (own_only HOWN.out ho9 (by decide))
      have HO9 := Lib.hid (HO.out.trans ho9)
      clear ho9
      go_wp2
      go_ret2
      refine ⟨HO9.out, _, ok, rfl, ⟨_, _, _, rfl⟩, ?_⟩
      rw [HT.out]
      exact ⟨by rw [HOK.out, HE.out], HW9.out⟩
  · have hn1 : (0 : Int) < (n : Int) := by omega
    have hoo := HOO0.out
    rw [if_neg hn0] at hoo
    have HOO1 := Lib.hid hoo
    clear hoo HOO0
    go_wp2_with (at_make; go_must (refine wpList_mk rfl (.const (.int .i64 0)) (.tmp 17) 53 rfl w.heap.size 63 i0 (.int .u64 0) 8 Tryz.underlying53 hi hz0 rfl hz1 hz2 .i64 .i64 _ _ rfl rfl 0 n rfl rfl (Nat.zero_le _) (by omega) (by simp only [maxLen]; omega) (Nat.le_refl _) ?_; intro w2 hg2 hown2 hgr2))
    have hb2 : Below w.heap.size w.drew w2 := (Below.refl w.heap.size w.drew).grown hgr2 (Nat.le_refl _) (by simp)
    have HR2 := Lib.hid (HH.out.only (OnlyT.of_below (B := 0) (ts := []) hb2) (by decide) (by decide))
    have HO2 := Lib.hid ((OnlyT.refl g [119] w).drew.trans (OnlyT.of_below hb2))
    have HW2 := Lib.hid hown2
    have hV : 8 * (W : Int) = ((8 * W : Nat) : Int) := by omega
    have c2 := rGet_st g (8 * W) (L, 0) w2 HR2.out (by have := HW.out; omega)
    obtain ⟨x0, hx0⟩ : ∃ x0, x0 = getV (L, 0) (8 * W) := ⟨_, rfl⟩
    obtain ⟨s0, hs0⟩ : ∃ s0, s0 = getS (L, 0) (8 * W) := ⟨_, rfl⟩
    have hs0l : s0.1.length ≤ LL := by have := HLL.out; rw [hs0, this]; exact getS_len _ _
    have hoo := HOO1.out
    rw [← hx0, ← hs0] at c2 hoo
    have HOO := Lib.hid hoo
    clear hoo HOO1
    have HS0 := Lib.hid hs0l
    rw [← hV] at c2
    have C2 := Lib.hid c2
    clear hg2 hown2 hgr2 hb2 hV c2 HH HR2 hx0 hs0 hs0l
    refine C2.out.mono ?_
    rintro e w3 ⟨rfl, hr3, ho3⟩
    have HR3 := Lib.hid hr3
    have HO3 := Lib.hid (HO2.out.trans ho3)
    have HW3 := Lib.hid (own_only HW2.out ho3 (by decide))
    have hsz3 : w.heap.size ≤ w3.heap.size := HO3.out.size
    clear hr3 ho3 C2 HO2 HW2
    go_wp2_with ((with_reducible show wpList _ _ _ (({ dst := some 27, op := _, type := _, pos := _, after := _, guard := _ } : Oper) :: _) _ _); go_must (refine wpList_app rfl (.tmp 21) (.tmp 26) 53 rfl w.heap.size 63 i0 (.int .u64 0) 1 8 Tryz.underlying53 hi hz0 hz1 hz2 rfl (by decide) _ _ _ rfl (HW3.out.alloc _) _ _ 1 1 _ rfl (Rd.new _ _ _) rfl (by intro u hu; simp at hu; subst hu; rfl) (by simp only [maxLen]; omega) (by omega) (by simp; omega) ?_; intro v4 w4 hown4 hg4; have hb4 : Below w.heap.size w3 w4 := ((Below.refl w.heap.size w3).alloc hsz3 _).grown hg4 (by simp; omega) (own_block HW3.out); have ho4 := OnlyT.grown (B := w.heap.size) (ts := [63]) hg4 (own_type (HW3.out.alloc _)) (by simp); have hr4 := rdr_grown HR3.out ho4 (by decide) (by decide); clear ho4 hg4))
    have hsz4 : w.heap.size ≤ w4.heap.size := Nat.le_trans hsz3 hb4.size
    have HR4 := Lib.hid (hr4.only (OnlyT.of_below (B := 0) (ts := []) ((Below.refl w4.heap.size w4).alloc (Nat.le_refl _) (.cells #[.int .i64 0, .int .i64 0, .int .i64 0] 96))) (by decide) (by decide))
    have HO4 := Lib.hid (HO3.out.late (hb4.trans ((Below.refl w.heap.size w4).alloc hsz4 (.cells #[.int .i64 0, .int .i64 0, .int .i64 0] 96))))
    have HW4 := Lib.hid (hown4.alloc (.cells #[.int .i64 0, .int .i64 0, .int .i64 0] 96))
    have hk4 : Blk (w4.alloc (.cells #[.int .i64 0, .int .i64 0, .int .i64 0] 96)) w4.heap.size 96 [.int .i64 0, .int .i64 0, .int .i64 0] := heap_alloc_new w4 _
    have HK4 := Lib.hid hk4
    obtain ⟨P, hP⟩ : ∃ P, P = w4.heap.size := ⟨_, rfl⟩
    rw [← hP] at HK4
    have HPP := Lib.hid (show w.heap.size ≤ P by omega)
    simp only [← hP]
    generalize w4.alloc (.cells #[.int .i64 0, .int .i64 0, .int .i64 0] 96) = w6 at *
    clear hk4 hr4 hb4 hown4 hP HR3 HO3 HW3 hsz4 hsz3
    have HN0 := Lib.hid hn0
    clear hn0
    go_loopw [8, 10, 11, 12] (fun v _ _ _ wr => TakenRR w g W n LL o P v wr) (fun v _ _ _ _ => n - lenOfV v)
    case atStart => exact ⟨[x0], 0, 0, 0, s0, by have := HN0.out; simp; omega, HW4.out, .inl rfl, HS0.out, HR4.out, HOO.out.symm, HK4.out, HO4.out⟩
    case round =>
      clear HR4 HO4 HW4 HK4 HOO
      obtain ⟨Y, a, m, b, s, hk, hown, ht, hsl, hrd, hTot, hblk, ho⟩ := hrel
      by_cases hlt : Y.length < n
      · skip
        rcases hR : takeR W (a, m, b) s with ⟨x, ⟨a1, m1, b1⟩, ok, s1⟩
        have c2 := take_st HW.out (a, m, b) ht g s wr hrd
        have ht1 := takeR_ok ht s
        have hsl1 := takeR_len W (a, m, b) s
        rw [hR] at c2 ht1 hsl1
        simp only at c2 ht1 hsl1
        unfold tri triV at c2
        simp only at c2
        obtain ⟨k, hk1⟩ : ∃ k, n - Y.length = k + 1 := ⟨n - Y.length - 1, by omega⟩
        have hc := hblk
        have c0 := hc.cell 0
        have c1 := hc.cell 1
        have c2' := hc.cell 2
        simp only [List.getElem?_cons_zero, List.getElem?_cons_succ] at c0 c1 c2'
        have C2 := Lib.hid c2
        have HOWN := Lib.hid hown
        have HO := Lib.hid ho
        have HBL := Lib.hid hblk
        obtain ⟨A1, cc1, rfl, hcc1, hcc2, -⟩ := own_form hown
        simp only [maxLen] at hcc2
        have hki : (Y.length : Int) < (n : Int) := by omega
        have HKN := Lib.hid (show Y.length < n from hlt)
        cases ok with
        | false =>
          rw [hk1, loopR_stop hR] at hTot
          have HTOT := Lib.hid hTot
          clear c2 hrd hown ho hblk ht ht1 hsl hsl1 hc hlt hk hk1 hR hTot
          go_wp2_with fail
          refine C2.out.mono ?_
          rintro e w4 ⟨rfl, hr4, ho4⟩
          have HO4 := Lib.hid (HO.out.trans ho4)
          have hp4 := HBL.out.only ho4 (by decide)
          have HK4 := Lib.hid hp4
          have d0 := hp4.cell 0
          have d1 := hp4.cell 1
          have d2 := hp4.cell 2
          simp only [List.getElem?_cons_zero, List.getElem?_cons_succ] at d0 d1 d2
          have f0 := hp4.frozen 0
          have f1 := hp4.frozen 1
          have f2 := hp4.frozen 2
          clear hr4 ho4 hp4 C2 c0 c1 c2'
          go_wp2
          go_ret2
          refine ⟨HO4.out.late ((Below.refl w.heap.size w4).alloc HO4.out.size _), _, false, rfl, ⟨_, _, _, rfl⟩, ?_⟩
          rw [← HTOT.out]
        | true =>
          rw [hk1, loopR_next hR] at hTot
          have HTOT := Lib.hid hTot
          have HS1 := Lib.hid (And.intro ht1 (And.intro (Nat.le_trans hsl1 hsl) hk1))
          clear c2 hrd hown ho hblk ht ht1 hsl hsl1 hc hlt hk hk1 hR hTot
          go_wp2_with fail
          refine C2.out.mono ?_
          rintro e w4 ⟨rfl, hr4, ho4⟩
          have HR4 := Lib.hid hr4
          have HO4 := Lib.hid (HO.out.trans ho4)
          have HK4 := Lib.hid (HBL.out.only ho4 (by decide))
          have HW4 := Lib.hid (own_only HOWN.out ho4 (by decide))
          have hsz4 : w.heap.size ≤ w4.heap.size := HO4.out.size
          have HPL := Lib.hid HK4.out.lt
          have hA1 : Y.length + 1 ≤ maxLen := by have := HKN.out; simp only [maxLen]; omega
          have hA2 : (Y.length + 1) * 8 ≤ 140737488355328 := by have := HKN.out; omega
          clear hr4 ho4 C2 c0 c1 c2' HOWN HO HBL
          go_wp2_with ((with_reducible show wpList _ _ _ (({ dst := some 45, op := _, type := _, pos := _, after := _, guard := _ } : Oper) :: _) _ _); go_must (refine wpList_app rfl (.tmp 42) (.tmp 44) 53 rfl w.heap.size 63 i0 (.int .u64 0) 1 8 Tryz.underlying53 hi hz0 hz1 hz2 rfl (by decide) _ _ _ rfl ((HW4.out.alloc _).alloc _) _ _ 1 1 _ rfl (rd_new2 _ _ #[.int .u64 (x : Int)] _) rfl (one1 (.int .u64 (x : Int)) rfl) hA1 hA2 (by simp; omega) ?_; intro v5 w5 hown5 hg5; have hb5 : Below w.heap.size w4 w5 := (((Below.refl w.heap.size w4).alloc hsz4 _).alloc (by simp; omega) _).grown hg5 (by simp; omega) (own_block HW4.out); have ho5 := OnlyT.grown (B := w.heap.size) (ts := [63]) hg5 (own_type ((HW4.out.alloc _).alloc _)) (by simp); have hq5 := blk_new2 (cs := [.int .i64 (a1 : Int), .int .i64 (m1 : Int), .int .i64 (b1 : Int)]) ho5 (by decide); have hp5 := blk_grown2 HK4.out ho5 (by decide); have hr5 := rdr_grown2 HR4.out ho5 (by decide) (by decide); clear ho5 hg5; have HQ5 := Lib.hid hq5; have HP5 := Lib.hid hp5; have HR5 := Lib.hid hr5; have HB5 := Lib.hid hb5; have HW5 := Lib.hid hown5; have e0 := hq5.cell 0; have e1 := hq5.cell 1; have e2 := hq5.cell 2; have d0 := hp5.cell 0; have d1 := hp5.cell 1; have d2 := hp5.cell 2; simp only [List.getElem?_cons_zero, List.getElem?_cons_succ] at e0 e1 e2 d0 d1 d2; have f0 := hp5.frozen 0; have f1 := hp5.frozen 1; have f2 := hp5.frozen 2; clear hq5 hp5 hr5 hb5 hown5))
          have hso := set3_only HP5.out (B := w.heap.size) HPP.out (.int .i64 (a1 : Int)) (.int .i64 (m1 : Int)) (.int .i64 (b1 : Int))
          obtain ⟨A2, cc2, rfl, -, -, -⟩ := own_form HW5.out
          have hlt := HKN.out
          refine ⟨⟨Y ++ [x], a1, m1, b1, s1, by simp; omega, ?_, HS1.out.1, HS1.out.2.1, HR5.out.only hso (by decide) (by decide), ?_, set3 HP5.out _ _ _, (HO4.out.late HB5.out).late (set3_below HPP.out _ _ _)⟩, ?_⟩
          · rw [wvs_append, List.length_append]
            exact own_only HW5.out hso (by decide)
          · rw [List.length_append, List.length_singleton, ← HTOT.out]
            have : n - (Y.length + 1) = k := by have := HS1.out.2.2; omega
            rw [this]
          · simp [lenOfV]; omega
      · skip
        have hkx : Y.length = n := by omega
        have hT : o = some (Y, s) := by rw [← hTot, hkx, Nat.sub_self]; simp [aheadR, loopR]
        have HT := Lib.hid hT
        have HOWN := Lib.hid hown
        have HO := Lib.hid ho
        obtain ⟨A1, c1, rfl, hc1, hc2, -⟩ := own_form hown
        simp only [maxLen] at hc2
        have hki : ¬ (Y.length : Int) < (n : Int) := by omega
        have c2 := rDone_st g s wr hrd (by have := HLL.out; omega)
        obtain ⟨E, hE⟩ : ∃ E, E = doneE s := ⟨_, rfl⟩
        rw [← hE] at c2
        have HE := Lib.hid hE
        obtain ⟨ok, hok⟩ : ∃ ok, ok = decide (E = 0) := ⟨_, rfl⟩
        have hok1 : ((E : Int) == 0) = ok := by rw [hok]; cases E <;> rfl
        have hok2 : decide ((E : Int) = 0) = ok := by rw [hok]; cases E <;> rfl
        have HOK := Lib.hid hok
        have C2 := Lib.hid c2
        clear hE hok c2 hrd hown ho hblk ht hkx hk hTot hT hsl
        go_wp2_with fail
        refine C2.out.mono ?_
        rintro e w9 ⟨rfl, ho9⟩
        have HW9 := Lib.hid (own_only HOWN.out ho9 (by decide))
        have HO9 := Lib.hid (HO.out.trans ho9)
        clear ho9
        go_wp2
        go_ret2
        refine ⟨HO9.out, _, ok, rfl, ⟨_, _, _, rfl⟩, ?_⟩
        rw [HT.out]
        exact ⟨by rw [HOK.out, HE.out], HW9.out⟩
end Go.Proofs.YtcenbaajojdjlaaGreatDoor
