/- Layer 30: the program: Get. -/
import Derived.Test.YtcjjlkfenlmmlaaBlkNld
namespace Go.Proofs.Ytcjjlkfenlmmlaa
open Go.RowKit Go.Sort

theorem Blk.drew1 {w : World} {g : Nat} {t : TypeId} {cs : List Value} (h : Blk w g t cs) : Blk w.drew g t cs := h
/-- What numbers tell of bytes behind a tag, and what Get tells with it. -/
def NumSays (l : List UInt8) (b mo n e ra mi co at_ : Nat) : Prop :=
  getB l b = (if e ≠ 0 then ((0, 0, 0, 0, 0), 0, e) else if n < at_ + 4 then ((0, 0, 0, 0, 0), 0, 11) else ((mo, ra, mi, co, sum4 (l.drop at_)), at_ + 4, 0)) ∧ at_ ≤ n
set_option maxHeartbeats 1000000 in
theorem numLd_any {n c b mo : Nat} {A : Option Addr} {l : List UInt8} {wd rc md : Int} (hn : l.length = n) (hnc : n ≤ c) (hn1 : n ≤ 1000000) (h1n : 1 ≤ n) (hb : b ≤ 16777216) (hx : (l.getD 0 0).toNat = mo + 1) (hmo : mo ≤ 5) :
    ∃ e ra mi co at_ : Nat, NumSays l b mo n e ra mi co at_ ∧ ∀ (W : World) (T G H P B : Nat), Blk W T 24 [.int .i64 (mo : Int), .int .i64 0, .int .i64 0, .int .i64 0, .int .u32 0, .int .i64 0, .int .i64 0] → LaidAt W G H P A n c 1 → Rd W B A (bvs l) → B ≤ T → B ≤ P → T ≠ P →
      Calls Try.prog 20 #[.pointer (some ⟨T, 0, none⟩), .agg #[.int .i64 (b : Int), .int .i64 wd, .int .i64 rc, .int .i64 md], .func (.func 35) #[] #[.pointer (some ⟨G, 0, none⟩), .pointer (some ⟨H, 0, none⟩)]] W fun e' w' => e' = .returned (.int .i64 (e : Int)) ∧
        (e = 0 → Blk w' T 24 [.int .i64 (mo : Int), .int .i64 (ra : Int), .int .i64 (mi : Int), .int .i64 (co : Int), .int .u32 0, .int .i64 0, .int .i64 0] ∧ Blk w' P 3 [.int .i64 (at_ : Int)]) ∧ OnlyS [T, P] W w' := by
  have hg : getB l b = getB2 l (mo + 1) (nbR (lget (l.drop 1)) 1 b) := by
    unfold getB
    rw [if_neg (by omega), if_neg (by omega), hx]
  unfold NumSays
  rw [hg]
  unfold getB2
  rw [hn]
  have hd1 : (l.drop 1).length = n - 1 := by rw [List.length_drop, hn]
  rcases nbR_told (l.drop 1) 1 b with ⟨v, h, hv40, hv1, hvb, hkl, -⟩ | h | h
  · obtain ⟨k, hk⟩ : ∃ k, k = (lput v).length := ⟨_, rfl⟩
    rw [← hk] at h hkl
    have hkn : 1 + k ≤ n := by omega
    by_cases h0 : mo = 0
    · subst h0
      exact ⟨0, v, 0, v, 1 + k, ⟨by rw [h]; rfl, hkn⟩, fun W T G H P B hT hla hr hBT hBP hTP => (numLd_stored hT hla hr hBT hBP hn hnc hn1 h1n hTP hb h).mono fun _ _ ⟨q1, q2, q3, q4⟩ => ⟨q1, fun _ => ⟨q2, q3⟩, q4⟩⟩
    · have hm1 : (mo + 1 = 1) = False := by simp [h0]
      have hcd := fun (R : List Value × Nat × Nat) (hR : takeN l [(2, 0, 3 * v + 64), (3, 0, v - 1)] (1 + k) [.int .i64 (mo : Int), .int .i64 (v : Int), .int .i64 0, .int .i64 0, .int .u32 0, .int .i64 0, .int .i64 0] = R) (W : World) (T G H P B : Nat) hT hla hr hBT hBP hTP => numLd_coded (wd := wd) (rc := rc) (md := md) (T := T) (G := G) (H := H) (P := P) (B := B) (W := W) (c := c) (A := A) hT hla hr hBT hBP hn hnc hn1 h1n hTP hb h hv1 hvb hkn h0 R hR
      have hd2 : (l.drop (1 + k)).length = n - (1 + k) := by rw [List.length_drop, hn]
      rcases nbR_told (l.drop (1 + k)) 0 (3 * v + 64) with ⟨m, h2, -, -, -, hjl, -⟩ | h2 | h2
      · obtain ⟨j, hj⟩ : ∃ j, j = (lput m).length := ⟨_, rfl⟩
        rw [← hj] at h2 hjl
        have hd3 : (l.drop (1 + k + j)).length = n - (1 + k + j) := by rw [List.length_drop, hn]
        rcases nbR_told (l.drop (1 + k + j)) 0 (v - 1) with ⟨d, h3, -, -, -, hil, -⟩ | h3 | h3
        · obtain ⟨i, hi⟩ : ∃ i, i = (lput d).length := ⟨_, rfl⟩
          rw [← hi] at h3 hil
          have hcd' := hcd ([.int .i64 (mo : Int), .int .i64 (v : Int), .int .i64 (m : Int), .int .i64 (d : Int), .int .u32 0, .int .i64 0, .int .i64 0], 1 + k + j + i, 0) (by simp only [takeN, h2, h3, if_true]; rfl)
          exact ⟨0, v, m, d, 1 + k + j + i, ⟨by simp only [h, hm1, h2, h3, if_false]; rfl, by omega⟩, fun W T G H P B hT hla hr hBT hBP hTP => (hcd' W T G H P B hT hla hr hBT hBP hTP).mono fun _ _ ⟨q1, q2, q3, q4⟩ => ⟨q1, fun _ => ⟨q2, q3⟩, q4⟩⟩
        · have hcd' := hcd ([.int .i64 (mo : Int), .int .i64 (v : Int), .int .i64 (m : Int), .int .i64 0, .int .u32 0, .int .i64 0, .int .i64 0], 1 + k + j, 11) (by simp only [takeN, h2, h3, if_true]; rfl)
          exact ⟨11, 0, 0, 0, 0, ⟨by simp only [h, hm1, h2, h3, if_false]; rfl, by omega⟩, fun W T G H P B hT hla hr hBT hBP hTP => (hcd' W T G H P B hT hla hr hBT hBP hTP).mono fun _ _ ⟨q1, _, _, q4⟩ => ⟨q1, fun h => absurd h (by decide), q4⟩⟩
        · have hcd' := hcd ([.int .i64 (mo : Int), .int .i64 (v : Int), .int .i64 (m : Int), .int .i64 0, .int .u32 0, .int .i64 0, .int .i64 0], 1 + k + j, 15) (by simp only [takeN, h2, h3, if_true]; rfl)
          exact ⟨15, 0, 0, 0, 0, ⟨by simp only [h, hm1, h2, h3, if_false]; rfl, by omega⟩, fun W T G H P B hT hla hr hBT hBP hTP => (hcd' W T G H P B hT hla hr hBT hBP hTP).mono fun _ _ ⟨q1, _, _, q4⟩ => ⟨q1, fun h => absurd h (by decide), q4⟩⟩
      · have hcd' := hcd ([.int .i64 (mo : Int), .int .i64 (v : Int), .int .i64 0, .int .i64 0, .int .u32 0, .int .i64 0, .int .i64 0], 1 + k, 11) (by simp only [takeN, h2]; rfl)
        exact ⟨11, 0, 0, 0, 0, ⟨by simp only [h, hm1, h2, if_false]; rfl, by omega⟩, fun W T G H P B hT hla hr hBT hBP hTP => (hcd' W T G H P B hT hla hr hBT hBP hTP).mono fun _ _ ⟨q1, _, _, q4⟩ => ⟨q1, fun h => absurd h (by decide), q4⟩⟩
      · have hcd' := hcd ([.int .i64 (mo : Int), .int .i64 (v : Int), .int .i64 0, .int .i64 0, .int .u32 0, .int .i64 0, .int .i64 0], 1 + k, 15) (by simp only [takeN, h2]; rfl)
        exact ⟨15, 0, 0, 0, 0, ⟨by simp only [h, hm1, h2, if_false]; rfl, by omega⟩, fun W T G H P B hT hla hr hBT hBP hTP => (hcd' W T G H P B hT hla hr hBT hBP hTP).mono fun _ _ ⟨q1, _, _, q4⟩ => ⟨q1, fun h => absurd h (by decide), q4⟩⟩
  · exact ⟨11, 0, 0, 0, 0, ⟨by rw [h]; rfl, by omega⟩, fun W T G H P B hT hla hr hBT hBP hTP => (numLd_err (e := 11) hT hla hr hBT hBP hn hnc hn1 h1n hTP hb (by rw [h]) (by decide)).mono fun _ _ ⟨q1, q4⟩ => ⟨q1, fun h => absurd h (by decide), q4⟩⟩
  · exact ⟨15, 0, 0, 0, 0, ⟨by rw [h]; rfl, by omega⟩, fun W T G H P B hT hla hr hBT hBP hTP => (numLd_err (e := 15) hT hla hr hBT hBP hn hnc hn1 h1n hTP hb (by rw [h]) (by decide)).mono fun _ _ ⟨q1, q4⟩ => ⟨q1, fun h => absurd h (by decide), q4⟩⟩
set_option maxHeartbeats 1000000 in
set_option maxRecDepth 100000 in
theorem blkLaidFrom_any (A : Option Addr) (n c P : Nat) (W : World) : Calls Try.prog 27 #[.slice A n c, .pointer (some ⟨P, 0, none⟩)] W fun e w' => ∃ G H, e = .returned (.func (.func 35) #[] #[.pointer (some ⟨G, 0, none⟩), .pointer (some ⟨H, 0, none⟩)]) ∧ Blk w' G 32 [.slice A n c] ∧ Blk w' H 56 [.pointer (some ⟨P, 0, none⟩)] ∧ W.heap.size ≤ G ∧ W.heap.size ≤ H ∧ Below W.heap.size W w' := by
  go_enter Try.func27, Try.ntmps27
  have hmf : ∀ (fn : Fn) (first cap : Array Value) (w : World), (Instr.makeFunc fn first cap).run Try.prog w = .ok (.func fn first cap) w := fun _ _ _ _ => rfl
  go_wp2
  go_ret
  exact ⟨_, _, rfl, (blk_new W _ _ rfl).grow ((Below.refl _ _).alloc (Nat.le_refl _) _), blk_new _ _ _ (by simp), by omega, by omega, ((Below.refl _ _).alloc (Nat.le_refl _) _).alloc (by simp) _⟩
set_option maxHeartbeats 4000000 in
set_option maxRecDepth 100000 in
theorem blkGet_any (A : Option Addr) (n c : Nat) (l : List UInt8) (W : World) (hr : Rd W W.heap.size A (bvs l)) (hn : l.length = n) (hnc : n ≤ c) (hn1 : n ≤ 1000000) {b : Nat} {wd rc md : Int} (hb : b ≤ 16777216) :
    Calls Try.prog 13 #[.slice A n c, .agg #[.int .i64 (b : Int), .int .i64 wd, .int .i64 rc, .int .i64 md]] W (BGetOut W (getB l b)) := by
  obtain ⟨r, hr0⟩ : ∃ r, r = getB l b := ⟨_, rfl⟩
  rw [← hr0]
  have HR0 := Lib.hid hr0
  have CT := Lib.hid (fun w' (hr' : Rd w' w'.heap.size A (bvs l)) => blkTag_any A n c l w' hr' hn 1 6)
  have HRD := Lib.hid hr
  have HB0 := Lib.hid (show Below W.heap.size W ((W.alloc (.cells #[.int .i64 (b : Int), .int .i64 wd, .int .i64 rc, .int .i64 md] 26)).alloc (.cells #[.int .i64 0, .int .i64 0, .int .i64 0, .int .i64 0, .int .u32 0, .int .i64 0, .int .i64 0] 24)) from ((Below.refl _ _).alloc (Nat.le_refl _) _).alloc (by simp) _)
  obtain ⟨t, ht⟩ : ∃ t, t = tagE l 1 6 := ⟨_, rfl⟩
  rw [← ht] at CT
  have HT := Lib.hid ht
  clear hr0 hr ht
  go_enter Try.func13, Try.ntmps13
  go_wp2_with fail
  refine (CT.out _ (by have h := HRD.out.below HB0.out; exact h.more (by simp; omega))).mono ?_
  rintro _ w1 ⟨rfl, hw1⟩
  subst hw1
  by_cases ht0 : t = 0
  · have htz : ¬ l.length = 0 ∧ ¬ ((l.getD 0 0).toNat < 1 ∨ 6 < (l.getD 0 0).toNat) := by
      have h := HT.out
      unfold tagE at h
      constructor
      · intro h0
        rw [if_pos h0] at h
        omega
      · intro h1
        by_cases h0 : l.length = 0
        · rw [if_pos h0] at h
          omega
        · rw [if_neg h0, if_pos h1] at h
          omega
    obtain ⟨hl0, hl1⟩ := htz
    obtain ⟨mo, hmo⟩ : ∃ mo, (l.getD 0 0).toNat = mo + 1 := ⟨(l.getD 0 0).toNat - 1, by omega⟩
    have hmo5 : mo ≤ 5 := by omega
    obtain ⟨e, ra, mi, co, at_, ⟨hg, hat⟩, hnum⟩ := numLd_any (A := A) (wd := wd) (rc := rc) (md := md) hn hnc hn1 (by omega) hb hmo hmo5
    rw [← HR0.out] at hg
    obtain ⟨ab, ao, hA, hbl, hcell⟩ := HRD.out.at_ (by rw [bvs_length]; omega)
    have hgg : (bvs l)[0]? = some (.int .u8 ((mo + 1 : Nat) : Int)) := by
      unfold bvs
      rw [List.getElem?_map, ← hmo, List.getD_eq_getElem?_getD, List.getElem?_eq_getElem (by omega)]
      rfl
    have c0 := (HB0.out.cell (p := ⟨ab, ao, none⟩) hbl).trans (hcell 0 _ hgg)
    rw [Int.natCast_add] at c0
    have hni : (0 : Int) < (n : Int) := by omega
    have HNUM := Lib.hid hnum
    have HG := Lib.hid hg
    have HMO := Lib.hid hmo
    subst hA
    subst ht0
    clear hnum hg hmo hl0 hl1 hgg hcell CT HT
    obtain ⟨w4, hw4⟩ : ∃ w4 : World, w4 = ((((W.alloc (.cells #[.int .i64 (b : Int), .int .i64 wd, .int .i64 rc, .int .i64 md] 26)).alloc (.cells #[.int .i64 0, .int .i64 0, .int .i64 0, .int .i64 0, .int .u32 0, .int .i64 0, .int .i64 0] 24)).alloc (.cells #[.int .i64 (mo : Int), .int .i64 0, .int .i64 0, .int .i64 0, .int .u32 0, .int .i64 0, .int .i64 0] 24)).alloc (.cells #[.int .i64 1] 3)) := ⟨_, rfl⟩
    have hB4 : Below W.heap.size W w4 := by rw [hw4]; exact (((((Below.refl _ _).alloc (Nat.le_refl _) _).alloc (by simp) _).alloc (by simp <;> omega) _).alloc (by simp <;> omega) _)
    have hO4 : Blk w4 W.heap.size 26 [.int .i64 (b : Int), .int .i64 wd, .int .i64 rc, .int .i64 md] := by
      rw [hw4]
      exact (blk_new W _ _ rfl).grow ((((Below.refl _ _).alloc (Nat.le_refl _) _).alloc (by simp) _).alloc (by simp <;> omega) _)
    have hZ4 : Blk w4 (W.heap.size + 1) 24 [.int .i64 0, .int .i64 0, .int .i64 0, .int .i64 0, .int .u32 0, .int .i64 0, .int .i64 0] := by
      rw [hw4]
      exact (blk_new _ _ _ (by simp)).grow (((Below.refl _ _).alloc (Nat.le_refl _) _).alloc (by simp) _)
    have hT4 : Blk w4 (W.heap.size + 1 + 1) 24 [.int .i64 (mo : Int), .int .i64 0, .int .i64 0, .int .i64 0, .int .u32 0, .int .i64 0, .int .i64 0] := by
      rw [hw4]
      exact (blk_new _ _ _ (by simp)).grow ((Below.refl _ _).alloc (Nat.le_refl _) _)
    have hP4 : Blk w4 (W.heap.size + 1 + 1 + 1) 3 [.int .i64 1] := by
      rw [hw4]
      exact blk_new _ _ _ (by simp)
    have HB4 := Lib.hid hB4
    have HO4 := Lib.hid hO4
    have HZ4 := Lib.hid hZ4
    have HT4 := Lib.hid hT4
    have HP4 := Lib.hid hP4
    have HW4 := Lib.hid hw4
    have hRD4 := HRD.out.below hB4
    have HRD4 := Lib.hid hRD4
    have q0 := hO4.cell 0
    have q1 := hO4.cell 1
    have q2 := hO4.cell 2
    have q3 := hO4.cell 3
    simp only [List.getElem?_cons_zero, List.getElem?_cons_succ] at q0 q1 q2 q3
    clear hB4 hO4 hZ4 hT4 hP4 hw4 hRD4
    go_wp2_with fail
    rw [← HW4.out]
    clear c0
    have CF := Lib.hid (fun W' => blkLaidFrom_any (some ⟨ab, ao, none⟩) n c (W.heap.size + 1 + 1 + 1) W')
    have q0d : w4.drew.cell? ⟨W.heap.size, 0, none⟩ = some (.int .i64 (b : Int)) := q0
    have q1d : w4.drew.cell? ⟨W.heap.size, 1, none⟩ = some (.int .i64 wd) := q1
    have q2d : w4.drew.cell? ⟨W.heap.size, 2, none⟩ = some (.int .i64 rc) := q2
    have q3d : w4.drew.cell? ⟨W.heap.size, 3, none⟩ = some (.int .i64 md) := q3
    go_region_with (first
      | (go_at_call 27; refine (CF.out _).mono ?_; rintro _ w5 ⟨G, H, rfl, hG, hH, hGn, hHn, hb5⟩; have hb5' : Below w4.heap.size w4 w5 := (Below.refl _ _).drew.trans hb5; have HG5 := Lib.hid hG; have HH5 := Lib.hid hH; have HB5 := Lib.hid hb5'; have q0e := (HO4.out.grow hb5').cell 0; have q1e := (HO4.out.grow hb5').cell 1; have q2e := (HO4.out.grow hb5').cell 2; have q3e := (HO4.out.grow hb5').cell 3; simp only [List.getElem?_cons_zero, List.getElem?_cons_succ] at q0e q1e q2e q3e; clear hG hH hb5 hb5' hGn hHn)
      | (go_at_call 20; refine (HNUM.out _ (W.heap.size + 1 + 1) _ _ (W.heap.size + 1 + 1 + 1) W.heap.size (HT4.out.grow HB5.out) ⟨HG5.out, HH5.out, HP4.out.grow HB5.out⟩ (HRD4.out.below (HB5.out.mono HB4.out.size)) (by omega) (by omega) (by omega)).mono ?_; rintro _ w6 ⟨rfl, hT6, ho6⟩; have HT6 := Lib.hid hT6; have HO6 := Lib.hid ho6; clear hT6 ho6))
    all_goals
      have hO := HB4.out.trans (HB5.out.mono HB4.out.size)
      have HB6 := Lib.hid (hO.trans (HO6.out.below (B := W.heap.size) (by simp; omega) hO.size))
      have HZ6 := Lib.hid (HO6.out.blk (HZ4.out.grow HB5.out) (by simp))
      have HRD6 := Lib.hid ((HRD.out.below HB6.out).more HB6.out.size)
      clear hO HO6 HZ4 HRD4 HO4 HT4 HP4 HG5 HH5 HB5 HNUM HB4 HW4 q0 q1 q2 q3 q0d q1d q2d q3d q0e q1e q2e q3e CF
      by_cases he0 : e = 0
      · obtain ⟨hT6, hP6⟩ := HT6.out he0
        subst he0
        have HTB := Lib.hid hT6
        have HPB := Lib.hid hP6
        have CS := Lib.hid (fun A3 c3 w (hr : Rd w w.heap.size A3 (bvs (l.drop at_))) (hc : n - at_ ≤ c3) => blkGetSum_any A3 (n - at_) c3 (l.drop at_) w hr (by rw [List.length_drop, hn]) hc)
        have p0 := hP6.cell 0
        simp only [List.getElem?_cons_zero] at p0
        clear hT6 hP6 HT6
        have hati : (at_ : Int) ≤ (n : Int) := by omega
        go_wp2_with ((with_reducible show wpList _ _ _ (({ dst := some 35, op := _, type := _, pos := _, after := _, guard := _ } : Oper) :: _) _ _); go_must (refine wpList_from rfl (.tmp 33) (.tmp 34) rfl Try.underlying32 (by kernel_rfl) w6.heap.size (some ⟨ab, ao, none⟩) n c at_ (bvs l) rfl rfl HRD6.out (by rw [bvs_length]; exact hn) hnc hat ?_; intro A3 c3 hc3 hrd3; have HRD7 := Lib.hid hrd3; clear hrd3))
        refine (CS.out A3 c3 _ (by have h := HRD7.out; rw [bvs_dropped] at h; exact h) hc3).mono ?_
        rintro _ w7 ⟨rfl, hb7⟩
        have HT7 := Lib.hid (HTB.out.grow hb7)
        have HP7 := Lib.hid (HPB.out.grow hb7)
        have HZ7 := Lib.hid (HZ6.out.grow hb7)
        have HB7 := Lib.hid (HB6.out.trans (hb7.mono HB6.out.size))
        clear hb7 CS HTB HPB HZ6 HB6 HRD7 HRD6 p0
        have p0 := HP7.out.cell 0
        have t0 := HT7.out.cell 0
        have t1 := HT7.out.cell 1
        have t2 := HT7.out.cell 2
        have t3 := HT7.out.cell 3
        have t4 := HT7.out.cell 4
        have t5 := HT7.out.cell 5
        have t6 := HT7.out.cell 6
        have f4 := HT7.out.frozen 4
        have z0 := HZ7.out.cell 0
        have z1 := HZ7.out.cell 1
        have z2 := HZ7.out.cell 2
        have z3 := HZ7.out.cell 3
        have z4 := HZ7.out.cell 4
        have z5 := HZ7.out.cell 5
        have z6 := HZ7.out.cell 6
        have g0 := HZ7.out.frozen 0
        have g1 := HZ7.out.frozen 1
        have g2 := HZ7.out.frozen 2
        have g3 := HZ7.out.frozen 3
        have g4 := HZ7.out.frozen 4
        have g5 := HZ7.out.frozen 5
        have g6 := HZ7.out.frozen 6
        simp only [List.getElem?_cons_zero, List.getElem?_cons_succ] at p0 t0 t1 t2 t3 t4 t5 t6 z0 z1 z2 z3 z4 z5 z6
        by_cases hsz : n - at_ < 4
        · rw [if_pos hsz, if_pos hsz]
          have hres : r = ((0, 0, 0, 0, 0), 0, 11) := by rw [HG.out, if_neg (fun h => h rfl), if_pos (by omega)]
          have HRS := Lib.hid hres
          clear hres hsz
          go_wp2
          exact bodyPost_ret (results_cell_tmp2 Try.results13 _ _ (W.heap.size + 1) 24 _ (0, 0) _ rfl (set7 (HZ7.out.setOther ⟨W.heap.size + 1 + 1, 4, none⟩ _ (by simp)) _ _ _ _ _ _ _) Try.underlying24 rfl size_blk) rfl ⟨by rw [HRS.out]; rfl, below7 (HB7.out.setCell (p := ⟨W.heap.size + 1 + 1, 4, none⟩) (by simp; omega) _) (by omega) _ _ _ _ _ _ _⟩
        · rw [if_neg hsz, if_neg hsz]
          obtain ⟨s, hs⟩ : ∃ s, s = sum4 (l.drop at_) := ⟨_, rfl⟩
          rw [← hs]
          have hsl : s < 4294967296 := by rw [hs]; exact sum4_lt _
          have hres : r = ((mo, ra, mi, co, s), at_ + 4, 0) := by rw [HG.out, if_neg (fun h => h rfl), if_neg (by omega), hs]
          have HRS := Lib.hid hres
          clear hres hsz hs
          go_wp2
          go_region
          all_goals
            go_wp2
            have hS := Blk.drew1 (set7 (HZ7.out.setOther ⟨W.heap.size + 1 + 1, 4, none⟩ (.int .u32 (s : Int)) (by simp)) (.int .i64 (mo : Int)) (.int .i64 (ra : Int)) (.int .i64 (mi : Int)) (.int .i64 (co : Int)) (.int .u32 (s : Int)) (.int .i64 0) (.int .i64 0))
            have hBe := (below7 (HB7.out.setCell (p := ⟨W.heap.size + 1 + 1, 4, none⟩) (by simp; omega) (.int .u32 (s : Int))) (show W.heap.size ≤ W.heap.size + 1 by omega) (.int .i64 (mo : Int)) (.int .i64 (ra : Int)) (.int .i64 (mi : Int)) (.int .i64 (co : Int)) (.int .u32 (s : Int)) (.int .i64 0) (.int .i64 0)).drew
            refine bodyPost_ret (results_cell_tmp2 Try.results13 _ _ (W.heap.size + 1) 24 _ (0, 0) _ rfl hS Try.underlying24 rfl size_blk) rfl ⟨?_, hBe⟩
            rw [HRS.out]
            simp only [Int.natCast_add]
            rfl
      · have hei : ¬ (e : Int) = 0 := by omega
        have hres : r = ((0, 0, 0, 0, 0), 0, e) := by rw [HG.out, if_pos he0]
        have HRS := Lib.hid hres
        clear hres he0 HT6
        have z0 := HZ6.out.cell 0
        have z1 := HZ6.out.cell 1
        have z2 := HZ6.out.cell 2
        have z3 := HZ6.out.cell 3
        have z4 := HZ6.out.cell 4
        have z5 := HZ6.out.cell 5
        have z6 := HZ6.out.cell 6
        have g0 := HZ6.out.frozen 0
        have g1 := HZ6.out.frozen 1
        have g2 := HZ6.out.frozen 2
        have g3 := HZ6.out.frozen 3
        have g4 := HZ6.out.frozen 4
        have g5 := HZ6.out.frozen 5
        have g6 := HZ6.out.frozen 6
        simp only [List.getElem?_cons_zero, List.getElem?_cons_succ] at z0 z1 z2 z3 z4 z5 z6
        go_wp2
        exact bodyPost_ret (results_cell_tmp2 Try.results13 _ _ (W.heap.size + 1) 24 _ (0, 0) _ rfl (set7 HZ6.out _ _ _ _ _ _ _) Try.underlying24 rfl size_blk) rfl ⟨by rw [HRS.out]; rfl, below7 HB6.out (by omega) _ _ _ _ _ _ _⟩
  · have hti : ¬ (t : Int) = 0 := by omega
    have hres : r = ((0, 0, 0, 0, 0), 0, t) := by
      rw [HR0.out]
      have h := HT.out
      unfold tagE at h
      unfold getB
      by_cases h0 : l.length = 0
      · rw [if_pos h0] at h
        rw [if_pos h0, h]
      · rw [if_neg h0] at h
        rw [if_neg h0]
        by_cases h1 : (l.getD 0 0).toNat < 1 ∨ 6 < (l.getD 0 0).toNat
        · rw [if_pos h1] at h
          rw [if_pos (by omega), h]
        · rw [if_neg h1] at h
          exact absurd h ht0
    have HRS := Lib.hid hres
    clear hres ht0 CT
    go_wp2
    exact bodyPost_ret (results_cell_tmp2 Try.results13 _ _ (W.heap.size + 1) 24 _ (0, 0) _ rfl (blk_new (W.alloc (.cells #[.int .i64 (b : Int), .int .i64 wd, .int .i64 rc, .int .i64 md] 26)) _ _ (by simp)) Try.underlying24 rfl size_blk) rfl ⟨by rw [HRS.out]; rfl, HB0.out⟩
end Go.Proofs.Ytcjjlkfenlmmlaa
