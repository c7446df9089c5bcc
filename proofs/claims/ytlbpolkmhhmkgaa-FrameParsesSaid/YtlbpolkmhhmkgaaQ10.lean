/-
  Layer 30: the reference: Get, GetEnd. · Layer 30: what was put is got; what was cut ends too early; lengths. Pure.
-/
import Derived.Test.YtlbpolkmhhmkgaaQ09
namespace Go.Proofs.Ytlbpolkmhhmkgaa
open Go.RowKit

theorem nbR_told (l : List UInt8) (a b : Nat) : (∃ x, nbR (lget l) a b = (x, (lput x).length, 0) ∧ x ≤ 1099511627776 ∧ a ≤ x ∧ x ≤ b ∧ (lput x).length ≤ l.length ∧ l.take (lput x).length = lput x) ∨ nbR (lget l) a b = (0, 0, 11) ∨ nbR (lget l) a b = (0, 0, 15) := by
  rcases lget_told l with ⟨x, h, -, hl, ht⟩ | h | h
  · rw [h]
    unfold nbR
    rw [if_pos rfl]
    by_cases hc : x ≤ 1099511627776 ∧ a ≤ x ∧ x ≤ b
    · rw [if_pos hc]
      exact .inl ⟨x, rfl, hc.1, hc.2.1, hc.2.2, hl, ht⟩
    · rw [if_neg hc]
      exact .inr (.inr rfl)
  · rw [h]
    exact .inr (.inl rfl)
  · rw [h]
    exact .inr (.inr rfl)
/-- What GetEnd tells of bytes. -/
def endG (l : List UInt8) : Nat × Nat × Nat × Nat :=
  if l.length = 0 then (0, 0, 0, 11)
  else if (l.getD 0 0).toNat ≠ 0 then (0, 0, 0, 14)
  else if (nbR (lget (l.drop 1)) 0 1099511627776).2.2 ≠ 0 then (0, 0, 0, (nbR (lget (l.drop 1)) 0 1099511627776).2.2)
  else if l.length < 1 + (nbR (lget (l.drop 1)) 0 1099511627776).2.1 + 4 then (0, 0, 0, 11)
  else ((nbR (lget (l.drop 1)) 0 1099511627776).1, sum4 (l.drop (1 + (nbR (lget (l.drop 1)) 0 1099511627776).2.1)), 1 + (nbR (lget (l.drop 1)) 0 1099511627776).2.1 + 4, 0)
def EndOut (W : World) (r : Nat × Nat × Nat × Nat) (e : Ending) (w' : World) : Prop := e = .returned (.tuple #[.int .i64 (r.1 : Int), .int .u32 (r.2.1 : Int), .int .i64 (r.2.2.1 : Int), .int .i64 (r.2.2.2 : Int)]) ∧ Below W.heap.size W w'
theorem bvs_dropped (l : List UInt8) (k : Nat) : (bvs l).drop k = bvs (l.drop k) := bvs_drop l k
set_option maxRecDepth 100000 in
set_option maxHeartbeats 2000000 in
theorem refGetEnd_any (A : Option Addr) (n c : Nat) (l : List UInt8) (W : World) (hr : Rd W W.heap.size A (bvs l)) (hn : l.length = n) (hnc : n ≤ c) (hn1 : n ≤ 100000) :
    Calls Try.prog 19 #[.slice A n c] W (EndOut W (endG l)) := by
  obtain ⟨r, hr0⟩ : ∃ r, r = endG l := ⟨_, rfl⟩
  rw [← hr0]
  have HR0 := Lib.hid hr0
  have HN := Lib.hid hn
  have HRD := Lib.hid hr
  clear hr0
  by_cases h0 : n = 0
  · have hres : r = (0, 0, 0, 11) := by rw [HR0.out]; unfold endG; rw [if_pos (by omega)]
    have HRS := Lib.hid hres
    subst h0
    clear hres hr
    go_enter Try.func19, Try.ntmps19
    go_wp2
    exact bodyPost_ret (results_tmp4 rfl _ _) rfl ⟨by rw [HRS.out]; rfl, Below.refl _ _⟩
  · obtain ⟨ab, ao, rfl, hbl, hcell⟩ := hr.at_ (by rw [bvs_length]; omega)
    have hg : (bvs l)[0]? = some (.int .u8 ((l.getD 0 0).toNat : Int)) := by
      unfold bvs
      rw [List.getElem?_map, List.getD_eq_getElem?_getD, List.getElem?_eq_getElem (by omega)]
      rfl
    have c0 := hcell 0 _ hg
    rw [Nat.add_zero] at c0
    obtain ⟨x, hx⟩ : ∃ x, x = (l.getD 0 0).toNat := ⟨_, rfl⟩
    rw [← hx] at c0
    have HX := Lib.hid hx
    have h0i : (0 : Int) < (n : Int) := by omega
    have h1n : 1 ≤ n := by omega
    have hne0 : ¬ (n : Int) = 0 := by omega
    clear hx hg hcell hbl hr
    by_cases hx0 : x = 0
    · subst hx0
      obtain ⟨y, hy⟩ : ∃ y, y = nbR (lget (l.drop 1)) 0 1099511627776 := ⟨_, rfl⟩
      have hyt := nbR_told (l.drop 1) 0 1099511627776
      rw [← hy] at hyt
      have CN := Lib.hid (fun A2 c2 w (hr : Rd w w.heap.size A2 (bvs (l.drop 1))) => refNum_any A2 (n - 1) c2 (l.drop 1) w hr (by rw [List.length_drop, hn]) (by omega) 0 1099511627776)
      rw [← hy] at CN
      have HRY := Lib.hid (show r = if y.2.2 ≠ 0 then (0, 0, 0, y.2.2) else if n < 1 + y.2.1 + 4 then (0, 0, 0, 11) else (y.1, sum4 (l.drop (1 + y.2.1)), 1 + y.2.1 + 4, 0) by
        rw [HR0.out]; unfold endG; rw [if_neg (by omega), if_neg (by rw [← HX.out]; decide), ← hy, hn])
      have HYT := Lib.hid hyt
      clear hy hyt
      go_enter Try.func19, Try.ntmps19
      go_wp2_with ((with_reducible show wpList _ _ _ (({ dst := some 18, op := _, type := _, pos := _, after := _, guard := _ } : Oper) :: _) _ _); go_must (refine wpList_from rfl (.tmp 17) (.const (.int .i64 1)) rfl Try.underlying22 (by kernel_rfl) W.heap.size (some ⟨ab, ao, none⟩) n c 1 (bvs l) rfl rfl HRD.out (by rw [bvs_length]; exact HN.out) hnc h1n ?_; intro A2 c2 hc2 hrd2))
      rw [bvs_dropped] at hrd2
      have C := CN.out A2 c2 W hrd2
      clear CN
      rcases HYT.out with ⟨v, hv, hv40, -, -, hvl, -⟩ | hv | hv
      · obtain ⟨k, hk⟩ : ∃ k, k = (lput v).length := ⟨_, rfl⟩
        rw [← hk] at hv hvl
        subst hv
        have hkp : 0 < k := by rw [hk]; exact lput_pos v
        rw [List.length_drop, hn] at hvl
        clear hk
        refine C.mono ?_
        rintro e w2 ⟨rfl, hw⟩
        subst hw
        clear C hrd2 HYT
        by_cases hsz : n < 1 + k + 4
        · have hres : r = (0, 0, 0, 11) := by rw [HRY.out, if_neg (fun h => h rfl), if_pos hsz]
          have hszi : (n : Int) < 1 + (k : Int) + 4 := by omega
          have HRS := Lib.hid hres
          clear hres
          go_wp2
          exact bodyPost_ret (results_tmp4 rfl _ _) rfl ⟨by rw [HRS.out]; rfl, Below.refl _ _⟩
        · have hszi : ¬ (n : Int) < 1 + (k : Int) + 4 := by omega
          have hres : r = (v, sum4 (l.drop (1 + k)), 1 + k + 4, 0) := by rw [HRY.out, if_neg (fun h => h rfl), if_neg hsz]
          have HRS := Lib.hid hres
          have CS := Lib.hid (fun A3 c3 w (hr : Rd w w.heap.size A3 (bvs (l.drop (1 + k)))) => refBSum_any A3 (n - (1 + k)) c3 (l.drop (1 + k)) w hr (by rw [List.length_drop, hn]) (by omega))
          obtain ⟨s, hs⟩ : ∃ s, s = sum4 (l.drop (1 + k)) := ⟨_, rfl⟩
          rw [← hs] at CS
          have HS := Lib.hid hs
          have hkn : 1 + k ≤ n := by omega
          clear hres hsz hs
          go_wp2_with ((with_reducible show wpList _ _ _ (({ dst := some 36, op := _, type := _, pos := _, after := _, guard := _ } : Oper) :: _) _ _); go_must (refine wpList_from rfl (.tmp 33) (.tmp 35) rfl Try.underlying22 (by kernel_rfl) w2.heap.size (some ⟨ab, ao, none⟩) n c (1 + k) (bvs l) rfl (by rw [Int.natCast_add]; rfl) HRD.out (by rw [bvs_length]; exact HN.out) hnc hkn ?_; intro A3 c3 hc3 hrd3))
          rw [bvs_dropped] at hrd3
          refine (CS.out A3 c3 w2 hrd3).mono ?_
          rintro e w3 ⟨rfl, hb3⟩
          have HB3 := Lib.hid hb3
          clear hrd3 hb3 CS
          go_wp2
          refine bodyPost_ret (results_tmp4 rfl _ _) rfl ⟨?_, HB3.out⟩
          rw [HRS.out, ← HS.out]
          simp only [Int.natCast_add]
          rfl
      · subst hv
        have hres : r = (0, 0, 0, 11) := by rw [HRY.out]; rfl
        have HRS := Lib.hid hres
        refine C.mono ?_
        rintro e w2 ⟨rfl, hw⟩
        subst hw
        clear C hrd2 hres
        go_wp2
        exact bodyPost_ret (results_tmp4 rfl _ _) rfl ⟨by rw [HRS.out]; rfl, Below.refl _ _⟩
      · subst hv
        have hres : r = (0, 0, 0, 15) := by rw [HRY.out]; rfl
        have HRS := Lib.hid hres
        refine C.mono ?_
        rintro e w2 ⟨rfl, hw⟩
        subst hw
        clear C hrd2 hres
        go_wp2
        exact bodyPost_ret (results_tmp4 rfl _ _) rfl ⟨by rw [HRS.out]; rfl, Below.refl _ _⟩
    · have hres : r = (0, 0, 0, 14) := by rw [HR0.out]; unfold endG; rw [if_neg (by omega), if_pos (by rw [← HX.out]; exact hx0)]
      have HRS := Lib.hid hres
      have hxi : (0 : Int) < (x : Int) := by omega
      clear hres hx0
      go_enter Try.func19, Try.ntmps19
      go_wp2
      exact bodyPost_ret (results_tmp4 rfl _ _) rfl ⟨by rw [HRS.out]; rfl, Below.refl _ _⟩
/-- A block's cells (From and At 0). -/
def blkC (q : Nat × Nat × Nat × Nat × Nat) : List Value := [.int .i64 (q.1 : Int), .int .i64 (q.2.1 : Int), .int .i64 (q.2.2.1 : Int), .int .i64 (q.2.2.2.1 : Int), .int .u32 (q.2.2.2.2 : Int), .int .i64 0, .int .i64 0]
/-- What Get tells of bytes behind the first number. -/
def getB2 (l : List UInt8) (x : Nat) (y : Nat × Nat × Nat) : (Nat × Nat × Nat × Nat × Nat) × Nat × Nat :=
  if y.2.2 ≠ 0 then ((0, 0, 0, 0, 0), 0, y.2.2)
  else if x = 1 then (if l.length < 1 + y.2.1 + 4 then ((0, 0, 0, 0, 0), 0, 11) else ((0, y.1, 0, y.1, sum4 (l.drop (1 + y.2.1))), 1 + y.2.1 + 4, 0))
  else if (nbR (lget (l.drop (1 + y.2.1))) 0 (3 * y.1 + 64)).2.2 ≠ 0 then ((0, 0, 0, 0, 0), 0, (nbR (lget (l.drop (1 + y.2.1))) 0 (3 * y.1 + 64)).2.2)
  else if (nbR (lget (l.drop (1 + y.2.1 + (nbR (lget (l.drop (1 + y.2.1))) 0 (3 * y.1 + 64)).2.1))) 0 (y.1 - 1)).2.2 ≠ 0 then ((0, 0, 0, 0, 0), 0, (nbR (lget (l.drop (1 + y.2.1 + (nbR (lget (l.drop (1 + y.2.1))) 0 (3 * y.1 + 64)).2.1))) 0 (y.1 - 1)).2.2)
  else if l.length < 1 + y.2.1 + (nbR (lget (l.drop (1 + y.2.1))) 0 (3 * y.1 + 64)).2.1 + (nbR (lget (l.drop (1 + y.2.1 + (nbR (lget (l.drop (1 + y.2.1))) 0 (3 * y.1 + 64)).2.1))) 0 (y.1 - 1)).2.1 + 4 then ((0, 0, 0, 0, 0), 0, 11)
  else ((x - 1, y.1, (nbR (lget (l.drop (1 + y.2.1))) 0 (3 * y.1 + 64)).1, (nbR (lget (l.drop (1 + y.2.1 + (nbR (lget (l.drop (1 + y.2.1))) 0 (3 * y.1 + 64)).2.1))) 0 (y.1 - 1)).1,
    sum4 (l.drop (1 + y.2.1 + (nbR (lget (l.drop (1 + y.2.1))) 0 (3 * y.1 + 64)).2.1 + (nbR (lget (l.drop (1 + y.2.1 + (nbR (lget (l.drop (1 + y.2.1))) 0 (3 * y.1 + 64)).2.1))) 0 (y.1 - 1)).2.1))),
    1 + y.2.1 + (nbR (lget (l.drop (1 + y.2.1))) 0 (3 * y.1 + 64)).2.1 + (nbR (lget (l.drop (1 + y.2.1 + (nbR (lget (l.drop (1 + y.2.1))) 0 (3 * y.1 + 64)).2.1))) 0 (y.1 - 1)).2.1 + 4, 0)
/-- What Get tells of bytes. -/
def getB (l : List UInt8) (most : Nat) : (Nat × Nat × Nat × Nat × Nat) × Nat × Nat :=
  if l.length = 0 then ((0, 0, 0, 0, 0), 0, 11)
  else if (l.getD 0 0).toNat = 0 ∨ 6 < (l.getD 0 0).toNat then ((0, 0, 0, 0, 0), 0, 14)
  else getB2 l (l.getD 0 0).toNat (nbR (lget (l.drop 1)) 1 most)
def BGetOut (W : World) (r : (Nat × Nat × Nat × Nat × Nat) × Nat × Nat) (e : Ending) (w' : World) : Prop := e = .returned (.tuple #[.agg (blkC r.1).toArray, .int .i64 (r.2.1 : Int), .int .i64 (r.2.2 : Int)]) ∧ Below W.heap.size W w'
theorem set7 {w : World} {g : Nat} {t : TypeId} {u0 u1 u2 u3 u4 u5 u6 : Value} (h : Blk w g t [u0, u1, u2, u3, u4, u5, u6]) (v0 v1 v2 v3 v4 v5 v6 : Value) : Blk (((((((w.setCell ⟨g, 0, none⟩ v0).setCell ⟨g, 1, none⟩ v1).setCell ⟨g, 2, none⟩ v2).setCell ⟨g, 3, none⟩ v3).setCell ⟨g, 4, none⟩ v4).setCell ⟨g, 5, none⟩ v5).setCell ⟨g, 6, none⟩ v6) g t [v0, v1, v2, v3, v4, v5, v6] :=
  ((((((h.set_ 0 v0).set_ 1 v1).set_ 2 v2).set_ 3 v3).set_ 4 v4).set_ 5 v5).set_ 6 v6
theorem below7 {B g : Nat} {a w : World} (h : Below B a w) (hg : B ≤ g) (v0 v1 v2 v3 v4 v5 v6 : Value) : Below B a (((((((w.setCell ⟨g, 0, none⟩ v0).setCell ⟨g, 1, none⟩ v1).setCell ⟨g, 2, none⟩ v2).setCell ⟨g, 3, none⟩ v3).setCell ⟨g, 4, none⟩ v4).setCell ⟨g, 5, none⟩ v5).setCell ⟨g, 6, none⟩ v6) :=
  ((((((h.setCell (p := ⟨g, 0, none⟩) hg v0).setCell (p := ⟨g, 1, none⟩) hg v1).setCell (p := ⟨g, 2, none⟩) hg v2).setCell (p := ⟨g, 3, none⟩) hg v3).setCell (p := ⟨g, 4, none⟩) hg v4).setCell (p := ⟨g, 5, none⟩) hg v5).setCell (p := ⟨g, 6, none⟩) hg v6
theorem size_blk : (Try.prog.info? 36).map (·.size) = some 7 := by kernel_rfl
set_option maxRecDepth 100000 in
set_option maxHeartbeats 4000000 in
theorem refBGet_any (A : Option Addr) (n c : Nat) (l : List UInt8) (W : World) (hr : Rd W W.heap.size A (bvs l)) (hn : l.length = n) (hnc : n ≤ c) (hn1 : n ≤ 100000) (most : Nat) (hmo : most ≤ 16777216) :
    Calls Try.prog 18 #[.slice A n c, .int .i64 (most : Int)] W (BGetOut W (getB l most)) := by
  obtain ⟨r, hr0⟩ : ∃ r, r = getB l most := ⟨_, rfl⟩
  rw [← hr0]
  have HR0 := Lib.hid hr0
  have HN := Lib.hid hn
  have HRD0 := Lib.hid hr
  clear hr0
  by_cases h0 : n = 0
  · have hres : r = ((0, 0, 0, 0, 0), 0, 11) := by rw [HR0.out]; unfold getB; rw [if_pos (by omega)]
    have HRS := Lib.hid hres
    subst h0
    clear hres hr
    go_enter Try.func18, Try.ntmps18
    go_wp2
    exact bodyPost_ret (results_cell_tmp2 Try.results18 _ _ W.heap.size 36 _ (0, 0) _ rfl (heap_alloc_new W _) Try.underlying36 rfl size_blk) rfl ⟨by rw [HRS.out]; rfl, (Below.refl _ _).alloc (Nat.le_refl _) _⟩
  · obtain ⟨ab, ao, rfl, hbl, hcell⟩ := hr.at_ (by rw [bvs_length]; omega)
    have hg : (bvs l)[0]? = some (.int .u8 ((l.getD 0 0).toNat : Int)) := by
      unfold bvs
      rw [List.getElem?_map, List.getD_eq_getElem?_getD, List.getElem?_eq_getElem (by omega)]
      rfl
    have c0 := hcell 0 _ hg
    rw [Nat.add_zero] at c0
    obtain ⟨x, hx⟩ : ∃ x, x = (l.getD 0 0).toNat := ⟨_, rfl⟩
    rw [← hx] at c0
    have hx255 : x ≤ 255 := by have := (l.getD 0 0).toNat_lt; omega
    have HX := Lib.hid hx
    have h0i : (0 : Int) < (n : Int) := by omega
    have h1n : 1 ≤ n := by omega
    have hne0 : ¬ (n : Int) = 0 := by omega
    have hab : ab ≠ W.heap.size := by omega
    have hab1 : ab ≠ W.heap.size + 1 := by omega
    clear hx hg hcell hr
    by_cases hx0 : x = 0
    · have hres : r = ((0, 0, 0, 0, 0), 0, 14) := by rw [HR0.out]; unfold getB; rw [if_neg (by omega), if_pos (by rw [← HX.out]; exact .inl hx0)]
      have HRS := Lib.hid hres
      subst hx0
      clear hres
      go_enter Try.func18, Try.ntmps18
      go_wp2
      exact bodyPost_ret (results_cell_tmp2 Try.results18 _ _ W.heap.size 36 _ (0, 0) _ rfl (heap_alloc_new W _) Try.underlying36 rfl size_blk) rfl ⟨by rw [HRS.out]; rfl, (Below.refl _ _).alloc (Nat.le_refl _) _⟩
    · by_cases hx6 : 6 < x
      · have hres : r = ((0, 0, 0, 0, 0), 0, 14) := by rw [HR0.out]; unfold getB; rw [if_neg (by omega), if_pos (by rw [← HX.out]; exact .inr hx6)]
        have HRS := Lib.hid hres
        have hxi : ¬ (x : Int) = 0 := by omega
        have hx6i : (6 : Int) < (x : Int) := by omega
        clear hres hx0
        go_enter Try.func18, Try.ntmps18
        go_wp2
        exact bodyPost_ret (results_cell_tmp2 Try.results18 _ _ W.heap.size 36 _ (0, 0) _ rfl (heap_alloc_new W _) Try.underlying36 rfl size_blk) rfl ⟨by rw [HRS.out]; rfl, (Below.refl _ _).alloc (Nat.le_refl _) _⟩
      · obtain ⟨y, hy⟩ : ∃ y, y = nbR (lget (l.drop 1)) 1 most := ⟨_, rfl⟩
        have hyt := nbR_told (l.drop 1) 1 most
        rw [← hy] at hyt
        have CN := Lib.hid (fun A2 c2 w (hr : Rd w w.heap.size A2 (bvs (l.drop 1))) => refNum_any A2 (n - 1) c2 (l.drop 1) w hr (by rw [List.length_drop, hn]) (by omega) 1 most)
        rw [← hy] at CN
        have HRY := Lib.hid (show r = getB2 l x y by
          rw [HR0.out]; unfold getB; rw [if_neg (by omega), if_neg (by rw [← HX.out]; omega), ← hy, ← HX.out])
        have HYT := Lib.hid hyt
        have hxi : ¬ (x : Int) = 0 := by omega
        have hx6i : ¬ (6 : Int) < (x : Int) := by omega
        have hx1i : (1 : Int) ≤ (x : Int) := by omega
        clear hy hyt hx0 hx6
        go_enter Try.func18, Try.ntmps18
        go_wp2_with ((with_reducible show wpList _ _ _ (({ dst := some 41, op := _, type := _, pos := _, after := _, guard := _ } : Oper) :: _) _ _); go_must (refine wpList_from rfl (.tmp 40) (.const (.int .i64 1)) rfl Try.underlying22 (by kernel_rfl) W.heap.size (some ⟨ab, ao, none⟩) n c 1 (bvs l) rfl rfl ((HRD0.out.alloc (Nat.le_refl _) _).alloc (by simp) _) (by rw [bvs_length]; exact HN.out) hnc h1n ?_; intro A2 c2 hc2 hrd2))
        rw [bvs_dropped] at hrd2
        have C := CN.out A2 c2 _ (hrd2.more (by simp; omega))
        clear CN
        rcases HYT.out with ⟨v, hv, hv40, hv1, hvm, hvl, -⟩ | hv | hv
        · obtain ⟨k, hk⟩ : ∃ k, k = (lput v).length := ⟨_, rfl⟩
          rw [← hk] at hv hvl
          subst hv
          have hkp : 0 < k := by rw [hk]; exact lput_pos v
          rw [List.length_drop, hn] at hvl
          clear hk
          refine C.mono ?_
          rintro e w2 ⟨rfl, hw⟩
          subst hw
          clear C hrd2 HYT
          by_cases hx1 : x = 1
          · subst hx1
            by_cases hsz : n < 1 + k + 4
            · have hszi : (n : Int) < 1 + (k : Int) + 4 := by omega
              have hres : r = ((0, 0, 0, 0, 0), 0, 11) := by rw [HRY.out]; unfold getB2; rw [if_neg (fun h => h rfl), if_pos rfl, if_pos (by rw [hn]; exact hsz)]
              have HRS := Lib.hid hres
              clear hres
              go_wp2
              exact bodyPost_ret (results_cell_tmp2 Try.results18 _ _ W.heap.size 36 _ (0, 0) _ rfl (Blk.alloc_ (heap_alloc_new W _) _) Try.underlying36 rfl size_blk) rfl ⟨by rw [HRS.out]; rfl, ((Below.refl _ _).alloc (Nat.le_refl _) _).alloc (by simp) _⟩
            · have hszi : ¬ (n : Int) < 1 + (k : Int) + 4 := by omega
              have CS := Lib.hid (fun A3 c3 w (hr : Rd w w.heap.size A3 (bvs (l.drop (1 + k)))) => refBSum_any A3 (n - (1 + k)) c3 (l.drop (1 + k)) w hr (by rw [List.length_drop, hn]) (by omega))
              obtain ⟨s, hs⟩ : ∃ s, s = sum4 (l.drop (1 + k)) := ⟨_, rfl⟩
              have hres : r = ((0, v, 0, v, s), 1 + k + 4, 0) := by rw [HRY.out, hs]; unfold getB2; rw [if_neg (fun h => h rfl), if_pos rfl, if_neg (by rw [hn]; exact hsz)]
              have HRS := Lib.hid hres
              rw [← hs] at CS
              have hsl : s < 4294967296 := by rw [hs]; exact sum4_lt _
              clear hres hs
              go_wp2_with ((with_reducible show wpList _ _ _ (({ dst := some 107, op := _, type := _, pos := _, after := _, guard := _ } : Oper) :: _) _ _); go_must (refine wpList_from rfl (.tmp 105) (.tmp 106) rfl Try.underlying22 (by kernel_rfl) W.heap.size (some ⟨ab, ao, none⟩) n c (1 + k) (bvs l) rfl (by simp only [Int.natCast_add]; rfl) ((HRD0.out.alloc (Nat.le_refl _) _).alloc (by simp) _) (by rw [bvs_length]; exact HN.out) hnc (by omega) ?_; intro A3 c3 hc3 hrd3))
              rw [bvs_dropped] at hrd3
              refine (CS.out A3 c3 _ (hrd3.more (by simp; omega))).mono ?_
              rintro e w3 ⟨rfl, hb3⟩
              have HR3 := Lib.hid (Blk.grow (Blk.alloc_ (heap_alloc_new W (.cells #[.int .i64 0, .int .i64 0, .int .i64 0, .int .i64 0, .int .u32 0, .int .i64 0, .int .i64 0] 36)) (.cells #[.int .i64 0, .int .i64 (v : Int), .int .i64 0, .int .i64 (v : Int), .int .u32 0, .int .i64 0, .int .i64 0] 36)) hb3)
              have HG3 := Lib.hid (show Blk w3 (W.heap.size + 1) 36 [.int .i64 0, .int .i64 (v : Int), .int .i64 0, .int .i64 (v : Int), .int .u32 0, .int .i64 0, .int .i64 0] by
                rw [show W.heap.size + 1 = (W.alloc (.cells #[.int .i64 0, .int .i64 0, .int .i64 0, .int .i64 0, .int .u32 0, .int .i64 0, .int .i64 0] 36)).heap.size by simp]
                exact Blk.grow (heap_alloc_new (W.alloc (.cells #[.int .i64 0, .int .i64 0, .int .i64 0, .int .i64 0, .int .u32 0, .int .i64 0, .int .i64 0] 36)) (.cells #[.int .i64 0, .int .i64 (v : Int), .int .i64 0, .int .i64 (v : Int), .int .u32 0, .int .i64 0, .int .i64 0] 36) : Blk _ _ 36 [.int .i64 0, .int .i64 (v : Int), .int .i64 0, .int .i64 (v : Int), .int .u32 0, .int .i64 0, .int .i64 0]) hb3)
              have HB3 := Lib.hid ((((Below.refl W.heap.size W).alloc (Nat.le_refl _) (.cells #[.int .i64 0, .int .i64 0, .int .i64 0, .int .i64 0, .int .u32 0, .int .i64 0, .int .i64 0] 36)).alloc (by simp) (.cells #[.int .i64 0, .int .i64 (v : Int), .int .i64 0, .int .i64 (v : Int), .int .u32 0, .int .i64 0, .int .i64 0] 36)).trans (hb3.mono (by simp; omega)))
              clear hb3 hrd3 CS
              have q0 := HG3.out.cell 0
              have q1 := HG3.out.cell 1
              have q2 := HG3.out.cell 2
              have q3 := HG3.out.cell 3
              have q4 := HG3.out.cell 4
              have q5 := HG3.out.cell 5
              have q6 := HG3.out.cell 6
              have p0 := HR3.out.cell 0
              have p1 := HR3.out.cell 1
              have p2 := HR3.out.cell 2
              have p3 := HR3.out.cell 3
              have p4 := HR3.out.cell 4
              have p5 := HR3.out.cell 5
              have p6 := HR3.out.cell 6
              have f0 := HR3.out.frozen 0
              have f1 := HR3.out.frozen 1
              have f2 := HR3.out.frozen 2
              have f3 := HR3.out.frozen 3
              have f4 := HR3.out.frozen 4
              have f5 := HR3.out.frozen 5
              have f6 := HR3.out.frozen 6
              have g4 := HG3.out.frozen 4
              simp only [List.getElem?_cons_zero, List.getElem?_cons_succ] at q0 q1 q2 q3 q4 q5 q6 p0 p1 p2 p3 p4 p5 p6
              go_wp2
              exact bodyPost_ret (results_cell_tmp2 Try.results18 _ _ W.heap.size 36 _ (0, 0) _ rfl (set7 (Blk.setOther HR3.out ⟨W.heap.size + 1, 4, none⟩ (.int .u32 (s : Int)) (by simp)) _ _ _ _ _ _ _) Try.underlying36 rfl size_blk) rfl ⟨by rw [HRS.out]; simp only [Int.natCast_add]; rfl, below7 (HB3.out.setCell (p := ⟨W.heap.size + 1, 4, none⟩) (by simp) _) (Nat.le_refl _) _ _ _ _ _ _ _⟩
          · have HX1 := Lib.hid hx1
            have hxm : ((x - 1 : Nat) : Int) = (x : Int) - 1 := by omega
            have hxp : (0 : Int) < (x : Int) - 1 := by omega
            have hx5 : (x : Int) - 1 ≤ 5 := by omega
            have HXM := Lib.hid hxm
            have hvb : v ≤ 16777216 := by omega
            have hvm1 : ((v - 1 : Nat) : Int) = (v : Int) - 1 := by omega
            obtain ⟨y2, hy2⟩ : ∃ y2, y2 = nbR (lget (l.drop (1 + k))) 0 (3 * v + 64) := ⟨_, rfl⟩
            have hyt2 := nbR_told (l.drop (1 + k)) 0 (3 * v + 64)
            rw [← hy2] at hyt2
            have CN2 := Lib.hid (fun A3 c3 w (hr : Rd w w.heap.size A3 (bvs (l.drop (1 + k)))) => refNum_any A3 (n - (1 + k)) c3 (l.drop (1 + k)) w hr (by rw [List.length_drop, hn]) (by omega) 0 (3 * v + 64))
            rw [← hy2] at CN2
            rw [show ((3 * v + 64 : Nat) : Int) = 3 * (v : Int) + 64 by omega] at CN2
            have HY2 := Lib.hid hy2
            have HYT2 := Lib.hid hyt2
            clear hxm hy2 hyt2 hx1
            go_wp2_with ((with_reducible show wpList _ _ _ (({ dst := some 63, op := _, type := _, pos := _, after := _, guard := _ } : Oper) :: _) _ _); go_must (refine wpList_from rfl (.tmp 61) (.tmp 62) rfl Try.underlying22 (by kernel_rfl) W.heap.size (some ⟨ab, ao, none⟩) n c (1 + k) (bvs l) rfl (by simp only [Int.natCast_add]; rfl) ((HRD0.out.alloc (Nat.le_refl _) _).alloc (by simp) _) (by rw [bvs_length]; exact HN.out) hnc (by omega) ?_; intro A3 c3 hc3 hrd3))
            rw [bvs_dropped] at hrd3
            have C2 := CN2.out A3 c3 _ (hrd3.more (by simp; omega))
            clear CN2
            rcases HYT2.out with ⟨m, hm, hm40, -, hmm, hml, -⟩ | hm | hm
            · obtain ⟨j, hj⟩ : ∃ j, j = (lput m).length := ⟨_, rfl⟩
              rw [← hj] at hm hml
              subst hm
              rw [List.length_drop, hn] at hml
              have hj0 : 0 < j := by rw [hj]; exact lput_pos m
              clear hj
              refine C2.mono ?_
              rintro e w2 ⟨rfl, hw⟩
              subst hw
              clear C2 hrd3 HYT2
              obtain ⟨y3, hy3⟩ : ∃ y3, y3 = nbR (lget (l.drop (1 + k + j))) 0 (v - 1) := ⟨_, rfl⟩
              have hyt3 := nbR_told (l.drop (1 + k + j)) 0 (v - 1)
              rw [← hy3] at hyt3
              have CN3 := Lib.hid (fun A3 c3 w (hr : Rd w w.heap.size A3 (bvs (l.drop (1 + k + j)))) => refNum_any A3 (n - (1 + k + j)) c3 (l.drop (1 + k + j)) w hr (by rw [List.length_drop, hn]) (by omega) 0 (v - 1))
              rw [← hy3, hvm1] at CN3
              have HRY3 := Lib.hid (show r = if y3.2.2 ≠ 0 then ((0, 0, 0, 0, 0), 0, y3.2.2) else if n < 1 + k + j + y3.2.1 + 4 then ((0, 0, 0, 0, 0), 0, 11) else ((x - 1, v, m, y3.1, sum4 (l.drop (1 + k + j + y3.2.1))), 1 + k + j + y3.2.1 + 4, 0) by
                rw [HRY.out]
                unfold getB2
                rw [if_neg (fun h => h rfl), if_neg HX1.out]
                simp only [← HY2.out]
                rw [if_neg (fun h => h rfl)]
                simp only [← hy3]
                rw [hn])
              have HYT3 := Lib.hid hyt3
              clear hy3 hyt3
              go_wp2_with ((with_reducible show wpList _ _ _ (({ dst := some 81, op := _, type := _, pos := _, after := _, guard := _ } : Oper) :: _) _ _); go_must (refine wpList_from rfl (.tmp 79) (.tmp 80) rfl Try.underlying22 (by kernel_rfl) W.heap.size (some ⟨ab, ao, none⟩) n c (1 + k + j) (bvs l) rfl (by simp only [Int.natCast_add]; rfl) ((HRD0.out.alloc (Nat.le_refl _) _).alloc (by simp) _) (by rw [bvs_length]; exact HN.out) hnc (by omega) ?_; intro A4 c4 hc4 hrd4))
              rw [bvs_dropped] at hrd4
              have C3 := CN3.out A4 c4 _ (hrd4.more (by simp; omega))
              clear CN3
              rcases HYT3.out with ⟨d, hd, hd40, -, hdd, hdl, -⟩ | hd | hd
              · obtain ⟨i, hi⟩ : ∃ i, i = (lput d).length := ⟨_, rfl⟩
                rw [← hi] at hd hdl
                subst hd
                rw [List.length_drop, hn] at hdl
                clear hi
                refine C3.mono ?_
                rintro e w2 ⟨rfl, hw⟩
                subst hw
                clear C3 hrd4 HYT3
                by_cases hsz : n < 1 + k + j + i + 4
                · have hszi : (n : Int) < 1 + (k : Int) + (j : Int) + (i : Int) + 4 := by omega
                  have hres : r = ((0, 0, 0, 0, 0), 0, 11) := by rw [HRY3.out, if_neg (fun h => h rfl), if_pos hsz]
                  have HRS := Lib.hid hres
                  clear hres
                  go_wp2
                  exact bodyPost_ret (results_cell_tmp2 Try.results18 _ _ W.heap.size 36 _ (0, 0) _ rfl (Blk.alloc_ (heap_alloc_new W _) _) Try.underlying36 rfl size_blk) rfl ⟨by rw [HRS.out]; rfl, ((Below.refl _ _).alloc (Nat.le_refl _) _).alloc (by simp) _⟩
                · have hszi : ¬ (n : Int) < 1 + (k : Int) + (j : Int) + (i : Int) + 4 := by omega
                  have CS := Lib.hid (fun A3 c3 w (hr : Rd w w.heap.size A3 (bvs (l.drop (1 + k + j + i)))) => refBSum_any A3 (n - (1 + k + j + i)) c3 (l.drop (1 + k + j + i)) w hr (by rw [List.length_drop, hn]) (by omega))
                  obtain ⟨s, hs⟩ : ∃ s, s = sum4 (l.drop (1 + k + j + i)) := ⟨_, rfl⟩
                  have hres : r = ((x - 1, v, m, d, s), 1 + k + j + i + 4, 0) := by rw [HRY3.out, if_neg (fun h => h rfl), if_neg hsz, hs]
                  have HRS := Lib.hid hres
                  rw [← hs] at CS
                  have hsl : s < 4294967296 := by rw [hs]; exact sum4_lt _
                  clear hres hs
                  go_wp2_with ((with_reducible show wpList _ _ _ (({ dst := some 107, op := _, type := _, pos := _, after := _, guard := _ } : Oper) :: _) _ _); go_must (refine wpList_from rfl (.tmp 105) (.tmp 106) rfl Try.underlying22 (by kernel_rfl) W.heap.size (some ⟨ab, ao, none⟩) n c (1 + k + j + i) (bvs l) rfl (by simp only [Int.natCast_add]; rfl) ((HRD0.out.alloc (Nat.le_refl _) _).alloc (by simp) _) (by rw [bvs_length]; exact HN.out) hnc (by omega) ?_; intro A3 c3 hc3 hrd3))
                  rw [bvs_dropped] at hrd3
                  refine (CS.out A3 c3 _ (hrd3.more (by simp; omega))).mono ?_
                  rintro e w3 ⟨rfl, hb3⟩
                  have HR3 := Lib.hid (Blk.grow (Blk.alloc_ (heap_alloc_new W (.cells #[.int .i64 0, .int .i64 0, .int .i64 0, .int .i64 0, .int .u32 0, .int .i64 0, .int .i64 0] 36)) (.cells #[.int .i64 ((x : Int) - 1), .int .i64 (v : Int), .int .i64 (m : Int), .int .i64 (d : Int), .int .u32 0, .int .i64 0, .int .i64 0] 36)) hb3)
                  have HG3 := Lib.hid (show Blk w3 (W.heap.size + 1) 36 [.int .i64 ((x : Int) - 1), .int .i64 (v : Int), .int .i64 (m : Int), .int .i64 (d : Int), .int .u32 0, .int .i64 0, .int .i64 0] by
                    rw [show W.heap.size + 1 = (W.alloc (.cells #[.int .i64 0, .int .i64 0, .int .i64 0, .int .i64 0, .int .u32 0, .int .i64 0, .int .i64 0] 36)).heap.size by simp]
                    exact Blk.grow (heap_alloc_new (W.alloc (.cells #[.int .i64 0, .int .i64 0, .int .i64 0, .int .i64 0, .int .u32 0, .int .i64 0, .int .i64 0] 36)) (.cells #[.int .i64 ((x : Int) - 1), .int .i64 (v : Int), .int .i64 (m : Int), .int .i64 (d : Int), .int .u32 0, .int .i64 0, .int .i64 0] 36) : Blk _ _ 36 [.int .i64 ((x : Int) - 1), .int .i64 (v : Int), .int .i64 (m : Int), .int .i64 (d : Int), .int .u32 0, .int .i64 0, .int .i64 0]) hb3)
                  have HB3 := Lib.hid ((((Below.refl W.heap.size W).alloc (Nat.le_refl _) (.cells #[.int .i64 0, .int .i64 0, .int .i64 0, .int .i64 0, .int .u32 0, .int .i64 0, .int .i64 0] 36)).alloc (by simp) (.cells #[.int .i64 ((x : Int) - 1), .int .i64 (v : Int), .int .i64 (m : Int), .int .i64 (d : Int), .int .u32 0, .int .i64 0, .int .i64 0] 36)).trans (hb3.mono (by simp; omega)))
                  clear hb3 hrd3 CS
                  have q0 := HG3.out.cell 0
                  have q1 := HG3.out.cell 1
                  have q2 := HG3.out.cell 2
                  have q3 := HG3.out.cell 3
                  have q4 := HG3.out.cell 4
                  have q5 := HG3.out.cell 5
                  have q6 := HG3.out.cell 6
                  have p0 := HR3.out.cell 0
                  have p1 := HR3.out.cell 1
                  have p2 := HR3.out.cell 2
                  have p3 := HR3.out.cell 3
                  have p4 := HR3.out.cell 4
                  have p5 := HR3.out.cell 5
                  have p6 := HR3.out.cell 6
                  have f0 := HR3.out.frozen 0
                  have f1 := HR3.out.frozen 1
                  have f2 := HR3.out.frozen 2
                  have f3 := HR3.out.frozen 3
                  have f4 := HR3.out.frozen 4
                  have f5 := HR3.out.frozen 5
                  have f6 := HR3.out.frozen 6
                  have g4 := HG3.out.frozen 4
                  simp only [List.getElem?_cons_zero, List.getElem?_cons_succ] at q0 q1 q2 q3 q4 q5 q6 p0 p1 p2 p3 p4 p5 p6
                  go_wp2
                  exact bodyPost_ret (results_cell_tmp2 Try.results18 _ _ W.heap.size 36 _ (0, 0) _ rfl (set7 (Blk.setOther HR3.out ⟨W.heap.size + 1, 4, none⟩ (.int .u32 (s : Int)) (by simp)) _ _ _ _ _ _ _) Try.underlying36 rfl size_blk) rfl ⟨by rw [HRS.out]; unfold blkC; simp only [Int.natCast_add, HXM.out]; rfl, below7 (HB3.out.setCell (p := ⟨W.heap.size + 1, 4, none⟩) (by simp) _) (Nat.le_refl _) _ _ _ _ _ _ _⟩
              · subst hd
                refine C3.mono ?_
                rintro e w2 ⟨rfl, hw⟩
                subst hw
                clear C3 hrd4
                have hres : r = ((0, 0, 0, 0, 0), 0, 11) := by rw [HRY3.out]; rfl
                have HRS := Lib.hid hres
                clear hres
                go_wp2
                exact bodyPost_ret (results_cell_tmp2 Try.results18 _ _ W.heap.size 36 _ (0, 0) _ rfl (Blk.alloc_ (heap_alloc_new W _) _) Try.underlying36 rfl size_blk) rfl ⟨by rw [HRS.out]; rfl, ((Below.refl _ _).alloc (Nat.le_refl _) _).alloc (by simp) _⟩
              · subst hd
                refine C3.mono ?_
                rintro e w2 ⟨rfl, hw⟩
                subst hw
                clear C3 hrd4
                have hres : r = ((0, 0, 0, 0, 0), 0, 15) := by rw [HRY3.out]; rfl
                have HRS := Lib.hid hres
                clear hres
                go_wp2
                exact bodyPost_ret (results_cell_tmp2 Try.results18 _ _ W.heap.size 36 _ (0, 0) _ rfl (Blk.alloc_ (heap_alloc_new W _) _) Try.underlying36 rfl size_blk) rfl ⟨by rw [HRS.out]; rfl, ((Below.refl _ _).alloc (Nat.le_refl _) _).alloc (by simp) _⟩
            · subst hm
              refine C2.mono ?_
              rintro e w2 ⟨rfl, hw⟩
              subst hw
              clear C2 hrd3
              have hres : r = ((0, 0, 0, 0, 0), 0, 11) := by rw [HRY.out]; unfold getB2; rw [if_neg (fun h => h rfl), if_neg HX1.out]; simp only [← HY2.out]; rfl
              have HRS := Lib.hid hres
              clear hres
              go_wp2
              exact bodyPost_ret (results_cell_tmp2 Try.results18 _ _ W.heap.size 36 _ (0, 0) _ rfl (Blk.alloc_ (heap_alloc_new W _) _) Try.underlying36 rfl size_blk) rfl ⟨by rw [HRS.out]; rfl, ((Below.refl _ _).alloc (Nat.le_refl _) _).alloc (by simp) _⟩
            · subst hm
              refine C2.mono ?_
              rintro e w2 ⟨rfl, hw⟩
              subst hw
              clear C2 hrd3
              have hres : r = ((0, 0, 0, 0, 0), 0, 15) := by rw [HRY.out]; unfold getB2; rw [if_neg (fun h => h rfl), if_neg HX1.out]; simp only [← HY2.out]; rfl
              have HRS := Lib.hid hres
              clear hres
              go_wp2
              exact bodyPost_ret (results_cell_tmp2 Try.results18 _ _ W.heap.size 36 _ (0, 0) _ rfl (Blk.alloc_ (heap_alloc_new W _) _) Try.underlying36 rfl size_blk) rfl ⟨by rw [HRS.out]; rfl, ((Below.refl _ _).alloc (Nat.le_refl _) _).alloc (by simp) _⟩
        · subst hv
          refine C.mono ?_
          rintro e w2 ⟨rfl, hw⟩
          subst hw
          clear C hrd2
          have hres : r = ((0, 0, 0, 0, 0), 0, 11) := by rw [HRY.out]; rfl
          have HRS := Lib.hid hres
          clear hres
          go_wp2
          exact bodyPost_ret (results_cell_tmp2 Try.results18 _ _ W.heap.size 36 _ (0, 0) _ rfl (Blk.alloc_ (heap_alloc_new W _) _) Try.underlying36 rfl size_blk) rfl ⟨by rw [HRS.out]; rfl, ((Below.refl _ _).alloc (Nat.le_refl _) _).alloc (by simp) _⟩
        · subst hv
          refine C.mono ?_
          rintro e w2 ⟨rfl, hw⟩
          subst hw
          clear C hrd2
          have hres : r = ((0, 0, 0, 0, 0), 0, 15) := by rw [HRY.out]; rfl
          have HRS := Lib.hid hres
          clear hres
          go_wp2
          exact bodyPost_ret (results_cell_tmp2 Try.results18 _ _ W.heap.size 36 _ (0, 0) _ rfl (Blk.alloc_ (heap_alloc_new W _) _) Try.underlying36 rfl size_blk) rfl ⟨by rw [HRS.out]; rfl, ((Below.refl _ _).alloc (Nat.le_refl _) _).alloc (by simp) _⟩
end Go.Proofs.Ytlbpolkmhhmkgaa
namespace Go.Proofs.Ytlbpolkmhhmkgaa
open Go.RowKit

theorem mayBk_nat {mo ra mi co most : Nat} (h : mayBk (mo : Int) (ra : Int) (mi : Int) (co : Int) (most : Int) = true) : mo ≤ 5 ∧ 1 ≤ ra ∧ ra ≤ most ∧ (mo = 0 → mi = 0 ∧ co = ra) ∧ (mo ≠ 0 → mi ≤ 3 * ra + 64 ∧ co < ra) := by
  unfold mayBk at h
  by_cases h0 : mo = 0
  · subst h0
    simp at h
    omega
  · rw [if_neg (by omega)] at h
    simp at h
    omega
theorem blkL_stored {mo ra mi co su : Nat} (h0 : mo = 0) : blkL mo ra mi co su = UInt8.ofNat (0 + 1) :: (lput ra ++ fourL su) := by
  subst h0
  rfl
theorem blkL_coded {mo ra mi co su : Nat} (h0 : mo ≠ 0) : blkL mo ra mi co su = UInt8.ofNat (mo + 1) :: (lput ra ++ (lput mi ++ (lput co ++ fourL su))) := by
  unfold blkL
  rw [if_pos (by omega)]
  simp
theorem endL_eq (n su : Nat) : endL n su = 0 :: (lput n ++ fourL su) := rfl
theorem lput_pow : ∀ (k n : Nat), n < 128 ^ (k + 1) → (lput n).length ≤ k + 1
  | 0, n, h => by
    rw [lput_small (by omega)]
    simp
  | k + 1, n, h => by
    by_cases hb : n < 128
    · rw [lput_small hb]
      simp
    · rw [lput_big hb, List.length_cons]
      have := lput_pow k (n / 128) (by rw [Nat.div_lt_iff_lt_mul (by decide), ← Nat.pow_succ]; exact h)
      omega
/-- A block has at most 17 bytes ahead, an end at most 11. -/
theorem blkL_len {mo ra mi co su : Nat} (hr : ra ≤ 16777216) (hm : mi ≤ 3 * ra + 64) (hc : co ≤ ra) : (blkL mo ra mi co su).length ≤ 17 := by
  have h1 := lput_pow 3 ra (by omega)
  have h2 := lput_pow 3 mi (by omega)
  have h3 := lput_pow 3 co (by omega)
  have h4 : (fourL su).length = 4 := rfl
  by_cases h0 : mo = 0
  · rw [blkL_stored h0, List.length_cons, List.length_append]
    omega
  · rw [blkL_coded h0]
    simp only [List.length_cons, List.length_append]
    omega
theorem endL_len {n su : Nat} (hn : n ≤ 1099511627776) : (endL n su).length ≤ 11 := by
  have h1 := lput_pow 5 n (by omega)
  have h4 : (fourL su).length = 4 := rfl
  rw [endL_eq, List.length_cons, List.length_append]
  omega
end Go.Proofs.Ytlbpolkmhhmkgaa
