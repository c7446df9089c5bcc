/- Layer 30: the program: GetEnd. -/
import Derived.Test.YtcjjlkfenlmmlaaBlkGet
namespace Go.Proofs.Ytcjjlkfenlmmlaa
open Go.RowKit Go.Sort

set_option maxHeartbeats 4000000 in
set_option maxRecDepth 100000 in
theorem blkGetEnd_any (A : Option Addr) (n c : Nat) (l : List UInt8) (W : World) (hr : Rd W W.heap.size A (bvs l)) (hn : l.length = n) (hnc : n ≤ c) (hn1 : n ≤ 1000000) :
    Calls Try.prog 15 #[.slice A n c] W (EndOut W (endG l)) := by
  obtain ⟨r, hr0⟩ : ∃ r, r = endG l := ⟨_, rfl⟩
  rw [← hr0]
  have HR0 := Lib.hid hr0
  have CT := Lib.hid (blkTag_any A n c l W hr hn 0 0)
  have HRD := Lib.hid hr
  obtain ⟨t, ht⟩ : ∃ t, t = tagE l 0 0 := ⟨_, rfl⟩
  rw [← ht] at CT
  have HT := Lib.hid ht
  clear hr0 hr ht
  go_enter Try.func15, Try.ntmps15
  go_wp2_with fail
  refine CT.out.mono ?_
  rintro _ w1 ⟨rfl, hw1⟩
  subst hw1
  by_cases ht0 : t = 0
  · have htz : ¬ l.length = 0 ∧ (l.getD 0 0).toNat = 0 := by
      have h := HT.out
      unfold tagE at h
      by_cases h0 : l.length = 0
      · rw [if_pos h0] at h
        omega
      · refine ⟨h0, ?_⟩
        rw [if_neg h0] at h
        by_cases h1 : (l.getD 0 0).toNat < 0 ∨ 0 < (l.getD 0 0).toNat
        · rw [if_pos h1] at h
          omega
        · omega
    obtain ⟨hl0, hl1⟩ := htz
    obtain ⟨y, hy⟩ : ∃ y, y = nbR (lget (l.drop 1)) 0 1099511627776 := ⟨_, rfl⟩
    have hyt := nbR_told (l.drop 1) 0 1099511627776
    rw [← hy] at hyt
    have HRY := Lib.hid (show r = if y.2.2 ≠ 0 then (0, 0, 0, y.2.2) else if n < 1 + y.2.1 + 4 then (0, 0, 0, 11) else (y.1, sum4 (l.drop (1 + y.2.1)), 1 + y.2.1 + 4, 0) by
      rw [HR0.out]; unfold endG; rw [if_neg hl0, if_neg (by omega), ← hy, hn])
    have HYT := Lib.hid hyt
    have HY := Lib.hid hy
    subst ht0
    obtain ⟨w4, hw4⟩ : ∃ w4 : World, w4 = (w1.alloc (.cells #[.int .i64 0] 3)).alloc (.cells #[.int .i64 1] 3) := ⟨_, rfl⟩
    have hB4 : Below w1.heap.size w1 w4 := by rw [hw4]; exact ((Below.refl _ _).alloc (Nat.le_refl _) _).alloc (by simp) _
    have hT4 : Blk w4 w1.heap.size 3 [.int .i64 0] := by
      rw [hw4]
      exact (blk_new _ _ _ rfl).grow ((Below.refl _ _).alloc (Nat.le_refl _) _)
    have hP4 : Blk w4 (w1.heap.size + 1) 3 [.int .i64 1] := by
      rw [hw4]
      exact blk_new _ _ _ (by simp)
    have HB4 := Lib.hid hB4
    have HT4 := Lib.hid hT4
    have HP4 := Lib.hid hP4
    have HW4 := Lib.hid hw4
    have CF := Lib.hid (fun W' => blkLaidFrom_any A n c (w1.heap.size + 1) W')
    clear hyt hy hB4 hT4 hP4 hw4 CT HT
    go_wp2_with fail
    rw [← HW4.out]
    refine (CF.out _).mono ?_
    rintro _ w5 ⟨G, H, rfl, hG, hH, hGn, hHn, hb5⟩
    have HG5 := Lib.hid hG
    have HH5 := Lib.hid hH
    have HB5 := Lib.hid hb5
    have HT5 := Lib.hid (HT4.out.grow hb5)
    have HP5 := Lib.hid (HP4.out.grow hb5)
    have hbb := HB4.out.trans (hb5.mono HB4.out.size)
    have HBB := Lib.hid hbb
    have HRD5 := Lib.hid (HRD.out.below hbb)
    clear hG hH hGn hHn hb5 hbb CF HT4 HP4
    have C1 := Lib.hid (fun (w' : World) (N : Nat) (hN : Blk w' N 63 (nvs w1.heap.size [(0, 0, 1099511627776)])) (hb' : Below w5.heap.size w5 w') =>
      show Calls Try.prog 35 #[.slice (some ⟨N, 0, none⟩) 1 1, .pointer (some ⟨G, 0, none⟩), .pointer (some ⟨H, 0, none⟩)] w' _ from
      blkLaid_any (L0 := [(0, 0, 1099511627776)]) (tT := 3) (B := w1.heap.size) (T := w1.heap.size) (P := w1.heap.size + 1) (HRD5.out.below (hb'.mono HBB.out.size)) (Nat.le_refl _) (by omega) hn hnc hn1 (by simp) hN (at0 := 1) ⟨HG5.out.grow hb', HH5.out.grow hb', HP5.out.grow hb'⟩ (by omega) (HT5.out.grow hb') (by intro q hq; simp at hq; subst hq; simp) (by omega) (by decide) (by decide) (by decide))
    go_wp2_with fail
    refine (C1.out _ _ (blk_new w5 _ _ rfl) ((Below.refl _ _).alloc (Nat.le_refl _) _)).mono ?_
    rintro _ w6 ⟨rfl, hT6, hL6, ho6⟩
    rw [take_one, ← HY.out] at hT6 hL6 ⊢
    have hb6 := HBB.out.alloc HBB.out.size (.cells #[.pointer (some ⟨w1.heap.size, 0, none⟩), .int .i64 0, .int .i64 1099511627776] 63)
    have HB6 := Lib.hid (hb6.trans (ho6.below (B := w1.heap.size) (by simp) hb6.size))
    clear ho6 hb6 C1
    rcases HYT.out with ⟨v, hv, hv40, -, -, hvl, -⟩ | hv | hv
    · obtain ⟨k, hk⟩ : ∃ k, k = (lput v).length := ⟨_, rfl⟩
      rw [← hk] at hv hvl
      subst hv
      rw [if_pos rfl] at hT6 hL6 ⊢
      rw [List.length_drop, hn] at hvl
      have hat : 1 + k ≤ n := by omega
      have HTB := Lib.hid (show Blk w6 w1.heap.size 3 [.int .i64 (v : Int)] from hT6)
      have HPB := Lib.hid (show Blk w6 (w1.heap.size + 1) 3 [.int .i64 ((1 + k : Nat) : Int)] from hL6.place)
      have HRD6 := Lib.hid ((HRD.out.below HB6.out).more HB6.out.size)
      have CS := Lib.hid (fun A3 c3 w (hr : Rd w w.heap.size A3 (bvs (l.drop (1 + k)))) (hc : n - (1 + k) ≤ c3) => blkGetSum_any A3 (n - (1 + k)) c3 (l.drop (1 + k)) w hr (by rw [List.length_drop, hn]) hc)
      have p0 := HPB.out.cell 0
      simp only [List.getElem?_cons_zero, Int.natCast_add] at p0
      have hati : (1 : Int) + (k : Int) ≤ (n : Int) := by omega
      clear hT6 hL6 hk HYT
      go_wp2_with ((with_reducible show wpList _ _ _ (({ dst := some 30, op := _, type := _, pos := _, after := _, guard := _ } : Oper) :: _) _ _); go_must (refine wpList_from rfl (.tmp 28) (.tmp 29) rfl Try.underlying32 (by kernel_rfl) w6.heap.size A n c (1 + k) (bvs l) rfl (by rw [Int.natCast_add]; rfl) HRD6.out (by rw [bvs_length]; exact hn) hnc hat ?_; intro A3 c3 hc3 hrd3; have HRD7 := Lib.hid hrd3; clear hrd3))
      refine (CS.out A3 c3 _ (by have h := HRD7.out; rw [bvs_dropped] at h; exact h) hc3).mono ?_
      rintro _ w7 ⟨rfl, hb7⟩
      have HT7 := Lib.hid (HTB.out.grow hb7)
      have HP7 := Lib.hid (HPB.out.grow hb7)
      have HB7 := Lib.hid (HB6.out.trans (hb7.mono HB6.out.size))
      clear hb7 CS HTB HPB HB6 HRD7 HRD6 p0
      have p0 := HP7.out.cell 0
      have t0 := HT7.out.cell 0
      simp only [List.getElem?_cons_zero, Int.natCast_add] at p0 t0
      by_cases hsz : n - (1 + k) < 4
      · rw [if_pos hsz, if_pos hsz]
        have hres : r = (0, 0, 0, 11) := by rw [HRY.out, if_neg (fun h => h rfl), if_pos (by omega)]
        have HRS := Lib.hid hres
        clear hres hsz
        go_wp2
        exact bodyPost_ret (results_tmp4 rfl _ _) rfl ⟨by rw [HRS.out]; rfl, HB7.out⟩
      · rw [if_neg hsz, if_neg hsz]
        obtain ⟨s, hs⟩ : ∃ s, s = sum4 (l.drop (1 + k)) := ⟨_, rfl⟩
        rw [← hs]
        have hres : r = (v, s, 1 + k + 4, 0) := by rw [HRY.out, if_neg (fun h => h rfl), if_neg (by omega), hs]
        have HRS := Lib.hid hres
        clear hres hsz hs
        go_wp2
        go_region
        all_goals
          go_wp2
          refine bodyPost_ret (results_tmp4 rfl _ _) rfl ⟨?_, HB7.out.drew⟩
          rw [HRS.out]
          simp only [Int.natCast_add]
          rfl
    · subst hv
      rw [if_neg (by decide)]
      have hres : r = (0, 0, 0, 11) := by rw [HRY.out]; rfl
      have HRS := Lib.hid hres
      clear hT6 hL6 hres
      go_wp2
      exact bodyPost_ret (results_tmp4 rfl _ _) rfl ⟨by rw [HRS.out]; rfl, HB6.out⟩
    · subst hv
      rw [if_neg (by decide)]
      have hres : r = (0, 0, 0, 15) := by rw [HRY.out]; rfl
      have HRS := Lib.hid hres
      clear hT6 hL6 hres
      go_wp2
      exact bodyPost_ret (results_tmp4 rfl _ _) rfl ⟨by rw [HRS.out]; rfl, HB6.out⟩
  · have hti : ¬ (t : Int) = 0 := by omega
    have hres : r = (0, 0, 0, t) := by
      rw [HR0.out]
      have h := HT.out
      unfold tagE at h
      unfold endG
      by_cases h0 : l.length = 0
      · rw [if_pos h0] at h
        rw [if_pos h0, h]
      · rw [if_neg h0] at h
        rw [if_neg h0]
        by_cases h1 : (l.getD 0 0).toNat < 0 ∨ 0 < (l.getD 0 0).toNat
        · rw [if_pos h1] at h
          rw [if_pos (by omega), h]
        · rw [if_neg h1] at h
          exact absurd h ht0
    have HRS := Lib.hid hres
    clear hres ht0 CT
    go_wp2
    exact bodyPost_ret (results_tmp4 rfl _ _) rfl ⟨by rw [HRS.out]; rfl, Below.refl _ _⟩
end Go.Proofs.Ytcjjlkfenlmmlaa
