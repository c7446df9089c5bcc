/- Layer 30: the program: numbers as they are; numbers of a block by either taker. -/
import Derived.Test.YtcjjlkfenlmmlaaBlkTak
import Derived.Test.YtcjjlkfenlmmlaaRecMost
namespace Go.Proofs.Ytcjjlkfenlmmlaa
open Go.RowKit Go.Sort

theorem nvs_cons (T : Nat) (q : Nat × Nat × Nat) (L : List (Nat × Nat × Nat)) : nvs T (q :: L) = .pointer (some ⟨T, q.1, none⟩) :: .int .i64 (q.2.1 : Int) :: .int .i64 (q.2.2 : Int) :: nvs T L := rfl
theorem nvs_drop (T : Nat) : ∀ (k : Nat) (L : List (Nat × Nat × Nat)), (nvs T L).drop (k * 3) = nvs T (L.drop k)
  | 0, L => by simp
  | k + 1, [] => by simp [nvs]
  | k + 1, q :: L => by
    rw [show (k + 1) * 3 = 3 + k * 3 by omega, ← List.drop_drop, nvs_cons]
    exact nvs_drop T k L
/-- Are numbers, as they are, within their limits? -/
def asE (xv : Nat → Int) (L : List (Nat × Nat × Nat)) : Bool := L.all fun q => decide ((q.2.1 : Int) ≤ xv q.1 ∧ xv q.1 ≤ (q.2.2 : Int))
theorem hasB_as {x : Int} {a b : Nat} (h0 : -9223372036854775808 ≤ x) (h1 : x ≤ 9223372036854775807) (hb : b ≤ 1099511627776) : hasB (a : Int) (b : Int) (IntKind.u64.wrap x) = decide ((a : Int) ≤ x ∧ x ≤ (b : Int)) := by
  unfold hasB
  rw [IntKind.wrap_u64, Bool.eq_iff_iff]
  simp
  omega
set_option maxHeartbeats 4000000 in
set_option maxRecDepth 100000 in
theorem blkAs_any {W : World} {T N : Nat} {xv : Nat → Int} {L : List (Nat × Nat × Nat)} (hN : Blk W N 63 (nvs T L)) (hT : ∀ q ∈ L, W.cell? ⟨T, q.1, none⟩ = some (.int .i64 (xv q.1))) (hTl : T < W.heap.size) (hx : ∀ k, -9223372036854775808 ≤ xv k ∧ xv k ≤ 9223372036854775807)
    (hq : ∀ q ∈ L, q.2.2 ≤ 1099511627776) (hL : L.length ≤ 2) :
    Calls Try.prog 21 #[.slice (some ⟨N, 0, none⟩) L.length L.length] W fun e w' => e = .returned (.int .i64 ((if asE xv L = true then 0 else 15 : Nat) : Int)) ∧ Below W.heap.size W w' := by
  obtain ⟨m, hm⟩ : ∃ m, m = L.length := ⟨_, rfl⟩
  rw [← hm] at hL ⊢
  obtain ⟨R, hR⟩ : ∃ R : Nat, R = if asE xv L = true then 0 else 15 := ⟨_, rfl⟩
  rw [← hR]
  have HRR := Lib.hid hR
  have HM := Lib.hid hm
  have HN := Lib.hid hN
  have HT := Lib.hid hT
  have HX := Lib.hid hx
  have HQ := Lib.hid hq
  clear hm hN hT hx hq hR
  go_enter Try.func21, Try.ntmps21
  go_wp2
  go_loopw [7] (fun i wr => ∃ k : Nat, k ≤ m ∧ i = .int .i64 (k : Int) ∧ asE xv (L.take k) = true ∧ Below W.heap.size W wr) (fun i _ => m - (intOf i).toNat)
  case atStart => exact ⟨0, Nat.zero_le _, rfl, rfl, Below.refl _ _⟩
  case round =>
    obtain ⟨k, hk, rfl, hall, hb⟩ := hrel
    have HA := Lib.hid hall
    have HB := Lib.hid hb
    have hTw := Nat.lt_of_lt_of_le hTl hb.size
    clear hall hb
    by_cases hlt : k < m
    · have hkl : k < L.length := by rw [← HM.out]; exact hlt
      have hdr : (nvs T L).drop (k * 3) = nvs T (L[k] :: L.drop (k + 1)) := by rw [nvs_drop, List.drop_eq_getElem_cons hkl]
      obtain ⟨c0, c1, c2, -⟩ := ld_cells (HN.out.grow HB.out) hdr
      have htk : asE xv (L.take (k + 1)) = decide (((L[k]'hkl).2.1 : Int) ≤ xv (L[k]'hkl).1 ∧ xv (L[k]'hkl).1 ≤ ((L[k]'hkl).2.2 : Int)) := by
        unfold asE
        rw [List.take_add_one, List.getElem?_eq_getElem hkl, List.all_append]
        have := HA.out
        unfold asE at this
        rw [this]
        simp
      have hnot : asE xv L = true → decide (((L[k]'hkl).2.1 : Int) ≤ xv (L[k]'hkl).1 ∧ xv (L[k]'hkl).1 ≤ ((L[k]'hkl).2.2 : Int)) = true := fun h => List.all_eq_true.1 h _ (List.getElem_mem hkl)
      have hti := HT.out _ (List.getElem_mem hkl)
      have hq40 := HQ.out _ (List.getElem_mem hkl)
      obtain ⟨⟨i, a, b⟩, hqe⟩ : ∃ q, q = L[k]'hkl := ⟨_, rfl⟩
      rw [← hqe] at c0 c1 c2 htk hnot hti hq40
      simp only at c0 c1 c2 htk hnot hti hq40
      obtain ⟨hx0, hx1⟩ := HX.out i
      obtain ⟨x, hxe⟩ : ∃ x, x = xv i := ⟨_, rfl⟩
      rw [← hxe] at htk hnot hti hx0 hx1
      obtain ⟨o, ho⟩ : ∃ o, o = decide ((a : Int) ≤ x ∧ x ≤ (b : Int)) := ⟨_, rfl⟩
      obtain ⟨u, hu⟩ : ∃ u, IntKind.u64.wrap x = u := ⟨_, rfl⟩
      have CH := Lib.hid (fun w => blkHas_any (some ⟨T, i, none⟩) (a : Int) (b : Int) (v := u) (by rw [← hu, IntKind.wrap_u64]; omega) (by rw [← hu, IntKind.wrap_u64]; omega) w)
      rw [← hu, hasB_as hx0 hx1 hq40, ← ho, hu] at CH
      rw [← ho] at htk hnot
      have hwl : (wr.alloc (.cells #[.pointer (some ⟨T, i, none⟩), .int .i64 (a : Int), .int .i64 (b : Int)] 63)).cell? ⟨T, i, none⟩ = some (.int .i64 x) := by
        rw [World.cell?_alloc_lt _ _ _ hTw]
        exact (HB.out.cell (p := ⟨T, i, none⟩) hTl).trans hti
      have hki : (k : Int) < (m : Int) := by omega
      have HBE := Lib.hid (HB.out.alloc HB.out.size (.cells #[.pointer (some ⟨T, i, none⟩), .int .i64 (a : Int), .int .i64 (b : Int)] 63))
      have HTK := Lib.hid htk
      have HNT := Lib.hid hnot
      have hko : (k : Int) + 1 ≤ 2 := by omega
      clear hdr hqe hxe ho hnot htk hti hx0 hx1 hq40
      cases o with
      | true =>
        go_wp2_with fail
        go_region_with (go_at_call 32; refine (CH.out _).mono ?_; rintro _ w2 ⟨rfl, hb2⟩; have HB2 := Lib.hid hb2; clear hb2)
        all_goals
          go_wp2
          go_roundw
          case rel => exact ⟨k + 1, by omega, by go_num, HTK.out, HBE.out.drew.trans (HB2.out.mono HBE.out.size)⟩
          case measure => simp [intOf]; omega
      | false =>
        go_wp2_with fail
        go_region_with (go_at_call 32; refine (CH.out _).mono ?_; rintro _ w2 ⟨rfl, hb2⟩; have HB2 := Lib.hid hb2; clear hb2)
        all_goals
          go_wp2
          go_ret
          exact ⟨by rw [HRR.out, if_neg (fun h => by have := HNT.out h; cases this)]; rfl, HBE.out.drew.trans (HB2.out.mono HBE.out.size)⟩
    · obtain rfl : k = m := by omega
      go_wp2
      go_ret
      have h := HA.out
      rw [List.take_of_length_le (by rw [← HM.out]; exact Nat.le_refl _)] at h
      exact ⟨by rw [HRR.out, if_pos h]; rfl, HB.out⟩
/-- The values of a block's numbers, by place. -/
def xvB (ra mi co : Int) (k : Nat) : Int := if k = 1 then ra else if k = 2 then mi else if k = 3 then co else 0
theorem xvB_in {ra mi co : Int} (hra : -9223372036854775808 ≤ ra ∧ ra ≤ 9223372036854775807) (hmi : -9223372036854775808 ≤ mi ∧ mi ≤ 9223372036854775807) (hco : -9223372036854775808 ≤ co ∧ co ≤ 9223372036854775807) (k : Nat) : -9223372036854775808 ≤ xvB ra mi co k ∧ xvB ra mi co k ≤ 9223372036854775807 := by
  unfold xvB
  split
  · exact hra
  · split
    · exact hmi
    · split
      · exact hco
      · decide
theorem blk_new1 (W : World) (o : Obj) (cs : Array Value) (t : TypeId) : Blk ((W.alloc o).alloc (.cells cs t)).drew (W.heap.size + 1) t cs.toList := by
  rw [show W.heap.size + 1 = (W.alloc o).heap.size by simp]
  exact Blk.same (heap_alloc_new (W.alloc o) (.cells cs t)) rfl
theorem blk_newd (w : World) (cs : Array Value) (t : TypeId) : Blk (w.alloc (.cells cs t)).drew w.heap.size t cs.toList := Blk.same (heap_alloc_new w (.cells cs t)) rfl
theorem nvs_two (T r : Nat) (h1 : 1 ≤ r) : nvs T [(2, 0, 3 * r + 64), (3, 0, r - 1)] = [.pointer (some ⟨T, 2, none⟩), .int .i64 0, .int .i64 (3 * (r : Int) + 64), .pointer (some ⟨T, 3, none⟩), .int .i64 0, .int .i64 ((r : Int) - 1)] := by
  simp only [nvs, List.flatMap_cons, List.flatMap_nil, List.cons_append, List.nil_append, List.append_nil]
  rw [show ((3 * r + 64 : Nat) : Int) = 3 * (r : Int) + 64 by omega, show ((r - 1 : Nat) : Int) = (r : Int) - 1 by omega]
  rfl
theorem blk_new (w : World) (cs : Array Value) (t : TypeId) {n : Nat} (h : n = w.heap.size) : Blk (w.alloc (.cells cs t)) n t cs.toList := by
  rw [h]
  exact heap_alloc_new _ _
end Go.Proofs.Ytcjjlkfenlmmlaa
