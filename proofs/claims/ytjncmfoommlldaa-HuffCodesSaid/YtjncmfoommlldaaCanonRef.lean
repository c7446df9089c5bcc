/- Layer 21: the reference's Check and Codes. -/
import Derived.Test.YtjncmfoommlldaaCanonFn
import Derived.Test.YtjncmfoommlldaaCanonOrd
import Derived.Test.YtjncmfoommlldaaLensAll
namespace Go.Proofs.Ytjncmfoommlldaa
open Go.RowKit Go.Sort Go.Shelf

/-- What is told of lens: that they may not be, that they aren't whole, or nothing. -/
def ckE (l : List Int) : Int := if l.any cBad = true then 2 else if wholeB l = true then 0 else 3
section
variable {w : World} {A : Option Addr} {n m : Nat} {l : List Int}
/-- The codes of fewer than N bits, and of N bits those of the first i letters. -/
def outC (l : List Nat) (N i : Nat) : List Int := (List.range l.length).map fun j => if (1 ≤ l.getD j 0 ∧ l.getD j 0 < N) ∨ (l.getD j 0 = N ∧ 1 ≤ N ∧ j < i) then (codeL l j : Int) else 0
theorem outC_len (l : List Nat) (N i : Nat) : (outC l N i).length = l.length := by simp [outC]
theorem outC_get (l : List Nat) (N i : Nat) {j : Nat} (h : j < l.length) : (outC l N i)[j]? = some (if (1 ≤ l.getD j 0 ∧ l.getD j 0 < N) ∨ (l.getD j 0 = N ∧ 1 ≤ N ∧ j < i) then (codeL l j : Int) else 0) := by
  unfold outC
  rw [List.getElem?_map, List.getElem?_range h]; rfl
theorem outC_start (l : List Nat) : outC l 1 0 = List.replicate l.length 0 := by
  refine List.ext_getElem? fun j => ?_
  by_cases h : j < l.length
  · rw [outC_get l 1 0 h, if_neg (by omega), List.getElem?_replicate, if_pos h]
  · rw [List.getElem?_eq_none (by rw [outC_len]; omega), List.getElem?_eq_none (by simp; omega)]
theorem outC_set (l : List Nat) (N : Nat) (hN : 1 ≤ N) {i : Nat} (h : i < l.length) (hi : l.getD i 0 = N) : (outC l N i).set i (codeL l i : Int) = outC l N (i + 1) := by
  refine List.ext_getElem? fun j => ?_
  rw [List.getElem?_set, outC_len]
  by_cases hj : j < l.length
  · rw [outC_get l N (i + 1) hj, outC_get l N i hj]
    by_cases e : i = j
    · subst e; rw [if_pos rfl, if_pos h, if_pos (.inr ⟨hi, hN, by omega⟩)]
    · rw [if_neg e]
      congr 1
      by_cases q : (1 ≤ l.getD j 0 ∧ l.getD j 0 < N) ∨ (l.getD j 0 = N ∧ 1 ≤ N ∧ j < i)
      · rw [if_pos q, if_pos (by omega)]
      · rw [if_neg q, if_neg (by omega)]
  · rw [List.getElem?_eq_none (by rw [outC_len]; omega), List.getElem?_eq_none (by rw [outC_len]; omega), if_neg (by omega)]
theorem outC_skip (l : List Nat) (N : Nat) {i : Nat} (hi : l.getD i 0 ≠ N) : outC l N (i + 1) = outC l N i := by
  refine List.ext_getElem? fun j => ?_
  by_cases hj : j < l.length
  · rw [outC_get l N (i + 1) hj, outC_get l N i hj]
    congr 1
    by_cases q : (1 ≤ l.getD j 0 ∧ l.getD j 0 < N) ∨ (l.getD j 0 = N ∧ 1 ≤ N ∧ j < i)
    · rw [if_pos q, if_pos (by omega)]
    · rw [if_neg q, if_neg (fun h => q (by
        rcases h with h | ⟨h1, h2, h3⟩
        · exact .inl h
        · by_cases e : j = i
          · subst e; exact absurd h1 hi
          · exact .inr ⟨h1, h2, by omega⟩))]
  · rw [List.getElem?_eq_none (by rw [outC_len]; omega), List.getElem?_eq_none (by rw [outC_len]; omega)]
theorem outC_next (l : List Nat) (N : Nat) (hN : 1 ≤ N) : outC l N l.length = outC l (N + 1) 0 := by
  refine List.ext_getElem? fun j => ?_
  by_cases hj : j < l.length
  · rw [outC_get l N _ hj, outC_get l (N + 1) 0 hj]
    congr 1
    by_cases q : 1 ≤ l.getD j 0 ∧ l.getD j 0 ≤ N
    · rw [if_pos (by omega), if_pos (by omega)]
    · rw [if_neg (by omega), if_neg (by omega)]
  · rw [List.getElem?_eq_none (by rw [outC_len]; omega), List.getElem?_eq_none (by rw [outC_len]; omega)]
theorem ends_most (l : List Nat) (M : Nat) : ends (lenC l) M ≤ l.length * 2 ^ M := by
  rw [sum_ends]
  induction l with
  | nil => simp
  | cons x l ih =>
    simp only [List.map_cons, List.sum_cons, List.length_cons]
    rw [Nat.add_mul, Nat.one_mul]
    have : (if 1 ≤ x ∧ x ≤ M then 2 ^ (M - x) else 0) ≤ 2 ^ M := by
      split
      · exact Nat.pow_le_pow_right (by decide) (by omega)
      · exact Nat.zero_le _
    omega
/-- Numbers as they are, of either sign, those below 0 as 0. -/
def natL (l : List Int) : List Nat := l.map Int.toNat
theorem natL_len (l : List Int) : (natL l).length = l.length := List.length_map ..
theorem natL_get (l : List Int) {i : Nat} (h : i < l.length) : (natL l).getD i 0 = (l[i]).toNat := by unfold natL; simp [List.getD_eq_getElem?_getD, h]
theorem count_step (l : List Nat) (N : Nat) {i : Nat} (h : i < l.length) : (l.take (i + 1)).count N = (l.take i).count N + if l.getD i 0 = N then 1 else 0 := by
  have e : l.getD i 0 = l[i] := by simp [List.getD_eq_getElem?_getD, h]
  rw [List.take_add_one, List.getElem?_eq_getElem h, List.count_append, e]
  congr 1
  by_cases h2 : l[i] = N
  · rw [if_pos h2, h2]; simp
  · rw [if_neg h2]; simp [h2]
theorem zvs_getC (l : List Int) {k : Nat} {x : Int} (h : l[k]? = some x) : (zvs l)[k]? = some (.int .i64 x) := by rw [zvs_get, h]; rfl
set_option maxHeartbeats 2000000 in
set_option maxRecDepth 100000 in
theorem ref_codes (hr : Rd w w.heap.size A (zvs l)) (hn : l.length = n) (hn1 : n ≤ 4096) :
    Calls Try.prog 38 #[.slice A n m] w fun e w' => ∃ v, e = .returned v ∧ LensV w.heap.size (outC (natL l) 16 0) v w' ∧ Below w.heap.size w w' := by
  have hmk := fun W => make_eqI n (by omega) W
  have HR := Lib.hid hr
  have HC := Lib.hid hn
  have hNL : (natL l).length = n := by rw [natL_len, hn]
  have HNL := Lib.hid hNL
  clear hr hn hNL
  go_enter Try.func38, Try.ntmps38
  go_wp2
  go_loopw [4, 5, 6] (fun nx N _ wr => ∃ M e : Nat, M ≤ 15 ∧ nx = .int .i64 (e : Int) ∧ Hid (e = ends (lenC (natL l)) M) ∧ N = .int .i64 ((M + 1 : Nat) : Int) ∧ Blk wr w.heap.size 3 (zvs (outC (natL l) (M + 1) 0)) ∧ Below w.heap.size w wr) (fun _ N _ _ => 16 - (intOf N).toNat)
  case atStart => exact ⟨0, 0, by decide, rfl, Lib.hid rfl, rfl, by
    have := heap_alloc_new w (.cells (plv (List.replicate n 0)).toArray 3)
    unfold Blk
    rw [this, outC_start, HNL.out]
    simp [plv], (Below.refl _ _).alloc (Nat.le_refl _) _⟩
  case round =>
    clear hmk
    obtain ⟨M, e, hM, rfl, HE, rfl, hblk, hb⟩ := hrel
    have HBL := Lib.hid hblk
    have HB := Lib.hid hb
    clear hblk hb
    have he : e ≤ 134217728 := by
      have h1 := ends_most (natL l) M
      rw [HE.out]
      have h2 : 2 ^ M ≤ 2 ^ 15 := Nat.pow_le_pow_right (by decide) hM
      have h3 : (natL l).length * 2 ^ M ≤ 4096 * 2 ^ 15 := Nat.mul_le_mul (by have := HNL.out; omega) h2
      omega
    by_cases hM15 : M < 15
    · have hNi : ((M + 1 : Nat) : Int) ≤ 15 := by omega
      obtain ⟨N, hN⟩ : ∃ N, N = M + 1 := ⟨_, rfl⟩
      rw [← hN] at hNi HBL ⊢
      have hN1 : 1 ≤ N := by omega
      have HN := Lib.hid hN
      clear hN
      go_wp2
      go_loopw [4, 6] (fun nx i wq => ∃ j q : Nat, j ≤ n ∧ nx = .int .i64 (q : Int) ∧ Hid (q = 2 * e + ((natL l).take j).count N) ∧ q ≤ 2 * e + j ∧ i = .int .i64 (j : Int) ∧ Blk wq w.heap.size 3 (zvs (outC (natL l) N j)) ∧ Below w.heap.size w wq) (fun _ i _ => n - (intOf i).toNat)
      case atStart => exact ⟨0, 2 * e, Nat.zero_le _, by go_num, Lib.hid (by simp), by omega, rfl, HBL.out, HB.out⟩
      case round =>
        clear HBL HB
        obtain ⟨j, q, hj, rfl, HQ, hq, rfl, hblk, hb⟩ := hrel
        have HBL := Lib.hid hblk
        have HB := Lib.hid hb
        by_cases hjn : j < n
        · have hjc : j < l.length := by have := HC.out; omega
          have hjn2 : j < (natL l).length := by have := HNL.out; omega
          obtain ⟨ab, ao, rfl, -, hcell⟩ := cell_of_rd (HR.out.below hb) hjc
          have hji : (j : Int) < (n : Int) := by omega
          have hgj := natL_get l hjc
          have hcs := count_step (natL l) N hjn2
          obtain ⟨x, hx⟩ : ∃ x, x = l[j]'hjc := ⟨_, rfl⟩
          rw [← hx] at hcell hgj
          by_cases hxN : x = (N : Int)
          · have hgN : (natL l).getD j 0 = N := by rw [hgj, hxN]; omega
            rw [if_pos hgN] at hcs
            have hq2 : q = codeL (natL l) j := by
              rw [HQ.out]; unfold codeL
              rw [hgN, HE.out, HN.out, Nat.add_sub_cancel]
            have hset := hblk.set_ j (.int .i64 (codeL (natL l) j : Int))
            rw [zvs_set, outC_set _ N hN1 hjn2 hgN, ← hq2] at hset
            have hck := hblk.cell j
            rw [zvs_getC _ (outC_get _ N j hjn2)] at hck
            obtain ⟨y, hy⟩ : ∃ y, y = (if (1 ≤ (natL l).getD j 0 ∧ (natL l).getD j 0 < N) ∨ ((natL l).getD j 0 = N ∧ 1 ≤ N ∧ j < j) then (codeL (natL l) j : Int) else 0) := ⟨_, rfl⟩
            rw [← hy] at hck
            have hfk := hblk.frozen j
            have hgs := hblk.lt
            have HB5 := Lib.hid (hb.setCell (p := ⟨w.heap.size, j, none⟩) (Nat.le_refl _) (.int .i64 (q : Int)))
            have HS := Lib.hid hset
            have HQ2 := Lib.hid (show q + 1 = 2 * e + ((natL l).take (j + 1)).count N by rw [hcs, HQ.out]; omega)
            subst hxN
            clear hblk hb hset hy hgj hgN hcs hq2 hx HBL HB HQ
            go_wp2
            refine ⟨⟨j + 1, q + 1, by omega, by go_num, Lib.hid HQ2.out, by omega, by go_num, HS.out, HB5.out⟩, by simp [intOf]; omega⟩
          · have hgN : (natL l).getD j 0 ≠ N := by rw [hgj]; omega
            rw [if_neg hgN] at hcs
            have HS := Lib.hid (show Blk wr w.heap.size 3 (zvs (outC (natL l) N (j + 1))) by rw [outC_skip _ N hgN]; exact hblk)
            have HQ2 := Lib.hid (show q = 2 * e + ((natL l).take (j + 1)).count N by rw [hcs, HQ.out]; omega)
            clear hblk hb hgj hgN hcs hx HBL HQ
            go_wp2
            go_roundw
            case rel => exact ⟨j + 1, q, by omega, rfl, Lib.hid HQ2.out, by omega, by go_num, HS.out, HB.out⟩
            case measure => simp [intOf]; omega
        · obtain rfl : j = n := by omega
          have hend : q = ends (lenC (natL l)) (M + 1) := by
            rw [HQ.out, List.take_of_length_le (by have := HNL.out; omega), HE.out, HN.out]; rfl
          have hM2 := HN.out
          have hout : outC (natL l) N j = outC (natL l) (N + 1) 0 := by rw [← HNL.out]; exact outC_next _ N hN1
          rw [hout] at hblk
          have HS := Lib.hid hblk
          have HEE := Lib.hid hend
          clear hblk hb hout hend HBL HQ
          go_wp2
          go_roundw
          case rel => exact ⟨M + 1, q, by omega, rfl, Lib.hid HEE.out, by rw [← hM2]; go_num, by rw [← hM2]; exact HS.out, HB.out⟩
          case measure => simp [intOf]; omega
    · obtain rfl : M = 15 := by omega
      have HEND := Lib.hid (show LensV w.heap.size (outC (natL l) 16 0) (.slice (some ⟨w.heap.size, 0, none⟩) n n) wr from ⟨w.heap.size, n, rfl, by rw [outC_len, HNL.out], Nat.le_refl _, HBL.out⟩)
      clear HBL
      go_wp2
      go_ret
      exact ⟨_, rfl, HEND.out, HB.out⟩
end
end Go.Proofs.Ytjncmfoommlldaa
