/- Layer 21: the reference's Check and Codes. -/
import Derived.Test.YtgcegdjnemlcoaaCanonFn
import Derived.Test.YtgcegdjnemlcoaaCanonOrd
import Derived.Test.YtgcegdjnemlcoaaLensAll
namespace Go.Proofs.Ytgcegdjnemlcoaa
open Go.RowKit Go.Sort Go.Shelf

/-- What is told of lens: that they may not be, that they aren't whole, or nothing. -/
def ckE (l : List Int) : Int := if l.any cBad = true then 2 else if wholeB l = true then 0 else 3
section
variable {w : World} {A : Option Addr} {n m : Nat} {l : List Int}
set_option maxHeartbeats 2000000 in
set_option maxRecDepth 100000 in
theorem ref_check {B : Nat} (hr : Rd w B A (zvs l)) (hn : l.length = n) (hn1 : n ≤ 4096) :
    Calls Try.prog 16 #[.slice A n m] w fun e w' => e = .returned (.int .i64 (ckE l)) ∧ w' = w := by
  have HR := Lib.hid hr
  have HC := Lib.hid hn
  have CKR := Lib.hid (ref_kraft (m := m) hr hn hn1)
  obtain ⟨v, hv⟩ : ∃ v, v = ckE l := ⟨_, rfl⟩
  rw [← hv]
  have HV := Lib.hid hv
  clear hr hn hv
  go_enter Try.func16, Try.ntmps16
  go_wp2
  go_loopw [3, 4, 5] (fun many one i wr => ∃ (k M : Nat) (g : Int), k ≤ n ∧ i = .int .i64 (k : Int) ∧ many = .int .i64 (M : Int) ∧ one = .int .i64 g ∧ Hid (M = (posL (l.take k)).length ∧ (M = 1 → posL (l.take k) = [g])) ∧ Hid (∀ x ∈ l.take k, 0 ≤ x ∧ x ≤ 15) ∧ 0 ≤ g ∧ g ≤ 15 ∧ M ≤ k ∧ wr = w) (fun _ _ i _ => n - (intOf i).toNat)
  case atStart => exact ⟨0, 0, 0, Nat.zero_le _, rfl, rfl, rfl, Lib.hid ⟨rfl, fun h => by omega⟩, Lib.hid (fun x hx => by simp at hx), by omega, by omega, Nat.le_refl _, by first | trivial | rfl⟩
  case round =>
    obtain ⟨k, M, g, hk, rfl, rfl, rfl, HM, HG, hg0, hg1, hMk, rfl⟩ := hrel
    by_cases hlt : k < n
    · have hkc : k < l.length := by have := HC.out; omega
      obtain ⟨b, off, rfl, -, hcell⟩ := cell_of_rd HR.out hkc
      have hki : (k : Int) < (n : Int) := by omega
      have hp := posL_take l hkc
      have htk : l.take (k + 1) = l.take k ++ [l[k]] := by rw [List.take_add_one, List.getElem?_eq_getElem hkc]; rfl
      have hmem : l[k] ∈ l := List.getElem_mem hkc
      obtain ⟨x, hxx⟩ : ∃ x, x = l[k]'hkc := ⟨_, rfl⟩
      rw [← hxx] at hcell hp htk hmem
      have HT := Lib.hid (And.intro hp (And.intro htk hmem))
      clear hp htk hmem hxx
      by_cases hbad : x < 0 ∨ 15 < x
      · obtain rfl : v = 2 := by
          rw [HV.out]
          refine if_pos (List.any_eq_true.2 ⟨x, HT.out.2.2, ?_⟩)
          unfold cBad
          rcases hbad with h | h
          · simp [h]
          · simp [h]
        by_cases h0 : x < 0
        · clear hbad
          go_wp2
          go_ret
          exact ⟨rfl, rfl⟩
        · have h1 : 15 < x := by omega
          clear hbad
          go_wp2
          go_ret
          exact ⟨rfl, rfl⟩
      · have h0 : ¬ x < 0 := by omega
        have h1 : ¬ 15 < x := by omega
        have HG2 := Lib.hid (show ∀ y ∈ l.take (k + 1), 0 ≤ y ∧ y ≤ 15 from fun y hy => by
          rw [HT.out.2.1] at hy
          rcases List.mem_append.1 hy with h | h
          · exact HG.out y h
          · rw [List.mem_singleton] at h; omega)
        clear hbad HG
        by_cases h2 : 0 < x
        · have HE := Lib.hid (show (M + 1 = (posL (l.take (k + 1))).length) ∧ (M + 1 = 1 → posL (l.take (k + 1)) = [x]) by
            rw [HT.out.1, if_pos h2]
            refine ⟨by rw [List.length_append, ← HM.out.1]; rfl, fun h => ?_⟩
            have hn : posL (l.take k) = [] := List.eq_nil_of_length_eq_zero (by rw [← HM.out.1]; omega)
            rw [hn]; rfl)
          clear HM
          go_wp2
          refine ⟨⟨k + 1, M + 1, x, by omega, by go_num, by go_num, rfl, Lib.hid HE.out, HG2, by omega, by omega, by omega, by first | trivial | rfl⟩, by simp [intOf]; omega⟩
        · have HE := Lib.hid (show posL (l.take (k + 1)) = posL (l.take k) by rw [HT.out.1, if_neg h2, List.append_nil])
          go_wp2
          go_roundw
          case rel => exact ⟨k + 1, M, g, by omega, by go_num, rfl, rfl, by rw [HE.out]; exact HM, HG2, hg0, hg1, by omega, by first | trivial | rfl⟩
          case measure => simp [intOf]; omega
    · obtain rfl : k = n := by omega
      rw [List.take_of_length_le (by have := HC.out; omega)] at HM HG
      have hany : ¬ l.any cBad = true := by rw [cBad_none.2 HG.out]; decide
      have HV2 := Lib.hid (show v = if wholeB l = true then 0 else 3 by rw [HV.out]; exact if_neg hany)
      clear HV hany HG
      obtain ⟨K, hK⟩ : ∃ K, K = kraftI l := ⟨_, rfl⟩
      rw [← hK] at CKR
      have HK := Lib.hid hK
      clear hK
      by_cases hK1 : K = 32768
      · obtain rfl : v = 0 := by rw [HV2.out]; exact if_pos ((wholeB_iff l).2 (.inl (by rw [← HK.out]; exact hK1)))
        subst hK1
        go_wp2_with fail
        refine CKR.out.mono ?_
        rintro e w5 ⟨rfl, hw⟩
        subst hw
        go_wp2
        go_ret
        exact ⟨rfl, rfl⟩
      · have hK2 : ¬ (K : Int) = 32768 := by omega
        by_cases hM1 : M = 1
        · subst hM1
          have hp := HM.out.2 rfl
          by_cases hg : g = 1
          · obtain rfl : v = 0 := by rw [HV2.out]; exact if_pos ((wholeB_iff l).2 (.inr (by rw [hp, hg])))
            subst hg
            clear hp
            go_wp2_with fail
            refine CKR.out.mono ?_
            rintro e w5 ⟨rfl, hw⟩
            subst hw
            go_wp2
            go_ret
            exact ⟨rfl, rfl⟩
          · obtain rfl : v = 3 := by
              rw [HV2.out]
              refine if_neg fun hh => ?_
              rcases (wholeB_iff l).1 hh with h | h
              · rw [← HK.out] at h; exact hK1 h
              · rw [hp] at h; injection h with h; exact hg h
            clear hp
            have q1 : ((K : Int) != 32768) = true := bne_iff_ne.2 hK2
            have q2 : (g != 1) = true := bne_iff_ne.2 hg
            go_wp2_with fail
            refine CKR.out.mono ?_
            rintro e w5 ⟨rfl, hw⟩
            subst hw
            go_wp2
            go_ret
            exact ⟨rfl, rfl⟩
        · obtain rfl : v = 3 := by
            rw [HV2.out]
            refine if_neg fun hh => ?_
            rcases (wholeB_iff l).1 hh with h | h
            · rw [← HK.out] at h; exact hK1 h
            · have := HM.out.1; rw [h] at this; exact hM1 this
          have hM2 : ¬ (M : Int) = 1 := by omega
          go_wp2_with fail
          refine CKR.out.mono ?_
          rintro e w5 ⟨rfl, hw⟩
          subst hw
          go_wp2
          go_ret
          exact ⟨rfl, rfl⟩
/-- The codes of fewer than N bits, and of N bits those of the first i letters. -/
def outC (l : List Nat) (N i : Nat) : List Int := (List.range l.length).map fun j => if (1 ≤ l.getD j 0 ∧ l.getD j 0 < N) ∨ (l.getD j 0 = N ∧ 1 ≤ N ∧ j < i) then (codeL l j : Int) else 0
theorem outC_len (l : List Nat) (N i : Nat) : (outC l N i).length = l.length := by simp [outC]
theorem outC_get (l : List Nat) (N i : Nat) {j : Nat} (h : j < l.length) : (outC l N i)[j]? = some (if (1 ≤ l.getD j 0 ∧ l.getD j 0 < N) ∨ (l.getD j 0 = N ∧ 1 ≤ N ∧ j < i) then (codeL l j : Int) else 0) := by
  unfold outC
  rw [List.getElem?_map, List.getElem?_range h]; rfl
theorem outC_start (l : List Nat) : outC l 1 0 = List.replicate l.length 0 := by
  refine List.ext_getElem? fun j => ?_
  by_cases h : j < l.length
  · rw [outC_get l 1 0 h, if_neg (by omega), List.getElem?_replicate, if_pos h]
  · rw [List.getElem?_eq_none (by rw [outC_len]; omega), List.getElem?_eq_none (by simp; omega)]
theorem outC_set (l : List Nat) (N : Nat) (hN : 1 ≤ N) {i : Nat} (h : i < l.length) (hi : l.getD i 0 = N) : (outC l N i).set i (codeL l i : Int) = outC l N (i + 1) := by
  refine List.ext_getElem? fun j => ?_
  rw [List.getElem?_set, outC_len]
  by_cases hj : j < l.length
  · rw [outC_get l N (i + 1) hj, outC_get l N i hj]
    by_cases e : i = j
    · subst e; rw [if_pos rfl, if_pos h, if_pos (.inr ⟨hi, hN, by omega⟩)]
    · rw [if_neg e]
      congr 1
      by_cases q : (1 ≤ l.getD j 0 ∧ l.getD j 0 < N) ∨ (l.getD j 0 = N ∧ 1 ≤ N ∧ j < i)
      · rw [if_pos q, if_pos (by omega)]
      · rw [if_neg q, if_neg (by omega)]
  · rw [List.getElem?_eq_none (by rw [outC_len]; omega), List.getElem?_eq_none (by rw [outC_len]; omega), if_neg (by omega)]
theorem outC_skip (l : List Nat) (N : Nat) {i : Nat} (hi : l.getD i 0 ≠ N) : outC l N (i + 1) = outC l N i := by
  refine List.ext_getElem? fun j => ?_
  by_cases hj : j < l.length
  · rw [outC_get l N (i + 1) hj, outC_get l N i hj]
    congr 1
    by_cases q : (1 ≤ l.getD j 0 ∧ l.getD j 0 < N) ∨ (l.getD j 0 = N ∧ 1 ≤ N ∧ j < i)
    · rw [if_pos q, if_pos (by omega)]
    · rw [if_neg q, if_neg (fun h => q (by
        rcases h with h | ⟨h1, h2, h3⟩
        · exact .inl h
        · by_cases e : j = i
          · subst e; exact absurd h1 hi
          · exact .inr ⟨h1, h2, by omega⟩))]
  · rw [List.getElem?_eq_none (by rw [outC_len]; omega), List.getElem?_eq_none (by rw [outC_len]; omega)]
theorem outC_next (l : List Nat) (N : Nat) (hN : 1 ≤ N) : outC l N l.length = outC l (N + 1) 0 := by
  refine List.ext_getElem? fun j => ?_
  by_cases hj : j < l.length
  · rw [outC_get l N _ hj, outC_get l (N + 1) 0 hj]
    congr 1
    by_cases q : 1 ≤ l.getD j 0 ∧ l.getD j 0 ≤ N
    · rw [if_pos (by omega), if_pos (by omega)]
    · rw [if_neg (by omega), if_neg (by omega)]
  · rw [List.getElem?_eq_none (by rw [outC_len]; omega), List.getElem?_eq_none (by rw [outC_len]; omega)]
theorem ends_most (l : List Nat) (M : Nat) : ends (lenC l) M ≤ l.length * 2 ^ M := by
  rw [sum_ends]
  induction l with
  | nil => simp
  | cons x l ih =>
    simp only [List.map_cons, List.sum_cons, List.length_cons]
    rw [Nat.add_mul, Nat.one_mul]
    have : (if 1 ≤ x ∧ x ≤ M then 2 ^ (M - x) else 0) ≤ 2 ^ M := by
      split
      · exact Nat.pow_le_pow_right (by decide) (by omega)
      · exact Nat.zero_le _
    omega
/-- Numbers as they are, of either sign, those below 0 as 0. -/
def natL (l : List Int) : List Nat := l.map Int.toNat
theorem natL_len (l : List Int) : (natL l).length = l.length := List.length_map ..
theorem natL_get (l : List Int) {i : Nat} (h : i < l.length) : (natL l).getD i 0 = (l[i]).toNat := by unfold natL; simp [List.getD_eq_getElem?_getD, h]
theorem count_step (l : List Nat) (N : Nat) {i : Nat} (h : i < l.length) : (l.take (i + 1)).count N = (l.take i).count N + if l.getD i 0 = N then 1 else 0 := by
  have e : l.getD i 0 = l[i] := by simp [List.getD_eq_getElem?_getD, h]
  rw [List.take_add_one, List.getElem?_eq_getElem h, List.count_append, e]
  congr 1
  by_cases h2 : l[i] = N
  · rw [if_pos h2, h2]; simp
  · rw [if_neg h2]; simp [h2]
theorem zvs_getC (l : List Int) {k : Nat} {x : Int} (h : l[k]? = some x) : (zvs l)[k]? = some (.int .i64 x) := by rw [zvs_get, h]; rfl
set_option maxHeartbeats 2000000 in
set_option maxRecDepth 100000 in
theorem ref_codes (hr : Rd w w.heap.size A (zvs l)) (hn : l.length = n) (hn1 : n ≤ 4096) :
    Calls Try.prog 17 #[.slice A n m] w fun e w' => ∃ v, e = .returned v ∧ LensV w.heap.size (outC (natL l) 16 0) v w' ∧ Below w.heap.size w w' := by
  have hmk := fun W => make_eqI n (by omega) W
  have HR := Lib.hid hr
  have HC := Lib.hid hn
  have hNL : (natL l).length = n := by rw [natL_len, hn]
  have HNL := Lib.hid hNL
  clear hr hn hNL
  go_enter Try.func17, Try.ntmps17
  go_wp2
  go_loopw [4, 5, 6] (fun nx N _ wr => ∃ M e : Nat, M ≤ 15 ∧ nx = .int .i64 (e : Int) ∧ Hid (e = ends (lenC (natL l)) M) ∧ N = .int .i64 ((M + 1 : Nat) : Int) ∧ Blk wr w.heap.size 3 (zvs (outC (natL l) (M + 1) 0)) ∧ Below w.heap.size w wr) (fun _ N _ _ => 16 - (intOf N).toNat)
  case atStart => exact ⟨0, 0, by decide, rfl, Lib.hid rfl, rfl, by
    have := heap_alloc_new w (.cells (plv (List.replicate n 0)).toArray 3)
    unfold Blk
    rw [this, outC_start, HNL.out]
    simp [plv], (Below.refl _ _).alloc (Nat.le_refl _) _⟩
  case round =>
    clear hmk
    obtain ⟨M, e, hM, rfl, HE, rfl, hblk, hb⟩ := hrel
    have HBL := Lib.hid hblk
    have HB := Lib.hid hb
    clear hblk hb
    have he : e ≤ 134217728 := by
      have h1 := ends_most (natL l) M
      rw [HE.out]
      have h2 : 2 ^ M ≤ 2 ^ 15 := Nat.pow_le_pow_right (by decide) hM
      have h3 : (natL l).length * 2 ^ M ≤ 4096 * 2 ^ 15 := Nat.mul_le_mul (by have := HNL.out; omega) h2
      omega
    by_cases hM15 : M < 15
    · have hNi : ((M + 1 : Nat) : Int) ≤ 15 := by omega
      obtain ⟨N, hN⟩ : ∃ N, N = M + 1 := ⟨_, rfl⟩
      rw [← hN] at hNi HBL ⊢
      have hN1 : 1 ≤ N := by omega
      have HN := Lib.hid hN
      clear hN
      go_wp2
      go_loopw [4, 6] (fun nx i wq => ∃ j q : Nat, j ≤ n ∧ nx = .int .i64 (q : Int) ∧ Hid (q = 2 * e + ((natL l).take j).count N) ∧ q ≤ 2 * e + j ∧ i = .int .i64 (j : Int) ∧ Blk wq w.heap.size 3 (zvs (outC (natL l) N j)) ∧ Below w.heap.size w wq) (fun _ i _ => n - (intOf i).toNat)
      case atStart => exact ⟨0, 2 * e, Nat.zero_le _, by go_num, Lib.hid (by simp), by omega, rfl, HBL.out, HB.out⟩
      case round =>
        clear HBL HB
        obtain ⟨j, q, hj, rfl, HQ, hq, rfl, hblk, hb⟩ := hrel
        have HBL := Lib.hid hblk
        have HB := Lib.hid hb
        by_cases hjn : j < n
        · have hjc : j < l.length := by have := HC.out; omega
          have hjn2 : j < (natL l).length := by have := HNL.out; omega
          obtain ⟨ab, ao, rfl, -, hcell⟩ := cell_of_rd (HR.out.below hb) hjc
          have hji : (j : Int) < (n : Int) := by omega
          have hgj := natL_get l hjc
          have hcs := count_step (natL l) N hjn2
          obtain ⟨x, hx⟩ : ∃ x, x = l[j]'hjc := ⟨_, rfl⟩
          rw [← hx] at hcell hgj
          by_cases hxN : x = (N : Int)
          · have hgN : (natL l).getD j 0 = N := by rw [hgj, hxN]; omega
            rw [if_pos hgN] at hcs
            have hq2 : q = codeL (natL l) j := by
              rw [HQ.out]; unfold codeL
              rw [hgN, HE.out, HN.out, Nat.add_sub_cancel]
            have hset := hblk.set_ j (.int .i64 (codeL (natL l) j : Int))
            rw [zvs_set, outC_set _ N hN1 hjn2 hgN, ← hq2] at hset
            have hck := hblk.cell j
            rw [zvs_getC _ (outC_get _ N j hjn2)] at hck
            obtain ⟨y, hy⟩ : ∃ y, y = (if (1 ≤ (natL l).getD j 0 ∧ (natL l).getD j 0 < N) ∨ ((natL l).getD j 0 = N ∧ 1 ≤ N ∧ j < j) then (codeL (natL l) j : Int) else 0) := ⟨_, rfl⟩
            rw [← hy] at hck
            have hfk := hblk.frozen j
            have hgs := hblk.lt
            have HB5 := Lib.hid (hb.setCell (p := ⟨w.heap.size, j, none⟩) (Nat.le_refl _) (.int .i64 (q : Int)))
            have HS := Lib.hid hset
            have HQ2 := Lib.hid (show q + 1 = 2 * e + ((natL l).take (j + 1)).count N by rw [hcs, HQ.out]; omega)
            subst hxN
            clear hblk hb hset hy hgj hgN hcs hq2 hx HBL HB HQ
            go_wp2
            refine ⟨⟨j + 1, q + 1, by omega, by go_num, Lib.hid HQ2.out, by omega, by go_num, HS.out, HB5.out⟩, by simp [intOf]; omega⟩
          · have hgN : (natL l).getD j 0 ≠ N := by rw [hgj]; omega
            rw [if_neg hgN] at hcs
            have HS := Lib.hid (show Blk wr w.heap.size 3 (zvs (outC (natL l) N (j + 1))) by rw [outC_skip _ N hgN]; exact hblk)
            have HQ2 := Lib.hid (show q = 2 * e + ((natL l).take (j + 1)).count N by rw [hcs, HQ.out]; omega)
            clear hblk hb hgj hgN hcs hx HBL HQ
            go_wp2
            go_roundw
            case rel => exact ⟨j + 1, q, by omega, rfl, Lib.hid HQ2.out, by omega, by go_num, HS.out, HB.out⟩
            case measure => simp [intOf]; omega
        · obtain rfl : j = n := by omega
          have hend : q = ends (lenC (natL l)) (M + 1) := by
            rw [HQ.out, List.take_of_length_le (by have := HNL.out; omega), HE.out, HN.out]; rfl
          have hM2 := HN.out
          have hout : outC (natL l) N j = outC (natL l) (N + 1) 0 := by rw [← HNL.out]; exact outC_next _ N hN1
          rw [hout] at hblk
          have HS := Lib.hid hblk
          have HEE := Lib.hid hend
          clear hblk hb hout hend HBL HQ
          go_wp2
          go_roundw
          case rel => exact ⟨M + 1, q, by omega, rfl, Lib.hid HEE.out, by rw [← hM2]; go_num, by rw [← hM2]; exact HS.out, HB.out⟩
          case measure => simp [intOf]; omega
    · obtain rfl : M = 15 := by omega
      have HEND := Lib.hid (show LensV w.heap.size (outC (natL l) 16 0) (.slice (some ⟨w.heap.size, 0, none⟩) n n) wr from ⟨w.heap.size, n, rfl, by rw [outC_len, HNL.out], Nat.le_refl _, HBL.out⟩)
      clear HBL
      go_wp2
      go_ret
      exact ⟨_, rfl, HEND.out, HB.out⟩
end
end Go.Proofs.Ytgcegdjnemlcoaa
