/-
  Layer 30: the program: has, checkTag, getSum, putSum, PutEnd. · Layer 30: the program: Put.
-/
import Derived.Test.YtjignfnkcbklkaaQ06
import Derived.Test.YtjignfnkcbklkaaQ08
import Derived.Test.YtjignfnkcbklkaaQ09
namespace Go.Proofs.Ytjignfnkcbklkaa
open Go.RowKit

/-- Is a number within its limits? -/
def hasB30 (a b v : Int) : Bool := decide (v ≤ 9223372036854775807) && (decide (a ≤ v) && decide (v ≤ b))
set_option maxRecDepth 100000 in
set_option maxHeartbeats 1000000 in
theorem blkHas_any (p : Option Addr) (a b : Int) {v : Int} (h0 : 0 ≤ v) (h1 : v ≤ 18446744073709551615) (W : World) :
    Calls Try.prog 47 #[.agg #[.pointer p, .int .i64 a, .int .i64 b], .int .u64 v] W fun e w' => e = .returned (.bool (hasB30 a b v)) ∧ Below W.heap.size W w' := by
  unfold hasB30
  by_cases hv : v ≤ 9223372036854775807
  · by_cases ha : a ≤ v
    · go_enter Try.func47, Try.ntmps47
      go_wp2
      all_goals
        go_ret
        refine ⟨ret_bb ?_, (Below.refl _ _).alloc (Nat.le_refl _) _⟩
        rw [Bool.eq_iff_iff]
        simp
        try omega
    · go_enter Try.func47, Try.ntmps47
      go_wp2
      all_goals
        go_ret
        refine ⟨ret_bb ?_, (Below.refl _ _).alloc (Nat.le_refl _) _⟩
        rw [Bool.eq_iff_iff]
        simp
        try omega
  · go_enter Try.func47, Try.ntmps47
    go_wp2
    all_goals
      go_ret
      refine ⟨ret_bb ?_, (Below.refl _ _).alloc (Nat.le_refl _) _⟩
      rw [Bool.eq_iff_iff]
      simp
      try omega
/-- Why bytes don't begin with one of some tags. -/
def tagE (l : List UInt8) (a b : Nat) : Nat := if l.length = 0 then 11 else if (l.getD 0 0).toNat < a ∨ b < (l.getD 0 0).toNat then 14 else 0
set_option maxRecDepth 100000 in
set_option maxHeartbeats 1000000 in
theorem blkTag_any (A : Option Addr) (n c : Nat) (l : List UInt8) (W : World) (hr : Rd W W.heap.size A (bvs l)) (hn : l.length = n) (a b : Nat) :
    Calls Try.prog 50 #[.slice A n c, .int .u8 (a : Int), .int .u8 (b : Int)] W fun e w' => e = .returned (.int .i64 (tagE l a b : Int)) ∧ w' = W := by
  by_cases h0 : n = 0
  · have ht : tagE l a b = 11 := by unfold tagE; rw [if_pos (by omega)]
    rw [ht]
    subst h0
    clear hr hn ht
    go_enter Try.func50, Try.ntmps50
    go_wp2
    go_ret
    exact ⟨rfl, rfl⟩
  · obtain ⟨ab, ao, rfl, hbl, hcell⟩ := hr.at_ (by rw [bvs_length]; omega)
    have hg : (bvs l)[0]? = some (.int .u8 ((l.getD 0 0).toNat : Int)) := by
      unfold bvs
      rw [List.getElem?_map, List.getD_eq_getElem?_getD, List.getElem?_eq_getElem (by omega)]
      rfl
    have c0 := hcell 0 _ hg
    rw [Nat.add_zero] at c0
    have ht : tagE l a b = if (l.getD 0 0).toNat < a ∨ b < (l.getD 0 0).toNat then 14 else 0 := by unfold tagE; rw [if_neg (by omega)]
    rw [ht]
    obtain ⟨x, hx⟩ : ∃ x, x = (l.getD 0 0).toNat := ⟨_, rfl⟩
    rw [← hx] at c0 ⊢
    have hni : (0 : Int) < (n : Int) := by omega
    have hni' : ¬ (n : Int) = 0 := by omega
    clear hr hcell hg ht hx hbl hn
    by_cases h1 : x < a
    · rw [if_pos (.inl h1)]
      go_enter Try.func50, Try.ntmps50
      go_wp2
      go_ret
      exact ⟨rfl, rfl⟩
    · by_cases h2 : b < x
      · rw [if_pos (.inr h2)]
        go_enter Try.func50, Try.ntmps50
        go_wp2
        go_ret
        exact ⟨rfl, rfl⟩
      · rw [if_neg (by omega)]
        go_enter Try.func50, Try.ntmps50
        go_wp2
        go_ret
        exact ⟨rfl, rfl⟩
theorem words4 (l : List UInt8) (h : 4 ≤ l.length) : wordsN 1 4 (l.take 4) = [sum4 l] := by
  match l, h with
  | a :: b :: c :: d :: r, _ =>
    show [leN [a, b, c, d]] = _
    simp only [leN, sum4, List.getD_cons_zero, List.getD_cons_succ]
    congr 1
    omega
set_option maxRecDepth 100000 in
set_option maxHeartbeats 1000000 in
theorem blkGetSum_any (A : Option Addr) (n c : Nat) (l : List UInt8) (W : World) (hr : Rd W W.heap.size A (bvs l)) (hn : l.length = n) (hnc : n ≤ c) :
    Calls Try.prog 52 #[.slice A n c] W fun e w' => e = .returned (.tuple #[.int .u32 ((if n < 4 then 0 else sum4 l : Nat) : Int), .int .i64 ((if n < 4 then 11 else 0 : Nat) : Int)]) ∧ Below W.heap.size W w' := by
  by_cases h4 : n < 4
  · rw [if_pos h4, if_pos h4]
    have h4i : (n : Int) < 4 := by omega
    clear hr hn
    go_enter Try.func52, Try.ntmps52
    go_wp2
    go_ret2
    exact ⟨rfl, Below.refl _ _⟩
  · rw [if_neg h4, if_neg h4]
    have h4i : ¬ (n : Int) < 4 := by omega
    have h4c : (4 : Int) ≤ (c : Int) := by omega
    have hlt := sum4_lt l
    have CT := Lib.hid (wordTake_any 4 (.inr (.inr (.inl rfl))) A 4 c (l.take 4) W (by have := hr.take 4; rwa [bvs_take] at this) (by rw [List.length_take]; omega) (by omega) (by decide))
    rw [show (4 : Nat) / 4 = 1 from rfl, words4 l (by omega)] at CT
    obtain ⟨s, hs⟩ : ∃ s, s = sum4 l := ⟨_, rfl⟩
    rw [← hs] at CT hlt ⊢
    clear hr hn hs h4
    go_enter Try.func52, Try.ntmps52
    go_wp2_with fail
    refine CT.out.mono ?_
    rintro e w1 ⟨v, x, rfl, ⟨A1, c1, rfl, hc1, hr1⟩, -, hb1⟩
    obtain ⟨ab, ao, rfl, hbl, hcell⟩ := hr1.at_ (by simp [wvs])
    have c0 := hcell 0 (.int .u64 (s : Int)) (by simp [wvs])
    rw [Nat.add_zero] at c0
    have HB1 := Lib.hid hb1
    clear hr1 hcell hb1 hbl CT
    rw [show (wvs [s]).length = 1 from rfl]
    go_wp2
    go_ret2
    exact ⟨by rfl, HB1.out⟩
set_option maxRecDepth 100000 in
set_option maxHeartbeats 1000000 in
theorem blkPutSum_any {base n su : Nat} {v : Value} {L : List UInt8} {W : World} (ho : W.ownsRow base 5 1 v n (bvs L)) (hn : L.length = n) (hn1 : n ≤ 1000000) (hb : base ≤ W.heap.size) (hs : su < 4294967296) :
    Calls Try.prog 29 #[v, .int .u32 (su : Int)] W fun e w' => ∃ v', e = .returned v' ∧ w'.ownsRow base 5 1 v' (n + 4) (bvs (L ++ fourL su)) ∧ Below base W w' := by
  obtain ⟨i0, hi, hz0, hz1, hz2⟩ := info_parts info_u8
  have hrw : Rd (W.alloc (.cells #[.int .u64 (su : Int)] 59)) (W.alloc (.cells #[.int .u64 (su : Int)] 59)).heap.size (some ⟨W.heap.size, 0, none⟩) (wvs [su]) := Rd.new W _ _
  have hb0 := (Below.refl W.heap.size W).alloc (Nat.le_refl _) (.cells #[.int .u64 (su : Int)] 59)
  have CL := wordLay_any 4 (.inr (.inr (.inl rfl))) (some ⟨W.heap.size, 0, none⟩) 1 1 [su] none 0 0 [] _ hrw rfl (fun y hy => by obtain rfl := List.mem_singleton.1 hy; omega) (Rd.nil_ _ _ _) rfl (by decide) (by decide)
  rw [lay4] at CL
  have HCL := Lib.hid CL
  have HB0 := Lib.hid hb0
  have HO0 := Lib.hid (own_kept ho hb0)
  obtain ⟨A0, c0, rfl, hnc, -, -⟩ := own_form ho
  have hsi : (su : Int) < 4294967296 := by omega
  have HN := Lib.hid hn
  have HB := Lib.hid hb
  clear ho hrw hb0 CL hn hb
  go_enter Try.func29, Try.ntmps29
  go_wp2_with fail
  refine HCL.out.mono ?_
  rintro e w2 ⟨v2, rfl, ⟨A2, c2, rfl, hc2, hr2⟩, hb2⟩
  have HB2 := Lib.hid (HB0.out.trans (hb2.mono HB0.out.size))
  have HO2 := Lib.hid (own_kept HO0.out hb2)
  have HR2 := Lib.hid hr2
  have hz2' : base ≤ w2.heap.size := Nat.le_trans HB.out (HB2.out.size)
  clear hr2 hb2 HO0 HB0 HCL
  go_wp2_with ((with_reducible show wpList _ _ _ (({ dst := some 10, op := _, type := _, pos := _, after := _, guard := _ } : Oper) :: _) _ _); go_must (refine wpList_app rfl (.tmp 5) (.tmp 9) 29 rfl base 5 i0 (.int .u8 0) 1 1 Try.underlying29 hi hz0 hz1 hz2 rfl (by decide) _ _ _ rfl HO2.out w2.heap.size A2 4 c2 (bvs (fourL su)) rfl HR2.out (by rw [bvs_length]; rfl) (bvs_one _) (by simp only [maxLen]; omega) (by omega) hz2' ?_; intro v3 w3 hown3 hg3; have hb3 := (HB2.out.mono HB.out).grown hg3 hz2' (own_block HO2.out); have HO3 := Lib.hid hown3; have HB3 := Lib.hid hb3; clear hg3 hown3 hb3))
  go_ret
  refine ⟨_, rfl, ?_, HB3.out⟩
  rw [bvs_append]
  exact HO3.out
set_option maxRecDepth 100000 in
set_option maxHeartbeats 1000000 in
theorem blkPutEnd_any {t : Int} (ht : t ≤ 9223372036854775807) {su : Nat} (hs : su < 4294967296) (W : World) : Calls Try.prog 14 #[.int .i64 t, .int .u32 (su : Int)] W (NewB W (endL t.toNat su)) := by
  obtain ⟨N, hN⟩ : ∃ N, N = t.toNat := ⟨_, rfl⟩
  rw [← hN]
  have hmx : max t 0 = (N : Int) := by omega
  have hNb : N ≤ 9223372036854775807 := by omega
  have hrw : Rd (W.alloc (.cells #[.int .u8 0] 5)) (W.alloc (.cells #[.int .u8 0] 5)).heap.size (some ⟨W.heap.size, 0, none⟩) (bvs [0]) := Rd.new W _ _
  have hb0 := (Below.refl W.heap.size W).alloc (Nat.le_refl _) (.cells #[.int .u8 0] 5)
  have CL := lebPut_any (some ⟨W.heap.size, 0, none⟩) 1 1 [0] (N : Int) _ hrw rfl (by decide) (by omega) (by omega)
  rw [Int.toNat_natCast] at CL
  have HCL := Lib.hid CL
  have HB0 := Lib.hid hb0
  have HLL := Lib.hid (lput_le N (by omega))
  have HMX := Lib.hid hmx
  clear hN hrw CL hb0
  go_enter Try.func14, Try.ntmps14
  go_wp2_with fail
  refine HCL.out.mono ?_
  rintro e w2 ⟨v2, rfl, ho2, hb2⟩
  have HB2 := Lib.hid (HB0.out.trans (hb2.mono HB0.out.size))
  have C := blkPutSum_any (su := su) (own_more ho2 HB0.out.size) rfl (by rw [List.length_append]; have := HLL.out; simp; omega) (Nat.le_trans HB0.out.size hb2.size) hs
  have HC := Lib.hid C
  clear ho2 hb2 C HCL
  go_wp2_with fail
  refine HC.out.mono ?_
  rintro e w3 ⟨v3, rfl, ho3, hb3⟩
  have HO3 := Lib.hid ho3
  have HB3 := Lib.hid (HB2.out.trans hb3)
  clear ho3 hb3 HC
  go_wp2
  go_ret
  refine ⟨_, rfl, ?_, HB3.out⟩
  have e1 : endL N su = ([0] ++ lput N) ++ fourL su := rfl
  have e2 : (endL N su).length = ([0] ++ lput N).length + 4 := by rw [e1, List.length_append]; rfl
  rw [e2, e1]
  exact HO3.out
end Go.Proofs.Ytjignfnkcbklkaa
namespace Go.Proofs.Ytjignfnkcbklkaa
open Go.RowKit

set_option maxRecDepth 100000 in
set_option maxHeartbeats 2000000 in
theorem blkPut_any {mo ra mi co su : Nat} {fr pl : Int} (hmo : mo ≤ 5) (hra : ra ≤ 16777216) (hmi : mi ≤ 100000000) (hco : co ≤ 16777216) (hs : su < 4294967296) (W : World) :
    Calls Try.prog 13 #[blkV (mo : Int) (ra : Int) (mi : Int) (co : Int) (su : Int) fr pl] W (NewB W (blkL mo ra mi co su)) := by
  have HLR := Lib.hid (lput_le ra (by omega))
  have HLM := Lib.hid (lput_le mi (by omega))
  have HLC := Lib.hid (lput_le co (by omega))
  unfold blkV
  obtain ⟨CS, hCS⟩ : ∃ CS : List Value, CS = [.int .i64 (mo : Int), .int .i64 (ra : Int), .int .i64 (mi : Int), .int .i64 (co : Int), .int .u32 (su : Int), .int .i64 fr, .int .i64 pl] := ⟨_, rfl⟩
  have hm1 : ((UInt8.ofNat (mo + 1)).toNat : Int) = (mo : Int) + 1 := by rw [UInt8.toNat_ofNat']; omega
  have hm2 : (mo : Int) + 1 ≤ 255 := by omega
  obtain ⟨w1, hw1⟩ : ∃ w1 : World, w1 = (W.alloc (.cells #[.int .i64 (mo : Int), .int .i64 (ra : Int), .int .i64 (mi : Int), .int .i64 (co : Int), .int .u32 (su : Int), .int .i64 fr, .int .i64 pl] 37)) := ⟨_, rfl⟩
  have hS1 : Blk w1 W.heap.size 37 CS := by rw [hw1, hCS]; exact heap_alloc_new W _
  have hB1 : Below W.heap.size W w1 := by rw [hw1]; exact (Below.refl W.heap.size W).alloc (Nat.le_refl _) _
  have hsz : w1.heap.size = W.heap.size + 1 := by rw [hw1]; simp
  have hrw : Rd (w1.alloc (.cells #[.int .u8 ((mo : Int) + 1)] 5)) (w1.alloc (.cells #[.int .u8 ((mo : Int) + 1)] 5)).heap.size (some ⟨w1.heap.size, 0, none⟩) (bvs [UInt8.ofNat (mo + 1)]) := by
    have := Rd.new w1 #[.int .u8 ((mo : Int) + 1)] 5
    rw [← hm1] at this ⊢
    exact this
  have hB2 := hB1.alloc hB1.size (.cells #[.int .u8 ((mo : Int) + 1)] 5)
  have hS2 : Blk (w1.alloc (.cells #[.int .u8 ((mo : Int) + 1)] 5)) W.heap.size 37 CS := hS1.grow ((Below.refl _ _).alloc (Nat.le_refl _) _)
  have CL := lebPut_any (some ⟨w1.heap.size, 0, none⟩) 1 1 [UInt8.ofNat (mo + 1)] (ra : Int) _ hrw rfl (by decide) (by omega) (by omega)
  rw [Int.toNat_natCast, hsz] at CL
  have HCL := Lib.hid CL
  have HB2 := Lib.hid hB2
  have HS2 := Lib.hid hS2
  have HS1 := Lib.hid hS1
  have HCS := Lib.hid hCS
  have q0 := hS1.cell 0
  have q1 := hS1.cell 1
  rw [hCS] at q0 q1
  simp only [List.getElem?_cons_zero, List.getElem?_cons_succ] at q0 q1
  rw [hw1] at q0 q1
  have HW1 := Lib.hid hw1
  clear hrw CL hm1 hS1 hS2 hB1 hB2 hCS hsz hw1
  go_enter Try.func13, Try.ntmps13
  go_wp2_with fail
  rw [← HW1.out]
  refine HCL.out.mono ?_
  rintro e w2 ⟨v2, rfl, ho2, hb2⟩
  have HB3 := Lib.hid (HB2.out.trans (hb2.mono HB2.out.size))
  have HS3 := Lib.hid (HS2.out.grow hb2)
  have HO3 := Lib.hid (own_more ho2 HB2.out.size)
  clear ho2 hb2 HB2 HS2 HS1 HCL q0 q1
  have q0 := HS3.out.cell 0
  have q2 := HS3.out.cell 2
  have q4 := HS3.out.cell 4
  rw [HCS.out] at q0 q2 q4
  simp only [List.getElem?_cons_zero, List.getElem?_cons_succ] at q0 q2 q4
  by_cases h0 : mo = 0
  · subst h0
    have C := blkPutSum_any (su := su) HO3.out rfl (by rw [List.length_append]; have := HLR.out; simp; omega) HB3.out.size hs
    have HC := Lib.hid C
    clear C
    go_wp2_with fail
    refine HC.out.mono ?_
    rintro e w3 ⟨v3, rfl, ho3, hb3⟩
    have HO4 := Lib.hid ho3
    have HB4 := Lib.hid (HB3.out.trans hb3)
    clear ho3 hb3 HC
    go_wp2
    go_ret
    refine ⟨_, rfl, ?_, HB4.out⟩
    have e1 : blkL 0 ra mi co su = ([UInt8.ofNat (0 + 1)] ++ lput ra) ++ fourL su := by unfold blkL; simp
    have e2 : (blkL 0 ra mi co su).length = ([UInt8.ofNat (0 + 1)] ++ lput ra).length + 4 := by rw [e1, List.length_append]; rfl
    rw [e2, e1]
    exact HO4.out
  · have h0i : ¬ (mo : Int) = 0 := by omega
    obtain ⟨L3, hL3⟩ : ∃ L, L = [UInt8.ofNat (mo + 1)] ++ lput ra := ⟨_, rfl⟩
    obtain ⟨n3, hn3⟩ : ∃ n, n = L3.length := ⟨_, rfl⟩
    have hn3b : n3 ≤ 11 := by rw [hn3, hL3, List.length_append]; have := HLR.out; simp; omega
    rw [← hL3, ← hn3] at HO3
    have HL3 := Lib.hid hL3
    have HN3 := Lib.hid hn3
    clear hL3 hn3
    obtain ⟨A3, c3, hv3, hc3, -, -⟩ := own_form HO3.out
    subst hv3
    have CM := lebPut_any A3 n3 c3 L3 (mi : Int) w2 (Rd.of_own HO3.out) HN3.out.symm (by omega) (by omega) (by omega)
    rw [Int.toNat_natCast] at CM
    have HCM := Lib.hid CM
    clear CM
    go_wp2_with fail
    refine HCM.out.mono ?_
    rintro e w4 ⟨v4, rfl, ho4, hb4⟩
    have HB4 := Lib.hid (HB3.out.trans (hb4.mono HB3.out.size))
    have HS4 := Lib.hid (HS3.out.grow hb4)
    have HO4 := Lib.hid (own_more ho4 HB3.out.size)
    clear ho4 hb4 HB3 HS3 HO3 HCM q0 q2 q4
    have q3 := HS4.out.cell 3
    rw [HCS.out] at q3
    simp only [List.getElem?_cons_zero, List.getElem?_cons_succ] at q3
    obtain ⟨L4, hL4⟩ : ∃ L, L = L3 ++ lput mi := ⟨_, rfl⟩
    obtain ⟨n4, hn4⟩ : ∃ n, n = L4.length := ⟨_, rfl⟩
    have hn4b : n4 ≤ 21 := by rw [hn4, hL4, List.length_append, ← HN3.out]; have := HLM.out; omega
    rw [← hL4, ← hn4] at HO4
    have HL4 := Lib.hid hL4
    have HN4 := Lib.hid hn4
    clear hL4 hn4
    obtain ⟨A4, c4, hv4, hc4, -, -⟩ := own_form HO4.out
    subst hv4
    have CC := lebPut_any A4 n4 c4 L4 (co : Int) w4 (Rd.of_own HO4.out) HN4.out.symm (by omega) (by omega) (by omega)
    rw [Int.toNat_natCast] at CC
    have HCC := Lib.hid CC
    clear CC
    go_wp2_with fail
    refine HCC.out.mono ?_
    rintro e w5 ⟨v5, rfl, ho5, hb5⟩
    have HB5 := Lib.hid (HB4.out.trans (hb5.mono HB4.out.size))
    have HS5 := Lib.hid (HS4.out.grow hb5)
    have HO5 := Lib.hid (own_more ho5 HB4.out.size)
    clear ho5 hb5 HB4 HS4 HO4 HCC q3
    have q4 := HS5.out.cell 4
    rw [HCS.out] at q4
    simp only [List.getElem?_cons_zero, List.getElem?_cons_succ] at q4
    obtain ⟨L5, hL5⟩ : ∃ L, L = L4 ++ lput co := ⟨_, rfl⟩
    obtain ⟨n5, hn5⟩ : ∃ n, n = L5.length := ⟨_, rfl⟩
    have hn5b : n5 ≤ 31 := by rw [hn5, hL5, List.length_append, ← HN4.out]; have := HLC.out; omega
    rw [← hL5, ← hn5] at HO5
    have HL5 := Lib.hid hL5
    have HN5 := Lib.hid hn5
    clear hL5 hn5
    have C := blkPutSum_any (su := su) HO5.out HN5.out.symm (by omega) HB5.out.size hs
    have HC := Lib.hid C
    clear C
    go_wp2_with fail
    refine HC.out.mono ?_
    rintro e w6 ⟨v6, rfl, ho6, hb6⟩
    have HO6 := Lib.hid ho6
    have HB6 := Lib.hid (HB5.out.trans hb6)
    clear ho6 hb6 HC
    go_wp2
    go_ret
    refine ⟨_, rfl, ?_, HB6.out⟩
    have e1 : blkL mo ra mi co su = L5 ++ fourL su := by
      rw [HL5.out, HL4.out, HL3.out]
      unfold blkL
      rw [if_pos (by omega)]
      simp
    have e2 : (blkL mo ra mi co su).length = n5 + 4 := by rw [e1, List.length_append, ← HN5.out]; rfl
    rw [e2, e1]
    exact HO6.out
end Go.Proofs.Ytjignfnkcbklkaa
