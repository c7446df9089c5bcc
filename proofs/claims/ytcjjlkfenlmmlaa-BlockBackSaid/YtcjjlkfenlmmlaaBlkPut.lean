/- Layer 30: the program: Put. -/
import Derived.Test.YtcjjlkfenlmmlaaBlkFn
namespace Go.Proofs.Ytcjjlkfenlmmlaa
open Go.RowKit

set_option maxRecDepth 100000 in
set_option maxHeartbeats 2000000 in
theorem blkPut_any {mo ra mi co su : Nat} {fr pl : Int} (hmo : mo ≤ 5) (hra : ra ≤ 16777216) (hmi : mi ≤ 100000000) (hco : co ≤ 16777216) (hs : su < 4294967296) (W : World) :
    Calls Try.prog 11 #[blkV (mo : Int) (ra : Int) (mi : Int) (co : Int) (su : Int) fr pl] W (NewB W (blkL mo ra mi co su)) := by
  have HLR := Lib.hid (lput_le ra (by omega))
  have HLM := Lib.hid (lput_le mi (by omega))
  have HLC := Lib.hid (lput_le co (by omega))
  unfold blkV
  obtain ⟨CS, hCS⟩ : ∃ CS : List Value, CS = [.int .i64 (mo : Int), .int .i64 (ra : Int), .int .i64 (mi : Int), .int .i64 (co : Int), .int .u32 (su : Int), .int .i64 fr, .int .i64 pl] := ⟨_, rfl⟩
  have hm1 : ((UInt8.ofNat (mo + 1)).toNat : Int) = (mo : Int) + 1 := by rw [UInt8.toNat_ofNat']; omega
  have hm2 : (mo : Int) + 1 ≤ 255 := by omega
  obtain ⟨w1, hw1⟩ : ∃ w1 : World, w1 = (W.alloc (.cells #[.int .i64 (mo : Int), .int .i64 (ra : Int), .int .i64 (mi : Int), .int .i64 (co : Int), .int .u32 (su : Int), .int .i64 fr, .int .i64 pl] 24)) := ⟨_, rfl⟩
  have hS1 : Blk w1 W.heap.size 24 CS := by rw [hw1, hCS]; exact heap_alloc_new W _
  have hB1 : Below W.heap.size W w1 := by rw [hw1]; exact (Below.refl W.heap.size W).alloc (Nat.le_refl _) _
  have hsz : w1.heap.size = W.heap.size + 1 := by rw [hw1]; simp
  have hrw : Rd (w1.alloc (.cells #[.int .u8 ((mo : Int) + 1)] 5)) (w1.alloc (.cells #[.int .u8 ((mo : Int) + 1)] 5)).heap.size (some ⟨w1.heap.size, 0, none⟩) (bvs [UInt8.ofNat (mo + 1)]) := by
    have := Rd.new w1 #[.int .u8 ((mo : Int) + 1)] 5
    rw [← hm1] at this ⊢
    exact this
  have hB2 := hB1.alloc hB1.size (.cells #[.int .u8 ((mo : Int) + 1)] 5)
  have hS2 : Blk (w1.alloc (.cells #[.int .u8 ((mo : Int) + 1)] 5)) W.heap.size 24 CS := hS1.grow ((Below.refl _ _).alloc (Nat.le_refl _) _)
  have CL := lebPut_any (some ⟨w1.heap.size, 0, none⟩) 1 1 [UInt8.ofNat (mo + 1)] (ra : Int) _ hrw rfl (by decide) (by omega) (by omega)
  rw [Int.toNat_natCast, hsz] at CL
  have HCL := Lib.hid CL
  have HB2 := Lib.hid hB2
  have HS2 := Lib.hid hS2
  have HS1 := Lib.hid hS1
  have HCS := Lib.hid hCS
  have q0 := hS1.cell 0
  have q1 := hS1.cell 1
  rw [hCS] at q0 q1
  simp only [List.getElem?_cons_zero, List.getElem?_cons_succ] at q0 q1
  rw [hw1] at q0 q1
  have HW1 := Lib.hid hw1
  clear hrw CL hm1 hS1 hS2 hB1 hB2 hCS hsz hw1
  go_enter Try.func11, Try.ntmps11
  go_wp2_with fail
  rw [← HW1.out]
  refine HCL.out.mono ?_
  rintro e w2 ⟨v2, rfl, ho2, hb2⟩
  have HB3 := Lib.hid (HB2.out.trans (hb2.mono HB2.out.size))
  have HS3 := Lib.hid (HS2.out.grow hb2)
  have HO3 := Lib.hid (own_more ho2 HB2.out.size)
  clear ho2 hb2 HB2 HS2 HS1 HCL q0 q1
  have q0 := HS3.out.cell 0
  have q2 := HS3.out.cell 2
  have q4 := HS3.out.cell 4
  rw [HCS.out] at q0 q2 q4
  simp only [List.getElem?_cons_zero, List.getElem?_cons_succ] at q0 q2 q4
  by_cases h0 : mo = 0
  · subst h0
    have C := blkPutSum_any (su := su) HO3.out rfl (by rw [List.length_append]; have := HLR.out; simp; omega) HB3.out.size hs
    have HC := Lib.hid C
    clear C
    go_wp2_with fail
    refine HC.out.mono ?_
    rintro e w3 ⟨v3, rfl, ho3, hb3⟩
    have HO4 := Lib.hid ho3
    have HB4 := Lib.hid (HB3.out.trans hb3)
    clear ho3 hb3 HC
    go_wp2
    go_ret
    refine ⟨_, rfl, ?_, HB4.out⟩
    have e1 : blkL 0 ra mi co su = ([UInt8.ofNat (0 + 1)] ++ lput ra) ++ fourL su := by unfold blkL; simp
    have e2 : (blkL 0 ra mi co su).length = ([UInt8.ofNat (0 + 1)] ++ lput ra).length + 4 := by rw [e1, List.length_append]; rfl
    rw [e2, e1]
    exact HO4.out
  · have h0i : ¬ (mo : Int) = 0 := by omega
    obtain ⟨L3, hL3⟩ : ∃ L, L = [UInt8.ofNat (mo + 1)] ++ lput ra := ⟨_, rfl⟩
    obtain ⟨n3, hn3⟩ : ∃ n, n = L3.length := ⟨_, rfl⟩
    have hn3b : n3 ≤ 11 := by rw [hn3, hL3, List.length_append]; have := HLR.out; simp; omega
    rw [← hL3, ← hn3] at HO3
    have HL3 := Lib.hid hL3
    have HN3 := Lib.hid hn3
    clear hL3 hn3
    obtain ⟨A3, c3, hv3, hc3, -, -⟩ := own_form HO3.out
    subst hv3
    have CM := lebPut_any A3 n3 c3 L3 (mi : Int) w2 (Rd.of_own HO3.out) HN3.out.symm (by omega) (by omega) (by omega)
    rw [Int.toNat_natCast] at CM
    have HCM := Lib.hid CM
    clear CM
    go_wp2_with fail
    refine HCM.out.mono ?_
    rintro e w4 ⟨v4, rfl, ho4, hb4⟩
    have HB4 := Lib.hid (HB3.out.trans (hb4.mono HB3.out.size))
    have HS4 := Lib.hid (HS3.out.grow hb4)
    have HO4 := Lib.hid (own_more ho4 HB3.out.size)
    clear ho4 hb4 HB3 HS3 HO3 HCM q0 q2 q4
    have q3 := HS4.out.cell 3
    rw [HCS.out] at q3
    simp only [List.getElem?_cons_zero, List.getElem?_cons_succ] at q3
    obtain ⟨L4, hL4⟩ : ∃ L, L = L3 ++ lput mi := ⟨_, rfl⟩
    obtain ⟨n4, hn4⟩ : ∃ n, n = L4.length := ⟨_, rfl⟩
    have hn4b : n4 ≤ 21 := by rw [hn4, hL4, List.length_append, ← HN3.out]; have := HLM.out; omega
    rw [← hL4, ← hn4] at HO4
    have HL4 := Lib.hid hL4
    have HN4 := Lib.hid hn4
    clear hL4 hn4
    obtain ⟨A4, c4, hv4, hc4, -, -⟩ := own_form HO4.out
    subst hv4
    have CC := lebPut_any A4 n4 c4 L4 (co : Int) w4 (Rd.of_own HO4.out) HN4.out.symm (by omega) (by omega) (by omega)
    rw [Int.toNat_natCast] at CC
    have HCC := Lib.hid CC
    clear CC
    go_wp2_with fail
    refine HCC.out.mono ?_
    rintro e w5 ⟨v5, rfl, ho5, hb5⟩
    have HB5 := Lib.hid (HB4.out.trans (hb5.mono HB4.out.size))
    have HS5 := Lib.hid (HS4.out.grow hb5)
    have HO5 := Lib.hid (own_more ho5 HB4.out.size)
    clear ho5 hb5 HB4 HS4 HO4 HCC q3
    have q4 := HS5.out.cell 4
    rw [HCS.out] at q4
    simp only [List.getElem?_cons_zero, List.getElem?_cons_succ] at q4
    obtain ⟨L5, hL5⟩ : ∃ L, L = L4 ++ lput co := ⟨_, rfl⟩
    obtain ⟨n5, hn5⟩ : ∃ n, n = L5.length := ⟨_, rfl⟩
    have hn5b : n5 ≤ 31 := by rw [hn5, hL5, List.length_append, ← HN4.out]; have := HLC.out; omega
    rw [← hL5, ← hn5] at HO5
    have HL5 := Lib.hid hL5
    have HN5 := Lib.hid hn5
    clear hL5 hn5
    have C := blkPutSum_any (su := su) HO5.out HN5.out.symm (by omega) HB5.out.size hs
    have HC := Lib.hid C
    clear C
    go_wp2_with fail
    refine HC.out.mono ?_
    rintro e w6 ⟨v6, rfl, ho6, hb6⟩
    have HO6 := Lib.hid ho6
    have HB6 := Lib.hid (HB5.out.trans hb6)
    clear ho6 hb6 HC
    go_wp2
    go_ret
    refine ⟨_, rfl, ?_, HB6.out⟩
    have e1 : blkL mo ra mi co su = L5 ++ fourL su := by
      rw [HL5.out, HL4.out, HL3.out]
      unfold blkL
      rw [if_pos (by omega)]
      simp
    have e2 : (blkL mo ra mi co su).length = n5 + 4 := by rw [e1, List.length_append, ← HN5.out]; rfl
    rw [e2, e1]
    exact HO6.out
end Go.Proofs.Ytcjjlkfenlmmlaa
