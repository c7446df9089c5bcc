/- Layer 29: the reference: Four, Put. -/
import Derived.Test.YtnfkekaeppgaoaaOptRef
import Derived.Test.YtnfkekaeppgaoaaLebPut
import Derived.Test.YtnfkekaeppgaoaaCrcRef
import Derived.Test.YtnfkekaeppgaoaaCloneB
namespace Go.Proofs.Ytnfkekaeppgaoaa
open Go.RowKit Go.Sort

/-- A row that was built whole. -/
theorem own_lit {base e : Nat} (w : World) (cur : Array Value) (n : Nat) (hb : base ≤ w.heap.size) (hm : n ≤ maxLen) (hs : cur.size = n) : (w.alloc (.cells cur e)).ownsRow base e 1 (.slice (some ⟨w.heap.size, 0, none⟩) n n) n cur.toList :=
  ⟨by simp [hs], .inr ⟨w.heap.size, n, cur, rfl, hb, heap_alloc_new w _, Nat.le_refl _, hm, by omega, by rw [List.take_of_length_le (by simp; omega)]⟩⟩
/-- A sum's four bytes, the lowest first. -/
def fourL (n : Nat) : List UInt8 := [UInt8.ofNat n, UInt8.ofNat (n / 256), UInt8.ofNat (n / 65536), UInt8.ofNat (n / 16777216)]
theorem four_vals (n : Nat) : ∃ c0 c1 c2 c3 : UInt8, fourL n = [c0, c1, c2, c3] ∧ (c0.toNat : Int) = (n : Int) % 256 ∧ (c1.toNat : Int) = (n : Int) / 256 % 256 ∧ (c2.toNat : Int) = (n : Int) / 65536 % 256 ∧ (c3.toNat : Int) = (n : Int) / 16777216 % 256 := by
  refine ⟨_, _, _, _, rfl, ?_, ?_, ?_, ?_⟩ <;> rw [UInt8.toNat_ofNat'] <;> omega
set_option maxRecDepth 100000 in
set_option maxHeartbeats 1000000 in
theorem refFour_any {n : Nat} (hn : n < 4294967296) (W : World) : Calls Try.prog 27 #[.int .u32 (n : Int)] W (NewB W (fourL n)) := by
  obtain ⟨c0, c1, c2, c3, h, h0, h1, h2, h3⟩ := four_vals n
  rw [h]
  go_enter Try.func27, Try.ntmps27
  go_wp2
  go_ret
  have h3' : (n : Int) / 16777216 = (c3.toNat : Int) := by omega
  rw [h3', ← h0, ← h1, ← h2]
  exact ⟨_, rfl, own_lit W #[.int .u8 (c0.toNat : Int), .int .u8 (c1.toNat : Int), .int .u8 (c2.toNat : Int), .int .u8 (c3.toNat : Int)] 4 (Nat.le_refl _) (by decide) rfl, (Below.refl _ _).alloc (Nat.le_refl _) _⟩
/-- A head's bytes ahead of the sum. -/
def headL (b u r m : Nat) : List UInt8 := [87, 80, 82, 49, UInt8.ofNat u, UInt8.ofNat r, UInt8.ofNat m] ++ lput b
def headS (b u r m : Nat) : List UInt8 := headL b u r m ++ fourL (crcOf (headL b u r m)).toNat
set_option maxRecDepth 100000 in
set_option maxHeartbeats 2000000 in
theorem refHPut_any {b u r m : Nat} (hb : b ≤ 16777216) (hu : u ≤ 8) (hr : r ≤ 10) (hm : m ≤ 6) (W : World) : Calls Try.prog 13 #[optV (b : Int) (u : Int) (r : Int) (m : Int)] W (NewB W (headS b u r m)) := by
  obtain ⟨i0, hi, hz0, hz1, hz2⟩ := info_parts info_u8'
  have CL := Lib.hid (fun w => refPut_any (b : Int) w (by omega) (by omega))
  rw [Int.toNat_natCast] at CL
  have hlen : (lput b).length ≤ 10 := lput_le b (by omega)
  have HLL := Lib.hid hlen
  obtain ⟨Z, hZ⟩ : ∃ Z, Z = headS b u r m := ⟨_, rfl⟩
  rw [← hZ]
  have HZ := Lib.hid hZ
  clear hZ
  unfold optV
  go_enter Try.func13, Try.ntmps13
  have hown0 := own_lit (base := W.heap.size) (e := 5) (W.alloc (.cells #[.int .i64 (b : Int), .int .i64 (u : Int), .int .i64 (r : Int), .int .i64 (m : Int)] 24)) #[.int .u8 87, .int .u8 80, .int .u8 82, .int .u8 49, .int .u8 (u : Int), .int .u8 (r : Int), .int .u8 (m : Int)] 7 (by simp) (by decide) rfl
  have hb0 := (((Below.refl W.heap.size W).alloc (Nat.le_refl _) (.cells #[.int .i64 (b : Int), .int .i64 (u : Int), .int .i64 (r : Int), .int .i64 (m : Int)] 24))).alloc (by simp) (.cells #[.int .u8 87, .int .u8 80, .int .u8 82, .int .u8 49, .int .u8 (u : Int), .int .u8 (r : Int), .int .u8 (m : Int)] 5)
  have hcells : [.int .u8 87, .int .u8 80, .int .u8 82, .int .u8 49, .int .u8 (u : Int), .int .u8 (r : Int), .int .u8 (m : Int)] ++ bvs (lput b) = bvs (headL b u r m) := by
    unfold headL
    rw [bvs_append]
    have e1 : ((UInt8.ofNat u).toNat : Int) = (u : Int) := by rw [UInt8.toNat_ofNat']; omega
    have e2 : ((UInt8.ofNat r).toNat : Int) = (r : Int) := by rw [UInt8.toNat_ofNat']; omega
    have e3 : ((UInt8.ofNat m).toNat : Int) = (m : Int) := by rw [UInt8.toNat_ofNat']; omega
    simp only [bvs, List.map_cons, List.map_nil, e1, e2, e3]
    rfl
  have HC := Lib.hid hcells
  obtain ⟨H, hH⟩ : ∃ H, H = headL b u r m := ⟨_, rfl⟩
  have hHl : H.length = 7 + (lput b).length := by rw [hH]; unfold headL; rw [List.length_append]; rfl
  have HH := Lib.hid (And.intro hH hHl)
  obtain ⟨w1, hw1⟩ : ∃ w1, w1 = (W.alloc (.cells #[.int .i64 (b : Int), .int .i64 (u : Int), .int .i64 (r : Int), .int .i64 (m : Int)] 24)).alloc (.cells #[.int .u8 87, .int .u8 80, .int .u8 82, .int .u8 49, .int .u8 (u : Int), .int .u8 (r : Int), .int .u8 (m : Int)] 5) := ⟨_, rfl⟩
  rw [← hw1] at hown0 hb0
  rw [show (W.alloc (.cells #[.int .i64 (b : Int), .int .i64 (u : Int), .int .i64 (r : Int), .int .i64 (m : Int)] 24)).heap.size = W.heap.size + 1 by simp] at hown0
  have HO0 := Lib.hid hown0
  have HB0 := Lib.hid hb0
  have HW1 := Lib.hid hw1
  clear hown0 hb0 hw1 hcells hH hHl
  go_wp2_with fail
  rw [← HW1.out]
  refine (CL.out _).mono ?_
  rintro e w2 ⟨v2, rfl, ho2, hb2⟩
  have HB2 := Lib.hid (HB0.out.trans (hb2.mono HB0.out.size))
  have HO := Lib.hid (own_kept HO0.out hb2)
  obtain ⟨A2, c2, rfl, -, -, -⟩ := own_form ho2
  have HR2 := Lib.hid (Rd.of_own ho2)
  obtain ⟨k, hk⟩ : ∃ k, k = (lput b).length := ⟨_, rfl⟩
  rw [← hk] at hlen ⊢
  have HK := Lib.hid hk
  clear ho2 hb2 hk HO0
  go_wp2_with ((with_reducible show wpList _ _ _ (({ dst := some 19, op := _, type := _, pos := _, after := _, guard := _ } : Oper) :: _) _ _); go_must (refine wpList_app rfl (.tmp 14) (.tmp 18) 29 rfl W.heap.size 5 i0 (.int .u8 0) 1 1 Try.underlying29 hi hz0 hz1 hz2 rfl (by decide) _ _ _ rfl HO.out w2.heap.size A2 k c2 (bvs (lput b)) rfl HR2.out (by rw [bvs_length, ← HK.out, Nat.mul_one]) (bvs_one _) (by simp only [maxLen]; omega) (by omega) HB2.out.size ?_; intro v3 w3 hown3 hg3; have hb3 := HB2.out.grown hg3 HB2.out.size (own_block HO.out); clear hg3))
  have hx3 : ([.int .u8 87, .int .u8 80, .int .u8 82, .int .u8 49, .int .u8 (u : Int), .int .u8 (r : Int), .int .u8 (m : Int)] : List Value) ++ bvs (lput b) = bvs H := by rw [HC.out, HH.out.1]
  have ho3 : w3.ownsRow W.heap.size 5 1 v3 (7 + k) (bvs H) := by rw [← hx3]; exact hown3
  have hkl : H.length = 7 + k := by rw [HH.out.2, HK.out]
  obtain ⟨A3, c3, rfl, hc3, -, -⟩ := own_form ho3
  have C3 := Lib.hid (refOf_any A3 (7 + k) c3 H w3 (Rd.of_own ho3) hkl (by omega))
  have HO3 := Lib.hid ho3
  have HB3 := Lib.hid hb3
  have HKL := Lib.hid hkl
  clear ho3 hb3 hkl hx3 hown3 hc3 HO HR2
  refine C3.out.mono ?_
  rintro e w4 ⟨rfl, hw4⟩
  obtain rfl : _ = w4 := hw4
  go_wp2_with fail
  have C4 := Lib.hid (refFour_any (n := (crcOf H).toNat) (crcOf H).isLt)
  refine (C4.out _).mono ?_
  rintro e w4 ⟨v4, rfl, ho4, hb4⟩
  have HB4 := Lib.hid (HB3.out.trans (hb4.mono HB3.out.size))
  have HO5 := Lib.hid (own_kept HO3.out hb4)
  obtain ⟨A4, c4, rfl, -, -, -⟩ := own_form ho4
  have HR4 := Lib.hid (Rd.of_own ho4)
  obtain ⟨F, hF⟩ : ∃ F, F = fourL (crcOf H).toNat := ⟨_, rfl⟩
  have hF4 : F.length = 4 := by rw [hF]; rfl
  rw [← hF] at HR4 ⊢
  rw [hF4]
  have HF := Lib.hid (And.intro hF hF4)
  clear ho4 hb4 hF hF4 C4 HO3 HB3
  go_wp2_with ((with_reducible show wpList _ _ _ (({ dst := some 24, op := _, type := _, pos := _, after := _, guard := _ } : Oper) :: _) _ _); go_must (refine wpList_app rfl (.tmp 20) (.tmp 23) 29 rfl W.heap.size 5 i0 (.int .u8 0) 1 1 Try.underlying29 hi hz0 hz1 hz2 rfl (by decide) _ _ _ rfl HO5.out w4.heap.size A4 4 c4 (bvs F) rfl HR4.out (by rw [bvs_length, HF.out.2]) (bvs_one _) (by simp only [maxLen]; omega) (by omega) HB4.out.size ?_; intro v5 w5 hown5 hg5; have hb5 := HB4.out.grown hg5 HB4.out.size (own_block HO5.out); clear hg5))
  go_ret
  refine ⟨_, rfl, ?_, hb5⟩
  have e1 : Z = H ++ F := by rw [HZ.out, HF.out.1, HH.out.1]; rfl
  rw [e1, bvs_append, List.length_append, HKL.out, HF.out.2]
  exact hown5
end Go.Proofs.Ytnfkekaeppgaoaa
