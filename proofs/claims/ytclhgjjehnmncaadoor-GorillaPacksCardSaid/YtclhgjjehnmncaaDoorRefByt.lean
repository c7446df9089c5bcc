/- Contract of layer 1's reference: the bytes that have bits. -/
import Derived.Test.YtclhgjjehnmncaaDoorRefBit
namespace Go.Proofs.YtclhgjjehnmncaaDoor
open Go.RowKit

theorem byte_val (x p b : Nat) (h : x + b * p < 256) : ((x : Int) + wrap64 ((p : Int) * (b : Int))) % 256 = ((x + b * p : Nat) : Int) := by
  have e : (p : Int) * (b : Int) = ((b * p : Nat) : Int) := by rw [Int.natCast_mul]; exact Int.mul_comm _ _
  rw [e]
  generalize b * p = m at *
  unfold wrap64
  omega
theorem pow_next (k p : Nat) (h : p = 2 ^ (k % 8)) (h8 : (k + 1) % 8 ≠ 0) : 2 * p = 2 ^ ((k + 1) % 8) := by
  rw [show (k + 1) % 8 = k % 8 + 1 by omega, Nat.pow_succ, h]; exact Nat.mul_comm _ _

/-- What holds at the head of a round of ref.Bytes. -/
def RBytRel (w : World) (l : List Bool) (N : Nat) (i p : Value) (wr : World) : Prop :=
  ∃ (k : Nat) (bs : List UInt8) (pv : Nat), k ≤ l.length ∧ i = .int .i64 k ∧ p = .int .i64 pv ∧ (k % 8 ≠ 0 → pv = 2 ^ (k % 8)) ∧ pv ≤ 256 ∧ PacksN bs (l.take k) N ∧
    wr.ownsRow w.heap.size 5 1 (.slice (some ⟨w.heap.size, 0, none⟩) N N) N (bvs bs) ∧ Below w.heap.size w wr

set_option maxHeartbeats 2000000 in
set_option maxRecDepth 100000 in
theorem rfBytes_any (A : Option Addr) (n c : Nat) (l : List Bool) (w : World) (hr : Rd w w.heap.size A (ivs l)) (hn : l.length = n) (hn1 : n < 900000000) :
    Calls Tryd.prog 19 #[.slice A n c] w fun e w' => ∃ bs, Packs bs l ∧ NewBy w bs e w' := by
  obtain ⟨i0, hi, hz0, hz1, hz2⟩ := info_parts info_u8'
  obtain ⟨N, hN⟩ : ∃ N, N = (n + 7) / 8 := ⟨_, rfl⟩
  have hNi : ((n : Int) + 7) / 8 = (N : Int) := by omega
  have HN := Lib.hid hn
  have HR := Lib.hid hr
  clear hn hr
  go_enter Tryd.func19, Tryd.ntmps19
  go_wp2_with (at_make; go_must (refine wpList_mk rfl (.tmp 9) (.tmp 9) 24 rfl w.heap.size 5 i0 (.int .u8 0) 1 Tryd.underlying24 hi hz0 rfl hz1 hz2 .i64 .i64 _ _ rfl rfl N N (by omega) (by omega) (by omega) (by omega) (by simp only [maxLen]; omega) (Nat.le_refl _) ?_; intro w1 hg1 hown1 hgr1; have hb1 : Below w.heap.size w w1 := (Below.refl _ _).grown hgr1 (Nat.le_refl _) (by simp); clear hg1 hgr1))
  simp only [Act.put, List.setIfInBounds_toArray, List.set_cons_succ, List.set_cons_zero]
  go_wp2
  go_loopw [5, 4] (RBytRel w l N) (fun i _ _ => n - (intOf i).toNat)
  case atStart =>
    refine ⟨0, List.replicate N 0, 1, Nat.zero_le _, rfl, rfl, by simp, by omega, ?_, ?_, hb1⟩
    · rw [List.take_zero]; exact PacksN.start N
    · have e : bvs (List.replicate N 0) = List.replicate N (Value.int .u8 0) := by simp [bvs]
      rw [e]; exact hown1
  case round =>
    clear hown1 hb1
    obtain ⟨k, bs, pv, hk, rfl, rfl, hpv, hp2, hpk, hown, hb⟩ := hrel
    have hbs := hb.size
    by_cases hlt : k < n
    · obtain ⟨b, hlb⟩ : ∃ b, l[k]? = some b := ⟨l[k]'(by have := HN.out; omega), by simp⟩
      have htk : (l.take k).length = k := by rw [List.length_take]; omega
      have htake : l.take (k + 1) = l.take k ++ [b] := by rw [List.take_add_one, hlb]; rfl
      obtain ⟨x, hx⟩ : ∃ x : UInt8, bs[k / 8]? = some x := ⟨bs[k / 8]'(by have := hpk.1; omega), by simp⟩
      have hsm := hpk.small x (by rw [htk]; exact hx)
      rw [htk] at hsm
      have hor := add_or x.toNat (k % 8) b hsm
      obtain ⟨D, hD⟩ : ∃ D, D = 2 ^ (k % 8) := ⟨_, rfl⟩
      have hD8 : D ≤ 128 := by rw [hD]; have := Nat.pow_le_pow_right (n := 2) (by decide) (show k % 8 ≤ 7 by omega); omega
      have hD1 : k % 8 = 0 → D = 1 := fun h => by rw [hD, h, Nat.pow_zero]
      rw [← hD] at hsm hor hpv
      have hxD : x.toNat + b.toNat * D < 256 := by
        have hlt8 : x.toNat ||| b.toNat <<< (k % 8) < 2 ^ 8 := by
          refine Nat.or_lt_two_pow x.toNat_lt ?_
          rw [Nat.shiftLeft_eq, ← hD]
          cases b <;> simp <;> omega
        rw [hor] at hlt8
        exact hlt8
      have hor2 : (UInt8.ofNat (x.toNat + b.toNat * D)).toNat = (bs.getD (k / 8) 0).toNat ||| b.toNat <<< (k % 8) := by
        rw [u8n hxD, List.getD_eq_getElem?_getD, hx, Option.getD_some, hor]
      have hpk1 := hpk.snoc b (by rw [htk]; omega) (UInt8.ofNat (x.toNat + b.toNat * D)) (by rw [htk]; exact hor2)
      rw [htk, ← htake] at hpk1
      have hst := hown.stored (k / 8) (.int .u8 (UInt8.ofNat (x.toNat + b.toNat * D)).toNat)
      rw [bvs_set, u8n hxD] at hst
      have HST := Lib.hid hst.1
      have HBE := Lib.hid (hb.grown hst.2 hbs (by simp))
      have hcr : wr.cell? ⟨w.heap.size, k / 8, none⟩ = some (.int .u8 x.toNat) := by
        rw [hown.cellAt (k / 8) (by omega)]
        simp [bvs, hx]
      have hfr := hown.frozenAt (k / 8)
      obtain ⟨ab, ao, rfl, hab, hcl⟩ := (HR.out.below hb) k _ (ivs_get hlb)
      have hq0 : (0 : Int) ≤ (k : Int) / 8 := by omega
      have hq1 : (k : Int) / 8 < (N : Int) := by omega
      have hk1 : (k : Int) < (n : Int) := by omega
      have hk9 : (k : Int) < 900000000 := by omega
      have hDi : (D : Int) ≤ 128 := by omega
      have HPK := Lib.hid hpk1
      have HPV := Lib.hid hpv
      have HD := Lib.hid hD
      have HD1 := Lib.hid hD1
      have HX := Lib.hid hxD
      have hb1 : b.toNat ≤ 1 := by cases b <;> simp
      clear hpk hown hb hlb htk htake hx hsm hor hor2 hpk1 hst hpv hD hD1 hxD hN hNi hn1 hlt hbs hp2
      by_cases h8 : k % 8 = 0
      · have hn8 : ((k : Int) % 8 == 0) = true := by rw [beq_iff_eq]; omega
        obtain rfl := HD1.out h8
        go_wp2
        go_region
        go_wp2
        have hv : ((x.toNat : Int) + (b.toNat : Int)) % 256 = ((x.toNat + b.toNat * 1 : Nat) : Int) := by have := HX.out; omega
        rw [hv]
        refine ⟨⟨k + 1, _, 2, by have := HN.out; omega, rfl, rfl, fun _ => by rw [show (k + 1) % 8 = 1 by omega], by omega, HPK.out, HST.out.drew, HBE.out.drew⟩, by simp [intOf]; omega⟩
      · have hn8 : ((k : Int) % 8 == 0) = false := by rw [beq_eq_false_iff_ne]; omega
        obtain rfl := HPV.out h8
        go_wp2
        go_region
        go_wp2
        rw [byte_val x.toNat pv b.toNat HX.out]
        refine ⟨⟨k + 1, _, 2 * pv, by have := HN.out; omega, rfl, by rw [Int.natCast_mul, show ((2 : Nat) : Int) = 2 by decide], pow_next k pv HD.out, by omega, HPK.out, HST.out.drew, HBE.out.drew⟩, by simp [intOf]; omega⟩
    · obtain rfl : k = l.length := by have := HN.out; omega
      rw [List.take_length] at hpk
      go_wp2
      go_ret
      refine ⟨bs, ⟨by rw [hpk.1, hN, HN.out], hpk.2⟩, _, rfl, by rw [hpk.1]; exact hown, hb⟩
end Go.Proofs.YtclhgjjehnmncaaDoor
