/-
  Contracts of layer 1's reference: the bits as numbers. · Contract of layer 1's reference: the bytes that have bits. · Contracts of layer 1's reference: its Reader. · Contracts of layer 1's reference: its Reader, where bits are taken. · Layer 19: the reference's Bits and Code.
-/
import Derived.Test.YtflcmmeoppdhdaaGreatQ01
import Derived.Test.YtflcmmeoppdhdaaGreatQ02
import Derived.Test.YtflcmmeoppdhdaaGreatQ03
import Derived.Test.YtflcmmeoppdhdaaGreatQ05
import Derived.Deep.RegionWith
import Derived.StillTailTactics
namespace Go.Proofs.YtflcmmeoppdhdaaGreat
open Go.RowKit

/-- The bits as cells. -/
def ivs (l : List Bool) : List Value := l.map fun b => Value.int .i64 (b.toNat : Int)
theorem ivs_length (l : List Bool) : (ivs l).length = l.length := by simp [ivs]
theorem ivs_append (l m : List Bool) : ivs (l ++ m) = ivs l ++ ivs m := by simp [ivs]
theorem ivs_one (l : List Bool) : ∀ u ∈ ivs l, u.oneCell' = true := by
  intro u hu
  simp only [ivs, List.mem_map] at hu
  obtain ⟨c, _, rfl⟩ := hu
  rfl
theorem ivs_get {l : List Bool} {k : Nat} {b : Bool} (h : l[k]? = some b) : (ivs l)[k]? = some (Value.int .i64 (b.toNat : Int)) := by simp [ivs, h]
theorem info_int : (Tryz.prog.info? 3).map (fun i => (i.zero, i.size, i.bytes)) = some (some (.int .i64 0), 1, 8) := by kernel_rfl

/-- A new row of these bits. -/
def NewI (w : World) (l : List Bool) (e : Ending) (w' : World) : Prop :=
  ∃ v, e = .returned v ∧ w'.ownsRow w.heap.size 3 1 v l.length (ivs l) ∧ OnlyT w.heap.size [3] w w'

/-- What holds at the head of a round of ref.Bits. -/
def RBitsRel (w : World) (V n : Nat) (v i x : Value) (wr : World) : Prop :=
  ∃ k q : Nat, k ≤ n ∧ i = .int .i64 k ∧ x = .int .u64 q ∧ q = V / 2 ^ k ∧ wr.ownsRow w.heap.size 3 1 v k (ivs (bitsOf V k)) ∧ OnlyT w.heap.size [3] w wr

theorem rbit (V k q : Nat) (h : q = V / 2 ^ k) : (q : Int) % 2 = ((V.testBit k).toNat : Int) := by
  rw [Nat.testBit_eq_decide_div_mod_eq, ← h]
  rcases Nat.mod_two_eq_zero_or_one q with g | g
  · rw [g]; simp; omega
  · rw [g]; simp; omega

set_option maxHeartbeats 1000000 in
set_option maxRecDepth 100000 in
theorem rfBits_any (V n : Nat) (w : World) (hV : V < 18446744073709551616) (hn : n ≤ 64) :
    Calls Tryz.prog 55 #[.int .u64 V, .int .i64 n] w (NewI w (bitsOf V n)) := by
  obtain ⟨i0, hi, hz0, hz1, hz2⟩ := info_parts info_int
  have hni : (n : Int) ≤ 64 := by omega
  go_enter Tryz.func55, Tryz.ntmps55
  go_wp2
  go_loopw [5, 6, 0] (RBitsRel w V n) (fun _ i _ _ => n - (intOf i).toNat)
  case atStart => exact ⟨0, V, Nat.zero_le _, rfl, rfl, by simp, World.ownsRow_nil _ _ _ _, OnlyT.refl _ _ _⟩
  case round =>
    obtain ⟨k, q, hk, rfl, rfl, hq, hown, ho⟩ := hrel
    have HO := Lib.hid ho
    have HOWN := Lib.hid hown
    have HQ := Lib.hid hq
    have hq1 : q < 18446744073709551616 := by have : V / 2 ^ k ≤ V := Nat.div_le_self _ _; omega
    clear hown ho hq
    by_cases hlt : k < n
    · go_wp2_with (at_builtin; go_must (refine wpList_app rfl (.tmp 12) (.tmp 16) 53 rfl w.heap.size 3 i0 (.int .i64 0) 1 8 Tryz.underlying53 hi hz0 hz1 hz2 rfl (by decide) _ _ _ rfl (HOWN.out.alloc _) _ _ 1 1 _ rfl (Rd.new _ _ _) rfl (by intro u hu; simp at hu; subst hu; rfl) (by simp only [maxLen]; omega) (by omega) (by have := HO.out.size; simp; omega) ?_; intro v1 w1 hown1 hg1; have HOWN1 := Lib.hid hown1; have HO1 := Lib.hid (HO.out.trans ((OnlyT.of_below ((Below.refl _ _).alloc (Nat.le_refl _) _)).trans (OnlyT.grown hg1 (own_type (HOWN.out.alloc _)) (by simp)))); clear hown1 hg1))
      go_roundw
      case rel =>
        refine ⟨k + 1, q / 2, by omega, by go_num, by go_num, ?_, ?_, HO1.out⟩
        · rw [HQ.out, Nat.pow_succ, Nat.div_div_eq_div_mul]
        · have := HOWN1.out
          rw [bitsOf_succ, ivs_append]
          rw [rbit V k q HQ.out] at this
          exact this
      case measure => simp [intOf]; omega
    · obtain rfl : k = n := by omega
      go_wp2
      go_ret
      refine ⟨_, rfl, ?_, HO.out⟩
      rw [bitsOf_length]
      exact HOWN.out

/-- What holds at the head of a round of ref.Ones. -/
def ROnesRel (w : World) (n : Nat) (v i : Value) (wr : World) : Prop :=
  ∃ k : Nat, k ≤ n ∧ i = .int .i64 k ∧ wr.ownsRow w.heap.size 3 1 v k (ivs (List.replicate k true)) ∧ OnlyT w.heap.size [3] w wr

set_option maxHeartbeats 1000000 in
set_option maxRecDepth 100000 in
theorem rfOnes_any (n m : Nat) (w : World) (hn : n ≤ m) (hm : m ≤ 256) :
    Calls Tryz.prog 54 #[.int .i64 n, .int .i64 m] w (NewI w (onesOf n m)) := by
  obtain ⟨i0, hi, hz0, hz1, hz2⟩ := info_parts info_int
  have hni : (n : Int) ≤ 256 := by omega
  go_enter Tryz.func54, Tryz.ntmps54
  go_wp2
  go_loopw [5, 6] (ROnesRel w n) (fun _ i _ => n - (intOf i).toNat)
  case atStart => exact ⟨0, Nat.zero_le _, rfl, World.ownsRow_nil _ _ _ _, OnlyT.refl _ _ _⟩
  case round =>
    obtain ⟨k, hk, rfl, hown, ho⟩ := hrel
    have HO := Lib.hid ho
    have HOWN := Lib.hid hown
    clear hown ho
    by_cases hlt : k < n
    · go_wp2_with (at_builtin; go_must (refine wpList_app rfl (.tmp 12) (.tmp 13) 53 rfl w.heap.size 3 i0 (.int .i64 0) 1 8 Tryz.underlying53 hi hz0 hz1 hz2 rfl (by decide) _ _ _ rfl (HOWN.out.alloc _) _ _ 1 1 _ rfl (Rd.new _ _ _) rfl (by intro u hu; simp at hu; subst hu; rfl) (by simp only [maxLen]; omega) (by omega) (by have := HO.out.size; simp; omega) ?_; intro v1 w1 hown1 hg1; have HOWN1 := Lib.hid hown1; have HO1 := Lib.hid (HO.out.trans ((OnlyT.of_below ((Below.refl _ _).alloc (Nat.le_refl _) _)).trans (OnlyT.grown hg1 (own_type (HOWN.out.alloc _)) (by simp)))); clear hown1 hg1))
      go_roundw
      case rel =>
        refine ⟨k + 1, by omega, by go_num, ?_, HO1.out⟩
        rw [List.replicate_succ', ivs_append]
        exact HOWN1.out
      case measure => simp [intOf]; omega
    · obtain rfl : k = n := by omega
      by_cases hlm : k < m
      · go_wp2_with (at_builtin; go_must (refine wpList_app rfl (.tmp 18) (.tmp 19) 53 rfl w.heap.size 3 i0 (.int .i64 0) 1 8 Tryz.underlying53 hi hz0 hz1 hz2 rfl (by decide) _ _ _ rfl (HOWN.out.alloc _) _ _ 1 1 _ rfl (Rd.new _ _ _) rfl (by intro u hu; simp at hu; subst hu; rfl) (by simp only [maxLen]; omega) (by omega) (by have := HO.out.size; simp; omega) ?_; intro v1 w1 hown1 hg1; have HOWN1 := Lib.hid hown1; have HO1 := Lib.hid (HO.out.trans ((OnlyT.of_below ((Below.refl _ _).alloc (Nat.le_refl _) _)).trans (OnlyT.grown hg1 (own_type (HOWN.out.alloc _)) (by simp)))); clear hown1 hg1))
        go_ret
        refine ⟨_, rfl, ?_, HO1.out⟩
        unfold onesOf
        rw [if_pos hlm, ivs_append, List.length_append, List.length_replicate]
        exact HOWN1.out
      · have hlm' : ¬ (k : Int) < m := by omega
        go_wp2
        go_ret
        refine ⟨_, rfl, ?_, HO.out⟩
        unfold onesOf
        rw [if_neg hlm, List.append_nil, List.length_replicate]
        exact HOWN.out

/- The bytes that have the bits. -/
def PacksN (bs : List UInt8) (l : List Bool) (N : Nat) : Prop := bs.length = N ∧ ∀ i, bitAt bs i = l.getD i false
theorem PacksN.start (N : Nat) : PacksN (List.replicate N 0) [] N := by
  refine ⟨by simp, fun i => ?_⟩
  simp only [bitAt, List.getD_eq_getElem?_getD, List.getElem?_replicate]
  split <;> simp
theorem PacksN.snoc {bs : List UInt8} {l : List Bool} {N : Nat} (h : PacksN bs l N) (b : Bool) (hin : l.length / 8 < N) (c : UInt8)
    (hc : c.toNat = (bs.getD (l.length / 8) 0).toNat ||| b.toNat <<< (l.length % 8)) : PacksN (bs.set (l.length / 8) c) (l ++ [b]) N := by
  obtain ⟨hlen, hbit⟩ := h
  subst hlen
  refine ⟨by simp, fun i => ?_⟩
  by_cases hi : i / 8 = l.length / 8
  · have hb2 := hbit i
    simp only [bitAt, hi] at hb2 ⊢
    rw [List.getD_eq_getElem?_getD, List.getElem?_set_self hin, Option.getD_some, hc, Nat.testBit_or, hb2, Nat.testBit_shiftLeft]
    simp only [List.getD_eq_getElem?_getD, List.getElem?_append]
    by_cases hil : i < l.length
    · rw [if_pos hil]
      have : ¬ (i % 8 ≥ l.length % 8) := by omega
      simp [this]
    · rw [if_neg hil, List.getElem?_eq_none (l := l) (by omega)]
      by_cases hie : i = l.length
      · subst hie
        cases b <;> simp
      · have g1 : i % 8 ≥ l.length % 8 := by omega
        have g2 : i % 8 - l.length % 8 ≠ 0 := by omega
        rw [List.getElem?_eq_none (by simp; omega)]
        obtain ⟨m, hm⟩ : ∃ m, i % 8 - l.length % 8 = m + 1 := ⟨i % 8 - l.length % 8 - 1, by omega⟩
        cases b <;> simp [g1, hm, Nat.testBit_succ]
  · have : bitAt (bs.set (l.length / 8) c) i = bitAt bs i := by
      simp only [bitAt, List.getD_eq_getElem?_getD, List.getElem?_set_ne (Ne.symm hi)]
    rw [this, hbit]
    simp only [List.getD_eq_getElem?_getD, List.getElem?_append]
    split
    · rfl
    · rename_i g
      have hne : i - l.length ≠ 0 := by omega
      rw [List.getElem?_eq_none (l := l) (by omega), List.getElem?_eq_none (by simp; omega)]
/-- the byte that is being filled has nothing at the bit's place, nor above -/
theorem PacksN.small {bs : List UInt8} {l : List Bool} {N : Nat} (h : PacksN bs l N) (x : UInt8) (hx : bs[l.length / 8]? = some x) : x.toNat < 2 ^ (l.length % 8) := by
  apply Nat.lt_pow_two_of_testBit
  intro j hj
  rcases Nat.lt_or_ge j 8 with g | g
  · have e := h.2 (8 * (l.length / 8) + j)
    have e1 : (8 * (l.length / 8) + j) / 8 = l.length / 8 := by omega
    have e2 : (8 * (l.length / 8) + j) % 8 = j := by omega
    simp only [bitAt, e1, e2, List.getD_eq_getElem?_getD, hx, Option.getD_some] at e
    rw [e, List.getElem?_eq_none (by omega)]
    rfl
  · have p : (2 : Nat) ^ 8 ≤ 2 ^ j := Nat.pow_le_pow_right (by decide) g
    exact Nat.testBit_lt_two_pow (by have := x.toNat_lt; omega)
theorem add_or (x r : Nat) (b : Bool) (hx : x < 2 ^ r) : x ||| b.toNat <<< r = x + b.toNat * 2 ^ r := by
  rw [Nat.or_comm, Nat.shiftLeft_eq, Nat.mul_comm, ← Nat.two_pow_add_eq_or_of_lt hx]
  omega

end Go.Proofs.YtflcmmeoppdhdaaGreat
namespace Go.Proofs.YtflcmmeoppdhdaaGreat
open Go.RowKit

theorem byte_val (x p b : Nat) (h : x + b * p < 256) : ((x : Int) + wrap64 ((p : Int) * (b : Int))) % 256 = ((x + b * p : Nat) : Int) := by
  have e : (p : Int) * (b : Int) = ((b * p : Nat) : Int) := by rw [Int.natCast_mul]; exact Int.mul_comm _ _
  rw [e]
  generalize b * p = m at *
  unfold wrap64
  omega
theorem pow_next (k p : Nat) (h : p = 2 ^ (k % 8)) (h8 : (k + 1) % 8 ≠ 0) : 2 * p = 2 ^ ((k + 1) % 8) := by
  rw [show (k + 1) % 8 = k % 8 + 1 by omega, Nat.pow_succ, h]; exact Nat.mul_comm _ _

/-- What holds at the head of a round of ref.Bytes. -/
def RBytRel (w : World) (l : List Bool) (N : Nat) (i p : Value) (wr : World) : Prop :=
  ∃ (k : Nat) (bs : List UInt8) (pv : Nat), k ≤ l.length ∧ i = .int .i64 k ∧ p = .int .i64 pv ∧ (k % 8 ≠ 0 → pv = 2 ^ (k % 8)) ∧ pv ≤ 256 ∧ PacksN bs (l.take k) N ∧
    wr.ownsRow w.heap.size 5 1 (.slice (some ⟨w.heap.size, 0, none⟩) N N) N (bvs bs) ∧ Below w.heap.size w wr

set_option maxHeartbeats 2000000 in
set_option maxRecDepth 100000 in
theorem rfBytes_any (A : Option Addr) (n c : Nat) (l : List Bool) (w : World) (hr : Rd w w.heap.size A (ivs l)) (hn : l.length = n) (hn1 : n < 900000000) :
    Calls Tryz.prog 27 #[.slice A n c] w fun e w' => ∃ bs, Packs bs l ∧ NewBy w bs e w' := by
  obtain ⟨i0, hi, hz0, hz1, hz2⟩ := info_parts info_u8'
  obtain ⟨N, hN⟩ : ∃ N, N = (n + 7) / 8 := ⟨_, rfl⟩
  have hNi : ((n : Int) + 7) / 8 = (N : Int) := by omega
  have HN := Lib.hid hn
  have HR := Lib.hid hr
  clear hn hr
  go_enter Tryz.func27, Tryz.ntmps27
  go_wp2_with (at_make; go_must (refine wpList_mk rfl (.tmp 9) (.tmp 9) 22 rfl w.heap.size 5 i0 (.int .u8 0) 1 Tryz.underlying22 hi hz0 rfl hz1 hz2 .i64 .i64 _ _ rfl rfl N N (by omega) (by omega) (by omega) (by omega) (by simp only [maxLen]; omega) (Nat.le_refl _) ?_; intro w1 hg1 hown1 hgr1; have hb1 : Below w.heap.size w w1 := (Below.refl _ _).grown hgr1 (Nat.le_refl _) (by simp); clear hg1 hgr1))
  simp only [Act.put, List.setIfInBounds_toArray, List.set_cons_succ, List.set_cons_zero]
  go_wp2
  go_loopw [5, 4] (RBytRel w l N) (fun i _ _ => n - (intOf i).toNat)
  case atStart =>
    refine ⟨0, List.replicate N 0, 1, Nat.zero_le _, rfl, rfl, by simp, by omega, ?_, ?_, hb1⟩
    · rw [List.take_zero]; exact PacksN.start N
    · have e : bvs (List.replicate N 0) = List.replicate N (Value.int .u8 0) := by simp [bvs]
      rw [e]; exact hown1
  case round =>
    clear hown1 hb1
    obtain ⟨k, bs, pv, hk, rfl, rfl, hpv, hp2, hpk, hown, hb⟩ := hrel
    have hbs := hb.size
    by_cases hlt : k < n
    · obtain ⟨b, hlb⟩ : ∃ b, l[k]? = some b := ⟨l[k]'(by have := HN.out; omega), by simp⟩
      have htk : (l.take k).length = k := by rw [List.length_take]; omega
      have htake : l.take (k + 1) = l.take k ++ [b] := by rw [List.take_add_one, hlb]; rfl
      obtain ⟨x, hx⟩ : ∃ x : UInt8, bs[k / 8]? = some x := ⟨bs[k / 8]'(by have := hpk.1; omega), by simp⟩
      have hsm := hpk.small x (by rw [htk]; exact hx)
      rw [htk] at hsm
      have hor := add_or x.toNat (k % 8) b hsm
      obtain ⟨D, hD⟩ : ∃ D, D = 2 ^ (k % 8) := ⟨_, rfl⟩
      have hD8 : D ≤ 128 := by rw [hD]; have := Nat.pow_le_pow_right (n := 2) (by decide) (show k % 8 ≤ 7 by omega); omega
      have hD1 : k % 8 = 0 → D = 1 := fun h => by rw [hD, h, Nat.pow_zero]
      rw [← hD] at hsm hor hpv
      have hxD : x.toNat + b.toNat * D < 256 := by
        have hlt8 : x.toNat ||| b.toNat <<< (k % 8) < 2 ^ 8 := by
          refine Nat.or_lt_two_pow x.toNat_lt ?_
          rw [Nat.shiftLeft_eq, ← hD]
          cases b <;> simp <;> omega
        rw [hor] at hlt8
        exact hlt8
      have hor2 : (UInt8.ofNat (x.toNat + b.toNat * D)).toNat = (bs.getD (k / 8) 0).toNat ||| b.toNat <<< (k % 8) := by
        rw [u8n hxD, List.getD_eq_getElem?_getD, hx, Option.getD_some, hor]
      have hpk1 := hpk.snoc b (by rw [htk]; omega) (UInt8.ofNat (x.toNat + b.toNat * D)) (by rw [htk]; exact hor2)
      rw [htk, ← htake] at hpk1
      have hst := hown.stored (k / 8) (.int .u8 (UInt8.ofNat (x.toNat + b.toNat * D)).toNat)
      rw [bvs_set, u8n hxD] at hst
      have HST := Lib.hid hst.1
      have HBE := Lib.hid (hb.grown hst.2 hbs (by simp))
      have hcr : wr.cell? ⟨w.heap.size, k / 8, none⟩ = some (.int .u8 x.toNat) := by
        rw [hown.cellAt (k / 8) (by omega)]
        simp [bvs, hx]
      have hfr := hown.frozenAt (k / 8)
      obtain ⟨ab, ao, rfl, hab, hcl⟩ := (HR.out.below hb) k _ (ivs_get hlb)
      have hq0 : (0 : Int) ≤ (k : Int) / 8 := by omega
      have hq1 : (k : Int) / 8 < (N : Int) := by omega
      have hk1 : (k : Int) < (n : Int) := by omega
      have hk9 : (k : Int) < 900000000 := by omega
      have hDi : (D : Int) ≤ 128 := by omega
      have HPK := Lib.hid hpk1
      have HPV := Lib.hid hpv
      have HD := Lib.hid hD
      have HD1 := Lib.hid hD1
      have HX := Lib.hid hxD
      have hb1 : b.toNat ≤ 1 := by cases b <;> simp
      clear hpk hown hb hlb htk htake hx hsm hor hor2 hpk1 hst hpv hD hD1 hxD hN hNi hn1 hlt hbs hp2
      by_cases h8 : k % 8 = 0
      · have hn8 : ((k : Int) % 8 == 0) = true := by rw [beq_iff_eq]; omega
        obtain rfl := HD1.out h8
        go_wp2
        go_region
        go_wp2
        have hv : ((x.toNat : Int) + (b.toNat : Int)) % 256 = ((x.toNat + b.toNat * 1 : Nat) : Int) := by have := HX.out; omega
        rw [hv]
        refine ⟨⟨k + 1, _, 2, by have := HN.out; omega, rfl, rfl, fun _ => by rw [show (k + 1) % 8 = 1 by omega], by omega, HPK.out, HST.out.drew, HBE.out.drew⟩, by simp [intOf]; omega⟩
      · have hn8 : ((k : Int) % 8 == 0) = false := by rw [beq_eq_false_iff_ne]; omega
        obtain rfl := HPV.out h8
        go_wp2
        go_region
        go_wp2
        rw [byte_val x.toNat pv b.toNat HX.out]
        refine ⟨⟨k + 1, _, 2 * pv, by have := HN.out; omega, rfl, by rw [Int.natCast_mul, show ((2 : Nat) : Int) = 2 by decide], pow_next k pv HD.out, by omega, HPK.out, HST.out.drew, HBE.out.drew⟩, by simp [intOf]; omega⟩
    · obtain rfl : k = l.length := by have := HN.out; omega
      rw [List.take_length] at hpk
      go_wp2
      go_ret
      refine ⟨bs, ⟨by rw [hpk.1, hN, HN.out], hpk.2⟩, _, rfl, by rw [hpk.1]; exact hown, hb⟩
end Go.Proofs.YtflcmmeoppdhdaaGreat
namespace Go.Proofs.YtflcmmeoppdhdaaGreat
open Go.RowKit

/-- What holds at the head of a round of ref.All. -/
def RAllRel (w : World) (bs : List UInt8) (v i : Value) (wr : World) : Prop :=
  ∃ k : Nat, k ≤ bs.length ∧ i = .int .i64 k ∧ wr.ownsRow w.heap.size 3 1 v (8 * k) (ivs (allBits (bs.take k))) ∧ OnlyT w.heap.size [3] w wr
set_option maxHeartbeats 1000000 in
set_option maxRecDepth 100000 in
theorem rfAll_any (A : Option Addr) (n c : Nat) (l : List UInt8) (w : World) (hr : Rd w w.heap.size A (bvs l)) (hn : l.length = n) (hn1 : n ≤ 1000) :
    Calls Tryz.prog 57 #[.slice A n c] w (NewI w (allBits l)) := by
  obtain ⟨i0, hi, hz0, hz1, hz2⟩ := info_parts info_int
  have HN := Lib.hid hn
  have HR := Lib.hid hr
  clear hn hr
  go_enter Tryz.func57, Tryz.ntmps57
  go_wp2
  go_loopw [3, 4] (RAllRel w l) (fun _ i _ => n - (intOf i).toNat)
  case atStart => exact ⟨0, Nat.zero_le _, rfl, World.ownsRow_nil _ _ _ _, OnlyT.refl _ _ _⟩
  case round =>
    obtain ⟨k, hk, rfl, hown, ho⟩ := hrel
    have hbs := ho.size
    have hbelow := ho.below (Nat.le_refl _)
    have HO := Lib.hid ho
    have HOWN := Lib.hid hown
    clear hown ho
    by_cases hlt : k < n
    · obtain ⟨x, hx⟩ : ∃ x, l[k]? = some x := ⟨l[k]'(by have := HN.out; omega), by simp⟩
      obtain ⟨ab, ao, rfl, hab, hcl⟩ := (HR.out.below hbelow) k (.int .u8 x.toNat) (by simp [bvs, hx])
      have HX := Lib.hid hx
      have hx8 := x.toNat_lt
      clear hx hbelow
      go_wp2_with (first
        | (go_at_call 55; go_must (refine (rfBits_any x.toNat 8 _ (by omega) (by decide)).mono ?_; rintro e w2 ⟨vb, rfl, hownb, hob⟩; rw [bitsOf_length] at hownb; obtain ⟨Ab, cb, rfl, -, -, -⟩ := own_form hownb; have HRB := Lib.hid (Rd.of_own hownb); have hbb := hob.below (Nat.le_refl _); have HOWN2 := Lib.hid (own_kept HOWN.out hbb); have HO2 := Lib.hid (HO.out.trans (hob.base hbs)); clear hownb hob hbb))
        | (at_builtin; go_must (refine wpList_app rfl (.tmp 11) (.tmp 17) 53 rfl w.heap.size 3 i0 (.int .i64 0) 1 8 Tryz.underlying53 hi hz0 hz1 hz2 rfl (by decide) _ _ _ rfl HOWN2.out _ _ _ _ _ rfl HRB.out (by rw [ivs_length, bitsOf_length]) (ivs_one _) (by simp only [maxLen]; omega) (by omega) HO2.out.size ?_; intro v3 w3 hown3 hg3; have HO3 := Lib.hid (HO2.out.trans (OnlyT.grown hg3 (own_type HOWN2.out) (by simp))); have HOWN3 := Lib.hid hown3; clear hown3 hg3)))
      have hrelN : RAllRel w l v3 (.int .i64 ((k : Int) + 1)) w3 := by
        refine ⟨k + 1, by have := HN.out; omega, by go_num, ?_, HO3.out⟩
        rw [List.take_add_one, HX.out, show (some x).toList = [x] from rfl, allBits_snoc, ivs_append]
        exact HOWN3.out
      have HRELN := Lib.hid hrelN
      clear hrelN
      go_roundw
      case rel => exact HRELN.out
      case measure => simp [intOf]; omega
    · obtain rfl : k = n := by have := HN.out; omega
      go_wp2
      go_ret
      refine ⟨_, rfl, ?_, HO.out⟩
      have := HOWN.out
      rw [← HN.out, List.take_length] at this
      rw [allBits_length]
      exact this

section
variable {w : World} {g : Nat} {L : List Bool}
end
end Go.Proofs.YtflcmmeoppdhdaaGreat
namespace Go.Proofs.YtflcmmeoppdhdaaGreat
open Go.RowKit

section
variable {w : World} {g : Nat} {L : List Bool}
end
end Go.Proofs.YtflcmmeoppdhdaaGreat
namespace Go.Proofs.YtflcmmeoppdhdaaGreat
open Go.RowKit Go.Sort

/-- What holds at the head of a round of Bits. -/
def RBRel (w3 : World) (W CB : Nat) (ws : List Nat) (L : List Bool) (v i : Value) (wr : World) : Prop :=
  ∃ (k A N : Nat) (o R : List Bool), k ≤ ws.length ∧ i = .int .i64 (k : Int) ∧ RiceB (8 * W) A N (ws.drop k) R ∧ o ++ R = L ∧ CountsOk (8 * W) A N ∧ wr.ownsRow w3.heap.size 3 1 v o.length (ivs o) ∧ Blk wr CB 90 [.int .u64 (A : Int), .int .u64 (N : Int)] ∧ TurnsB CB CB w3 wr
/-- A word's place among those that are left. -/
theorem riceB_next {D A N : Nat} {ws : List Nat} {k : Nat} {R : List Bool} (h : RiceB D A N (ws.drop k) R) (hk : k < ws.length) : ∃ (K : Nat) (R2 : List Bool), IsK A N K ∧ R = riceW D K ws[k] ++ R2 ∧ RiceB D (behindA A N ws[k]) (behindN N) (ws.drop (k + 1)) R2 := by
  rw [List.drop_eq_getElem_cons hk] at h
  cases h with
  | word _ _ K _ _ R2 hK hr => exact ⟨K, R2, hK, rfl, hr⟩
theorem own_setC {w : World} {base e size n CB : Nat} {v u : Value} {xs : List Value} {i : Nat} (h : w.ownsRow base e size v n xs) (_ : CB ≤ base) (hC : CB < base) : (w.setCell ⟨CB, i, none⟩ u).ownsRow base e size v n xs := by
  refine ⟨h.1, ?_⟩
  rcases h.2 with h0 | ⟨g, cap, cur, rfl, hbg, hg, rest⟩
  · exact .inl h0
  · exact .inr ⟨g, cap, cur, rfl, hbg, by rw [Below.heap_setCell w ⟨CB, i, none⟩ u g (by simp; omega)]; exact hg, rest⟩
theorem D_le {W : Nat} (hW : IsW W) : 8 ≤ 8 * W ∧ 8 * W ≤ 64 := by have := hW.pos; omega
set_option maxHeartbeats 4000000 in
set_option maxRecDepth 100000 in
theorem riceBits_any {W : Nat} (hW : IsW W) (A : Option Addr) (c : Nat) (l : List UInt8) (w : World) (hr : Rd w w.heap.size A (bvs l)) (hnc : l.length ≤ c) (hb : l.length ≤ 2000) {L : List Bool} (hL : RiceB (8 * W) 16 1 (wordsOf W l) L) (hLl : L.length ≤ 200000) :
    Calls Tryz.prog 28 #[.slice A l.length c, .int .i64 (W : Int)] w fun e w' => ∃ v, e = .returned v ∧ w'.ownsRow w.heap.size 3 1 v (L ++ allBits (restOf W l)).length (ivs (L ++ allBits (restOf W l))) ∧ Below w.heap.size w w' := by
  obtain ⟨i0, hi0, hz0, hz1, hz2⟩ := info_parts info_int
  have C1 := Lib.hid (refTake_any hW A c l w hr hnc (by omega))
  obtain ⟨ws, hws⟩ : ∃ ws, ws = wordsOf W l := ⟨_, rfl⟩
  obtain ⟨rs, hrs⟩ : ∃ rs, rs = restOf W l := ⟨_, rfl⟩
  have hp := hW.pos
  have hwl : ws.length ≤ 2000 := by rw [hws, wordsOf_len]; exact Nat.le_trans (Nat.div_le_self _ _) hb
  have hrl : rs.length < 8 := by have := rest_lt (W := W) (by omega) l; rw [hrs]; omega
  have hw256 : ∀ x ∈ ws, x < 2 ^ (8 * W) := by
    intro x hx
    rw [hws] at hx
    have := wordsOf_lt (W := W) (by omega) l x hx
    rw [show 2 ^ (8 * W) = 256 ^ W by rw [Nat.pow_mul]]
    exact this
  rw [← hws, ← hrs] at C1
  rw [← hws] at hL
  rw [← hrs]
  have HL := Lib.hid hL
  have HLL := Lib.hid hLl
  have HWL := Lib.hid hwl
  have HRL := Lib.hid hrl
  have H256 := Lib.hid hw256
  have HWW := Lib.hid hW
  have h8W : (8 : Int) * (W : Int) = ((8 * W : Nat) : Int) := by omega
  have H8W := Lib.hid h8W
  have hW8 : (W : Int) ≤ 8 := by omega
  have hW1 : (1 : Int) ≤ (W : Int) := by omega
  clear hL hLl hwl hrl hw256 hr hnc hb hws hrs h8W hW hp
  obtain ⟨U, hU⟩ : ∃ U, U = allBits rs := ⟨_, rfl⟩
  rw [← hU]
  have HUU := Lib.hid hU
  clear hU
  go_enter Tryz.func28, Tryz.ntmps28
  go_wp2_with fail
  refine C1.out.mono ?_
  rintro _ w1 ⟨v1, v2, rfl, h1, h2, hb1⟩
  have HB1 := Lib.hid hb1
  have H1 := Lib.hid h1
  have H2 := Lib.hid h2
  clear h1 h2 hb1 C1
  go_wp2_with fail
  refine (riceBegin_any w1).mono ?_
  rintro _ w2 ⟨rfl, hb2⟩
  obtain ⟨A1, c1, rfl, hc1, hr1⟩ := H1.out.grow hb2
  obtain ⟨A2, c2, rfl, hc2, hr2⟩ := H2.out.grow hb2
  have HB2 := Lib.hid (HB1.out.trans (hb2.mono HB1.out.size))
  have HR1 := Lib.hid hr1
  have HR2 := Lib.hid hr2
  rw [wvs_length]
  unfold cntV
  obtain ⟨CB, hCB⟩ : ∃ CB, CB = w2.heap.size := ⟨_, rfl⟩
  obtain ⟨w3, hw3⟩ : ∃ w3, w3 = w2.alloc (.cells #[.int .u64 16, .int .u64 1] 90) := ⟨_, rfl⟩
  have hb3 : Below w2.heap.size w2 w3 := by rw [hw3]; exact (Below.refl _ _).alloc (Nat.le_refl _) _
  have HREL := Lib.hid (show RBRel w3 W CB ws L (.slice none 0 0) (.int .i64 ((0 : Nat) : Int)) w3 from ⟨0, 16, 1, [], L, Nat.zero_le _, rfl, HL.out, rfl, counts_start (D_le HWW.out).1, World.ownsRow_nil _ _ _ _, by rw [hw3, hCB]; exact heap_alloc_new w2 _, TurnsB.refl _ _ _⟩)
  have HR3 := Lib.hid (hr1.below hb3)
  have HR4 := Lib.hid (hr2.below hb3)
  have HW := Lib.hid hw3
  have HCB := Lib.hid hCB
  have HCW := Lib.hid (show w.heap.size ≤ CB by rw [hCB]; exact HB2.out.size)
  have HB3 := Lib.hid (HB2.out.trans (hb3.mono HB2.out.size))
  have HC3 := Lib.hid (show CB < w3.heap.size by rw [hw3, hCB]; simp)
  rw [← hCB] at HR3 HR4
  clear hb2 hr1 hr2 hCB hw3 hb3 HR1 HR2 H1 H2 HB1
  go_wp2
  simp only [← HW.out, ← HCB.out]
  go_loopw [7, 9] (RBRel w3 W CB ws L) (fun _ i _ => ws.length - (intOf i).toNat)
  case atStart => exact HREL.out
  case round =>
    clear HREL
    obtain ⟨k, A0, N0, o, R, hk, rfl, hric, hoR, hcok, hown, hblk, htr⟩ := hrel
    obtain ⟨Ao, co, rfl, -, -, -⟩ := own_form hown
    have HOWN := Lib.hid hown
    have HBL := Lib.hid hblk
    have HTR := Lib.hid htr
    have HOR := Lib.hid hoR
    have hol : o.length ≤ 200000 := by have := HLL.out; rw [← hoR, List.length_append] at this; omega
    have HOL := Lib.hid hol
    have hrw := HR3.out.below (htr.below (B := CB) (Nat.le_refl _) (Nat.le_refl _) (Nat.le_of_lt HC3.out))
    have hCr : CB < wr.heap.size := Nat.lt_of_lt_of_le HC3.out htr.size
    have hk2 : ws.length ≤ 2000 := HWL.out
    have HRW := Lib.hid hrw
    clear hown hblk hoR hol hrw
    by_cases hlt : k < ws.length
    · obtain ⟨K, R2, hK, hRe, hric2⟩ := riceB_next hric hlt
      obtain ⟨ab, ao, rfl, hab, hcell⟩ := HRW.out k _ (wvs_get ws k hlt)
      obtain ⟨V, hV⟩ : ∃ V, V = ws[k]'hlt := ⟨_, rfl⟩
      have hVD : V < 2 ^ (8 * W) := by rw [hV]; exact H256.out _ (List.getElem_mem hlt)
      rw [← hV] at hcell hRe hric2
      have hcok2 := counts_behind hcok hVD
      have hV64 : V < 18446744073709551616 := Nat.lt_of_lt_of_le hVD (Nat.pow_le_pow_right (n := 2) (by decide) (D_le HWW.out).2)
      have hK33 := isK_few hcok hK
      have C2 := Lib.hid (fun W' => riceK_any hcok hK W')
      have C5 := Lib.hid (fun W' => riceBehind_any (A := A0) (N := N0) (v := V) (by obtain ⟨g1, g2, g3, g4⟩ := hcok; omega) hcok.2.1 hV64 W')
      have hP0 : 0 < 2 ^ K := Nat.two_pow_pos K
      have hc0 := HBL.out.cell 0
      have hc1 := HBL.out.cell 1
      simp only [List.getElem?_cons_zero, List.getElem?_cons_succ] at hc0 hc1
      have HCL := Lib.hid (fun (W' : World) (h : Rd W' CB (some ⟨ab, ao, none⟩) (wvs ws)) => (show W'.cell? ⟨ab, ao + k, none⟩ = some (.int .u64 (V : Int)) by
        obtain ⟨b, off, e, -, hc⟩ := h k _ (wvs_get ws k hlt)
        injection e with e
        injection e with e1 e2
        subst e1 e2
        rw [hV]; exact hc))
      have HNX := Lib.hid (And.intro hric2 hcok2)
      obtain ⟨P, hP⟩ : ∃ P, P = 2 ^ K := ⟨_, rfl⟩
      rw [← hP] at C2 hP0
      obtain ⟨q, hq⟩ : ∃ q, q = V / P := ⟨_, rfl⟩
      have hdq : (V : Int) / (P : Int) = (q : Int) := by rw [hq]; exact (Int.natCast_ediv _ _).symm
      have hqV : q ≤ V := by rw [hq]; exact Nat.div_le_self _ _
      have hwq : IntKind.u64.wrap ((V : Int) / (P : Int)) = (q : Int) := by rw [hdq, IntKind.wrap_u64]; omega
      have hP1 : ¬ (P : Int) = 0 := by omega
      have hP2 : ¬ P = 0 := by omega
      unfold cntV at C2 C5
      have hki : (k : Int) < (ws.length : Int) := by omega
      have HKS := Lib.hid hlt
      have HREQ := Lib.hid hRe
      have HQ := Lib.hid (show q = V / 2 ^ K by rw [← hP]; exact hq)
      have hk2i : (k : Int) ≤ 2000 := by omega
      clear hric hK hric2 hcok2 hV hVD hcok hab hRe hP hlt hdq hqV hq
      go_wp2_with fail
      refine (C2.out wr).mono ?_
      rintro _ w4 ⟨rfl, hb4⟩
      have HOWN4 := Lib.hid (own_kept HOWN.out hb4)
      have HBL4 := Lib.hid (HBL.out.grow hb4)
      have ht4 := HTR.out.trans (TurnsB.of_below (T := CB) (S := CB) hb4)
      have HTR4 := Lib.hid ht4
      have hcell4 := HCL.out w4 (HR3.out.below (ht4.below (B := CB) (Nat.le_refl _) (Nat.le_refl _) (Nat.le_of_lt HC3.out)))
      clear hb4 ht4 HOWN HBL HTR hc0 hc1 hcell C2 HRW
      by_cases h24 : q < 24
      · have hq24 : (q : Int) < 24 := by omega

        have hu1 := (onesOf_len q 24).1
        have hu2 := bitsOf_length V K
        have co := fun W' => rfOnes_any q 24 W' (by omega) (by decide)
        have cq := fun W' => rfBits_any V K W' hV64 (by omega)
        have HRW8 := Lib.hid (show riceW (8 * W) K V = onesOf q 24 ++ bitsOf V K by unfold riceW; rw [← HQ.out, if_pos h24])
        obtain ⟨U1, hU1⟩ : ∃ U1, U1 = onesOf q 24 := ⟨_, rfl⟩
        obtain ⟨U2, hU2⟩ : ∃ U2, U2 = bitsOf V K := ⟨_, rfl⟩
        rw [← hU1] at co hu1 HRW8
        rw [← hU2] at cq hu2 HRW8
        have hl1 : U1.length ≤ 25 := by omega
        have hl2 : U2.length ≤ 64 := by omega
        have CO := Lib.hid co
        have CQ := Lib.hid cq
        have hol := HOL.out
        clear co cq hu1 hu2 hU1 hU2 h24
        go_wp2_with fail
        refine (CO.out w4).mono ?_
        rintro _ w5 ⟨v5, rfl, hown5, ho5⟩
        have hb5 := ho5.below (Nat.le_refl _)
        obtain ⟨A5, c5, rfl, -, -, -⟩ := own_form hown5
        have HRD5 := Lib.hid (Rd.of_own hown5)
        have HOWN5 := Lib.hid (own_kept HOWN4.out hb5)
        have HBL5 := Lib.hid (HBL4.out.grow hb5)
        have HTR5 := Lib.hid (HTR4.out.trans (TurnsB.of_below hb5))
        clear hown5 ho5 hb5 HOWN4 HBL4 HTR4 hcell4 CO
        go_wp2_with ((with_reducible show wpList _ _ _ (({ dst := some 46, op := _, type := _, pos := _, after := _, guard := _ } : Oper) :: _) _ _); go_must (refine wpList_app rfl (.tmp 37) (.tmp 45) 53 rfl w3.heap.size 3 i0 (.int .i64 0) 1 8 Tryz.underlying53 hi0 hz0 hz1 hz2 rfl (by decide) _ _ _ rfl HOWN5.out w5.heap.size A5 U1.length c5 (ivs U1) rfl HRD5.out (by rw [ivs_length, Nat.mul_one]) (ivs_one _) (by simp only [maxLen]; omega) (by omega) HTR5.out.size ?_; intro v6 w6 hown6 hg6; have hrow := own_block HOWN5.out; have hb6 := blk_row HBL5.out hg6 (fun r e => by have := hrow r e; have := HC3.out; omega); have ht6 := HTR5.out.growO hg6 hrow; have HBL6 := Lib.hid hb6; have HTR6 := Lib.hid ht6; rw [← ivs_append] at hown6; have HOWN6 := Lib.hid hown6; have hcell6 := HCL.out w6 (HR3.out.below (ht6.below (B := CB) (Nat.le_refl _) (Nat.le_refl _) (Nat.le_of_lt HC3.out))); obtain ⟨A6, c6, rfl, -, -, -⟩ := own_form HOWN6.out; clear hown6 hg6 hrow hb6 ht6))
        refine (CQ.out w6).mono ?_
        rintro _ w7 ⟨v7, rfl, hown7, ho7⟩
        have hb7 := ho7.below (Nat.le_refl _)
        obtain ⟨A7, c7, rfl, -, -, -⟩ := own_form hown7
        have HRD7 := Lib.hid (Rd.of_own hown7)
        have HOWN7 := Lib.hid (own_kept HOWN6.out hb7)
        have HBL7 := Lib.hid (HBL6.out.grow hb7)
        have HTR7 := Lib.hid (HTR6.out.trans (TurnsB.of_below hb7))
        clear hown7 ho7 hb7 HOWN6 HBL6 HTR6 hcell6 CQ
        go_wp2_with ((with_reducible show wpList _ _ _ (({ dst := some 54, op := _, type := _, pos := _, after := _, guard := _ } : Oper) :: _) _ _); go_must (refine wpList_app rfl (.tmp 47) (.tmp 53) 53 rfl w3.heap.size 3 i0 (.int .i64 0) 1 8 Tryz.underlying53 hi0 hz0 hz1 hz2 rfl (by decide) _ _ _ rfl HOWN7.out w7.heap.size A7 U2.length c7 (ivs U2) rfl HRD7.out (by rw [ivs_length, Nat.mul_one]) (ivs_one _) (by simp only [maxLen]; omega) (by omega) HTR7.out.size ?_; intro v8 w8 hown8 hg8; have hrow := own_block HOWN7.out; have hb8 := blk_row HBL7.out hg8 (fun r e => by have := hrow r e; have := HC3.out; omega); have ht8 := HTR7.out.growO hg8 hrow; have HBL8 := Lib.hid hb8; have HTR8 := Lib.hid ht8; rw [← ivs_append] at hown8; have HOWN8 := Lib.hid hown8; have hcell8 := HCL.out w8 (HR3.out.below (ht8.below (B := CB) (Nat.le_refl _) (Nat.le_refl _) (Nat.le_of_lt HC3.out))); have hc0 := hb8.cell 0; have hc1 := hb8.cell 1; have hf0 := hb8.frozen 0; have hf1 := hb8.frozen 1; simp only [List.getElem?_cons_zero, List.getElem?_cons_succ] at hc0 hc1; clear hown8 hg8 hrow hb8 ht8))
        refine wp_region_still_tail 5 (by kernel_rfl) (by kernel_rfl) ?_
        simp only [List.take_succ_cons, List.take_zero, List.drop_succ_cons, List.drop_zero]
        repeat still_step
        refine wpStill_nil ?_
        change wpList _ _ _ _ _ w8.drew
        go_wp2_with fail
        refine (C5.out w8.drew).mono ?_
        rintro _ w9 ⟨rfl, hb9⟩
        have hbl9 := HBL8.out.drew_.grow hb9
        have HT9 := Lib.hid (HTR8.out.drew.trans (TurnsB.of_below (T := CB) (S := CB) hb9))
        have HO9 := Lib.hid (own_kept (own_drew HOWN8.out) hb9)
        have hc0 := hbl9.cell 0
        have hc1 := hbl9.cell 1
        have hf0 := hbl9.frozen 0
        have hf1 := hbl9.frozen 1
        simp only [List.getElem?_cons_zero, List.getElem?_cons_succ] at hc0 hc1
        have HBL9 := Lib.hid hbl9
        clear hb9 hbl9 HOWN8 HBL8 HTR8 C5 hcell8
        go_wp2
        go_roundw
        case rel => exact ⟨k + 1, behindA A0 N0 V, behindN N0, o ++ U1 ++ U2, R2, HKS.out, by go_num, HNX.out.1, by rw [← HOR.out, HREQ.out, HRW8.out]; simp, HNX.out.2, by rw [List.length_append, List.length_append]; exact own_setC (own_setC HO9.out (Nat.le_of_lt HC3.out) HC3.out) (Nat.le_of_lt HC3.out) HC3.out, (HBL9.out.set_ 0 _).set_ 1 _, HT9.out.trans ((TurnsB.set_ 0 _).trans (TurnsB.set_ 1 _))⟩
        case measure => have := HKS.out; simp [intOf]; omega
      · have hq24 : ¬ (q : Int) < 24 := by omega
        have hu1 := (onesOf_len 24 24).1
        have hu2 := bitsOf_length V (8 * W)
        have co := fun W' => rfOnes_any 24 24 W' (by omega) (by decide)
        have cq := fun W' => rfBits_any V (8 * W) W' hV64 (D_le HWW.out).2
        rw [← H8W.out] at cq
        have HRW8 := Lib.hid (show riceW (8 * W) K V = onesOf 24 24 ++ bitsOf V (8 * W) by unfold riceW; rw [← HQ.out, if_neg h24])
        obtain ⟨U1, hU1⟩ : ∃ U1, U1 = onesOf 24 24 := ⟨_, rfl⟩
        obtain ⟨U2, hU2⟩ : ∃ U2, U2 = bitsOf V (8 * W) := ⟨_, rfl⟩
        rw [← hU1] at co hu1 HRW8
        rw [← hU2] at cq hu2 HRW8
        have hl1 : U1.length ≤ 25 := by omega
        have hl2 : U2.length ≤ 64 := by have := D_le HWW.out; omega
        have CO := Lib.hid co
        have CQ := Lib.hid cq
        have hol := HOL.out
        clear co cq hu1 hu2 hU1 hU2 h24
        go_wp2_with fail
        refine (CO.out w4).mono ?_
        rintro _ w5 ⟨v5, rfl, hown5, ho5⟩
        have hb5 := ho5.below (Nat.le_refl _)
        obtain ⟨A5, c5, rfl, -, -, -⟩ := own_form hown5
        have HRD5 := Lib.hid (Rd.of_own hown5)
        have HOWN5 := Lib.hid (own_kept HOWN4.out hb5)
        have HBL5 := Lib.hid (HBL4.out.grow hb5)
        have HTR5 := Lib.hid (HTR4.out.trans (TurnsB.of_below hb5))
        clear hown5 ho5 hb5 HOWN4 HBL4 HTR4 hcell4 CO
        go_wp2_with ((with_reducible show wpList _ _ _ (({ dst := some 57, op := _, type := _, pos := _, after := _, guard := _ } : Oper) :: _) _ _); go_must (refine wpList_app rfl (.tmp 55) (.tmp 56) 53 rfl w3.heap.size 3 i0 (.int .i64 0) 1 8 Tryz.underlying53 hi0 hz0 hz1 hz2 rfl (by decide) _ _ _ rfl HOWN5.out w5.heap.size A5 U1.length c5 (ivs U1) rfl HRD5.out (by rw [ivs_length, Nat.mul_one]) (ivs_one _) (by simp only [maxLen]; omega) (by omega) HTR5.out.size ?_; intro v6 w6 hown6 hg6; have hrow := own_block HOWN5.out; have hb6 := blk_row HBL5.out hg6 (fun r e => by have := hrow r e; have := HC3.out; omega); have ht6 := HTR5.out.growO hg6 hrow; have HBL6 := Lib.hid hb6; have HTR6 := Lib.hid ht6; rw [← ivs_append] at hown6; have HOWN6 := Lib.hid hown6; have hcell6 := HCL.out w6 (HR3.out.below (ht6.below (B := CB) (Nat.le_refl _) (Nat.le_refl _) (Nat.le_of_lt HC3.out))); obtain ⟨A6, c6, rfl, -, -, -⟩ := own_form HOWN6.out; clear hown6 hg6 hrow hb6 ht6))
        refine (CQ.out w6).mono ?_
        rintro _ w7 ⟨v7, rfl, hown7, ho7⟩
        have hb7 := ho7.below (Nat.le_refl _)
        obtain ⟨A7, c7, rfl, -, -, -⟩ := own_form hown7
        have HRD7 := Lib.hid (Rd.of_own hown7)
        have HOWN7 := Lib.hid (own_kept HOWN6.out hb7)
        have HBL7 := Lib.hid (HBL6.out.grow hb7)
        have HTR7 := Lib.hid (HTR6.out.trans (TurnsB.of_below hb7))
        clear hown7 ho7 hb7 HOWN6 HBL6 HTR6 hcell6 CQ
        go_wp2_with ((with_reducible show wpList _ _ _ (({ dst := some 66, op := _, type := _, pos := _, after := _, guard := _ } : Oper) :: _) _ _); go_must (refine wpList_app rfl (.tmp 58) (.tmp 65) 53 rfl w3.heap.size 3 i0 (.int .i64 0) 1 8 Tryz.underlying53 hi0 hz0 hz1 hz2 rfl (by decide) _ _ _ rfl HOWN7.out w7.heap.size A7 U2.length c7 (ivs U2) rfl HRD7.out (by rw [ivs_length, Nat.mul_one]) (ivs_one _) (by simp only [maxLen]; omega) (by omega) HTR7.out.size ?_; intro v8 w8 hown8 hg8; have hrow := own_block HOWN7.out; have hb8 := blk_row HBL7.out hg8 (fun r e => by have := hrow r e; have := HC3.out; omega); have ht8 := HTR7.out.growO hg8 hrow; have HBL8 := Lib.hid hb8; have HTR8 := Lib.hid ht8; rw [← ivs_append] at hown8; have HOWN8 := Lib.hid hown8; have hcell8 := HCL.out w8 (HR3.out.below (ht8.below (B := CB) (Nat.le_refl _) (Nat.le_refl _) (Nat.le_of_lt HC3.out))); have hc0 := hb8.cell 0; have hc1 := hb8.cell 1; have hf0 := hb8.frozen 0; have hf1 := hb8.frozen 1; simp only [List.getElem?_cons_zero, List.getElem?_cons_succ] at hc0 hc1; clear hown8 hg8 hrow hb8 ht8))
        refine wp_region_still_tail 5 (by kernel_rfl) (by kernel_rfl) ?_
        simp only [List.take_succ_cons, List.take_zero, List.drop_succ_cons, List.drop_zero]
        repeat still_step
        refine wpStill_nil ?_
        change wpList _ _ _ _ _ w8.drew
        go_wp2_with fail
        refine (C5.out w8.drew).mono ?_
        rintro _ w9 ⟨rfl, hb9⟩
        have hbl9 := HBL8.out.drew_.grow hb9
        have HT9 := Lib.hid (HTR8.out.drew.trans (TurnsB.of_below (T := CB) (S := CB) hb9))
        have HO9 := Lib.hid (own_kept (own_drew HOWN8.out) hb9)
        have hc0 := hbl9.cell 0
        have hc1 := hbl9.cell 1
        have hf0 := hbl9.frozen 0
        have hf1 := hbl9.frozen 1
        simp only [List.getElem?_cons_zero, List.getElem?_cons_succ] at hc0 hc1
        have HBL9 := Lib.hid hbl9
        clear hb9 hbl9 HOWN8 HBL8 HTR8 C5 hcell8
        go_wp2
        go_roundw
        case rel => exact ⟨k + 1, behindA A0 N0 V, behindN N0, o ++ U1 ++ U2, R2, HKS.out, by go_num, HNX.out.1, by rw [← HOR.out, HREQ.out, HRW8.out]; simp, HNX.out.2, by rw [List.length_append, List.length_append]; exact own_setC (own_setC HO9.out (Nat.le_of_lt HC3.out) HC3.out) (Nat.le_of_lt HC3.out) HC3.out, (HBL9.out.set_ 0 _).set_ 1 _, HT9.out.trans ((TurnsB.set_ 0 _).trans (TurnsB.set_ 1 _))⟩
        case measure => have := HKS.out; simp [intOf]; omega
    · obtain rfl : k = ws.length := by omega
      rw [List.drop_length] at hric
      have hRn : R = [] := by cases hric; rfl
      have hoL : o = L := by rw [← HOR.out, hRn, List.append_nil]
      have CA := Lib.hid (rfAll_any A2 rs.length c2 rs wr (((HR4.out.below (htr.below (B := CB) (Nat.le_refl _) (Nat.le_refl _) (Nat.le_of_lt HC3.out))).more (Nat.le_of_lt hCr))) rfl (by have := HRL.out; omega))
      have hol := HOL.out
      have hal : (allBits rs).length ≤ 64 := by rw [allBits_length]; have := HRL.out; omega
      rw [← HUU.out] at CA hal
      have HOLQ := Lib.hid hoL
      have HBW := Lib.hid (HB3.out.trans (htr.below (B := w.heap.size) HCW.out HCW.out HB3.out.size))
      clear hric hRn hoL hcok htr HRW hlt
      go_wp2_with fail
      refine CA.out.mono ?_
      rintro _ w5 ⟨v5, rfl, hown5, ho5⟩
      have hb5 := ho5.below (Nat.le_refl _)
      obtain ⟨A5, c5, rfl, -, -, -⟩ := own_form hown5
      have HRD5 := Lib.hid (Rd.of_own hown5)
      have HOWN5 := Lib.hid (own_kept HOWN.out hb5)
      have HTR5 := Lib.hid (HTR.out.trans (TurnsB.of_below (T := CB) (S := CB) hb5))
      have HB5 := Lib.hid (HBW.out.trans (hb5.mono HBW.out.size))
      clear hown5 ho5 hb5 HOWN HTR HBW CA
      go_wp2_with ((with_reducible show wpList _ _ _ (({ dst := some 76, op := _, type := _, pos := _, after := _, guard := _ } : Oper) :: _) _ _); go_must (refine wpList_app rfl (.tmp 73) (.tmp 75) 53 rfl w3.heap.size 3 i0 (.int .i64 0) 1 8 Tryz.underlying53 hi0 hz0 hz1 hz2 rfl (by decide) _ _ _ rfl HOWN5.out w5.heap.size A5 U.length c5 (ivs U) rfl HRD5.out (by rw [ivs_length, Nat.mul_one]) (ivs_one _) (by simp only [maxLen]; omega) (by omega) HTR5.out.size ?_; intro v6 w6 hown6 hg6; rw [← ivs_append, ← List.length_append, HOLQ.out] at hown6; have hb6 := HB5.out.grown hg6 HB5.out.size (fun r e => by have := own_block HOWN5.out r e; have := HB3.out.size; omega); have HE := Lib.hid (And.intro (own_more hown6 HB3.out.size) hb6); clear hown6 hg6 hb6))
      go_ret
      exact ⟨_, rfl, HE.out.1, HE.out.2⟩
end Go.Proofs.YtflcmmeoppdhdaaGreat
