/- Contracts of layer 1's reference: the bits as numbers. · Contract of layer 1's reference: the bytes that have bits. -/
import Derived.Test.YtjncmfoommlldaaBitKnown
namespace Go.Proofs.Ytjncmfoommlldaa
open Go.RowKit

/-- The bits as cells. -/
def ivs (l : List Bool) : List Value := l.map fun b => Value.int .i64 (b.toNat : Int)
theorem ivs_length (l : List Bool) : (ivs l).length = l.length := by simp [ivs]
theorem ivs_append (l m : List Bool) : ivs (l ++ m) = ivs l ++ ivs m := by simp [ivs]
theorem ivs_one (l : List Bool) : ∀ u ∈ ivs l, u.oneCell' = true := by
  intro u hu
  simp only [ivs, List.mem_map] at hu
  obtain ⟨c, _, rfl⟩ := hu
  rfl
theorem ivs_get {l : List Bool} {k : Nat} {b : Bool} (h : l[k]? = some b) : (ivs l)[k]? = some (Value.int .i64 (b.toNat : Int)) := by simp [ivs, h]
theorem ivs_drop (l : List Bool) (k : Nat) : (ivs l).drop k = ivs (l.drop k) := by simp [ivs]

theorem info_int : (Try.prog.info? 3).map (fun i => (i.zero, i.size, i.bytes)) = some (some (.int .i64 0), 1, 8) := by kernel_rfl

/-- A new row of these bits. -/
def NewI (w : World) (l : List Bool) (e : Ending) (w' : World) : Prop :=
  ∃ v, e = .returned v ∧ w'.ownsRow w.heap.size 3 1 v l.length (ivs l) ∧ OnlyT w.heap.size [3] w w'

/-- What holds at the head of a round of ref.Bits. -/
def RBitsRel (w : World) (V n : Nat) (v i x : Value) (wr : World) : Prop :=
  ∃ k q : Nat, k ≤ n ∧ i = .int .i64 k ∧ x = .int .u64 q ∧ q = V / 2 ^ k ∧ wr.ownsRow w.heap.size 3 1 v k (ivs (bitsOf V k)) ∧ OnlyT w.heap.size [3] w wr

theorem rbit (V k q : Nat) (h : q = V / 2 ^ k) : (q : Int) % 2 = ((V.testBit k).toNat : Int) := by
  rw [Nat.testBit_eq_decide_div_mod_eq, ← h]
  rcases Nat.mod_two_eq_zero_or_one q with g | g
  · rw [g]; simp; omega
  · rw [g]; simp; omega

set_option maxHeartbeats 1000000 in
set_option maxRecDepth 100000 in
theorem rfBits_any (V n : Nat) (w : World) (hV : V < 18446744073709551616) (hn : n ≤ 64) :
    Calls Try.prog 39 #[.int .u64 V, .int .i64 n] w (NewI w (bitsOf V n)) := by
  obtain ⟨i0, hi, hz0, hz1, hz2⟩ := info_parts info_int
  have hni : (n : Int) ≤ 64 := by omega
  go_enter Try.func39, Try.ntmps39
  go_wp2
  go_loopw [5, 6, 0] (RBitsRel w V n) (fun _ i _ _ => n - (intOf i).toNat)
  case atStart => exact ⟨0, V, Nat.zero_le _, rfl, rfl, by simp, World.ownsRow_nil _ _ _ _, OnlyT.refl _ _ _⟩
  case round =>
    obtain ⟨k, q, hk, rfl, rfl, hq, hown, ho⟩ := hrel
    have HO := Lib.hid ho
    have HOWN := Lib.hid hown
    have HQ := Lib.hid hq
    have hq1 : q < 18446744073709551616 := by have : V / 2 ^ k ≤ V := Nat.div_le_self _ _; omega
    clear hown ho hq
    by_cases hlt : k < n
    · go_wp2_with (at_builtin; go_must (refine wpList_app rfl (.tmp 12) (.tmp 16) 29 rfl w.heap.size 3 i0 (.int .i64 0) 1 8 Try.underlying29 hi hz0 hz1 hz2 rfl (by decide) _ _ _ rfl (HOWN.out.alloc _) _ _ 1 1 _ rfl (Rd.new _ _ _) rfl (by intro u hu; simp at hu; subst hu; rfl) (by simp only [maxLen]; omega) (by omega) (by have := HO.out.size; simp; omega) ?_; intro v1 w1 hown1 hg1; have HOWN1 := Lib.hid hown1; have HO1 := Lib.hid (HO.out.trans ((OnlyT.of_below ((Below.refl _ _).alloc (Nat.le_refl _) _)).trans (OnlyT.grown hg1 (own_type (HOWN.out.alloc _)) (by simp)))); clear hown1 hg1))
      go_roundw
      case rel =>
        refine ⟨k + 1, q / 2, by omega, by go_num, by go_num, ?_, ?_, HO1.out⟩
        · rw [HQ.out, Nat.pow_succ, Nat.div_div_eq_div_mul]
        · have := HOWN1.out
          rw [bitsOf_succ, ivs_append]
          rw [rbit V k q HQ.out] at this
          exact this
      case measure => simp [intOf]; omega
    · obtain rfl : k = n := by omega
      go_wp2
      go_ret
      refine ⟨_, rfl, ?_, HO.out⟩
      rw [bitsOf_length]
      exact HOWN.out

/-- What holds at the head of a round of ref.Ones. -/
def ROnesRel (w : World) (n : Nat) (v i : Value) (wr : World) : Prop :=
  ∃ k : Nat, k ≤ n ∧ i = .int .i64 k ∧ wr.ownsRow w.heap.size 3 1 v k (ivs (List.replicate k true)) ∧ OnlyT w.heap.size [3] w wr

/- The bytes that have the bits. -/
def PacksN (bs : List UInt8) (l : List Bool) (N : Nat) : Prop := bs.length = N ∧ ∀ i, bitAt bs i = l.getD i false
theorem PacksN.start (N : Nat) : PacksN (List.replicate N 0) [] N := by
  refine ⟨by simp, fun i => ?_⟩
  simp only [bitAt, List.getD_eq_getElem?_getD, List.getElem?_replicate]
  split <;> simp
theorem PacksN.snoc {bs : List UInt8} {l : List Bool} {N : Nat} (h : PacksN bs l N) (b : Bool) (hin : l.length / 8 < N) (c : UInt8)
    (hc : c.toNat = (bs.getD (l.length / 8) 0).toNat ||| b.toNat <<< (l.length % 8)) : PacksN (bs.set (l.length / 8) c) (l ++ [b]) N := by
  obtain ⟨hlen, hbit⟩ := h
  subst hlen
  refine ⟨by simp, fun i => ?_⟩
  by_cases hi : i / 8 = l.length / 8
  · have hb2 := hbit i
    simp only [bitAt, hi] at hb2 ⊢
    rw [List.getD_eq_getElem?_getD, List.getElem?_set_self hin, Option.getD_some, hc, Nat.testBit_or, hb2, Nat.testBit_shiftLeft]
    simp only [List.getD_eq_getElem?_getD, List.getElem?_append]
    by_cases hil : i < l.length
    · rw [if_pos hil]
      have : ¬ (i % 8 ≥ l.length % 8) := by omega
      simp [this]
    · rw [if_neg hil, List.getElem?_eq_none (l := l) (by omega)]
      by_cases hie : i = l.length
      · subst hie
        cases b <;> simp
      · have g1 : i % 8 ≥ l.length % 8 := by omega
        have g2 : i % 8 - l.length % 8 ≠ 0 := by omega
        rw [List.getElem?_eq_none (by simp; omega)]
        obtain ⟨m, hm⟩ : ∃ m, i % 8 - l.length % 8 = m + 1 := ⟨i % 8 - l.length % 8 - 1, by omega⟩
        cases b <;> simp [g1, hm, Nat.testBit_succ]
  · have : bitAt (bs.set (l.length / 8) c) i = bitAt bs i := by
      simp only [bitAt, List.getD_eq_getElem?_getD, List.getElem?_set_ne (Ne.symm hi)]
    rw [this, hbit]
    simp only [List.getD_eq_getElem?_getD, List.getElem?_append]
    split
    · rfl
    · rename_i g
      have hne : i - l.length ≠ 0 := by omega
      rw [List.getElem?_eq_none (l := l) (by omega), List.getElem?_eq_none (by simp; omega)]
/-- the byte that is being filled has nothing at the bit's place, nor above -/
theorem PacksN.small {bs : List UInt8} {l : List Bool} {N : Nat} (h : PacksN bs l N) (x : UInt8) (hx : bs[l.length / 8]? = some x) : x.toNat < 2 ^ (l.length % 8) := by
  apply Nat.lt_pow_two_of_testBit
  intro j hj
  rcases Nat.lt_or_ge j 8 with g | g
  · have e := h.2 (8 * (l.length / 8) + j)
    have e1 : (8 * (l.length / 8) + j) / 8 = l.length / 8 := by omega
    have e2 : (8 * (l.length / 8) + j) % 8 = j := by omega
    simp only [bitAt, e1, e2, List.getD_eq_getElem?_getD, hx, Option.getD_some] at e
    rw [e, List.getElem?_eq_none (by omega)]
    rfl
  · have p : (2 : Nat) ^ 8 ≤ 2 ^ j := Nat.pow_le_pow_right (by decide) g
    exact Nat.testBit_lt_two_pow (by have := x.toNat_lt; omega)
theorem add_or (x r : Nat) (b : Bool) (hx : x < 2 ^ r) : x ||| b.toNat <<< r = x + b.toNat * 2 ^ r := by
  rw [Nat.or_comm, Nat.shiftLeft_eq, Nat.mul_comm, ← Nat.two_pow_add_eq_or_of_lt hx]
  omega

/-- `string(b)`, met in a walk. -/
theorem wpList_str {P : Program} {w : World} {ops : Array Oper} {rest : List Oper} {o : Oper} {a : Act} {Q : Exit → Act → World → Prop} (hgd : o.guard = none) (src dst e : TypeId) (x : Operand)
    (ho : o.op = .convert src dst x) (hs : P.underlying src = some (.slice e)) (he : P.underlying e = some (.int .u8)) (hd : P.underlying dst = some .string)
    (B : Nat) (A : Option Addr) (l : List UInt8) (n c : Nat) (hx : a.eval x = .slice A n c) (hr : Rd w B A (bvs l)) (hn : l.length = n)
    (h : wpList P ops Q rest (a.put o.dst (.string ⟨l.toArray⟩)) w) : wpList P ops Q (o :: rest) a w := by
  refine wpList_plain hgd fun K hK => ?_
  unfold Oper.wp
  simp only [execOp, ho, hx, Sem.run_bind, run_str w src dst e hs he hd B A l c hr n hn, Result.andThen_ok, Sem.run_pure]
  exact hK _ _ h

end Go.Proofs.Ytjncmfoommlldaa
namespace Go.Proofs.Ytjncmfoommlldaa
open Go.RowKit

theorem byte_val (x p b : Nat) (h : x + b * p < 256) : ((x : Int) + wrap64 ((p : Int) * (b : Int))) % 256 = ((x + b * p : Nat) : Int) := by
  have e : (p : Int) * (b : Int) = ((b * p : Nat) : Int) := by rw [Int.natCast_mul]; exact Int.mul_comm _ _
  rw [e]
  generalize b * p = m at *
  unfold wrap64
  omega
theorem pow_next (k p : Nat) (h : p = 2 ^ (k % 8)) (h8 : (k + 1) % 8 ≠ 0) : 2 * p = 2 ^ ((k + 1) % 8) := by
  rw [show (k + 1) % 8 = k % 8 + 1 by omega, Nat.pow_succ, h]; exact Nat.mul_comm _ _

/-- What holds at the head of a round of ref.Bytes. -/
def RBytRel (w : World) (l : List Bool) (N : Nat) (i p : Value) (wr : World) : Prop :=
  ∃ (k : Nat) (bs : List UInt8) (pv : Nat), k ≤ l.length ∧ i = .int .i64 k ∧ p = .int .i64 pv ∧ (k % 8 ≠ 0 → pv = 2 ^ (k % 8)) ∧ pv ≤ 256 ∧ PacksN bs (l.take k) N ∧
    wr.ownsRow w.heap.size 5 1 (.slice (some ⟨w.heap.size, 0, none⟩) N N) N (bvs bs) ∧ Below w.heap.size w wr

set_option maxHeartbeats 2000000 in
set_option maxRecDepth 100000 in
theorem rfBytes_any (A : Option Addr) (n c : Nat) (l : List Bool) (w : World) (hr : Rd w w.heap.size A (ivs l)) (hn : l.length = n) (hn1 : n < 900000000) :
    Calls Try.prog 18 #[.slice A n c] w fun e w' => ∃ bs, Packs bs l ∧ NewBy w bs e w' := by
  obtain ⟨i0, hi, hz0, hz1, hz2⟩ := info_parts info_u8'
  obtain ⟨N, hN⟩ : ∃ N, N = (n + 7) / 8 := ⟨_, rfl⟩
  have hNi : ((n : Int) + 7) / 8 = (N : Int) := by omega
  have HN := Lib.hid hn
  have HR := Lib.hid hr
  clear hn hr
  go_enter Try.func18, Try.ntmps18
  go_wp2_with (at_make; go_must (refine wpList_mk rfl (.tmp 9) (.tmp 9) 22 rfl w.heap.size 5 i0 (.int .u8 0) 1 Try.underlying22 hi hz0 rfl hz1 hz2 .i64 .i64 _ _ rfl rfl N N (by omega) (by omega) (by omega) (by omega) (by simp only [maxLen]; omega) (Nat.le_refl _) ?_; intro w1 hg1 hown1 hgr1; have hb1 : Below w.heap.size w w1 := (Below.refl _ _).grown hgr1 (Nat.le_refl _) (by simp); clear hg1 hgr1))
  simp only [Act.put, List.setIfInBounds_toArray, List.set_cons_succ, List.set_cons_zero]
  go_wp2
  go_loopw [5, 4] (RBytRel w l N) (fun i _ _ => n - (intOf i).toNat)
  case atStart =>
    refine ⟨0, List.replicate N 0, 1, Nat.zero_le _, rfl, rfl, by simp, by omega, ?_, ?_, hb1⟩
    · rw [List.take_zero]; exact PacksN.start N
    · have e : bvs (List.replicate N 0) = List.replicate N (Value.int .u8 0) := by simp [bvs]
      rw [e]; exact hown1
  case round =>
    clear hown1 hb1
    obtain ⟨k, bs, pv, hk, rfl, rfl, hpv, hp2, hpk, hown, hb⟩ := hrel
    have hbs := hb.size
    by_cases hlt : k < n
    · obtain ⟨b, hlb⟩ : ∃ b, l[k]? = some b := ⟨l[k]'(by have := HN.out; omega), by simp⟩
      have htk : (l.take k).length = k := by rw [List.length_take]; omega
      have htake : l.take (k + 1) = l.take k ++ [b] := by rw [List.take_add_one, hlb]; rfl
      obtain ⟨x, hx⟩ : ∃ x : UInt8, bs[k / 8]? = some x := ⟨bs[k / 8]'(by have := hpk.1; omega), by simp⟩
      have hsm := hpk.small x (by rw [htk]; exact hx)
      rw [htk] at hsm
      have hor := add_or x.toNat (k % 8) b hsm
      obtain ⟨D, hD⟩ : ∃ D, D = 2 ^ (k % 8) := ⟨_, rfl⟩
      have hD8 : D ≤ 128 := by rw [hD]; have := Nat.pow_le_pow_right (n := 2) (by decide) (show k % 8 ≤ 7 by omega); omega
      have hD1 : k % 8 = 0 → D = 1 := fun h => by rw [hD, h, Nat.pow_zero]
      rw [← hD] at hsm hor hpv
      have hxD : x.toNat + b.toNat * D < 256 := by
        have hlt8 : x.toNat ||| b.toNat <<< (k % 8) < 2 ^ 8 := by
          refine Nat.or_lt_two_pow x.toNat_lt ?_
          rw [Nat.shiftLeft_eq, ← hD]
          cases b <;> simp <;> omega
        rw [hor] at hlt8
        exact hlt8
      have hor2 : (UInt8.ofNat (x.toNat + b.toNat * D)).toNat = (bs.getD (k / 8) 0).toNat ||| b.toNat <<< (k % 8) := by
        rw [u8n hxD, List.getD_eq_getElem?_getD, hx, Option.getD_some, hor]
      have hpk1 := hpk.snoc b (by rw [htk]; omega) (UInt8.ofNat (x.toNat + b.toNat * D)) (by rw [htk]; exact hor2)
      rw [htk, ← htake] at hpk1
      have hst := hown.stored (k / 8) (.int .u8 (UInt8.ofNat (x.toNat + b.toNat * D)).toNat)
      rw [bvs_set, u8n hxD] at hst
      have HST := Lib.hid hst.1
      have HBE := Lib.hid (hb.grown hst.2 hbs (by simp))
      have hcr : wr.cell? ⟨w.heap.size, k / 8, none⟩ = some (.int .u8 x.toNat) := by
        rw [hown.cellAt (k / 8) (by omega)]
        simp [bvs, hx]
      have hfr := hown.frozenAt (k / 8)
      obtain ⟨ab, ao, rfl, hab, hcl⟩ := (HR.out.below hb) k _ (ivs_get hlb)
      have hq0 : (0 : Int) ≤ (k : Int) / 8 := by omega
      have hq1 : (k : Int) / 8 < (N : Int) := by omega
      have hk1 : (k : Int) < (n : Int) := by omega
      have hk9 : (k : Int) < 900000000 := by omega
      have hDi : (D : Int) ≤ 128 := by omega
      have HPK := Lib.hid hpk1
      have HPV := Lib.hid hpv
      have HD := Lib.hid hD
      have HD1 := Lib.hid hD1
      have HX := Lib.hid hxD
      have hb1 : b.toNat ≤ 1 := by cases b <;> simp
      clear hpk hown hb hlb htk htake hx hsm hor hor2 hpk1 hst hpv hD hD1 hxD hN hNi hn1 hlt hbs hp2
      by_cases h8 : k % 8 = 0
      · have hn8 : ((k : Int) % 8 == 0) = true := by rw [beq_iff_eq]; omega
        obtain rfl := HD1.out h8
        go_wp2
        go_region
        go_wp2
        have hv : ((x.toNat : Int) + (b.toNat : Int)) % 256 = ((x.toNat + b.toNat * 1 : Nat) : Int) := by have := HX.out; omega
        rw [hv]
        refine ⟨⟨k + 1, _, 2, by have := HN.out; omega, rfl, rfl, fun _ => by rw [show (k + 1) % 8 = 1 by omega], by omega, HPK.out, HST.out.drew, HBE.out.drew⟩, by simp [intOf]; omega⟩
      · have hn8 : ((k : Int) % 8 == 0) = false := by rw [beq_eq_false_iff_ne]; omega
        obtain rfl := HPV.out h8
        go_wp2
        go_region
        go_wp2
        rw [byte_val x.toNat pv b.toNat HX.out]
        refine ⟨⟨k + 1, _, 2 * pv, by have := HN.out; omega, rfl, by rw [Int.natCast_mul, show ((2 : Nat) : Int) = 2 by decide], pow_next k pv HD.out, by omega, HPK.out, HST.out.drew, HBE.out.drew⟩, by simp [intOf]; omega⟩
    · obtain rfl : k = l.length := by have := HN.out; omega
      rw [List.take_length] at hpk
      go_wp2
      go_ret
      refine ⟨bs, ⟨by rw [hpk.1, hN, HN.out], hpk.2⟩, _, rfl, by rw [hpk.1]; exact hown, hb⟩
end Go.Proofs.Ytjncmfoommlldaa
