/- Contracts of layer 1's reference: the bits as numbers. · Contract of layer 1's reference: the bytes that have bits. -/
import Derived.Test.YtcenbaajojdjlaaDoorBitKnown
namespace Go.Proofs.YtcenbaajojdjlaaDoor
open Go.RowKit

/-- The bits as cells. -/
def ivs (l : List Bool) : List Value := l.map fun b => Value.int .i64 (b.toNat : Int)
theorem ivs_length (l : List Bool) : (ivs l).length = l.length := by simp [ivs]
theorem ivs_append (l m : List Bool) : ivs (l ++ m) = ivs l ++ ivs m := by simp [ivs]
theorem ivs_one (l : List Bool) : ∀ u ∈ ivs l, u.oneCell' = true := by
  intro u hu
  simp only [ivs, List.mem_map] at hu
  obtain ⟨c, _, rfl⟩ := hu
  rfl
theorem ivs_get {l : List Bool} {k : Nat} {b : Bool} (h : l[k]? = some b) : (ivs l)[k]? = some (Value.int .i64 (b.toNat : Int)) := by simp [ivs, h]
theorem ivs_drop (l : List Bool) (k : Nat) : (ivs l).drop k = ivs (l.drop k) := by simp [ivs]

theorem info_int : (Tryd.prog.info? 3).map (fun i => (i.zero, i.size, i.bytes)) = some (some (.int .i64 0), 1, 8) := by kernel_rfl

/-- A new row of these bits. -/
def NewI (w : World) (l : List Bool) (e : Ending) (w' : World) : Prop :=
  ∃ v, e = .returned v ∧ w'.ownsRow w.heap.size 3 1 v l.length (ivs l) ∧ OnlyT w.heap.size [3] w w'

/-- What holds at the head of a round of ref.Bits. -/
def RBitsRel (w : World) (V n : Nat) (v i x : Value) (wr : World) : Prop :=
  ∃ k q : Nat, k ≤ n ∧ i = .int .i64 k ∧ x = .int .u64 q ∧ q = V / 2 ^ k ∧ wr.ownsRow w.heap.size 3 1 v k (ivs (bitsOf V k)) ∧ OnlyT w.heap.size [3] w wr

theorem rbit (V k q : Nat) (h : q = V / 2 ^ k) : (q : Int) % 2 = ((V.testBit k).toNat : Int) := by
  rw [Nat.testBit_eq_decide_div_mod_eq, ← h]
  rcases Nat.mod_two_eq_zero_or_one q with g | g
  · rw [g]; simp; omega
  · rw [g]; simp; omega

/-- What holds at the head of a round of ref.Ones. -/
def ROnesRel (w : World) (n : Nat) (v i : Value) (wr : World) : Prop :=
  ∃ k : Nat, k ≤ n ∧ i = .int .i64 k ∧ wr.ownsRow w.heap.size 3 1 v k (ivs (List.replicate k true)) ∧ OnlyT w.heap.size [3] w wr

/- The bytes that have the bits. -/
def PacksN (bs : List UInt8) (l : List Bool) (N : Nat) : Prop := bs.length = N ∧ ∀ i, bitAt bs i = l.getD i false
theorem PacksN.start (N : Nat) : PacksN (List.replicate N 0) [] N := by
  refine ⟨by simp, fun i => ?_⟩
  simp only [bitAt, List.getD_eq_getElem?_getD, List.getElem?_replicate]
  split <;> simp
theorem PacksN.snoc {bs : List UInt8} {l : List Bool} {N : Nat} (h : PacksN bs l N) (b : Bool) (hin : l.length / 8 < N) (c : UInt8)
    (hc : c.toNat = (bs.getD (l.length / 8) 0).toNat ||| b.toNat <<< (l.length % 8)) : PacksN (bs.set (l.length / 8) c) (l ++ [b]) N := by
  obtain ⟨hlen, hbit⟩ := h
  subst hlen
  refine ⟨by simp, fun i => ?_⟩
  by_cases hi : i / 8 = l.length / 8
  · have hb2 := hbit i
    simp only [bitAt, hi] at hb2 ⊢
    rw [List.getD_eq_getElem?_getD, List.getElem?_set_self hin, Option.getD_some, hc, Nat.testBit_or, hb2, Nat.testBit_shiftLeft]
    simp only [List.getD_eq_getElem?_getD, List.getElem?_append]
    by_cases hil : i < l.length
    · rw [if_pos hil]
      have : ¬ (i % 8 ≥ l.length % 8) := by omega
      simp [this]
    · rw [if_neg hil, List.getElem?_eq_none (l := l) (by omega)]
      by_cases hie : i = l.length
      · subst hie
        cases b <;> simp
      · have g1 : i % 8 ≥ l.length % 8 := by omega
        have g2 : i % 8 - l.length % 8 ≠ 0 := by omega
        rw [List.getElem?_eq_none (by simp; omega)]
        obtain ⟨m, hm⟩ : ∃ m, i % 8 - l.length % 8 = m + 1 := ⟨i % 8 - l.length % 8 - 1, by omega⟩
        cases b <;> simp [g1, hm, Nat.testBit_succ]
  · have : bitAt (bs.set (l.length / 8) c) i = bitAt bs i := by
      simp only [bitAt, List.getD_eq_getElem?_getD, List.getElem?_set_ne (Ne.symm hi)]
    rw [this, hbit]
    simp only [List.getD_eq_getElem?_getD, List.getElem?_append]
    split
    · rfl
    · rename_i g
      have hne : i - l.length ≠ 0 := by omega
      rw [List.getElem?_eq_none (l := l) (by omega), List.getElem?_eq_none (by simp; omega)]
/-- the byte that is being filled has nothing at the bit's place, nor above -/
theorem PacksN.small {bs : List UInt8} {l : List Bool} {N : Nat} (h : PacksN bs l N) (x : UInt8) (hx : bs[l.length / 8]? = some x) : x.toNat < 2 ^ (l.length % 8) := by
  apply Nat.lt_pow_two_of_testBit
  intro j hj
  rcases Nat.lt_or_ge j 8 with g | g
  · have e := h.2 (8 * (l.length / 8) + j)
    have e1 : (8 * (l.length / 8) + j) / 8 = l.length / 8 := by omega
    have e2 : (8 * (l.length / 8) + j) % 8 = j := by omega
    simp only [bitAt, e1, e2, List.getD_eq_getElem?_getD, hx, Option.getD_some] at e
    rw [e, List.getElem?_eq_none (by omega)]
    rfl
  · have p : (2 : Nat) ^ 8 ≤ 2 ^ j := Nat.pow_le_pow_right (by decide) g
    exact Nat.testBit_lt_two_pow (by have := x.toNat_lt; omega)
theorem add_or (x r : Nat) (b : Bool) (hx : x < 2 ^ r) : x ||| b.toNat <<< r = x + b.toNat * 2 ^ r := by
  rw [Nat.or_comm, Nat.shiftLeft_eq, Nat.mul_comm, ← Nat.two_pow_add_eq_or_of_lt hx]
  omega

/-- `string(b)`, met in a walk. -/
theorem wpList_str {P : Program} {w : World} {ops : Array Oper} {rest : List Oper} {o : Oper} {a : Act} {Q : Exit → Act → World → Prop} (hgd : o.guard = none) (src dst e : TypeId) (x : Operand)
    (ho : o.op = .convert src dst x) (hs : P.underlying src = some (.slice e)) (he : P.underlying e = some (.int .u8)) (hd : P.underlying dst = some .string)
    (B : Nat) (A : Option Addr) (l : List UInt8) (n c : Nat) (hx : a.eval x = .slice A n c) (hr : Rd w B A (bvs l)) (hn : l.length = n)
    (h : wpList P ops Q rest (a.put o.dst (.string ⟨l.toArray⟩)) w) : wpList P ops Q (o :: rest) a w := by
  refine wpList_plain hgd fun K hK => ?_
  unfold Oper.wp
  simp only [execOp, ho, hx, Sem.run_bind, run_str w src dst e hs he hd B A l c hr n hn, Result.andThen_ok, Sem.run_pure]
  exact hK _ _ h

end Go.Proofs.YtcenbaajojdjlaaDoor
namespace Go.Proofs.YtcenbaajojdjlaaDoor
open Go.RowKit

theorem byte_val (x p b : Nat) (h : x + b * p < 256) : ((x : Int) + wrap64 ((p : Int) * (b : Int))) % 256 = ((x + b * p : Nat) : Int) := by
  have e : (p : Int) * (b : Int) = ((b * p : Nat) : Int) := by rw [Int.natCast_mul]; exact Int.mul_comm _ _
  rw [e]
  generalize b * p = m at *
  unfold wrap64
  omega
theorem pow_next (k p : Nat) (h : p = 2 ^ (k % 8)) (h8 : (k + 1) % 8 ≠ 0) : 2 * p = 2 ^ ((k + 1) % 8) := by
  rw [show (k + 1) % 8 = k % 8 + 1 by omega, Nat.pow_succ, h]; exact Nat.mul_comm _ _

/-- What holds at the head of a round of ref.Bytes. -/
def RBytRel (w : World) (l : List Bool) (N : Nat) (i p : Value) (wr : World) : Prop :=
  ∃ (k : Nat) (bs : List UInt8) (pv : Nat), k ≤ l.length ∧ i = .int .i64 k ∧ p = .int .i64 pv ∧ (k % 8 ≠ 0 → pv = 2 ^ (k % 8)) ∧ pv ≤ 256 ∧ PacksN bs (l.take k) N ∧
    wr.ownsRow w.heap.size 5 1 (.slice (some ⟨w.heap.size, 0, none⟩) N N) N (bvs bs) ∧ Below w.heap.size w wr

end Go.Proofs.YtcenbaajojdjlaaDoor
