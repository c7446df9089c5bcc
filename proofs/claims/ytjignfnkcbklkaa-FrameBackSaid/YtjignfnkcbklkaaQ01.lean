/-
  Plain mathematics of layer 3: registers of 32 bits, their steps, sums of bytes, and bursts.
-/
namespace Go.Proofs.Ytjignfnkcbklkaa

/-- By what a register is turned when a 1 goes out of it. -/
def poly : BitVec 32 := 3988292384#32
def step (r : BitVec 32) : BitVec 32 := if r.getLsbD 0 then (r >>> 1) ^^^ poly else r >>> 1
def steps : Nat → BitVec 32 → BitVec 32
  | 0, r => r
  | n + 1, r => steps n (step r)

theorem step_xor (a b : BitVec 32) : step (a ^^^ b) = step a ^^^ step b := by
  unfold step
  rw [BitVec.getLsbD_xor, BitVec.ushiftRight_xor_distrib]
  cases a.getLsbD 0 <;> cases b.getLsbD 0 <;> simp
  · rw [BitVec.xor_assoc]
  · rw [BitVec.xor_assoc, BitVec.xor_assoc, BitVec.xor_comm poly]
  · rw [BitVec.xor_assoc, BitVec.xor_comm poly, BitVec.xor_assoc, BitVec.xor_self, BitVec.xor_zero]
theorem steps_xor (n : Nat) : ∀ a b : BitVec 32, steps n (a ^^^ b) = steps n a ^^^ steps n b := by
  induction n with
  | zero => intro a b; rfl
  | succ n ih => intro a b; simp only [steps, step_xor, ih]
/-- A register with no 1 among its k lowest bits goes down by k. -/
theorem steps_shift (k : Nat) : ∀ r : BitVec 32, (∀ i, i < k → r.getLsbD i = false) → steps k r = r >>> k := by
  induction k with
  | zero => intro r _; simp [steps]
  | succ k ih =>
    intro r h
    have h1 : step r = r >>> 1 := by unfold step; rw [h 0 (by omega)]; simp
    rw [steps, h1, ih _ (fun i hi => by rw [BitVec.getLsbD_ushiftRight]; exact h (1 + i) (by omega))]
    rw [← BitVec.shiftRight_add, Nat.add_comm]

/-- The register behind one byte more. -/
def upd (r : BitVec 32) (c : UInt8) : BitVec 32 := steps 8 (r ^^^ BitVec.ofNat 32 c.toNat)
/-- The register behind bytes. -/
def reg (r : BitVec 32) (l : List UInt8) : BitVec 32 := l.foldl upd r
/-- The sum of what has a sum, and of bytes behind. -/
def more (s : BitVec 32) (l : List UInt8) : BitVec 32 := ~~~ reg (~~~ s) l
def crcOf (l : List UInt8) : BitVec 32 := more 0#32 l
theorem reg_append (r : BitVec 32) (l m : List UInt8) : reg r (l ++ m) = reg (reg r l) m := List.foldl_append
/-- The table's step is that of a byte. -/
theorem table_step (r : BitVec 32) (c : UInt8) : (r >>> 8) ^^^ steps 8 (BitVec.ofNat 32 ((r.toNat % 256) ^^^ c.toNat)) = upd r c := by
  have e : r ^^^ BitVec.ofNat 32 c.toNat = ((r >>> 8) <<< 8) ^^^ BitVec.ofNat 32 ((r.toNat % 256) ^^^ c.toNat) := by
    apply BitVec.eq_of_getLsbD_eq
    intro i hi
    simp only [BitVec.getLsbD_xor, BitVec.getLsbD_ofNat, BitVec.getLsbD_shiftLeft, BitVec.getLsbD_ushiftRight, Nat.testBit_xor, hi, decide_true, Bool.true_and]
    have hm : (r.toNat % 256).testBit i = (decide (i < 8) && r.toNat.testBit i) := Nat.testBit_mod_two_pow r.toNat 8 i
    rw [hm, BitVec.testBit_toNat]
    by_cases h8 : i < 8
    · simp [h8]
    · have : 8 + (i - 8) = i := by omega
      simp [h8, this]
  unfold upd
  rw [e, steps_xor]
  congr 1
  rw [steps_shift 8 _ (fun i hi => by rw [BitVec.getLsbD_shiftLeft]; simp [hi])]
  apply BitVec.eq_of_getLsbD_eq
  intro i hi
  rw [BitVec.getLsbD_ushiftRight, BitVec.getLsbD_ushiftRight, BitVec.getLsbD_shiftLeft, BitVec.getLsbD_ushiftRight]
  by_cases h : 8 + i < 32
  · simp [h]
  · rw [BitVec.getLsbD_of_ge r (8 + i) (by omega)]
    simp [h]

/- bits in a row -/
end Go.Proofs.Ytjignfnkcbklkaa
