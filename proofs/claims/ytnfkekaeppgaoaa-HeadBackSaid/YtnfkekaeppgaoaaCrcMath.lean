/- Plain mathematics of layer 3: registers of 32 bits, their steps, sums of bytes, and bursts. -/
namespace Go.Proofs.Ytnfkekaeppgaoaa

/-- By what a register is turned when a 1 goes out of it. -/
def poly : BitVec 32 := 3988292384#32
def step (r : BitVec 32) : BitVec 32 := if r.getLsbD 0 then (r >>> 1) ^^^ poly else r >>> 1
def steps : Nat → BitVec 32 → BitVec 32
  | 0, r => r
  | n + 1, r => steps n (step r)

theorem step_xor (a b : BitVec 32) : step (a ^^^ b) = step a ^^^ step b := by
  unfold step
  rw [BitVec.getLsbD_xor, BitVec.ushiftRight_xor_distrib]
  cases a.getLsbD 0 <;> cases b.getLsbD 0 <;> simp
  · rw [BitVec.xor_assoc]
  · rw [BitVec.xor_assoc, BitVec.xor_assoc, BitVec.xor_comm poly]
  · rw [BitVec.xor_assoc, BitVec.xor_comm poly, BitVec.xor_assoc, BitVec.xor_self, BitVec.xor_zero]
theorem step_zero : step 0#32 = 0#32 := by decide
theorem steps_xor (n : Nat) : ∀ a b : BitVec 32, steps n (a ^^^ b) = steps n a ^^^ steps n b := by
  induction n with
  | zero => intro a b; rfl
  | succ n ih => intro a b; simp only [steps, step_xor, ih]
theorem steps_zero (n : Nat) : steps n 0#32 = 0#32 := by
  induction n with
  | zero => rfl
  | succ n ih => simp only [steps, step_zero, ih]
theorem steps_add (m : Nat) : ∀ (n : Nat) (r : BitVec 32), steps (m + n) r = steps n (steps m r) := by
  induction m with
  | zero => intro n r; simp [steps]
  | succ m ih => intro n r; rw [Nat.succ_add]; simp only [steps, ih]
theorem steps_succ (n : Nat) (r : BitVec 32) : steps (n + 1) r = step (steps n r) := steps_add n 1 r
theorem step_inj (r : BitVec 32) (h : step r = 0#32) : r = 0#32 := by
  unfold step at h
  cases hb : r.getLsbD 0 with
  | true =>
    rw [hb, if_pos rfl] at h
    have : ((r >>> 1) ^^^ poly).getLsbD 31 = true := by
      rw [BitVec.getLsbD_xor, BitVec.getLsbD_ushiftRight, BitVec.getLsbD_of_ge r (1 + 31) (by decide)]
      decide
    rw [h] at this
    simp at this
  | false =>
    rw [hb, if_neg (by simp)] at h
    apply BitVec.eq_of_getLsbD_eq
    intro i hi
    cases i with
    | zero => rw [hb]; rfl
    | succ i =>
      have : (r >>> 1).getLsbD i = false := by rw [h]; simp
      rw [BitVec.getLsbD_ushiftRight, Nat.add_comm] at this
      rw [this]; simp
theorem steps_inj (n : Nat) : ∀ r : BitVec 32, steps n r = 0#32 → r = 0#32 := by
  induction n with
  | zero => intro r h; exact h
  | succ n ih => intro r h; exact step_inj r (ih _ h)

/-- A register with no 1 among its k lowest bits goes down by k. -/
theorem steps_shift (k : Nat) : ∀ r : BitVec 32, (∀ i, i < k → r.getLsbD i = false) → steps k r = r >>> k := by
  induction k with
  | zero => intro r _; simp [steps]
  | succ k ih =>
    intro r h
    have h1 : step r = r >>> 1 := by unfold step; rw [h 0 (by omega)]; simp
    rw [steps, h1, ih _ (fun i hi => by rw [BitVec.getLsbD_ushiftRight]; exact h (1 + i) (by omega))]
    rw [← BitVec.shiftRight_add, Nat.add_comm]

/-- The register behind one byte more. -/
def upd (r : BitVec 32) (c : UInt8) : BitVec 32 := steps 8 (r ^^^ BitVec.ofNat 32 c.toNat)
/-- The register behind bytes. -/
def reg (r : BitVec 32) (l : List UInt8) : BitVec 32 := l.foldl upd r
/-- The sum of what has a sum, and of bytes behind. -/
def more (s : BitVec 32) (l : List UInt8) : BitVec 32 := ~~~ reg (~~~ s) l
def crcOf (l : List UInt8) : BitVec 32 := more 0#32 l
/-- The sum of what has two sums, the second one of n bytes. -/
def joinS (a b : BitVec 32) (n : Nat) : BitVec 32 := steps (8 * n) a ^^^ b

theorem reg_append (r : BitVec 32) (l m : List UInt8) : reg r (l ++ m) = reg (reg r l) m := List.foldl_append
theorem more_append (s : BitVec 32) (l m : List UInt8) : more s (l ++ m) = more (more s l) m := by
  simp only [more, reg_append, BitVec.not_not]
theorem reg_xor (l : List UInt8) : ∀ x y : BitVec 32, reg (x ^^^ y) l = steps (8 * l.length) x ^^^ reg y l := by
  induction l with
  | nil => intro x y; rfl
  | cons c l ih =>
    intro x y
    have e : upd (x ^^^ y) c = steps 8 x ^^^ upd y c := by
      unfold upd; rw [BitVec.xor_assoc, steps_xor]
    show reg (upd (x ^^^ y) c) l = _ ^^^ reg (upd y c) l
    rw [e, ih, ← steps_add, List.length_cons, show 8 + 8 * l.length = 8 * (l.length + 1) by omega]
theorem not_eq_xor (a : BitVec 32) : ~~~ a = a ^^^ BitVec.allOnes 32 := by rw [BitVec.xor_allOnes]
theorem more_join (a : BitVec 32) (l : List UInt8) : more a l = joinS a (crcOf l) l.length := by
  unfold more joinS crcOf more
  rw [not_eq_xor a, reg_xor, not_eq_xor, BitVec.xor_assoc]
  congr 1
  rw [← not_eq_xor]
  congr 1
theorem joinS_zero (a b : BitVec 32) : joinS a b 0 = a ^^^ b := rfl
theorem joinS_add (a b : BitVec 32) (m k : Nat) : joinS a b (m + k) = joinS (joinS a 0#32 m) b k := by
  unfold joinS
  rw [BitVec.xor_zero, ← steps_add, Nat.mul_add]

/-- The table's step is that of a byte. -/
theorem table_step (r : BitVec 32) (c : UInt8) : (r >>> 8) ^^^ steps 8 (BitVec.ofNat 32 ((r.toNat % 256) ^^^ c.toNat)) = upd r c := by
  have e : r ^^^ BitVec.ofNat 32 c.toNat = ((r >>> 8) <<< 8) ^^^ BitVec.ofNat 32 ((r.toNat % 256) ^^^ c.toNat) := by
    apply BitVec.eq_of_getLsbD_eq
    intro i hi
    simp only [BitVec.getLsbD_xor, BitVec.getLsbD_ofNat, BitVec.getLsbD_shiftLeft, BitVec.getLsbD_ushiftRight, Nat.testBit_xor, hi, decide_true, Bool.true_and]
    have hm : (r.toNat % 256).testBit i = (decide (i < 8) && r.toNat.testBit i) := Nat.testBit_mod_two_pow r.toNat 8 i
    rw [hm, BitVec.testBit_toNat]
    by_cases h8 : i < 8
    · simp [h8]
    · have : 8 + (i - 8) = i := by omega
      simp [h8, this]
  unfold upd
  rw [e, steps_xor]
  congr 1
  rw [steps_shift 8 _ (fun i hi => by rw [BitVec.getLsbD_shiftLeft]; simp [hi])]
  apply BitVec.eq_of_getLsbD_eq
  intro i hi
  rw [BitVec.getLsbD_ushiftRight, BitVec.getLsbD_ushiftRight, BitVec.getLsbD_shiftLeft, BitVec.getLsbD_ushiftRight]
  by_cases h : 8 + i < 32
  · simp [h]
  · rw [BitVec.getLsbD_of_ge r (8 + i) (by omega)]
    simp [h]

/-- The lowest k bits of a register. -/
def low (r : BitVec 32) (k : Nat) : BitVec 32 := BitVec.ofNat 32 (r.toNat % 2 ^ k)
theorem low_zero (r : BitVec 32) : low r 0 = 0#32 := by simp [low, Nat.mod_one]
theorem low_all (r : BitVec 32) : low r 32 = r := by
  unfold low
  rw [Nat.mod_eq_of_lt r.isLt]
  simp
theorem low_bit (r : BitVec 32) (k i : Nat) (hi : i < 32) : (low r k).getLsbD i = (decide (i < k) && r.getLsbD i) := by
  unfold low
  rw [BitVec.getLsbD_ofNat, Nat.testBit_mod_two_pow, BitVec.testBit_toNat]
  simp [hi]
theorem low_succ (r : BitVec 32) (k : Nat) (hk : k < 32) : low r (k + 1) = if r.getLsbD k then low r k ^^^ BitVec.ofNat 32 (2 ^ k) else low r k := by
  apply BitVec.eq_of_getLsbD_eq
  intro i hi
  rw [low_bit _ _ _ hi]
  by_cases h : r.getLsbD k = true
  · rw [if_pos h, BitVec.getLsbD_xor, low_bit _ _ _ hi, BitVec.getLsbD_ofNat, Nat.testBit_two_pow]
    by_cases e : i = k
    · subst e; simp [h, hi]
    · have h1 : decide (i < k + 1) = decide (i < k) := by simp; omega
      have h2 : decide (k = i) = false := by simp; omega
      simp [h1, h2]
  · rw [if_neg h, low_bit _ _ _ hi]
    by_cases e : i = k
    · subst e; simp at h; simp [h]
    · have h1 : decide (i < k + 1) = decide (i < k) := by simp; omega
      simp [h1]
/-- What is linear. -/
def Lin (F : BitVec 32 → BitVec 32) : Prop := ∀ a b, F (a ^^^ b) = F a ^^^ F b
theorem Lin.zero {F : BitVec 32 → BitVec 32} (h : Lin F) : F 0#32 = 0#32 := by
  have := h 0#32 0#32
  rw [BitVec.xor_self] at this
  rw [this, BitVec.xor_self]
theorem Lin.comp {F G : BitVec 32 → BitVec 32} (h : Lin F) (g : Lin G) : Lin (fun r => F (G r)) := fun a b => by
  show F (G (a ^^^ b)) = _
  rw [g, h]
theorem lin_step : Lin step := step_xor
theorem lin_steps (n : Nat) : Lin (steps n) := steps_xor n
theorem lin_low {F : BitVec 32 → BitVec 32} (h : Lin F) (r : BitVec 32) (k : Nat) (hk : k < 32) :
    F (low r (k + 1)) = if r.getLsbD k then F (low r k) ^^^ F (BitVec.ofNat 32 (2 ^ k)) else F (low r k) := by
  rw [low_succ r k hk]
  split
  · rw [h]
  · rfl

/- bits in a row -/
def bitReg (e : Bool) : BitVec 32 := if e then 1#32 else 0#32
def bstep (r : BitVec 32) (e : Bool) : BitVec 32 := step (r ^^^ bitReg e)
def bitsRun (r : BitVec 32) (l : List Bool) : BitVec 32 := l.foldl bstep r
def bits8 (c : UInt8) : List Bool := (List.range 8).map c.toNat.testBit
theorem bitsRun_append (r : BitVec 32) (l m : List Bool) : bitsRun r (l ++ m) = bitsRun (bitsRun r l) m := List.foldl_append
theorem bitsRun_xor : ∀ (l m : List Bool) (x y : BitVec 32), l.length = m.length → bitsRun x l ^^^ bitsRun y m = bitsRun (x ^^^ y) (List.zipWith xor l m)
  | [], [], x, y, _ => rfl
  | [], _ :: _, _, _, h => by simp at h
  | _ :: _, [], _, _, h => by simp at h
  | a :: l, b :: m, x, y, h => by
    show bitsRun (bstep x a) l ^^^ bitsRun (bstep y b) m = bitsRun (bstep (x ^^^ y) (xor a b)) (List.zipWith xor l m)
    rw [bitsRun_xor l m _ _ (by simpa using h)]
    congr 1
    unfold bstep
    rw [← step_xor]
    congr 1
    have e : bitReg (xor a b) = bitReg a ^^^ bitReg b := by cases a <;> cases b <;> decide
    rw [e]
    rw [BitVec.xor_assoc, BitVec.xor_assoc, ← BitVec.xor_assoc (bitReg a), BitVec.xor_comm (bitReg a) y, BitVec.xor_assoc y]
theorem bitsRun_off (n : Nat) : ∀ r : BitVec 32, bitsRun r (List.replicate n false) = steps n r := by
  induction n with
  | zero => intro r; rfl
  | succ n ih =>
    intro r
    rw [List.replicate_succ]
    show bitsRun (bstep r false) _ = _
    rw [ih]
    simp [bstep, bitReg, steps]
theorem bits8_len (c : UInt8) : (bits8 c).length = 8 := by simp [bits8]
theorem upd_bits (r : BitVec 32) (c : UInt8) : upd r c = bitsRun r (bits8 c) := by
  have h := bitsRun_xor (bits8 c) (List.replicate 8 false) 0#32 r (by simp [bits8_len])
  rw [bitsRun_off, BitVec.zero_xor] at h
  have z : List.zipWith xor (bits8 c) (List.replicate 8 false) = bits8 c := by simp [bits8, List.range, List.range.loop, List.replicate]
  rw [z] at h
  rw [← h]
  unfold upd
  rw [steps_xor, BitVec.xor_comm]
  congr 1
  have key : ∀ j : Fin 256, steps 8 (BitVec.ofNat 32 j.val) = bitsRun 0#32 ((List.range 8).map j.val.testBit) := by decide +kernel
  exact key ⟨c.toNat, c.toNat_lt⟩
/-- The bits of bytes, the lowest of each first. -/
def stream (l : List UInt8) : List Bool := l.flatMap bits8
theorem stream_len : ∀ l : List UInt8, (stream l).length = 8 * l.length
  | [] => rfl
  | c :: l => by
    show (bits8 c ++ stream l).length = _
    rw [List.length_append, stream_len l, bits8_len, List.length_cons]
    omega
theorem reg_bits : ∀ (l : List UInt8) (r : BitVec 32), reg r l = bitsRun r (stream l)
  | [], r => rfl
  | c :: l, r => by
    show reg (upd r c) l = bitsRun r (bits8 c ++ stream l)
    rw [bitsRun_append, upd_bits, reg_bits l]
theorem stream_get : ∀ (l : List UInt8) (k : Nat), k < 8 * l.length → (stream l)[k]? = some ((l.getD (k / 8) 0).toNat.testBit (k % 8))
  | [], k, h => by simp at h
  | c :: l, k, h => by
    show (bits8 c ++ stream l)[k]? = _
    rw [List.getElem?_append, bits8_len]
    by_cases h8 : k < 8
    · rw [if_pos h8, Nat.div_eq_of_lt h8, Nat.mod_eq_of_lt h8]
      simp [bits8, h8]
    · rw [if_neg h8, stream_get l (k - 8) (by rw [List.length_cons] at h; omega)]
      have e1 : k / 8 = (k - 8) / 8 + 1 := by omega
      have e2 : k % 8 = (k - 8) % 8 := by omega
      rw [e1, e2]
      simp
theorem u8_ext3 {a b : UInt8} (h : ∀ j, j < 8 → a.toNat.testBit j = b.toNat.testBit j) : a = b := by
  apply UInt8.toNat_inj.1
  apply Nat.eq_of_testBit_eq
  intro j
  rcases Nat.lt_or_ge j 8 with g | g
  · exact h j g
  · have p : (2 : Nat) ^ 8 ≤ 2 ^ j := Nat.pow_le_pow_right (by decide) g
    have ha := a.toNat_lt
    have hb := b.toNat_lt
    rw [Nat.testBit_lt_two_pow (by omega), Nat.testBit_lt_two_pow (by omega)]
theorem stream_inj {l m : List UInt8} (hl : l.length = m.length) (h : stream l = stream m) : l = m := by
  apply List.ext_getElem hl
  intro k h1 h2
  apply u8_ext3
  intro j hj
  have e1 := stream_get l (8 * k + j) (by omega)
  have e2 := stream_get m (8 * k + j) (by omega)
  rw [h, e2] at e1
  have q : (8 * k + j) / 8 = k := by omega
  have r : (8 * k + j) % 8 = j := by omega
  rw [q, r] at e1
  injection e1 with e1
  simpa [List.getD_eq_getElem?_getD, h1, h2] using e1.symm

/-- The register that few bits are, the first the lowest. -/
def valB : List Bool → BitVec 32
  | [] => 0#32
  | e :: l => bitReg e ^^^ (valB l <<< 1)
theorem bitReg_bit (e : Bool) (i : Nat) : (bitReg e).getLsbD i = (decide (i = 0) && e) := by
  cases e
  · simp [bitReg]
  · cases i with
    | zero => decide
    | succ i => simp [bitReg, BitVec.getLsbD_one]
theorem valB_bit : ∀ (l : List Bool) (i : Nat), i < 32 → (valB l).getLsbD i = l.getD i false
  | [], i, _ => by simp [valB]
  | e :: l, i, hi => by
    simp only [valB, BitVec.getLsbD_xor, bitReg_bit, BitVec.getLsbD_shiftLeft]
    cases i with
    | zero => simp
    | succ i =>
      rw [show i + 1 - 1 = i from rfl, valB_bit l i (by omega)]
      simp [hi]
theorem bitsRun_val : ∀ (l : List Bool) (r : BitVec 32), l.length ≤ 32 → bitsRun r l = steps l.length (r ^^^ valB l)
  | [], r, _ => by simp [bitsRun, steps, valB]
  | e :: l, r, h => by
    have hl : l.length < 32 := by rw [List.length_cons] at h; omega
    show bitsRun (bstep r e) l = _
    rw [bitsRun_val l _ (by omega)]
    show _ = steps l.length (step (r ^^^ (bitReg e ^^^ (valB l <<< 1))))
    congr 1
    rw [← BitVec.xor_assoc, step_xor]
    unfold bstep
    congr 1
    have h0 : (valB l <<< 1).getLsbD 0 = false := by simp
    have : step (valB l <<< 1) = (valB l <<< 1) >>> 1 := by unfold step; rw [h0]; simp
    rw [this]
    apply BitVec.eq_of_getLsbD_eq
    intro i hi
    rw [BitVec.getLsbD_ushiftRight, BitVec.getLsbD_shiftLeft, Nat.add_sub_cancel_left]
    by_cases g : i = 31
    · subst g
      rw [valB_bit l 31 (by omega), List.getD_eq_getElem?_getD, List.getElem?_eq_none (by omega)]
      simp
    · have h1 : 1 + i < 32 := by omega
      simp [h1]
/-- Bits of which no 1 is further behind the first place than 31 leave a register that is not 0, but where there is none. -/
theorem burst_zero (l : List Bool) (at_ : Nat) (h : ∀ k, l.getD k false = true → at_ ≤ k ∧ k < at_ + 32) (hz : bitsRun 0#32 l = 0#32) : ∀ k, l.getD k false = false := by
  obtain ⟨n, hn⟩ : ∃ n, n = min at_ l.length := ⟨_, rfl⟩
  have e1 : l.take n = List.replicate n false := by
    apply List.ext_getElem (by simp; omega)
    intro k h1 h2
    simp only [List.getElem_replicate, List.getElem_take]
    have hk : k < l.length := by simp at h1; omega
    cases g : l[k] with
    | false => rfl
    | true =>
      have := (h k (by simp [List.getD_eq_getElem?_getD, hk, g])).1
      simp at h1
      omega
  obtain ⟨p, hp⟩ : ∃ p, p = (l.drop n).take 32 := ⟨_, rfl⟩
  obtain ⟨q, hq⟩ : ∃ q, q = (l.drop n).drop 32 := ⟨_, rfl⟩
  have e2 : q = List.replicate q.length false := by
    apply List.ext_getElem (by simp)
    intro k h1 h2
    simp only [List.getElem_replicate]
    have hk : n + (32 + k) < l.length := by rw [hq] at h1; simp at h1; omega
    have g1 : q[k] = l[n + (32 + k)] := by simp [hq, List.getElem_drop, Nat.add_assoc]
    rw [g1]
    cases g : l[n + (32 + k)] with
    | false => rfl
    | true =>
      have := (h (n + (32 + k)) (by simp [List.getD_eq_getElem?_getD, hk, g])).2
      omega
  have hl : l = List.replicate n false ++ (p ++ List.replicate q.length false) := by
    rw [← e2, hp, hq, List.take_append_drop, ← e1, List.take_append_drop]
  have hp32 : p.length ≤ 32 := by rw [hp]; simp; omega
  rw [hl, bitsRun_append, bitsRun_append, bitsRun_off, bitsRun_off, steps_zero, bitsRun_val p _ hp32, BitVec.zero_xor] at hz
  have hv := steps_inj _ _ (steps_inj _ _ hz)
  have hpz : ∀ k, p.getD k false = false := by
    intro k
    by_cases g : k < 32
    · rw [← valB_bit p k g, hv]; simp
    · rw [List.getD_eq_getElem?_getD, List.getElem?_eq_none (by omega)]; rfl
  intro k
  rw [hl]
  simp only [List.getD_eq_getElem?_getD, List.getElem?_append, List.length_replicate, List.getElem?_replicate]
  split
  · rfl
  · split
    · have := hpz (k - n); rwa [List.getD_eq_getElem?_getD] at this
    · split <;> rfl

/-- Two rows of bytes, as long, that differ at no places further apart than 32 bits: if they have one sum, they are the same. -/
theorem crc_burst {l m : List UInt8} (at_ : Nat) (hl : l.length = m.length)
    (h : ∀ k, k < 8 * l.length → (l.getD (k / 8) 0).toNat.testBit (k % 8) ≠ (m.getD (k / 8) 0).toNat.testBit (k % 8) → at_ ≤ k ∧ k < at_ + 32) (hc : crcOf l = crcOf m) : l = m := by
  have hs : (stream l).length = (stream m).length := by rw [stream_len, stream_len, hl]
  apply stream_inj hl
  have hz : bitsRun 0#32 (List.zipWith xor (stream l) (stream m)) = 0#32 := by
    have e := bitsRun_xor (stream l) (stream m) (~~~ 0#32) (~~~ 0#32) hs
    rw [BitVec.xor_self] at e
    rw [← e, ← reg_bits, ← reg_bits]
    have : reg (~~~ 0#32) l = reg (~~~ 0#32) m := by
      have := congrArg (fun x => ~~~ x) hc
      simpa [crcOf, more] using this
    rw [this, BitVec.xor_self]
  have hx : ∀ k, k < 8 * l.length → (List.zipWith xor (stream l) (stream m)).getD k false = xor ((l.getD (k / 8) 0).toNat.testBit (k % 8)) ((m.getD (k / 8) 0).toNat.testBit (k % 8)) := by
    intro k hk
    rw [List.getD_eq_getElem?_getD, List.getElem?_zipWith, stream_get l k hk, stream_get m k (by omega)]
    rfl
  have hzl : (List.zipWith xor (stream l) (stream m)).length = 8 * l.length := by rw [List.length_zipWith, hs, stream_len, hl]; omega
  have hno := burst_zero _ at_ (fun k hk => by
    by_cases g : k < 8 * l.length
    · refine h k g (fun e => ?_)
      rw [hx k g, e] at hk
      simp at hk
    · rw [List.getD_eq_getElem?_getD, List.getElem?_eq_none (by omega)] at hk
      simp at hk) hz
  apply List.ext_getElem?
  intro k
  by_cases g : k < 8 * l.length
  · have := hno k
    rw [hx k g] at this
    rw [stream_get l k g, stream_get m k (by omega)]
    simpa using this
  · rw [List.getElem?_eq_none (by rw [stream_len]; omega), List.getElem?_eq_none (by rw [stream_len]; omega)]
end Go.Proofs.Ytnfkekaeppgaoaa
