/- Plain mathematics of layer 4: words and their bytes, the lowest first. -/
namespace Go.Proofs.YtclhgjjehnmncaaDoor

/-- The number whose bytes these are, the lowest first. -/
def leN : List UInt8 → Nat
  | [] => 0
  | c :: l => c.toNat + 256 * leN l
/-- The w lowest bytes of a number. -/
def leB : Nat → Nat → List UInt8
  | 0, _ => []
  | w + 1, v => UInt8.ofNat (v % 256) :: leB w (v / 256)
/-- The first n words of w bytes each. -/
def wordsN : Nat → Nat → List UInt8 → List Nat
  | 0, _, _ => []
  | n + 1, w, l => leN (l.take w) :: wordsN n w (l.drop w)
/-- The bytes of words. -/
def layW (w : Nat) (ws : List Nat) : List UInt8 := ws.flatMap (leB w)

theorem leB_len : ∀ (w v : Nat), (leB w v).length = w
  | 0, _ => rfl
  | w + 1, v => by simp [leB, leB_len w]
theorem leN_lt : ∀ l : List UInt8, leN l < 256 ^ l.length
  | [] => by simp [leN]
  | c :: l => by
    have := leN_lt l
    have hc := c.toNat_lt
    simp only [leN, List.length_cons, Nat.pow_succ]
    omega
theorem leN_append : ∀ l m : List UInt8, leN (l ++ m) = leN l + 256 ^ l.length * leN m
  | [], m => by simp [leN]
  | c :: l, m => by
    simp only [List.cons_append, leN, leN_append l m, List.length_cons, Nat.pow_succ]
    rw [Nat.mul_add, ← Nat.mul_assoc, Nat.mul_comm 256 (256 ^ l.length)]
    omega
theorem leN_snoc (l : List UInt8) (c : UInt8) : leN (l ++ [c]) = leN l + c.toNat * 256 ^ l.length := by
  rw [leN_append]
  simp [leN, Nat.mul_comm]
theorem leN_leB : ∀ (w v : Nat), leN (leB w v) = v % 256 ^ w
  | 0, v => by simp [leB, leN, Nat.mod_one]
  | w + 1, v => by
    simp only [leB, leN, leN_leB w]
    have h : (UInt8.ofNat (v % 256)).toNat = v % 256 := by rw [UInt8.toNat_ofNat']; omega
    rw [h, Nat.pow_succ, Nat.mul_comm (256 ^ w), Nat.mod_mul]
theorem leB_leN : ∀ l : List UInt8, leB l.length (leN l) = l
  | [] => rfl
  | c :: l => by
    have hc := c.toNat_lt
    simp only [List.length_cons, leB, leN]
    have h1 : (c.toNat + 256 * leN l) % 256 = c.toNat := by omega
    have h2 : (c.toNat + 256 * leN l) / 256 = leN l := by omega
    rw [h1, h2, leB_leN l]
    congr 1
    apply UInt8.toNat_inj.1
    rw [UInt8.toNat_ofNat']
    omega
theorem leB_mod : ∀ (w v : Nat), leB w (v % 256 ^ w) = leB w v := fun w v => by
  have h := leB_leN (leB w v)
  rw [leB_len, leN_leB] at h
  exact h
theorem wordsN_len : ∀ (n w : Nat) (l : List UInt8), (wordsN n w l).length = n
  | 0, _, _ => rfl
  | n + 1, w, l => by simp [wordsN, wordsN_len n]
theorem wordsN_snoc : ∀ (n w : Nat) (l : List UInt8), wordsN (n + 1) w l = wordsN n w l ++ [leN ((l.drop (n * w)).take w)]
  | 0, w, l => by simp [wordsN]
  | n + 1, w, l => by
    show leN (l.take w) :: wordsN (n + 1) w (l.drop w) = leN (l.take w) :: (wordsN n w (l.drop w) ++ _)
    rw [wordsN_snoc n w (l.drop w), List.drop_drop]
    rw [show w + n * w = (n + 1) * w by rw [Nat.add_mul]; omega]
theorem wordsN_take : ∀ (n w : Nat) (l : List UInt8), wordsN n w (l.take (n * w)) = wordsN n w l
  | 0, _, _ => rfl
  | n + 1, w, l => by
    have e : (n + 1) * w = w + n * w := by rw [Nat.add_mul]; omega
    simp only [wordsN]
    rw [e, List.take_take, Nat.min_eq_left (by omega), List.drop_take, show w + n * w - w = n * w by omega, wordsN_take n w (l.drop w)]
theorem layW_words : ∀ (n w : Nat) (l : List UInt8), n * w ≤ l.length → layW w (wordsN n w l) = l.take (n * w)
  | 0, w, l, _ => by simp [wordsN, layW]
  | n + 1, w, l, h => by
    have hw : w ≤ l.length := by rw [Nat.add_mul] at h; omega
    show leB w (leN (l.take w)) ++ layW w (wordsN n w (l.drop w)) = _
    have e := leB_leN (l.take w)
    rw [List.length_take, Nat.min_eq_left hw] at e
    rw [e, layW_words n w (l.drop w) (by rw [List.length_drop]; rw [Nat.add_mul] at h; omega)]
    rw [Nat.add_mul, Nat.one_mul, Nat.add_comm (n * w), List.take_add]
theorem words_layW : ∀ (w : Nat) (ws : List Nat) (m : List UInt8), wordsN ws.length w (layW w ws ++ m) = ws.map (· % 256 ^ w)
  | _, [], _ => rfl
  | w, v :: ws, m => by
    show wordsN (ws.length + 1) w ((leB w v ++ layW w ws) ++ m) = _
    have ht : ((leB w v ++ layW w ws) ++ m).take w = leB w v := by
      rw [List.append_assoc, List.take_left' (leB_len w v)]
    have hd : ((leB w v ++ layW w ws) ++ m).drop w = layW w ws ++ m := by
      rw [List.append_assoc, List.drop_left' (leB_len w v)]
    simp only [wordsN, ht, hd, leN_leB, words_layW w ws m, List.map_cons]
theorem layW_len : ∀ (w : Nat) (ws : List Nat), (layW w ws).length = ws.length * w
  | _, [] => by simp [layW]
  | w, v :: ws => by
    show (leB w v ++ layW w ws).length = _
    rw [List.length_append, leB_len, layW_len w ws, List.length_cons, Nat.add_mul]
    omega
theorem layW_snoc (w : Nat) (ws : List Nat) (k : Nat) (h : k < ws.length) : layW w (ws.take (k + 1)) = layW w (ws.take k) ++ leB w ws[k] := by
  unfold layW
  rw [List.take_succ_eq_append_getElem h, List.flatMap_append]
  simp
theorem leB_snoc : ∀ (k v : Nat), leB (k + 1) v = leB k v ++ [UInt8.ofNat (v / 256 ^ k % 256)]
  | 0, v => by simp [leB]
  | k + 1, v => by
    show UInt8.ofNat (v % 256) :: leB (k + 1) (v / 256) = UInt8.ofNat (v % 256) :: (leB k (v / 256) ++ _)
    rw [leB_snoc k (v / 256), Nat.div_div_eq_div_mul, Nat.pow_succ, Nat.mul_comm 256]

/-- Is it a width? -/
def rightB (w : Int) : Bool := w == 1 || w == 2 || w == 4 || w == 8
theorem right_iff (w : Int) : rightB w = true ↔ w = 1 ∨ w = 2 ∨ w = 4 ∨ w = 8 := by
  simp [rightB, or_assoc]
/-- The greatest number of so many bytes. -/
def maskN (w : Int) : Nat := if rightB w then 256 ^ w.toNat - 1 else 0
theorem words_lt (n w : Nat) (l : List UInt8) (hw : w ≤ 8) : ∀ x ∈ wordsN n w l, x < 18446744073709551616 := by
  induction n generalizing l with
  | zero => intro x hx; simp [wordsN] at hx
  | succ n ih =>
    intro x hx
    simp only [wordsN, List.mem_cons] at hx
    rcases hx with rfl | hx
    · have h := leN_lt (l.take w)
      have h2 : 256 ^ (l.take w).length ≤ 256 ^ 8 := Nat.pow_le_pow_right (by decide) (by rw [List.length_take]; omega)
      have h3 : (256 : Nat) ^ 8 = 18446744073709551616 := by decide
      omega
    · exact ih _ x hx
end Go.Proofs.YtclhgjjehnmncaaDoor
