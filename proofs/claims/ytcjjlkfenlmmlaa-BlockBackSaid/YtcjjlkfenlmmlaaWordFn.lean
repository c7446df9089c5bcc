/- Plain mathematics of layer 4: words and their bytes, the lowest first. · Contracts of layer 4: Right, of the code and of the reference. · Words of a width: what the contracts of words say. · Contracts of layer 4: Mask, of the code and of the reference; small laws of numbers put together. -/
import Derived.Test.YtcjjlkfenlmmlaaProg
import Derived.Test.YtcjjlkfenlmmlaaBase
import Derived.Deep.DeepMust
namespace Go.Proofs.Ytcjjlkfenlmmlaa

/-- The number whose bytes these are, the lowest first. -/
def leN : List UInt8 → Nat
  | [] => 0
  | c :: l => c.toNat + 256 * leN l
/-- The w lowest bytes of a number. -/
def leB : Nat → Nat → List UInt8
  | 0, _ => []
  | w + 1, v => UInt8.ofNat (v % 256) :: leB w (v / 256)
/-- The first n words of w bytes each. -/
def wordsN : Nat → Nat → List UInt8 → List Nat
  | 0, _, _ => []
  | n + 1, w, l => leN (l.take w) :: wordsN n w (l.drop w)
/-- The bytes of words. -/
def layW (w : Nat) (ws : List Nat) : List UInt8 := ws.flatMap (leB w)

theorem leB_len : ∀ (w v : Nat), (leB w v).length = w
  | 0, _ => rfl
  | w + 1, v => by simp [leB, leB_len w]
theorem leN_lt : ∀ l : List UInt8, leN l < 256 ^ l.length
  | [] => by simp [leN]
  | c :: l => by
    have := leN_lt l
    have hc := c.toNat_lt
    simp only [leN, List.length_cons, Nat.pow_succ]
    omega
theorem leN_append : ∀ l m : List UInt8, leN (l ++ m) = leN l + 256 ^ l.length * leN m
  | [], m => by simp [leN]
  | c :: l, m => by
    simp only [List.cons_append, leN, leN_append l m, List.length_cons, Nat.pow_succ]
    rw [Nat.mul_add, ← Nat.mul_assoc, Nat.mul_comm 256 (256 ^ l.length)]
    omega
theorem leN_snoc (l : List UInt8) (c : UInt8) : leN (l ++ [c]) = leN l + c.toNat * 256 ^ l.length := by
  rw [leN_append]
  simp [leN, Nat.mul_comm]
theorem leN_leB : ∀ (w v : Nat), leN (leB w v) = v % 256 ^ w
  | 0, v => by simp [leB, leN, Nat.mod_one]
  | w + 1, v => by
    simp only [leB, leN, leN_leB w]
    have h : (UInt8.ofNat (v % 256)).toNat = v % 256 := by rw [UInt8.toNat_ofNat']; omega
    rw [h, Nat.pow_succ, Nat.mul_comm (256 ^ w), Nat.mod_mul]
theorem leB_leN : ∀ l : List UInt8, leB l.length (leN l) = l
  | [] => rfl
  | c :: l => by
    have hc := c.toNat_lt
    simp only [List.length_cons, leB, leN]
    have h1 : (c.toNat + 256 * leN l) % 256 = c.toNat := by omega
    have h2 : (c.toNat + 256 * leN l) / 256 = leN l := by omega
    rw [h1, h2, leB_leN l]
    congr 1
    apply UInt8.toNat_inj.1
    rw [UInt8.toNat_ofNat']
    omega
theorem leB_mod : ∀ (w v : Nat), leB w (v % 256 ^ w) = leB w v := fun w v => by
  have h := leB_leN (leB w v)
  rw [leB_len, leN_leB] at h
  exact h
theorem wordsN_len : ∀ (n w : Nat) (l : List UInt8), (wordsN n w l).length = n
  | 0, _, _ => rfl
  | n + 1, w, l => by simp [wordsN, wordsN_len n]
theorem wordsN_snoc : ∀ (n w : Nat) (l : List UInt8), wordsN (n + 1) w l = wordsN n w l ++ [leN ((l.drop (n * w)).take w)]
  | 0, w, l => by simp [wordsN]
  | n + 1, w, l => by
    show leN (l.take w) :: wordsN (n + 1) w (l.drop w) = leN (l.take w) :: (wordsN n w (l.drop w) ++ _)
    rw [wordsN_snoc n w (l.drop w), List.drop_drop]
    rw [show w + n * w = (n + 1) * w by rw [Nat.add_mul]; omega]
theorem wordsN_take : ∀ (n w : Nat) (l : List UInt8), wordsN n w (l.take (n * w)) = wordsN n w l
  | 0, _, _ => rfl
  | n + 1, w, l => by
    have e : (n + 1) * w = w + n * w := by rw [Nat.add_mul]; omega
    simp only [wordsN]
    rw [e, List.take_take, Nat.min_eq_left (by omega), List.drop_take, show w + n * w - w = n * w by omega, wordsN_take n w (l.drop w)]
theorem layW_words : ∀ (n w : Nat) (l : List UInt8), n * w ≤ l.length → layW w (wordsN n w l) = l.take (n * w)
  | 0, w, l, _ => by simp [wordsN, layW]
  | n + 1, w, l, h => by
    have hw : w ≤ l.length := by rw [Nat.add_mul] at h; omega
    show leB w (leN (l.take w)) ++ layW w (wordsN n w (l.drop w)) = _
    have e := leB_leN (l.take w)
    rw [List.length_take, Nat.min_eq_left hw] at e
    rw [e, layW_words n w (l.drop w) (by rw [List.length_drop]; rw [Nat.add_mul] at h; omega)]
    rw [Nat.add_mul, Nat.one_mul, Nat.add_comm (n * w), List.take_add]
theorem words_layW : ∀ (w : Nat) (ws : List Nat) (m : List UInt8), wordsN ws.length w (layW w ws ++ m) = ws.map (· % 256 ^ w)
  | _, [], _ => rfl
  | w, v :: ws, m => by
    show wordsN (ws.length + 1) w ((leB w v ++ layW w ws) ++ m) = _
    have ht : ((leB w v ++ layW w ws) ++ m).take w = leB w v := by
      rw [List.append_assoc, List.take_left' (leB_len w v)]
    have hd : ((leB w v ++ layW w ws) ++ m).drop w = layW w ws ++ m := by
      rw [List.append_assoc, List.drop_left' (leB_len w v)]
    simp only [wordsN, ht, hd, leN_leB, words_layW w ws m, List.map_cons]
theorem layW_len : ∀ (w : Nat) (ws : List Nat), (layW w ws).length = ws.length * w
  | _, [] => by simp [layW]
  | w, v :: ws => by
    show (leB w v ++ layW w ws).length = _
    rw [List.length_append, leB_len, layW_len w ws, List.length_cons, Nat.add_mul]
    omega
theorem layW_snoc (w : Nat) (ws : List Nat) (k : Nat) (h : k < ws.length) : layW w (ws.take (k + 1)) = layW w (ws.take k) ++ leB w ws[k] := by
  unfold layW
  rw [List.take_succ_eq_append_getElem h, List.flatMap_append]
  simp
theorem leB_snoc : ∀ (k v : Nat), leB (k + 1) v = leB k v ++ [UInt8.ofNat (v / 256 ^ k % 256)]
  | 0, v => by simp [leB]
  | k + 1, v => by
    show UInt8.ofNat (v % 256) :: leB (k + 1) (v / 256) = UInt8.ofNat (v % 256) :: (leB k (v / 256) ++ _)
    rw [leB_snoc k (v / 256), Nat.div_div_eq_div_mul, Nat.pow_succ, Nat.mul_comm 256]

/-- Is it a width? -/
def rightB (w : Int) : Bool := w == 1 || w == 2 || w == 4 || w == 8
theorem right_iff (w : Int) : rightB w = true ↔ w = 1 ∨ w = 2 ∨ w = 4 ∨ w = 8 := by
  simp [rightB, or_assoc]
/-- The greatest number of so many bytes. -/
def maskN (w : Int) : Nat := if rightB w then 256 ^ w.toNat - 1 else 0
theorem words_lt (n w : Nat) (l : List UInt8) (hw : w ≤ 8) : ∀ x ∈ wordsN n w l, x < 18446744073709551616 := by
  induction n generalizing l with
  | zero => intro x hx; simp [wordsN] at hx
  | succ n ih =>
    intro x hx
    simp only [wordsN, List.mem_cons] at hx
    rcases hx with rfl | hx
    · have h := leN_lt (l.take w)
      have h2 : 256 ^ (l.take w).length ≤ 256 ^ 8 := Nat.pow_le_pow_right (by decide) (by rw [List.length_take]; omega)
      have h3 : (256 : Nat) ^ 8 = 18446744073709551616 := by decide
      omega
    · exact ih _ x hx
end Go.Proofs.Ytcjjlkfenlmmlaa
namespace Go.Proofs.Ytcjjlkfenlmmlaa
open Go.RowKit

theorem wordRight_any (n : Int) (b : Bool) (hb : b = rightB n) (w : World) :
    Calls Try.prog 41 #[.int .i64 n] w fun e w' => e = .returned (.bool b) ∧ w = w' := by
  by_cases h : n = 1 ∨ n = 2 ∨ n = 4 ∨ n = 8
  · have hb1 : b = true := by rw [hb]; exact (right_iff n).2 h
    subst hb1
    clear hb
    rcases h with rfl | rfl | rfl | rfl
    all_goals
      go_enter Try.func41, Try.ntmps41
      go_wp2
      go_ret
      exact ⟨rfl, rfl⟩
  · have hb0 : b = false := by
      rw [hb]
      cases hr : rightB n with
      | false => rfl
      | true => exact absurd ((right_iff n).1 hr) h
    subst hb0
    have h1 : (n == 1) = false := by rw [beq_eq_false_iff_ne]; omega
    have h2 : (n == 2) = false := by rw [beq_eq_false_iff_ne]; omega
    have h4 : (n == 4) = false := by rw [beq_eq_false_iff_ne]; omega
    have h8 : (n == 8) = false := by rw [beq_eq_false_iff_ne]; omega
    clear hb h
    go_enter Try.func41, Try.ntmps41
    go_wp2
    go_ret
    exact ⟨rfl, rfl⟩
theorem refRight_any (n : Int) (b : Bool) (hb : b = rightB n) (w : World) :
    Calls Try.prog 19 #[.int .i64 n] w fun e w' => e = .returned (.bool b) ∧ w = w' := by
  by_cases h : n = 1 ∨ n = 2 ∨ n = 4 ∨ n = 8
  · have hb1 : b = true := by rw [hb]; exact (right_iff n).2 h
    subst hb1
    clear hb
    rcases h with rfl | rfl | rfl | rfl
    all_goals
      go_enter Try.func19, Try.ntmps19
      go_wp2
      go_ret
      exact ⟨rfl, rfl⟩
  · have hb0 : b = false := by
      rw [hb]
      cases hr : rightB n with
      | false => rfl
      | true => exact absurd ((right_iff n).1 hr) h
    subst hb0
    have h1 : (n == 1) = false := by rw [beq_eq_false_iff_ne]; omega
    have h2 : (n == 2) = false := by rw [beq_eq_false_iff_ne]; omega
    have h4 : (n == 4) = false := by rw [beq_eq_false_iff_ne]; omega
    have h8 : (n == 8) = false := by rw [beq_eq_false_iff_ne]; omega
    clear hb h
    go_enter Try.func19, Try.ntmps19
    go_wp2
    go_ret
    exact ⟨rfl, rfl⟩
end Go.Proofs.Ytcjjlkfenlmmlaa
namespace Go.Proofs.Ytcjjlkfenlmmlaa
open Go.RowKit

/-- Is it a width? -/
def IsW (W : Nat) : Prop := W = 1 ∨ W = 2 ∨ W = 4 ∨ W = 8
theorem IsW.right {W : Nat} (h : IsW W) : true = rightB (W : Int) := by
  rcases h with rfl | rfl | rfl | rfl <;> rfl
theorem isW_of {n : Int} (h : rightB n = true) : ∃ W : Nat, n = (W : Int) ∧ IsW W := by
  rcases (right_iff n).1 h with rfl | rfl | rfl | rfl
  · exact ⟨1, rfl, .inl rfl⟩
  · exact ⟨2, rfl, .inr (.inl rfl)⟩
  · exact ⟨4, rfl, .inr (.inr (.inl rfl))⟩
  · exact ⟨8, rfl, .inr (.inr (.inr rfl))⟩
theorem IsW.pos {W : Nat} (h : IsW W) : 1 ≤ W ∧ W ≤ 8 := by rcases h with rfl | rfl | rfl | rfl <;> omega

theorem info_u64r : (Try.prog.info? 49).map (fun i => (i.zero, i.size, i.bytes)) = some (some (.int .u64 0), 1, 8) := by kernel_rfl
/-- What hands back words in new memory. -/
def NewW (w : World) (ws : List Nat) (e : Ending) (w' : World) : Prop := ∃ v, e = .returned v ∧ IsCells (wvs ws) v w' ∧ Below w.heap.size w w'
/-- Cells, and bytes, in a row that is new: at or above B. -/
def FreshV (B : Nat) (v : Value) : Prop := ∀ p n c, v = .slice (some p) n c → B ≤ p.block
theorem FreshV.nil (B : Nat) : FreshV B (.slice none 0 0) := fun p n c e => by cases e
theorem FreshV.at_ {B g o n c : Nat} (h : B ≤ g) : FreshV B (.slice (some ⟨g, o, none⟩) n c) := fun p n' c' e => by injection e with e; injection e with e; subst e; exact h
theorem FreshV.low {B B' : Nat} {v : Value} (h : FreshV B v) (hB : B' ≤ B) : FreshV B' v := fun p n c e => Nat.le_trans hB (h p n c e)
def FreshC (B : Nat) (xs : List Value) (v : Value) (w : World) : Prop := IsCells xs v w ∧ FreshV B v
theorem FreshC.grow (B : Nat) (xs : List Value) (v : Value) (w w' : World) (h : FreshC B xs v w) (hb : Below w.heap.size w w') : FreshC B xs v w' := ⟨h.1.grow hb, h.2⟩
def NewWF (w : World) (ws : List Nat) (e : Ending) (w' : World) : Prop := ∃ v, e = .returned v ∧ FreshC w.heap.size (wvs ws) v w' ∧ Below w.heap.size w w'
theorem NewWF.w {w : World} {ws : List Nat} {e : Ending} {w' : World} (h : NewWF w ws e w') : NewW w ws e w' := by
  obtain ⟨v, he, h1, h2⟩ := h
  exact ⟨v, he, h1.1, h2⟩
theorem width_of (u : Nat) : ∃ V, IsW V ∧ wrap64 (2 ^ (u % 4)) = (V : Int) := by
  rcases (show u % 4 = 0 ∨ u % 4 = 1 ∨ u % 4 = 2 ∨ u % 4 = 3 by omega) with h | h | h | h <;> rw [h]
  · exact ⟨1, .inl rfl, IntWalk.wrap64_in _ (by decide)⟩
  · exact ⟨2, .inr (.inl rfl), IntWalk.wrap64_in _ (by decide)⟩
  · exact ⟨4, .inr (.inr (.inl rfl)), IntWalk.wrap64_in _ (by decide)⟩
  · exact ⟨8, .inr (.inr (.inr rfl)), IntWalk.wrap64_in _ (by decide)⟩
/-- What hands back bytes in new memory. -/
def NewBs (w : World) (l : List UInt8) (e : Ending) (w' : World) : Prop := ∃ v, e = .returned v ∧ IsBytes l v w' ∧ Below w.heap.size w w'
theorem NewBs.says {w : World} {l : List UInt8} {e : Ending} {w' : World} (h : NewBs w l e w') : ∃ v, e = .returned v ∧ (Fact.bytes l).says v w' ∧ Below w.heap.size w w' := h
end Go.Proofs.Ytcjjlkfenlmmlaa
namespace Go.Proofs.Ytcjjlkfenlmmlaa
open Go.RowKit

/-- What holds at the head of a round of ref.Mask. -/
def MaskRel (W : Nat) (t i : Value) : Prop := ∃ k : Nat, k ≤ W ∧ i = .int .i64 k ∧ t = .int .u64 ((256 ^ k - 1 : Nat) : Int)
theorem mask_step (k W : Nat) (h : k < W) (hW : W ≤ 8) : IntKind.u64.wrap (IntKind.u64.wrap (256 * ((256 ^ k - 1 : Nat) : Int)) + 255) = ((256 ^ (k + 1) - 1 : Nat) : Int) := by
  have h1 : 0 < 256 ^ k := Nat.pow_pos (by decide)
  have h2 : 256 ^ (k + 1) ≤ 256 ^ 8 := Nat.pow_le_pow_right (by decide) (by omega)
  have h3 : (256 : Nat) ^ 8 = 18446744073709551616 := by decide
  rw [h3, Nat.pow_succ] at h2
  rw [Nat.pow_succ, IntKind.wrap_u64, IntKind.wrap_u64]
  generalize 256 ^ k = m at *
  omega

/-- What holds at the head of a round of together: the number of the bytes ahead. -/
def TogRel (K : IntKind) (l : List UInt8) (t i : Value) : Prop := ∃ k : Nat, k ≤ l.length ∧ i = .int .i64 k ∧ t = .int K (leN (l.take k) : Int)


theorem or_join (x y i : Nat) (h1 : x < 2 ^ i) (h2 : y % 2 ^ i = 0) : x ||| y = x + y := by
  rw [Nat.or_comm, nat_join i y x h2 h1, Nat.add_comm]
theorem tog_all (l : List UInt8) (k W : Nat) (h : k < l.length) (hW : l.length ≤ W) :
    leN (l.take k) < 2 ^ (8 * k) ∧ (l[k].toNat * 2 ^ (8 * k)) % 2 ^ (8 * k) = 0 ∧ leN (l.take k) + l[k].toNat * 2 ^ (8 * k) < 256 ^ W ∧ leN (l.take (k + 1)) = leN (l.take k) + l[k].toNat * 2 ^ (8 * k) := by
  have hp : (2 : Nat) ^ (8 * k) = 256 ^ k := by rw [Nat.pow_mul]
  have hl : (l.take k).length = k := by rw [List.length_take]; omega
  have h1 := leN_lt (l.take k)
  rw [hl] at h1
  have e : leN (l.take (k + 1)) = leN (l.take k) + l[k].toNat * 256 ^ k := by
    rw [List.take_succ_eq_append_getElem h, leN_snoc, hl]
  have h2 := leN_lt (l.take (k + 1))
  have h3 : 256 ^ (l.take (k + 1)).length ≤ 256 ^ W := Nat.pow_le_pow_right (by decide) (by rw [List.length_take]; omega)
  rw [hp]
  exact ⟨h1, Nat.mul_mod_left _ _, by omega, e⟩
theorem tog_u8 (l : List UInt8) (k : Nat) (h : k < l.length) (hW : l.length ≤ 1) : bits .or .u8 (leN (l.take k) : Int) ((l[k].toNat : Int) * 2 ^ (8 * k) % 256) = (leN (l.take (k + 1)) : Int) := by
  obtain ⟨h1, h2, h3, h4⟩ := tog_all l k 1 h hW
  have h5 : (256 : Nat) ^ 1 = 256 := by decide
  rw [h5] at h3
  have e : (l[k].toNat : Int) * 2 ^ (8 * k) = ((l[k].toNat * 2 ^ (8 * k) : Nat) : Int) := by simp
  rw [e, h4]
  generalize l[k].toNat * 2 ^ (8 * k) = y at *
  generalize leN (l.take k) = x at *
  have hm : (y : Int) % 256 = (y : Int) := by omega
  rw [hm, u8_or_nat x y (by omega) (by omega), or_join x y (8 * k) h1 h2]
theorem tog_u16 (l : List UInt8) (k : Nat) (h : k < l.length) (hW : l.length ≤ 2) : bits .or .u16 (leN (l.take k) : Int) (IntKind.u16.wrap ((l[k].toNat : Int) * 2 ^ (8 * k))) = (leN (l.take (k + 1)) : Int) := by
  obtain ⟨h1, h2, h3, h4⟩ := tog_all l k 2 h hW
  have h5 : (256 : Nat) ^ 2 = 65536 := by decide
  rw [h5] at h3
  have e : (l[k].toNat : Int) * 2 ^ (8 * k) = ((l[k].toNat * 2 ^ (8 * k) : Nat) : Int) := by simp
  rw [e, h4]
  generalize l[k].toNat * 2 ^ (8 * k) = y at *
  generalize leN (l.take k) = x at *
  have hm : IntKind.u16.wrap (y : Int) = (y : Int) := by rw [IntKind.wrap_u16]; omega
  rw [hm, u16_or_nat x y (by omega) (by omega), or_join x y (8 * k) h1 h2]
theorem tog_u32 (l : List UInt8) (k : Nat) (h : k < l.length) (hW : l.length ≤ 4) : bits .or .u32 (leN (l.take k) : Int) ((l[k].toNat : Int) * 2 ^ (8 * k) % 4294967296) = (leN (l.take (k + 1)) : Int) := by
  obtain ⟨h1, h2, h3, h4⟩ := tog_all l k 4 h hW
  have h5 : (256 : Nat) ^ 4 = 4294967296 := by decide
  rw [h5] at h3
  have e : (l[k].toNat : Int) * 2 ^ (8 * k) = ((l[k].toNat * 2 ^ (8 * k) : Nat) : Int) := by simp
  rw [e, h4]
  generalize l[k].toNat * 2 ^ (8 * k) = y at *
  generalize leN (l.take k) = x at *
  have hm : (y : Int) % 4294967296 = (y : Int) := by omega
  rw [hm, u32_or_nat x y (by omega) (by omega), or_join x y (8 * k) h1 h2]
theorem tog_u64 (l : List UInt8) (k : Nat) (h : k < l.length) (hW : l.length ≤ 8) : bits .or .u64 (leN (l.take k) : Int) (IntKind.u64.wrap ((l[k].toNat : Int) * 2 ^ (8 * k))) = (leN (l.take (k + 1)) : Int) := by
  obtain ⟨h1, h2, h3, h4⟩ := tog_all l k 8 h hW
  have h5 : (256 : Nat) ^ 8 = 18446744073709551616 := by decide
  rw [h5] at h3
  have e : (l[k].toNat : Int) * 2 ^ (8 * k) = ((l[k].toNat * 2 ^ (8 * k) : Nat) : Int) := by simp
  rw [e, h4]
  generalize l[k].toNat * 2 ^ (8 * k) = y at *
  generalize leN (l.take k) = x at *
  have hm : IntKind.u64.wrap (y : Int) = (y : Int) := by rw [IntKind.wrap_u64]; omega
  rw [hm, u64_or_nat x y (by omega) (by omega), or_join x y (8 * k) h1 h2]
end Go.Proofs.Ytcjjlkfenlmmlaa
