/-
  Strings: their bytes as a list; what index, slice, len, == and + come to. General: no code of the project. · Plain mathematics of layer 4: words and their bytes, the lowest first. · Contracts of layer 4: Right, of the code and of the reference. · Words of a width: what the contracts of words say. · Contracts of layer 4: Mask, of the code and of the reference; small laws of numbers put together. · Layer 28: the reference: May. · slices.Clone and bytes.Clone of bytes. General: no code of the project. · Layer 28: the program: Check. · Contracts of layer 3, the functions that reckon with registers: step, ref.Steps, ref.More, ref.Of, ref.Join. · Contracts of layer 3's reference: More, Of, Join.
-/
import Derived.Test.YtjignfnkcbklkaaQ01
import Derived.Test.YtjignfnkcbklkaaQ04
import Derived.Test.YtjignfnkcbklkaaProg
import Derived.Lib.Strings
import Derived.Deep.DeepMust
namespace Go.Proofs.Ytjignfnkcbklkaa
open Go.RowKit

/-- The string of these bytes. -/
def strA (l : List UInt8) : ByteArray := ⟨l.toArray⟩
theorem strA_list (l : List UInt8) : (strA l).toList = l := by rw [ByteArray.toList_eq]; simp [strA]
/-- string(b) of bytes. -/
theorem strOf_run {l : List UInt8} {v : Value} {w : World} (h : IsBytes l v w) : (convert 29 9 v).run Try.prog w = .ok (.string (strA l)) w := by
  obtain ⟨A, c, rfl, hc, hr⟩ := h
  exact run_str w 29 9 5 Try.underlying29 Try.underlying5 Try.underlying9 _ A l c hr _ rfl
theorem strA_extract (l : List UInt8) (f k : Nat) : (strA l).extract f k = strA ((l.drop f).take (k - f)) := by
  rw [Lib.extract_eq]
  simp [strA]
end Go.Proofs.Ytjignfnkcbklkaa
namespace Go.Proofs.Ytjignfnkcbklkaa

/-- The number whose bytes these are, the lowest first. -/
def leN : List UInt8 → Nat
  | [] => 0
  | c :: l => c.toNat + 256 * leN l
/-- The w lowest bytes of a number. -/
def leB : Nat → Nat → List UInt8
  | 0, _ => []
  | w + 1, v => UInt8.ofNat (v % 256) :: leB w (v / 256)
/-- The first n words of w bytes each. -/
def wordsN : Nat → Nat → List UInt8 → List Nat
  | 0, _, _ => []
  | n + 1, w, l => leN (l.take w) :: wordsN n w (l.drop w)
/-- The bytes of words. -/
def layW (w : Nat) (ws : List Nat) : List UInt8 := ws.flatMap (leB w)

theorem leN_lt : ∀ l : List UInt8, leN l < 256 ^ l.length
  | [] => by simp [leN]
  | c :: l => by
    have := leN_lt l
    have hc := c.toNat_lt
    simp only [leN, List.length_cons, Nat.pow_succ]
    omega
theorem leN_append : ∀ l m : List UInt8, leN (l ++ m) = leN l + 256 ^ l.length * leN m
  | [], m => by simp [leN]
  | c :: l, m => by
    simp only [List.cons_append, leN, leN_append l m, List.length_cons, Nat.pow_succ]
    rw [Nat.mul_add, ← Nat.mul_assoc, Nat.mul_comm 256 (256 ^ l.length)]
    omega
theorem leN_snoc (l : List UInt8) (c : UInt8) : leN (l ++ [c]) = leN l + c.toNat * 256 ^ l.length := by
  rw [leN_append]
  simp [leN, Nat.mul_comm]
theorem wordsN_len : ∀ (n w : Nat) (l : List UInt8), (wordsN n w l).length = n
  | 0, _, _ => rfl
  | n + 1, w, l => by simp [wordsN, wordsN_len n]
theorem wordsN_snoc : ∀ (n w : Nat) (l : List UInt8), wordsN (n + 1) w l = wordsN n w l ++ [leN ((l.drop (n * w)).take w)]
  | 0, w, l => by simp [wordsN]
  | n + 1, w, l => by
    show leN (l.take w) :: wordsN (n + 1) w (l.drop w) = leN (l.take w) :: (wordsN n w (l.drop w) ++ _)
    rw [wordsN_snoc n w (l.drop w), List.drop_drop]
    rw [show w + n * w = (n + 1) * w by rw [Nat.add_mul]; omega]
theorem wordsN_take : ∀ (n w : Nat) (l : List UInt8), wordsN n w (l.take (n * w)) = wordsN n w l
  | 0, _, _ => rfl
  | n + 1, w, l => by
    have e : (n + 1) * w = w + n * w := by rw [Nat.add_mul]; omega
    simp only [wordsN]
    rw [e, List.take_take, Nat.min_eq_left (by omega), List.drop_take, show w + n * w - w = n * w by omega, wordsN_take n w (l.drop w)]
theorem layW_snoc (w : Nat) (ws : List Nat) (k : Nat) (h : k < ws.length) : layW w (ws.take (k + 1)) = layW w (ws.take k) ++ leB w ws[k] := by
  unfold layW
  rw [List.take_succ_eq_append_getElem h, List.flatMap_append]
  simp
theorem leB_snoc : ∀ (k v : Nat), leB (k + 1) v = leB k v ++ [UInt8.ofNat (v / 256 ^ k % 256)]
  | 0, v => by simp [leB]
  | k + 1, v => by
    show UInt8.ofNat (v % 256) :: leB (k + 1) (v / 256) = UInt8.ofNat (v % 256) :: (leB k (v / 256) ++ _)
    rw [leB_snoc k (v / 256), Nat.div_div_eq_div_mul, Nat.pow_succ, Nat.mul_comm 256]

/-- Is it a width? -/
def rightB (w : Int) : Bool := w == 1 || w == 2 || w == 4 || w == 8
theorem right_iff (w : Int) : rightB w = true ↔ w = 1 ∨ w = 2 ∨ w = 4 ∨ w = 8 := by
  simp [rightB, or_assoc]
end Go.Proofs.Ytjignfnkcbklkaa
namespace Go.Proofs.Ytjignfnkcbklkaa
open Go.RowKit

theorem wordRight_any (n : Int) (b : Bool) (hb : b = rightB n) (w : World) :
    Calls Try.prog 41 #[.int .i64 n] w fun e w' => e = .returned (.bool b) ∧ w = w' := by
  by_cases h : n = 1 ∨ n = 2 ∨ n = 4 ∨ n = 8
  · have hb1 : b = true := by rw [hb]; exact (right_iff n).2 h
    subst hb1
    clear hb
    rcases h with rfl | rfl | rfl | rfl
    all_goals
      go_enter Try.func41, Try.ntmps41
      go_wp2
      go_ret
      exact ⟨rfl, rfl⟩
  · have hb0 : b = false := by
      rw [hb]
      cases hr : rightB n with
      | false => rfl
      | true => exact absurd ((right_iff n).1 hr) h
    subst hb0
    have h1 : (n == 1) = false := by rw [beq_eq_false_iff_ne]; omega
    have h2 : (n == 2) = false := by rw [beq_eq_false_iff_ne]; omega
    have h4 : (n == 4) = false := by rw [beq_eq_false_iff_ne]; omega
    have h8 : (n == 8) = false := by rw [beq_eq_false_iff_ne]; omega
    clear hb h
    go_enter Try.func41, Try.ntmps41
    go_wp2
    go_ret
    exact ⟨rfl, rfl⟩
theorem refRight_any (n : Int) (b : Bool) (hb : b = rightB n) (w : World) :
    Calls Try.prog 30 #[.int .i64 n] w fun e w' => e = .returned (.bool b) ∧ w = w' := by
  by_cases h : n = 1 ∨ n = 2 ∨ n = 4 ∨ n = 8
  · have hb1 : b = true := by rw [hb]; exact (right_iff n).2 h
    subst hb1
    clear hb
    rcases h with rfl | rfl | rfl | rfl
    all_goals
      go_enter Try.func30, Try.ntmps30
      go_wp2
      go_ret
      exact ⟨rfl, rfl⟩
  · have hb0 : b = false := by
      rw [hb]
      cases hr : rightB n with
      | false => rfl
      | true => exact absurd ((right_iff n).1 hr) h
    subst hb0
    have h1 : (n == 1) = false := by rw [beq_eq_false_iff_ne]; omega
    have h2 : (n == 2) = false := by rw [beq_eq_false_iff_ne]; omega
    have h4 : (n == 4) = false := by rw [beq_eq_false_iff_ne]; omega
    have h8 : (n == 8) = false := by rw [beq_eq_false_iff_ne]; omega
    clear hb h
    go_enter Try.func30, Try.ntmps30
    go_wp2
    go_ret
    exact ⟨rfl, rfl⟩
end Go.Proofs.Ytjignfnkcbklkaa
namespace Go.Proofs.Ytjignfnkcbklkaa
open Go.RowKit

/-- Is it a width? -/
def IsW (W : Nat) : Prop := W = 1 ∨ W = 2 ∨ W = 4 ∨ W = 8
theorem IsW.right {W : Nat} (h : IsW W) : true = rightB (W : Int) := by
  rcases h with rfl | rfl | rfl | rfl <;> rfl
theorem isW_of {n : Int} (h : rightB n = true) : ∃ W : Nat, n = (W : Int) ∧ IsW W := by
  rcases (right_iff n).1 h with rfl | rfl | rfl | rfl
  · exact ⟨1, rfl, .inl rfl⟩
  · exact ⟨2, rfl, .inr (.inl rfl)⟩
  · exact ⟨4, rfl, .inr (.inr (.inl rfl))⟩
  · exact ⟨8, rfl, .inr (.inr (.inr rfl))⟩
theorem IsW.pos {W : Nat} (h : IsW W) : 1 ≤ W ∧ W ≤ 8 := by rcases h with rfl | rfl | rfl | rfl <;> omega

theorem info_u64r : (Try.prog.info? 59).map (fun i => (i.zero, i.size, i.bytes)) = some (some (.int .u64 0), 1, 8) := by kernel_rfl
/-- Cells, and bytes, in a row that is new: at or above B. -/
def FreshV (B : Nat) (v : Value) : Prop := ∀ p n c, v = .slice (some p) n c → B ≤ p.block
theorem FreshV.nil (B : Nat) : FreshV B (.slice none 0 0) := fun p n c e => by cases e
theorem FreshV.at_ {B g o n c : Nat} (h : B ≤ g) : FreshV B (.slice (some ⟨g, o, none⟩) n c) := fun p n' c' e => by injection e with e; injection e with e; subst e; exact h
theorem FreshV.low {B B' : Nat} {v : Value} (h : FreshV B v) (hB : B' ≤ B) : FreshV B' v := fun p n c e => Nat.le_trans hB (h p n c e)
def FreshC (B : Nat) (xs : List Value) (v : Value) (w : World) : Prop := IsCells xs v w ∧ FreshV B v
theorem FreshC.grow (B : Nat) (xs : List Value) (v : Value) (w w' : World) (h : FreshC B xs v w) (hb : Below w.heap.size w w') : FreshC B xs v w' := ⟨h.1.grow hb, h.2⟩
def NewWF (w : World) (ws : List Nat) (e : Ending) (w' : World) : Prop := ∃ v, e = .returned v ∧ FreshC w.heap.size (wvs ws) v w' ∧ Below w.heap.size w w'
/-- What hands back bytes in new memory. -/
def NewBs (w : World) (l : List UInt8) (e : Ending) (w' : World) : Prop := ∃ v, e = .returned v ∧ IsBytes l v w' ∧ Below w.heap.size w w'
theorem NewBs.says {w : World} {l : List UInt8} {e : Ending} {w' : World} (h : NewBs w l e w') : ∃ v, e = .returned v ∧ (Fact.bytes l).says v w' ∧ Below w.heap.size w w' := h
end Go.Proofs.Ytjignfnkcbklkaa
namespace Go.Proofs.Ytjignfnkcbklkaa
open Go.RowKit

/-- What holds at the head of a round of together: the number of the bytes ahead. -/
def TogRel (K : IntKind) (l : List UInt8) (t i : Value) : Prop := ∃ k : Nat, k ≤ l.length ∧ i = .int .i64 k ∧ t = .int K (leN (l.take k) : Int)


theorem or_join (x y i : Nat) (h1 : x < 2 ^ i) (h2 : y % 2 ^ i = 0) : x ||| y = x + y := by
  rw [Nat.or_comm, nat_join i y x h2 h1, Nat.add_comm]
theorem tog_all (l : List UInt8) (k W : Nat) (h : k < l.length) (hW : l.length ≤ W) :
    leN (l.take k) < 2 ^ (8 * k) ∧ (l[k].toNat * 2 ^ (8 * k)) % 2 ^ (8 * k) = 0 ∧ leN (l.take k) + l[k].toNat * 2 ^ (8 * k) < 256 ^ W ∧ leN (l.take (k + 1)) = leN (l.take k) + l[k].toNat * 2 ^ (8 * k) := by
  have hp : (2 : Nat) ^ (8 * k) = 256 ^ k := by rw [Nat.pow_mul]
  have hl : (l.take k).length = k := by rw [List.length_take]; omega
  have h1 := leN_lt (l.take k)
  rw [hl] at h1
  have e : leN (l.take (k + 1)) = leN (l.take k) + l[k].toNat * 256 ^ k := by
    rw [List.take_succ_eq_append_getElem h, leN_snoc, hl]
  have h2 := leN_lt (l.take (k + 1))
  have h3 : 256 ^ (l.take (k + 1)).length ≤ 256 ^ W := Nat.pow_le_pow_right (by decide) (by rw [List.length_take]; omega)
  rw [hp]
  exact ⟨h1, Nat.mul_mod_left _ _, by omega, e⟩
theorem tog_u8 (l : List UInt8) (k : Nat) (h : k < l.length) (hW : l.length ≤ 1) : bits .or .u8 (leN (l.take k) : Int) ((l[k].toNat : Int) * 2 ^ (8 * k) % 256) = (leN (l.take (k + 1)) : Int) := by
  obtain ⟨h1, h2, h3, h4⟩ := tog_all l k 1 h hW
  have h5 : (256 : Nat) ^ 1 = 256 := by decide
  rw [h5] at h3
  have e : (l[k].toNat : Int) * 2 ^ (8 * k) = ((l[k].toNat * 2 ^ (8 * k) : Nat) : Int) := by simp
  rw [e, h4]
  generalize l[k].toNat * 2 ^ (8 * k) = y at *
  generalize leN (l.take k) = x at *
  have hm : (y : Int) % 256 = (y : Int) := by omega
  rw [hm, u8_or_nat x y (by omega) (by omega), or_join x y (8 * k) h1 h2]
theorem tog_u16 (l : List UInt8) (k : Nat) (h : k < l.length) (hW : l.length ≤ 2) : bits .or .u16 (leN (l.take k) : Int) (IntKind.u16.wrap ((l[k].toNat : Int) * 2 ^ (8 * k))) = (leN (l.take (k + 1)) : Int) := by
  obtain ⟨h1, h2, h3, h4⟩ := tog_all l k 2 h hW
  have h5 : (256 : Nat) ^ 2 = 65536 := by decide
  rw [h5] at h3
  have e : (l[k].toNat : Int) * 2 ^ (8 * k) = ((l[k].toNat * 2 ^ (8 * k) : Nat) : Int) := by simp
  rw [e, h4]
  generalize l[k].toNat * 2 ^ (8 * k) = y at *
  generalize leN (l.take k) = x at *
  have hm : IntKind.u16.wrap (y : Int) = (y : Int) := by rw [IntKind.wrap_u16]; omega
  rw [hm, u16_or_nat x y (by omega) (by omega), or_join x y (8 * k) h1 h2]
theorem tog_u32 (l : List UInt8) (k : Nat) (h : k < l.length) (hW : l.length ≤ 4) : bits .or .u32 (leN (l.take k) : Int) ((l[k].toNat : Int) * 2 ^ (8 * k) % 4294967296) = (leN (l.take (k + 1)) : Int) := by
  obtain ⟨h1, h2, h3, h4⟩ := tog_all l k 4 h hW
  have h5 : (256 : Nat) ^ 4 = 4294967296 := by decide
  rw [h5] at h3
  have e : (l[k].toNat : Int) * 2 ^ (8 * k) = ((l[k].toNat * 2 ^ (8 * k) : Nat) : Int) := by simp
  rw [e, h4]
  generalize l[k].toNat * 2 ^ (8 * k) = y at *
  generalize leN (l.take k) = x at *
  have hm : (y : Int) % 4294967296 = (y : Int) := by omega
  rw [hm, u32_or_nat x y (by omega) (by omega), or_join x y (8 * k) h1 h2]
theorem tog_u64 (l : List UInt8) (k : Nat) (h : k < l.length) (hW : l.length ≤ 8) : bits .or .u64 (leN (l.take k) : Int) (IntKind.u64.wrap ((l[k].toNat : Int) * 2 ^ (8 * k))) = (leN (l.take (k + 1)) : Int) := by
  obtain ⟨h1, h2, h3, h4⟩ := tog_all l k 8 h hW
  have h5 : (256 : Nat) ^ 8 = 18446744073709551616 := by decide
  rw [h5] at h3
  have e : (l[k].toNat : Int) * 2 ^ (8 * k) = ((l[k].toNat * 2 ^ (8 * k) : Nat) : Int) := by simp
  rw [e, h4]
  generalize l[k].toNat * 2 ^ (8 * k) = y at *
  generalize leN (l.take k) = x at *
  have hm : IntKind.u64.wrap (y : Int) = (y : Int) := by rw [IntKind.wrap_u64]; omega
  rw [hm, u64_or_nat x y (by omega) (by omega), or_join x y (8 * k) h1 h2]
end Go.Proofs.Ytjignfnkcbklkaa
namespace Go.Proofs.Ytjignfnkcbklkaa
open Go.RowKit

/-- Options, as a value. -/
def optV (b w r m : Int) : Value := .agg #[.int .i64 b, .int .i64 w, .int .i64 r, .int .i64 m]
def mayO (b w r m : Int) : Bool := decide (1 ≤ b) && decide (b ≤ 16777216) && rightB w && decide (0 ≤ r) && decide (r ≤ 10) && decide (0 ≤ m) && decide (m ≤ 6)
theorem ret_b {a b : Bool} (h : a = b) : Ending.returned (.bool a) = .returned (.bool b) := by rw [h]
set_option maxRecDepth 100000 in
set_option maxHeartbeats 2000000 in
theorem refMay_any (b w r m : Int) (W : World) : Calls Try.prog 15 #[optV b w r m] W fun e w' => e = .returned (.bool (mayO b w r m)) ∧ Below W.heap.size W w' := by
  unfold optV mayO
  cases hR : rightB w with
  | false =>
    have CR := Lib.hid (refRight_any w false hR.symm)
    clear hR
    go_enter Try.func15, Try.ntmps15
    go_wp2_with (go_at_call 30; go_must (refine (CR.out _).mono ?_; rintro e w' ⟨rfl, hw⟩; subst hw))
    all_goals
      go_ret
      exact ⟨ret_b (by simp), (Below.refl _ _).alloc (Nat.le_refl _) _⟩
  | true =>
    have CR := Lib.hid (refRight_any w true hR.symm)
    clear hR
    go_enter Try.func15, Try.ntmps15
    go_wp2_with (go_at_call 30; go_must (refine (CR.out _).mono ?_; rintro e w' ⟨rfl, hw⟩; subst hw))
    all_goals
      go_ret
      refine ⟨ret_b ?_, (Below.refl _ _).alloc (Nat.le_refl _) _⟩
      first
        | (simp; done)
        | (simp; omega)
        | (simp; intros; omega)
theorem size_opt : (Try.prog.info? 23).map (·.size) = some 4 := by kernel_rfl
theorem mayO_nat {b u r m : Int} (h : mayO b u r m = true) : ∃ b' u' r' m' : Nat, b = (b' : Int) ∧ u = (u' : Int) ∧ r = (r' : Int) ∧ m = (m' : Int) ∧ 1 ≤ b' ∧ b' ≤ 16777216 ∧ IsW u' ∧ r' ≤ 10 ∧ m' ≤ 6 := by
  unfold mayO at h
  simp only [Bool.and_eq_true, decide_eq_true_eq] at h
  obtain ⟨⟨⟨⟨⟨⟨h1, h2⟩, h3⟩, h4⟩, h5⟩, h6⟩, h7⟩ := h
  obtain ⟨V, rfl, hV⟩ := isW_of h3
  exact ⟨b.toNat, V, r.toNat, m.toNat, by omega, rfl, by omega, by omega, by omega, by omega, hV, by omega, by omega⟩
end Go.Proofs.Ytjignfnkcbklkaa
namespace Go.Proofs.Ytjignfnkcbklkaa
open Go.RowKit

theorem info_u8' : (Try.prog.info? 5).map (fun i => (i.zero, i.size, i.bytes)) = some (some (.int .u8 0), 1, 1) := by kernel_rfl
/-- What hands back the bytes l in new memory. -/
def NewBy (w : World) (l : List UInt8) (e : Ending) (w' : World) : Prop :=
  ∃ v, e = .returned v ∧ w'.ownsRow w.heap.size 5 1 v l.length (bvs l) ∧ Below w.heap.size w w'

theorem run_eq_nil {P : Program} (w : World) (t e : TypeId) (a : Option Addr) (n c : Nat) (h : P.underlying t = some (.slice e)) :
    (binOp .eql t (.slice a n c) (.slice none 0 0)).run P w = .ok (.bool a.isNone) w := by
  simp only [binOp]
  simp [Op.equal, Op.maxDepth, Lib.run_equalIn_slice_nil w 9999 t e a n c 0 0 h]

set_option maxHeartbeats 1000000 in
/-- bytes.Clone has the same text. -/
theorem bcloneB_any (A : Option Addr) (n c : Nat) (l : List UInt8) (w : World) (hr : Rd w w.heap.size A (bvs l)) (hn : l.length = n) (hn1 : n ≤ 140737488355000) :
    Calls Try.prog 20 #[.slice A n c] w (NewBy w l) := by
  cases A with
  | none =>
    have hl : l = [] := by
      cases l with
      | nil => rfl
      | cons a r => obtain ⟨_, _, e, _⟩ := hr 0 _ (bvs_get (a :: r) 0 (by simp)); cases e
    subst hl
    obtain rfl : 0 = n := by simpa using hn
    have heq : (binOp .eql 29 (.slice none 0 c) (.slice none 0 0)).run Try.prog w = .ok (.bool true) w := run_eq_nil w _ _ none 0 c Try.underlying29
    go_enter Try.func20, Try.ntmps20
    go_wp2
    go_ret
    exact ⟨_, rfl, World.ownsRow_nil _ _ _ _, Below.refl _ _⟩
  | some a =>
    obtain ⟨i0, hi, hz0, hz1, hz2⟩ := info_parts info_u8'
    have hcl : (bvs l).length = n * 1 := by rw [bvs_length, hn, Nat.mul_one]
    have HCL := Lib.hid hcl
    have HN := Lib.hid hn
    clear hcl hn
    have heq : (binOp .eql 29 (.slice (some a) n c) (.slice none 0 0)).run Try.prog w = .ok (.bool false) w := run_eq_nil w _ _ (some a) n c Try.underlying29
    go_enter Try.func20, Try.ntmps20
    go_wp2_with (at_builtin; go_must (refine wpList_app rfl (.tmp 5) (.tmp 6) 29 rfl w.heap.size 5 i0 (.int .u8 0) 1 1 Try.underlying29 hi hz0 hz1 hz2 rfl (by decide) _ 0 [] rfl (World.ownsRow_made w #[] 0 (Nat.le_refl _) (Nat.zero_le _) rfl) w.heap.size _ n _ (bvs l) rfl (hr.alloc (Nat.le_refl _) _) HCL.out (bvs_one _) (by simp only [maxLen]; omega) (by omega) (by simp) ?_; intro v2 w2 hown2 hg2; rw [Nat.zero_add, List.nil_append] at hown2; have hb2 : Below w.heap.size w w2 := ((Below.refl _ _).alloc (Nat.le_refl _) _).grown hg2 (by simp) (own_block (World.ownsRow_made (e := 5) (size := 1) w #[] 0 (Nat.le_refl _) (Nat.zero_le _) rfl))))
    go_ret
    exact ⟨_, rfl, by rw [HN.out]; exact hown2, hb2⟩
end Go.Proofs.Ytjignfnkcbklkaa
namespace Go.Proofs.Ytjignfnkcbklkaa
open Go.RowKit

def chkE (b w r m : Int) : Int := if mayO b w r m = true then 0 else 10
theorem ret_i {a b : Int} (h : a = b) : Ending.returned (.int .i64 a) = .returned (.int .i64 b) := by rw [h]
theorem may_lo {b w r m : Int} (h : b < 1 ∨ 16777216 < b ∨ r < 0 ∨ 11 ≤ r ∨ m < 0 ∨ 6 < m) : chkE b w r m = 10 := by
  unfold chkE
  rw [if_neg]
  unfold mayO
  intro hc
  simp only [Bool.and_eq_true, decide_eq_true_eq] at hc
  omega
theorem may_hi {b w r m : Int} (hR : rightB w = true) (h : 1 ≤ b ∧ b ≤ 16777216 ∧ 0 ≤ r ∧ r < 11 ∧ 0 ≤ m ∧ m ≤ 6) : chkE b w r m = 0 := by
  unfold chkE
  rw [if_pos]
  unfold mayO
  simp only [Bool.and_eq_true, decide_eq_true_eq]
  exact ⟨⟨⟨⟨⟨⟨h.1, h.2.1⟩, hR⟩, h.2.2.1⟩, by omega⟩, h.2.2.2.2.1⟩, h.2.2.2.2.2⟩
theorem may_w {b w r m : Int} (hR : rightB w = false) : chkE b w r m = 10 := by
  unfold chkE
  rw [if_neg]
  unfold mayO
  rw [hR]
  simp
set_option maxRecDepth 100000 in
set_option maxHeartbeats 2000000 in
theorem optCheck_any (b w r m : Int) (W : World) : Calls Try.prog 24 #[optV b w r m] W fun e w' => e = .returned (.int .i64 (chkE b w r m)) ∧ Below W.heap.size W w' := by
  obtain ⟨c, hc⟩ : ∃ c, c = chkE b w r m := ⟨_, rfl⟩
  rw [← hc]
  unfold optV
  cases hR : rightB w with
  | false =>
    have CR := Lib.hid (wordRight_any w false hR.symm)
    have e1 := may_w (b := b) (r := r) (m := m) hR
    rw [e1] at hc
    subst hc
    clear hR e1
    go_enter Try.func24, Try.ntmps24
    go_wp2_with (go_at_call 41; go_must (refine (CR.out _).mono ?_; rintro e w' ⟨rfl, hw⟩; subst hw))
    all_goals
      go_ret
      exact ⟨rfl, (Below.refl _ _).alloc (Nat.le_refl _) _⟩
  | true =>
    have CR := Lib.hid (wordRight_any w true hR.symm)
    have HLO := Lib.hid (fun h => hc.trans (may_lo (b := b) (w := w) (r := r) (m := m) h))
    have HHI := Lib.hid (fun h => hc.trans (may_hi (b := b) (r := r) (m := m) hR h))
    clear hR hc
    go_enter Try.func24, Try.ntmps24
    go_wp2_with (go_at_call 41; go_must (refine (CR.out _).mono ?_; rintro e w' ⟨rfl, hw⟩; subst hw))
    all_goals
      go_ret
      refine ⟨ret_i ?_, (Below.refl _ _).alloc (Nat.le_refl _) _⟩
      first
        | exact (HLO.out (by omega)).symm
        | exact (HHI.out (by omega)).symm
end Go.Proofs.Ytjignfnkcbklkaa
namespace Go.Proofs.Ytjignfnkcbklkaa
open Go.RowKit

theorem xor_u32 (a b : BitVec 32) : bits .xor .u32 (a.toNat : Int) (b.toNat : Int) = ((a ^^^ b).toNat : Int) := by
  rw [u32_xor_nat a.toNat b.toNat a.isLt b.isLt, BitVec.toNat_xor]
theorem lsb_mod (r : BitVec 32) : r.getLsbD 0 = decide (r.toNat % 2 = 1) := by
  rw [← BitVec.testBit_toNat, Nat.testBit_zero]
theorem and1_u32 (r : BitVec 32) : bits .and .u32 (r.toNat : Int) 1 = if r.getLsbD 0 then 1 else 0 := by
  rw [show (1 : Int) = ((1 : Nat) : Int) from rfl, u32_and_nat r.toNat 1 r.isLt (by decide), lsb_mod, Nat.and_one_is_mod]
  by_cases h : r.toNat % 2 = 1
  · simp [h]
  · have : r.toNat % 2 = 0 := by omega
    simp [this]
theorem half_u32 (r : BitVec 32) : (r.toNat : Int) / (2 : Int) = ((r >>> 1).toNat : Int) := by
  rw [BitVec.toNat_ushiftRight, Nat.shiftRight_eq_div_pow]; omega
theorem step_odd (r : BitVec 32) (h : r.getLsbD 0 = true) : bits .xor .u32 ((r.toNat : Int) / (2 : Int)) 3988292384 = ((step r).toNat : Int) := by
  have e : (3988292384 : Int) = (poly.toNat : Int) := by decide
  rw [half_u32, e, xor_u32]
  unfold step
  rw [h, if_pos rfl]
theorem step_even (r : BitVec 32) (h : r.getLsbD 0 = false) : (r.toNat : Int) / (2 : Int) = ((step r).toNat : Int) := by
  rw [half_u32]
  unfold step
  rw [h]
  rfl

set_option maxHeartbeats 400000 in
theorem crcStep_any (r : BitVec 32) (w : World) :
    Calls Try.prog 54 #[.int .u32 (r.toNat : Int)] w fun e w' => e = .returned (.int .u32 ((step r).toNat : Int)) ∧ w = w' := by
  have ha := and1_u32 r
  have hlt : (r.toNat : Int) ≤ 4294967295 := by have := r.isLt; omega
  cases hb : r.getLsbD 0 with
  | true =>
    have ht : (bits .and .u32 (r.toNat : Int) 1 == 1) = true := by rw [ha, hb]; rfl
    have HB := Lib.hid hb
    clear ha hb
    go_enter Try.func54, Try.ntmps54
    go_wp2
    go_ret
    exact ⟨ret_int (step_odd r HB.out), rfl⟩
  | false =>
    have ht : (bits .and .u32 (r.toNat : Int) 1 == 1) = false := by rw [ha, hb]; rfl
    have HB := Lib.hid hb
    clear ha hb
    go_enter Try.func54, Try.ntmps54
    go_wp2
    go_ret
    exact ⟨ret_int (step_even r HB.out), rfl⟩

/-- What holds at the head of a round of ref.Steps: so many steps are done. -/
def StepsRel (n : Nat) (F : BitVec 32) (t i : Value) : Prop := ∃ (k : Nat) (x : BitVec 32), k ≤ n ∧ t = .int .u32 (x.toNat : Int) ∧ i = .int .i64 k ∧ Hid (steps (n - k) x = F)
theorem StepsRel.next {n k : Nat} {x F : BitVec 32} (h : Hid (steps (n - k) x = F)) (hk : k < n) : Hid (steps (n - (k + 1)) (step x) = F) := by
  have := h.out
  rw [show n - k = (n - (k + 1)) + 1 by omega] at this
  exact this

set_option maxHeartbeats 400000 in
theorem refSteps_any (r : BitVec 32) (n : Nat) (w : World) (hn : n ≤ 9223372036854775807) :
    Calls Try.prog 57 #[.int .u32 (r.toNat : Int), .int .i64 n] w fun e w' => e = .returned (.int .u32 ((steps n r).toNat : Int)) ∧ w = w' := by
  obtain ⟨F, hF⟩ : ∃ F, F = steps n r := ⟨_, rfl⟩
  rw [← hF]
  have HF : Hid (steps (n - 0) r = F) := hF.symm
  clear hF
  go_enter Try.func57, Try.ntmps57
  go_wp2
  go_loop [0, 5] (StepsRel n F) (fun _ i => n - (intOf i).toNat)
  case atStart => exact ⟨0, r, Nat.zero_le _, rfl, rfl, HF⟩
  case round =>
    obtain ⟨k, x, hk, rfl, rfl, Hrel⟩ := hrel
    have hx0 : (0 : Int) ≤ (x.toNat : Int) := by omega
    have hx1 : (x.toNat : Int) ≤ 4294967295 := by have := x.isLt; omega
    by_cases hlt : k < n
    · have Hn := StepsRel.next Hrel hlt
      clear Hrel
      cases hb : x.getLsbD 0 with
      | true =>
        have hs := step_odd x hb
        have ht : ((x.toNat : Int) % 2 == 1) = true := by
          rw [lsb_mod] at hb; simp only [decide_eq_true_eq] at hb; rw [beq_iff_eq]; omega
        have HS := Lib.hid hs
        clear hs hb
        go_wp2
        go_round
        case rel => exact ⟨k + 1, step x, by omega, by rw [HS.out], by go_num, Hn⟩
        case measure => simp [intOf]; omega
      | false =>
        have hs := step_even x hb
        have ht : ((x.toNat : Int) % 2 == 1) = false := by
          rw [lsb_mod] at hb; simp only [decide_eq_false_iff_not] at hb; rw [beq_eq_false_iff_ne]; omega
        have HS := Lib.hid hs
        clear hs hb
        go_wp2
        go_round
        case rel => exact ⟨k + 1, step x, by omega, by rw [HS.out], by go_num, Hn⟩
        case measure => simp [intOf]; omega
    · obtain rfl : k = n := by omega
      have HF' : Hid (x = F) := by have := Hrel.out; rwa [Nat.sub_self] at this
      clear Hrel
      go_wp2
      go_ret
      exact ⟨ret_int (by rw [HF'.out]), rfl⟩
end Go.Proofs.Ytjignfnkcbklkaa
namespace Go.Proofs.Ytjignfnkcbklkaa
open Go.RowKit

theorem not_u32 (r : BitVec 32) : bits .xor .u32 IntKind.u32.max (r.toNat : Int) = ((~~~ r).toNat : Int) := by
  have e : IntKind.u32.max = ((BitVec.allOnes 32).toNat : Int) := by decide
  rw [e, xor_u32, BitVec.allOnes_xor]
theorem u32_plain : IntKind.u32.signed = false := rfl
theorem xor_byte (r : BitVec 32) (c : UInt8) : bits .xor .u32 (r.toNat : Int) (c.toNat : Int) = ((r ^^^ BitVec.ofNat 32 c.toNat).toNat : Int) := by
  have h := c.toNat_lt
  have e : (c.toNat : Int) = ((BitVec.ofNat 32 c.toNat).toNat : Int) := by rw [BitVec.toNat_ofNat]; omega
  rw [e, xor_u32]

/-- What holds at the head of a round: the register of the bytes ahead. -/
def MoreRel (l : List UInt8) (r0 : BitVec 32) (t i : Value) : Prop := ∃ k : Nat, k ≤ l.length ∧ i = .int .i64 k ∧ t = .int .u32 ((reg r0 (l.take k)).toNat : Int)
theorem reg_snoc (r : BitVec 32) (l : List UInt8) (k : Nat) (h : k < l.length) : reg r (l.take (k + 1)) = steps 8 (reg r (l.take k) ^^^ BitVec.ofNat 32 l[k].toNat) := by
  rw [List.take_succ_eq_append_getElem h, reg_append]
  rfl

set_option maxHeartbeats 400000 in
theorem refMore_any (s : BitVec 32) (A : Option Addr) (n c : Nat) (l : List UInt8) (w : World) (hr : Rd w w.heap.size A (bvs l)) (hn : l.length = n) (hn1 : n ≤ 9223372036854775807) :
    Calls Try.prog 48 #[.int .u32 (s.toNat : Int), .slice A n c] w fun e w' => e = .returned (.int .u32 ((more s l).toNat : Int)) ∧ w = w' := by
  subst hn
  have hnot := not_u32 s
  have hsg := u32_plain
  obtain ⟨M, hM⟩ : ∃ M, M = more s l := ⟨_, rfl⟩
  rw [← hM]
  obtain ⟨q, hq⟩ : ∃ q, q = ~~~ s := ⟨_, rfl⟩
  rw [← hq] at hnot
  unfold more at hM
  rw [← hq] at hM
  have HM := Lib.hid hM
  clear hM hq
  go_enter Try.func48, Try.ntmps48
  go_wp2
  go_loop [5, 6] (MoreRel l q) (fun _ i => l.length - (intOf i).toNat)
  case atStart => exact ⟨0, Nat.zero_le _, rfl, rfl⟩
  case round =>
    obtain ⟨k, hk, rfl, rfl⟩ := hrel
    clear hnot
    by_cases hlt : k < l.length
    · obtain ⟨ab, ao, rfl, _, hcell⟩ := hr k _ (bvs_get l k hlt)
      have hsn := reg_snoc q l k hlt
      obtain ⟨x, hx⟩ : ∃ x, x = reg q (l.take k) := ⟨_, rfl⟩
      obtain ⟨b, hb⟩ : ∃ b, b = l[k] := ⟨_, rfl⟩
      rw [← hb] at hcell
      rw [← hx, ← hb] at hsn
      rw [← hx]
      obtain ⟨y, hy⟩ : ∃ y, y = x ^^^ BitVec.ofNat 32 b.toNat := ⟨_, rfl⟩
      have hxor := xor_byte x b
      rw [← hy] at hxor hsn
      have HSN := Lib.hid hsn
      have hb255 : (b.toNat : Int) ≤ 255 := by have := b.toNat_lt; omega
      have hb0 : 0 ≤ (b.toNat : Int) := by omega
      have c1 := fun W => refSteps_any y 8 W (by omega)
      have C1 := Lib.hid c1
      clear hsn hx hb hy c1
      go_wp2_with (go_at_call 57; go_must (refine (C1.out _).mono ?_; rintro e w' ⟨rfl, rfl⟩))
      clear hxor
      go_round
      case rel => exact ⟨k + 1, by omega, by go_num, by rw [HSN.out]⟩
      case measure => simp [intOf]; omega
    · obtain rfl : k = l.length := by omega
      rw [List.take_length]
      obtain ⟨x, hx⟩ : ∃ x, x = reg q l := ⟨_, rfl⟩
      have hm : M = ~~~ x := by rw [HM.out, hx]
      rw [← hx]
      have hnot := not_u32 x
      rw [← hm] at hnot
      clear hx hm
      go_wp2
      go_ret
      exact ⟨rfl, rfl⟩

theorem refOf_any (A : Option Addr) (n c : Nat) (l : List UInt8) (w : World) (hr : Rd w w.heap.size A (bvs l)) (hn : l.length = n) (hn1 : n ≤ 9223372036854775807) :
    Calls Try.prog 33 #[.slice A n c] w fun e w' => e = .returned (.int .u32 ((crcOf l).toNat : Int)) ∧ w = w' := by
  have c1 := refMore_any 0#32 A n c l w hr hn hn1
  have C1 := Lib.hid c1
  clear c1 hn
  go_enter Try.func33, Try.ntmps33
  go_wp2_with (go_at_call 48; go_must (refine C1.out.mono ?_; rintro e w' ⟨rfl, rfl⟩))
  go_ret
  exact ⟨rfl, rfl⟩

end Go.Proofs.Ytjignfnkcbklkaa
