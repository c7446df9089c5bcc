/-
  Strings: their bytes as a list; what index, slice, len, == and + come to. General: no code of the project. · Plain mathematics of layer 4: words and their bytes, the lowest first. · Contracts of layer 4: Right, of the code and of the reference. · Words of a width: what the contracts of words say. · Contracts of layer 4: Mask, of the code and of the reference; small laws of numbers put together. · Layer 28: the reference: May. · slices.Clone and bytes.Clone of bytes. General: no code of the project. · Layer 28: the program: Check. · Contracts of layer 3, the functions that reckon with registers: step, ref.Steps, ref.More, ref.Of, ref.Join. · Contracts of layer 3's reference: More, Of, Join. · Contracts of layer 4: together and row, at each type of numbers.
-/
import Derived.Test.YtjignfnkcbklkaaQ01
import Derived.Test.YtjignfnkcbklkaaQ04
import Derived.Test.YtjignfnkcbklkaaProg
import Derived.Lib.Strings
import Derived.Deep.DeepMust
namespace Go.Proofs.Ytjignfnkcbklkaa
open Go.RowKit

/-- The string of these bytes. -/
def strA (l : List UInt8) : ByteArray := ⟨l.toArray⟩
theorem strA_list (l : List UInt8) : (strA l).toList = l := by rw [ByteArray.toList_eq]; simp [strA]
/-- string(b) of bytes. -/
theorem strOf_run {l : List UInt8} {v : Value} {w : World} (h : IsBytes l v w) : (convert 29 9 v).run Try.prog w = .ok (.string (strA l)) w := by
  obtain ⟨A, c, rfl, hc, hr⟩ := h
  exact run_str w 29 9 5 Try.underlying29 Try.underlying5 Try.underlying9 _ A l c hr _ rfl
theorem strA_extract (l : List UInt8) (f k : Nat) : (strA l).extract f k = strA ((l.drop f).take (k - f)) := by
  rw [Lib.extract_eq]
  simp [strA]
end Go.Proofs.Ytjignfnkcbklkaa
namespace Go.Proofs.Ytjignfnkcbklkaa

/-- The number whose bytes these are, the lowest first. -/
def leN : List UInt8 → Nat
  | [] => 0
  | c :: l => c.toNat + 256 * leN l
/-- The w lowest bytes of a number. -/
def leB : Nat → Nat → List UInt8
  | 0, _ => []
  | w + 1, v => UInt8.ofNat (v % 256) :: leB w (v / 256)
/-- The first n words of w bytes each. -/
def wordsN : Nat → Nat → List UInt8 → List Nat
  | 0, _, _ => []
  | n + 1, w, l => leN (l.take w) :: wordsN n w (l.drop w)
/-- The bytes of words. -/
def layW (w : Nat) (ws : List Nat) : List UInt8 := ws.flatMap (leB w)

theorem leN_lt : ∀ l : List UInt8, leN l < 256 ^ l.length
  | [] => by simp [leN]
  | c :: l => by
    have := leN_lt l
    have hc := c.toNat_lt
    simp only [leN, List.length_cons, Nat.pow_succ]
    omega
theorem leN_append : ∀ l m : List UInt8, leN (l ++ m) = leN l + 256 ^ l.length * leN m
  | [], m => by simp [leN]
  | c :: l, m => by
    simp only [List.cons_append, leN, leN_append l m, List.length_cons, Nat.pow_succ]
    rw [Nat.mul_add, ← Nat.mul_assoc, Nat.mul_comm 256 (256 ^ l.length)]
    omega
theorem leN_snoc (l : List UInt8) (c : UInt8) : leN (l ++ [c]) = leN l + c.toNat * 256 ^ l.length := by
  rw [leN_append]
  simp [leN, Nat.mul_comm]
theorem wordsN_len : ∀ (n w : Nat) (l : List UInt8), (wordsN n w l).length = n
  | 0, _, _ => rfl
  | n + 1, w, l => by simp [wordsN, wordsN_len n]
theorem wordsN_snoc : ∀ (n w : Nat) (l : List UInt8), wordsN (n + 1) w l = wordsN n w l ++ [leN ((l.drop (n * w)).take w)]
  | 0, w, l => by simp [wordsN]
  | n + 1, w, l => by
    show leN (l.take w) :: wordsN (n + 1) w (l.drop w) = leN (l.take w) :: (wordsN n w (l.drop w) ++ _)
    rw [wordsN_snoc n w (l.drop w), List.drop_drop]
    rw [show w + n * w = (n + 1) * w by rw [Nat.add_mul]; omega]
theorem wordsN_take : ∀ (n w : Nat) (l : List UInt8), wordsN n w (l.take (n * w)) = wordsN n w l
  | 0, _, _ => rfl
  | n + 1, w, l => by
    have e : (n + 1) * w = w + n * w := by rw [Nat.add_mul]; omega
    simp only [wordsN]
    rw [e, List.take_take, Nat.min_eq_left (by omega), List.drop_take, show w + n * w - w = n * w by omega, wordsN_take n w (l.drop w)]
theorem layW_snoc (w : Nat) (ws : List Nat) (k : Nat) (h : k < ws.length) : layW w (ws.take (k + 1)) = layW w (ws.take k) ++ leB w ws[k] := by
  unfold layW
  rw [List.take_succ_eq_append_getElem h, List.flatMap_append]
  simp
theorem leB_snoc : ∀ (k v : Nat), leB (k + 1) v = leB k v ++ [UInt8.ofNat (v / 256 ^ k % 256)]
  | 0, v => by simp [leB]
  | k + 1, v => by
    show UInt8.ofNat (v % 256) :: leB (k + 1) (v / 256) = UInt8.ofNat (v % 256) :: (leB k (v / 256) ++ _)
    rw [leB_snoc k (v / 256), Nat.div_div_eq_div_mul, Nat.pow_succ, Nat.mul_comm 256]

/-- Is it a width? -/
def rightB (w : Int) : Bool := w == 1 || w == 2 || w == 4 || w == 8
theorem right_iff (w : Int) : rightB w = true ↔ w = 1 ∨ w = 2 ∨ w = 4 ∨ w = 8 := by
  simp [rightB, or_assoc]
end Go.Proofs.Ytjignfnkcbklkaa
namespace Go.Proofs.Ytjignfnkcbklkaa
open Go.RowKit

theorem wordRight_any (n : Int) (b : Bool) (hb : b = rightB n) (w : World) :
    Calls Try.prog 41 #[.int .i64 n] w fun e w' => e = .returned (.bool b) ∧ w = w' := by
  by_cases h : n = 1 ∨ n = 2 ∨ n = 4 ∨ n = 8
  · have hb1 : b = true := by rw [hb]; exact (right_iff n).2 h
    subst hb1
    clear hb
    rcases h with rfl | rfl | rfl | rfl
    all_goals
      go_enter Try.func41, Try.ntmps41
      go_wp2
      go_ret
      exact ⟨rfl, rfl⟩
  · have hb0 : b = false := by
      rw [hb]
      cases hr : rightB n with
      | false => rfl
      | true => exact absurd ((right_iff n).1 hr) h
    subst hb0
    have h1 : (n == 1) = false := by rw [beq_eq_false_iff_ne]; omega
    have h2 : (n == 2) = false := by rw [beq_eq_false_iff_ne]; omega
    have h4 : (n == 4) = false := by rw [beq_eq_false_iff_ne]; omega
    have h8 : (n == 8) = false := by rw [beq_eq_false_iff_ne]; omega
    clear hb h
    go_enter Try.func41, Try.ntmps41
    go_wp2
    go_ret
    exact ⟨rfl, rfl⟩
end Go.Proofs.Ytjignfnkcbklkaa
namespace Go.Proofs.Ytjignfnkcbklkaa
open Go.RowKit

/-- Is it a width? -/
def IsW (W : Nat) : Prop := W = 1 ∨ W = 2 ∨ W = 4 ∨ W = 8
theorem IsW.right {W : Nat} (h : IsW W) : true = rightB (W : Int) := by
  rcases h with rfl | rfl | rfl | rfl <;> rfl
theorem isW_of {n : Int} (h : rightB n = true) : ∃ W : Nat, n = (W : Int) ∧ IsW W := by
  rcases (right_iff n).1 h with rfl | rfl | rfl | rfl
  · exact ⟨1, rfl, .inl rfl⟩
  · exact ⟨2, rfl, .inr (.inl rfl)⟩
  · exact ⟨4, rfl, .inr (.inr (.inl rfl))⟩
  · exact ⟨8, rfl, .inr (.inr (.inr rfl))⟩
theorem IsW.pos {W : Nat} (h : IsW W) : 1 ≤ W ∧ W ≤ 8 := by rcases h with rfl | rfl | rfl | rfl <;> omega

theorem info_u64r : (Try.prog.info? 59).map (fun i => (i.zero, i.size, i.bytes)) = some (some (.int .u64 0), 1, 8) := by kernel_rfl
/-- Cells, and bytes, in a row that is new: at or above B. -/
def FreshV (B : Nat) (v : Value) : Prop := ∀ p n c, v = .slice (some p) n c → B ≤ p.block
theorem FreshV.nil (B : Nat) : FreshV B (.slice none 0 0) := fun p n c e => by cases e
theorem FreshV.at_ {B g o n c : Nat} (h : B ≤ g) : FreshV B (.slice (some ⟨g, o, none⟩) n c) := fun p n' c' e => by injection e with e; injection e with e; subst e; exact h
theorem FreshV.low {B B' : Nat} {v : Value} (h : FreshV B v) (hB : B' ≤ B) : FreshV B' v := fun p n c e => Nat.le_trans hB (h p n c e)
def FreshC (B : Nat) (xs : List Value) (v : Value) (w : World) : Prop := IsCells xs v w ∧ FreshV B v
theorem FreshC.grow (B : Nat) (xs : List Value) (v : Value) (w w' : World) (h : FreshC B xs v w) (hb : Below w.heap.size w w') : FreshC B xs v w' := ⟨h.1.grow hb, h.2⟩
def NewWF (w : World) (ws : List Nat) (e : Ending) (w' : World) : Prop := ∃ v, e = .returned v ∧ FreshC w.heap.size (wvs ws) v w' ∧ Below w.heap.size w w'
/-- What hands back bytes in new memory. -/
def NewBs (w : World) (l : List UInt8) (e : Ending) (w' : World) : Prop := ∃ v, e = .returned v ∧ IsBytes l v w' ∧ Below w.heap.size w w'
theorem NewBs.says {w : World} {l : List UInt8} {e : Ending} {w' : World} (h : NewBs w l e w') : ∃ v, e = .returned v ∧ (Fact.bytes l).says v w' ∧ Below w.heap.size w w' := h
end Go.Proofs.Ytjignfnkcbklkaa
namespace Go.Proofs.Ytjignfnkcbklkaa
open Go.RowKit

/-- What holds at the head of a round of together: the number of the bytes ahead. -/
def TogRel (K : IntKind) (l : List UInt8) (t i : Value) : Prop := ∃ k : Nat, k ≤ l.length ∧ i = .int .i64 k ∧ t = .int K (leN (l.take k) : Int)


theorem or_join (x y i : Nat) (h1 : x < 2 ^ i) (h2 : y % 2 ^ i = 0) : x ||| y = x + y := by
  rw [Nat.or_comm, nat_join i y x h2 h1, Nat.add_comm]
theorem tog_all (l : List UInt8) (k W : Nat) (h : k < l.length) (hW : l.length ≤ W) :
    leN (l.take k) < 2 ^ (8 * k) ∧ (l[k].toNat * 2 ^ (8 * k)) % 2 ^ (8 * k) = 0 ∧ leN (l.take k) + l[k].toNat * 2 ^ (8 * k) < 256 ^ W ∧ leN (l.take (k + 1)) = leN (l.take k) + l[k].toNat * 2 ^ (8 * k) := by
  have hp : (2 : Nat) ^ (8 * k) = 256 ^ k := by rw [Nat.pow_mul]
  have hl : (l.take k).length = k := by rw [List.length_take]; omega
  have h1 := leN_lt (l.take k)
  rw [hl] at h1
  have e : leN (l.take (k + 1)) = leN (l.take k) + l[k].toNat * 256 ^ k := by
    rw [List.take_succ_eq_append_getElem h, leN_snoc, hl]
  have h2 := leN_lt (l.take (k + 1))
  have h3 : 256 ^ (l.take (k + 1)).length ≤ 256 ^ W := Nat.pow_le_pow_right (by decide) (by rw [List.length_take]; omega)
  rw [hp]
  exact ⟨h1, Nat.mul_mod_left _ _, by omega, e⟩
theorem tog_u8 (l : List UInt8) (k : Nat) (h : k < l.length) (hW : l.length ≤ 1) : bits .or .u8 (leN (l.take k) : Int) ((l[k].toNat : Int) * 2 ^ (8 * k) % 256) = (leN (l.take (k + 1)) : Int) := by
  obtain ⟨h1, h2, h3, h4⟩ := tog_all l k 1 h hW
  have h5 : (256 : Nat) ^ 1 = 256 := by decide
  rw [h5] at h3
  have e : (l[k].toNat : Int) * 2 ^ (8 * k) = ((l[k].toNat * 2 ^ (8 * k) : Nat) : Int) := by simp
  rw [e, h4]
  generalize l[k].toNat * 2 ^ (8 * k) = y at *
  generalize leN (l.take k) = x at *
  have hm : (y : Int) % 256 = (y : Int) := by omega
  rw [hm, u8_or_nat x y (by omega) (by omega), or_join x y (8 * k) h1 h2]
theorem tog_u16 (l : List UInt8) (k : Nat) (h : k < l.length) (hW : l.length ≤ 2) : bits .or .u16 (leN (l.take k) : Int) (IntKind.u16.wrap ((l[k].toNat : Int) * 2 ^ (8 * k))) = (leN (l.take (k + 1)) : Int) := by
  obtain ⟨h1, h2, h3, h4⟩ := tog_all l k 2 h hW
  have h5 : (256 : Nat) ^ 2 = 65536 := by decide
  rw [h5] at h3
  have e : (l[k].toNat : Int) * 2 ^ (8 * k) = ((l[k].toNat * 2 ^ (8 * k) : Nat) : Int) := by simp
  rw [e, h4]
  generalize l[k].toNat * 2 ^ (8 * k) = y at *
  generalize leN (l.take k) = x at *
  have hm : IntKind.u16.wrap (y : Int) = (y : Int) := by rw [IntKind.wrap_u16]; omega
  rw [hm, u16_or_nat x y (by omega) (by omega), or_join x y (8 * k) h1 h2]
theorem tog_u32 (l : List UInt8) (k : Nat) (h : k < l.length) (hW : l.length ≤ 4) : bits .or .u32 (leN (l.take k) : Int) ((l[k].toNat : Int) * 2 ^ (8 * k) % 4294967296) = (leN (l.take (k + 1)) : Int) := by
  obtain ⟨h1, h2, h3, h4⟩ := tog_all l k 4 h hW
  have h5 : (256 : Nat) ^ 4 = 4294967296 := by decide
  rw [h5] at h3
  have e : (l[k].toNat : Int) * 2 ^ (8 * k) = ((l[k].toNat * 2 ^ (8 * k) : Nat) : Int) := by simp
  rw [e, h4]
  generalize l[k].toNat * 2 ^ (8 * k) = y at *
  generalize leN (l.take k) = x at *
  have hm : (y : Int) % 4294967296 = (y : Int) := by omega
  rw [hm, u32_or_nat x y (by omega) (by omega), or_join x y (8 * k) h1 h2]
theorem tog_u64 (l : List UInt8) (k : Nat) (h : k < l.length) (hW : l.length ≤ 8) : bits .or .u64 (leN (l.take k) : Int) (IntKind.u64.wrap ((l[k].toNat : Int) * 2 ^ (8 * k))) = (leN (l.take (k + 1)) : Int) := by
  obtain ⟨h1, h2, h3, h4⟩ := tog_all l k 8 h hW
  have h5 : (256 : Nat) ^ 8 = 18446744073709551616 := by decide
  rw [h5] at h3
  have e : (l[k].toNat : Int) * 2 ^ (8 * k) = ((l[k].toNat * 2 ^ (8 * k) : Nat) : Int) := by simp
  rw [e, h4]
  generalize l[k].toNat * 2 ^ (8 * k) = y at *
  generalize leN (l.take k) = x at *
  have hm : IntKind.u64.wrap (y : Int) = (y : Int) := by rw [IntKind.wrap_u64]; omega
  rw [hm, u64_or_nat x y (by omega) (by omega), or_join x y (8 * k) h1 h2]
end Go.Proofs.Ytjignfnkcbklkaa
namespace Go.Proofs.Ytjignfnkcbklkaa
open Go.RowKit

/-- Options, as a value. -/
def optV (b w r m : Int) : Value := .agg #[.int .i64 b, .int .i64 w, .int .i64 r, .int .i64 m]
def mayO (b w r m : Int) : Bool := decide (1 ≤ b) && decide (b ≤ 16777216) && rightB w && decide (0 ≤ r) && decide (r ≤ 10) && decide (0 ≤ m) && decide (m ≤ 6)
theorem size_opt : (Try.prog.info? 23).map (·.size) = some 4 := by kernel_rfl
theorem mayO_nat {b u r m : Int} (h : mayO b u r m = true) : ∃ b' u' r' m' : Nat, b = (b' : Int) ∧ u = (u' : Int) ∧ r = (r' : Int) ∧ m = (m' : Int) ∧ 1 ≤ b' ∧ b' ≤ 16777216 ∧ IsW u' ∧ r' ≤ 10 ∧ m' ≤ 6 := by
  unfold mayO at h
  simp only [Bool.and_eq_true, decide_eq_true_eq] at h
  obtain ⟨⟨⟨⟨⟨⟨h1, h2⟩, h3⟩, h4⟩, h5⟩, h6⟩, h7⟩ := h
  obtain ⟨V, rfl, hV⟩ := isW_of h3
  exact ⟨b.toNat, V, r.toNat, m.toNat, by omega, rfl, by omega, by omega, by omega, by omega, hV, by omega, by omega⟩
end Go.Proofs.Ytjignfnkcbklkaa
namespace Go.Proofs.Ytjignfnkcbklkaa
open Go.RowKit

theorem info_u8' : (Try.prog.info? 5).map (fun i => (i.zero, i.size, i.bytes)) = some (some (.int .u8 0), 1, 1) := by kernel_rfl
/-- What hands back the bytes l in new memory. -/
def NewBy (w : World) (l : List UInt8) (e : Ending) (w' : World) : Prop :=
  ∃ v, e = .returned v ∧ w'.ownsRow w.heap.size 5 1 v l.length (bvs l) ∧ Below w.heap.size w w'

theorem run_eq_nil {P : Program} (w : World) (t e : TypeId) (a : Option Addr) (n c : Nat) (h : P.underlying t = some (.slice e)) :
    (binOp .eql t (.slice a n c) (.slice none 0 0)).run P w = .ok (.bool a.isNone) w := by
  simp only [binOp]
  simp [Op.equal, Op.maxDepth, Lib.run_equalIn_slice_nil w 9999 t e a n c 0 0 h]

set_option maxHeartbeats 1000000 in
/-- bytes.Clone has the same text. -/
theorem bcloneB_any (A : Option Addr) (n c : Nat) (l : List UInt8) (w : World) (hr : Rd w w.heap.size A (bvs l)) (hn : l.length = n) (hn1 : n ≤ 140737488355000) :
    Calls Try.prog 20 #[.slice A n c] w (NewBy w l) := by
  cases A with
  | none =>
    have hl : l = [] := by
      cases l with
      | nil => rfl
      | cons a r => obtain ⟨_, _, e, _⟩ := hr 0 _ (bvs_get (a :: r) 0 (by simp)); cases e
    subst hl
    obtain rfl : 0 = n := by simpa using hn
    have heq : (binOp .eql 29 (.slice none 0 c) (.slice none 0 0)).run Try.prog w = .ok (.bool true) w := run_eq_nil w _ _ none 0 c Try.underlying29
    go_enter Try.func20, Try.ntmps20
    go_wp2
    go_ret
    exact ⟨_, rfl, World.ownsRow_nil _ _ _ _, Below.refl _ _⟩
  | some a =>
    obtain ⟨i0, hi, hz0, hz1, hz2⟩ := info_parts info_u8'
    have hcl : (bvs l).length = n * 1 := by rw [bvs_length, hn, Nat.mul_one]
    have HCL := Lib.hid hcl
    have HN := Lib.hid hn
    clear hcl hn
    have heq : (binOp .eql 29 (.slice (some a) n c) (.slice none 0 0)).run Try.prog w = .ok (.bool false) w := run_eq_nil w _ _ (some a) n c Try.underlying29
    go_enter Try.func20, Try.ntmps20
    go_wp2_with (at_builtin; go_must (refine wpList_app rfl (.tmp 5) (.tmp 6) 29 rfl w.heap.size 5 i0 (.int .u8 0) 1 1 Try.underlying29 hi hz0 hz1 hz2 rfl (by decide) _ 0 [] rfl (World.ownsRow_made w #[] 0 (Nat.le_refl _) (Nat.zero_le _) rfl) w.heap.size _ n _ (bvs l) rfl (hr.alloc (Nat.le_refl _) _) HCL.out (bvs_one _) (by simp only [maxLen]; omega) (by omega) (by simp) ?_; intro v2 w2 hown2 hg2; rw [Nat.zero_add, List.nil_append] at hown2; have hb2 : Below w.heap.size w w2 := ((Below.refl _ _).alloc (Nat.le_refl _) _).grown hg2 (by simp) (own_block (World.ownsRow_made (e := 5) (size := 1) w #[] 0 (Nat.le_refl _) (Nat.zero_le _) rfl))))
    go_ret
    exact ⟨_, rfl, by rw [HN.out]; exact hown2, hb2⟩
end Go.Proofs.Ytjignfnkcbklkaa
namespace Go.Proofs.Ytjignfnkcbklkaa
open Go.RowKit

def chkE (b w r m : Int) : Int := if mayO b w r m = true then 0 else 10
theorem ret_i {a b : Int} (h : a = b) : Ending.returned (.int .i64 a) = .returned (.int .i64 b) := by rw [h]
theorem may_lo {b w r m : Int} (h : b < 1 ∨ 16777216 < b ∨ r < 0 ∨ 11 ≤ r ∨ m < 0 ∨ 6 < m) : chkE b w r m = 10 := by
  unfold chkE
  rw [if_neg]
  unfold mayO
  intro hc
  simp only [Bool.and_eq_true, decide_eq_true_eq] at hc
  omega
theorem may_hi {b w r m : Int} (hR : rightB w = true) (h : 1 ≤ b ∧ b ≤ 16777216 ∧ 0 ≤ r ∧ r < 11 ∧ 0 ≤ m ∧ m ≤ 6) : chkE b w r m = 0 := by
  unfold chkE
  rw [if_pos]
  unfold mayO
  simp only [Bool.and_eq_true, decide_eq_true_eq]
  exact ⟨⟨⟨⟨⟨⟨h.1, h.2.1⟩, hR⟩, h.2.2.1⟩, by omega⟩, h.2.2.2.2.1⟩, h.2.2.2.2.2⟩
theorem may_w {b w r m : Int} (hR : rightB w = false) : chkE b w r m = 10 := by
  unfold chkE
  rw [if_neg]
  unfold mayO
  rw [hR]
  simp
set_option maxRecDepth 100000 in
set_option maxHeartbeats 2000000 in
theorem optCheck_any (b w r m : Int) (W : World) : Calls Try.prog 24 #[optV b w r m] W fun e w' => e = .returned (.int .i64 (chkE b w r m)) ∧ Below W.heap.size W w' := by
  obtain ⟨c, hc⟩ : ∃ c, c = chkE b w r m := ⟨_, rfl⟩
  rw [← hc]
  unfold optV
  cases hR : rightB w with
  | false =>
    have CR := Lib.hid (wordRight_any w false hR.symm)
    have e1 := may_w (b := b) (r := r) (m := m) hR
    rw [e1] at hc
    subst hc
    clear hR e1
    go_enter Try.func24, Try.ntmps24
    go_wp2_with (go_at_call 41; go_must (refine (CR.out _).mono ?_; rintro e w' ⟨rfl, hw⟩; subst hw))
    all_goals
      go_ret
      exact ⟨rfl, (Below.refl _ _).alloc (Nat.le_refl _) _⟩
  | true =>
    have CR := Lib.hid (wordRight_any w true hR.symm)
    have HLO := Lib.hid (fun h => hc.trans (may_lo (b := b) (w := w) (r := r) (m := m) h))
    have HHI := Lib.hid (fun h => hc.trans (may_hi (b := b) (r := r) (m := m) hR h))
    clear hR hc
    go_enter Try.func24, Try.ntmps24
    go_wp2_with (go_at_call 41; go_must (refine (CR.out _).mono ?_; rintro e w' ⟨rfl, hw⟩; subst hw))
    all_goals
      go_ret
      refine ⟨ret_i ?_, (Below.refl _ _).alloc (Nat.le_refl _) _⟩
      first
        | exact (HLO.out (by omega)).symm
        | exact (HHI.out (by omega)).symm
end Go.Proofs.Ytjignfnkcbklkaa
namespace Go.Proofs.Ytjignfnkcbklkaa
open Go.RowKit

theorem xor_u32 (a b : BitVec 32) : bits .xor .u32 (a.toNat : Int) (b.toNat : Int) = ((a ^^^ b).toNat : Int) := by
  rw [u32_xor_nat a.toNat b.toNat a.isLt b.isLt, BitVec.toNat_xor]
theorem lsb_mod (r : BitVec 32) : r.getLsbD 0 = decide (r.toNat % 2 = 1) := by
  rw [← BitVec.testBit_toNat, Nat.testBit_zero]
theorem and1_u32 (r : BitVec 32) : bits .and .u32 (r.toNat : Int) 1 = if r.getLsbD 0 then 1 else 0 := by
  rw [show (1 : Int) = ((1 : Nat) : Int) from rfl, u32_and_nat r.toNat 1 r.isLt (by decide), lsb_mod, Nat.and_one_is_mod]
  by_cases h : r.toNat % 2 = 1
  · simp [h]
  · have : r.toNat % 2 = 0 := by omega
    simp [this]
theorem half_u32 (r : BitVec 32) : (r.toNat : Int) / (2 : Int) = ((r >>> 1).toNat : Int) := by
  rw [BitVec.toNat_ushiftRight, Nat.shiftRight_eq_div_pow]; omega
theorem step_odd (r : BitVec 32) (h : r.getLsbD 0 = true) : bits .xor .u32 ((r.toNat : Int) / (2 : Int)) 3988292384 = ((step r).toNat : Int) := by
  have e : (3988292384 : Int) = (poly.toNat : Int) := by decide
  rw [half_u32, e, xor_u32]
  unfold step
  rw [h, if_pos rfl]
theorem step_even (r : BitVec 32) (h : r.getLsbD 0 = false) : (r.toNat : Int) / (2 : Int) = ((step r).toNat : Int) := by
  rw [half_u32]
  unfold step
  rw [h]
  rfl

set_option maxHeartbeats 400000 in
theorem crcStep_any (r : BitVec 32) (w : World) :
    Calls Try.prog 54 #[.int .u32 (r.toNat : Int)] w fun e w' => e = .returned (.int .u32 ((step r).toNat : Int)) ∧ w = w' := by
  have ha := and1_u32 r
  have hlt : (r.toNat : Int) ≤ 4294967295 := by have := r.isLt; omega
  cases hb : r.getLsbD 0 with
  | true =>
    have ht : (bits .and .u32 (r.toNat : Int) 1 == 1) = true := by rw [ha, hb]; rfl
    have HB := Lib.hid hb
    clear ha hb
    go_enter Try.func54, Try.ntmps54
    go_wp2
    go_ret
    exact ⟨ret_int (step_odd r HB.out), rfl⟩
  | false =>
    have ht : (bits .and .u32 (r.toNat : Int) 1 == 1) = false := by rw [ha, hb]; rfl
    have HB := Lib.hid hb
    clear ha hb
    go_enter Try.func54, Try.ntmps54
    go_wp2
    go_ret
    exact ⟨ret_int (step_even r HB.out), rfl⟩

/-- What holds at the head of a round of ref.Steps: so many steps are done. -/
def StepsRel (n : Nat) (F : BitVec 32) (t i : Value) : Prop := ∃ (k : Nat) (x : BitVec 32), k ≤ n ∧ t = .int .u32 (x.toNat : Int) ∧ i = .int .i64 k ∧ Hid (steps (n - k) x = F)
theorem StepsRel.next {n k : Nat} {x F : BitVec 32} (h : Hid (steps (n - k) x = F)) (hk : k < n) : Hid (steps (n - (k + 1)) (step x) = F) := by
  have := h.out
  rw [show n - k = (n - (k + 1)) + 1 by omega] at this
  exact this

end Go.Proofs.Ytjignfnkcbklkaa
namespace Go.Proofs.Ytjignfnkcbklkaa
open Go.RowKit

theorem not_u32 (r : BitVec 32) : bits .xor .u32 IntKind.u32.max (r.toNat : Int) = ((~~~ r).toNat : Int) := by
  have e : IntKind.u32.max = ((BitVec.allOnes 32).toNat : Int) := by decide
  rw [e, xor_u32, BitVec.allOnes_xor]
theorem u32_plain : IntKind.u32.signed = false := rfl
/-- What holds at the head of a round: the register of the bytes ahead. -/
def MoreRel (l : List UInt8) (r0 : BitVec 32) (t i : Value) : Prop := ∃ k : Nat, k ≤ l.length ∧ i = .int .i64 k ∧ t = .int .u32 ((reg r0 (l.take k)).toNat : Int)
theorem reg_snoc (r : BitVec 32) (l : List UInt8) (k : Nat) (h : k < l.length) : reg r (l.take (k + 1)) = steps 8 (reg r (l.take k) ^^^ BitVec.ofNat 32 l[k].toNat) := by
  rw [List.take_succ_eq_append_getElem h, reg_append]
  rfl

end Go.Proofs.Ytjignfnkcbklkaa
namespace Go.Proofs.Ytjignfnkcbklkaa
open Go.RowKit

set_option maxHeartbeats 400000 in
theorem together_u8 (A : Option Addr) (n c : Nat) (l : List UInt8) (w : World) (hr : Rd w w.heap.size A (bvs l)) (hn : l.length = n) (hW : n = 1) :
    Calls Try.prog 66 #[.slice A n c] w fun e w' => e = .returned (.int .u8 (leN l : Int)) ∧ w = w' := by
  subst hn
  have hW' : (l.length : Int) = 1 := by omega
  have hl1 : (l.length : Int) ≤ 1 := by omega
  have hl0 : (1 : Int) ≤ (l.length : Int) := by omega
  clear hW'
  have HW := Lib.hid hW
  clear hW
  go_enter Try.func66, Try.ntmps66
  go_wp2
  go_loop [3, 8] (TogRel .u8 l) (fun _ i => l.length - (intOf i).toNat)
  case atStart => exact ⟨0, Nat.zero_le _, rfl, rfl⟩
  case round =>
    obtain ⟨k, hk, rfl, rfl⟩ := hrel
    by_cases hlt : k < l.length
    · obtain ⟨ab, ao, rfl, _, hcell⟩ := hr k _ (bvs_get l k hlt)
      have hstep := tog_u8 l k hlt (by have := HW.out; omega)
      obtain ⟨b, hb⟩ : ∃ b, b = l[k] := ⟨_, rfl⟩
      rw [← hb] at hcell hstep
      have hb8 := b.toNat_lt
      have hb0 : (0 : Int) ≤ (b.toNat : Int) := by omega
      have hb255 : (b.toNat : Int) ≤ 255 := by omega
      have HS := Lib.hid hstep
      clear hb hb8 hstep
      go_wp2
      go_round
      case rel => exact ⟨k + 1, by omega, by go_num, by rw [← HS.out]⟩
      case measure => simp [intOf]; omega
    · obtain rfl : k = l.length := by omega
      rw [List.take_length]
      go_wp2
      go_ret
      exact ⟨rfl, rfl⟩

set_option maxHeartbeats 400000 in
theorem together_u16 (A : Option Addr) (n c : Nat) (l : List UInt8) (w : World) (hr : Rd w w.heap.size A (bvs l)) (hn : l.length = n) (hW : n = 2) :
    Calls Try.prog 67 #[.slice A n c] w fun e w' => e = .returned (.int .u16 (leN l : Int)) ∧ w = w' := by
  subst hn
  have hW' : (l.length : Int) = 2 := by omega
  have hl1 : (l.length : Int) ≤ 2 := by omega
  have hl0 : (1 : Int) ≤ (l.length : Int) := by omega
  clear hW'
  have HW := Lib.hid hW
  clear hW
  go_enter Try.func67, Try.ntmps67
  go_wp2
  go_loop [3, 8] (TogRel .u16 l) (fun _ i => l.length - (intOf i).toNat)
  case atStart => exact ⟨0, Nat.zero_le _, rfl, rfl⟩
  case round =>
    obtain ⟨k, hk, rfl, rfl⟩ := hrel
    by_cases hlt : k < l.length
    · obtain ⟨ab, ao, rfl, _, hcell⟩ := hr k _ (bvs_get l k hlt)
      have hstep := tog_u16 l k hlt (by have := HW.out; omega)
      obtain ⟨b, hb⟩ : ∃ b, b = l[k] := ⟨_, rfl⟩
      rw [← hb] at hcell hstep
      have hb8 := b.toNat_lt
      have hb0 : (0 : Int) ≤ (b.toNat : Int) := by omega
      have hb255 : (b.toNat : Int) ≤ 255 := by omega
      have HS := Lib.hid hstep
      clear hb hb8 hstep
      go_wp2
      go_round
      case rel => exact ⟨k + 1, by omega, by go_num, by rw [← HS.out]⟩
      case measure => simp [intOf]; omega
    · obtain rfl : k = l.length := by omega
      rw [List.take_length]
      go_wp2
      go_ret
      exact ⟨rfl, rfl⟩

set_option maxHeartbeats 400000 in
theorem together_u32 (A : Option Addr) (n c : Nat) (l : List UInt8) (w : World) (hr : Rd w w.heap.size A (bvs l)) (hn : l.length = n) (hW : n = 4) :
    Calls Try.prog 68 #[.slice A n c] w fun e w' => e = .returned (.int .u32 (leN l : Int)) ∧ w = w' := by
  subst hn
  have hW' : (l.length : Int) = 4 := by omega
  have hl1 : (l.length : Int) ≤ 4 := by omega
  have hl0 : (1 : Int) ≤ (l.length : Int) := by omega
  clear hW'
  have HW := Lib.hid hW
  clear hW
  go_enter Try.func68, Try.ntmps68
  go_wp2
  go_loop [3, 8] (TogRel .u32 l) (fun _ i => l.length - (intOf i).toNat)
  case atStart => exact ⟨0, Nat.zero_le _, rfl, rfl⟩
  case round =>
    obtain ⟨k, hk, rfl, rfl⟩ := hrel
    by_cases hlt : k < l.length
    · obtain ⟨ab, ao, rfl, _, hcell⟩ := hr k _ (bvs_get l k hlt)
      have hstep := tog_u32 l k hlt (by have := HW.out; omega)
      obtain ⟨b, hb⟩ : ∃ b, b = l[k] := ⟨_, rfl⟩
      rw [← hb] at hcell hstep
      have hb8 := b.toNat_lt
      have hb0 : (0 : Int) ≤ (b.toNat : Int) := by omega
      have hb255 : (b.toNat : Int) ≤ 255 := by omega
      have HS := Lib.hid hstep
      clear hb hb8 hstep
      go_wp2
      go_round
      case rel => exact ⟨k + 1, by omega, by go_num, by rw [← HS.out]⟩
      case measure => simp [intOf]; omega
    · obtain rfl : k = l.length := by omega
      rw [List.take_length]
      go_wp2
      go_ret
      exact ⟨rfl, rfl⟩

set_option maxHeartbeats 400000 in
theorem together_u64 (A : Option Addr) (n c : Nat) (l : List UInt8) (w : World) (hr : Rd w w.heap.size A (bvs l)) (hn : l.length = n) (hW : n = 8) :
    Calls Try.prog 69 #[.slice A n c] w fun e w' => e = .returned (.int .u64 (leN l : Int)) ∧ w = w' := by
  subst hn
  have hW' : (l.length : Int) = 8 := by omega
  have hl1 : (l.length : Int) ≤ 8 := by omega
  have hl0 : (1 : Int) ≤ (l.length : Int) := by omega
  clear hW'
  have HW := Lib.hid hW
  clear hW
  go_enter Try.func69, Try.ntmps69
  go_wp2
  go_loop [3, 8] (TogRel .u64 l) (fun _ i => l.length - (intOf i).toNat)
  case atStart => exact ⟨0, Nat.zero_le _, rfl, rfl⟩
  case round =>
    obtain ⟨k, hk, rfl, rfl⟩ := hrel
    by_cases hlt : k < l.length
    · obtain ⟨ab, ao, rfl, _, hcell⟩ := hr k _ (bvs_get l k hlt)
      have hstep := tog_u64 l k hlt (by have := HW.out; omega)
      obtain ⟨b, hb⟩ : ∃ b, b = l[k] := ⟨_, rfl⟩
      rw [← hb] at hcell hstep
      have hb8 := b.toNat_lt
      have hb0 : (0 : Int) ≤ (b.toNat : Int) := by omega
      have hb255 : (b.toNat : Int) ≤ 255 := by omega
      have HS := Lib.hid hstep
      clear hb hb8 hstep
      go_wp2
      go_round
      case rel => exact ⟨k + 1, by omega, by go_num, by rw [← HS.out]⟩
      case measure => simp [intOf]; omega
    · obtain rfl : k = l.length := by omega
      rw [List.take_length]
      go_wp2
      go_ret
      exact ⟨rfl, rfl⟩

/-- What holds at the head of a round of row: the words ahead are laid. -/
def RowRel (w : World) (W m r : Nat) (l : List UInt8) (i : Value) (wr : World) : Prop :=
  ∃ k : Nat, k ≤ m ∧ i = .int .i64 k ∧ Blk wr r 59 (wrow (wordsN k W l) m) ∧ Below w.heap.size w wr
theorem wrow_next (k W m : Nat) (l : List UInt8) (h : k < m) : (wrow (wordsN k W l) m).set k (.int .u64 (leN ((l.drop (k * W)).take W) : Int)) = wrow (wordsN (k + 1) W l) m := by
  have e := wrow_set (wordsN k W l) m (leN ((l.drop (k * W)).take W)) (by rw [wordsN_len]; exact h)
  rw [wordsN_len] at e
  rw [e, wordsN_snoc]
theorem wrow_here (k W m : Nat) (l : List UInt8) (h : k < m) : (wrow (wordsN k W l) m)[k]? = some (.int .u64 0) := by
  have e := wrow_get (wordsN k W l) m (by rw [wordsN_len]; exact h)
  rwa [wordsN_len] at e

set_option maxHeartbeats 1000000 in
set_option maxRecDepth 100000 in
theorem row_u8 (A : Option Addr) (n c m : Nat) (l : List UInt8) (w : World) (hr : Rd w w.heap.size A (bvs l)) (hn : l.length = n) (hm : n = m * 1) (hnc : n ≤ c) (hb1 : n ≤ 100000) :
    Calls Try.prog 62 #[.slice A n c, .int .i64 1] w (NewWF w (wordsN m 1 l)) := by
  obtain ⟨i0, hi, hz0, hz1, hz2⟩ := info_parts info_u64r
  subst hn
  have hq : (l.length : Int) / 1 = (m : Int) := by omega
  have hml : m ≤ 100000 := by omega
  have HM := Lib.hid hm
  clear hm
  go_enter Try.func62, Try.ntmps62
  go_wp2_with (at_make; go_must (refine wpList_mk rfl (.tmp 10) (.tmp 10) 83 rfl w.heap.size 59 i0 (.int .u64 0) 8 Try.underlying83 hi hz0 rfl hz1 hz2 .i64 .i64 _ _ rfl rfl m m (by have := HM.out; omega) (by have := HM.out; omega) (Nat.le_refl _) (by omega) (by simp only [maxLen]; omega) (Nat.le_refl _) ?_; intro w1 hg1 hown1 hgr1; have hb : Below w.heap.size w w1 := (Below.refl _ _).grown hgr1 (Nat.le_refl _) (by simp); have hblk : Blk w1 w.heap.size 59 (wrow (wordsN 0 1 l) m) := (by unfold Blk; rw [hg1]; simp [wrow, wordsN, wvs]); clear hg1 hown1 hgr1))
  clear hq
  go_loopw [14] (RowRel w 1 m w.heap.size l) (fun i _ => m - (intOf i).toNat)
  case atStart => exact ⟨0, Nat.zero_le _, rfl, hblk, hb⟩
  case round =>
    obtain ⟨k, hk, rfl, hblk, hb⟩ := hrel
    by_cases hlt : k < m
    · have hml2 : (m : Int) * 1 = (l.length : Int) := by have := HM.out; omega
      have hlo : 0 < l.length := by have := HM.out; omega
      obtain ⟨ab, ao, rfl, _, _⟩ := hr.at_ (by rw [bvs_length]; exact hlo)
      have hcell := hblk.cell k
      rw [wrow_here k 1 m l hlt] at hcell
      have hfr := hblk.frozen k
      have hset := hblk.set_ k (.int .u64 (leN ((l.drop (k * 1)).take 1) : Int))
      rw [wrow_next k 1 m l hlt] at hset
      obtain ⟨ch, hch⟩ : ∃ ch, ch = (l.drop (k * 1)).take 1 := ⟨_, rfl⟩
      have hrc : Rd wr wr.heap.size (some ⟨ab, ao + k, none⟩) (bvs ch) := by
        have := ((((hr.below hb).more hb.size).drop (k * 1)).take 1)
        rw [bvs_drop, bvs_take, ← hch] at this
        simpa [Addr.add_lit] using this
      have hcl : ch.length = 1 := by rw [hch, List.length_take, List.length_drop]; have := HM.out; omega
      rw [← hch] at hset
      have HSET := Lib.hid hset
      have HRC := Lib.hid hrc
      have HCL := Lib.hid hcl
      have hk0 : (k : Int) < (m : Int) := by omega
      have hkl : (k : Int) * 1 + 1 ≤ (l.length : Int) := by omega
      have hkl2 : (k : Int) * 1 + 1 ≤ (c : Int) := by omega
      clear hset hrc hcl hch hblk
      go_wp2_with fail
      refine (together_u8 _ _ _ ch _ HRC.out (by have := HCL.out; omega) (by omega)).mono ?_
      rintro e w' ⟨rfl, rfl⟩
      have hle := leN_lt ch
      rw [HCL.out] at hle
      have hle2 : (leN ch : Int) < 256 := by omega
      have hle3 : (0 : Int) ≤ (leN ch : Int) := by omega
      clear hle
      go_wp2
      go_roundw
      case rel => exact ⟨k + 1, by omega, by go_num, HSET.out, hb.setCell (Nat.le_refl _) _⟩
      case measure => simp [intOf]; omega
    · obtain rfl : k = m := by omega
      have hfull := wrow_full (wordsN k 1 l)
      rw [wordsN_len] at hfull
      rw [hfull] at hblk
      have hrd := Rd.of_blk hblk
      have HRD := Lib.hid hrd
      clear hblk hfull hrd
      go_wp2
      go_ret
      exact ⟨.slice (some ⟨w.heap.size, 0, none⟩) k k, rfl, ⟨⟨_, k, by rw [wvs_length, wordsN_len], by rw [wvs_length, wordsN_len]; exact Nat.le_refl _, HRD.out⟩, FreshV.at_ (Nat.le_refl _)⟩, hb⟩

set_option maxHeartbeats 1000000 in
set_option maxRecDepth 100000 in
theorem row_u16 (A : Option Addr) (n c m : Nat) (l : List UInt8) (w : World) (hr : Rd w w.heap.size A (bvs l)) (hn : l.length = n) (hm : n = m * 2) (hnc : n ≤ c) (hb1 : n ≤ 100000) :
    Calls Try.prog 63 #[.slice A n c, .int .i64 2] w (NewWF w (wordsN m 2 l)) := by
  obtain ⟨i0, hi, hz0, hz1, hz2⟩ := info_parts info_u64r
  subst hn
  have hq : (l.length : Int) / 2 = (m : Int) := by omega
  have hml : m ≤ 100000 := by omega
  have HM := Lib.hid hm
  clear hm
  go_enter Try.func63, Try.ntmps63
  go_wp2_with (at_make; go_must (refine wpList_mk rfl (.tmp 10) (.tmp 10) 83 rfl w.heap.size 59 i0 (.int .u64 0) 8 Try.underlying83 hi hz0 rfl hz1 hz2 .i64 .i64 _ _ rfl rfl m m (by have := HM.out; omega) (by have := HM.out; omega) (Nat.le_refl _) (by omega) (by simp only [maxLen]; omega) (Nat.le_refl _) ?_; intro w1 hg1 hown1 hgr1; have hb : Below w.heap.size w w1 := (Below.refl _ _).grown hgr1 (Nat.le_refl _) (by simp); have hblk : Blk w1 w.heap.size 59 (wrow (wordsN 0 2 l) m) := (by unfold Blk; rw [hg1]; simp [wrow, wordsN, wvs]); clear hg1 hown1 hgr1))
  clear hq
  go_loopw [14] (RowRel w 2 m w.heap.size l) (fun i _ => m - (intOf i).toNat)
  case atStart => exact ⟨0, Nat.zero_le _, rfl, hblk, hb⟩
  case round =>
    obtain ⟨k, hk, rfl, hblk, hb⟩ := hrel
    by_cases hlt : k < m
    · have hml2 : (m : Int) * 2 = (l.length : Int) := by have := HM.out; omega
      have hlo : 0 < l.length := by have := HM.out; omega
      obtain ⟨ab, ao, rfl, _, _⟩ := hr.at_ (by rw [bvs_length]; exact hlo)
      have hcell := hblk.cell k
      rw [wrow_here k 2 m l hlt] at hcell
      have hfr := hblk.frozen k
      have hset := hblk.set_ k (.int .u64 (leN ((l.drop (k * 2)).take 2) : Int))
      rw [wrow_next k 2 m l hlt] at hset
      obtain ⟨ch, hch⟩ : ∃ ch, ch = (l.drop (k * 2)).take 2 := ⟨_, rfl⟩
      have hrc : Rd wr wr.heap.size (some ⟨ab, ao + k * 2, none⟩) (bvs ch) := by
        have := ((((hr.below hb).more hb.size).drop (k * 2)).take 2)
        rw [bvs_drop, bvs_take, ← hch] at this
        simpa [Addr.add_lit] using this
      have hcl : ch.length = 2 := by rw [hch, List.length_take, List.length_drop]; have := HM.out; omega
      rw [← hch] at hset
      have HSET := Lib.hid hset
      have HRC := Lib.hid hrc
      have HCL := Lib.hid hcl
      have hk0 : (k : Int) < (m : Int) := by omega
      have hkl : (k : Int) * 2 + 2 ≤ (l.length : Int) := by omega
      have hkl2 : (k : Int) * 2 + 2 ≤ (c : Int) := by omega
      clear hset hrc hcl hch hblk
      go_wp2_with fail
      refine (together_u16 _ _ _ ch _ HRC.out (by have := HCL.out; omega) (by omega)).mono ?_
      rintro e w' ⟨rfl, rfl⟩
      have hle := leN_lt ch
      rw [HCL.out] at hle
      have hle2 : (leN ch : Int) < 65536 := by omega
      have hle3 : (0 : Int) ≤ (leN ch : Int) := by omega
      clear hle
      go_wp2
      go_roundw
      case rel => exact ⟨k + 1, by omega, by go_num, HSET.out, hb.setCell (Nat.le_refl _) _⟩
      case measure => simp [intOf]; omega
    · obtain rfl : k = m := by omega
      have hfull := wrow_full (wordsN k 2 l)
      rw [wordsN_len] at hfull
      rw [hfull] at hblk
      have hrd := Rd.of_blk hblk
      have HRD := Lib.hid hrd
      clear hblk hfull hrd
      go_wp2
      go_ret
      exact ⟨.slice (some ⟨w.heap.size, 0, none⟩) k k, rfl, ⟨⟨_, k, by rw [wvs_length, wordsN_len], by rw [wvs_length, wordsN_len]; exact Nat.le_refl _, HRD.out⟩, FreshV.at_ (Nat.le_refl _)⟩, hb⟩

set_option maxHeartbeats 1000000 in
set_option maxRecDepth 100000 in
theorem row_u32 (A : Option Addr) (n c m : Nat) (l : List UInt8) (w : World) (hr : Rd w w.heap.size A (bvs l)) (hn : l.length = n) (hm : n = m * 4) (hnc : n ≤ c) (hb1 : n ≤ 100000) :
    Calls Try.prog 64 #[.slice A n c, .int .i64 4] w (NewWF w (wordsN m 4 l)) := by
  obtain ⟨i0, hi, hz0, hz1, hz2⟩ := info_parts info_u64r
  subst hn
  have hq : (l.length : Int) / 4 = (m : Int) := by omega
  have hml : m ≤ 100000 := by omega
  have HM := Lib.hid hm
  clear hm
  go_enter Try.func64, Try.ntmps64
  go_wp2_with (at_make; go_must (refine wpList_mk rfl (.tmp 10) (.tmp 10) 83 rfl w.heap.size 59 i0 (.int .u64 0) 8 Try.underlying83 hi hz0 rfl hz1 hz2 .i64 .i64 _ _ rfl rfl m m (by have := HM.out; omega) (by have := HM.out; omega) (Nat.le_refl _) (by omega) (by simp only [maxLen]; omega) (Nat.le_refl _) ?_; intro w1 hg1 hown1 hgr1; have hb : Below w.heap.size w w1 := (Below.refl _ _).grown hgr1 (Nat.le_refl _) (by simp); have hblk : Blk w1 w.heap.size 59 (wrow (wordsN 0 4 l) m) := (by unfold Blk; rw [hg1]; simp [wrow, wordsN, wvs]); clear hg1 hown1 hgr1))
  clear hq
  go_loopw [14] (RowRel w 4 m w.heap.size l) (fun i _ => m - (intOf i).toNat)
  case atStart => exact ⟨0, Nat.zero_le _, rfl, hblk, hb⟩
  case round =>
    obtain ⟨k, hk, rfl, hblk, hb⟩ := hrel
    by_cases hlt : k < m
    · have hml2 : (m : Int) * 4 = (l.length : Int) := by have := HM.out; omega
      have hlo : 0 < l.length := by have := HM.out; omega
      obtain ⟨ab, ao, rfl, _, _⟩ := hr.at_ (by rw [bvs_length]; exact hlo)
      have hcell := hblk.cell k
      rw [wrow_here k 4 m l hlt] at hcell
      have hfr := hblk.frozen k
      have hset := hblk.set_ k (.int .u64 (leN ((l.drop (k * 4)).take 4) : Int))
      rw [wrow_next k 4 m l hlt] at hset
      obtain ⟨ch, hch⟩ : ∃ ch, ch = (l.drop (k * 4)).take 4 := ⟨_, rfl⟩
      have hrc : Rd wr wr.heap.size (some ⟨ab, ao + k * 4, none⟩) (bvs ch) := by
        have := ((((hr.below hb).more hb.size).drop (k * 4)).take 4)
        rw [bvs_drop, bvs_take, ← hch] at this
        simpa [Addr.add_lit] using this
      have hcl : ch.length = 4 := by rw [hch, List.length_take, List.length_drop]; have := HM.out; omega
      rw [← hch] at hset
      have HSET := Lib.hid hset
      have HRC := Lib.hid hrc
      have HCL := Lib.hid hcl
      have hk0 : (k : Int) < (m : Int) := by omega
      have hkl : (k : Int) * 4 + 4 ≤ (l.length : Int) := by omega
      have hkl2 : (k : Int) * 4 + 4 ≤ (c : Int) := by omega
      clear hset hrc hcl hch hblk
      go_wp2_with fail
      refine (together_u32 _ _ _ ch _ HRC.out (by have := HCL.out; omega) (by omega)).mono ?_
      rintro e w' ⟨rfl, rfl⟩
      have hle := leN_lt ch
      rw [HCL.out] at hle
      have hle2 : (leN ch : Int) < 4294967296 := by omega
      have hle3 : (0 : Int) ≤ (leN ch : Int) := by omega
      clear hle
      go_wp2
      go_roundw
      case rel => exact ⟨k + 1, by omega, by go_num, HSET.out, hb.setCell (Nat.le_refl _) _⟩
      case measure => simp [intOf]; omega
    · obtain rfl : k = m := by omega
      have hfull := wrow_full (wordsN k 4 l)
      rw [wordsN_len] at hfull
      rw [hfull] at hblk
      have hrd := Rd.of_blk hblk
      have HRD := Lib.hid hrd
      clear hblk hfull hrd
      go_wp2
      go_ret
      exact ⟨.slice (some ⟨w.heap.size, 0, none⟩) k k, rfl, ⟨⟨_, k, by rw [wvs_length, wordsN_len], by rw [wvs_length, wordsN_len]; exact Nat.le_refl _, HRD.out⟩, FreshV.at_ (Nat.le_refl _)⟩, hb⟩

set_option maxHeartbeats 1000000 in
set_option maxRecDepth 100000 in
theorem row_u64 (A : Option Addr) (n c m : Nat) (l : List UInt8) (w : World) (hr : Rd w w.heap.size A (bvs l)) (hn : l.length = n) (hm : n = m * 8) (hnc : n ≤ c) (hb1 : n ≤ 100000) :
    Calls Try.prog 65 #[.slice A n c, .int .i64 8] w (NewWF w (wordsN m 8 l)) := by
  obtain ⟨i0, hi, hz0, hz1, hz2⟩ := info_parts info_u64r
  subst hn
  have hq : (l.length : Int) / 8 = (m : Int) := by omega
  have hml : m ≤ 100000 := by omega
  have HM := Lib.hid hm
  clear hm
  go_enter Try.func65, Try.ntmps65
  go_wp2_with (at_make; go_must (refine wpList_mk rfl (.tmp 10) (.tmp 10) 83 rfl w.heap.size 59 i0 (.int .u64 0) 8 Try.underlying83 hi hz0 rfl hz1 hz2 .i64 .i64 _ _ rfl rfl m m (by have := HM.out; omega) (by have := HM.out; omega) (Nat.le_refl _) (by omega) (by simp only [maxLen]; omega) (Nat.le_refl _) ?_; intro w1 hg1 hown1 hgr1; have hb : Below w.heap.size w w1 := (Below.refl _ _).grown hgr1 (Nat.le_refl _) (by simp); have hblk : Blk w1 w.heap.size 59 (wrow (wordsN 0 8 l) m) := (by unfold Blk; rw [hg1]; simp [wrow, wordsN, wvs]); clear hg1 hown1 hgr1))
  clear hq
  go_loopw [14] (RowRel w 8 m w.heap.size l) (fun i _ => m - (intOf i).toNat)
  case atStart => exact ⟨0, Nat.zero_le _, rfl, hblk, hb⟩
  case round =>
    obtain ⟨k, hk, rfl, hblk, hb⟩ := hrel
    by_cases hlt : k < m
    · have hml2 : (m : Int) * 8 = (l.length : Int) := by have := HM.out; omega
      have hlo : 0 < l.length := by have := HM.out; omega
      obtain ⟨ab, ao, rfl, _, _⟩ := hr.at_ (by rw [bvs_length]; exact hlo)
      have hcell := hblk.cell k
      rw [wrow_here k 8 m l hlt] at hcell
      have hfr := hblk.frozen k
      have hset := hblk.set_ k (.int .u64 (leN ((l.drop (k * 8)).take 8) : Int))
      rw [wrow_next k 8 m l hlt] at hset
      obtain ⟨ch, hch⟩ : ∃ ch, ch = (l.drop (k * 8)).take 8 := ⟨_, rfl⟩
      have hrc : Rd wr wr.heap.size (some ⟨ab, ao + k * 8, none⟩) (bvs ch) := by
        have := ((((hr.below hb).more hb.size).drop (k * 8)).take 8)
        rw [bvs_drop, bvs_take, ← hch] at this
        simpa [Addr.add_lit] using this
      have hcl : ch.length = 8 := by rw [hch, List.length_take, List.length_drop]; have := HM.out; omega
      rw [← hch] at hset
      have HSET := Lib.hid hset
      have HRC := Lib.hid hrc
      have HCL := Lib.hid hcl
      have hk0 : (k : Int) < (m : Int) := by omega
      have hkl : (k : Int) * 8 + 8 ≤ (l.length : Int) := by omega
      have hkl2 : (k : Int) * 8 + 8 ≤ (c : Int) := by omega
      clear hset hrc hcl hch hblk
      go_wp2_with fail
      refine (together_u64 _ _ _ ch _ HRC.out (by have := HCL.out; omega) (by omega)).mono ?_
      rintro e w' ⟨rfl, rfl⟩
      have hle := leN_lt ch
      rw [HCL.out] at hle
      have hle2 : (leN ch : Int) < 18446744073709551616 := by omega
      have hle3 : (0 : Int) ≤ (leN ch : Int) := by omega
      clear hle
      go_wp2
      go_roundw
      case rel => exact ⟨k + 1, by omega, by go_num, HSET.out, hb.setCell (Nat.le_refl _) _⟩
      case measure => simp [intOf]; omega
    · obtain rfl : k = m := by omega
      have hfull := wrow_full (wordsN k 8 l)
      rw [wordsN_len] at hfull
      rw [hfull] at hblk
      have hrd := Rd.of_blk hblk
      have HRD := Lib.hid hrd
      clear hblk hfull hrd
      go_wp2
      go_ret
      exact ⟨.slice (some ⟨w.heap.size, 0, none⟩) k k, rfl, ⟨⟨_, k, by rw [wvs_length, wordsN_len], by rw [wvs_length, wordsN_len]; exact Nat.le_refl _, HRD.out⟩, FreshV.at_ (Nat.le_refl _)⟩, hb⟩
end Go.Proofs.Ytjignfnkcbklkaa
