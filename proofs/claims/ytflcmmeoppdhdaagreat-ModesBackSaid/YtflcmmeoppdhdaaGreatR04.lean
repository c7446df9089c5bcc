/-
  Plain mathematics of layer 4: words and their bytes, the lowest first. · Contracts of layer 4: Right, of the code and of the reference. · Words of a width: what the contracts of words say. · Contracts of layer 4: Mask, of the code and of the reference; small laws of numbers put together. · Contracts of layer 4: together and row, at each type of numbers. · Contracts of layer 4: words, slices.Clone, Take of the code.
-/
import Derived.Test.YtflcmmeoppdhdaaGreatR02
import Derived.Test.YtflcmmeoppdhdaaGreatProg
import Derived.Deep.DeepMust
namespace Go.Proofs.YtflcmmeoppdhdaaGreat

/-- The number whose bytes these are, the lowest first. -/
def leN : List UInt8 → Nat
  | [] => 0
  | c :: l => c.toNat + 256 * leN l
/-- The w lowest bytes of a number. -/
def leB : Nat → Nat → List UInt8
  | 0, _ => []
  | w + 1, v => UInt8.ofNat (v % 256) :: leB w (v / 256)
/-- The first n words of w bytes each. -/
def wordsN : Nat → Nat → List UInt8 → List Nat
  | 0, _, _ => []
  | n + 1, w, l => leN (l.take w) :: wordsN n w (l.drop w)
/-- The bytes of words. -/
def layW (w : Nat) (ws : List Nat) : List UInt8 := ws.flatMap (leB w)

theorem leB_len : ∀ (w v : Nat), (leB w v).length = w
  | 0, _ => rfl
  | w + 1, v => by simp [leB, leB_len w]
theorem leN_lt : ∀ l : List UInt8, leN l < 256 ^ l.length
  | [] => by simp [leN]
  | c :: l => by
    have := leN_lt l
    have hc := c.toNat_lt
    simp only [leN, List.length_cons, Nat.pow_succ]
    omega
theorem leN_append : ∀ l m : List UInt8, leN (l ++ m) = leN l + 256 ^ l.length * leN m
  | [], m => by simp [leN]
  | c :: l, m => by
    simp only [List.cons_append, leN, leN_append l m, List.length_cons, Nat.pow_succ]
    rw [Nat.mul_add, ← Nat.mul_assoc, Nat.mul_comm 256 (256 ^ l.length)]
    omega
theorem leN_snoc (l : List UInt8) (c : UInt8) : leN (l ++ [c]) = leN l + c.toNat * 256 ^ l.length := by
  rw [leN_append]
  simp [leN, Nat.mul_comm]
theorem leN_leB : ∀ (w v : Nat), leN (leB w v) = v % 256 ^ w
  | 0, v => by simp [leB, leN, Nat.mod_one]
  | w + 1, v => by
    simp only [leB, leN, leN_leB w]
    have h : (UInt8.ofNat (v % 256)).toNat = v % 256 := by rw [UInt8.toNat_ofNat']; omega
    rw [h, Nat.pow_succ, Nat.mul_comm (256 ^ w), Nat.mod_mul]
theorem leB_leN : ∀ l : List UInt8, leB l.length (leN l) = l
  | [] => rfl
  | c :: l => by
    have hc := c.toNat_lt
    simp only [List.length_cons, leB, leN]
    have h1 : (c.toNat + 256 * leN l) % 256 = c.toNat := by omega
    have h2 : (c.toNat + 256 * leN l) / 256 = leN l := by omega
    rw [h1, h2, leB_leN l]
    congr 1
    apply UInt8.toNat_inj.1
    rw [UInt8.toNat_ofNat']
    omega
theorem wordsN_len : ∀ (n w : Nat) (l : List UInt8), (wordsN n w l).length = n
  | 0, _, _ => rfl
  | n + 1, w, l => by simp [wordsN, wordsN_len n]
theorem wordsN_snoc : ∀ (n w : Nat) (l : List UInt8), wordsN (n + 1) w l = wordsN n w l ++ [leN ((l.drop (n * w)).take w)]
  | 0, w, l => by simp [wordsN]
  | n + 1, w, l => by
    show leN (l.take w) :: wordsN (n + 1) w (l.drop w) = leN (l.take w) :: (wordsN n w (l.drop w) ++ _)
    rw [wordsN_snoc n w (l.drop w), List.drop_drop]
    rw [show w + n * w = (n + 1) * w by rw [Nat.add_mul]; omega]
theorem wordsN_take : ∀ (n w : Nat) (l : List UInt8), wordsN n w (l.take (n * w)) = wordsN n w l
  | 0, _, _ => rfl
  | n + 1, w, l => by
    have e : (n + 1) * w = w + n * w := by rw [Nat.add_mul]; omega
    simp only [wordsN]
    rw [e, List.take_take, Nat.min_eq_left (by omega), List.drop_take, show w + n * w - w = n * w by omega, wordsN_take n w (l.drop w)]
theorem layW_words : ∀ (n w : Nat) (l : List UInt8), n * w ≤ l.length → layW w (wordsN n w l) = l.take (n * w)
  | 0, w, l, _ => by simp [wordsN, layW]
  | n + 1, w, l, h => by
    have hw : w ≤ l.length := by rw [Nat.add_mul] at h; omega
    show leB w (leN (l.take w)) ++ layW w (wordsN n w (l.drop w)) = _
    have e := leB_leN (l.take w)
    rw [List.length_take, Nat.min_eq_left hw] at e
    rw [e, layW_words n w (l.drop w) (by rw [List.length_drop]; rw [Nat.add_mul] at h; omega)]
    rw [Nat.add_mul, Nat.one_mul, Nat.add_comm (n * w), List.take_add]
theorem words_layW : ∀ (w : Nat) (ws : List Nat) (m : List UInt8), wordsN ws.length w (layW w ws ++ m) = ws.map (· % 256 ^ w)
  | _, [], _ => rfl
  | w, v :: ws, m => by
    show wordsN (ws.length + 1) w ((leB w v ++ layW w ws) ++ m) = _
    have ht : ((leB w v ++ layW w ws) ++ m).take w = leB w v := by
      rw [List.append_assoc, List.take_left' (leB_len w v)]
    have hd : ((leB w v ++ layW w ws) ++ m).drop w = layW w ws ++ m := by
      rw [List.append_assoc, List.drop_left' (leB_len w v)]
    simp only [wordsN, ht, hd, leN_leB, words_layW w ws m, List.map_cons]
theorem layW_len : ∀ (w : Nat) (ws : List Nat), (layW w ws).length = ws.length * w
  | _, [] => by simp [layW]
  | w, v :: ws => by
    show (leB w v ++ layW w ws).length = _
    rw [List.length_append, leB_len, layW_len w ws, List.length_cons, Nat.add_mul]
    omega
theorem layW_snoc (w : Nat) (ws : List Nat) (k : Nat) (h : k < ws.length) : layW w (ws.take (k + 1)) = layW w (ws.take k) ++ leB w ws[k] := by
  unfold layW
  rw [List.take_succ_eq_append_getElem h, List.flatMap_append]
  simp
theorem leB_snoc : ∀ (k v : Nat), leB (k + 1) v = leB k v ++ [UInt8.ofNat (v / 256 ^ k % 256)]
  | 0, v => by simp [leB]
  | k + 1, v => by
    show UInt8.ofNat (v % 256) :: leB (k + 1) (v / 256) = UInt8.ofNat (v % 256) :: (leB k (v / 256) ++ _)
    rw [leB_snoc k (v / 256), Nat.div_div_eq_div_mul, Nat.pow_succ, Nat.mul_comm 256]

/-- Is it a width? -/
def rightB (w : Int) : Bool := w == 1 || w == 2 || w == 4 || w == 8
theorem right_iff (w : Int) : rightB w = true ↔ w = 1 ∨ w = 2 ∨ w = 4 ∨ w = 8 := by
  simp [rightB, or_assoc]
/-- The greatest number of so many bytes. -/
def maskN (w : Int) : Nat := if rightB w then 256 ^ w.toNat - 1 else 0
end Go.Proofs.YtflcmmeoppdhdaaGreat
namespace Go.Proofs.YtflcmmeoppdhdaaGreat
open Go.RowKit

theorem wordRight_any (n : Int) (b : Bool) (hb : b = rightB n) (w : World) :
    Calls Tryz.prog 18 #[.int .i64 n] w fun e w' => e = .returned (.bool b) ∧ w = w' := by
  by_cases h : n = 1 ∨ n = 2 ∨ n = 4 ∨ n = 8
  · have hb1 : b = true := by rw [hb]; exact (right_iff n).2 h
    subst hb1
    clear hb
    rcases h with rfl | rfl | rfl | rfl
    all_goals
      go_enter Tryz.func18, Tryz.ntmps18
      go_wp2
      go_ret
      exact ⟨rfl, rfl⟩
  · have hb0 : b = false := by
      rw [hb]
      cases hr : rightB n with
      | false => rfl
      | true => exact absurd ((right_iff n).1 hr) h
    subst hb0
    have h1 : (n == 1) = false := by rw [beq_eq_false_iff_ne]; omega
    have h2 : (n == 2) = false := by rw [beq_eq_false_iff_ne]; omega
    have h4 : (n == 4) = false := by rw [beq_eq_false_iff_ne]; omega
    have h8 : (n == 8) = false := by rw [beq_eq_false_iff_ne]; omega
    clear hb h
    go_enter Tryz.func18, Tryz.ntmps18
    go_wp2
    go_ret
    exact ⟨rfl, rfl⟩
end Go.Proofs.YtflcmmeoppdhdaaGreat
namespace Go.Proofs.YtflcmmeoppdhdaaGreat
open Go.RowKit

/-- Is it a width? -/
def IsW (W : Nat) : Prop := W = 1 ∨ W = 2 ∨ W = 4 ∨ W = 8
theorem IsW.right {W : Nat} (h : IsW W) : true = rightB (W : Int) := by
  rcases h with rfl | rfl | rfl | rfl <;> rfl
theorem isW_of {n : Int} (h : rightB n = true) : ∃ W : Nat, n = (W : Int) ∧ IsW W := by
  rcases (right_iff n).1 h with rfl | rfl | rfl | rfl
  · exact ⟨1, rfl, .inl rfl⟩
  · exact ⟨2, rfl, .inr (.inl rfl)⟩
  · exact ⟨4, rfl, .inr (.inr (.inl rfl))⟩
  · exact ⟨8, rfl, .inr (.inr (.inr rfl))⟩
theorem IsW.pos {W : Nat} (h : IsW W) : 1 ≤ W ∧ W ≤ 8 := by rcases h with rfl | rfl | rfl | rfl <;> omega

theorem info_u64r : (Tryz.prog.info? 88).map (fun i => (i.zero, i.size, i.bytes)) = some (some (.int .u64 0), 1, 8) := by kernel_rfl
/-- Cells, and bytes, in a row that is new: at or above B. -/
def FreshV (B : Nat) (v : Value) : Prop := ∀ p n c, v = .slice (some p) n c → B ≤ p.block
theorem FreshV.nil (B : Nat) : FreshV B (.slice none 0 0) := fun p n c e => by cases e
theorem FreshV.at_ {B g o n c : Nat} (h : B ≤ g) : FreshV B (.slice (some ⟨g, o, none⟩) n c) := fun p n' c' e => by injection e with e; injection e with e; subst e; exact h
theorem FreshV.low {B B' : Nat} {v : Value} (h : FreshV B v) (hB : B' ≤ B) : FreshV B' v := fun p n c e => Nat.le_trans hB (h p n c e)
def FreshC (B : Nat) (xs : List Value) (v : Value) (w : World) : Prop := IsCells xs v w ∧ FreshV B v
theorem FreshC.grow (B : Nat) (xs : List Value) (v : Value) (w w' : World) (h : FreshC B xs v w) (hb : Below w.heap.size w w') : FreshC B xs v w' := ⟨h.1.grow hb, h.2⟩
def NewWF (w : World) (ws : List Nat) (e : Ending) (w' : World) : Prop := ∃ v, e = .returned v ∧ FreshC w.heap.size (wvs ws) v w' ∧ Below w.heap.size w w'
theorem width_of (u : Nat) : ∃ V, IsW V ∧ wrap64 (2 ^ (u % 4)) = (V : Int) := by
  rcases (show u % 4 = 0 ∨ u % 4 = 1 ∨ u % 4 = 2 ∨ u % 4 = 3 by omega) with h | h | h | h <;> rw [h]
  · exact ⟨1, .inl rfl, IntWalk.wrap64_in _ (by decide)⟩
  · exact ⟨2, .inr (.inl rfl), IntWalk.wrap64_in _ (by decide)⟩
  · exact ⟨4, .inr (.inr (.inl rfl)), IntWalk.wrap64_in _ (by decide)⟩
  · exact ⟨8, .inr (.inr (.inr rfl)), IntWalk.wrap64_in _ (by decide)⟩
/-- What hands back bytes in new memory. -/
def NewBs (w : World) (l : List UInt8) (e : Ending) (w' : World) : Prop := ∃ v, e = .returned v ∧ IsBytes l v w' ∧ Below w.heap.size w w'
end Go.Proofs.YtflcmmeoppdhdaaGreat
namespace Go.Proofs.YtflcmmeoppdhdaaGreat
open Go.RowKit

theorem wordMask_any (n : Int) (w : World) :
    Calls Tryz.prog 297 #[.int .i64 n] w fun e w' => e = .returned (.int .u64 (maskN n : Int)) ∧ w = w' := by
  cases hr : rightB n with
  | true =>
    rcases (right_iff n).1 hr with rfl | rfl | rfl | rfl
    all_goals
      go_enter Tryz.func297, Tryz.ntmps297
      go_wp2_with (go_at_call 18; go_must (refine (wordRight_any _ true hr.symm _).mono ?_; rintro e w' ⟨rfl, rfl⟩))
      go_ret
      exact ⟨ret_int (by decide), rfl⟩
  | false =>
    have hm : maskN n = 0 := by unfold maskN; rw [hr]; rfl
    rw [hm]
    clear hm
    go_enter Tryz.func297, Tryz.ntmps297
    go_wp2_with (go_at_call 18; go_must (refine (wordRight_any _ false hr.symm _).mono ?_; rintro e w' ⟨rfl, rfl⟩))
    go_ret
    exact ⟨rfl, rfl⟩

/-- What holds at the head of a round of together: the number of the bytes ahead. -/
def TogRel (K : IntKind) (l : List UInt8) (t i : Value) : Prop := ∃ k : Nat, k ≤ l.length ∧ i = .int .i64 k ∧ t = .int K (leN (l.take k) : Int)


theorem or_join (x y i : Nat) (h1 : x < 2 ^ i) (h2 : y % 2 ^ i = 0) : x ||| y = x + y := by
  rw [Nat.or_comm, nat_join i y x h2 h1, Nat.add_comm]
theorem tog_all (l : List UInt8) (k W : Nat) (h : k < l.length) (hW : l.length ≤ W) :
    leN (l.take k) < 2 ^ (8 * k) ∧ (l[k].toNat * 2 ^ (8 * k)) % 2 ^ (8 * k) = 0 ∧ leN (l.take k) + l[k].toNat * 2 ^ (8 * k) < 256 ^ W ∧ leN (l.take (k + 1)) = leN (l.take k) + l[k].toNat * 2 ^ (8 * k) := by
  have hp : (2 : Nat) ^ (8 * k) = 256 ^ k := by rw [Nat.pow_mul]
  have hl : (l.take k).length = k := by rw [List.length_take]; omega
  have h1 := leN_lt (l.take k)
  rw [hl] at h1
  have e : leN (l.take (k + 1)) = leN (l.take k) + l[k].toNat * 256 ^ k := by
    rw [List.take_succ_eq_append_getElem h, leN_snoc, hl]
  have h2 := leN_lt (l.take (k + 1))
  have h3 : 256 ^ (l.take (k + 1)).length ≤ 256 ^ W := Nat.pow_le_pow_right (by decide) (by rw [List.length_take]; omega)
  rw [hp]
  exact ⟨h1, Nat.mul_mod_left _ _, by omega, e⟩
theorem tog_u8 (l : List UInt8) (k : Nat) (h : k < l.length) (hW : l.length ≤ 1) : bits .or .u8 (leN (l.take k) : Int) ((l[k].toNat : Int) * 2 ^ (8 * k) % 256) = (leN (l.take (k + 1)) : Int) := by
  obtain ⟨h1, h2, h3, h4⟩ := tog_all l k 1 h hW
  have h5 : (256 : Nat) ^ 1 = 256 := by decide
  rw [h5] at h3
  have e : (l[k].toNat : Int) * 2 ^ (8 * k) = ((l[k].toNat * 2 ^ (8 * k) : Nat) : Int) := by simp
  rw [e, h4]
  generalize l[k].toNat * 2 ^ (8 * k) = y at *
  generalize leN (l.take k) = x at *
  have hm : (y : Int) % 256 = (y : Int) := by omega
  rw [hm, u8_or_nat x y (by omega) (by omega), or_join x y (8 * k) h1 h2]
theorem tog_u16 (l : List UInt8) (k : Nat) (h : k < l.length) (hW : l.length ≤ 2) : bits .or .u16 (leN (l.take k) : Int) (IntKind.u16.wrap ((l[k].toNat : Int) * 2 ^ (8 * k))) = (leN (l.take (k + 1)) : Int) := by
  obtain ⟨h1, h2, h3, h4⟩ := tog_all l k 2 h hW
  have h5 : (256 : Nat) ^ 2 = 65536 := by decide
  rw [h5] at h3
  have e : (l[k].toNat : Int) * 2 ^ (8 * k) = ((l[k].toNat * 2 ^ (8 * k) : Nat) : Int) := by simp
  rw [e, h4]
  generalize l[k].toNat * 2 ^ (8 * k) = y at *
  generalize leN (l.take k) = x at *
  have hm : IntKind.u16.wrap (y : Int) = (y : Int) := by rw [IntKind.wrap_u16]; omega
  rw [hm, u16_or_nat x y (by omega) (by omega), or_join x y (8 * k) h1 h2]
theorem tog_u32 (l : List UInt8) (k : Nat) (h : k < l.length) (hW : l.length ≤ 4) : bits .or .u32 (leN (l.take k) : Int) ((l[k].toNat : Int) * 2 ^ (8 * k) % 4294967296) = (leN (l.take (k + 1)) : Int) := by
  obtain ⟨h1, h2, h3, h4⟩ := tog_all l k 4 h hW
  have h5 : (256 : Nat) ^ 4 = 4294967296 := by decide
  rw [h5] at h3
  have e : (l[k].toNat : Int) * 2 ^ (8 * k) = ((l[k].toNat * 2 ^ (8 * k) : Nat) : Int) := by simp
  rw [e, h4]
  generalize l[k].toNat * 2 ^ (8 * k) = y at *
  generalize leN (l.take k) = x at *
  have hm : (y : Int) % 4294967296 = (y : Int) := by omega
  rw [hm, u32_or_nat x y (by omega) (by omega), or_join x y (8 * k) h1 h2]
theorem tog_u64 (l : List UInt8) (k : Nat) (h : k < l.length) (hW : l.length ≤ 8) : bits .or .u64 (leN (l.take k) : Int) (IntKind.u64.wrap ((l[k].toNat : Int) * 2 ^ (8 * k))) = (leN (l.take (k + 1)) : Int) := by
  obtain ⟨h1, h2, h3, h4⟩ := tog_all l k 8 h hW
  have h5 : (256 : Nat) ^ 8 = 18446744073709551616 := by decide
  rw [h5] at h3
  have e : (l[k].toNat : Int) * 2 ^ (8 * k) = ((l[k].toNat * 2 ^ (8 * k) : Nat) : Int) := by simp
  rw [e, h4]
  generalize l[k].toNat * 2 ^ (8 * k) = y at *
  generalize leN (l.take k) = x at *
  have hm : IntKind.u64.wrap (y : Int) = (y : Int) := by rw [IntKind.wrap_u64]; omega
  rw [hm, u64_or_nat x y (by omega) (by omega), or_join x y (8 * k) h1 h2]
end Go.Proofs.YtflcmmeoppdhdaaGreat
namespace Go.Proofs.YtflcmmeoppdhdaaGreat
open Go.RowKit

set_option maxHeartbeats 400000 in
theorem together_u8 (A : Option Addr) (n c : Nat) (l : List UInt8) (w : World) (hr : Rd w w.heap.size A (bvs l)) (hn : l.length = n) (hW : n = 1) :
    Calls Tryz.prog 298 #[.slice A n c] w fun e w' => e = .returned (.int .u8 (leN l : Int)) ∧ w = w' := by
  subst hn
  have hW' : (l.length : Int) = 1 := by omega
  have hl1 : (l.length : Int) ≤ 1 := by omega
  have hl0 : (1 : Int) ≤ (l.length : Int) := by omega
  clear hW'
  have HW := Lib.hid hW
  clear hW
  go_enter Tryz.func298, Tryz.ntmps298
  go_wp2
  go_loop [3, 8] (TogRel .u8 l) (fun _ i => l.length - (intOf i).toNat)
  case atStart => exact ⟨0, Nat.zero_le _, rfl, rfl⟩
  case round =>
    obtain ⟨k, hk, rfl, rfl⟩ := hrel
    by_cases hlt : k < l.length
    · obtain ⟨ab, ao, rfl, _, hcell⟩ := hr k _ (bvs_get l k hlt)
      have hstep := tog_u8 l k hlt (by have := HW.out; omega)
      obtain ⟨b, hb⟩ : ∃ b, b = l[k] := ⟨_, rfl⟩
      rw [← hb] at hcell hstep
      have hb8 := b.toNat_lt
      have hb0 : (0 : Int) ≤ (b.toNat : Int) := by omega
      have hb255 : (b.toNat : Int) ≤ 255 := by omega
      have HS := Lib.hid hstep
      clear hb hb8 hstep
      go_wp2
      go_round
      case rel => exact ⟨k + 1, by omega, by go_num, by rw [← HS.out]⟩
      case measure => simp [intOf]; omega
    · obtain rfl : k = l.length := by omega
      rw [List.take_length]
      go_wp2
      go_ret
      exact ⟨rfl, rfl⟩

set_option maxHeartbeats 400000 in
theorem together_u16 (A : Option Addr) (n c : Nat) (l : List UInt8) (w : World) (hr : Rd w w.heap.size A (bvs l)) (hn : l.length = n) (hW : n = 2) :
    Calls Tryz.prog 299 #[.slice A n c] w fun e w' => e = .returned (.int .u16 (leN l : Int)) ∧ w = w' := by
  subst hn
  have hW' : (l.length : Int) = 2 := by omega
  have hl1 : (l.length : Int) ≤ 2 := by omega
  have hl0 : (1 : Int) ≤ (l.length : Int) := by omega
  clear hW'
  have HW := Lib.hid hW
  clear hW
  go_enter Tryz.func299, Tryz.ntmps299
  go_wp2
  go_loop [3, 8] (TogRel .u16 l) (fun _ i => l.length - (intOf i).toNat)
  case atStart => exact ⟨0, Nat.zero_le _, rfl, rfl⟩
  case round =>
    obtain ⟨k, hk, rfl, rfl⟩ := hrel
    by_cases hlt : k < l.length
    · obtain ⟨ab, ao, rfl, _, hcell⟩ := hr k _ (bvs_get l k hlt)
      have hstep := tog_u16 l k hlt (by have := HW.out; omega)
      obtain ⟨b, hb⟩ : ∃ b, b = l[k] := ⟨_, rfl⟩
      rw [← hb] at hcell hstep
      have hb8 := b.toNat_lt
      have hb0 : (0 : Int) ≤ (b.toNat : Int) := by omega
      have hb255 : (b.toNat : Int) ≤ 255 := by omega
      have HS := Lib.hid hstep
      clear hb hb8 hstep
      go_wp2
      go_round
      case rel => exact ⟨k + 1, by omega, by go_num, by rw [← HS.out]⟩
      case measure => simp [intOf]; omega
    · obtain rfl : k = l.length := by omega
      rw [List.take_length]
      go_wp2
      go_ret
      exact ⟨rfl, rfl⟩

set_option maxHeartbeats 400000 in
theorem together_u32 (A : Option Addr) (n c : Nat) (l : List UInt8) (w : World) (hr : Rd w w.heap.size A (bvs l)) (hn : l.length = n) (hW : n = 4) :
    Calls Tryz.prog 300 #[.slice A n c] w fun e w' => e = .returned (.int .u32 (leN l : Int)) ∧ w = w' := by
  subst hn
  have hW' : (l.length : Int) = 4 := by omega
  have hl1 : (l.length : Int) ≤ 4 := by omega
  have hl0 : (1 : Int) ≤ (l.length : Int) := by omega
  clear hW'
  have HW := Lib.hid hW
  clear hW
  go_enter Tryz.func300, Tryz.ntmps300
  go_wp2
  go_loop [3, 8] (TogRel .u32 l) (fun _ i => l.length - (intOf i).toNat)
  case atStart => exact ⟨0, Nat.zero_le _, rfl, rfl⟩
  case round =>
    obtain ⟨k, hk, rfl, rfl⟩ := hrel
    by_cases hlt : k < l.length
    · obtain ⟨ab, ao, rfl, _, hcell⟩ := hr k _ (bvs_get l k hlt)
      have hstep := tog_u32 l k hlt (by have := HW.out; omega)
      obtain ⟨b, hb⟩ : ∃ b, b = l[k] := ⟨_, rfl⟩
      rw [← hb] at hcell hstep
      have hb8 := b.toNat_lt
      have hb0 : (0 : Int) ≤ (b.toNat : Int) := by omega
      have hb255 : (b.toNat : Int) ≤ 255 := by omega
      have HS := Lib.hid hstep
      clear hb hb8 hstep
      go_wp2
      go_round
      case rel => exact ⟨k + 1, by omega, by go_num, by rw [← HS.out]⟩
      case measure => simp [intOf]; omega
    · obtain rfl : k = l.length := by omega
      rw [List.take_length]
      go_wp2
      go_ret
      exact ⟨rfl, rfl⟩

set_option maxHeartbeats 400000 in
theorem together_u64 (A : Option Addr) (n c : Nat) (l : List UInt8) (w : World) (hr : Rd w w.heap.size A (bvs l)) (hn : l.length = n) (hW : n = 8) :
    Calls Tryz.prog 301 #[.slice A n c] w fun e w' => e = .returned (.int .u64 (leN l : Int)) ∧ w = w' := by
  subst hn
  have hW' : (l.length : Int) = 8 := by omega
  have hl1 : (l.length : Int) ≤ 8 := by omega
  have hl0 : (1 : Int) ≤ (l.length : Int) := by omega
  clear hW'
  have HW := Lib.hid hW
  clear hW
  go_enter Tryz.func301, Tryz.ntmps301
  go_wp2
  go_loop [3, 8] (TogRel .u64 l) (fun _ i => l.length - (intOf i).toNat)
  case atStart => exact ⟨0, Nat.zero_le _, rfl, rfl⟩
  case round =>
    obtain ⟨k, hk, rfl, rfl⟩ := hrel
    by_cases hlt : k < l.length
    · obtain ⟨ab, ao, rfl, _, hcell⟩ := hr k _ (bvs_get l k hlt)
      have hstep := tog_u64 l k hlt (by have := HW.out; omega)
      obtain ⟨b, hb⟩ : ∃ b, b = l[k] := ⟨_, rfl⟩
      rw [← hb] at hcell hstep
      have hb8 := b.toNat_lt
      have hb0 : (0 : Int) ≤ (b.toNat : Int) := by omega
      have hb255 : (b.toNat : Int) ≤ 255 := by omega
      have HS := Lib.hid hstep
      clear hb hb8 hstep
      go_wp2
      go_round
      case rel => exact ⟨k + 1, by omega, by go_num, by rw [← HS.out]⟩
      case measure => simp [intOf]; omega
    · obtain rfl : k = l.length := by omega
      rw [List.take_length]
      go_wp2
      go_ret
      exact ⟨rfl, rfl⟩

/-- What holds at the head of a round of row: the words ahead are laid. -/
def RowRel (w : World) (W m r : Nat) (l : List UInt8) (i : Value) (wr : World) : Prop :=
  ∃ k : Nat, k ≤ m ∧ i = .int .i64 k ∧ Blk wr r 88 (wrow (wordsN k W l) m) ∧ Below w.heap.size w wr
theorem wrow_next (k W m : Nat) (l : List UInt8) (h : k < m) : (wrow (wordsN k W l) m).set k (.int .u64 (leN ((l.drop (k * W)).take W) : Int)) = wrow (wordsN (k + 1) W l) m := by
  have e := wrow_set (wordsN k W l) m (leN ((l.drop (k * W)).take W)) (by rw [wordsN_len]; exact h)
  rw [wordsN_len] at e
  rw [e, wordsN_snoc]
theorem wrow_here (k W m : Nat) (l : List UInt8) (h : k < m) : (wrow (wordsN k W l) m)[k]? = some (.int .u64 0) := by
  have e := wrow_get (wordsN k W l) m (by rw [wordsN_len]; exact h)
  rwa [wordsN_len] at e

set_option maxHeartbeats 1000000 in
set_option maxRecDepth 100000 in
theorem row_u8 (A : Option Addr) (n c m : Nat) (l : List UInt8) (w : World) (hr : Rd w w.heap.size A (bvs l)) (hn : l.length = n) (hm : n = m * 1) (hnc : n ≤ c) (hb1 : n ≤ 100000) :
    Calls Tryz.prog 292 #[.slice A n c, .int .i64 1] w (NewWF w (wordsN m 1 l)) := by
  obtain ⟨i0, hi, hz0, hz1, hz2⟩ := info_parts info_u64r
  subst hn
  have hq : (l.length : Int) / 1 = (m : Int) := by omega
  have hml : m ≤ 100000 := by omega
  have HM := Lib.hid hm
  clear hm
  go_enter Tryz.func292, Tryz.ntmps292
  go_wp2_with (at_make; go_must (refine wpList_mk rfl (.tmp 10) (.tmp 10) 85 rfl w.heap.size 88 i0 (.int .u64 0) 8 Tryz.underlying85 hi hz0 rfl hz1 hz2 .i64 .i64 _ _ rfl rfl m m (by have := HM.out; omega) (by have := HM.out; omega) (Nat.le_refl _) (by omega) (by simp only [maxLen]; omega) (Nat.le_refl _) ?_; intro w1 hg1 hown1 hgr1; have hb : Below w.heap.size w w1 := (Below.refl _ _).grown hgr1 (Nat.le_refl _) (by simp); have hblk : Blk w1 w.heap.size 88 (wrow (wordsN 0 1 l) m) := (by unfold Blk; rw [hg1]; simp [wrow, wordsN, wvs]); clear hg1 hown1 hgr1))
  clear hq
  go_loopw [14] (RowRel w 1 m w.heap.size l) (fun i _ => m - (intOf i).toNat)
  case atStart => exact ⟨0, Nat.zero_le _, rfl, hblk, hb⟩
  case round =>
    obtain ⟨k, hk, rfl, hblk, hb⟩ := hrel
    by_cases hlt : k < m
    · have hml2 : (m : Int) * 1 = (l.length : Int) := by have := HM.out; omega
      have hlo : 0 < l.length := by have := HM.out; omega
      obtain ⟨ab, ao, rfl, _, _⟩ := hr.at_ (by rw [bvs_length]; exact hlo)
      have hcell := hblk.cell k
      rw [wrow_here k 1 m l hlt] at hcell
      have hfr := hblk.frozen k
      have hset := hblk.set_ k (.int .u64 (leN ((l.drop (k * 1)).take 1) : Int))
      rw [wrow_next k 1 m l hlt] at hset
      obtain ⟨ch, hch⟩ : ∃ ch, ch = (l.drop (k * 1)).take 1 := ⟨_, rfl⟩
      have hrc : Rd wr wr.heap.size (some ⟨ab, ao + k, none⟩) (bvs ch) := by
        have := ((((hr.below hb).more hb.size).drop (k * 1)).take 1)
        rw [bvs_drop, bvs_take, ← hch] at this
        simpa [Addr.add_lit] using this
      have hcl : ch.length = 1 := by rw [hch, List.length_take, List.length_drop]; have := HM.out; omega
      rw [← hch] at hset
      have HSET := Lib.hid hset
      have HRC := Lib.hid hrc
      have HCL := Lib.hid hcl
      have hk0 : (k : Int) < (m : Int) := by omega
      have hkl : (k : Int) * 1 + 1 ≤ (l.length : Int) := by omega
      have hkl2 : (k : Int) * 1 + 1 ≤ (c : Int) := by omega
      clear hset hrc hcl hch hblk
      go_wp2_with fail
      refine (together_u8 _ _ _ ch _ HRC.out (by have := HCL.out; omega) (by omega)).mono ?_
      rintro e w' ⟨rfl, rfl⟩
      have hle := leN_lt ch
      rw [HCL.out] at hle
      have hle2 : (leN ch : Int) < 256 := by omega
      have hle3 : (0 : Int) ≤ (leN ch : Int) := by omega
      clear hle
      go_wp2
      go_roundw
      case rel => exact ⟨k + 1, by omega, by go_num, HSET.out, hb.setCell (Nat.le_refl _) _⟩
      case measure => simp [intOf]; omega
    · obtain rfl : k = m := by omega
      have hfull := wrow_full (wordsN k 1 l)
      rw [wordsN_len] at hfull
      rw [hfull] at hblk
      have hrd := Rd.of_blk hblk
      have HRD := Lib.hid hrd
      clear hblk hfull hrd
      go_wp2
      go_ret
      exact ⟨.slice (some ⟨w.heap.size, 0, none⟩) k k, rfl, ⟨⟨_, k, by rw [wvs_length, wordsN_len], by rw [wvs_length, wordsN_len]; exact Nat.le_refl _, HRD.out⟩, FreshV.at_ (Nat.le_refl _)⟩, hb⟩

set_option maxHeartbeats 1000000 in
set_option maxRecDepth 100000 in
theorem row_u16 (A : Option Addr) (n c m : Nat) (l : List UInt8) (w : World) (hr : Rd w w.heap.size A (bvs l)) (hn : l.length = n) (hm : n = m * 2) (hnc : n ≤ c) (hb1 : n ≤ 100000) :
    Calls Tryz.prog 293 #[.slice A n c, .int .i64 2] w (NewWF w (wordsN m 2 l)) := by
  obtain ⟨i0, hi, hz0, hz1, hz2⟩ := info_parts info_u64r
  subst hn
  have hq : (l.length : Int) / 2 = (m : Int) := by omega
  have hml : m ≤ 100000 := by omega
  have HM := Lib.hid hm
  clear hm
  go_enter Tryz.func293, Tryz.ntmps293
  go_wp2_with (at_make; go_must (refine wpList_mk rfl (.tmp 10) (.tmp 10) 85 rfl w.heap.size 88 i0 (.int .u64 0) 8 Tryz.underlying85 hi hz0 rfl hz1 hz2 .i64 .i64 _ _ rfl rfl m m (by have := HM.out; omega) (by have := HM.out; omega) (Nat.le_refl _) (by omega) (by simp only [maxLen]; omega) (Nat.le_refl _) ?_; intro w1 hg1 hown1 hgr1; have hb : Below w.heap.size w w1 := (Below.refl _ _).grown hgr1 (Nat.le_refl _) (by simp); have hblk : Blk w1 w.heap.size 88 (wrow (wordsN 0 2 l) m) := (by unfold Blk; rw [hg1]; simp [wrow, wordsN, wvs]); clear hg1 hown1 hgr1))
  clear hq
  go_loopw [14] (RowRel w 2 m w.heap.size l) (fun i _ => m - (intOf i).toNat)
  case atStart => exact ⟨0, Nat.zero_le _, rfl, hblk, hb⟩
  case round =>
    obtain ⟨k, hk, rfl, hblk, hb⟩ := hrel
    by_cases hlt : k < m
    · have hml2 : (m : Int) * 2 = (l.length : Int) := by have := HM.out; omega
      have hlo : 0 < l.length := by have := HM.out; omega
      obtain ⟨ab, ao, rfl, _, _⟩ := hr.at_ (by rw [bvs_length]; exact hlo)
      have hcell := hblk.cell k
      rw [wrow_here k 2 m l hlt] at hcell
      have hfr := hblk.frozen k
      have hset := hblk.set_ k (.int .u64 (leN ((l.drop (k * 2)).take 2) : Int))
      rw [wrow_next k 2 m l hlt] at hset
      obtain ⟨ch, hch⟩ : ∃ ch, ch = (l.drop (k * 2)).take 2 := ⟨_, rfl⟩
      have hrc : Rd wr wr.heap.size (some ⟨ab, ao + k * 2, none⟩) (bvs ch) := by
        have := ((((hr.below hb).more hb.size).drop (k * 2)).take 2)
        rw [bvs_drop, bvs_take, ← hch] at this
        simpa [Addr.add_lit] using this
      have hcl : ch.length = 2 := by rw [hch, List.length_take, List.length_drop]; have := HM.out; omega
      rw [← hch] at hset
      have HSET := Lib.hid hset
      have HRC := Lib.hid hrc
      have HCL := Lib.hid hcl
      have hk0 : (k : Int) < (m : Int) := by omega
      have hkl : (k : Int) * 2 + 2 ≤ (l.length : Int) := by omega
      have hkl2 : (k : Int) * 2 + 2 ≤ (c : Int) := by omega
      clear hset hrc hcl hch hblk
      go_wp2_with fail
      refine (together_u16 _ _ _ ch _ HRC.out (by have := HCL.out; omega) (by omega)).mono ?_
      rintro e w' ⟨rfl, rfl⟩
      have hle := leN_lt ch
      rw [HCL.out] at hle
      have hle2 : (leN ch : Int) < 65536 := by omega
      have hle3 : (0 : Int) ≤ (leN ch : Int) := by omega
      clear hle
      go_wp2
      go_roundw
      case rel => exact ⟨k + 1, by omega, by go_num, HSET.out, hb.setCell (Nat.le_refl _) _⟩
      case measure => simp [intOf]; omega
    · obtain rfl : k = m := by omega
      have hfull := wrow_full (wordsN k 2 l)
      rw [wordsN_len] at hfull
      rw [hfull] at hblk
      have hrd := Rd.of_blk hblk
      have HRD := Lib.hid hrd
      clear hblk hfull hrd
      go_wp2
      go_ret
      exact ⟨.slice (some ⟨w.heap.size, 0, none⟩) k k, rfl, ⟨⟨_, k, by rw [wvs_length, wordsN_len], by rw [wvs_length, wordsN_len]; exact Nat.le_refl _, HRD.out⟩, FreshV.at_ (Nat.le_refl _)⟩, hb⟩

set_option maxHeartbeats 1000000 in
set_option maxRecDepth 100000 in
theorem row_u32 (A : Option Addr) (n c m : Nat) (l : List UInt8) (w : World) (hr : Rd w w.heap.size A (bvs l)) (hn : l.length = n) (hm : n = m * 4) (hnc : n ≤ c) (hb1 : n ≤ 100000) :
    Calls Tryz.prog 294 #[.slice A n c, .int .i64 4] w (NewWF w (wordsN m 4 l)) := by
  obtain ⟨i0, hi, hz0, hz1, hz2⟩ := info_parts info_u64r
  subst hn
  have hq : (l.length : Int) / 4 = (m : Int) := by omega
  have hml : m ≤ 100000 := by omega
  have HM := Lib.hid hm
  clear hm
  go_enter Tryz.func294, Tryz.ntmps294
  go_wp2_with (at_make; go_must (refine wpList_mk rfl (.tmp 10) (.tmp 10) 85 rfl w.heap.size 88 i0 (.int .u64 0) 8 Tryz.underlying85 hi hz0 rfl hz1 hz2 .i64 .i64 _ _ rfl rfl m m (by have := HM.out; omega) (by have := HM.out; omega) (Nat.le_refl _) (by omega) (by simp only [maxLen]; omega) (Nat.le_refl _) ?_; intro w1 hg1 hown1 hgr1; have hb : Below w.heap.size w w1 := (Below.refl _ _).grown hgr1 (Nat.le_refl _) (by simp); have hblk : Blk w1 w.heap.size 88 (wrow (wordsN 0 4 l) m) := (by unfold Blk; rw [hg1]; simp [wrow, wordsN, wvs]); clear hg1 hown1 hgr1))
  clear hq
  go_loopw [14] (RowRel w 4 m w.heap.size l) (fun i _ => m - (intOf i).toNat)
  case atStart => exact ⟨0, Nat.zero_le _, rfl, hblk, hb⟩
  case round =>
    obtain ⟨k, hk, rfl, hblk, hb⟩ := hrel
    by_cases hlt : k < m
    · have hml2 : (m : Int) * 4 = (l.length : Int) := by have := HM.out; omega
      have hlo : 0 < l.length := by have := HM.out; omega
      obtain ⟨ab, ao, rfl, _, _⟩ := hr.at_ (by rw [bvs_length]; exact hlo)
      have hcell := hblk.cell k
      rw [wrow_here k 4 m l hlt] at hcell
      have hfr := hblk.frozen k
      have hset := hblk.set_ k (.int .u64 (leN ((l.drop (k * 4)).take 4) : Int))
      rw [wrow_next k 4 m l hlt] at hset
      obtain ⟨ch, hch⟩ : ∃ ch, ch = (l.drop (k * 4)).take 4 := ⟨_, rfl⟩
      have hrc : Rd wr wr.heap.size (some ⟨ab, ao + k * 4, none⟩) (bvs ch) := by
        have := ((((hr.below hb).more hb.size).drop (k * 4)).take 4)
        rw [bvs_drop, bvs_take, ← hch] at this
        simpa [Addr.add_lit] using this
      have hcl : ch.length = 4 := by rw [hch, List.length_take, List.length_drop]; have := HM.out; omega
      rw [← hch] at hset
      have HSET := Lib.hid hset
      have HRC := Lib.hid hrc
      have HCL := Lib.hid hcl
      have hk0 : (k : Int) < (m : Int) := by omega
      have hkl : (k : Int) * 4 + 4 ≤ (l.length : Int) := by omega
      have hkl2 : (k : Int) * 4 + 4 ≤ (c : Int) := by omega
      clear hset hrc hcl hch hblk
      go_wp2_with fail
      refine (together_u32 _ _ _ ch _ HRC.out (by have := HCL.out; omega) (by omega)).mono ?_
      rintro e w' ⟨rfl, rfl⟩
      have hle := leN_lt ch
      rw [HCL.out] at hle
      have hle2 : (leN ch : Int) < 4294967296 := by omega
      have hle3 : (0 : Int) ≤ (leN ch : Int) := by omega
      clear hle
      go_wp2
      go_roundw
      case rel => exact ⟨k + 1, by omega, by go_num, HSET.out, hb.setCell (Nat.le_refl _) _⟩
      case measure => simp [intOf]; omega
    · obtain rfl : k = m := by omega
      have hfull := wrow_full (wordsN k 4 l)
      rw [wordsN_len] at hfull
      rw [hfull] at hblk
      have hrd := Rd.of_blk hblk
      have HRD := Lib.hid hrd
      clear hblk hfull hrd
      go_wp2
      go_ret
      exact ⟨.slice (some ⟨w.heap.size, 0, none⟩) k k, rfl, ⟨⟨_, k, by rw [wvs_length, wordsN_len], by rw [wvs_length, wordsN_len]; exact Nat.le_refl _, HRD.out⟩, FreshV.at_ (Nat.le_refl _)⟩, hb⟩

set_option maxHeartbeats 1000000 in
set_option maxRecDepth 100000 in
theorem row_u64 (A : Option Addr) (n c m : Nat) (l : List UInt8) (w : World) (hr : Rd w w.heap.size A (bvs l)) (hn : l.length = n) (hm : n = m * 8) (hnc : n ≤ c) (hb1 : n ≤ 100000) :
    Calls Tryz.prog 295 #[.slice A n c, .int .i64 8] w (NewWF w (wordsN m 8 l)) := by
  obtain ⟨i0, hi, hz0, hz1, hz2⟩ := info_parts info_u64r
  subst hn
  have hq : (l.length : Int) / 8 = (m : Int) := by omega
  have hml : m ≤ 100000 := by omega
  have HM := Lib.hid hm
  clear hm
  go_enter Tryz.func295, Tryz.ntmps295
  go_wp2_with (at_make; go_must (refine wpList_mk rfl (.tmp 10) (.tmp 10) 85 rfl w.heap.size 88 i0 (.int .u64 0) 8 Tryz.underlying85 hi hz0 rfl hz1 hz2 .i64 .i64 _ _ rfl rfl m m (by have := HM.out; omega) (by have := HM.out; omega) (Nat.le_refl _) (by omega) (by simp only [maxLen]; omega) (Nat.le_refl _) ?_; intro w1 hg1 hown1 hgr1; have hb : Below w.heap.size w w1 := (Below.refl _ _).grown hgr1 (Nat.le_refl _) (by simp); have hblk : Blk w1 w.heap.size 88 (wrow (wordsN 0 8 l) m) := (by unfold Blk; rw [hg1]; simp [wrow, wordsN, wvs]); clear hg1 hown1 hgr1))
  clear hq
  go_loopw [14] (RowRel w 8 m w.heap.size l) (fun i _ => m - (intOf i).toNat)
  case atStart => exact ⟨0, Nat.zero_le _, rfl, hblk, hb⟩
  case round =>
    obtain ⟨k, hk, rfl, hblk, hb⟩ := hrel
    by_cases hlt : k < m
    · have hml2 : (m : Int) * 8 = (l.length : Int) := by have := HM.out; omega
      have hlo : 0 < l.length := by have := HM.out; omega
      obtain ⟨ab, ao, rfl, _, _⟩ := hr.at_ (by rw [bvs_length]; exact hlo)
      have hcell := hblk.cell k
      rw [wrow_here k 8 m l hlt] at hcell
      have hfr := hblk.frozen k
      have hset := hblk.set_ k (.int .u64 (leN ((l.drop (k * 8)).take 8) : Int))
      rw [wrow_next k 8 m l hlt] at hset
      obtain ⟨ch, hch⟩ : ∃ ch, ch = (l.drop (k * 8)).take 8 := ⟨_, rfl⟩
      have hrc : Rd wr wr.heap.size (some ⟨ab, ao + k * 8, none⟩) (bvs ch) := by
        have := ((((hr.below hb).more hb.size).drop (k * 8)).take 8)
        rw [bvs_drop, bvs_take, ← hch] at this
        simpa [Addr.add_lit] using this
      have hcl : ch.length = 8 := by rw [hch, List.length_take, List.length_drop]; have := HM.out; omega
      rw [← hch] at hset
      have HSET := Lib.hid hset
      have HRC := Lib.hid hrc
      have HCL := Lib.hid hcl
      have hk0 : (k : Int) < (m : Int) := by omega
      have hkl : (k : Int) * 8 + 8 ≤ (l.length : Int) := by omega
      have hkl2 : (k : Int) * 8 + 8 ≤ (c : Int) := by omega
      clear hset hrc hcl hch hblk
      go_wp2_with fail
      refine (together_u64 _ _ _ ch _ HRC.out (by have := HCL.out; omega) (by omega)).mono ?_
      rintro e w' ⟨rfl, rfl⟩
      have hle := leN_lt ch
      rw [HCL.out] at hle
      have hle2 : (leN ch : Int) < 18446744073709551616 := by omega
      have hle3 : (0 : Int) ≤ (leN ch : Int) := by omega
      clear hle
      go_wp2
      go_roundw
      case rel => exact ⟨k + 1, by omega, by go_num, HSET.out, hb.setCell (Nat.le_refl _) _⟩
      case measure => simp [intOf]; omega
    · obtain rfl : k = m := by omega
      have hfull := wrow_full (wordsN k 8 l)
      rw [wordsN_len] at hfull
      rw [hfull] at hblk
      have hrd := Rd.of_blk hblk
      have HRD := Lib.hid hrd
      clear hblk hfull hrd
      go_wp2
      go_ret
      exact ⟨.slice (some ⟨w.heap.size, 0, none⟩) k k, rfl, ⟨⟨_, k, by rw [wvs_length, wordsN_len], by rw [wvs_length, wordsN_len]; exact Nat.le_refl _, HRD.out⟩, FreshV.at_ (Nat.le_refl _)⟩, hb⟩
end Go.Proofs.YtflcmmeoppdhdaaGreat
namespace Go.Proofs.YtflcmmeoppdhdaaGreat
open Go.RowKit

set_option maxRecDepth 100000 in
theorem wordWordsF_any (W : Nat) (hW : IsW W) (A : Option Addr) (n c m : Nat) (l : List UInt8) (w : World) (hr : Rd w w.heap.size A (bvs l)) (hn : l.length = n) (hm : n = m * W) (hnc : n ≤ c) (hb1 : n ≤ 100000) :
    Calls Tryz.prog 287 #[.slice A n c, .int .i64 (W : Int)] w (NewWF w (wordsN m W l)) := by
  rcases hW with rfl | rfl | rfl | rfl
  · have c1 := row_u8 A n c m l w hr hn hm hnc hb1
    have C1 := Lib.hid c1
    clear c1 hn hm
    go_enter Tryz.func287, Tryz.ntmps287
    go_wp2_with (go_at_call 292; go_must (refine C1.out.mono ?_; rintro e w' ⟨v, rfl, h1, h2⟩))
    go_ret
    exact ⟨v, rfl, h1, h2⟩
  · have c1 := row_u16 A n c m l w hr hn hm hnc hb1
    have C1 := Lib.hid c1
    clear c1 hn hm
    go_enter Tryz.func287, Tryz.ntmps287
    go_wp2_with (go_at_call 293; go_must (refine C1.out.mono ?_; rintro e w' ⟨v, rfl, h1, h2⟩))
    go_ret
    exact ⟨v, rfl, h1, h2⟩
  · have c1 := row_u32 A n c m l w hr hn hm hnc hb1
    have C1 := Lib.hid c1
    clear c1 hn hm
    go_enter Tryz.func287, Tryz.ntmps287
    go_wp2_with (go_at_call 294; go_must (refine C1.out.mono ?_; rintro e w' ⟨v, rfl, h1, h2⟩))
    go_ret
    exact ⟨v, rfl, h1, h2⟩
  · have c1 := row_u64 A n c m l w hr hn hm hnc hb1
    have C1 := Lib.hid c1
    clear c1 hn hm
    go_enter Tryz.func287, Tryz.ntmps287
    go_wp2_with (go_at_call 295; go_must (refine C1.out.mono ?_; rintro e w' ⟨v, rfl, h1, h2⟩))
    go_ret
    exact ⟨v, rfl, h1, h2⟩

theorem info_u8w : (Tryz.prog.info? 5).map (fun i => (i.zero, i.size, i.bytes)) = some (some (.int .u8 0), 1, 1) := by kernel_rfl
/-- Bytes in a row that is new. -/
def FreshB (B : Nat) (l : List UInt8) (v : Value) (w : World) : Prop := IsBytes l v w ∧ FreshV B v
theorem FreshB.grow (B : Nat) (l : List UInt8) (v : Value) (w w' : World) (h : FreshB B l v w) (hb : Below w.heap.size w w') : FreshB B l v w' := ⟨h.1.grow hb, h.2⟩
def NewBF (w : World) (l : List UInt8) (e : Ending) (w' : World) : Prop := ∃ v, e = .returned v ∧ FreshB w.heap.size l v w' ∧ Below w.heap.size w w'
theorem fresh_own {w : World} {base e size n : Nat} {v : Value} {xs : List Value} (h : w.ownsRow base e size v n xs) : FreshV base v := by
  rcases h.2 with ⟨rfl, _⟩ | ⟨g, cap, cur, rfl, hb, _⟩
  · exact FreshV.nil _
  · exact FreshV.at_ hb
theorem size_u8w : (Tryz.prog.info? 5).map (·.size) = some 1 := by kernel_rfl

set_option maxRecDepth 100000 in
set_option maxHeartbeats 400000 in
theorem wcloneF_any (A : Option Addr) (n c : Nat) (l : List UInt8) (w : World) (hr : Rd w w.heap.size A (bvs l)) (hn : l.length = n) (hb1 : n ≤ 100000) :
    Calls Tryz.prog 164 #[.slice A n c] w (NewBF w l) := by
  obtain ⟨i0, hi, hz0, hz1, hz2⟩ := info_parts info_u8w
  cases A with
  | none =>
    have hl : l = [] := by
      cases l with
      | nil => rfl
      | cons a r => obtain ⟨_, _, e', _⟩ := hr 0 _ (bvs_get (a :: r) 0 (by simp)); cases e'
    subst hl
    have hnil := fun W => Lib.run_eql_slice_nil (P := Tryz.prog) W 22 5 none n c 0 0 Tryz.underlying22
    clear hn
    go_enter Tryz.func164, Tryz.ntmps164
    go_wp2
    go_ret
    exact ⟨.slice none 0 0, rfl, ⟨⟨none, 0, rfl, Nat.le_refl _, Rd.nil_ _ _ _⟩, FreshV.nil _⟩, Below.refl _ _⟩
  | some ad =>
    subst hn
    have hnil := fun W => Lib.run_eql_slice_nil (P := Tryz.prog) W 22 5 (some ad) l.length c 0 0 Tryz.underlying22
    have hnews : (bvs l).length = l.length * 1 := by rw [bvs_length, Nat.mul_one]
    have HNEWS := Lib.hid hnews
    clear hnews
    go_enter Tryz.func164, Tryz.ntmps164
    go_wp2_with ((with_reducible show wpList _ _ _ (({ dst := some 7, op := _, type := _, pos := _, after := _, guard := _ } : Oper) :: _) _ _); go_must (refine wpList_app rfl (.tmp 5) (.tmp 6) 22 rfl w.heap.size 5 i0 (.int .u8 0) 1 1 Tryz.underlying22 hi hz0 hz1 hz2 rfl (by decide) _ 0 [] rfl (World.ownsRow_made w #[] 0 (Nat.le_refl _) (Nat.zero_le _) rfl) w.heap.size (some ad) l.length c (bvs l) rfl (hr.alloc (Nat.le_refl _) _) HNEWS.out (bvs_one _) (by simp only [maxLen]; omega) (by omega) (by simp) ?_; intro v2 w2 hown2 hg2; rw [Nat.zero_add, List.nil_append] at hown2; have hb2 : Below w.heap.size w w2 := ((Below.refl _ _).alloc (Nat.le_refl _) _).grown hg2 (by simp) (own_block (World.ownsRow_made (e := 5) (size := 1) w #[] 0 (Nat.le_refl _) (Nat.zero_le _) rfl)); clear hg2))
    go_ret
    exact ⟨v2, rfl, ⟨IsBytes.of_own hown2, fresh_own hown2⟩, hb2⟩

def NewTakeF (w : World) (ws : List Nat) (l : List UInt8) (e : Ending) (w' : World) : Prop :=
  ∃ v1 v2, e = .returned (.tuple #[v1, v2]) ∧ FreshC w.heap.size (wvs ws) v1 w' ∧ FreshB w.heap.size l v2 w' ∧ Below w.heap.size w w'
set_option maxRecDepth 100000 in
theorem wordTakeF_wrong (A : Option Addr) (n c : Nat) (W : Int) (w : World) (hW : rightB W = false) :
    Calls Tryz.prog 282 #[.slice A n c, .int .i64 W] w (NewTakeF w [] []) := by
  have c1 := wordRight_any W false hW.symm
  have C1 := Lib.hid c1
  clear c1
  go_enter Tryz.func282, Tryz.ntmps282
  go_wp2_with (go_at_call 18; go_must (refine (C1.out _).mono ?_; rintro e w' ⟨rfl, rfl⟩))
  go_ret2
  exact ⟨.slice none 0 0, .slice none 0 0, rfl, ⟨⟨none, 0, rfl, Nat.le_refl _, Rd.nil_ _ _ _⟩, FreshV.nil _⟩, ⟨⟨none, 0, rfl, Nat.le_refl _, Rd.nil_ _ _ _⟩, FreshV.nil _⟩, Below.refl _ _⟩
set_option maxHeartbeats 1000000 in
set_option maxRecDepth 100000 in
theorem wordTakeF_any (W : Nat) (hW : IsW W) (A : Option Addr) (n c : Nat) (l : List UInt8) (w : World) (hr : Rd w w.heap.size A (bvs l)) (hn : l.length = n) (hnc : n ≤ c) (hb1 : n ≤ 100000) :
    Calls Tryz.prog 282 #[.slice A n c, .int .i64 (W : Int)] w (NewTakeF w (wordsN (n / W) W l) (l.drop (n / W * W))) := by
  subst hn
  obtain ⟨m, hm⟩ : ∃ m, m = l.length / W := ⟨_, rfl⟩
  obtain ⟨q, hq⟩ : ∃ q, q = m * W := ⟨_, rfl⟩
  have hdm := Nat.div_add_mod l.length W
  rw [← hm, Nat.mul_comm, ← hq] at hdm
  have hW1 := hW.pos
  have hql : q ≤ l.length := by omega
  have hqc : q ≤ c := by omega
  have hend : (l.length : Int) - (l.length : Int) % (W : Int) = (q : Int) := by
    have : ((l.length : Int) % (W : Int)) = ((l.length % W : Nat) : Int) := by simp
    rw [this]; omega
  rw [← hm, ← hq]
  have hws := wordsN_take m W l
  rw [← hq] at hws
  obtain ⟨ws, hwse⟩ : ∃ ws, ws = wordsN m W l := ⟨_, rfl⟩
  rw [← hwse] at hws
  rw [← hwse]
  have hlq : (l.take q).length = q := by rw [List.length_take]; omega
  have c1 := wordRight_any (W : Int) true hW.right
  have c2 := fun (A : Option Addr) (c : Nat) (W' : World) (h : Rd W' W'.heap.size A (bvs (l.take q))) (hc : q ≤ c) => wordWordsF_any W hW A q c m (l.take q) W' h hlq hq hc (by omega)
  rw [hws] at c2
  have C1 := Lib.hid c1
  have C2 := Lib.hid c2
  have hWi : (1 : Int) ≤ (W : Int) := by omega
  clear c1 c2 hws hwse hlq hq hm hdm
  go_enter Tryz.func282, Tryz.ntmps282
  go_wp2_with (go_at_call 18; go_must (refine (C1.out _).mono ?_; rintro e w' ⟨rfl, rfl⟩))
  clear hend
  refine wp_region_grow [⟨17, [], .is (.slice A l.length c)⟩,
    ⟨18, [], .is (.int .i64 (q : Int))⟩,
    ⟨19, [0, 1], .is (.slice A q c)⟩,
    ⟨20, [], .is (.int .i64 (W : Int))⟩,
    ⟨21, [2, 3], .such (FreshC w.heap.size (wvs ws)) (FreshC.grow w.heap.size (wvs ws))⟩,
    ⟨22, [], .is (.slice A l.length c)⟩,
    ⟨23, [], .is (.int .i64 (q : Int))⟩,
    ⟨24, [5, 6], .bytes (l.drop q)⟩,
    ⟨25, [7], .such (FreshB w.heap.size (l.drop q)) (FreshB.grow w.heap.size (l.drop q))⟩,
    ⟨4, [4], .such (FreshC w.heap.size (wvs ws)) (FreshC.grow w.heap.size (wvs ws))⟩,
    ⟨5, [8], .such (FreshB w.heap.size (l.drop q)) (FreshB.grow w.heap.size (l.drop q))⟩]
    [(0, .slice A l.length c), (6, .int .i64 (q : Int)), (1, .int .i64 (W : Int))] (by kernel_rfl) (by kernel_rfl) (by kernel_rfl) (by kernel_rfl) (by kernel_rfl) ⟨rfl, rfl, rfl, trivial⟩ ?_ ?_
  · repeat' (first | exact OblGAll.nil | refine OblGAll.cons ?_ ?_)
    all_goals (intro ev yi W' hB _ hf ho hn; simp only [OutsSay, NeedSay, rowAt, Fact.says, and_true] at ho hn)
    all_goals (rw [if_pos (by simp [Region.wanted])])
    all_goals (try ((simp [OpSays, execOp, Fact.says, go_sem, ho, hn, hqc, Below.refl]; done)))
    · exact says_call Tryz.call287 (vs := #[.slice A q c, .int .i64 (W : Int)]) rfl hf (by simp [hn]) ((C2.out A c W' (by rw [← bvs_take]; exact ((hr.below hB).more hB.size).take q) hqc).mono fun _ _ h => by obtain ⟨v, he, h1, h2⟩ := h; exact ⟨v, he, ⟨h1.1, h1.2.low hB.size⟩, h2⟩)
    · refine says_from rfl Tryz.underlying22 size_u8w hn.1 hn.2.2.1 ((hr.below hB).more hB.size) (bvs_length l) hnc hql fun A' c' h1 h2 => ⟨⟨A', c', ?_, ?_, ?_⟩, Below.refl _ _⟩
      · rw [List.length_drop]
      · rw [List.length_drop]; exact h1
      · rw [← bvs_drop]; exact h2
    · obtain ⟨A', c', hv, h1, h2⟩ := hn.1
      rw [List.length_drop] at hv h1
      exact says_call Tryz.call164 (vs := #[.slice A' (l.length - q) c']) rfl hf (by simp [hv]) ((wcloneF_any A' (l.length - q) c' (l.drop q) W' h2 (List.length_drop) (by omega)).mono fun _ _ h => by obtain ⟨v, he, h1, h2⟩ := h; exact ⟨v, he, ⟨h1.1, h1.2.low hB.size⟩, h2⟩)
  · intro X w4 hb4 hx
    have h9 : FreshC w.heap.size (wvs ws) (X 9) w4 := hx 9 (by decide)
    have h10 : FreshB w.heap.size (l.drop q) (X 10) w4 := hx 10 (by decide)
    clear hx
    have H9 := Lib.hid h9
    have H10 := Lib.hid h10
    clear h9 h10
    simp only [layAll, List.setIfInBounds_toArray, List.set_cons_succ, List.set_cons_zero]
    go_wp2
    go_ret2
    exact ⟨_, _, rfl, H9.out, H10.out, hb4⟩
end Go.Proofs.YtflcmmeoppdhdaaGreat
