/-
  Plain mathematics of layer 18: a letter goes into a state, and comes out. Written ahead of the code. · Plain mathematics of layer 17: a span, the bytes that move, and a number within. Written ahead of the code. · Layer 17: what an encoder and a decoder hold: plain mathematics. · Plain mathematics of layer 16: shares as bytes, and back. Written ahead of the code. · Contracts of the number functions of layer 2: Len64, Size, Fold, Unfold.
-/
import Derived.Test.YtflcmmeoppdhdaaGreatR01
import Derived.Test.YtflcmmeoppdhdaaGreatR02
import Derived.Lib.BitFns
import Derived.Test.YtflcmmeoppdhdaaGreatProg
import Derived.Lib.Strings
import Derived.Lib.Slices
import Derived.Lib.Small
import Derived.Lib.Walk
namespace Go.Proofs.YtflcmmeoppdhdaaGreat

/-- The bytes that go out ahead of a letter of this share, the first one first. -/
inductive Goes (s : Nat) : Nat → List Nat → Nat → Prop
  | stop (x : Nat) (h : x < s * 524288) : Goes s x [] x
  | more (x : Nat) (o : List Nat) (y : Nat) (h : s * 524288 ≤ x) (hr : Goes s (x / 256) o y) : Goes s x (x % 256 :: o) y
theorem Goes.one {s x : Nat} {o o' : List Nat} {y y' : Nat} (h : Goes s x o y) (h' : Goes s x o' y') : o = o' ∧ y = y' := by
  induction h generalizing o' y' with
  | stop x h =>
    cases h' with
    | stop => exact ⟨rfl, rfl⟩
    | more _ _ _ hh => omega
  | more x o y hh hr ih =>
    cases h' with
    | stop _ h => omega
    | more _ o2 _ _ hr2 =>
      obtain ⟨e1, e2⟩ := ih hr2
      exact ⟨by rw [e1], e2⟩
theorem goes_all {s : Nat} (hs : 1 ≤ s) : ∀ x : Nat, ∃ o y, Goes s x o y := by
  intro x
  induction x using Nat.strongRecOn with
  | _ x ih =>
    by_cases h : x < s * 524288
    · exact ⟨[], x, .stop x h⟩
    · obtain ⟨o, y, hg⟩ := ih (x / 256) (by omega)
      exact ⟨_, y, .more x o y (by omega) hg⟩
theorem Goes.bytes {s x : Nat} {o : List Nat} {y : Nat} (h : Goes s x o y) : ∀ b ∈ o, b < 256 := by
  induction h with
  | stop => intro b hb; simp at hb
  | more x o y hh hr ih =>
    intro b hb
    rcases List.mem_cons.1 hb with rfl | hb
    · omega
    · exact ih b hb
theorem Goes.range {s x : Nat} {o : List Nat} {y : Nat} (h : Goes s x o y) : s * 2048 ≤ x → s * 2048 ≤ y ∧ y < s * 524288 := by
  induction h with
  | stop x h => intro h1; exact ⟨h1, h⟩
  | more x o y hh hr ih =>
    intro _
    have h2 : s * 2048 ≤ x / 256 := (Nat.le_div_iff_mul_le (by decide)).2 (by rw [Nat.mul_assoc]; exact hh)
    exact ih h2
/-- Bytes come in, as long as a state is small. -/
inductive Reads : Nat → List Nat → Nat → List Nat → Prop
  | none (x : Nat) (S : List Nat) : Reads x S x S
  | next (y b : Nat) (S : List Nat) (x : Nat) (T : List Nat) (h : y < 8388608) (hr : Reads (256 * y + b) S x T) : Reads y (b :: S) x T
theorem Reads.trans {x y z : Nat} {S T U : List Nat} (h : Reads x S y T) (k : Reads y T z U) : Reads x S z U := by
  induction h with
  | none => exact k
  | next y b S x T hh _ ih => exact .next y b S z U hh (ih k)
/-- What went out comes in again, in the other order. -/
theorem Goes.back {s x : Nat} {o : List Nat} {y : Nat} (h : Goes s x o y) : x < 2147483648 → ∀ T, Reads y (o.reverse ++ T) x T := by
  induction h with
  | stop x h => intro _ T; exact .none x T
  | more x o y hh hr ih =>
    intro hx T
    have h1 := ih (by omega) (x % 256 :: T)
    have e : 256 * (x / 256) + x % 256 = x := by omega
    rw [List.reverse_cons, List.append_assoc]
    refine h1.trans (.next (x / 256) (x % 256) T x T (by omega) ?_)
    rw [e]
    exact .none x T
/-- A letter goes in. -/
def inX (f s y : Nat) : Nat := y / s * 4096 + f + y % s
/-- A state, and the letter that went in last: it comes out. -/
theorem inX_out {f s y : Nat} (hs : 1 ≤ s) (hf : f + s ≤ 4096) : inX f s y % 4096 = f + y % s ∧ inX f s y / 4096 = y / s ∧ s * (inX f s y / 4096) + inX f s y % 4096 - f = y := by
  have h1 : y % s < s := Nat.mod_lt y (by omega)
  have e1 : inX f s y % 4096 = f + y % s := by unfold inX; omega
  have e2 : inX f s y / 4096 = y / s := by unfold inX; omega
  refine ⟨e1, e2, ?_⟩
  rw [e1, e2]
  have := Nat.div_add_mod y s
  omega
theorem inX_range {f s y : Nat} (hs : 1 ≤ s) (hf : f + s ≤ 4096) (h1 : s * 2048 ≤ y) (h2 : y < s * 524288) : 8388608 ≤ inX f s y ∧ inX f s y < 2147483648 := by
  have h3 : y % s < s := Nat.mod_lt y (by omega)
  have h4 : 2048 ≤ y / s := (Nat.le_div_iff_mul_le (by omega)).2 (by rw [Nat.mul_comm]; exact h1)
  have h5 : y / s < 524288 := (Nat.div_lt_iff_lt_mul (by omega)).2 (by rw [Nat.mul_comm]; exact h2)
  unfold inX
  omega
/-- Letters (first, share), the state behind them, and the bytes that went out, the last one first. -/
inductive RansIn : List (Nat × Nat) → Nat → List Nat → Prop
  | none : RansIn [] 8388608 []
  | letter (f s : Nat) (l : List (Nat × Nat)) (x : Nat) (T : List Nat) (o : List Nat) (y : Nat) (h : RansIn l x T) (hg : Goes s x o y) : RansIn ((f, s) :: l) (inX f s y) (o.reverse ++ T)
/-- Letters as they may be. -/
def okL (p : Nat × Nat) : Prop := 1 ≤ p.2 ∧ p.1 + p.2 ≤ 4096
theorem RansIn.range {l : List (Nat × Nat)} {x : Nat} {T : List Nat} (h : RansIn l x T) : (∀ p ∈ l, okL p) → 8388608 ≤ x ∧ x < 2147483648 ∧ ∀ b ∈ T, b < 256 := by
  induction h with
  | none => intro _; exact ⟨Nat.le_refl _, by decide, by simp⟩
  | letter f s l x T o y h hg ih =>
    intro hp
    obtain ⟨p1, p2⟩ := hp (f, s) List.mem_cons_self
    simp only at p1 p2
    obtain ⟨i1, i2, i3⟩ := ih fun q hq => hp q (List.mem_cons_of_mem _ hq)
    obtain ⟨g1, g2⟩ := hg.range (by omega)
    obtain ⟨j1, j2⟩ := inX_range p1 p2 g1 g2
    refine ⟨j1, j2, fun b hb => ?_⟩
    rcases List.mem_append.1 hb with hb | hb
    · exact hg.bytes b (List.mem_reverse.1 hb)
    · exact i3 b hb
/-- The first letter comes out, and the bytes that went out for it come in. -/
theorem RansIn.out {f s : Nat} {l : List (Nat × Nat)} {x' : Nat} {S : List Nat} (h : RansIn ((f, s) :: l) x' S) (hp : ∀ p ∈ (f, s) :: l, okL p) :
    ∃ x T y, RansIn l x T ∧ y < s * 524288 ∧ x' % 4096 = f + y % s ∧ s * (x' / 4096) + x' % 4096 - f = y ∧ Reads y S x T ∧ 8388608 ≤ x := by
  cases h with
  | letter _ _ _ x T o y h hg =>
    obtain ⟨p1, p2⟩ := hp (f, s) List.mem_cons_self
    simp only at p1 p2
    obtain ⟨i1, i2, -⟩ := h.range fun q hq => hp q (List.mem_cons_of_mem _ hq)
    obtain ⟨g1, g2⟩ := hg.range (by omega)
    obtain ⟨e1, e2, e3⟩ := inX_out (y := y) p1 p2
    exact ⟨x, T, y, h, g2, e1, e3, hg.back i2 T, i1⟩
theorem RansIn.one {l : List (Nat × Nat)} {x x' : Nat} {T T' : List Nat} (h : RansIn l x T) (h' : RansIn l x' T') : x = x' ∧ T = T' := by
  induction h generalizing x' T' with
  | none => cases h'; exact ⟨rfl, rfl⟩
  | letter f s l x T o y h hg ih =>
    cases h' with
    | letter _ _ _ x2 T2 o2 y2 h2 hg2 =>
      obtain ⟨rfl, rfl⟩ := ih h2
      obtain ⟨rfl, rfl⟩ := hg.one hg2
      exact ⟨rfl, rfl⟩
theorem goes_few {s : Nat} (hs : 1 ≤ s) : ∀ (k x : Nat) (o : List Nat) (y : Nat), Goes s x o y → x < 256 ^ k * 524288 → o.length ≤ k := by
  intro k
  induction k with
  | zero =>
    intro x o y h hx
    cases h with
    | stop => exact Nat.le_refl _
    | more _ _ _ hh => simp only [Nat.pow_zero, Nat.one_mul] at hx; omega
  | succ k ih =>
    intro x o y h hx
    cases h with
    | stop => exact Nat.zero_le _
    | more _ o2 _ hh hr =>
      have h2 : x / 256 < 256 ^ k * 524288 := (Nat.div_lt_iff_lt_mul (by decide)).2 (by rw [Nat.pow_succ] at hx; rw [Nat.mul_assoc, Nat.mul_comm 524288, ← Nat.mul_assoc]; exact hx)
      have := ih _ _ _ hr h2
      simp only [List.length_cons]
      omega
theorem RansIn.len {l : List (Nat × Nat)} {x : Nat} {T : List Nat} (h : RansIn l x T) : (∀ p ∈ l, okL p) → T.length ≤ 2 * l.length := by
  induction h with
  | none => intro _; exact Nat.le_refl _
  | letter f s l x T o y h hg ih =>
    intro hp
    have h1 := ih fun q hq => hp q (List.mem_cons_of_mem _ hq)
    have h2 := h.range fun q hq => hp q (List.mem_cons_of_mem _ hq)
    have h3 := goes_few (hp (f, s) List.mem_cons_self).1 2 x o y hg (by omega)
    simp only [List.length_append, List.length_reverse, List.length_cons]
    omega
end Go.Proofs.YtflcmmeoppdhdaaGreat
namespace Go.Proofs.YtflcmmeoppdhdaaGreat

/-- Are the highest bytes of L, and of L and R together, the same? -/
def SameB (L R : Nat) : Prop := L / 16777216 = (L + R) % 4294967296 / 16777216
instance (L R : Nat) : Decidable (SameB L R) := by unfold SameB; infer_instance
/-- R, ahead of a byte that moves. -/
def cutR (L R : Nat) : Nat := if SameB L R then R else 65536 - L % 65536
/-- The bytes that move, and the span behind them. -/
inductive Moves : Nat → Nat → List Nat → Nat → Nat → Prop
  | stop (L R : Nat) (h : ¬ SameB L R) (h2 : 65536 ≤ R) : Moves L R [] L R
  | move (L R : Nat) (o : List Nat) (L' R' : Nat) (h : SameB L R ∨ R < 65536) (hr : Moves (256 * L % 4294967296) (256 * cutR L R % 4294967296) o L' R') : Moves L R (L / 16777216 :: o) L' R'
theorem Moves.one {L R : Nat} {o o' : List Nat} {A B A' B' : Nat} (h : Moves L R o A B) (h' : Moves L R o' A' B') : o = o' ∧ A = A' ∧ B = B' := by
  induction h generalizing o' A' B' with
  | stop L R h h2 =>
    cases h' with
    | stop => exact ⟨rfl, rfl, rfl⟩
    | move _ _ _ _ _ hh => rcases hh with hh | hh
                           · exact absurd hh h
                           · omega
  | move L R o A B hh hr ih =>
    cases h' with
    | stop _ _ h h2 => rcases hh with hh | hh
                       · exact absurd hh h
                       · omega
    | move _ _ o2 _ _ _ hr2 =>
      obtain ⟨e1, e2, e3⟩ := ih hr2
      exact ⟨by rw [e1], e2, e3⟩
/-- A span as it may be. -/
def InSpan (L R : Nat) : Prop := L < 4294967296 ∧ 1 ≤ R ∧ L + R ≤ 4294967296 ∧ (L + R = 4294967296 → 16777216 ≤ L)
theorem span_start : InSpan 0 4294967295 := ⟨by decide, by decide, by decide, by omega⟩
/-- A byte moves as both are the same. -/
theorem same_step {L R : Nat} (h : InSpan L R) (hs : SameB L R) : R < 16777216 ∧ 256 * L % 4294967296 = 256 * (L % 16777216) ∧ 256 * R % 4294967296 = 256 * R ∧ L % 16777216 + R < 16777216 ∧ InSpan (256 * L % 4294967296) (256 * R % 4294967296) := by
  obtain ⟨h1, h2, h3, h4⟩ := h
  unfold SameB at hs
  have h5 : L + R < 4294967296 := by
    refine Nat.lt_of_le_of_ne h3 fun e => ?_
    have := h4 e
    rw [e] at hs
    omega
  rw [Nat.mod_eq_of_lt h5] at hs
  have h6 : L % 16777216 + R < 16777216 := by omega
  have e1 : 256 * L % 4294967296 = 256 * (L % 16777216) := by omega
  have e2 : 256 * R % 4294967296 = 256 * R := by omega
  refine ⟨by omega, e1, e2, h6, ?_⟩
  rw [e1, e2]
  refine ⟨by omega, by omega, by omega, by omega⟩
/-- A byte moves as R is small. -/
theorem cut_step {L R : Nat} (h : InSpan L R) (hs : ¬ SameB L R) (hR : R < 65536) :
    1 ≤ 65536 - L % 65536 ∧ 65536 - L % 65536 ≤ R ∧ 65536 - L % 65536 ≤ 65536 ∧ 256 * L % 4294967296 = 256 * (L % 16777216) ∧ L % 16777216 + (65536 - L % 65536) = 16777216 ∧ 256 * (65536 - L % 65536) % 4294967296 = 256 * (65536 - L % 65536) := by
  obtain ⟨h1, h2, h3, h4⟩ := h
  unfold SameB at hs
  have h6 : 16777216 ≤ L % 16777216 + R := by
    refine Nat.le_of_not_lt fun hlt => hs ?_
    by_cases e : L + R = 4294967296
    · omega
    · rw [Nat.mod_eq_of_lt (by omega)]; omega
  have e1 : 256 * L % 4294967296 = 256 * (L % 16777216) := by omega
  have e3 : L % 16777216 + (65536 - L % 65536) = 16777216 := by omega
  exact ⟨by omega, by omega, by omega, e1, e3, by omega⟩
/-- A span that goes up to its end: no bytes are the same; few move. -/
theorem moves_end : ∀ (f L R : Nat), L + R = 4294967296 → 1 ≤ R → R ≤ 16777216 → 65536 ≤ R * 256 ^ f → ∃ o L' R', Moves L R o L' R' ∧ InSpan L' R' ∧ 65536 ≤ R' ∧ o.length ≤ f := by
  intro f
  induction f with
  | zero =>
    intro L R h1 h2 h3 h4
    have hs : ¬ SameB L R := by unfold SameB; rw [h1]; omega
    exact ⟨[], L, R, .stop L R hs (by simpa using h4), ⟨by omega, h2, by omega, by omega⟩, by simpa using h4, Nat.le_refl _⟩
  | succ f ih =>
    intro L R h1 h2 h3 h4
    have hs : ¬ SameB L R := by unfold SameB; rw [h1]; omega
    by_cases hR : 65536 ≤ R
    · exact ⟨[], L, R, .stop L R hs hR, ⟨by omega, h2, by omega, by omega⟩, hR, Nat.zero_le _⟩
    · have hc : cutR L R = R := by unfold cutR; rw [if_neg hs]; omega
      have e1 : 256 * L % 4294967296 + 256 * R = 4294967296 := by omega
      have e2 : 256 * R % 4294967296 = 256 * R := by omega
      obtain ⟨o, L', R', hm, hi, hr, hl⟩ := ih (256 * L % 4294967296) (256 * R) e1 (by omega) (by omega) (by rw [Nat.pow_succ] at h4; rw [Nat.mul_comm 256 R, Nat.mul_assoc, Nat.mul_comm 256]; exact h4)
      exact ⟨_, L', R', .move L R o L' R' (.inr (by omega)) (by rw [hc, e2]; exact hm), hi, hr, by simp; omega⟩
theorem moves_some : ∀ (f L R : Nat), InSpan L R → 4294967296 ≤ R * 256 ^ f → ∃ o L' R', Moves L R o L' R' ∧ InSpan L' R' ∧ 65536 ≤ R' ∧ o.length ≤ f + 3 := by
  intro f
  induction f with
  | zero =>
    intro L R h h4
    obtain ⟨h1, h2, h3, h5⟩ := h
    simp only [Nat.pow_zero, Nat.mul_one] at h4
    omega
  | succ f ih =>
    intro L R h h4
    by_cases hs : SameB L R
    · obtain ⟨h1, e1, e2, h6, h7⟩ := same_step h hs
      have hc : cutR L R = R := by unfold cutR; rw [if_pos hs]
      obtain ⟨o, L', R', hm, hi, hr, hl⟩ := ih _ _ h7 (by rw [e2]; rw [Nat.pow_succ] at h4; rw [Nat.mul_comm 256 R, Nat.mul_assoc, Nat.mul_comm 256]; exact h4)
      exact ⟨_, L', R', .move L R o L' R' (.inl hs) (by rw [hc]; exact hm), hi, hr, by simp; omega⟩
    · by_cases hR : 65536 ≤ R
      · exact ⟨[], L, R, .stop L R hs hR, h, hR, Nat.zero_le _⟩
      · obtain ⟨c1, c2, c3, c4, c5, c6⟩ := cut_step h hs (by omega)
        have hc : cutR L R = 65536 - L % 65536 := by unfold cutR; rw [if_neg hs]
        obtain ⟨o, L', R', hm, hi, hr, hl⟩ := moves_end 2 (256 * L % 4294967296) (256 * (65536 - L % 65536)) (by omega) (by omega) (by omega) (by omega)
        exact ⟨_, L', R', .move L R o L' R' (.inr (by omega)) (by rw [hc, c6]; exact hm), hi, hr, by simp; omega⟩
/-- From each span some bytes move, or none, and then it is one that parts may narrow. -/
theorem moves_all {L R : Nat} (h : InSpan L R) : ∃ o L' R', Moves L R o L' R' ∧ InSpan L' R' ∧ 65536 ≤ R' ∧ o.length ≤ 7 := moves_some 4 L R h (by have := h.2.1; omega)
/-- A span, narrowed. -/
theorem narrow_span {L R low size total : Nat} (h : InSpan L R) (hR : 65536 ≤ R) (h1 : 1 ≤ size) (h2 : low + size ≤ total) (h3 : total ≤ 65536) :
    1 ≤ R / total ∧ (low + size) * (R / total) ≤ R ∧ (L + low * (R / total)) % 4294967296 = L + low * (R / total) ∧ InSpan (L + low * (R / total)) (size * (R / total)) := by
  obtain ⟨g1, g2, g3, g4⟩ := h
  have hr : 1 ≤ R / total := (Nat.le_div_iff_mul_le (by omega)).2 (by omega)
  have hm : (low + size) * (R / total) ≤ R := Nat.le_trans (Nat.mul_le_mul_right _ h2) (Nat.mul_div_le R total)
  obtain ⟨r, hrr⟩ : ∃ r, r = R / total := ⟨_, rfl⟩
  rw [← hrr] at hr hm ⊢
  have hs : 1 ≤ size * r := Nat.mul_pos h1 hr
  have e : (low + size) * r = low * r + size * r := Nat.add_mul ..
  refine ⟨hr, hm, Nat.mod_eq_of_lt (by omega), by omega, hs, by omega, fun hh => by have := g4 (by omega); omega⟩

/-- The number of the first four bytes, the highest first. -/
def num4 (B : List Nat) : Nat := B.getD 0 0 * 16777216 + B.getD 1 0 * 65536 + B.getD 2 0 * 256 + B.getD 3 0
/-- L's four bytes. -/
def be4 (L : Nat) : List Nat := [L / 16777216, L / 65536 % 256, L / 256 % 256, L % 256]
theorem num4_be4 (L : Nat) : num4 (be4 L) = L := by simp [num4, be4]; omega
theorem be4_lt {L : Nat} (h : L < 4294967296) : ∀ x ∈ be4 L, x < 256 := by
  intro x hx
  simp [be4] at hx
  omega
theorem num4_cons {x : Nat} {B : List Nat} (hB : ∀ y ∈ B, y < 256) (hl : 4 ≤ B.length) : num4 (x :: B) = x * 16777216 + num4 B / 256 ∧ (256 * num4 (x :: B) + B.getD 3 0) % 4294967296 = num4 B ∧ num4 B < 4294967296 := by
  obtain ⟨a, b, c, d, T, rfl⟩ : ∃ a b c d T, B = a :: b :: c :: d :: T := by
    match B, hl with
    | a :: b :: c :: d :: T, _ => exact ⟨a, b, c, d, T, rfl⟩
  have ha := hB a (by simp)
  have hb := hB b (by simp)
  have hc := hB c (by simp)
  have hd := hB d (by simp)
  simp [num4]
  omega
theorem Moves.bytes {L R : Nat} {o : List Nat} {L' R' : Nat} (h : Moves L R o L' R') : L < 4294967296 → ∀ x ∈ o, x < 256 := by
  induction h with
  | stop => intro _ x hx; simp at hx
  | move L R o L' R' hh hr ih =>
    intro hL x hx
    rcases List.mem_cons.1 hx with rfl | hx
    · omega
    · exact ih (Nat.mod_lt _ (by decide)) x hx
/-- A byte moves: the span behind it. -/
theorem move_span {L R : Nat} (hsp : InSpan L R) (hh : SameB L R ∨ R < 65536) : cutR L R ≤ R ∧ 256 * L % 4294967296 = 256 * (L % 16777216) ∧ 256 * cutR L R % 4294967296 = 256 * cutR L R ∧ InSpan (256 * L % 4294967296) (256 * cutR L R % 4294967296) := by
  by_cases hs : SameB L R
  · obtain ⟨a1, e1, e2, a2, a3⟩ := same_step hsp hs
    have hc : cutR L R = R := by unfold cutR; rw [if_pos hs]
    rw [hc]
    exact ⟨Nat.le_refl _, e1, e2, a3⟩
  · have hR : R < 65536 := by rcases hh with hh | hh
                              · exact absurd hh hs
                              · exact hh
    obtain ⟨c1, c2, c3, c4, c5, c6⟩ := cut_step hsp hs hR
    have hc : cutR L R = 65536 - L % 65536 := by unfold cutR; rw [if_neg hs]
    rw [hc]
    refine ⟨c2, c4, c6, ?_⟩
    rw [c4, c6]
    refine ⟨by omega, by omega, by omega, by omega⟩
/-- What lies within the span behind the bytes lies within that ahead of them. -/
theorem Moves.within {L R : Nat} {o : List Nat} {L' R' : Nat} (h : Moves L R o L' R') : InSpan L R → ∀ T : List Nat, (∀ y ∈ T, y < 256) → 4 ≤ T.length → L' ≤ num4 T → num4 T < L' + R' → L ≤ num4 (o ++ T) ∧ num4 (o ++ T) < L + R := by
  induction h with
  | stop L R h h2 => intro _ T _ _ h1 h2; exact ⟨h1, h2⟩
  | move L R o L' R' hh hr ih =>
    intro hsp T hT hl h1 h2
    have key : ∃ S, cutR L R = S ∧ S ≤ R ∧ 256 * L % 4294967296 = 256 * (L % 16777216) ∧ 256 * S % 4294967296 = 256 * S ∧ InSpan (256 * L % 4294967296) (256 * S % 4294967296) := by
      by_cases hs : SameB L R
      · obtain ⟨a1, e1, e2, a2, a3⟩ := same_step hsp hs
        exact ⟨R, by unfold cutR; rw [if_pos hs], Nat.le_refl _, e1, e2, a3⟩
      · have hR : R < 65536 := by rcases hh with hh | hh
                                  · exact absurd hh hs
                                  · exact hh
        obtain ⟨c1, c2, c3, c4, c5, c6⟩ := cut_step hsp hs hR
        refine ⟨65536 - L % 65536, by unfold cutR; rw [if_neg hs], c2, c4, c6, ?_⟩
        rw [c4, c6]
        refine ⟨by omega, by omega, by omega, by omega⟩
    obtain ⟨S, hS, hSR, e1, e2, hin⟩ := key
    rw [hS] at hr ih
    have hb : ∀ y ∈ o ++ T, y < 256 := fun y hy => by
      rcases List.mem_append.1 hy with hy | hy
      · exact hr.bytes hin.1 y hy
      · exact hT y hy
    obtain ⟨i1, i2⟩ := ih hin T hT hl h1 h2
    rw [e1] at i1 i2
    rw [e2] at i2
    have hc := (num4_cons (x := L / 16777216) hb (by simp; omega)).1
    rw [List.cons_append, hc]
    omega
/-- A part that may be. -/
structure RcPart where
  low : Nat
  size : Nat
  total : Nat
def RcPart.ok (p : RcPart) : Prop := 1 ≤ p.size ∧ p.low + p.size ≤ p.total ∧ p.total ≤ 65536
/-- The bytes of parts, from a span on. -/
inductive Laid : Nat → Nat → List RcPart → List Nat → Prop
  | last (L R : Nat) : Laid L R [] (be4 L)
  | part (L R : Nat) (p : RcPart) (ps : List RcPart) (o T : List Nat) (L' R' : Nat) (hm : Moves (L + p.low * (R / p.total)) (p.size * (R / p.total)) o L' R') (hr : Laid L' R' ps T) : Laid L R (p :: ps) (o ++ T)
theorem Moves.inside {L R : Nat} {o : List Nat} {L' R' : Nat} (h : Moves L R o L' R') (hs : InSpan L R) : InSpan L' R' ∧ 65536 ≤ R' := by
  obtain ⟨o2, A, B, hm, h1, h2, -⟩ := moves_all hs
  obtain ⟨-, rfl, rfl⟩ := h.one hm
  exact ⟨h1, h2⟩
theorem Moves.few {L R : Nat} {o : List Nat} {L' R' : Nat} (h : Moves L R o L' R') (hs : InSpan L R) : o.length ≤ 7 := by
  obtain ⟨o2, A, B, hm, -, -, hl⟩ := moves_all hs
  obtain ⟨rfl, -, -⟩ := h.one hm
  exact hl
/-- P17.3: the number of the first four bytes lies within the span, whatever parts there were. -/
theorem Laid.within {L R : Nat} {ps : List RcPart} {B : List Nat} (h : Laid L R ps B) : InSpan L R → 65536 ≤ R → (∀ p ∈ ps, p.ok) → (∀ y ∈ B, y < 256) ∧ 4 ≤ B.length ∧ L ≤ num4 B ∧ num4 B < L + R := by
  induction h with
  | last L R =>
    intro hs _ _
    rw [num4_be4]
    exact ⟨be4_lt hs.1, Nat.le_refl _, Nat.le_refl _, by have := hs.2.1; omega⟩
  | part L R p ps o T L' R' hm hr ih =>
    intro hs hR hp
    obtain ⟨p1, p2, p3⟩ := hp p List.mem_cons_self
    obtain ⟨n1, n2, n3, n4⟩ := narrow_span hs hR p1 p2 p3
    obtain ⟨h1, h2⟩ := hm.inside n4
    obtain ⟨i1, i2, i3, i4⟩ := ih h1 h2 fun q hq => hp q (List.mem_cons_of_mem _ hq)
    obtain ⟨j1, j2⟩ := hm.within n4 T i1 i2 i3 i4
    have e : (p.low + p.size) * (R / p.total) = p.low * (R / p.total) + p.size * (R / p.total) := Nat.add_mul ..
    refine ⟨fun y hy => ?_, by simp; omega, by omega, by omega⟩
    rcases List.mem_append.1 hy with hy | hy
    · exact hm.bytes n4.1 y hy
    · exact i1 y hy
/-- What is found of them: a number within the part. -/
theorem found_in {C L R low size total : Nat} (hr : 1 ≤ R / total) (h1 : L + low * (R / total) ≤ C) (h2 : C < L + low * (R / total) + size * (R / total)) : low ≤ (C - L) / (R / total) ∧ (C - L) / (R / total) < low + size := by
  obtain ⟨r, hrr⟩ : ∃ r, r = R / total := ⟨_, rfl⟩
  rw [← hrr] at hr h1 h2 ⊢
  have e : (low + size) * r = low * r + size * r := Nat.add_mul ..
  exact ⟨(Nat.le_div_iff_mul_le (by omega)).2 (by omega), (Nat.div_lt_iff_lt_mul (by omega)).2 (by omega)⟩
end Go.Proofs.YtflcmmeoppdhdaaGreat
namespace Go.Proofs.YtflcmmeoppdhdaaGreat

/-- What an encoder holds behind parts: a span, and the bytes that went out. -/
inductive Enc : List RcPart → Nat → Nat → List Nat → Prop
  | nil : Enc [] 0 4294967295 []
  | snoc (ps : List RcPart) (p : RcPart) (L R : Nat) (o o2 : List Nat) (L' R' : Nat) (h : Enc ps L R o) (hm : Moves (L + p.low * (R / p.total)) (p.size * (R / p.total)) o2 L' R') : Enc (ps ++ [p]) L' R' (o ++ o2)
theorem Enc.inside {ps : List RcPart} {L R : Nat} {o : List Nat} (h : Enc ps L R o) : (∀ p ∈ ps, p.ok) → InSpan L R ∧ 65536 ≤ R ∧ (∀ x ∈ o, x < 256) ∧ o.length ≤ 7 * ps.length := by
  induction h with
  | nil => intro _; exact ⟨span_start, by decide, by simp, by simp⟩
  | snoc ps p L R o o2 L' R' h hm ih =>
    intro hp
    obtain ⟨i1, i2, i3, i4⟩ := ih fun q hq => hp q (by simp [hq])
    obtain ⟨p1, p2, p3⟩ := hp p (by simp)
    obtain ⟨n1, n2, n3, n4⟩ := narrow_span i1 i2 p1 p2 p3
    obtain ⟨j1, j2⟩ := hm.inside n4
    refine ⟨j1, j2, fun x hx => ?_, ?_⟩
    · rcases List.mem_append.1 hx with hx | hx
      · exact i3 x hx
      · exact hm.bytes n4.1 x hx
    · have := hm.few n4
      simp only [List.length_append, List.length_singleton]
      omega
/-- A part more: there is one outcome. -/
theorem Enc.more {ps : List RcPart} {L R : Nat} {o : List Nat} (h : Enc ps L R o) (hp : ∀ p ∈ ps, p.ok) {p : RcPart} (hk : p.ok) : ∃ o2 L' R', Moves (L + p.low * (R / p.total)) (p.size * (R / p.total)) o2 L' R' ∧ Enc (ps ++ [p]) L' R' (o ++ o2) := by
  obtain ⟨i1, i2, -, -⟩ := h.inside hp
  obtain ⟨p1, p2, p3⟩ := hk
  obtain ⟨n1, n2, n3, n4⟩ := narrow_span i1 i2 p1 p2 p3
  obtain ⟨o2, L', R', hm, -⟩ := moves_all n4
  exact ⟨o2, L', R', hm, .snoc ps p L R o o2 L' R' h hm⟩
/-- What went out, and the rest from there on. -/
theorem Enc.laid {ps : List RcPart} {L R : Nat} {o : List Nat} (h : Enc ps L R o) : ∀ {qs : List RcPart} {T : List Nat}, Laid L R qs T → Laid 0 4294967295 (ps ++ qs) (o ++ T) := by
  induction h with
  | nil => intro qs T hl; exact hl
  | snoc ps p L R o o2 L' R' h hm ih =>
    intro qs T hl
    have := ih (.part L R p qs o2 T L' R' hm hl)
    simpa [List.append_assoc] using this
theorem Enc.bytes {ps : List RcPart} {L R : Nat} {o : List Nat} (h : Enc ps L R o) : Laid 0 4294967295 ps (o ++ be4 L) := by
  have := h.laid (.last L R)
  simpa using this

/-- The next byte comes: C, the bytes that are left, the first error. -/
def comeS (s : Nat × List Nat × Nat) : Nat × List Nat × Nat := match s.2.1 with
  | [] => (s.1, [], if s.2.2 = 0 then 16 else s.2.2)
  | b :: B => ((256 * s.1 + b) % 4294967296, B, s.2.2)
def comesS : Nat → Nat × List Nat × Nat → Nat × List Nat × Nat
  | 0, s => s
  | k + 1, s => comesS k (comeS s)
theorem comesS_succ : ∀ (k : Nat) (s : Nat × List Nat × Nat), comesS (k + 1) s = comeS (comesS k s)
  | 0, _ => rfl
  | k + 1, s => comesS_succ k (comeS s)
theorem comeS_nil (C E : Nat) : comeS (C, [], E) = (C, [], if E = 0 then 16 else E) := rfl
theorem comeS_cons (C b E : Nat) (B : List Nat) : comeS (C, b :: B, E) = ((256 * C + b) % 4294967296, B, E) := rfl
/-- Where bytes o, and four more, are left, o come without error. -/
theorem comesS_num : ∀ (o T : List Nat) (E : Nat), (∀ y ∈ o ++ T, y < 256) → 4 ≤ T.length → comesS o.length (num4 (o ++ T), (o ++ T).drop 4, E) = (num4 T, T.drop 4, E)
  | [], T, E, _, _ => rfl
  | x :: o, T, E, h, hl => by
    have hb : ∀ y ∈ o ++ T, y < 256 := fun y hy => h y (by simp only [List.cons_append, List.mem_cons]; exact .inr hy)
    have hl2 : 4 ≤ (o ++ T).length := by simp; omega
    obtain ⟨-, h2, -⟩ := num4_cons (x := x) hb hl2
    obtain ⟨d, D, hd⟩ : ∃ d D, (o ++ T).drop 3 = d :: D := ⟨_, _, List.drop_eq_getElem_cons (show 3 < (o ++ T).length by omega)⟩
    have hd3 : (o ++ T).getD 3 0 = d := by
      have : (o ++ T)[3]? = some d := by rw [← List.head?_drop, hd]; rfl
      simp [List.getD_eq_getElem?_getD, this]
    have hd4 : (o ++ T).drop 4 = D := by
      have : ((o ++ T).drop 3).drop 1 = D := by rw [hd]; rfl
      rw [List.drop_drop] at this
      exact this
    rw [List.length_cons, comesS, List.cons_append]
    have : (x :: (o ++ T)).drop 4 = d :: D := by rw [← hd]; rfl
    rw [this, comeS_cons, ← hd3, h2, ← hd4]
    exact comesS_num o T E hb hl
/-- What four bytes come to, at first. -/
theorem comesS_four (a b c d : Nat) (T : List Nat) (h : ∀ y ∈ a :: b :: c :: d :: T, y < 256) : comesS 4 (0, a :: b :: c :: d :: T, 0) = (num4 (a :: b :: c :: d :: T), T, 0) := by
  have ha := h a (by simp)
  have hb := h b (by simp)
  have hc := h c (by simp)
  have hd := h d (by simp)
  simp only [comesS, comeS_cons, num4]
  simp
  omega
/-- What is found: a number, and the error. -/
def findS (L R C total : Nat) : Nat × Nat := if total ≤ (C + 4294967296 - L) % 4294967296 / (R / total) then (0, 16) else ((C + 4294967296 - L) % 4294967296 / (R / total), 0)
theorem findS_in {L R C low size total : Nat} (hL : L ≤ C) (hC : C < 4294967296) (hr : 1 ≤ R / total) (h1 : L + low * (R / total) ≤ C) (h2 : C < L + low * (R / total) + size * (R / total)) (h3 : low + size ≤ total) : ∃ n, findS L R C total = (n, 0) ∧ low ≤ n ∧ n < low + size := by
  obtain ⟨f1, f2⟩ := found_in (total := total) hr h1 h2
  have e : (C + 4294967296 - L) % 4294967296 = C - L := by omega
  refine ⟨(C - L) / (R / total), ?_, f1, f2⟩
  unfold findS
  rw [e, if_neg (by omega)]
end Go.Proofs.YtflcmmeoppdhdaaGreat
namespace Go.Proofs.YtflcmmeoppdhdaaGreat

/-- The bytes of shares, behind so many noughts. -/
def hPutF : Nat → List Int → List UInt8
  | z, [] => lput z
  | z, x :: l => if x = 0 then hPutF (z + 1) l else lput z ++ (lput (x - 1).toNat ++ hPutF 0 l)
def hPut (l : List Int) : List UInt8 := hPutF 0 l
theorem hPutF_nil (z : Nat) : hPutF z [] = lput z := rfl
theorem hPutF_zero (z : Nat) (l : List Int) : hPutF z (0 :: l) = hPutF (z + 1) l := by simp [hPutF]
theorem hPutF_some (z : Nat) {x : Int} (l : List Int) (h : x ≠ 0) : hPutF z (x :: l) = lput z ++ (lput (x - 1).toNat ++ hPutF 0 l) := by simp [hPutF, h]

/-- Noughts. -/
def zerosI (n : Nat) : List Int := List.replicate n 0
theorem zerosI_len (n : Nat) : (zerosI n).length = n := by simp [zerosI]
theorem zerosI_cons (n : Nat) (l : List Int) : zerosI (n + 1) ++ l = zerosI n ++ 0 :: l := by
  unfold zerosI; rw [List.replicate_succ', List.append_assoc]; rfl
/-- Of bytes the shares, and how many bytes these are: so many rounds at most. -/
def hGetF : Nat → List Int → List UInt8 → Nat → Option (List Int × Nat)
  | 0, _, _, _ => none
  | f + 1, out, b, at_ =>
    if (lget b).2.2 ≠ 0 ∨ 65535 < (lget b).1 then none
    else if 256 < out.length + (lget b).1 then none
    else if out.length + (lget b).1 = 256 then some (out ++ zerosI (lget b).1, at_ + (lget b).2.1)
    else if (lget (b.drop (lget b).2.1)).2.2 ≠ 0 ∨ 65535 < (lget (b.drop (lget b).2.1)).1 then none
    else hGetF f (out ++ zerosI (lget b).1 ++ [((lget (b.drop (lget b).2.1)).1 : Int) + 1]) ((b.drop (lget b).2.1).drop (lget (b.drop (lget b).2.1)).2.1) (at_ + (lget b).2.1 + (lget (b.drop (lget b).2.1)).2.1)
def hGet (b : List UInt8) : Option (List Int × Nat) := hGetF 257 [] b 0
/-- One round. -/
theorem hGetF_bad {f : Nat} {out : List Int} {b : List UInt8} {at_ n k e : Nat} (h : lget b = (n, k, e)) (hb : e ≠ 0 ∨ 65535 < n ∨ 256 < out.length + n) : hGetF (f + 1) out b at_ = none := by
  simp only [hGetF, h]
  by_cases h1 : e ≠ 0 ∨ 65535 < n
  · rw [if_pos h1]
  · rw [if_neg h1, if_pos (by omega)]
theorem hGetF_last {f : Nat} {out : List Int} {b : List UInt8} {at_ n k : Nat} (h : lget b = (n, k, 0)) (hn : n ≤ 65535) (hb : out.length + n = 256) : hGetF (f + 1) out b at_ = some (out ++ zerosI n, at_ + k) := by
  simp only [hGetF, h]
  rw [if_neg (by omega), if_neg (by omega), if_pos hb]
theorem hGetF_bad2 {f : Nat} {out : List Int} {b : List UInt8} {at_ n k n2 k2 e2 : Nat} (h : lget b = (n, k, 0)) (hn : n ≤ 65535) (hb : out.length + n < 256) (h2 : lget (b.drop k) = (n2, k2, e2)) (hb2 : e2 ≠ 0 ∨ 65535 < n2) : hGetF (f + 1) out b at_ = none := by
  simp only [hGetF, h, h2]
  rw [if_neg (by omega), if_neg (by omega), if_neg (by omega), if_pos hb2]
theorem hGetF_more {f : Nat} {out : List Int} {b : List UInt8} {at_ n k n2 k2 : Nat} (h : lget b = (n, k, 0)) (hn : n ≤ 65535) (hb : out.length + n < 256) (h2 : lget (b.drop k) = (n2, k2, 0)) (hb2 : n2 ≤ 65535) :
    hGetF (f + 1) out b at_ = hGetF f (out ++ zerosI n ++ [(n2 : Int) + 1]) (b.drop (k + k2)) (at_ + k + k2) := by
  simp only [hGetF, h, h2]
  rw [if_neg (by omega), if_neg (by omega), if_neg (by omega), if_neg (by omega), List.drop_drop]
/-- More rounds than there can be change nothing. -/
theorem hGetF_fuel : ∀ (f f' : Nat) (out : List Int) (b : List UInt8) (at_ : Nat), out.length ≤ 256 → 257 ≤ f + out.length → 257 ≤ f' + out.length → hGetF f out b at_ = hGetF f' out b at_ := by
  intro f
  induction f with
  | zero => intro f' out b at_ h0 h1; omega
  | succ f ih =>
    intro f' out b at_ h0 h1 h2
    obtain ⟨g, rfl⟩ : ∃ g, f' = g + 1 := ⟨f' - 1, by omega⟩
    obtain ⟨⟨n, k, e⟩, hl⟩ : ∃ t, lget b = t := ⟨_, rfl⟩
    by_cases hb : e ≠ 0 ∨ 65535 < n ∨ 256 < out.length + n
    · rw [hGetF_bad hl hb, hGetF_bad hl hb]
    · obtain rfl : e = 0 := by omega
      by_cases hb2 : out.length + n = 256
      · rw [hGetF_last hl (by omega) hb2, hGetF_last hl (by omega) hb2]
      · obtain ⟨⟨n2, k2, e2⟩, hl2⟩ : ∃ t, lget (b.drop k) = t := ⟨_, rfl⟩
        by_cases hb3 : e2 ≠ 0 ∨ 65535 < n2
        · rw [hGetF_bad2 hl (by omega) (by omega) hl2 hb3, hGetF_bad2 hl (by omega) (by omega) hl2 hb3]
        · obtain rfl : e2 = 0 := by omega
          rw [hGetF_more hl (by omega) (by omega) hl2 (by omega), hGetF_more hl (by omega) (by omega) hl2 (by omega)]
          have hlen : (out ++ zerosI n ++ [(n2 : Int) + 1]).length = out.length + n + 1 := by simp [zerosI]; omega
          exact ih g _ _ _ (by omega) (by omega) (by omega)
theorem lget_lput {n : Nat} (h : n ≤ 65536) (more : List UInt8) : lget (lput n ++ more) = (n, (lput n).length, 0) := lget_put n more (by omega)
/-- What was put is got, whatever is behind. -/
theorem hGetF_put : ∀ (l : List Int) (z f : Nat) (out : List Int) (more : List UInt8) (at_ : Nat), (∀ x ∈ l, 0 ≤ x ∧ x ≤ 65536) → out.length + z + l.length = 256 → 257 ≤ f + out.length →
    hGetF f out (hPutF z l ++ more) at_ = some (out ++ zerosI z ++ l, at_ + (hPutF z l).length) := by
  intro l
  induction l with
  | nil =>
    intro z f out more at_ _ h1 h2
    obtain ⟨g, rfl⟩ : ∃ g, f = g + 1 := ⟨f - 1, by simp at h1; omega⟩
    simp only [List.length_nil, Nat.add_zero] at h1
    rw [hPutF_nil, hGetF_last (lget_lput (by omega) more) (by omega) h1, List.append_nil]
  | cons x l ih =>
    intro z f out more at_ hx h1 h2
    have hx0 := hx x List.mem_cons_self
    have hl := fun y hy => hx y (List.mem_cons_of_mem _ hy)
    simp only [List.length_cons] at h1
    by_cases h0 : x = 0
    · subst h0
      rw [hPutF_zero, ih (z + 1) f out more at_ hl (by omega) h2, List.append_assoc out, zerosI_cons, ← List.append_assoc]
    · obtain ⟨g, rfl⟩ : ∃ g, f = g + 1 := ⟨f - 1, by omega⟩
      rw [hPutF_some z l h0]
      have e1 : lput z ++ (lput (x - 1).toNat ++ hPutF 0 l) ++ more = lput z ++ (lput (x - 1).toNat ++ (hPutF 0 l ++ more)) := by simp only [List.append_assoc]
      have hd : (lput z ++ (lput (x - 1).toNat ++ (hPutF 0 l ++ more))).drop (lput z).length = lput (x - 1).toNat ++ (hPutF 0 l ++ more) := List.drop_left
      have hd2 : (lput z ++ (lput (x - 1).toNat ++ (hPutF 0 l ++ more))).drop ((lput z).length + (lput (x - 1).toNat).length) = hPutF 0 l ++ more := by
        rw [← List.drop_drop, hd, List.drop_left]
      rw [e1, hGetF_more (lget_lput (by omega) _) (by omega) (by omega) (by rw [hd]; exact lget_lput (by omega) _) (by omega), hd2]
      have e2 : (((x - 1).toNat : Nat) : Int) + 1 = x := by omega
      rw [e2, ih 0 g (out ++ zerosI z ++ [x]) more _ hl (by simp [zerosI]; omega) (by simp [zerosI]; omega)]
      congr 2
      · simp [zerosI]
      · simp only [List.length_append]; omega
theorem hGet_put {l : List Int} (hl : l.length = 256) (hx : ∀ x ∈ l, 0 ≤ x ∧ x ≤ 65536) (more : List UInt8) : hGet (hPut l ++ more) = some (l, (hPut l).length) := by
  have := hGetF_put l 0 257 [] more 0 hx (by simp; omega) (by simp)
  simpa [hGet, hPut, zerosI] using this
end Go.Proofs.YtflcmmeoppdhdaaGreat
namespace Go.Proofs.YtflcmmeoppdhdaaGreat
open Go.RowKit

/-- one way through Len64: the table's byte of y, y being x without its lowest k bits -/
theorem len_way (x y : Int) (k d : Nat) (hd : d = 2 ^ k) (h0 : 0 ≤ x) (h1 : x ≤ 18446744073709551615) (hy : y.toNat = x.toNat / d) (hx : k = 0 ∨ d ≤ x.toNat) :
    (k : Int) + (Lib.bitLen y.toNat : Int) = (Lib.bitLen x.toNat : Int) := by
  rw [hy]
  subst hd
  rcases hx with rfl | hx
  · simp
  · rw [Lib.bitLen_shift k x.toNat hx (by omega)]; omega

theorem tab_size : Lib.len8tab.size = 256 := by kernel_rfl
theorem tab_at (i : Nat) (h : i < Lib.len8tab.size) : (Lib.len8tab[i]'h).toNat = Lib.bitLen i := by
  have key : ∀ j : Fin 256, (Lib.len8tab[j.val]'(by rw [tab_size]; exact j.isLt)).toNat = Lib.bitLen j.val := by decide +kernel
  exact key ⟨i, by rw [tab_size] at h; exact h⟩
/-- what one way through Len64 hands back -/
theorem len_end (x y : Int) (k d : Nat) (hd : d = 2 ^ k) (hk : k ≤ 56) (h0 : 0 ≤ x) (h1 : x ≤ 18446744073709551615) (hy : y.toNat = x.toNat / d) (hx : k = 0 ∨ d ≤ x.toNat) (h : y.toNat < Lib.len8tab.size) :
    wrap64 ((k : Int) + wrap64 ((Lib.len8tab[y.toNat]'h).toNat : Int)) = (Lib.bitLen x.toNat : Int) := by
  have e := len_way x y k d hd h0 h1 hy hx
  have l := Lib.bitLen_le8 ⟨y.toNat, by rw [tab_size] at h; exact h⟩
  simp only at l
  rw [tab_at, IntWalk.wrap64_in (Lib.bitLen y.toNat : Int) (by omega), IntWalk.wrap64_in _ (by omega), e]

set_option maxHeartbeats 4000000 in
set_option maxRecDepth 100000 in
theorem len64_any (x : Int) (w : World) (h0 : 0 ≤ x) (h1 : x ≤ 18446744073709551615) :
    Calls Tryz.prog 244 #[.int .u64 x] w fun e w' => e = .returned (.int .i64 (Lib.bitLen x.toNat)) ∧ w = w' := by
  have hts := tab_size
  go_enter Tryz.func244, Tryz.ntmps244
  go_wp2
  all_goals (go_ret; refine ⟨ret_int ?_, rfl⟩)
  all_goals first
    | exact len_end x (x / 4294967296 / 65536 / 256) 56 72057594037927936 (by decide) (by decide) h0 h1 (by omega) (by omega) _
    | exact len_end x (x / 4294967296 / 65536) 48 281474976710656 (by decide) (by decide) h0 h1 (by omega) (by omega) _
    | exact len_end x (x / 4294967296 / 256) 40 1099511627776 (by decide) (by decide) h0 h1 (by omega) (by omega) _
    | exact len_end x (x / 4294967296) 32 4294967296 (by decide) (by decide) h0 h1 (by omega) (by omega) _
    | exact len_end x (x / 65536 / 256) 24 16777216 (by decide) (by decide) h0 h1 (by omega) (by omega) _
    | exact len_end x (x / 65536) 16 65536 (by decide) (by decide) h0 h1 (by omega) (by omega) _
    | exact len_end x (x / 256) 8 256 (by decide) (by decide) h0 h1 (by omega) (by omega) _
    | exact (congrArg wrap64 (Int.zero_add _).symm).trans (len_end x x 0 1 (by decide) (by decide) h0 h1 (by omega) (by omega) _)

set_option maxHeartbeats 400000 in
theorem lebSize_any (n : Int) (w : World) (h0 : 0 ≤ n) (h1 : n ≤ 18446744073709551615) :
    Calls Tryz.prog 228 #[.int .u64 n] w fun e w' => e = .returned (.int .i64 ((lput n.toNat).length : Nat)) ∧ w = w' := by
  have hl := lput_len n.toNat (by omega)
  have hb : Lib.bitLen n.toNat ≤ 64 := Lib.bitLenAux_le 64 _ 64 (by omega)
  have hb' : ((Lib.bitLen n.toNat : Nat) : Int) ≤ 64 := by omega
  have hb0 : 0 ≤ ((Lib.bitLen n.toNat : Nat) : Int) := by omega
  have H := Lib.hid hl
  clear hl hb
  go_enter Tryz.func228, Tryz.ntmps228
  go_wp2_with (go_at_call 244; refine (len64_any _ _ h0 h1).mono ?_; rintro e w' ⟨rfl, rfl⟩)
  go_ret
  exact ⟨ret_int (by rw [H.out]; omega), rfl⟩
end Go.Proofs.YtflcmmeoppdhdaaGreat
