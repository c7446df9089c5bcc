/- Plain mathematics of layer 18: a letter goes into a state, and comes out. Written ahead of the code. -/
import Derived.Lib.BitFns
namespace Go.Proofs.Ytfdgnhfppginiaa

/-- The bytes that go out ahead of a letter of this share, the first one first. -/
inductive Goes (s : Nat) : Nat → List Nat → Nat → Prop
  | stop (x : Nat) (h : x < s * 524288) : Goes s x [] x
  | more (x : Nat) (o : List Nat) (y : Nat) (h : s * 524288 ≤ x) (hr : Goes s (x / 256) o y) : Goes s x (x % 256 :: o) y
theorem Goes.one {s x : Nat} {o o' : List Nat} {y y' : Nat} (h : Goes s x o y) (h' : Goes s x o' y') : o = o' ∧ y = y' := by
  induction h generalizing o' y' with
  | stop x h =>
    cases h' with
    | stop => exact ⟨rfl, rfl⟩
    | more _ _ _ hh => omega
  | more x o y hh hr ih =>
    cases h' with
    | stop _ h => omega
    | more _ o2 _ _ hr2 =>
      obtain ⟨e1, e2⟩ := ih hr2
      exact ⟨by rw [e1], e2⟩
theorem goes_all {s : Nat} (hs : 1 ≤ s) : ∀ x : Nat, ∃ o y, Goes s x o y := by
  intro x
  induction x using Nat.strongRecOn with
  | _ x ih =>
    by_cases h : x < s * 524288
    · exact ⟨[], x, .stop x h⟩
    · obtain ⟨o, y, hg⟩ := ih (x / 256) (by omega)
      exact ⟨_, y, .more x o y (by omega) hg⟩
theorem Goes.bytes {s x : Nat} {o : List Nat} {y : Nat} (h : Goes s x o y) : ∀ b ∈ o, b < 256 := by
  induction h with
  | stop => intro b hb; simp at hb
  | more x o y hh hr ih =>
    intro b hb
    rcases List.mem_cons.1 hb with rfl | hb
    · omega
    · exact ih b hb
theorem Goes.range {s x : Nat} {o : List Nat} {y : Nat} (h : Goes s x o y) : s * 2048 ≤ x → s * 2048 ≤ y ∧ y < s * 524288 := by
  induction h with
  | stop x h => intro h1; exact ⟨h1, h⟩
  | more x o y hh hr ih =>
    intro _
    have h2 : s * 2048 ≤ x / 256 := (Nat.le_div_iff_mul_le (by decide)).2 (by rw [Nat.mul_assoc]; exact hh)
    exact ih h2
/-- Bytes come in, as long as a state is small. -/
inductive Reads : Nat → List Nat → Nat → List Nat → Prop
  | none (x : Nat) (S : List Nat) : Reads x S x S
  | next (y b : Nat) (S : List Nat) (x : Nat) (T : List Nat) (h : y < 8388608) (hr : Reads (256 * y + b) S x T) : Reads y (b :: S) x T
theorem Reads.trans {x y z : Nat} {S T U : List Nat} (h : Reads x S y T) (k : Reads y T z U) : Reads x S z U := by
  induction h with
  | none => exact k
  | next y b S x T hh _ ih => exact .next y b S z U hh (ih k)
/-- What went out comes in again, in the other order. -/
theorem Goes.back {s x : Nat} {o : List Nat} {y : Nat} (h : Goes s x o y) : x < 2147483648 → ∀ T, Reads y (o.reverse ++ T) x T := by
  induction h with
  | stop x h => intro _ T; exact .none x T
  | more x o y hh hr ih =>
    intro hx T
    have h1 := ih (by omega) (x % 256 :: T)
    have e : 256 * (x / 256) + x % 256 = x := by omega
    rw [List.reverse_cons, List.append_assoc]
    refine h1.trans (.next (x / 256) (x % 256) T x T (by omega) ?_)
    rw [e]
    exact .none x T
/-- A letter goes in. -/
def inX (f s y : Nat) : Nat := y / s * 4096 + f + y % s
/-- A state, and the letter that went in last: it comes out. -/
theorem inX_out {f s y : Nat} (hs : 1 ≤ s) (hf : f + s ≤ 4096) : inX f s y % 4096 = f + y % s ∧ inX f s y / 4096 = y / s ∧ s * (inX f s y / 4096) + inX f s y % 4096 - f = y := by
  have h1 : y % s < s := Nat.mod_lt y (by omega)
  have e1 : inX f s y % 4096 = f + y % s := by unfold inX; omega
  have e2 : inX f s y / 4096 = y / s := by unfold inX; omega
  refine ⟨e1, e2, ?_⟩
  rw [e1, e2]
  have := Nat.div_add_mod y s
  omega
theorem inX_range {f s y : Nat} (hs : 1 ≤ s) (hf : f + s ≤ 4096) (h1 : s * 2048 ≤ y) (h2 : y < s * 524288) : 8388608 ≤ inX f s y ∧ inX f s y < 2147483648 := by
  have h3 : y % s < s := Nat.mod_lt y (by omega)
  have h4 : 2048 ≤ y / s := (Nat.le_div_iff_mul_le (by omega)).2 (by rw [Nat.mul_comm]; exact h1)
  have h5 : y / s < 524288 := (Nat.div_lt_iff_lt_mul (by omega)).2 (by rw [Nat.mul_comm]; exact h2)
  unfold inX
  omega
/-- Letters (first, share), the state behind them, and the bytes that went out, the last one first. -/
inductive RansIn : List (Nat × Nat) → Nat → List Nat → Prop
  | none : RansIn [] 8388608 []
  | letter (f s : Nat) (l : List (Nat × Nat)) (x : Nat) (T : List Nat) (o : List Nat) (y : Nat) (h : RansIn l x T) (hg : Goes s x o y) : RansIn ((f, s) :: l) (inX f s y) (o.reverse ++ T)
/-- Letters as they may be. -/
def okL (p : Nat × Nat) : Prop := 1 ≤ p.2 ∧ p.1 + p.2 ≤ 4096
theorem RansIn.range {l : List (Nat × Nat)} {x : Nat} {T : List Nat} (h : RansIn l x T) : (∀ p ∈ l, okL p) → 8388608 ≤ x ∧ x < 2147483648 ∧ ∀ b ∈ T, b < 256 := by
  induction h with
  | none => intro _; exact ⟨Nat.le_refl _, by decide, by simp⟩
  | letter f s l x T o y h hg ih =>
    intro hp
    obtain ⟨p1, p2⟩ := hp (f, s) List.mem_cons_self
    simp only at p1 p2
    obtain ⟨i1, i2, i3⟩ := ih fun q hq => hp q (List.mem_cons_of_mem _ hq)
    obtain ⟨g1, g2⟩ := hg.range (by omega)
    obtain ⟨j1, j2⟩ := inX_range p1 p2 g1 g2
    refine ⟨j1, j2, fun b hb => ?_⟩
    rcases List.mem_append.1 hb with hb | hb
    · exact hg.bytes b (List.mem_reverse.1 hb)
    · exact i3 b hb
/-- The first letter comes out, and the bytes that went out for it come in. -/
theorem RansIn.out {f s : Nat} {l : List (Nat × Nat)} {x' : Nat} {S : List Nat} (h : RansIn ((f, s) :: l) x' S) (hp : ∀ p ∈ (f, s) :: l, okL p) :
    ∃ x T y, RansIn l x T ∧ y < s * 524288 ∧ x' % 4096 = f + y % s ∧ s * (x' / 4096) + x' % 4096 - f = y ∧ Reads y S x T ∧ 8388608 ≤ x := by
  cases h with
  | letter _ _ _ x T o y h hg =>
    obtain ⟨p1, p2⟩ := hp (f, s) List.mem_cons_self
    simp only at p1 p2
    obtain ⟨i1, i2, -⟩ := h.range fun q hq => hp q (List.mem_cons_of_mem _ hq)
    obtain ⟨g1, g2⟩ := hg.range (by omega)
    obtain ⟨e1, e2, e3⟩ := inX_out (y := y) p1 p2
    exact ⟨x, T, y, h, g2, e1, e3, hg.back i2 T, i1⟩
/-- A letter of all shares turns no state. -/
theorem ransIn_still : ∀ n : Nat, RansIn (List.replicate n (0, 4096)) 8388608 [] := by
  intro n
  induction n with
  | zero => exact .none
  | succ n ih =>
    have := RansIn.letter 0 4096 _ _ _ [] 8388608 ih (.stop _ (by decide))
    simpa [inX, List.replicate_succ] using this
theorem RansIn.one {l : List (Nat × Nat)} {x x' : Nat} {T T' : List Nat} (h : RansIn l x T) (h' : RansIn l x' T') : x = x' ∧ T = T' := by
  induction h generalizing x' T' with
  | none => cases h'; exact ⟨rfl, rfl⟩
  | letter f s l x T o y h hg ih =>
    cases h' with
    | letter _ _ _ x2 T2 o2 y2 h2 hg2 =>
      obtain ⟨rfl, rfl⟩ := ih h2
      obtain ⟨rfl, rfl⟩ := hg.one hg2
      exact ⟨rfl, rfl⟩
theorem goes_few {s : Nat} (hs : 1 ≤ s) : ∀ (k x : Nat) (o : List Nat) (y : Nat), Goes s x o y → x < 256 ^ k * 524288 → o.length ≤ k := by
  intro k
  induction k with
  | zero =>
    intro x o y h hx
    cases h with
    | stop => exact Nat.le_refl _
    | more _ _ _ hh => simp only [Nat.pow_zero, Nat.one_mul] at hx; omega
  | succ k ih =>
    intro x o y h hx
    cases h with
    | stop => exact Nat.zero_le _
    | more _ o2 _ hh hr =>
      have h2 : x / 256 < 256 ^ k * 524288 := (Nat.div_lt_iff_lt_mul (by decide)).2 (by rw [Nat.pow_succ] at hx; rw [Nat.mul_assoc, Nat.mul_comm 524288, ← Nat.mul_assoc]; exact hx)
      have := ih _ _ _ hr h2
      simp only [List.length_cons]
      omega
theorem RansIn.len {l : List (Nat × Nat)} {x : Nat} {T : List Nat} (h : RansIn l x T) : (∀ p ∈ l, okL p) → T.length ≤ 2 * l.length := by
  induction h with
  | none => intro _; exact Nat.le_refl _
  | letter f s l x T o y h hg ih =>
    intro hp
    have h1 := ih fun q hq => hp q (List.mem_cons_of_mem _ hq)
    have h2 := h.range fun q hq => hp q (List.mem_cons_of_mem _ hq)
    have h3 := goes_few (hp (f, s) List.mem_cons_self).1 2 x o y hg (by omega)
    simp only [List.length_append, List.length_reverse, List.length_cons]
    omega
end Go.Proofs.Ytfdgnhfppginiaa
