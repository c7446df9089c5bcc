/- Plain mathematics of layer 17: a span, the bytes that move, and a number within. Written ahead of the code. · Layer 17: what an encoder and a decoder hold: plain mathematics. -/
import Derived.Lib.BitFns
namespace Go.Proofs.YtgbibmgedmbboaaGreat

/-- Are the highest bytes of L, and of L and R together, the same? -/
def SameB (L R : Nat) : Prop := L / 16777216 = (L + R) % 4294967296 / 16777216
instance (L R : Nat) : Decidable (SameB L R) := by unfold SameB; infer_instance
/-- R, ahead of a byte that moves. -/
def cutR (L R : Nat) : Nat := if SameB L R then R else 65536 - L % 65536
/-- The bytes that move, and the span behind them. -/
inductive Moves : Nat → Nat → List Nat → Nat → Nat → Prop
  | stop (L R : Nat) (h : ¬ SameB L R) (h2 : 65536 ≤ R) : Moves L R [] L R
  | move (L R : Nat) (o : List Nat) (L' R' : Nat) (h : SameB L R ∨ R < 65536) (hr : Moves (256 * L % 4294967296) (256 * cutR L R % 4294967296) o L' R') : Moves L R (L / 16777216 :: o) L' R'
theorem Moves.one {L R : Nat} {o o' : List Nat} {A B A' B' : Nat} (h : Moves L R o A B) (h' : Moves L R o' A' B') : o = o' ∧ A = A' ∧ B = B' := by
  induction h generalizing o' A' B' with
  | stop L R h h2 =>
    cases h' with
    | stop => exact ⟨rfl, rfl, rfl⟩
    | move _ _ _ _ _ hh => rcases hh with hh | hh
                           · exact absurd hh h
                           · omega
  | move L R o A B hh hr ih =>
    cases h' with
    | stop _ _ h h2 => rcases hh with hh | hh
                       · exact absurd hh h
                       · omega
    | move _ _ o2 _ _ _ hr2 =>
      obtain ⟨e1, e2, e3⟩ := ih hr2
      exact ⟨by rw [e1], e2, e3⟩
/-- A span as it may be. -/
def InSpan (L R : Nat) : Prop := L < 4294967296 ∧ 1 ≤ R ∧ L + R ≤ 4294967296 ∧ (L + R = 4294967296 → 16777216 ≤ L)
theorem span_start : InSpan 0 4294967295 := ⟨by decide, by decide, by decide, by omega⟩
/-- A byte moves as both are the same. -/
theorem same_step {L R : Nat} (h : InSpan L R) (hs : SameB L R) : R < 16777216 ∧ 256 * L % 4294967296 = 256 * (L % 16777216) ∧ 256 * R % 4294967296 = 256 * R ∧ L % 16777216 + R < 16777216 ∧ InSpan (256 * L % 4294967296) (256 * R % 4294967296) := by
  obtain ⟨h1, h2, h3, h4⟩ := h
  unfold SameB at hs
  have h5 : L + R < 4294967296 := by
    refine Nat.lt_of_le_of_ne h3 fun e => ?_
    have := h4 e
    rw [e] at hs
    omega
  rw [Nat.mod_eq_of_lt h5] at hs
  have h6 : L % 16777216 + R < 16777216 := by omega
  have e1 : 256 * L % 4294967296 = 256 * (L % 16777216) := by omega
  have e2 : 256 * R % 4294967296 = 256 * R := by omega
  refine ⟨by omega, e1, e2, h6, ?_⟩
  rw [e1, e2]
  refine ⟨by omega, by omega, by omega, by omega⟩
/-- A byte moves as R is small. -/
theorem cut_step {L R : Nat} (h : InSpan L R) (hs : ¬ SameB L R) (hR : R < 65536) :
    1 ≤ 65536 - L % 65536 ∧ 65536 - L % 65536 ≤ R ∧ 65536 - L % 65536 ≤ 65536 ∧ 256 * L % 4294967296 = 256 * (L % 16777216) ∧ L % 16777216 + (65536 - L % 65536) = 16777216 ∧ 256 * (65536 - L % 65536) % 4294967296 = 256 * (65536 - L % 65536) := by
  obtain ⟨h1, h2, h3, h4⟩ := h
  unfold SameB at hs
  have h6 : 16777216 ≤ L % 16777216 + R := by
    refine Nat.le_of_not_lt fun hlt => hs ?_
    by_cases e : L + R = 4294967296
    · omega
    · rw [Nat.mod_eq_of_lt (by omega)]; omega
  have e1 : 256 * L % 4294967296 = 256 * (L % 16777216) := by omega
  have e3 : L % 16777216 + (65536 - L % 65536) = 16777216 := by omega
  exact ⟨by omega, by omega, by omega, e1, e3, by omega⟩
/-- A span that goes up to its end: no bytes are the same; few move. -/
theorem moves_end : ∀ (f L R : Nat), L + R = 4294967296 → 1 ≤ R → R ≤ 16777216 → 65536 ≤ R * 256 ^ f → ∃ o L' R', Moves L R o L' R' ∧ InSpan L' R' ∧ 65536 ≤ R' ∧ o.length ≤ f := by
  intro f
  induction f with
  | zero =>
    intro L R h1 h2 h3 h4
    have hs : ¬ SameB L R := by unfold SameB; rw [h1]; omega
    exact ⟨[], L, R, .stop L R hs (by simpa using h4), ⟨by omega, h2, by omega, by omega⟩, by simpa using h4, Nat.le_refl _⟩
  | succ f ih =>
    intro L R h1 h2 h3 h4
    have hs : ¬ SameB L R := by unfold SameB; rw [h1]; omega
    by_cases hR : 65536 ≤ R
    · exact ⟨[], L, R, .stop L R hs hR, ⟨by omega, h2, by omega, by omega⟩, hR, Nat.zero_le _⟩
    · have hc : cutR L R = R := by unfold cutR; rw [if_neg hs]; omega
      have e1 : 256 * L % 4294967296 + 256 * R = 4294967296 := by omega
      have e2 : 256 * R % 4294967296 = 256 * R := by omega
      obtain ⟨o, L', R', hm, hi, hr, hl⟩ := ih (256 * L % 4294967296) (256 * R) e1 (by omega) (by omega) (by rw [Nat.pow_succ] at h4; rw [Nat.mul_comm 256 R, Nat.mul_assoc, Nat.mul_comm 256]; exact h4)
      exact ⟨_, L', R', .move L R o L' R' (.inr (by omega)) (by rw [hc, e2]; exact hm), hi, hr, by simp; omega⟩
theorem moves_some : ∀ (f L R : Nat), InSpan L R → 4294967296 ≤ R * 256 ^ f → ∃ o L' R', Moves L R o L' R' ∧ InSpan L' R' ∧ 65536 ≤ R' ∧ o.length ≤ f + 3 := by
  intro f
  induction f with
  | zero =>
    intro L R h h4
    obtain ⟨h1, h2, h3, h5⟩ := h
    simp only [Nat.pow_zero, Nat.mul_one] at h4
    omega
  | succ f ih =>
    intro L R h h4
    by_cases hs : SameB L R
    · obtain ⟨h1, e1, e2, h6, h7⟩ := same_step h hs
      have hc : cutR L R = R := by unfold cutR; rw [if_pos hs]
      obtain ⟨o, L', R', hm, hi, hr, hl⟩ := ih _ _ h7 (by rw [e2]; rw [Nat.pow_succ] at h4; rw [Nat.mul_comm 256 R, Nat.mul_assoc, Nat.mul_comm 256]; exact h4)
      exact ⟨_, L', R', .move L R o L' R' (.inl hs) (by rw [hc]; exact hm), hi, hr, by simp; omega⟩
    · by_cases hR : 65536 ≤ R
      · exact ⟨[], L, R, .stop L R hs hR, h, hR, Nat.zero_le _⟩
      · obtain ⟨c1, c2, c3, c4, c5, c6⟩ := cut_step h hs (by omega)
        have hc : cutR L R = 65536 - L % 65536 := by unfold cutR; rw [if_neg hs]
        obtain ⟨o, L', R', hm, hi, hr, hl⟩ := moves_end 2 (256 * L % 4294967296) (256 * (65536 - L % 65536)) (by omega) (by omega) (by omega) (by omega)
        exact ⟨_, L', R', .move L R o L' R' (.inr (by omega)) (by rw [hc, c6]; exact hm), hi, hr, by simp; omega⟩
/-- From each span some bytes move, or none, and then it is one that parts may narrow. -/
theorem moves_all {L R : Nat} (h : InSpan L R) : ∃ o L' R', Moves L R o L' R' ∧ InSpan L' R' ∧ 65536 ≤ R' ∧ o.length ≤ 7 := moves_some 4 L R h (by have := h.2.1; omega)
/-- A span, narrowed. -/
theorem narrow_span {L R low size total : Nat} (h : InSpan L R) (hR : 65536 ≤ R) (h1 : 1 ≤ size) (h2 : low + size ≤ total) (h3 : total ≤ 65536) :
    1 ≤ R / total ∧ (low + size) * (R / total) ≤ R ∧ (L + low * (R / total)) % 4294967296 = L + low * (R / total) ∧ InSpan (L + low * (R / total)) (size * (R / total)) := by
  obtain ⟨g1, g2, g3, g4⟩ := h
  have hr : 1 ≤ R / total := (Nat.le_div_iff_mul_le (by omega)).2 (by omega)
  have hm : (low + size) * (R / total) ≤ R := Nat.le_trans (Nat.mul_le_mul_right _ h2) (Nat.mul_div_le R total)
  obtain ⟨r, hrr⟩ : ∃ r, r = R / total := ⟨_, rfl⟩
  rw [← hrr] at hr hm ⊢
  have hs : 1 ≤ size * r := Nat.mul_pos h1 hr
  have e : (low + size) * r = low * r + size * r := Nat.add_mul ..
  refine ⟨hr, hm, Nat.mod_eq_of_lt (by omega), by omega, hs, by omega, fun hh => by have := g4 (by omega); omega⟩

/-- The number of the first four bytes, the highest first. -/
def num4 (B : List Nat) : Nat := B.getD 0 0 * 16777216 + B.getD 1 0 * 65536 + B.getD 2 0 * 256 + B.getD 3 0
/-- L's four bytes. -/
def be4 (L : Nat) : List Nat := [L / 16777216, L / 65536 % 256, L / 256 % 256, L % 256]
theorem num4_be4 (L : Nat) : num4 (be4 L) = L := by simp [num4, be4]; omega
theorem be4_lt {L : Nat} (h : L < 4294967296) : ∀ x ∈ be4 L, x < 256 := by
  intro x hx
  simp [be4] at hx
  omega
theorem num4_cons {x : Nat} {B : List Nat} (hB : ∀ y ∈ B, y < 256) (hl : 4 ≤ B.length) : num4 (x :: B) = x * 16777216 + num4 B / 256 ∧ (256 * num4 (x :: B) + B.getD 3 0) % 4294967296 = num4 B ∧ num4 B < 4294967296 := by
  obtain ⟨a, b, c, d, T, rfl⟩ : ∃ a b c d T, B = a :: b :: c :: d :: T := by
    match B, hl with
    | a :: b :: c :: d :: T, _ => exact ⟨a, b, c, d, T, rfl⟩
  have ha := hB a (by simp)
  have hb := hB b (by simp)
  have hc := hB c (by simp)
  have hd := hB d (by simp)
  simp [num4]
  omega
theorem Moves.bytes {L R : Nat} {o : List Nat} {L' R' : Nat} (h : Moves L R o L' R') : L < 4294967296 → ∀ x ∈ o, x < 256 := by
  induction h with
  | stop => intro _ x hx; simp at hx
  | move L R o L' R' hh hr ih =>
    intro hL x hx
    rcases List.mem_cons.1 hx with rfl | hx
    · omega
    · exact ih (Nat.mod_lt _ (by decide)) x hx
/-- A byte moves: the span behind it. -/
theorem move_span {L R : Nat} (hsp : InSpan L R) (hh : SameB L R ∨ R < 65536) : cutR L R ≤ R ∧ 256 * L % 4294967296 = 256 * (L % 16777216) ∧ 256 * cutR L R % 4294967296 = 256 * cutR L R ∧ InSpan (256 * L % 4294967296) (256 * cutR L R % 4294967296) := by
  by_cases hs : SameB L R
  · obtain ⟨a1, e1, e2, a2, a3⟩ := same_step hsp hs
    have hc : cutR L R = R := by unfold cutR; rw [if_pos hs]
    rw [hc]
    exact ⟨Nat.le_refl _, e1, e2, a3⟩
  · have hR : R < 65536 := by rcases hh with hh | hh
                              · exact absurd hh hs
                              · exact hh
    obtain ⟨c1, c2, c3, c4, c5, c6⟩ := cut_step hsp hs hR
    have hc : cutR L R = 65536 - L % 65536 := by unfold cutR; rw [if_neg hs]
    rw [hc]
    refine ⟨c2, c4, c6, ?_⟩
    rw [c4, c6]
    refine ⟨by omega, by omega, by omega, by omega⟩
/-- What lies within the span behind the bytes lies within that ahead of them. -/
theorem Moves.within {L R : Nat} {o : List Nat} {L' R' : Nat} (h : Moves L R o L' R') : InSpan L R → ∀ T : List Nat, (∀ y ∈ T, y < 256) → 4 ≤ T.length → L' ≤ num4 T → num4 T < L' + R' → L ≤ num4 (o ++ T) ∧ num4 (o ++ T) < L + R := by
  induction h with
  | stop L R h h2 => intro _ T _ _ h1 h2; exact ⟨h1, h2⟩
  | move L R o L' R' hh hr ih =>
    intro hsp T hT hl h1 h2
    have key : ∃ S, cutR L R = S ∧ S ≤ R ∧ 256 * L % 4294967296 = 256 * (L % 16777216) ∧ 256 * S % 4294967296 = 256 * S ∧ InSpan (256 * L % 4294967296) (256 * S % 4294967296) := by
      by_cases hs : SameB L R
      · obtain ⟨a1, e1, e2, a2, a3⟩ := same_step hsp hs
        exact ⟨R, by unfold cutR; rw [if_pos hs], Nat.le_refl _, e1, e2, a3⟩
      · have hR : R < 65536 := by rcases hh with hh | hh
                                  · exact absurd hh hs
                                  · exact hh
        obtain ⟨c1, c2, c3, c4, c5, c6⟩ := cut_step hsp hs hR
        refine ⟨65536 - L % 65536, by unfold cutR; rw [if_neg hs], c2, c4, c6, ?_⟩
        rw [c4, c6]
        refine ⟨by omega, by omega, by omega, by omega⟩
    obtain ⟨S, hS, hSR, e1, e2, hin⟩ := key
    rw [hS] at hr ih
    have hb : ∀ y ∈ o ++ T, y < 256 := fun y hy => by
      rcases List.mem_append.1 hy with hy | hy
      · exact hr.bytes hin.1 y hy
      · exact hT y hy
    obtain ⟨i1, i2⟩ := ih hin T hT hl h1 h2
    rw [e1] at i1 i2
    rw [e2] at i2
    have hc := (num4_cons (x := L / 16777216) hb (by simp; omega)).1
    rw [List.cons_append, hc]
    omega
/-- A part that may be. -/
structure RcPart where
  low : Nat
  size : Nat
  total : Nat
def RcPart.ok (p : RcPart) : Prop := 1 ≤ p.size ∧ p.low + p.size ≤ p.total ∧ p.total ≤ 65536
/-- The bytes of parts, from a span on. -/
inductive Laid : Nat → Nat → List RcPart → List Nat → Prop
  | last (L R : Nat) : Laid L R [] (be4 L)
  | part (L R : Nat) (p : RcPart) (ps : List RcPart) (o T : List Nat) (L' R' : Nat) (hm : Moves (L + p.low * (R / p.total)) (p.size * (R / p.total)) o L' R') (hr : Laid L' R' ps T) : Laid L R (p :: ps) (o ++ T)
theorem Moves.inside {L R : Nat} {o : List Nat} {L' R' : Nat} (h : Moves L R o L' R') (hs : InSpan L R) : InSpan L' R' ∧ 65536 ≤ R' := by
  obtain ⟨o2, A, B, hm, h1, h2, -⟩ := moves_all hs
  obtain ⟨-, rfl, rfl⟩ := h.one hm
  exact ⟨h1, h2⟩
theorem Moves.few {L R : Nat} {o : List Nat} {L' R' : Nat} (h : Moves L R o L' R') (hs : InSpan L R) : o.length ≤ 7 := by
  obtain ⟨o2, A, B, hm, -, -, hl⟩ := moves_all hs
  obtain ⟨rfl, -, -⟩ := h.one hm
  exact hl
/-- P17.3: the number of the first four bytes lies within the span, whatever parts there were. -/
theorem Laid.within {L R : Nat} {ps : List RcPart} {B : List Nat} (h : Laid L R ps B) : InSpan L R → 65536 ≤ R → (∀ p ∈ ps, p.ok) → (∀ y ∈ B, y < 256) ∧ 4 ≤ B.length ∧ L ≤ num4 B ∧ num4 B < L + R := by
  induction h with
  | last L R =>
    intro hs _ _
    rw [num4_be4]
    exact ⟨be4_lt hs.1, Nat.le_refl _, Nat.le_refl _, by have := hs.2.1; omega⟩
  | part L R p ps o T L' R' hm hr ih =>
    intro hs hR hp
    obtain ⟨p1, p2, p3⟩ := hp p List.mem_cons_self
    obtain ⟨n1, n2, n3, n4⟩ := narrow_span hs hR p1 p2 p3
    obtain ⟨h1, h2⟩ := hm.inside n4
    obtain ⟨i1, i2, i3, i4⟩ := ih h1 h2 fun q hq => hp q (List.mem_cons_of_mem _ hq)
    obtain ⟨j1, j2⟩ := hm.within n4 T i1 i2 i3 i4
    have e : (p.low + p.size) * (R / p.total) = p.low * (R / p.total) + p.size * (R / p.total) := Nat.add_mul ..
    refine ⟨fun y hy => ?_, by simp; omega, by omega, by omega⟩
    rcases List.mem_append.1 hy with hy | hy
    · exact hm.bytes n4.1 y hy
    · exact i1 y hy
/-- What is found of them: a number within the part. -/
theorem found_in {C L R low size total : Nat} (hr : 1 ≤ R / total) (h1 : L + low * (R / total) ≤ C) (h2 : C < L + low * (R / total) + size * (R / total)) : low ≤ (C - L) / (R / total) ∧ (C - L) / (R / total) < low + size := by
  obtain ⟨r, hrr⟩ : ∃ r, r = R / total := ⟨_, rfl⟩
  rw [← hrr] at hr h1 h2 ⊢
  have e : (low + size) * r = low * r + size * r := Nat.add_mul ..
  exact ⟨(Nat.le_div_iff_mul_le (by omega)).2 (by omega), (Nat.div_lt_iff_lt_mul (by omega)).2 (by omega)⟩
end Go.Proofs.YtgbibmgedmbboaaGreat
namespace Go.Proofs.YtgbibmgedmbboaaGreat

/-- What an encoder holds behind parts: a span, and the bytes that went out. -/
inductive Enc : List RcPart → Nat → Nat → List Nat → Prop
  | nil : Enc [] 0 4294967295 []
  | snoc (ps : List RcPart) (p : RcPart) (L R : Nat) (o o2 : List Nat) (L' R' : Nat) (h : Enc ps L R o) (hm : Moves (L + p.low * (R / p.total)) (p.size * (R / p.total)) o2 L' R') : Enc (ps ++ [p]) L' R' (o ++ o2)
theorem Enc.inside {ps : List RcPart} {L R : Nat} {o : List Nat} (h : Enc ps L R o) : (∀ p ∈ ps, p.ok) → InSpan L R ∧ 65536 ≤ R ∧ (∀ x ∈ o, x < 256) ∧ o.length ≤ 7 * ps.length := by
  induction h with
  | nil => intro _; exact ⟨span_start, by decide, by simp, by simp⟩
  | snoc ps p L R o o2 L' R' h hm ih =>
    intro hp
    obtain ⟨i1, i2, i3, i4⟩ := ih fun q hq => hp q (by simp [hq])
    obtain ⟨p1, p2, p3⟩ := hp p (by simp)
    obtain ⟨n1, n2, n3, n4⟩ := narrow_span i1 i2 p1 p2 p3
    obtain ⟨j1, j2⟩ := hm.inside n4
    refine ⟨j1, j2, fun x hx => ?_, ?_⟩
    · rcases List.mem_append.1 hx with hx | hx
      · exact i3 x hx
      · exact hm.bytes n4.1 x hx
    · have := hm.few n4
      simp only [List.length_append, List.length_singleton]
      omega
/-- A part more: there is one outcome. -/
theorem Enc.more {ps : List RcPart} {L R : Nat} {o : List Nat} (h : Enc ps L R o) (hp : ∀ p ∈ ps, p.ok) {p : RcPart} (hk : p.ok) : ∃ o2 L' R', Moves (L + p.low * (R / p.total)) (p.size * (R / p.total)) o2 L' R' ∧ Enc (ps ++ [p]) L' R' (o ++ o2) := by
  obtain ⟨i1, i2, -, -⟩ := h.inside hp
  obtain ⟨p1, p2, p3⟩ := hk
  obtain ⟨n1, n2, n3, n4⟩ := narrow_span i1 i2 p1 p2 p3
  obtain ⟨o2, L', R', hm, -⟩ := moves_all n4
  exact ⟨o2, L', R', hm, .snoc ps p L R o o2 L' R' h hm⟩
theorem Enc.one {ps : List RcPart} {L R : Nat} {o : List Nat} (h : Enc ps L R o) : ∀ {qs : List RcPart} {L' R' : Nat} {o' : List Nat}, Enc qs L' R' o' → ps = qs → L = L' ∧ R = R' ∧ o = o' := by
  induction h with
  | nil =>
    intro qs L' R' o' h' e
    cases h' with
    | nil => exact ⟨rfl, rfl, rfl⟩
    | snoc ps p => exact absurd e (by simp)
  | snoc ps p L R o o2 A B h hm ih =>
    intro qs L' R' o' h' e
    cases h' with
    | nil => exact absurd e (by simp)
    | snoc ps2 p2 L2 R2 o3 o4 _ _ h2 hm2 =>
      obtain ⟨e1, e2⟩ := List.append_inj' e rfl
      obtain rfl : p = p2 := by simpa using e2
      obtain ⟨rfl, rfl, rfl⟩ := ih h2 e1
      obtain ⟨rfl, rfl, rfl⟩ := hm.one hm2
      exact ⟨rfl, rfl, rfl⟩
/-- What went out, and the rest from there on. -/
theorem Enc.laid {ps : List RcPart} {L R : Nat} {o : List Nat} (h : Enc ps L R o) : ∀ {qs : List RcPart} {T : List Nat}, Laid L R qs T → Laid 0 4294967295 (ps ++ qs) (o ++ T) := by
  induction h with
  | nil => intro qs T hl; exact hl
  | snoc ps p L R o o2 L' R' h hm ih =>
    intro qs T hl
    have := ih (.part L R p qs o2 T L' R' hm hl)
    simpa [List.append_assoc] using this
theorem Enc.bytes {ps : List RcPart} {L R : Nat} {o : List Nat} (h : Enc ps L R o) : Laid 0 4294967295 ps (o ++ be4 L) := by
  have := h.laid (.last L R)
  simpa using this

/-- The next byte comes: C, the bytes that are left, the first error. -/
def comeS (s : Nat × List Nat × Nat) : Nat × List Nat × Nat := match s.2.1 with
  | [] => (s.1, [], if s.2.2 = 0 then 16 else s.2.2)
  | b :: B => ((256 * s.1 + b) % 4294967296, B, s.2.2)
def comesS : Nat → Nat × List Nat × Nat → Nat × List Nat × Nat
  | 0, s => s
  | k + 1, s => comesS k (comeS s)
theorem comesS_succ : ∀ (k : Nat) (s : Nat × List Nat × Nat), comesS (k + 1) s = comeS (comesS k s)
  | 0, _ => rfl
  | k + 1, s => comesS_succ k (comeS s)
theorem comeS_lt {s : Nat × List Nat × Nat} (h : s.1 < 4294967296) : (comeS s).1 < 4294967296 := by
  unfold comeS
  split
  · exact h
  · exact Nat.mod_lt _ (by decide)
theorem comesS_lt : ∀ (k : Nat) {s : Nat × List Nat × Nat}, s.1 < 4294967296 → (comesS k s).1 < 4294967296
  | 0, _, h => h
  | k + 1, _, h => comesS_lt k (comeS_lt h)
theorem comeS_nil (C E : Nat) : comeS (C, [], E) = (C, [], if E = 0 then 16 else E) := rfl
theorem comeS_cons (C b E : Nat) (B : List Nat) : comeS (C, b :: B, E) = ((256 * C + b) % 4294967296, B, E) := rfl
/-- Where bytes o, and four more, are left, o come without error. -/
theorem comesS_num : ∀ (o T : List Nat) (E : Nat), (∀ y ∈ o ++ T, y < 256) → 4 ≤ T.length → comesS o.length (num4 (o ++ T), (o ++ T).drop 4, E) = (num4 T, T.drop 4, E)
  | [], T, E, _, _ => rfl
  | x :: o, T, E, h, hl => by
    have hb : ∀ y ∈ o ++ T, y < 256 := fun y hy => h y (by simp only [List.cons_append, List.mem_cons]; exact .inr hy)
    have hl2 : 4 ≤ (o ++ T).length := by simp; omega
    obtain ⟨-, h2, -⟩ := num4_cons (x := x) hb hl2
    obtain ⟨d, D, hd⟩ : ∃ d D, (o ++ T).drop 3 = d :: D := ⟨_, _, List.drop_eq_getElem_cons (show 3 < (o ++ T).length by omega)⟩
    have hd3 : (o ++ T).getD 3 0 = d := by
      have : (o ++ T)[3]? = some d := by rw [← List.head?_drop, hd]; rfl
      simp [List.getD_eq_getElem?_getD, this]
    have hd4 : (o ++ T).drop 4 = D := by
      have : ((o ++ T).drop 3).drop 1 = D := by rw [hd]; rfl
      rw [List.drop_drop] at this
      exact this
    rw [List.length_cons, comesS, List.cons_append]
    have : (x :: (o ++ T)).drop 4 = d :: D := by rw [← hd]; rfl
    rw [this, comeS_cons, ← hd3, h2, ← hd4]
    exact comesS_num o T E hb hl
/-- What four bytes come to, at first. -/
theorem comesS_four (a b c d : Nat) (T : List Nat) (h : ∀ y ∈ a :: b :: c :: d :: T, y < 256) : comesS 4 (0, a :: b :: c :: d :: T, 0) = (num4 (a :: b :: c :: d :: T), T, 0) := by
  have ha := h a (by simp)
  have hb := h b (by simp)
  have hc := h c (by simp)
  have hd := h d (by simp)
  simp only [comesS, comeS_cons, num4]
  simp
  omega
/-- What is found: a number, and the error. -/
def findS (L R C total : Nat) : Nat × Nat := if total ≤ (C + 4294967296 - L) % 4294967296 / (R / total) then (0, 16) else ((C + 4294967296 - L) % 4294967296 / (R / total), 0)
theorem findS_in {L R C low size total : Nat} (hL : L ≤ C) (hC : C < 4294967296) (hr : 1 ≤ R / total) (h1 : L + low * (R / total) ≤ C) (h2 : C < L + low * (R / total) + size * (R / total)) (h3 : low + size ≤ total) : ∃ n, findS L R C total = (n, 0) ∧ low ≤ n ∧ n < low + size := by
  obtain ⟨f1, f2⟩ := found_in (total := total) hr h1 h2
  have e : (C + 4294967296 - L) % 4294967296 = C - L := by omega
  refine ⟨(C - L) / (R / total), ?_, f1, f2⟩
  unfold findS
  rw [e, if_neg (by omega)]
end Go.Proofs.YtgbibmgedmbboaaGreat
