/- Layer 17: what an encoder and a decoder hold: plain mathematics. -/
import Derived.Test.YtgdebfjjohoghaaRcMath
namespace Go.Proofs.Ytgdebfjjohoghaa

/-- What an encoder holds behind parts: a span, and the bytes that went out. -/
inductive Enc : List RcPart → Nat → Nat → List Nat → Prop
  | nil : Enc [] 0 4294967295 []
  | snoc (ps : List RcPart) (p : RcPart) (L R : Nat) (o o2 : List Nat) (L' R' : Nat) (h : Enc ps L R o) (hm : Moves (L + p.low * (R / p.total)) (p.size * (R / p.total)) o2 L' R') : Enc (ps ++ [p]) L' R' (o ++ o2)
theorem Enc.inside {ps : List RcPart} {L R : Nat} {o : List Nat} (h : Enc ps L R o) : (∀ p ∈ ps, p.ok) → InSpan L R ∧ 65536 ≤ R ∧ (∀ x ∈ o, x < 256) ∧ o.length ≤ 7 * ps.length := by
  induction h with
  | nil => intro _; exact ⟨span_start, by decide, by simp, by simp⟩
  | snoc ps p L R o o2 L' R' h hm ih =>
    intro hp
    obtain ⟨i1, i2, i3, i4⟩ := ih fun q hq => hp q (by simp [hq])
    obtain ⟨p1, p2, p3⟩ := hp p (by simp)
    obtain ⟨n1, n2, n3, n4⟩ := narrow_span i1 i2 p1 p2 p3
    obtain ⟨j1, j2⟩ := hm.inside n4
    refine ⟨j1, j2, fun x hx => ?_, ?_⟩
    · rcases List.mem_append.1 hx with hx | hx
      · exact i3 x hx
      · exact hm.bytes n4.1 x hx
    · have := hm.few n4
      simp only [List.length_append, List.length_singleton]
      omega
/-- A part more: there is one outcome. -/
theorem Enc.more {ps : List RcPart} {L R : Nat} {o : List Nat} (h : Enc ps L R o) (hp : ∀ p ∈ ps, p.ok) {p : RcPart} (hk : p.ok) : ∃ o2 L' R', Moves (L + p.low * (R / p.total)) (p.size * (R / p.total)) o2 L' R' ∧ Enc (ps ++ [p]) L' R' (o ++ o2) := by
  obtain ⟨i1, i2, -, -⟩ := h.inside hp
  obtain ⟨p1, p2, p3⟩ := hk
  obtain ⟨n1, n2, n3, n4⟩ := narrow_span i1 i2 p1 p2 p3
  obtain ⟨o2, L', R', hm, -⟩ := moves_all n4
  exact ⟨o2, L', R', hm, .snoc ps p L R o o2 L' R' h hm⟩
theorem Enc.one {ps : List RcPart} {L R : Nat} {o : List Nat} (h : Enc ps L R o) : ∀ {qs : List RcPart} {L' R' : Nat} {o' : List Nat}, Enc qs L' R' o' → ps = qs → L = L' ∧ R = R' ∧ o = o' := by
  induction h with
  | nil =>
    intro qs L' R' o' h' e
    cases h' with
    | nil => exact ⟨rfl, rfl, rfl⟩
    | snoc ps p => exact absurd e (by simp)
  | snoc ps p L R o o2 A B h hm ih =>
    intro qs L' R' o' h' e
    cases h' with
    | nil => exact absurd e (by simp)
    | snoc ps2 p2 L2 R2 o3 o4 _ _ h2 hm2 =>
      obtain ⟨e1, e2⟩ := List.append_inj' e rfl
      obtain rfl : p = p2 := by simpa using e2
      obtain ⟨rfl, rfl, rfl⟩ := ih h2 e1
      obtain ⟨rfl, rfl, rfl⟩ := hm.one hm2
      exact ⟨rfl, rfl, rfl⟩
/-- What went out, and the rest from there on. -/
theorem Enc.laid {ps : List RcPart} {L R : Nat} {o : List Nat} (h : Enc ps L R o) : ∀ {qs : List RcPart} {T : List Nat}, Laid L R qs T → Laid 0 4294967295 (ps ++ qs) (o ++ T) := by
  induction h with
  | nil => intro qs T hl; exact hl
  | snoc ps p L R o o2 L' R' h hm ih =>
    intro qs T hl
    have := ih (.part L R p qs o2 T L' R' hm hl)
    simpa [List.append_assoc] using this
theorem Enc.bytes {ps : List RcPart} {L R : Nat} {o : List Nat} (h : Enc ps L R o) : Laid 0 4294967295 ps (o ++ be4 L) := by
  have := h.laid (.last L R)
  simpa using this

/-- The next byte comes: C, the bytes that are left, the first error. -/
def comeS (s : Nat × List Nat × Nat) : Nat × List Nat × Nat := match s.2.1 with
  | [] => (s.1, [], if s.2.2 = 0 then 16 else s.2.2)
  | b :: B => ((256 * s.1 + b) % 4294967296, B, s.2.2)
def comesS : Nat → Nat × List Nat × Nat → Nat × List Nat × Nat
  | 0, s => s
  | k + 1, s => comesS k (comeS s)
theorem comesS_succ : ∀ (k : Nat) (s : Nat × List Nat × Nat), comesS (k + 1) s = comeS (comesS k s)
  | 0, _ => rfl
  | k + 1, s => comesS_succ k (comeS s)
theorem comeS_lt {s : Nat × List Nat × Nat} (h : s.1 < 4294967296) : (comeS s).1 < 4294967296 := by
  unfold comeS
  split
  · exact h
  · exact Nat.mod_lt _ (by decide)
theorem comesS_lt : ∀ (k : Nat) {s : Nat × List Nat × Nat}, s.1 < 4294967296 → (comesS k s).1 < 4294967296
  | 0, _, h => h
  | k + 1, _, h => comesS_lt k (comeS_lt h)
theorem comeS_nil (C E : Nat) : comeS (C, [], E) = (C, [], if E = 0 then 16 else E) := rfl
theorem comeS_cons (C b E : Nat) (B : List Nat) : comeS (C, b :: B, E) = ((256 * C + b) % 4294967296, B, E) := rfl
/-- Where bytes o, and four more, are left, o come without error. -/
theorem comesS_num : ∀ (o T : List Nat) (E : Nat), (∀ y ∈ o ++ T, y < 256) → 4 ≤ T.length → comesS o.length (num4 (o ++ T), (o ++ T).drop 4, E) = (num4 T, T.drop 4, E)
  | [], T, E, _, _ => rfl
  | x :: o, T, E, h, hl => by
    have hb : ∀ y ∈ o ++ T, y < 256 := fun y hy => h y (by simp only [List.cons_append, List.mem_cons]; exact .inr hy)
    have hl2 : 4 ≤ (o ++ T).length := by simp; omega
    obtain ⟨-, h2, -⟩ := num4_cons (x := x) hb hl2
    obtain ⟨d, D, hd⟩ : ∃ d D, (o ++ T).drop 3 = d :: D := ⟨_, _, List.drop_eq_getElem_cons (show 3 < (o ++ T).length by omega)⟩
    have hd3 : (o ++ T).getD 3 0 = d := by
      have : (o ++ T)[3]? = some d := by rw [← List.head?_drop, hd]; rfl
      simp [List.getD_eq_getElem?_getD, this]
    have hd4 : (o ++ T).drop 4 = D := by
      have : ((o ++ T).drop 3).drop 1 = D := by rw [hd]; rfl
      rw [List.drop_drop] at this
      exact this
    rw [List.length_cons, comesS, List.cons_append]
    have : (x :: (o ++ T)).drop 4 = d :: D := by rw [← hd]; rfl
    rw [this, comeS_cons, ← hd3, h2, ← hd4]
    exact comesS_num o T E hb hl
/-- What four bytes come to, at first. -/
theorem comesS_four (a b c d : Nat) (T : List Nat) (h : ∀ y ∈ a :: b :: c :: d :: T, y < 256) : comesS 4 (0, a :: b :: c :: d :: T, 0) = (num4 (a :: b :: c :: d :: T), T, 0) := by
  have ha := h a (by simp)
  have hb := h b (by simp)
  have hc := h c (by simp)
  have hd := h d (by simp)
  simp only [comesS, comeS_cons, num4]
  simp
  omega
/-- What is found: a number, and the error. -/
def findS (L R C total : Nat) : Nat × Nat := if total ≤ (C + 4294967296 - L) % 4294967296 / (R / total) then (0, 16) else ((C + 4294967296 - L) % 4294967296 / (R / total), 0)
theorem findS_in {L R C low size total : Nat} (hL : L ≤ C) (hC : C < 4294967296) (hr : 1 ≤ R / total) (h1 : L + low * (R / total) ≤ C) (h2 : C < L + low * (R / total) + size * (R / total)) (h3 : low + size ≤ total) : ∃ n, findS L R C total = (n, 0) ∧ low ≤ n ∧ n < low + size := by
  obtain ⟨f1, f2⟩ := found_in (total := total) hr h1 h2
  have e : (C + 4294967296 - L) % 4294967296 = C - L := by omega
  refine ⟨(C - L) / (R / total), ?_, f1, f2⟩
  unfold findS
  rw [e, if_neg (by omega)]
end Go.Proofs.Ytgdebfjjohoghaa
