/-
  Plain mathematics of layer 17: a span, the bytes that move, and a number within. Written ahead of the code. · Layer 17: what an encoder and a decoder hold: plain mathematics. · Plain mathematics of layer 16: shares as bytes, and back. Written ahead of the code. · Contracts of the number functions of layer 2: Len64, Size, Fold, Unfold. · Contracts of the functions that lay a number: ref.Put, leb.Put, leb.PutInt. · Layer 16: Put: the bytes of shares.
-/
import Derived.Test.YtflcmmeoppdhdaaGreatQ01
import Derived.Test.YtflcmmeoppdhdaaGreatQ02
import Derived.Test.YtflcmmeoppdhdaaGreatQ10
import Derived.Lib.BitFns
import Derived.Test.YtflcmmeoppdhdaaGreatProg
import Derived.Lib.Strings
import Derived.Lib.Slices
import Derived.Lib.Small
import Derived.Lib.Walk
import Derived.Deep.DeepMust
namespace Go.Proofs.YtflcmmeoppdhdaaGreat

/-- Are the highest bytes of L, and of L and R together, the same? -/
def SameB (L R : Nat) : Prop := L / 16777216 = (L + R) % 4294967296 / 16777216
instance (L R : Nat) : Decidable (SameB L R) := by unfold SameB; infer_instance
/-- R, ahead of a byte that moves. -/
def cutR (L R : Nat) : Nat := if SameB L R then R else 65536 - L % 65536
/-- The bytes that move, and the span behind them. -/
inductive Moves : Nat → Nat → List Nat → Nat → Nat → Prop
  | stop (L R : Nat) (h : ¬ SameB L R) (h2 : 65536 ≤ R) : Moves L R [] L R
  | move (L R : Nat) (o : List Nat) (L' R' : Nat) (h : SameB L R ∨ R < 65536) (hr : Moves (256 * L % 4294967296) (256 * cutR L R % 4294967296) o L' R') : Moves L R (L / 16777216 :: o) L' R'
theorem Moves.one {L R : Nat} {o o' : List Nat} {A B A' B' : Nat} (h : Moves L R o A B) (h' : Moves L R o' A' B') : o = o' ∧ A = A' ∧ B = B' := by
  induction h generalizing o' A' B' with
  | stop L R h h2 =>
    cases h' with
    | stop => exact ⟨rfl, rfl, rfl⟩
    | move _ _ _ _ _ hh => rcases hh with hh | hh
                           · exact absurd hh h
                           · omega
  | move L R o A B hh hr ih =>
    cases h' with
    | stop _ _ h h2 => rcases hh with hh | hh
                       · exact absurd hh h
                       · omega
    | move _ _ o2 _ _ _ hr2 =>
      obtain ⟨e1, e2, e3⟩ := ih hr2
      exact ⟨by rw [e1], e2, e3⟩
/-- A span as it may be. -/
def InSpan (L R : Nat) : Prop := L < 4294967296 ∧ 1 ≤ R ∧ L + R ≤ 4294967296 ∧ (L + R = 4294967296 → 16777216 ≤ L)
theorem span_start : InSpan 0 4294967295 := ⟨by decide, by decide, by decide, by omega⟩
/-- A byte moves as both are the same. -/
theorem same_step {L R : Nat} (h : InSpan L R) (hs : SameB L R) : R < 16777216 ∧ 256 * L % 4294967296 = 256 * (L % 16777216) ∧ 256 * R % 4294967296 = 256 * R ∧ L % 16777216 + R < 16777216 ∧ InSpan (256 * L % 4294967296) (256 * R % 4294967296) := by
  obtain ⟨h1, h2, h3, h4⟩ := h
  unfold SameB at hs
  have h5 : L + R < 4294967296 := by
    refine Nat.lt_of_le_of_ne h3 fun e => ?_
    have := h4 e
    rw [e] at hs
    omega
  rw [Nat.mod_eq_of_lt h5] at hs
  have h6 : L % 16777216 + R < 16777216 := by omega
  have e1 : 256 * L % 4294967296 = 256 * (L % 16777216) := by omega
  have e2 : 256 * R % 4294967296 = 256 * R := by omega
  refine ⟨by omega, e1, e2, h6, ?_⟩
  rw [e1, e2]
  refine ⟨by omega, by omega, by omega, by omega⟩
/-- A byte moves as R is small. -/
theorem cut_step {L R : Nat} (h : InSpan L R) (hs : ¬ SameB L R) (hR : R < 65536) :
    1 ≤ 65536 - L % 65536 ∧ 65536 - L % 65536 ≤ R ∧ 65536 - L % 65536 ≤ 65536 ∧ 256 * L % 4294967296 = 256 * (L % 16777216) ∧ L % 16777216 + (65536 - L % 65536) = 16777216 ∧ 256 * (65536 - L % 65536) % 4294967296 = 256 * (65536 - L % 65536) := by
  obtain ⟨h1, h2, h3, h4⟩ := h
  unfold SameB at hs
  have h6 : 16777216 ≤ L % 16777216 + R := by
    refine Nat.le_of_not_lt fun hlt => hs ?_
    by_cases e : L + R = 4294967296
    · omega
    · rw [Nat.mod_eq_of_lt (by omega)]; omega
  have e1 : 256 * L % 4294967296 = 256 * (L % 16777216) := by omega
  have e3 : L % 16777216 + (65536 - L % 65536) = 16777216 := by omega
  exact ⟨by omega, by omega, by omega, e1, e3, by omega⟩
/-- A span that goes up to its end: no bytes are the same; few move. -/
theorem moves_end : ∀ (f L R : Nat), L + R = 4294967296 → 1 ≤ R → R ≤ 16777216 → 65536 ≤ R * 256 ^ f → ∃ o L' R', Moves L R o L' R' ∧ InSpan L' R' ∧ 65536 ≤ R' ∧ o.length ≤ f := by
  intro f
  induction f with
  | zero =>
    intro L R h1 h2 h3 h4
    have hs : ¬ SameB L R := by unfold SameB; rw [h1]; omega
    exact ⟨[], L, R, .stop L R hs (by simpa using h4), ⟨by omega, h2, by omega, by omega⟩, by simpa using h4, Nat.le_refl _⟩
  | succ f ih =>
    intro L R h1 h2 h3 h4
    have hs : ¬ SameB L R := by unfold SameB; rw [h1]; omega
    by_cases hR : 65536 ≤ R
    · exact ⟨[], L, R, .stop L R hs hR, ⟨by omega, h2, by omega, by omega⟩, hR, Nat.zero_le _⟩
    · have hc : cutR L R = R := by unfold cutR; rw [if_neg hs]; omega
      have e1 : 256 * L % 4294967296 + 256 * R = 4294967296 := by omega
      have e2 : 256 * R % 4294967296 = 256 * R := by omega
      obtain ⟨o, L', R', hm, hi, hr, hl⟩ := ih (256 * L % 4294967296) (256 * R) e1 (by omega) (by omega) (by rw [Nat.pow_succ] at h4; rw [Nat.mul_comm 256 R, Nat.mul_assoc, Nat.mul_comm 256]; exact h4)
      exact ⟨_, L', R', .move L R o L' R' (.inr (by omega)) (by rw [hc, e2]; exact hm), hi, hr, by simp; omega⟩
theorem moves_some : ∀ (f L R : Nat), InSpan L R → 4294967296 ≤ R * 256 ^ f → ∃ o L' R', Moves L R o L' R' ∧ InSpan L' R' ∧ 65536 ≤ R' ∧ o.length ≤ f + 3 := by
  intro f
  induction f with
  | zero =>
    intro L R h h4
    obtain ⟨h1, h2, h3, h5⟩ := h
    simp only [Nat.pow_zero, Nat.mul_one] at h4
    omega
  | succ f ih =>
    intro L R h h4
    by_cases hs : SameB L R
    · obtain ⟨h1, e1, e2, h6, h7⟩ := same_step h hs
      have hc : cutR L R = R := by unfold cutR; rw [if_pos hs]
      obtain ⟨o, L', R', hm, hi, hr, hl⟩ := ih _ _ h7 (by rw [e2]; rw [Nat.pow_succ] at h4; rw [Nat.mul_comm 256 R, Nat.mul_assoc, Nat.mul_comm 256]; exact h4)
      exact ⟨_, L', R', .move L R o L' R' (.inl hs) (by rw [hc]; exact hm), hi, hr, by simp; omega⟩
    · by_cases hR : 65536 ≤ R
      · exact ⟨[], L, R, .stop L R hs hR, h, hR, Nat.zero_le _⟩
      · obtain ⟨c1, c2, c3, c4, c5, c6⟩ := cut_step h hs (by omega)
        have hc : cutR L R = 65536 - L % 65536 := by unfold cutR; rw [if_neg hs]
        obtain ⟨o, L', R', hm, hi, hr, hl⟩ := moves_end 2 (256 * L % 4294967296) (256 * (65536 - L % 65536)) (by omega) (by omega) (by omega) (by omega)
        exact ⟨_, L', R', .move L R o L' R' (.inr (by omega)) (by rw [hc, c6]; exact hm), hi, hr, by simp; omega⟩
/-- From each span some bytes move, or none, and then it is one that parts may narrow. -/
theorem moves_all {L R : Nat} (h : InSpan L R) : ∃ o L' R', Moves L R o L' R' ∧ InSpan L' R' ∧ 65536 ≤ R' ∧ o.length ≤ 7 := moves_some 4 L R h (by have := h.2.1; omega)
/-- A span, narrowed. -/
theorem narrow_span {L R low size total : Nat} (h : InSpan L R) (hR : 65536 ≤ R) (h1 : 1 ≤ size) (h2 : low + size ≤ total) (h3 : total ≤ 65536) :
    1 ≤ R / total ∧ (low + size) * (R / total) ≤ R ∧ (L + low * (R / total)) % 4294967296 = L + low * (R / total) ∧ InSpan (L + low * (R / total)) (size * (R / total)) := by
  obtain ⟨g1, g2, g3, g4⟩ := h
  have hr : 1 ≤ R / total := (Nat.le_div_iff_mul_le (by omega)).2 (by omega)
  have hm : (low + size) * (R / total) ≤ R := Nat.le_trans (Nat.mul_le_mul_right _ h2) (Nat.mul_div_le R total)
  obtain ⟨r, hrr⟩ : ∃ r, r = R / total := ⟨_, rfl⟩
  rw [← hrr] at hr hm ⊢
  have hs : 1 ≤ size * r := Nat.mul_pos h1 hr
  have e : (low + size) * r = low * r + size * r := Nat.add_mul ..
  refine ⟨hr, hm, Nat.mod_eq_of_lt (by omega), by omega, hs, by omega, fun hh => by have := g4 (by omega); omega⟩

/-- L's four bytes. -/
def be4 (L : Nat) : List Nat := [L / 16777216, L / 65536 % 256, L / 256 % 256, L % 256]
theorem Moves.bytes {L R : Nat} {o : List Nat} {L' R' : Nat} (h : Moves L R o L' R') : L < 4294967296 → ∀ x ∈ o, x < 256 := by
  induction h with
  | stop => intro _ x hx; simp at hx
  | move L R o L' R' hh hr ih =>
    intro hL x hx
    rcases List.mem_cons.1 hx with rfl | hx
    · omega
    · exact ih (Nat.mod_lt _ (by decide)) x hx
/-- A byte moves: the span behind it. -/
theorem move_span {L R : Nat} (hsp : InSpan L R) (hh : SameB L R ∨ R < 65536) : cutR L R ≤ R ∧ 256 * L % 4294967296 = 256 * (L % 16777216) ∧ 256 * cutR L R % 4294967296 = 256 * cutR L R ∧ InSpan (256 * L % 4294967296) (256 * cutR L R % 4294967296) := by
  by_cases hs : SameB L R
  · obtain ⟨a1, e1, e2, a2, a3⟩ := same_step hsp hs
    have hc : cutR L R = R := by unfold cutR; rw [if_pos hs]
    rw [hc]
    exact ⟨Nat.le_refl _, e1, e2, a3⟩
  · have hR : R < 65536 := by rcases hh with hh | hh
                              · exact absurd hh hs
                              · exact hh
    obtain ⟨c1, c2, c3, c4, c5, c6⟩ := cut_step hsp hs hR
    have hc : cutR L R = 65536 - L % 65536 := by unfold cutR; rw [if_neg hs]
    rw [hc]
    refine ⟨c2, c4, c6, ?_⟩
    rw [c4, c6]
    refine ⟨by omega, by omega, by omega, by omega⟩
/-- A part that may be. -/
structure RcPart where
  low : Nat
  size : Nat
  total : Nat
def RcPart.ok (p : RcPart) : Prop := 1 ≤ p.size ∧ p.low + p.size ≤ p.total ∧ p.total ≤ 65536
/-- The bytes of parts, from a span on. -/
inductive Laid : Nat → Nat → List RcPart → List Nat → Prop
  | last (L R : Nat) : Laid L R [] (be4 L)
  | part (L R : Nat) (p : RcPart) (ps : List RcPart) (o T : List Nat) (L' R' : Nat) (hm : Moves (L + p.low * (R / p.total)) (p.size * (R / p.total)) o L' R') (hr : Laid L' R' ps T) : Laid L R (p :: ps) (o ++ T)
theorem Moves.inside {L R : Nat} {o : List Nat} {L' R' : Nat} (h : Moves L R o L' R') (hs : InSpan L R) : InSpan L' R' ∧ 65536 ≤ R' := by
  obtain ⟨o2, A, B, hm, h1, h2, -⟩ := moves_all hs
  obtain ⟨-, rfl, rfl⟩ := h.one hm
  exact ⟨h1, h2⟩
theorem Moves.few {L R : Nat} {o : List Nat} {L' R' : Nat} (h : Moves L R o L' R') (hs : InSpan L R) : o.length ≤ 7 := by
  obtain ⟨o2, A, B, hm, -, -, hl⟩ := moves_all hs
  obtain ⟨rfl, -, -⟩ := h.one hm
  exact hl
end Go.Proofs.YtflcmmeoppdhdaaGreat
namespace Go.Proofs.YtflcmmeoppdhdaaGreat

/-- What an encoder holds behind parts: a span, and the bytes that went out. -/
inductive Enc : List RcPart → Nat → Nat → List Nat → Prop
  | nil : Enc [] 0 4294967295 []
  | snoc (ps : List RcPart) (p : RcPart) (L R : Nat) (o o2 : List Nat) (L' R' : Nat) (h : Enc ps L R o) (hm : Moves (L + p.low * (R / p.total)) (p.size * (R / p.total)) o2 L' R') : Enc (ps ++ [p]) L' R' (o ++ o2)
theorem Enc.inside {ps : List RcPart} {L R : Nat} {o : List Nat} (h : Enc ps L R o) : (∀ p ∈ ps, p.ok) → InSpan L R ∧ 65536 ≤ R ∧ (∀ x ∈ o, x < 256) ∧ o.length ≤ 7 * ps.length := by
  induction h with
  | nil => intro _; exact ⟨span_start, by decide, by simp, by simp⟩
  | snoc ps p L R o o2 L' R' h hm ih =>
    intro hp
    obtain ⟨i1, i2, i3, i4⟩ := ih fun q hq => hp q (by simp [hq])
    obtain ⟨p1, p2, p3⟩ := hp p (by simp)
    obtain ⟨n1, n2, n3, n4⟩ := narrow_span i1 i2 p1 p2 p3
    obtain ⟨j1, j2⟩ := hm.inside n4
    refine ⟨j1, j2, fun x hx => ?_, ?_⟩
    · rcases List.mem_append.1 hx with hx | hx
      · exact i3 x hx
      · exact hm.bytes n4.1 x hx
    · have := hm.few n4
      simp only [List.length_append, List.length_singleton]
      omega
/-- A part more: there is one outcome. -/
theorem Enc.more {ps : List RcPart} {L R : Nat} {o : List Nat} (h : Enc ps L R o) (hp : ∀ p ∈ ps, p.ok) {p : RcPart} (hk : p.ok) : ∃ o2 L' R', Moves (L + p.low * (R / p.total)) (p.size * (R / p.total)) o2 L' R' ∧ Enc (ps ++ [p]) L' R' (o ++ o2) := by
  obtain ⟨i1, i2, -, -⟩ := h.inside hp
  obtain ⟨p1, p2, p3⟩ := hk
  obtain ⟨n1, n2, n3, n4⟩ := narrow_span i1 i2 p1 p2 p3
  obtain ⟨o2, L', R', hm, -⟩ := moves_all n4
  exact ⟨o2, L', R', hm, .snoc ps p L R o o2 L' R' h hm⟩
/-- What went out, and the rest from there on. -/
theorem Enc.laid {ps : List RcPart} {L R : Nat} {o : List Nat} (h : Enc ps L R o) : ∀ {qs : List RcPart} {T : List Nat}, Laid L R qs T → Laid 0 4294967295 (ps ++ qs) (o ++ T) := by
  induction h with
  | nil => intro qs T hl; exact hl
  | snoc ps p L R o o2 L' R' h hm ih =>
    intro qs T hl
    have := ih (.part L R p qs o2 T L' R' hm hl)
    simpa [List.append_assoc] using this
theorem Enc.bytes {ps : List RcPart} {L R : Nat} {o : List Nat} (h : Enc ps L R o) : Laid 0 4294967295 ps (o ++ be4 L) := by
  have := h.laid (.last L R)
  simpa using this

end Go.Proofs.YtflcmmeoppdhdaaGreat
namespace Go.Proofs.YtflcmmeoppdhdaaGreat

/-- The bytes of shares, behind so many noughts. -/
def hPutF : Nat → List Int → List UInt8
  | z, [] => lput z
  | z, x :: l => if x = 0 then hPutF (z + 1) l else lput z ++ (lput (x - 1).toNat ++ hPutF 0 l)
def hPut (l : List Int) : List UInt8 := hPutF 0 l
theorem hPutF_nil (z : Nat) : hPutF z [] = lput z := rfl
theorem hPutF_zero (z : Nat) (l : List Int) : hPutF z (0 :: l) = hPutF (z + 1) l := by simp [hPutF]
theorem hPutF_some (z : Nat) {x : Int} (l : List Int) (h : x ≠ 0) : hPutF z (x :: l) = lput z ++ (lput (x - 1).toNat ++ hPutF 0 l) := by simp [hPutF, h]

/-- Noughts. -/
def zerosI (n : Nat) : List Int := List.replicate n 0
/-- Of bytes the shares, and how many bytes these are: so many rounds at most. -/
def hGetF : Nat → List Int → List UInt8 → Nat → Option (List Int × Nat)
  | 0, _, _, _ => none
  | f + 1, out, b, at_ =>
    if (lget b).2.2 ≠ 0 ∨ 65535 < (lget b).1 then none
    else if 256 < out.length + (lget b).1 then none
    else if out.length + (lget b).1 = 256 then some (out ++ zerosI (lget b).1, at_ + (lget b).2.1)
    else if (lget (b.drop (lget b).2.1)).2.2 ≠ 0 ∨ 65535 < (lget (b.drop (lget b).2.1)).1 then none
    else hGetF f (out ++ zerosI (lget b).1 ++ [((lget (b.drop (lget b).2.1)).1 : Int) + 1]) ((b.drop (lget b).2.1).drop (lget (b.drop (lget b).2.1)).2.1) (at_ + (lget b).2.1 + (lget (b.drop (lget b).2.1)).2.1)
end Go.Proofs.YtflcmmeoppdhdaaGreat
namespace Go.Proofs.YtflcmmeoppdhdaaGreat
open Go.RowKit

/-- one way through Len64: the table's byte of y, y being x without its lowest k bits -/
theorem len_way (x y : Int) (k d : Nat) (hd : d = 2 ^ k) (h0 : 0 ≤ x) (h1 : x ≤ 18446744073709551615) (hy : y.toNat = x.toNat / d) (hx : k = 0 ∨ d ≤ x.toNat) :
    (k : Int) + (Lib.bitLen y.toNat : Int) = (Lib.bitLen x.toNat : Int) := by
  rw [hy]
  subst hd
  rcases hx with rfl | hx
  · simp
  · rw [Lib.bitLen_shift k x.toNat hx (by omega)]; omega

theorem tab_size : Lib.len8tab.size = 256 := by kernel_rfl
theorem tab_at (i : Nat) (h : i < Lib.len8tab.size) : (Lib.len8tab[i]'h).toNat = Lib.bitLen i := by
  have key : ∀ j : Fin 256, (Lib.len8tab[j.val]'(by rw [tab_size]; exact j.isLt)).toNat = Lib.bitLen j.val := by decide +kernel
  exact key ⟨i, by rw [tab_size] at h; exact h⟩
/-- what one way through Len64 hands back -/
theorem len_end (x y : Int) (k d : Nat) (hd : d = 2 ^ k) (hk : k ≤ 56) (h0 : 0 ≤ x) (h1 : x ≤ 18446744073709551615) (hy : y.toNat = x.toNat / d) (hx : k = 0 ∨ d ≤ x.toNat) (h : y.toNat < Lib.len8tab.size) :
    wrap64 ((k : Int) + wrap64 ((Lib.len8tab[y.toNat]'h).toNat : Int)) = (Lib.bitLen x.toNat : Int) := by
  have e := len_way x y k d hd h0 h1 hy hx
  have l := Lib.bitLen_le8 ⟨y.toNat, by rw [tab_size] at h; exact h⟩
  simp only at l
  rw [tab_at, IntWalk.wrap64_in (Lib.bitLen y.toNat : Int) (by omega), IntWalk.wrap64_in _ (by omega), e]

set_option maxHeartbeats 4000000 in
set_option maxRecDepth 100000 in
theorem len64_any (x : Int) (w : World) (h0 : 0 ≤ x) (h1 : x ≤ 18446744073709551615) :
    Calls Tryz.prog 244 #[.int .u64 x] w fun e w' => e = .returned (.int .i64 (Lib.bitLen x.toNat)) ∧ w = w' := by
  have hts := tab_size
  go_enter Tryz.func244, Tryz.ntmps244
  go_wp2
  all_goals (go_ret; refine ⟨ret_int ?_, rfl⟩)
  all_goals first
    | exact len_end x (x / 4294967296 / 65536 / 256) 56 72057594037927936 (by decide) (by decide) h0 h1 (by omega) (by omega) _
    | exact len_end x (x / 4294967296 / 65536) 48 281474976710656 (by decide) (by decide) h0 h1 (by omega) (by omega) _
    | exact len_end x (x / 4294967296 / 256) 40 1099511627776 (by decide) (by decide) h0 h1 (by omega) (by omega) _
    | exact len_end x (x / 4294967296) 32 4294967296 (by decide) (by decide) h0 h1 (by omega) (by omega) _
    | exact len_end x (x / 65536 / 256) 24 16777216 (by decide) (by decide) h0 h1 (by omega) (by omega) _
    | exact len_end x (x / 65536) 16 65536 (by decide) (by decide) h0 h1 (by omega) (by omega) _
    | exact len_end x (x / 256) 8 256 (by decide) (by decide) h0 h1 (by omega) (by omega) _
    | exact (congrArg wrap64 (Int.zero_add _).symm).trans (len_end x x 0 1 (by decide) (by decide) h0 h1 (by omega) (by omega) _)

set_option maxHeartbeats 400000 in
theorem lebSize_any (n : Int) (w : World) (h0 : 0 ≤ n) (h1 : n ≤ 18446744073709551615) :
    Calls Tryz.prog 228 #[.int .u64 n] w fun e w' => e = .returned (.int .i64 ((lput n.toNat).length : Nat)) ∧ w = w' := by
  have hl := lput_len n.toNat (by omega)
  have hb : Lib.bitLen n.toNat ≤ 64 := Lib.bitLenAux_le 64 _ 64 (by omega)
  have hb' : ((Lib.bitLen n.toNat : Nat) : Int) ≤ 64 := by omega
  have hb0 : 0 ≤ ((Lib.bitLen n.toNat : Nat) : Int) := by omega
  have H := Lib.hid hl
  clear hl hb
  go_enter Tryz.func228, Tryz.ntmps228
  go_wp2_with (go_at_call 244; refine (len64_any _ _ h0 h1).mono ?_; rintro e w' ⟨rfl, rfl⟩)
  go_ret
  exact ⟨ret_int (by rw [H.out]; omega), rfl⟩
end Go.Proofs.YtflcmmeoppdhdaaGreat
namespace Go.Proofs.YtflcmmeoppdhdaaGreat
open Go.RowKit

theorem info_u8 : (Tryz.prog.info? 5).map (fun i => (i.zero, i.size, i.bytes)) = some (some (.int .u8 0), 1, 1) := by kernel_rfl

/-- What hands back the bytes l in new memory. -/
def NewB (w : World) (l : List UInt8) (e : Ending) (w' : World) : Prop :=
  ∃ v, e = .returned v ∧ w'.ownsRow w.heap.size 5 1 v l.length (bvs l) ∧ Below w.heap.size w w'

theorem bvs_snoc (l : List UInt8) (c : Nat) (h : c < 256) : bvs (l ++ [UInt8.ofNat c]) = bvs l ++ [Value.int .u8 (c : Int)] := by
  simp [bvs, toNat_ofNat8 h]

/-- What holds of the number that is left, and of the bytes that are laid, at the head of a round. -/
def PutRel (w : World) (L : List UInt8) (t v : Value) (wr : World) : Prop :=
  ∃ (m : Nat) (out : List UInt8), t = .int .u64 m ∧ m < 18446744073709551616 ∧ Hid (out ++ lput m = L) ∧ wr.ownsRow w.heap.size 5 1 v out.length (bvs out) ∧ Below w.heap.size w wr

set_option maxHeartbeats 400000 in
set_option maxRecDepth 100000 in
theorem refPut_any (n : Int) (w : World) (h0 : 0 ≤ n) (h1 : n ≤ 18446744073709551615) :
    Calls Tryz.prog 61 #[.int .u64 n] w (NewB w (lput n.toNat)) := by
  obtain ⟨i0, hi, hz0, hz1, hz2⟩ := info_parts info_u8
  obtain ⟨N, rfl⟩ := Int.eq_ofNat_of_zero_le h0
  rw [Int.toNat_natCast]
  have hle := lput_le N (by omega)
  obtain ⟨L, hL⟩ : ∃ L, L = lput N := ⟨_, rfl⟩
  rw [← hL] at hle ⊢
  have HL := Lib.hid hL
  clear hL h0
  go_enter Tryz.func61, Tryz.ntmps61
  go_wp2
  go_loopw [0, 3] (PutRel w L) (fun t _ _ => (intOf t).toNat)
  case atStart => exact ⟨N, [], rfl, by omega, HL.out.symm, World.ownsRow_nil _ _ _ _, Below.refl _ _⟩
  case round =>
    obtain ⟨m, out, rfl, hm, Hrel, hown, hb⟩ := hrel
    have hlen : out.length + (lput m).length = L.length := by rw [← Hrel.out]; simp
    have hlp := lput_pos m
    have hbs := hb.size
    by_cases hlt : 127 < m
    · go_wp2_with (at_builtin; refine wpList_app rfl (.tmp 6) (.tmp 11) 22 rfl w.heap.size 5 i0 (.int .u8 0) 1 1 Tryz.underlying22 hi hz0 hz1 hz2 rfl (by decide) _ _ _ rfl (hown.alloc _) _ _ 1 1 _ rfl (Rd.new _ _ _) rfl (by intro u hu; simp at hu; subst hu; rfl) (by simp only [maxLen]; omega) (by omega) (by simp; omega) ?_; intro v1 w1 hown1 hg1)
      have hown2 : w1.ownsRow w.heap.size 5 1 v1 (out ++ [UInt8.ofNat (128 + m % 128)]).length (bvs (out ++ [UInt8.ofNat (128 + m % 128)])) := by
        rw [bvs_snoc _ _ (by omega), List.length_append]; exact_mod_cast hown1
      have hb1 : Below w.heap.size w w1 := (hb.alloc hbs _).grown hg1 (by simp; omega) (own_block hown)
      have Hrel1 : Hid ((out ++ [UInt8.ofNat (128 + m % 128)]) ++ lput (m / 128) = L) := by
        rw [← Hrel.out, lput_big (n := m) (by omega)]; simp [Hid]
      clear hown hg1 hown1 Hrel hb hlen
      go_wp2
      go_roundw
      case rel => exact ⟨m / 128, out ++ [UInt8.ofNat (128 + m % 128)], by go_num, by omega, Hrel1, hown2, hb1⟩
      case measure => simp [intOf]; omega
    · have hm1 : lput m = [UInt8.ofNat m] := lput_small (by omega)
      go_wp2_with (at_builtin; refine wpList_app rfl (.tmp 15) (.tmp 18) 22 rfl w.heap.size 5 i0 (.int .u8 0) 1 1 Tryz.underlying22 hi hz0 hz1 hz2 rfl (by decide) _ _ _ rfl (hown.alloc _) _ _ 1 1 _ rfl (Rd.new _ _ _) rfl (by intro u hu; simp at hu; subst hu; rfl) (by simp only [maxLen]; omega) (by omega) (by simp; omega) ?_; intro v1 w1 hown1 hg1)
      go_ret
      refine ⟨v1, rfl, ?_, (hb.alloc hbs _).grown hg1 (by simp; omega) (own_block hown)⟩
      rw [← Hrel.out, hm1, bvs_snoc _ _ (by omega), List.length_append]
      exact_mod_cast hown1

set_option maxHeartbeats 400000 in
set_option maxRecDepth 100000 in
theorem lebPut_any (A : Option Addr) (k c : Nat) (pre : List UInt8) (n : Int) (w : World) (hr : Rd w w.heap.size A (bvs pre)) (hk : pre.length = k) (hk1 : k ≤ 140737488355000) (h0 : 0 ≤ n) (h1 : n ≤ 18446744073709551615) :
    Calls Tryz.prog 207 #[.slice A k c, .int .u64 n] w (NewB w (pre ++ lput n.toNat)) := by
  obtain ⟨i0, hi, hz0, hz1, hz2⟩ := info_parts info_u8
  obtain ⟨N, rfl⟩ := Int.eq_ofNat_of_zero_le h0
  rw [Int.toNat_natCast]
  have hle := lput_le N (by omega)
  have hsz := lebSize_any N
  rw [Int.toNat_natCast] at hsz
  obtain ⟨S, hS⟩ : ∃ S, S = (lput N).length := ⟨_, rfl⟩
  obtain ⟨L, hL⟩ : ∃ L, L = pre ++ lput N := ⟨_, rfl⟩
  have hLl : L.length = k + S := by rw [hL, List.length_append, hk, hS]
  rw [← hL]
  rw [← hS] at hle hsz
  have HL := Lib.hid hL
  have HS := Lib.hid hS
  have HLl := Lib.hid hLl
  have HK := Lib.hid hk
  have HSZ := Lib.hid hsz
  clear hL hS hk hLl hsz
  have hsz1 : (Tryz.prog.info? 5).map (·.size) = some 1 := by rw [hi]; exact congrArg some hz1
  have HSZ1 := Lib.hid hsz1
  have hcn : (bvs pre).length = Nat.min k k := by rw [bvs_length, HK.out]; exact (Nat.min_self k).symm
  have HCN := Lib.hid hcn
  have hfit : 0 + (bvs pre).length ≤ (List.replicate (k + S) (Value.int .u8 0)).length := by rw [bvs_length, HK.out]; simp
  have HFIT := Lib.hid hfit
  clear hsz1 hcn hfit
  go_enter Tryz.func207, Tryz.ntmps207
  go_wp2_with (first
    | (go_at_call 228; refine (HSZ.out _ h0 h1).mono ?_; rintro e w' ⟨rfl, rfl⟩)
    | (at_make; go_must (refine wpList_mk rfl (.tmp 7) (.tmp 12) 22 rfl w.heap.size 5 i0 (.int .u8 0) 1 Tryz.underlying22 hi hz0 rfl hz1 hz2 .i64 .i64 _ _ rfl rfl k (k + S) rfl (by omega) (by omega) (by omega) (by simp only [maxLen]; omega) (Nat.le_refl _) ?_; intro w1 hg1 hown1 hgr1; have hr1 : Rd w1 w.heap.size A (bvs pre) := hr.grown hgr1 (Nat.le_refl _) (by simp); have hb1 : Below w.heap.size w w1 := (Below.refl _ _).grown hgr1 (Nat.le_refl _) (by simp); have HG1 := Lib.hid hg1; clear hg1 hown1 hgr1))
    | ((with_reducible show wpList _ _ _ (({ dst := some 16, op := _, type := _, pos := _, after := _, guard := _ } : Oper) :: _) _ _); go_must (refine wpList_copy_splice rfl (.tmp 14) (.tmp 15) 22 22 rfl 5 Tryz.underlying22 HSZ1.out _ _ _ _ _ _ rfl rfl w.heap.size 0 _ _ HG1.out (bvs pre) HCN.out (fun h0 => ⟨rfl, hr1.pos h0⟩) HFIT.out (bvs_one _) w.heap.size w hb1 (Nat.le_refl _) ?_; intro w2 HG2 hb2)))
  simp only [Act.put, List.setIfInBounds_toArray, List.set_cons_succ, List.set_cons_zero]
  have hown2 : w2.ownsRow w.heap.size 5 1 (.slice (some ⟨w.heap.size, 0, none⟩) k (k + S)) k (bvs pre) := own_of_splice HG2.out (Nat.le_refl _) (by rw [bvs_length, HK.out]) (by simp) (by omega) (by simp only [maxLen]; omega)
  clear HG2 HG1 hr1 hb1
  go_loopw [1, 5] (PutRel w L) (fun t _ _ => (intOf t).toNat)
  case atStart => exact ⟨N, pre, rfl, by omega, HL.out.symm, by rw [HK.out]; exact hown2, hb2⟩
  case round =>
    clear hown2 hb2
    obtain ⟨m, out, rfl, hm, Hrel, hown, hb⟩ := hrel
    have hlen : out.length + (lput m).length = k + S := by rw [← HLl.out, ← Hrel.out]; simp
    have hlp := lput_pos m
    have hbs := hb.size
    have hlen' : out.length + 1 ≤ 140737488355328 := by omega
    have HLEN := Lib.hid hlen'
    clear hlen hlen' hk1
    by_cases hlt : 128 ≤ m
    · go_wp2_with (at_builtin; refine wpList_app rfl (.tmp 19) (.tmp 23) 22 rfl w.heap.size 5 i0 (.int .u8 0) 1 1 Tryz.underlying22 hi hz0 hz1 hz2 rfl (by decide) _ _ _ rfl (hown.alloc _) _ _ 1 1 _ rfl (Rd.new _ _ _) rfl (by intro u hu; simp at hu; subst hu; rfl) (by have := HLEN.out; simp only [maxLen]; omega) (by have := HLEN.out; omega) (by simp; omega) ?_; intro v1 w1 hown1 hg1)
      rw [or128_u8 ((m : Int) % 256) (by omega) (by omega)] at hown1
      have hown2 : w1.ownsRow w.heap.size 5 1 v1 (out ++ [UInt8.ofNat (128 + m % 128)]).length (bvs (out ++ [UInt8.ofNat (128 + m % 128)])) := by
        rw [bvs_snoc _ _ (by omega), List.length_append, show ((128 + m % 128 : Nat) : Int) = 128 + (m : Int) % 256 % 128 by omega]; exact hown1
      have hb1 : Below w.heap.size w w1 := (hb.alloc hbs _).grown hg1 (by simp; omega) (own_block hown)
      have Hrel1 : Hid ((out ++ [UInt8.ofNat (128 + m % 128)]) ++ lput (m / 128) = L) := by
        rw [← Hrel.out, lput_big (n := m) (by omega)]; simp [Hid]
      clear hown hg1 hown1 Hrel hb
      go_wp2
      go_roundw
      case rel => exact ⟨m / 128, out ++ [UInt8.ofNat (128 + m % 128)], by go_num, by omega, Hrel1, hown2, hb1⟩
      case measure => simp [intOf]; omega
    · have hm1 : lput m = [UInt8.ofNat m] := lput_small (by omega)
      have HM := Lib.hid hm1
      clear hm1
      go_wp2_with (at_builtin; refine wpList_app rfl (.tmp 27) (.tmp 30) 22 rfl w.heap.size 5 i0 (.int .u8 0) 1 1 Tryz.underlying22 hi hz0 hz1 hz2 rfl (by decide) _ _ _ rfl (hown.alloc _) _ _ 1 1 _ rfl (Rd.new _ _ _) rfl (by intro u hu; simp at hu; subst hu; rfl) (by have := HLEN.out; simp only [maxLen]; omega) (by have := HLEN.out; omega) (by simp; omega) ?_; intro v1 w1 hown1 hg1)
      go_ret
      refine ⟨v1, rfl, ?_, (hb.alloc hbs _).grown hg1 (by simp; omega) (own_block hown)⟩
      rw [← Hrel.out, HM.out, bvs_snoc _ _ (by omega), List.length_append]
      exact_mod_cast hown1

end Go.Proofs.YtflcmmeoppdhdaaGreat
namespace Go.Proofs.YtflcmmeoppdhdaaGreat
open Go.RowKit Go.Sort Go.Shelf

/-- A share that may not be. -/
def hBad (x : Int) : Bool := decide (x < 0) || decide (65536 < x)
/-- Shares that may be laid. -/
def HistMay (l : List Int) : Prop := l.length = 256 ∧ ∀ x ∈ l, 0 ≤ x ∧ x ≤ 65536
theorem hBad_none {l : List Int} (h : ∀ x ∈ l, 0 ≤ x ∧ x ≤ 65536) : l.any hBad = false := by
  rw [List.any_eq_false]
  intro x hx
  have := h x hx
  simp [hBad]
  omega
theorem hPutF_len : ∀ (l : List Int) (z : Nat), (∀ x ∈ l, 0 ≤ x ∧ x ≤ 65536) → z + l.length ≤ 4096 → (hPutF z l).length ≤ 20 * l.length + 10
  | [], z, _, h => by rw [hPutF_nil]; have := lput_le z (by simp at h; omega); simp; omega
  | x :: l, z, hx, h => by
    have hl := fun y hy => hx y (List.mem_cons_of_mem _ hy)
    simp only [List.length_cons] at h ⊢
    by_cases h0 : x = 0
    · subst h0
      rw [hPutF_zero]
      have := hPutF_len l (z + 1) hl (by omega)
      omega
    · rw [hPutF_some z l h0]
      have h1 := hPutF_len l 0 hl (by omega)
      have h2 := lput_le z (by omega)
      have h3 := hx x List.mem_cons_self
      have h4 := lput_le (x - 1).toNat (by omega)
      simp only [List.length_append]
      omega
section
variable {w : World} {B : Nat} {A : Option Addr} {n m : Nat} {c : List Int}
set_option maxRecDepth 100000 in
theorem histWrong_any (x : Int) (w : World) : Calls Tryz.prog 120 #[.int .i64 x] w fun e w' => e = .returned (.bool (hBad x)) ∧ w' = w := by
  unfold hBad
  go_enter Tryz.func120, Tryz.ntmps120
  by_cases h : x < 0
  · rw [decide_eq_true h, Bool.true_or]
    go_wp2
    go_ret
    exact ⟨rfl, rfl⟩
  · rw [decide_eq_false h, Bool.false_or]
    go_wp2
    go_ret
    exact ⟨rfl, rfl⟩
theorem histBad_any (hr : Rd w B A (zvs c)) (hn : c.length = n) (hn1 : n ≤ 4096) :
    Calls Tryz.prog 112 #[.slice A n m, .func (.func 120) #[] #[]] w fun e w' => e = .returned (.bool (c.any hBad)) ∧ w' = w :=
  contains_any 120 hBad (enters_of Tryz.func120 (by kernel_rfl) rfl) (fun x W => histWrong_any x W) hr hn hn1

set_option maxHeartbeats 1000000 in
set_option maxRecDepth 100000 in
/-- put: a number's bytes, behind those that nobody else has. -/
theorem histAdd_any {k : Nat} {v : Value} (out : List UInt8) (hB : B ≤ w.heap.size) (hown : w.ownsRow B 5 1 v out.length (bvs out)) (ho : out.length ≤ 100000) (hk : k ≤ 65536) :
    Calls Tryz.prog 172 #[v, .int .i64 (k : Int)] w fun e w' => ∃ v', e = .returned v' ∧ w'.ownsRow B 5 1 v' (out ++ lput k).length (bvs (out ++ lput k)) ∧ Below B w w' := by
  obtain ⟨i0, hi, hz0, hz1, hz2⟩ := info_parts info_u8
  have C := Lib.hid (fun W => lebPut_any none 0 0 [] (k : Int) W (Rd.nil_ _ _ _) rfl (by decide) (by omega) (by omega))
  have hle := lput_le k (by omega)
  have HO := Lib.hid hown
  clear hown
  go_enter Tryz.func172, Tryz.ntmps172
  go_wp2_with fail
  refine (C.out w).mono ?_
  rintro e w1 ⟨u, rfl, hown1, hb1⟩
  rw [List.nil_append, Int.toNat_natCast] at hown1
  obtain ⟨A1, c1, rfl, -, -, -⟩ := own_form hown1
  have HR1 := Lib.hid (Rd.of_own hown1)
  have HO1 := Lib.hid (own_kept HO.out hb1)
  have HB1 := Lib.hid (hb1.mono hB)
  have hBw1 : B ≤ w1.heap.size := Nat.le_trans hB hb1.size
  have HZL := Lib.hid (show (bvs (lput k)).length = (lput k).length * 1 by rw [bvs_length, Nat.mul_one])
  have hA1 : out.length + (lput k).length ≤ maxLen := by simp only [maxLen]; omega
  have hA2 : (out.length + (lput k).length) * 1 ≤ 140737488355328 := by omega
  obtain ⟨q, hq⟩ : ∃ q, q = (lput k).length := ⟨_, rfl⟩
  rw [← hq] at hA1 hA2 HZL ⊢
  obtain ⟨p, hp⟩ : ∃ p, p = out.length := ⟨_, rfl⟩
  rw [← hp] at hA1 hA2 HO1 ho
  have HQ := Lib.hid hq
  have HP := Lib.hid hp
  clear C hown1 hb1 HO hB hq hp hle ho
  go_wp2_with (at_builtin; go_must (refine wpList_app rfl (.tmp 5) (.tmp 8) 22 rfl B 5 i0 (.int .u8 0) 1 1 Tryz.underlying22 hi hz0 hz1 hz2 rfl (by decide) _ _ _ rfl HO1.out w1.heap.size A1 _ _ (bvs (lput k)) rfl HR1.out HZL.out (bvs_one _) hA1 hA2 hBw1 ?_; intro v2 w2 hown2 hg2; have hb2 := HB1.out.grown hg2 hBw1 (own_block HO1.out); clear hg2))
  rw [← bvs_append] at hown2
  go_ret
  exact ⟨v2, rfl, by rw [List.length_append, ← HP.out, ← HQ.out]; exact hown2, hb2⟩

theorem size_int16 : (Tryz.prog.info? 3).map (·.size) = some 1 := by kernel_rfl
/-- How long a slice is. -/
def lenH : Value → Nat
  | .slice _ n _ => n
  | _ => 0
/-- What holds at the label. -/
def LayRel (w : World) (c : List Int) (L : List UInt8) (s v : Value) (wr : World) : Prop :=
  ∃ (k : Nat) (A : Option Addr) (n m : Nat) (out : List UInt8), n + k = 256 ∧ n ≤ m ∧ s = .slice A n m ∧ Rd wr w.heap.size A (zvs (c.drop k)) ∧ wr.ownsRow w.heap.size 5 1 v out.length (bvs out) ∧ Hid (out ++ hPut (c.drop k) = L) ∧ Below w.heap.size w wr
set_option maxHeartbeats 1000000 in
set_option maxRecDepth 100000 in
theorem histLay_any (hr : Rd w w.heap.size A (zvs c)) (hc : HistMay c) (hcap : 256 ≤ m) :
    Calls Tryz.prog 121 #[.slice A (256 : Nat) m] w (NewB w (hPut c)) := by
  have hbound := hPutF_len c 0 hc.2 (by have := hc.1; omega)
  rw [hc.1] at hbound
  obtain ⟨L, hL⟩ : ∃ L, L = hPut c := ⟨_, rfl⟩
  have hLl : L.length ≤ 5130 := by rw [hL]; exact hbound
  rw [← hL]
  have HC := Lib.hid hc
  have HR := Lib.hid hr
  have HL := Lib.hid hL
  clear hL hbound hc hr
  go_enter Tryz.func121, Tryz.ntmps121
  go_wp2
  go_step3
  go_wp2
  go_step3
  go_wp2
  go_loopw [0, 3] (LayRel w c L) (fun s _ _ => lenH s)
  case atStart => exact ⟨0, A, 256, m, [], rfl, hcap, rfl, HR.out, World.ownsRow_nil _ _ _ _, HL.out.symm, Below.refl _ _⟩
  case round =>
    obtain ⟨k, A', n, m', out, hk, hnm, rfl, hrd, hown, HO, hb⟩ := hrel
    obtain ⟨A1, c1, rfl, -, -, -⟩ := own_form hown
    have hbs := hb.size
    have hn2 : n ≤ 256 := by omega
    have hcl : (c.drop k).length = n := by rw [List.length_drop, HC.out.1]; omega
    have hol : out.length ≤ 5130 := by have := congrArg List.length HO.out; rw [List.length_append] at this; omega
    have HRD := Lib.hid hrd
    have HOWN := Lib.hid hown
    have HB := Lib.hid hb
    have HCL := Lib.hid hcl
    have HK := Lib.hid hk
    clear hrd hown hb hcl hk HR
    go_wp2
    go_loopw [0, 3, 8] (fun s v i wq => ∃ j : Nat, j ≤ n ∧ s = .slice A' n m' ∧ v = .slice A1 out.length c1 ∧ i = .int .i64 (j : Int) ∧ wq = wr ∧ Hid (out ++ hPutF j (c.drop (k + j)) = L)) (fun _ _ i _ => n - (intOf i).toNat)
    case atStart => exact ⟨0, Nat.zero_le _, rfl, rfl, rfl, rfl, HO.out⟩
    case round =>
      clear HO
      obtain ⟨j, hj, rfl, rfl, rfl, rfl, HO⟩ := hrel
      by_cases hlt : j < n
      · have hkc : k + j < c.length := by have := HC.out.1; have := HK.out; omega
        have hkd : j < (c.drop k).length := by have := HCL.out; omega
        have hd : c.drop (k + j) = c[k + j] :: c.drop (k + j + 1) := List.drop_eq_getElem_cons hkc
        have hx := HC.out.2 _ (List.getElem_mem hkc)
        obtain ⟨ab, ao, rfl, hab, hcell⟩ := cell_of_rd HRD.out hkd
        rw [List.getElem_drop] at hcell
        obtain ⟨x, hxx⟩ : ∃ x, x = c[k + j]'hkc := ⟨_, rfl⟩
        rw [← hxx] at hcell hd hx
        rw [hd] at HO
        have hji : (j : Int) < (n : Int) := by omega
        clear hd hxx
        by_cases h0 : 0 < x
        · rw [hPutF_some j _ (by omega)] at HO
          have C1 := Lib.hid (histAdd_any (w := wr) (B := w.heap.size) (k := j) out hbs HOWN.out (by omega) (by have := HK.out; omega))
          have C2 := Lib.hid (fun (W : World) (v' : Value) (h : w.heap.size ≤ W.heap.size) (ho : W.ownsRow w.heap.size 5 1 v' (out ++ lput j).length (bvs (out ++ lput j))) => histAdd_any (w := W) (B := w.heap.size) (k := (x - 1).toNat) (out ++ lput j) h ho (by have := lput_le j (by have := HK.out; omega); rw [List.length_append]; omega) (by omega))
          rw [show (((x - 1).toNat : Nat) : Int) = x - 1 by omega] at C2
          go_wp2_with fail
          refine C1.out.mono ?_
          rintro e w1 ⟨v1, rfl, hown1, hb1⟩
          have C3 := Lib.hid (C2.out w1 v1 (Nat.le_trans hbs hb1.size) hown1)
          have HB1 := Lib.hid (HB.out.trans hb1)
          have HR1 := Lib.hid (HRD.out.below hb1)
          have HZL := Lib.hid (show (zvs (c.drop k)).length = n by rw [zvs_length]; exact HCL.out)
          have hjn : j + 1 ≤ n := by omega
          clear C1 C2 hown1 hb1 hcell
          go_wp2_with fail
          refine C3.out.mono ?_
          rintro e w2 ⟨v2, rfl, hown2, hb2⟩
          have HB2 := Lib.hid (HB1.out.trans hb2)
          have HR2 := Lib.hid (HR1.out.below hb2)
          have HO2 := Lib.hid hown2
          clear C3 hown2 hb2 HB1 HR1
          go_wp2_with ((with_reducible show wpList _ _ _ (({ dst := some 24, op := _, type := _, pos := _, after := _, guard := _ } : Oper) :: _) _ _); go_must (refine wpList_from rfl (.tmp 21) (.tmp 23) rfl Tryz.underlying53 size_int16 w.heap.size _ n m' (j + 1) (zvs (c.drop k)) rfl rfl HR2.out HZL.out hnm hjn ?_; intro A2 c2 hc2 hr2))
          go_roundw
          case rel =>
            refine ⟨k + j + 1, A2, n - (j + 1), c2, out ++ lput j ++ lput (x - 1).toNat, by have := HK.out; omega, hc2, rfl, ?_, HO2.out, Lib.hid ?_, HB2.out⟩
            · rw [show List.drop (j + 1) (zvs (c.drop k)) = zvs (c.drop (k + j + 1)) by simp [zvs, List.drop_drop, Nat.add_assoc]] at hr2
              exact hr2
            · rw [← HO.out]; simp only [List.append_assoc]; rfl
          case measure => simp only [lenH]; omega
        · obtain rfl : x = 0 := by omega
          rw [hPutF_zero] at HO
          go_wp2
          go_roundw
          case rel => exact ⟨j + 1, by omega, rfl, rfl, by go_num, trivial, HO⟩
          case measure => simp [intOf]; omega
      · obtain rfl : j = n := by omega
        have hO := HO.out
        rw [List.drop_of_length_le (by have := HC.out.1; have := HK.out; omega), hPutF_nil] at hO
        have C1 := Lib.hid (histAdd_any (w := wr) (B := w.heap.size) (k := j) out hbs HOWN.out (by omega) (by have := HK.out; omega))
        rw [hO] at C1
        clear hO HO
        go_wp2_with fail
        refine C1.out.mono ?_
        rintro e w1 ⟨v1, rfl, hown1, hb1⟩
        go_wp2
        go_ret
        exact ⟨v1, rfl, hown1, HB.out.trans hb1⟩
set_option maxRecDepth 100000 in
theorem histPut_ok (hr : Rd w w.heap.size A (zvs c)) (hn : c.length = n) (hc : HistMay c) (hcap : n ≤ m) :
    Calls Tryz.prog 78 #[.slice A n m] w fun e w' => ∃ v, e = .returned (.tuple #[v, .int .i64 0]) ∧ w'.ownsRow w.heap.size 5 1 v (hPut c).length (bvs (hPut c)) ∧ Below w.heap.size w w' := by
  obtain rfl : n = 256 := by rw [← hn, hc.1]
  have C := Lib.hid (histBad_any (m := m) hr hn (by decide))
  rw [hBad_none hc.2] at C
  have C2 := Lib.hid (histLay_any hr hc hcap)
  clear hr hn hc
  go_enter Tryz.func78, Tryz.ntmps78
  go_wp2_with fail
  refine C.out.mono ?_
  rintro e w' ⟨rfl, hw⟩
  obtain rfl : _ = w' := hw.symm
  go_wp2_with fail
  refine C2.out.mono ?_
  rintro e w1 ⟨v, rfl, hown, hb⟩
  go_wp2
  go_ret2
  exact ⟨v, rfl, hown, hb⟩
end
end Go.Proofs.YtflcmmeoppdhdaaGreat
