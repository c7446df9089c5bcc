/- Steps: a slice of structs of four fields, as a list. -/
import Derived.Test.YtgchomeipmjifaaBitKnown
import Derived.Deep.RegionHeld3
namespace Go.Proofs.Ytgchomeipmjifaa
open Go.RowKit

structure St where
  kind : Int
  v : Nat
  n : Int
  most : Int
def StOk (s : St) : Prop := (-9223372036854775808 ≤ s.kind ∧ s.kind ≤ 9223372036854775807) ∧ s.v < 18446744073709551616 ∧ (-9223372036854775808 ≤ s.n ∧ s.n ≤ 9223372036854775807) ∧ (-9223372036854775808 ≤ s.most ∧ s.most ≤ 9223372036854775807)
def stCells (s : St) : List Value := [.int .i64 s.kind, .int .u64 s.v, .int .i64 s.n, .int .i64 s.most]
/-- The steps ss lie from address A on, below block B. -/
def RdSt (w : World) (B : Nat) (A : Option Addr) (ss : List St) : Prop :=
  ∀ i s, ss[i]? = some s → ∃ b off, A = some ⟨b, off, none⟩ ∧ b < B ∧
    w.cell? ⟨b, off + i * 4, none⟩ = some (.int .i64 s.kind) ∧ w.cell? ⟨b, off + i * 4 + 1, none⟩ = some (.int .u64 s.v) ∧ w.cell? ⟨b, off + i * 4 + 2, none⟩ = some (.int .i64 s.n) ∧ w.cell? ⟨b, off + i * 4 + 3, none⟩ = some (.int .i64 s.most)
theorem RdSt.below {w w' : World} {B : Nat} {A : Option Addr} {ss : List St} (h : RdSt w B A ss) (hb : Below B w w') : RdSt w' B A ss := fun i s hs => by
  obtain ⟨b, off, e, hlt, h0, h1, h2, h3⟩ := h i s hs
  exact ⟨b, off, e, hlt, (hb.cell (p := ⟨b, _, none⟩) hlt).trans h0, (hb.cell (p := ⟨b, _, none⟩) hlt).trans h1, (hb.cell (p := ⟨b, _, none⟩) hlt).trans h2, (hb.cell (p := ⟨b, _, none⟩) hlt).trans h3⟩
theorem stCells_length (ss : List St) : (ss.flatMap stCells).length = ss.length * 4 := by
  induction ss with
  | nil => rfl
  | cons s r ih => simp [stCells, ih]; omega
theorem stCells_get : ∀ (ss : List St) (i : Nat) (s : St) (j : Nat) (u : Value), ss[i]? = some s → (stCells s)[j]? = some u → j < 4 → (ss.flatMap stCells)[i * 4 + j]? = some u
  | [], _, _, _, _, h, _, _ => by simp at h
  | a :: r, 0, s, j, u, h, hu, hj => by
    simp at h
    subst h
    rw [List.flatMap_cons, List.getElem?_append_left (by simp [stCells]; omega), Nat.zero_mul, Nat.zero_add]
    exact hu
  | a :: r, i + 1, s, j, u, h, hu, hj => by
    rw [List.flatMap_cons, List.getElem?_append_right (by simp [stCells]; omega)]
    have e : (i + 1) * 4 + j - (stCells a).length = i * 4 + j := by simp [stCells]; omega
    rw [e]
    exact stCells_get r i s j u (by simpa using h) hu hj
theorem stCells_one (ss : List St) : ∀ u ∈ ss.flatMap stCells, u.oneCell' = true := by
  intro u hu
  simp only [List.mem_flatMap, stCells] at hu
  obtain ⟨s, _, hu⟩ := hu
  simp only [List.mem_cons, List.not_mem_nil, or_false] at hu
  rcases hu with rfl | rfl | rfl | rfl <;> rfl
/-- Steps that the call's own row holds. -/
theorem RdT.steps {w : World} {A : Option Addr} {ss : List St} (h : RdT w 31 A (ss.flatMap stCells)) {i : Nat} {s : St} (hs : ss[i]? = some s) :
    ∃ b off, A = some ⟨b, off, none⟩ ∧ OfType w b 31 ∧
    w.cell? ⟨b, off + i * 4, none⟩ = some (.int .i64 s.kind) ∧ w.cell? ⟨b, off + i * 4 + 1, none⟩ = some (.int .u64 s.v) ∧ w.cell? ⟨b, off + i * 4 + 2, none⟩ = some (.int .i64 s.n) ∧ w.cell? ⟨b, off + i * 4 + 3, none⟩ = some (.int .i64 s.most) := by
  obtain ⟨b, off, rfl, hb, h0⟩ := h _ _ (stCells_get ss i s 0 _ hs rfl (by omega))
  refine ⟨b, off, rfl, hb, h0, ?_, ?_, ?_⟩
  all_goals first
    | (obtain ⟨b', off', e, _, h1⟩ := h _ _ (stCells_get ss i s 1 _ hs rfl (by omega)); injection e with e; injection e with e1 e2; subst e1 e2; exact h1)
    | (obtain ⟨b', off', e, _, h1⟩ := h _ _ (stCells_get ss i s 2 _ hs rfl (by omega)); injection e with e; injection e with e1 e2; subst e1 e2; exact h1)
    | (obtain ⟨b', off', e, _, h1⟩ := h _ _ (stCells_get ss i s 3 _ hs rfl (by omega)); injection e with e; injection e with e1 e2; subst e1 e2; exact h1)

theorem info_st : (Try.prog.info? 31).map (fun i => (i.zero, i.size, i.bytes)) = some (some (.agg #[.int .i64 0, .int .u64 0, .int .i64 0, .int .i64 0]), 4, 32) := by kernel_rfl

/-- May a step be put? -/
def good (s : St) : Bool := if s.kind = 0 then decide (0 ≤ s.n ∧ s.n ≤ 64) else decide (0 ≤ s.n ∧ s.n ≤ s.most ∧ s.most ≤ 256)
/-- The bits of a step that may be put. -/
def bitsS (s : St) : List Bool := if s.kind = 0 then bitsOf s.v s.n.toNat else onesOf s.n.toNat s.most.toNat
theorem bitsS_len (s : St) (h : good s = true) : (bitsS s).length ≤ 257 := by
  unfold good at h
  unfold bitsS
  by_cases hk : s.kind = 0
  · rw [if_pos hk] at h ⊢
    have := of_decide_eq_true h
    rw [bitsOf_length]; omega
  · rw [if_neg hk] at h ⊢
    have := of_decide_eq_true h
    unfold onesOf
    rw [List.length_append, List.length_replicate]
    split <;> simp <;> omega
def bitsL (ss : List St) : List Bool := (ss.filter good).flatMap bitsS
theorem bitsL_snoc (ss : List St) (s : St) : bitsL (ss ++ [s]) = bitsL ss ++ if good s then bitsS s else [] := by
  unfold bitsL
  rw [List.filter_append, List.flatMap_append]
  cases h : good s <;> simp [h]
theorem bitsL_len : ∀ ss : List St, (bitsL ss).length ≤ 257 * ss.length
  | [] => by simp [bitsL]
  | s :: r => by
    have ih := bitsL_len r
    unfold bitsL at ih ⊢
    cases h : good s
    · rw [List.filter_cons_of_neg (by simp [h]), List.length_cons]; omega
    · have := bitsS_len s h
      rw [List.filter_cons_of_pos h, List.flatMap_cons, List.length_append, List.length_cons]; omega
theorem filter_snoc (ss : List St) (s : St) : (ss ++ [s]).filter good = ss.filter good ++ if good s then [s] else [] := by
  rw [List.filter_append]
  cases h : good s <;> simp [h]
theorem take_snoc_st {ss : List St} {i : Nat} {s : St} (h : ss[i]? = some s) : ss.take (i + 1) = ss.take i ++ [s] := by rw [List.take_add_one, h]; rfl
end Go.Proofs.Ytgchomeipmjifaa
