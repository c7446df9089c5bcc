/- Layer 28: what a text of options tells. Plain mathematics. -/
import Derived.Test.YtnfkekaeppgaoaaDoorOptRef
namespace Go.Proofs.YtnfkekaeppgaoaaDoor

/-- The keys, each with its =. -/
def keyL : Nat → List UInt8
  | 0 => [98, 108, 111, 99, 107, 61]
  | 1 => [119, 105, 100, 116, 104, 61]
  | 2 => [114, 101, 99, 105, 112, 101, 61]
  | _ => [109, 111, 100, 101, 61]
/-- The key with which a pair begins; 4: none. -/
def keyAt (x : List UInt8) : Nat := if keyL 0 <+: x then 0 else if keyL 1 <+: x then 1 else if keyL 2 <+: x then 2 else if keyL 3 <+: x then 3 else 4
/-- A pair begins with one key at most. -/
theorem keyAt_one {x : List UInt8} {k : Nat} (hk : k < 4) : keyL k <+: x ↔ keyAt x = k := by
  have head : ∀ {a : UInt8} {l : List UInt8}, (a :: l) <+: x → x.head? = some a := fun {a l} h => by
    obtain ⟨t, rfl⟩ := h
    rfl
  have h0 := fun h => head (a := 98) (l := [108, 111, 99, 107, 61]) h
  have h1 := fun h => head (a := 119) (l := [105, 100, 116, 104, 61]) h
  have h2 := fun h => head (a := 114) (l := [101, 99, 105, 112, 101, 61]) h
  have h3 := fun h => head (a := 109) (l := [111, 100, 101, 61]) h
  unfold keyAt
  rcases (show k = 0 ∨ k = 1 ∨ k = 2 ∨ k = 3 by omega) with rfl | rfl | rfl | rfl
  all_goals
    refine ⟨fun h => ?_, fun h => ?_⟩
  · rw [if_pos h]
  · (repeat' split at h) <;> first | assumption | omega
  · rw [if_neg (fun h' => by have := h0 h'; rw [h1 h] at this; cases this), if_pos h]
  · (repeat' split at h) <;> first | assumption | omega
  · rw [if_neg (fun h' => by have := h0 h'; rw [h2 h] at this; cases this), if_neg (fun h' => by have := h1 h'; rw [h2 h] at this; cases this), if_pos h]
  · (repeat' split at h) <;> first | assumption | omega
  · rw [if_neg (fun h' => by have := h0 h'; rw [h3 h] at this; cases this), if_neg (fun h' => by have := h1 h'; rw [h3 h] at this; cases this), if_neg (fun h' => by have := h2 h'; rw [h3 h] at this; cases this), if_pos h]
  · (repeat' split at h) <;> first | assumption | omega
/-- The mode that has a name; 7: none. -/
def modeAt (v : List UInt8) : Nat := if v = nmL 0 then 0 else if v = nmL 1 then 1 else if v = nmL 2 then 2 else if v = nmL 3 then 3 else if v = nmL 4 then 4 else if v = nmL 5 then 5 else if v = nmL 6 then 6 else 7
theorem nameAt_mode (v : List UInt8) : NameAt (strA v) (modeAt v) := by
  obtain ⟨p, hp⟩ := nameAt_some (strA v)
  have hk : ∀ k, k < 7 → (v = nmL k ↔ k = p) := fun k h => by
    have h1 := hp.2 k h
    rw [← nmL_A, strA_list, strA_list] at h1
    constructor
    · intro e
      rw [e] at h1
      simpa using h1
    · intro e
      rw [decide_eq_true e] at h1
      exact (eq_of_beq h1).symm
  have hm : modeAt v = p := by
    have hp7 := hp.1
    unfold modeAt
    simp only [hk 0 (by decide), hk 1 (by decide), hk 2 (by decide), hk 3 (by decide), hk 4 (by decide), hk 5 (by decide), hk 6 (by decide)]
    (repeat' split) <;> omega
  rw [hm]
  exact hp
/-- What a pair's value says of the key. -/
def valR (k : Nat) (v : List UInt8) : Int := if k = 3 then modeR (modeAt v) else numR (numO v)
/-- What is read so far: the four numbers, and which keys stood. -/
def pairR (st : List Int × List Bool) (x : List UInt8) : Option (List Int × List Bool) :=
  if keyAt x = 4 ∨ st.2.getD (keyAt x) false = true then none
  else if valR (keyAt x) (x.drop (keyL (keyAt x)).length) < 0 then none
  else some (st.1.set (keyAt x) (valR (keyAt x) (x.drop (keyL (keyAt x)).length)), st.2.set (keyAt x) true)
def pairsR : List (List UInt8) → List Int × List Bool → Option (List Int × List Bool)
  | [], st => some st
  | x :: t, st => (pairR st x).bind (pairsR t)
def mayL (o : List Int) : Bool := mayO (o.getD 0 0) (o.getD 1 0) (o.getD 2 0) (o.getD 3 0)
/-- What a text tells: options, and an error. -/
def readR (l : List UInt8) : List Int × Nat :=
  if l = [] then ([65536, 1, 0, 6], 0)
  else match pairsR (cutL 32 l) ([65536, 1, 0, 6], [false, false, false, false]) with
    | none => ([0, 0, 0, 0], 30)
    | some st => if mayL st.1 = true then (st.1, 0) else ([0, 0, 0, 0], 10)
end Go.Proofs.YtnfkekaeppgaoaaDoor
