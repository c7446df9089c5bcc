/- Layer 27: the ways of coding, as values of an interface. -/
import Derived.Test.YtnfkekaeppgaoaaDoorCloneB
import Derived.Test.YtnfkekaeppgaoaaDoorWordFn
import Derived.Test.YtnfkekaeppgaoaaDoorInts
import Derived.Laws.Rows
import Derived.OwnWalk
namespace Go.Proofs.YtnfkekaeppgaoaaDoor
open Go.RowKit Go.Sort

/-- A function, as a value. -/
def fnV (K : Nat) : Value := .func (.func K) #[] #[]
theorem least_one (p : String → Bool) (f : String → String) (s : String) : ∃ m, (Instr.least ([s].partition p).2 <|> Instr.least (([s].partition p).1.map f)) = some m := by
  cases h : p s with
  | true => exact ⟨f s, by simp [List.partition, List.partition.loop, h, Instr.least]⟩
  | false => exact ⟨s, by simp [List.partition, List.partition.loop, h, Instr.least]⟩
theorem missing_one {want : Array (String × Nat)} {got : Array Method} {s : String} (h : (want.toList.filter fun x => !got.any fun m => m.name == x.1 && m.sig == x.2).map (·.1) = [s]) : ∃ m, Instr.missingMethod want got = some m := by
  unfold Instr.missingMethod
  simp only
  rw [h]
  exact least_one _ _ s
def lackOf (d : Option TypeDesc) (i : Option TypeInfo) : Option (List String) :=
  match d, i with
  | some (.interface want), some ti => some ((want.toList.filter fun x => !ti.methods.any fun m => m.name == x.1 && m.sig == x.2).map (·.1))
  | _, _ => none
theorem lack_of {d : Option TypeDesc} {i : Option TypeInfo} {l : List String} (h : lackOf d i = some l) : ∃ want ti, d = some (.interface want) ∧ i = some ti ∧ (want.toList.filter fun x => !ti.methods.any fun m => m.name == x.1 && m.sig == x.2).map (·.1) = l := by
  unfold lackOf at h
  split at h
  · next want ti => exact ⟨want, ti, rfl, rfl, Option.some.inj h⟩
  · cases h
theorem words_vals {V n : Nat} (hn : n ≤ 100000000) (hV : 1 ≤ V ∧ V ≤ 8) : ∃ q m m8 s : Nat, (n : Int) / (V : Int) = (q : Int) ∧ (n : Int).tdiv (V : Int) = (q : Int) ∧ (n : Int) % (V : Int) = (m : Int) ∧ (n : Int).tmod (V : Int) = (m : Int) ∧ IntKind.i64.wrap (q : Int) = (q : Int) ∧ IntKind.i64.wrap (m : Int) = (m : Int) ∧ IntKind.i64.wrap ((m : Int) * 8) = (m8 : Int) ∧ IntKind.i64.wrap ((q : Int) + (m8 : Int)) = (s : Int) ∧ s = n / V + n % V * 8 ∧ s ≤ 1000000000 := by
  have h1 : n / V ≤ n := Nat.div_le_self _ _
  have h2 : n % V < V := Nat.mod_lt _ (by omega)
  have e1 : (n : Int) / (V : Int) = ((n / V : Nat) : Int) := (Int.natCast_ediv _ _).symm
  have e2 : (n : Int) % (V : Int) = ((n % V : Nat) : Int) := (Int.natCast_emod _ _).symm
  obtain ⟨q, hq⟩ : ∃ q, q = n / V := ⟨_, rfl⟩
  obtain ⟨m, hm⟩ : ∃ m, m = n % V := ⟨_, rfl⟩
  rw [← hq] at h1 e1 ⊢
  rw [← hm] at h2 e2 ⊢
  refine ⟨q, m, m * 8, q + m * 8, e1, ?_, e2, ?_, ?_, ?_, ?_, ?_, rfl, by omega⟩
  · rw [Int.tdiv_eq_ediv_of_nonneg (by omega)]; exact e1
  · rw [Int.tmod_eq_emod_of_nonneg (by omega)]; exact e2
  · rw [IntKind.wrap_i64]; omega
  · rw [IntKind.wrap_i64]; omega
  · rw [IntKind.wrap_i64]; omega
  · rw [IntKind.wrap_i64]; omega
end Go.Proofs.YtnfkekaeppgaoaaDoor
