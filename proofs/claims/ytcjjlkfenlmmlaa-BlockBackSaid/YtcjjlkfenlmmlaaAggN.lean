/- A struct of one-cell fields that came in by value, whatever their number: opened to its cells, all of them ints. -/
import Derived.Test.YtcjjlkfenlmmlaaProg
import Derived.Lib.SmallJoins
import Derived.Deep.Fields
namespace Go.Proofs.Ytcjjlkfenlmmlaa
open Go.ChangeShapes Go.WideShapes Go.ChangeAt Go.RowKit Go.Joins Go.Deep

section
variable {H : Type} {enc : TypeId × Value → H} {P : Program} {w : World} {base : Nat} {spare : Nat → Bool} {held : Bool}
/-- Every field is an int of its own kind: the value is these. -/
theorem agg_ints {r : Reach} {b0 : Nat} {t : TypeId} {fs : Array Field} {ks : List IntKind} {v : Value} {d : DataW H} {p : List MemPlace} (hs : P.underlying t = some (.struct fs)) (hone : oneCellFields P fs = true) (hC : P.cellsOf t = fs.size)
    (hk : ks.length = fs.size) (hf : ∀ (i : Nat) (f : Field) (k : IntKind), fs[i]? = some f → ks[i]? = some k → P.underlying f.type = some (.int k))
    (hv : Value.okWide P w r b0 t v) (h : DataW.Trod enc P w base spare held t v d p) :
    ∃ cs : Array Value, v = .agg cs ∧ cs.size = fs.size ∧ ∀ (i : Nat) (k : IntKind), ks[i]? = some k → ∃ n, cs[i]? = some (.int k n) ∧ (Lit.int k n).wf = true := by
  obtain ⟨cs, rfl, hsz⟩ := okWide_struct hs hv
  refine ⟨cs, rfl, hsz.trans hC, fun i k hi => ?_⟩
  obtain ⟨fuel, hd⟩ := h
  obtain ⟨xs, n, -, -, -, hlen, hg⟩ := DataW.trod_struct hs hd
  have hil : i < fs.size := by rw [← hk]; exact (List.getElem?_eq_some_iff.1 hi).1
  have hfi : fs[i]? = some (fs[i]'hil) := Array.getElem?_eq_getElem hil
  obtain ⟨o, c⟩ := hone_of hone i _ hfi
  have h1 := hg i _ hfi
  have hci : i < cs.size := by omega
  rw [o, c, show (Value.agg cs).cells = cs from rfl, List.drop_eq_getElem_cons (by simpa using hci)] at h1
  simp only [List.take_succ_cons, List.take_zero, Array.getElem_toList] at h1
  have hxi : i < xs.length := by omega
  rw [List.getElem?_eq_getElem hxi] at h1
  obtain ⟨n', hc, -, hw⟩ := DataW.trod_int (hf i _ k hfi hi) h1
  refine ⟨n', ?_, hw⟩
  rw [Array.getElem?_eq_getElem hci]
  exact congrArg some (List.cons.inj hc).1
end
end Go.Proofs.Ytcjjlkfenlmmlaa
