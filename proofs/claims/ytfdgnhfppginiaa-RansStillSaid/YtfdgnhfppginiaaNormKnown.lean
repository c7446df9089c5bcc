/- Layer 14: Same, Count; the fixed calls. -/
import Derived.Test.YtfdgnhfppginiaaNormRef2
namespace Go.Proofs.Ytfdgnhfppginiaa
open Go.RowKit Go.Sort Go.Shelf

section
variable {w : World} {B B' : Nat} {A A' : Option Addr} {n m m' : Nat} {c : List Int}
theorem normR_one : NormR [3, 0, 1] 4 [3, 0, 1] := by
  have h1 : ([3, 0, 1] : List Int).map (nShare 4 ([3, 0, 1] : List Int).sum) = [3, 0, 1] := by decide
  unfold NormR
  rw [h1]
  exact .done _
theorem normR_two : NormR [100, 1, 1] 4 [2, 1, 1] := by
  have h1 : ([100, 1, 1] : List Int).map (nShare 4 ([100, 1, 1] : List Int).sum) = [3, 1, 1] := by decide
  unfold NormR
  rw [h1]
  exact .more 0 0 [3, 1, 1] [2, 1, 1] (by unfold IsFirst; decide) (.done _)
theorem known_norm {l r : List Int} (hn : l.length = 3) (hr : Rd w w.heap.size A (zvs l)) (hb : l.any nBad = false) (hm : many l ≠ 0 ∧ many l ≤ 4) (h : NormR l 4 r) :
    Calls Try.prog 19 #[.slice A (3 : Nat) m, .int .i64 2] w fun e w' => ∃ g, e = .returned (.tuple #[.slice (some ⟨g, 0, none⟩) (3 : Nat) 3, .int .i64 0]) ∧ Blk w' g 3 (zvs r) ∧ Below w.heap.size w w' :=
  (normNorm_ok (m := m) 2 4 (by decide) (by decide) rfl hb hr hn (by decide) hm.1 (by simpa using hm.2)).mono fun e w' ⟨g, r', h1, _, h3, h4, h5⟩ => ⟨g, h1, by rw [h.one h3]; exact h4, h5⟩
end
theorem normR_len {c r : List Int} {t : Int} (hc : ∀ x ∈ c, 0 ≤ x) (ht0 : 0 ≤ t) (hs : 0 < c.sum) (ht : many c ≤ t) (h : NormR c t r) : r.length = c.length := (h.keeps hc ht0 hs ht).1.1
end Go.Proofs.Ytfdgnhfppginiaa
