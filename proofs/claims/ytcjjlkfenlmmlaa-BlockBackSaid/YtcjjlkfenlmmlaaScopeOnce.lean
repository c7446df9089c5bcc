/- A scope in which the run jumps back to one label. -/
import Derived.Test.YtcjjlkfenlmmlaaBase
import Derived.ScopeJumps
import Derived.WalkMore
namespace Go.Proofs.Ytcjjlkfenlmmlaa
open Go.RowKit

/-- A scope in which the run jumps back to one label: the first pass as all the others. -/
theorem wp_scope_once {P : Program} {a : Act} {w : World} {Q : Exit → Act → World → Prop} {c rest : Code} (l : Nat) (J : Act → World → Prop) (μ : Act → World → Nat) (hf : findLabel c l = some (Code.skip.seq rest))
    (pass : ∀ a w, J a w → rest.wp P (Exit.jump l (fun a' w' => J a' w' ∧ μ a' w' < μ a w) Q) a w)
    (first : (∀ a w, J a w → rest.wp P (Exit.jump l J Q) a w) → c.wp P (Exit.jump l J Q) a w) : (Code.scope c).wp P Q a w :=
  wp_scope_jumps l J μ hf (first fun a w h => wp_mono (pass a w h) fun e a' w' hq => by
    cases e with
    | goto l' => exact ⟨hq.1, hq.2.1⟩
    | _ => exact hq) fun a w h => wp_seq (wp_skip (pass a w h))
end Go.Proofs.Ytcjjlkfenlmmlaa
