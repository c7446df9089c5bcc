/- A slice of steps of three numbers, as a list. General: no code of the project. -/
import Derived.Test.YtgbibmgedmbboaaBase
namespace Go.Proofs.Ytgbibmgedmbboaa
open Go.RowKit

structure S3 where
  kind : Int
  i : Int
  n : Int
def S3Ok (s : S3) : Prop := (-9223372036854775808 ≤ s.kind ∧ s.kind ≤ 9223372036854775807) ∧ (-9223372036854775808 ≤ s.i ∧ s.i ≤ 9223372036854775807) ∧ (-9223372036854775808 ≤ s.n ∧ s.n ≤ 9223372036854775807)
/-- The steps ss lie from address A on, below block B. -/
def RdS3 (w : World) (B : Nat) (A : Option Addr) (ss : List S3) : Prop :=
  ∀ i s, ss[i]? = some s → ∃ b off, A = some ⟨b, off, none⟩ ∧ b < B ∧
    w.cell? ⟨b, off + i * 3, none⟩ = some (.int .i64 s.kind) ∧ w.cell? ⟨b, off + i * 3 + 1, none⟩ = some (.int .i64 s.i) ∧ w.cell? ⟨b, off + i * 3 + 2, none⟩ = some (.int .i64 s.n)
theorem RdS3.below {w w' : World} {B : Nat} {A : Option Addr} {ss : List S3} (h : RdS3 w B A ss) (hb : Below B w w') : RdS3 w' B A ss := fun i s hs => by
  obtain ⟨b, off, e, hlt, h0, h1, h2⟩ := h i s hs
  exact ⟨b, off, e, hlt, (hb.cell (p := ⟨b, _, none⟩) hlt).trans h0, (hb.cell (p := ⟨b, _, none⟩) hlt).trans h1, (hb.cell (p := ⟨b, _, none⟩) hlt).trans h2⟩
end Go.Proofs.Ytgbibmgedmbboaa
