/- A slice of steps of three numbers, as a list. General: no code of the project. -/
import Derived.Test.YtgbibmgedmbboaaGreatBase
namespace Go.Proofs.YtgbibmgedmbboaaGreat
open Go.RowKit

structure S3 where
  kind : Int
  i : Int
  n : Int
def S3Ok (s : S3) : Prop := (-9223372036854775808 ≤ s.kind ∧ s.kind ≤ 9223372036854775807) ∧ (-9223372036854775808 ≤ s.i ∧ s.i ≤ 9223372036854775807) ∧ (-9223372036854775808 ≤ s.n ∧ s.n ≤ 9223372036854775807)
/-- The steps ss lie from address A on, below block B. -/
def RdS3 (w : World) (B : Nat) (A : Option Addr) (ss : List S3) : Prop :=
  ∀ i s, ss[i]? = some s → ∃ b off, A = some ⟨b, off, none⟩ ∧ b < B ∧
    w.cell? ⟨b, off + i * 3, none⟩ = some (.int .i64 s.kind) ∧ w.cell? ⟨b, off + i * 3 + 1, none⟩ = some (.int .i64 s.i) ∧ w.cell? ⟨b, off + i * 3 + 2, none⟩ = some (.int .i64 s.n)
theorem RdS3.below {w w' : World} {B : Nat} {A : Option Addr} {ss : List S3} (h : RdS3 w B A ss) (hb : Below B w w') : RdS3 w' B A ss := fun i s hs => by
  obtain ⟨b, off, e, hlt, h0, h1, h2⟩ := h i s hs
  exact ⟨b, off, e, hlt, (hb.cell (p := ⟨b, _, none⟩) hlt).trans h0, (hb.cell (p := ⟨b, _, none⟩) hlt).trans h1, (hb.cell (p := ⟨b, _, none⟩) hlt).trans h2⟩
/-- Parts as cells. -/
def s3vs (l : List S3) : List Value := l.flatMap fun s => [.int .i64 s.kind, .int .i64 s.i, .int .i64 s.n]
theorem s3vs_snoc (l : List S3) (s : S3) : s3vs (l ++ [s]) = s3vs l ++ [.int .i64 s.kind, .int .i64 s.i, .int .i64 s.n] := by simp [s3vs]
theorem s3vs_length : ∀ (l : List S3), (s3vs l).length = l.length * 3
  | [] => rfl
  | s :: l => by
    have h : s3vs (s :: l) = [.int .i64 s.kind, .int .i64 s.i, .int .i64 s.n] ++ s3vs l := rfl
    rw [h, List.length_append, s3vs_length l, List.length_cons]
    simp only [List.length_cons, List.length_nil]
    omega
theorem s3vs_get : ∀ (l : List S3) (i : Nat) (s : S3), l[i]? = some s → (s3vs l)[i * 3]? = some (.int .i64 s.kind) ∧ (s3vs l)[i * 3 + 1]? = some (.int .i64 s.i) ∧ (s3vs l)[i * 3 + 2]? = some (.int .i64 s.n)
  | [], _, _, h => by simp at h
  | x :: l, 0, s, h => by simp at h; subst h; exact ⟨rfl, rfl, rfl⟩
  | x :: l, i + 1, s, h => by
    have hx : s3vs (x :: l) = [.int .i64 x.kind, .int .i64 x.i, .int .i64 x.n] ++ s3vs l := rfl
    obtain ⟨h0, h1, h2⟩ := s3vs_get l i s (by simpa using h)
    have e : ∀ j, (s3vs (x :: l))[(i + 1) * 3 + j]? = (s3vs l)[i * 3 + j]? := fun j => by
      rw [hx, show (i + 1) * 3 + j = (i * 3 + j) + 3 by omega]
      rfl
    refine ⟨?_, ?_, ?_⟩
    · have := e 0; rw [Nat.add_zero, Nat.add_zero] at this; rw [this]; exact h0
    · rw [e 1]; exact h1
    · rw [e 2]; exact h2
theorem RdS3.of_rd {w : World} {B : Nat} {A : Option Addr} {ss : List S3} (h : Rd w B A (s3vs ss)) : RdS3 w B A ss := fun i s hi => by
  obtain ⟨h0, h1, h2⟩ := s3vs_get ss i s hi
  obtain ⟨b, off, rfl, hb, c0⟩ := h _ _ h0
  obtain ⟨b1, off1, e1, -, c1⟩ := h _ _ h1
  obtain ⟨b2, off2, e2, -, c2⟩ := h _ _ h2
  injection e1 with e1
  injection e1 with f1 g1
  injection e2 with e2
  injection e2 with f2 g2
  subst f1 g1 f2 g2
  exact ⟨b, off, rfl, hb, c0, c1, c2⟩
end Go.Proofs.YtgbibmgedmbboaaGreat
