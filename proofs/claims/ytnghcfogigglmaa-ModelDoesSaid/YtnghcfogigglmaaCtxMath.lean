/- Layer 23: a key's cell, what becomes of a chance, rows of chances. Pure. -/
import Derived.Test.YtnghcfogigglmaaBase
namespace Go.Proofs.Ytnghcfogigglmaa
open Go.RowKit

/-- A key's cell among 2^bits. -/
def placeC (key bits : Nat) : Nat := key * 2654435761 % 4294967296 / 2 ^ (32 - bits)
theorem placeC_lt {bits : Nat} (key : Nat) (h : bits ≤ 32) : placeC key bits < 2 ^ bits := by
  unfold placeC
  rw [Nat.div_lt_iff_lt_mul (Nat.two_pow_pos _), ← Nat.pow_add, show bits + (32 - bits) = 32 by omega]
  exact Nat.mod_lt _ (by decide)
/-- What becomes of a chance behind a bit, ahead of its being held. -/
def rawC (p : Nat) (bit : Int) : Nat := if bit = 0 then p - p / 16 else p + (65536 - p) / 16
def heldC (p : Nat) : Nat := min (max p 32) 65504
def afterC (p : Nat) (bit : Int) : Nat := heldC (rawC p bit)
/-- A number is a chance. -/
def ChC (p : Nat) : Prop := 32 ≤ p ∧ p ≤ 65504
theorem heldC_ok (p : Nat) : ChC (heldC p) := by unfold ChC heldC; omega
theorem afterC_ok (p : Nat) (bit : Int) : ChC (afterC p bit) := heldC_ok _
theorem rawC_most {p : Nat} (h : ChC p) (bit : Int) : rawC p bit ≤ 65536 := by unfold rawC; unfold ChC at h; split <;> omega
/-- A row of chances behind a bit of its k-th. -/
def seenC (R : List Nat) (k : Nat) (bit : Int) : List Nat := R.set k (afterC (R.getD k 0) bit)
/-- A row of n chances. -/
structure RowC (n : Nat) (R : List Nat) : Prop where
  len : R.length = n
  ok : ∀ p ∈ R, ChC p
theorem RowC.get {n : Nat} {R : List Nat} (h : RowC n R) {k : Nat} (hk : k < n) : ChC (R.getD k 0) := by
  have hk' : k < R.length := by rw [h.len]; exact hk
  rw [List.getD_eq_getElem?_getD, List.getElem?_eq_getElem hk', Option.getD_some]
  exact h.ok _ (List.getElem_mem hk')
theorem RowC.set {n : Nat} {R : List Nat} (h : RowC n R) (k : Nat) {p : Nat} (hp : ChC p) : RowC n (R.set k p) :=
  ⟨by rw [List.length_set]; exact h.len, fun q hq => by
    rcases List.mem_or_eq_of_mem_set hq with h1 | h1
    · exact h.ok q h1
    · rw [h1]; exact hp⟩
theorem RowC.seen {n : Nat} {R : List Nat} (h : RowC n R) (k : Nat) (bit : Int) : RowC n (seenC R k bit) := h.set k (afterC_ok _ _)
theorem RowC.even (n : Nat) : RowC n (List.replicate n 32768) := ⟨by simp, fun p hp => by obtain ⟨-, rfl⟩ := List.mem_replicate.1 hp; unfold ChC; omega⟩
theorem seenC_same {n : Nat} {R : List Nat} (h : RowC n R) {k : Nat} (hk : k < n) (bit : Int) : (seenC R k bit).getD k 0 = afterC (R.getD k 0) bit := by
  unfold seenC
  rw [List.getD_eq_getElem?_getD, List.getElem?_set_self (by rw [h.len]; exact hk), Option.getD_some]
theorem seenC_other (R : List Nat) {k j : Nat} (h : k ≠ j) (bit : Int) : (seenC R k bit).getD j 0 = R.getD j 0 := by
  unfold seenC
  rw [List.getD_eq_getElem?_getD, List.getElem?_set_ne h, List.getD_eq_getElem?_getD]

/-- Numbers of 32 bits as cells. -/
def cvs (l : List Nat) : List Value := l.map fun (x : Nat) => Value.int .u32 (x : Int)
/-- The same as ints. -/
def ivs (l : List Nat) : List Value := l.map fun (x : Nat) => Value.int .i64 (x : Int)
theorem cvs_length (l : List Nat) : (cvs l).length = l.length := by simp [cvs]
theorem ivs_length (l : List Nat) : (ivs l).length = l.length := by simp [ivs]
theorem cvs_set (l : List Nat) (k x : Nat) : (cvs l).set k (.int .u32 (x : Int)) = cvs (l.set k x) := by simp [cvs, List.map_set]
theorem ivs_set (l : List Nat) (k x : Nat) : (ivs l).set k (.int .i64 (x : Int)) = ivs (l.set k x) := by simp [ivs, List.map_set]
theorem cvs_at {n : Nat} {R : List Nat} (h : RowC n R) {k : Nat} (hk : k < n) : (cvs R)[k]? = some (.int .u32 (R.getD k 0 : Nat)) := by
  have hk' : k < R.length := by rw [h.len]; exact hk
  simp [cvs, hk', List.getD_eq_getElem?_getD]
theorem ivs_at {n : Nat} {R : List Nat} (h : RowC n R) {k : Nat} (hk : k < n) : (ivs R)[k]? = some (.int .i64 (R.getD k 0 : Nat)) := by
  have hk' : k < R.length := by rw [h.len]; exact hk
  simp [ivs, hk', List.getD_eq_getElem?_getD]
theorem ivs_one (l : List Nat) : ∀ u ∈ ivs l, u.oneCell' = true := by
  intro u hu
  obtain ⟨x, _, rfl⟩ := List.mem_map.1 hu
  rfl
end Go.Proofs.Ytnghcfogigglmaa
