/- Contracts of layer 12: the tree of a row of counts as it lies; its small functions. -/
import Derived.Test.YtgbibmgedmbboaaGreatFenBuild
import Derived.Test.YtgbibmgedmbboaaGreatNum
import Derived.Test.YtgbibmgedmbboaaGreatInts
import Derived.Test.YtgbibmgedmbboaaGreatBase
import Derived.Deep.DeepMust
import Derived.BigQuiet
import Derived.BigRegion
namespace Go.Proofs.YtgbibmgedmbboaaGreat
open Go.RowKit

/-- A row of counts that a tree may have. -/
def Counts (c : List Int) : Prop := (1 ≤ c.length ∧ c.length ≤ 4096) ∧ (∀ x ∈ c, 0 ≤ x) ∧ c.sum ≤ 65536
/-- At T lies a tree of the row S of n + 1 numbers, with a total. -/
structure Lies (w : World) (T S n : Nat) (l : List Int) (total : Int) : Prop where
  tb : Blk w T 146 [.slice (some ⟨S, 0, none⟩) (n + 1 : Nat) (n + 1), .int .i64 total]
  sb : Blk w S 3 (zvs l)
/-- At T lies the tree of the counts c. -/
def IsTree (w : World) (T S : Nat) (c : List Int) : Prop := Counts c ∧ Lies w T S c.length (fRow c) c.sum

theorem Lies.ne {w : World} {T S n : Nat} {l : List Int} {t : Int} (h : Lies w T S n l t) : T ≠ S := by
  intro e
  have h1 := h.tb; have h2 := h.sb
  rw [e] at h1
  unfold Blk at h1 h2
  rw [h1] at h2
  simp at h2
theorem Lies.grow {w w' : World} {T S n : Nat} {l : List Int} {t : Int} (h : Lies w T S n l t) (hb : Below w.heap.size w w') : Lies w' T S n l t := ⟨h.tb.grow hb, h.sb.grow hb⟩
theorem IsTree.grow {w w' : World} {T S : Nat} {c : List Int} (h : IsTree w T S c) (hb : Below w.heap.size w w') : IsTree w' T S c := ⟨h.1, h.2.grow hb⟩

theorem Lies.same {w w' : World} {T S n : Nat} {l : List Int} {t : Int} (h : Lies w T S n l t) (e : w'.heap = w.heap) : Lies w' T S n l t := ⟨h.tb.same e, h.sb.same e⟩
theorem IsTree.same {w w' : World} {T S : Nat} {c : List Int} (h : IsTree w T S c) (e : w'.heap = w.heap) : IsTree w' T S c := ⟨h.1, h.2.same e⟩

/-- The lowest bit. -/
theorem low_bits (p : Nat) (h0 : 0 < p) (h : p < 2 ^ 62) : bits .and .i64 (p : Int) (wrap64 (-(p : Int))) = (fLow p : Int) := by
  obtain ⟨e, -⟩ := Lib.lowest_bit 64 p (by omega) (by omega)
  have hl := fLow_le h0 (by omega)
  have e1 : (BitVec.ofInt 64 (p : Int)).toNat = p := by simp; omega
  have e2 : (BitVec.ofInt 64 (wrap64 (-(p : Int)))).toNat = 2 ^ 64 - p := by
    rw [IntWalk.wrap64_in _ (by omega)]; simp [BitVec.toNat_ofInt]; omega
  have e3 : bits .and .i64 (p : Int) (wrap64 (-(p : Int))) = IntKind.i64.wrap ((((BitVec.ofInt 64 (p : Int)).toNat &&& (BitVec.ofInt 64 (wrap64 (-(p : Int)))).toNat : Nat)) : Int) := by
    rw [← BitVec.toNat_and]
    rfl
  rw [e3, e1, e2, e, IntKind.wrap_i64]
  unfold fLow at hl ⊢
  omega
theorem fenLowest_any (p : Nat) (h0 : 0 < p) (h : p < 2 ^ 62) (w : World) :
    Calls Tryz.prog 103 #[.int .i64 (p : Int)] w fun e w' => e = .returned (.int .i64 (fLow p : Int)) ∧ w' = w := by
  have e := low_bits p h0 h
  have hw : wrap64 (-(p : Int)) = -(p : Int) := IntWalk.wrap64_in _ (by omega)
  rw [hw] at e
  clear hw
  go_enter Tryz.func103, Tryz.ntmps103
  go_wp2
  go_ret
  exact ⟨rfl, rfl⟩
theorem bitsLen_any (x : Int) (w : World) (h0 : 0 ≤ x) (h1 : x ≤ 18446744073709551615) :
    Calls Tryz.prog 110 #[.int .u64 x] w fun e w' => e = .returned (.int .i64 (Lib.bitLen x.toNat)) ∧ w' = w := by
  go_enter Tryz.func110, Tryz.ntmps110
  go_wp2_with (go_at_call 112; refine (len64_any _ _ h0 h1).mono ?_; rintro e w' ⟨rfl, rfl⟩)
  go_ret
  exact ⟨rfl, rfl⟩
theorem fenGreatest_any (n : Nat) (h0 : 0 < n) (h : n ≤ 4096) (w : World) :
    Calls Tryz.prog 106 #[.int .i64 (n : Int)] w fun e w' => e = .returned (.int .i64 (2 ^ (Lib.bitLen n - 1) : Nat)) ∧ w' = w := by
  have c := bitsLen_any (n : Int) w (by omega) (by omega)
  rw [Int.toNat_natCast] at c
  have C := Lib.hid c
  have hle : Lib.bitLen n ≤ 13 := Lib.bitLen_le n 13 (by omega) (by omega)
  have h1 : 1 ≤ Lib.bitLen n := by
    have := Lib.bitLen_half n (by omega) (by omega); omega
  clear c
  obtain ⟨L, hL⟩ : ∃ L, Lib.bitLen n = L + 1 := ⟨Lib.bitLen n - 1, by omega⟩
  rw [hL] at C hle ⊢
  have hp : 2 ^ L ≤ 4096 := Nat.pow_le_pow_right (n := 2) (by decide) (show L ≤ 12 by omega)
  have hp2 : 2 ^ (L + 1) = 2 * 2 ^ L := by rw [Nat.pow_succ]; omega
  have hpi : ((2 : Int) ^ (L + 1)) = 2 * ((2 ^ L : Nat) : Int) := by rw [Int.pow_succ]; simp; omega
  clear h1 hL
  go_enter Tryz.func106, Tryz.ntmps106
  go_wp2_with (go_at_call 110; refine C.out.mono ?_; rintro e w' ⟨rfl, rfl⟩)
  go_ret
  exact ⟨ret_int (by rw [Nat.add_sub_cancel]; simp), rfl⟩

section
variable {w : World} {T S n : Nat} {l : List Int} {t : Int}
theorem fenLen_blk (h : Blk w T 146 [.slice (some ⟨S, 0, none⟩) (n + 1 : Nat) (n + 1), .int .i64 t]) (hn : n ≤ 4096) :
    Calls Tryz.prog 79 #[.pointer (some ⟨T, 0, none⟩)] w fun e w' => e = .returned (.int .i64 (n : Int)) ∧ w' = w := by
  have c0 := h.cell 0
  simp only [List.getElem?_cons_zero] at c0
  go_enter Tryz.func79, Tryz.ntmps79
  go_wp2
  go_ret
  exact ⟨rfl, rfl⟩
theorem fenLen_any (h : Lies w T S n l t) (hn : n ≤ 4096) :
    Calls Tryz.prog 79 #[.pointer (some ⟨T, 0, none⟩)] w fun e w' => e = .returned (.int .i64 (n : Int)) ∧ w' = w := fenLen_blk h.tb hn
theorem fenTotal_any (h : Lies w T S n l t) :
    Calls Tryz.prog 82 #[.pointer (some ⟨T, 0, none⟩)] w fun e w' => e = .returned (.int .i64 t) ∧ w' = w := by
  have c1 := h.tb.cell 1
  simp only [List.getElem?_cons_succ, List.getElem?_cons_zero] at c1
  go_enter Tryz.func82, Tryz.ntmps82
  go_wp2
  go_ret
  exact ⟨rfl, rfl⟩
theorem fenHas_any (i : Int) (h : Lies w T S n l t) (hn : n ≤ 4096) :
    Calls Tryz.prog 102 #[.pointer (some ⟨T, 0, none⟩), .int .i64 i] w fun e w' => e = .returned (.bool (decide (0 ≤ i ∧ i < n))) ∧ w' = w := by
  have C := Lib.hid (fenLen_any h hn)
  go_enter Tryz.func102, Tryz.ntmps102
  go_wp2_with (go_at_call 79; refine C.out.mono ?_; rintro e w' ⟨rfl, rfl⟩)
  all_goals go_ret
  · rename_i h0
    exact ⟨by simp [h0], rfl⟩
  · rename_i h0
    have h1 : ¬ (0 ≤ i) := by omega
    exact ⟨by simp [h1], rfl⟩
end
end Go.Proofs.YtgbibmgedmbboaaGreat
