/- Contracts of layer 12: the tree of a row of counts as it lies; its small functions. -/
import Derived.Test.YtfjfjadlpnlmjaaFenBuild
import Derived.Test.YtfjfjadlpnlmjaaNum
import Derived.Test.YtfjfjadlpnlmjaaBase
import Derived.Deep.DeepMust
import Derived.BigQuiet
import Derived.BigRegion
namespace Go.Proofs.Ytfjfjadlpnlmjaa
open Go.RowKit

/-- Numbers as cells. -/
def zvs (l : List Int) : List Value := l.map (Value.int .i64)
theorem zvs_length (l : List Int) : (zvs l).length = l.length := by simp [zvs]
theorem zvs_get (l : List Int) (k : Nat) : (zvs l)[k]? = l[k]?.map (Value.int .i64) := by simp [zvs]
theorem zvs_set (l : List Int) (k : Nat) (x : Int) : (zvs l).set k (.int .i64 x) = zvs (l.set k x) := by simp [zvs, List.map_set]
theorem zvs_one (l : List Int) : ∀ u ∈ zvs l, u.oneCell' = true := by
  intro u hu
  obtain ⟨x, _, rfl⟩ := List.mem_map.1 hu
  rfl

/-- A row of counts that a tree may have. -/
def Counts (c : List Int) : Prop := (1 ≤ c.length ∧ c.length ≤ 4096) ∧ (∀ x ∈ c, 0 ≤ x) ∧ c.sum ≤ 65536
/-- At T lies a tree of the row S of n + 1 numbers, with a total. -/
structure Lies (w : World) (T S n : Nat) (l : List Int) (total : Int) : Prop where
  tb : Blk w T 58 [.slice (some ⟨S, 0, none⟩) (n + 1 : Nat) (n + 1), .int .i64 total]
  sb : Blk w S 3 (zvs l)
/-- At T lies the tree of the counts c. -/
def IsTree (w : World) (T S : Nat) (c : List Int) : Prop := Counts c ∧ Lies w T S c.length (fRow c) c.sum

theorem Lies.ne {w : World} {T S n : Nat} {l : List Int} {t : Int} (h : Lies w T S n l t) : T ≠ S := by
  intro e
  have h1 := h.tb; have h2 := h.sb
  rw [e] at h1
  unfold Blk at h1 h2
  rw [h1] at h2
  simp at h2
theorem Lies.grow {w w' : World} {T S n : Nat} {l : List Int} {t : Int} (h : Lies w T S n l t) (hb : Below w.heap.size w w') : Lies w' T S n l t := ⟨h.tb.grow hb, h.sb.grow hb⟩
theorem IsTree.grow {w w' : World} {T S : Nat} {c : List Int} (h : IsTree w T S c) (hb : Below w.heap.size w w') : IsTree w' T S c := ⟨h.1, h.2.grow hb⟩

/-- Of all that lay, T and S alone have turned. -/
structure TurnsB (T S : Nat) (w w' : World) : Prop where
  os : w'.os = w.os
  tape : w'.tape = w.tape
  output : w'.output = w.output
  size : w.heap.size ≤ w'.heap.size
  block : ∀ k, k < w.heap.size → k ≠ T → k ≠ S → w'.heap[k]? = w.heap[k]?
section
variable {T S : Nat} {w w' w'' : World}
theorem TurnsB.refl (T S : Nat) (w : World) : TurnsB T S w w := ⟨rfl, rfl, rfl, Nat.le_refl _, fun _ _ _ _ => rfl⟩
theorem TurnsB.trans (h : TurnsB T S w w') (k : TurnsB T S w' w'') : TurnsB T S w w'' :=
  ⟨k.os.trans h.os, k.tape.trans h.tape, k.output.trans h.output, Nat.le_trans h.size k.size, fun i hi h1 h2 => (k.block i (Nat.lt_of_lt_of_le hi h.size) h1 h2).trans (h.block i hi h1 h2)⟩
theorem TurnsB.drew (h : TurnsB T S w w') : TurnsB T S w w'.drew := ⟨h.os, h.tape, h.output, h.size, h.block⟩
theorem TurnsB.of_below (h : Below w.heap.size w w') : TurnsB T S w w' := ⟨h.os, h.tape, h.output, h.size, fun k hk _ _ => h.block k hk⟩
theorem TurnsB.grown {row : Option Nat} (h : w.grownBy w' row) (hr : ∀ r, row = some r → r = T ∨ r = S) : TurnsB T S w w' :=
  ⟨h.os, h.tape, h.output, h.size, fun k hk h1 h2 => h.block k hk (fun e => by rcases hr k e.symm with e | e <;> omega)⟩
theorem TurnsB.below {B : Nat} (h : TurnsB T S w w') (hT : B ≤ T) (hS : B ≤ S) (hB : B ≤ w.heap.size) : Below B w w' :=
  ⟨h.os, h.tape, h.output, h.size, fun k hk => h.block k (by omega) (by omega) (by omega)⟩
theorem TurnsB.blk {g : Nat} {t : TypeId} {cs : List Value} (h : TurnsB T S w w') (hb : Blk w g t cs) (h1 : g ≠ T) (h2 : g ≠ S) : Blk w' g t cs := (h.block g hb.lt h1 h2).trans hb
end

/-- A quiet call in a region that draws its order. -/
theorem quietOf {P : Program} {f : FuncId} {args : Array Value} {w : World} {m : Nat} {v : Value} (h : ∀ W' : World, W'.heap = w.heap → Calls P f args W' fun e w' => e = .returned v ∧ w' = W') :
    Calls P f args (w.drewN m) fun e w'' => e = .returned v ∧ ∃ j, w'' = w.drewN j := (h (w.drewN m) rfl).mono fun _ _ h => ⟨h.1, m, h.2⟩
theorem Blk.same {w w' : World} {g : Nat} {t : TypeId} {cs : List Value} (h : Blk w g t cs) (e : w'.heap = w.heap) : Blk w' g t cs := by unfold Blk; rw [e]; exact h
theorem Lies.same {w w' : World} {T S n : Nat} {l : List Int} {t : Int} (h : Lies w T S n l t) (e : w'.heap = w.heap) : Lies w' T S n l t := ⟨h.tb.same e, h.sb.same e⟩
theorem IsTree.same {w w' : World} {T S : Nat} {c : List Int} (h : IsTree w T S c) (e : w'.heap = w.heap) : IsTree w' T S c := ⟨h.1, h.2.same e⟩

/-- The lowest bit. -/
theorem low_bits (p : Nat) (h0 : 0 < p) (h : p < 2 ^ 62) : bits .and .i64 (p : Int) (wrap64 (-(p : Int))) = (fLow p : Int) := by
  obtain ⟨e, -⟩ := Lib.lowest_bit 64 p (by omega) (by omega)
  have hl := fLow_le h0 (by omega)
  have e1 : (BitVec.ofInt 64 (p : Int)).toNat = p := by simp; omega
  have e2 : (BitVec.ofInt 64 (wrap64 (-(p : Int)))).toNat = 2 ^ 64 - p := by
    rw [IntWalk.wrap64_in _ (by omega)]; simp [BitVec.toNat_ofInt]; omega
  have e3 : bits .and .i64 (p : Int) (wrap64 (-(p : Int))) = IntKind.i64.wrap ((((BitVec.ofInt 64 (p : Int)).toNat &&& (BitVec.ofInt 64 (wrap64 (-(p : Int)))).toNat : Nat)) : Int) := by
    rw [← BitVec.toNat_and]
    rfl
  rw [e3, e1, e2, e, IntKind.wrap_i64]
  unfold fLow at hl ⊢
  omega
theorem fenLowest_any (p : Nat) (h0 : 0 < p) (h : p < 2 ^ 62) (w : World) :
    Calls Try.prog 36 #[.int .i64 (p : Int)] w fun e w' => e = .returned (.int .i64 (fLow p : Int)) ∧ w' = w := by
  have e := low_bits p h0 h
  have hw : wrap64 (-(p : Int)) = -(p : Int) := IntWalk.wrap64_in _ (by omega)
  rw [hw] at e
  clear hw
  go_enter Try.func36, Try.ntmps36
  go_wp2
  go_ret
  exact ⟨rfl, rfl⟩
theorem bitsLen_any (x : Int) (w : World) (h0 : 0 ≤ x) (h1 : x ≤ 18446744073709551615) :
    Calls Try.prog 38 #[.int .u64 x] w fun e w' => e = .returned (.int .i64 (Lib.bitLen x.toNat)) ∧ w' = w := by
  go_enter Try.func38, Try.ntmps38
  go_wp2_with (go_at_call 41; refine (len64_any _ _ h0 h1).mono ?_; rintro e w' ⟨rfl, rfl⟩)
  go_ret
  exact ⟨rfl, rfl⟩
theorem fenGreatest_any (n : Nat) (h0 : 0 < n) (h : n ≤ 4096) (w : World) :
    Calls Try.prog 34 #[.int .i64 (n : Int)] w fun e w' => e = .returned (.int .i64 (2 ^ (Lib.bitLen n - 1) : Nat)) ∧ w' = w := by
  have c := bitsLen_any (n : Int) w (by omega) (by omega)
  rw [Int.toNat_natCast] at c
  have C := Lib.hid c
  have hle : Lib.bitLen n ≤ 13 := Lib.bitLen_le n 13 (by omega) (by omega)
  have h1 : 1 ≤ Lib.bitLen n := by
    have := Lib.bitLen_half n (by omega) (by omega); omega
  clear c
  obtain ⟨L, hL⟩ : ∃ L, Lib.bitLen n = L + 1 := ⟨Lib.bitLen n - 1, by omega⟩
  rw [hL] at C hle ⊢
  have hp : 2 ^ L ≤ 4096 := Nat.pow_le_pow_right (n := 2) (by decide) (show L ≤ 12 by omega)
  have hp2 : 2 ^ (L + 1) = 2 * 2 ^ L := by rw [Nat.pow_succ]; omega
  have hpi : ((2 : Int) ^ (L + 1)) = 2 * ((2 ^ L : Nat) : Int) := by rw [Int.pow_succ]; simp; omega
  clear h1 hL
  go_enter Try.func34, Try.ntmps34
  go_wp2_with (go_at_call 38; refine C.out.mono ?_; rintro e w' ⟨rfl, rfl⟩)
  go_ret
  exact ⟨ret_int (by rw [Nat.add_sub_cancel]; simp), rfl⟩

section
variable {w : World} {T S n : Nat} {l : List Int} {t : Int}
theorem fenLen_blk (h : Blk w T 58 [.slice (some ⟨S, 0, none⟩) (n + 1 : Nat) (n + 1), .int .i64 t]) (hn : n ≤ 4096) :
    Calls Try.prog 19 #[.pointer (some ⟨T, 0, none⟩)] w fun e w' => e = .returned (.int .i64 (n : Int)) ∧ w' = w := by
  have c0 := h.cell 0
  simp only [List.getElem?_cons_zero] at c0
  go_enter Try.func19, Try.ntmps19
  go_wp2
  go_ret
  exact ⟨rfl, rfl⟩
theorem fenLen_any (h : Lies w T S n l t) (hn : n ≤ 4096) :
    Calls Try.prog 19 #[.pointer (some ⟨T, 0, none⟩)] w fun e w' => e = .returned (.int .i64 (n : Int)) ∧ w' = w := fenLen_blk h.tb hn
theorem fenTotal_any (h : Lies w T S n l t) :
    Calls Try.prog 17 #[.pointer (some ⟨T, 0, none⟩)] w fun e w' => e = .returned (.int .i64 t) ∧ w' = w := by
  have c1 := h.tb.cell 1
  simp only [List.getElem?_cons_succ, List.getElem?_cons_zero] at c1
  go_enter Try.func17, Try.ntmps17
  go_wp2
  go_ret
  exact ⟨rfl, rfl⟩
theorem fenHas_any (i : Int) (h : Lies w T S n l t) (hn : n ≤ 4096) :
    Calls Try.prog 31 #[.pointer (some ⟨T, 0, none⟩), .int .i64 i] w fun e w' => e = .returned (.bool (decide (0 ≤ i ∧ i < n))) ∧ w' = w := by
  have C := Lib.hid (fenLen_any h hn)
  go_enter Try.func31, Try.ntmps31
  go_wp2_with (go_at_call 19; refine C.out.mono ?_; rintro e w' ⟨rfl, rfl⟩)
  all_goals go_ret
  · rename_i h0
    exact ⟨by simp [h0], rfl⟩
  · rename_i h0
    have h1 : ¬ (0 ≤ i) := by omega
    exact ⟨by simp [h1], rfl⟩
end
end Go.Proofs.Ytfjfjadlpnlmjaa
