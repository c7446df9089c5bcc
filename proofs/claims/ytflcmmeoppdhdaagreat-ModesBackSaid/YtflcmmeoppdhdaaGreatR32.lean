/-
  Contracts of layer 12: the tree of a row of counts as it lies; its small functions. · Contracts of layer 12: the ways up and down, gone through by functions that are ranged over. · Mathematics of layer 12: a count that is d more: the way up, place by place. · Contracts of layer 12: lift, Halve. · Contracts of layer 12: Below, Get: sums over a way down. · Contracts of layer 12: Get. · Contracts of layer 12: Add.
-/
import Derived.Test.YtflcmmeoppdhdaaGreatR02
import Derived.Test.YtflcmmeoppdhdaaGreatR03
import Derived.Test.YtflcmmeoppdhdaaGreatR21
import Derived.Test.YtflcmmeoppdhdaaGreatR24
import Derived.Deep.DeepMust
import Derived.BigQuiet
import Derived.BigRegion
import Derived.RangeFuncNested
import Derived.RangeFuncBox
import Derived.RangeFuncLeaves
import Derived.Shelf.Abstract
import Derived.OwnWalkIn
import Derived.TacticsInMore
import Derived.LoopNIn
import Derived.LoopIn
import Derived.Maps.AppendAt
import Derived.BigRegionIn
import Derived.Lib.QuietBelow
namespace Go.Proofs.YtflcmmeoppdhdaaGreat
open Go.RowKit

/-- A row of counts that a tree may have. -/
def Counts (c : List Int) : Prop := (1 ≤ c.length ∧ c.length ≤ 4096) ∧ (∀ x ∈ c, 0 ≤ x) ∧ c.sum ≤ 65536
/-- At T lies a tree of the row S of n + 1 numbers, with a total. -/
structure Lies (w : World) (T S n : Nat) (l : List Int) (total : Int) : Prop where
  tb : Blk w T 265 [.slice (some ⟨S, 0, none⟩) (n + 1 : Nat) (n + 1), .int .i64 total]
  sb : Blk w S 3 (zvs l)
/-- At T lies the tree of the counts c. -/
def IsTree (w : World) (T S : Nat) (c : List Int) : Prop := Counts c ∧ Lies w T S c.length (fRow c) c.sum

theorem Lies.ne {w : World} {T S n : Nat} {l : List Int} {t : Int} (h : Lies w T S n l t) : T ≠ S := by
  intro e
  have h1 := h.tb; have h2 := h.sb
  rw [e] at h1
  unfold Blk at h1 h2
  rw [h1] at h2
  simp at h2
theorem Lies.grow {w w' : World} {T S n : Nat} {l : List Int} {t : Int} (h : Lies w T S n l t) (hb : Below w.heap.size w w') : Lies w' T S n l t := ⟨h.tb.grow hb, h.sb.grow hb⟩
theorem IsTree.grow {w w' : World} {T S : Nat} {c : List Int} (h : IsTree w T S c) (hb : Below w.heap.size w w') : IsTree w' T S c := ⟨h.1, h.2.grow hb⟩

theorem Lies.same {w w' : World} {T S n : Nat} {l : List Int} {t : Int} (h : Lies w T S n l t) (e : w'.heap = w.heap) : Lies w' T S n l t := ⟨h.tb.same e, h.sb.same e⟩
theorem IsTree.same {w w' : World} {T S : Nat} {c : List Int} (h : IsTree w T S c) (e : w'.heap = w.heap) : IsTree w' T S c := ⟨h.1, h.2.same e⟩

/-- The lowest bit. -/
theorem low_bits (p : Nat) (h0 : 0 < p) (h : p < 2 ^ 62) : bits .and .i64 (p : Int) (wrap64 (-(p : Int))) = (fLow p : Int) := by
  obtain ⟨e, -⟩ := Lib.lowest_bit 64 p (by omega) (by omega)
  have hl := fLow_le h0 (by omega)
  have e1 : (BitVec.ofInt 64 (p : Int)).toNat = p := by simp; omega
  have e2 : (BitVec.ofInt 64 (wrap64 (-(p : Int)))).toNat = 2 ^ 64 - p := by
    rw [IntWalk.wrap64_in _ (by omega)]; simp [BitVec.toNat_ofInt]; omega
  have e3 : bits .and .i64 (p : Int) (wrap64 (-(p : Int))) = IntKind.i64.wrap ((((BitVec.ofInt 64 (p : Int)).toNat &&& (BitVec.ofInt 64 (wrap64 (-(p : Int)))).toNat : Nat)) : Int) := by
    rw [← BitVec.toNat_and]
    rfl
  rw [e3, e1, e2, e, IntKind.wrap_i64]
  unfold fLow at hl ⊢
  omega
theorem fenLowest_any (p : Nat) (h0 : 0 < p) (h : p < 2 ^ 62) (w : World) :
    Calls Tryz.prog 210 #[.int .i64 (p : Int)] w fun e w' => e = .returned (.int .i64 (fLow p : Int)) ∧ w' = w := by
  have e := low_bits p h0 h
  have hw : wrap64 (-(p : Int)) = -(p : Int) := IntWalk.wrap64_in _ (by omega)
  rw [hw] at e
  clear hw
  go_enter Tryz.func210, Tryz.ntmps210
  go_wp2
  go_ret
  exact ⟨rfl, rfl⟩
theorem bitsLen_any (x : Int) (w : World) (h0 : 0 ≤ x) (h1 : x ≤ 18446744073709551615) :
    Calls Tryz.prog 226 #[.int .u64 x] w fun e w' => e = .returned (.int .i64 (Lib.bitLen x.toNat)) ∧ w' = w := by
  go_enter Tryz.func226, Tryz.ntmps226
  go_wp2_with (go_at_call 244; refine (len64_any _ _ h0 h1).mono ?_; rintro e w' ⟨rfl, rfl⟩)
  go_ret
  exact ⟨rfl, rfl⟩
theorem fenGreatest_any (n : Nat) (h0 : 0 < n) (h : n ≤ 4096) (w : World) :
    Calls Tryz.prog 215 #[.int .i64 (n : Int)] w fun e w' => e = .returned (.int .i64 (2 ^ (Lib.bitLen n - 1) : Nat)) ∧ w' = w := by
  have c := bitsLen_any (n : Int) w (by omega) (by omega)
  rw [Int.toNat_natCast] at c
  have C := Lib.hid c
  have hle : Lib.bitLen n ≤ 13 := Lib.bitLen_le n 13 (by omega) (by omega)
  have h1 : 1 ≤ Lib.bitLen n := by
    have := Lib.bitLen_half n (by omega) (by omega); omega
  clear c
  obtain ⟨L, hL⟩ : ∃ L, Lib.bitLen n = L + 1 := ⟨Lib.bitLen n - 1, by omega⟩
  rw [hL] at C hle ⊢
  have hp : 2 ^ L ≤ 4096 := Nat.pow_le_pow_right (n := 2) (by decide) (show L ≤ 12 by omega)
  have hp2 : 2 ^ (L + 1) = 2 * 2 ^ L := by rw [Nat.pow_succ]; omega
  have hpi : ((2 : Int) ^ (L + 1)) = 2 * ((2 ^ L : Nat) : Int) := by rw [Int.pow_succ]; simp; omega
  clear h1 hL
  go_enter Tryz.func215, Tryz.ntmps215
  go_wp2_with (go_at_call 226; refine C.out.mono ?_; rintro e w' ⟨rfl, rfl⟩)
  go_ret
  exact ⟨ret_int (by rw [Nat.add_sub_cancel]; simp), rfl⟩

section
variable {w : World} {T S n : Nat} {l : List Int} {t : Int}
theorem fenLen_blk (h : Blk w T 265 [.slice (some ⟨S, 0, none⟩) (n + 1 : Nat) (n + 1), .int .i64 t]) (hn : n ≤ 4096) :
    Calls Tryz.prog 176 #[.pointer (some ⟨T, 0, none⟩)] w fun e w' => e = .returned (.int .i64 (n : Int)) ∧ w' = w := by
  have c0 := h.cell 0
  simp only [List.getElem?_cons_zero] at c0
  go_enter Tryz.func176, Tryz.ntmps176
  go_wp2
  go_ret
  exact ⟨rfl, rfl⟩
theorem fenLen_any (h : Lies w T S n l t) (hn : n ≤ 4096) :
    Calls Tryz.prog 176 #[.pointer (some ⟨T, 0, none⟩)] w fun e w' => e = .returned (.int .i64 (n : Int)) ∧ w' = w := fenLen_blk h.tb hn
theorem fenTotal_any (h : Lies w T S n l t) :
    Calls Tryz.prog 182 #[.pointer (some ⟨T, 0, none⟩)] w fun e w' => e = .returned (.int .i64 t) ∧ w' = w := by
  have c1 := h.tb.cell 1
  simp only [List.getElem?_cons_succ, List.getElem?_cons_zero] at c1
  go_enter Tryz.func182, Tryz.ntmps182
  go_wp2
  go_ret
  exact ⟨rfl, rfl⟩
theorem fenHas_any (i : Int) (h : Lies w T S n l t) (hn : n ≤ 4096) :
    Calls Tryz.prog 209 #[.pointer (some ⟨T, 0, none⟩), .int .i64 i] w fun e w' => e = .returned (.bool (decide (0 ≤ i ∧ i < n))) ∧ w' = w := by
  have C := Lib.hid (fenLen_any h hn)
  go_enter Tryz.func209, Tryz.ntmps209
  go_wp2_with (go_at_call 176; refine C.out.mono ?_; rintro e w' ⟨rfl, rfl⟩)
  all_goals go_ret
  · rename_i h0
    exact ⟨by simp [h0], rfl⟩
  · rename_i h0
    have h1 : ¬ (0 ≤ i) := by omega
    exact ⟨by simp [h1], rfl⟩
end
end Go.Proofs.YtflcmmeoppdhdaaGreat
namespace Go.Proofs.YtflcmmeoppdhdaaGreat
open Go.RowKit Go.Shelf
attribute [local go_sem] Oper.semAt_some

/-- The way down from a place, to what another one ends with. -/
def IsDown (e : Nat) : Nat → List Nat → Prop
  | p, [] => p ≤ e
  | p, x :: r => x = p ∧ e < p ∧ IsDown e (p - fLow p) r
theorem isDown_ex (e : Nat) : ∀ p, ∃ xs, IsDown e p xs := by
  intro p
  induction p using Nat.strongRecOn with
  | ind p ih =>
    by_cases h : e < p
    · obtain ⟨r, hr⟩ := ih (p - fLow p) (by have := fLow_pos p; omega)
      exact ⟨p :: r, rfl, h, hr⟩
    · exact ⟨[], by simp only [IsDown]; omega⟩
/-- The way up from a place. -/
def IsUp (n : Nat) : Nat → List Nat → Prop
  | p, [] => n < p
  | p, x :: r => x = p ∧ p ≤ n ∧ IsUp n (p + fLow p) r
theorem isUp_ex (n : Nat) : ∀ d p, n + 1 - p = d → ∃ xs, IsUp n p xs := by
  intro d
  induction d using Nat.strongRecOn with
  | ind d ih =>
    intro p hd
    by_cases h : p ≤ n
    · obtain ⟨r, hr⟩ := ih (n + 1 - (p + fLow p)) (by have := fLow_pos p; omega) (p + fLow p) rfl
      exact ⟨p :: r, rfl, h, hr⟩
    · exact ⟨[], by simp only [IsUp]; omega⟩

/-- What number lies in a box. -/
def boxNat (W : World) (B : Nat) : Nat := match W.cell? ⟨B, 0, none⟩ with
  | some v => (intOf v).toNat
  | none => 0
theorem boxNat_eq {W : World} {B p : Nat} {t : TypeId} (h : Boxed W B t (.int .i64 (p : Int))) : boxNat W B = p := by
  unfold boxNat; rw [h.cell]; simp [intOf]

def keepD (Bp Be : Nat) (k : Nat) : Prop := k = Bp ∨ k = Be
theorem boxed_keeps {keep : Nat → Prop} {W W' : World} {B : Nat} {t : TypeId} {v : Value} (h : Boxed W B t v) (hk : KeepsB keep W W') (hb : keep B) : Boxed W' B t v := (hk.2 B hb).trans h

set_option maxRecDepth 100000 in
set_option maxHeartbeats 2000000 in
theorem down1_hands (n : Nat) (hn : 1 ≤ n) (Bp Be p e : Nat) (hne : Bp ≠ Be) (hp : p < 2 ^ 62) (xs : List Nat) (hx : IsDown e p xs) (w : World) (hBp : Boxed w Bp 3 (.int .i64 (p : Int))) (hBe : Boxed w Be 3 (.int .i64 (e : Int))) :
    HandsOn n Tryz.prog 229 #[.pointer (some ⟨Bp, 0, none⟩), .pointer (some ⟨Be, 0, none⟩)] Bp (keepD Bp Be) (fun x : Nat => #[Value.int .i64 (x : Int)]) xs w := by
  intro l J W hW hJ hJd hY h0
  refine callsIn_of_wp Tryz.func229 rfl trivial ?_ rfl
  simp only [Tryz.ntmps229, List.size_toArray, List.length_cons, List.length_nil, Nat.reduceAdd, Nat.reduceSub, Array.replicate_succ, Array.replicate_zero, List.push_toArray, List.append_toArray, List.nil_append, List.cons_append]
  gi_wp2
  gi_loopw [] (fun wr => ∃ (pre rest : List Nat) (q : Nat), xs = pre ++ rest ∧ IsDown e q rest ∧ q < 2 ^ 62 ∧ Boxed wr Bp 3 (.int .i64 (q : Int)) ∧ Boxed wr Be 3 (.int .i64 (e : Int)) ∧ J pre wr)
    (fun wr => boxNat wr Bp)
  case atStart => exact ⟨[], xs, p, rfl, hx, hp, boxed_keeps hBp hW (.inl rfl), boxed_keeps hBe hW (.inr rfl), h0⟩
  case round =>
    obtain ⟨pre, rest, q, hxs, hdn, hq, hbp, hbe, hJs⟩ := hrel
    have hcp := hbp.cell
    have hce := hbe.cell
    have hm := boxNat_eq hbp
    have HXS := Lib.hid hxs
    cases rest with
    | nil =>
      have hle : q ≤ e := hdn
      rw [List.append_nil] at hxs
      clear hm
      gi_wp2
      go_end0
      exact ⟨⟨_, rfl⟩, by rw [hxs]; exact hJs⟩
    | cons x r =>
      obtain ⟨rfl, hlt, hdn⟩ := hdn
      obtain ⟨fn, tmps, assign, body, hy, hR⟩ := hY pre x r wr hxs.symm hJs
      have HDN := Lib.hid hdn
      have C := Lib.hid (fenLowest_any x (by omega) hq)
      have hl1 := fLow_le (i := x) (by omega) (by omega)
      have hl0 := fLow_pos x
      have hwr : IntKind.i64.wrap ((x : Int) - (fLow x : Int)) = ((x - fLow x : Nat) : Int) := by rw [IntKind.wrap_i64]; omega
      have HWR := Lib.hid hwr
      have HM := Lib.hid hm
      clear hdn hxs hm hwr
      gi_wp2
      refine hR.mono ?_
      rintro e3 W3 ⟨rfl, hJ3, hk3⟩
      have hbp3 := boxed_keeps hbp hk3 (.inl rfl)
      have hbe3 := boxed_keeps hbe hk3 (.inr rfl)
      have hcp3 := hbp3.cell
      have hfp3 := hbp3.frozen
      gi_wp2
      refine wpIn_wide.2 ?_
      go_region_with (go_at_call 210; refine (C.out _).mono ?_; rintro e w' ⟨rfl, rfl⟩)
      all_goals go_wp2
      all_goals
        rw [HWR.out]
        have hb4 : Boxed (W3.setCell ⟨Bp, 0, none⟩ (.int .i64 ((x - fLow x : Nat) : Int))).drew Bp 3 (.int .i64 ((x - fLow x : Nat) : Int)) := hbp3.set _
        refine ⟨⟨pre ++ [x], r, x - fLow x, by simp [HXS.out], HDN.out, by omega, hb4, Blk.setOther (cs := [_]) hbe3 _ _ (fun e => hne e.symm), hJd _ _ 1 (hJ _ _ _ hJ3)⟩, ?_⟩
        rw [HM.out, boxNat_eq hb4]; omega

def keepU (Bp Bt T : Nat) (k : Nat) : Prop := k = Bp ∨ k = Bt ∨ k = T
set_option maxRecDepth 100000 in
set_option maxHeartbeats 2000000 in
theorem up1_hands (n : Nat) (hn : 1 ≤ n) (Bp Bt T S N p : Nat) (tot : Int) (hne : Bp ≠ Bt) (hneT : Bp ≠ T) (hp0 : 0 < p) (hp : p < 2 ^ 40) (hN : N ≤ 4096) (xs : List Nat) (hx : IsUp N p xs) (w : World) (hBp : Boxed w Bp 3 (.int .i64 (p : Int))) (hBt : Boxed w Bt 239 (.pointer (some ⟨T, 0, none⟩)))
    (hT : Blk w T 265 [.slice (some ⟨S, 0, none⟩) (N + 1 : Nat) (N + 1), .int .i64 tot]) :
    HandsOn n Tryz.prog 230 #[.pointer (some ⟨Bp, 0, none⟩), .pointer (some ⟨Bt, 0, none⟩)] Bp (keepU Bp Bt T) (fun x : Nat => #[Value.int .i64 (x : Int)]) xs w := by
  intro l J W hW hJ hJd hY h0
  refine callsIn_of_wp Tryz.func230 rfl trivial ?_ rfl
  simp only [Tryz.ntmps230, List.size_toArray, List.length_cons, List.length_nil, Nat.reduceAdd, Nat.reduceSub, Array.replicate_succ, Array.replicate_zero, List.push_toArray, List.append_toArray, List.nil_append, List.cons_append]
  gi_wp2
  gi_loopw [] (fun wr => ∃ (pre rest : List Nat) (q : Nat), xs = pre ++ rest ∧ IsUp N q rest ∧ 0 < q ∧ q < 2 ^ 40 ∧ Boxed wr Bp 3 (.int .i64 (q : Int)) ∧ Boxed wr Bt 239 (.pointer (some ⟨T, 0, none⟩)) ∧ Blk wr T 265 [.slice (some ⟨S, 0, none⟩) (N + 1 : Nat) (N + 1), .int .i64 tot] ∧ J pre wr)
    (fun wr => 4097 - boxNat wr Bp)
  case atStart => exact ⟨[], xs, p, rfl, hx, hp0, hp, boxed_keeps hBp hW (.inl rfl), boxed_keeps hBt hW (.inr (.inl rfl)), (hW.2 T (.inr (.inr rfl))).trans hT, h0⟩
  case round =>
    obtain ⟨pre, rest, q, hxs, hdn, hq0, hq, hbp, hbt, hbT, hJs⟩ := hrel
    have hcp := hbp.cell
    have hct := hbt.cell
    have hm := boxNat_eq hbp
    have HXS := Lib.hid hxs
    have CL := Lib.hid (fun (W' : World) (e : W'.heap = wr.heap) => fenLen_blk (hbT.same e) hN)
    cases rest with
    | nil =>
      have hle : N < q := hdn
      rw [List.append_nil] at hxs
      clear hm
      gi_wp2
      refine wpIn_wide.2 ?_
      go_quiet ((go_at_call 176; exact quietOf CL.out))
      gi_wp2
      go_end0
      exact ⟨⟨_, rfl⟩, by rw [hxs]; exact hJd _ _ nq hJs⟩
    | cons x r =>
      obtain ⟨rfl, hlt, hdn⟩ := hdn
      have HDN := Lib.hid hdn
      have C := Lib.hid (fenLowest_any x (by omega) (by omega))
      have hl1 := fLow_le (i := x) (by omega) (by omega)
      have hl0 := fLow_pos x
      have hwr : IntKind.i64.wrap ((x : Int) + (fLow x : Int)) = ((x + fLow x : Nat) : Int) := by rw [IntKind.wrap_i64]; omega
      have HWR := Lib.hid hwr
      have HM := Lib.hid hm
      clear hdn hxs hm hwr
      gi_wp2
      refine wpIn_wide.2 ?_
      go_quiet ((go_at_call 176; exact quietOf CL.out))
      obtain ⟨fn, tmps, assign, body, hy, hR⟩ := hY pre x r (wr.drewN nq) HXS.out.symm (hJd _ _ nq hJs)
      gi_wp2
      refine hR.mono ?_
      rintro e3 W3 ⟨rfl, hJ3, hk3⟩
      have hbp3 := boxed_keeps (W := wr.drewN nq) hbp hk3 (.inl rfl)
      have hbt3 := boxed_keeps (W := wr.drewN nq) hbt hk3 (.inr (.inl rfl))
      have hT3 := (hk3.2 T (.inr (.inr rfl))).trans hbT
      have hcp3 := hbp3.cell
      have hfp3 := hbp3.frozen
      gi_wp2
      refine wpIn_wide.2 ?_
      go_region_with (go_at_call 210; refine (C.out _).mono ?_; rintro e w' ⟨rfl, rfl⟩)
      all_goals go_wp2
      all_goals
        rw [HWR.out]
        have hb4 : Boxed (W3.setCell ⟨Bp, 0, none⟩ (.int .i64 ((x + fLow x : Nat) : Int))).drew Bp 3 (.int .i64 ((x + fLow x : Nat) : Int)) := hbp3.set _
        refine ⟨⟨pre ++ [x], r, x + fLow x, by simp [HXS.out], HDN.out, by omega, by omega, hb4, Blk.setOther (cs := [_]) hbt3 _ _ (fun e => hne e.symm), Blk.setOther hT3 _ _ (fun e => hneT e.symm), hJd _ _ 1 (hJ _ _ _ hJ3)⟩, ?_⟩
        rw [HM.out, boxNat_eq hb4]; omega
end Go.Proofs.YtflcmmeoppdhdaaGreat
namespace Go.Proofs.YtflcmmeoppdhdaaGreat

/-- Where the way up stands, behind some places. -/
def upAt (p : Nat) : List Nat → Nat
  | [] => p
  | x :: r => upAt (x + fLow x) r
theorem upAt_snoc (l : List Nat) : ∀ (p x : Nat), upAt p (l ++ [x]) = x + fLow x := by
  induction l with
  | nil => intro p x; rfl
  | cons y r ih => intro p x; exact ih _ x
theorem isUp_at {n : Nat} : ∀ {pre rest : List Nat} {p : Nat}, IsUp n p (pre ++ rest) → IsUp n (upAt p pre) rest := by
  intro pre
  induction pre with
  | nil => intro rest p h; exact h
  | cons y r ih => intro rest p h; obtain ⟨rfl, -, h⟩ := h; exact ih h

/-- The places below q are those of c', the others those of c. -/
def mixRow (c c' : List Int) (q : Nat) : List Int := (List.range (c.length + 1)).map fun j => if j < q then fNode c' j else fNode c j
theorem mixRow_len (c c' : List Int) (q : Nat) : (mixRow c c' q).length = c.length + 1 := by simp [mixRow]
theorem mixRow_get (c c' : List Int) (q j : Nat) (h : j ≤ c.length) : (mixRow c c' q)[j]? = some (if j < q then fNode c' j else fNode c j) := by
  unfold mixRow; rw [List.getElem?_map, List.getElem?_range (by omega)]; rfl
/-- Of the places from q on, those that have the k-th count are those that begin ahead of q. -/
def Mix (n k q : Nat) : Prop := k + 1 ≤ q ∧ ∀ j, q ≤ j → j ≤ n → ((j - fLow j < k + 1 ∧ k + 1 ≤ j) ↔ j - fLow j < q)
theorem mix_first (n k : Nat) : Mix n k (k + 1) := ⟨Nat.le_refl _, fun _ hj _ => ⟨fun h => h.1, fun h => ⟨h, hj⟩⟩⟩
theorem mix_next {n k q : Nat} (hn : n < 2 ^ 64) (h : Mix n k q) : Mix n k (q + fLow q) := by
  have hpos := fLow_pos q
  refine ⟨by have := h.1; omega, fun j hj hjn => ?_⟩
  rw [h.2 j (by omega) hjn]
  exact ⟨fun x => by omega, fun x => up_beyond (by have := h.1; omega) hj (by omega) x⟩
theorem mixRow_first (c : List Int) (k : Nat) (h : k < c.length) (d : Int) : mixRow c (c.set k (c[k] + d)) (k + 1) = fRow c := by
  refine List.map_congr_left fun j _ => ?_
  split
  · rw [fNode_set c k h d j, if_neg (by omega), Int.add_zero]
  · rfl
theorem mixRow_next (c : List Int) (k q : Nat) (h : k < c.length) (d : Int) (hn : c.length < 2 ^ 64) (hm : Mix c.length k q) (hq : q ≤ c.length) :
    mixRow c (c.set k (c[k] + d)) (q + fLow q) = (mixRow c (c.set k (c[k] + d)) q).set q (fNode c q + d) := by
  have hpos := fLow_pos q
  have hq0 : 0 < q := by have := hm.1; omega
  have hql := fLow_le hq0 (by omega)
  refine List.ext_getElem? fun j => ?_
  rcases Nat.lt_or_ge j (c.length + 1) with hj | hj
  · rw [mixRow_get _ _ _ j (by omega)]
    by_cases e : q = j
    · subst e
      rw [List.getElem?_set_self (by rw [mixRow_len]; exact hj), if_pos (by omega), fNode_set c k h d q, if_pos ((hm.2 q (Nat.le_refl _) hq).2 (by omega))]
    · rw [List.getElem?_set_ne e, mixRow_get _ _ _ j (by omega)]
      by_cases h1 : j < q
      · rw [if_pos h1, if_pos (by omega)]
      · rw [if_neg h1]
        by_cases h2 : j < q + fLow q
        · rw [if_pos h2, fNode_set c k h d j, if_neg ?_, Int.add_zero]
          intro x
          have := (hm.2 j (by omega) (by omega)).1 x
          have := up_between hq0 (show q < j by omega) h2 (by omega)
          omega
        · rw [if_neg h2]
  · rw [List.getElem?_eq_none (by rw [mixRow_len]; exact hj), List.getElem?_eq_none (by rw [List.length_set, mixRow_len]; exact hj)]
theorem mixRow_most (c c' : List Int) (q : Nat) (hl : c'.length = c.length) (hq : c.length < q) : mixRow c c' q = fRow c' := by
  unfold mixRow fRow
  rw [hl]
  exact List.map_congr_left fun j hj => by have := List.mem_range.1 hj; rw [if_pos (by omega)]
theorem mix_all {n k : Nat} (hn : n < 2 ^ 64) : ∀ {pre rest : List Nat} {p : Nat}, Mix n k p → IsUp n p (pre ++ rest) → Mix n k (upAt p pre) := by
  intro pre
  induction pre with
  | nil => intro _ _ h _; exact h
  | cons y r ih =>
    intro rest p h hu
    obtain ⟨rfl, -, hu⟩ := hu
    exact ih (mix_next hn h) hu
theorem set_sum (c : List Int) (k : Nat) (h : k < c.length) (d : Int) : (c.set k (c[k] + d)).sum = c.sum + d := by
  have := fPre_set c k h d c.length
  rw [if_pos h, fPre_most c (Nat.le_refl _), fPre_most _ (by simp)] at this
  exact this
end Go.Proofs.YtflcmmeoppdhdaaGreat
namespace Go.Proofs.YtflcmmeoppdhdaaGreat
open Go.RowKit

theorem Lies.set_ {w : World} {T S n : Nat} {l : List Int} {t : Int} (h : Lies w T S n l t) (k : Nat) (x : Int) : Lies (w.setCell ⟨S, k, none⟩ (.int .i64 x)) T S n (l.set k x) t :=
  ⟨h.tb.setOther _ _ h.ne, by have := h.sb.set_ k (.int .i64 x); rwa [zvs_set] at this⟩
theorem Lies.setTotal {w : World} {T S n : Nat} {l : List Int} {t : Int} (h : Lies w T S n l t) (x : Int) : Lies (w.setCell ⟨T, 1, none⟩ (.int .i64 x)) T S n l x :=
  ⟨by have := h.tb.set_ 1 (.int .i64 x); simpa using this, h.sb.setOther _ _ h.ne.symm⟩
set_option maxHeartbeats 2000000 in
theorem fenLift_any {w : World} {T S n : Nat} {l : List Int} {t : Int} (p : Nat) (tm x y : Int) (h : Lies w T S n l t) (hn : n ≤ 4096) (hp0 : 0 < p) (hp : p ≤ n) (htm : tm = 1 ∨ tm = -1) (hx : l[p]? = some x) (hx0 : 0 ≤ x) (hx1 : x ≤ 65536)
    (hy : p + fLow p ≤ n → l[p + fLow p]? = some y ∧ 0 ≤ y ∧ y ≤ 65536) :
    Calls Tryz.prog 214 #[.pointer (some ⟨T, 0, none⟩), .int .i64 (p : Int), .int .i64 tm] w fun e w' => (∃ v, e = .returned v) ∧ Lies w' T S n (if p + fLow p ≤ n then l.set (p + fLow p) (y + tm * x) else l) t ∧ TurnsB T S w w' := by
  have C := Lib.hid (fenLowest_any p hp0 (by omega))
  have CL := Lib.hid (fenLen_any h hn)
  have hl1 := fLow_le (i := p) hp0 (by omega)
  have hl0 := fLow_pos p
  have HL := Lib.hid h
  have hT0 := h.tb.cell 0
  have hS := h.sb.cell p
  rw [zvs_get, hx] at hS
  simp only [List.getElem?_cons_zero, Option.map_some] at hT0 hS
  obtain ⟨lo, hlo⟩ : ∃ lo, lo = fLow p := ⟨_, rfl⟩
  rw [← hlo] at hl1 hl0 hy C ⊢
  have hpb : (p : Int) < (n : Int) + 1 := by omega
  clear hx hlo
  by_cases hin : p + lo ≤ n
  · obtain ⟨hy1, hy0, hy2⟩ := hy hin
    have hA := h.sb.cell (p + lo)
    rw [zvs_get, hy1] at hA
    simp only [Option.map_some] at hA
    have hF := h.sb.frozen (p + lo)
    have hini : (p : Int) + (lo : Int) ≤ (n : Int) := by omega
    have hinx : (p : Int) + (lo : Int) < (n : Int) + 1 := by omega
    have HSET := Lib.hid (h.set_ (p + lo) (y + tm * x))
    rw [if_pos hin]
    clear hy hy1 h
    rcases htm with rfl | rfl
    · rw [Int.one_mul] at HSET ⊢
      go_enter Tryz.func214, Tryz.ntmps214
      go_wp2_with (first
        | (go_at_call 210; refine (C.out _).mono ?_; rintro e w' ⟨rfl, rfl⟩)
        | (go_at_call 176; refine CL.out.mono ?_; rintro e w' ⟨rfl, rfl⟩))
      go_region
      all_goals go_wp2
      go_end0
      exact ⟨⟨_, rfl⟩, ⟨HSET.out.tb, HSET.out.sb⟩, (TurnsB.set_ _ _).drew⟩
    · rw [Int.neg_one_mul] at HSET ⊢
      go_enter Tryz.func214, Tryz.ntmps214
      go_wp2_with (first
        | (go_at_call 210; refine (C.out _).mono ?_; rintro e w' ⟨rfl, rfl⟩)
        | (go_at_call 176; refine CL.out.mono ?_; rintro e w' ⟨rfl, rfl⟩))
      go_region
      all_goals go_wp2
      go_end0
      exact ⟨⟨_, rfl⟩, ⟨HSET.out.tb, HSET.out.sb⟩, (TurnsB.set_ _ _).drew⟩
  · rw [if_neg hin]
    have hini : ¬ ((p : Int) + (lo : Int) ≤ (n : Int)) := by omega
    clear hy h
    go_enter Tryz.func214, Tryz.ntmps214
    go_wp2_with (first
      | (go_at_call 210; refine (C.out _).mono ?_; rintro e w' ⟨rfl, rfl⟩)
      | (go_at_call 176; refine CL.out.mono ?_; rintro e w' ⟨rfl, rfl⟩))
    go_end0
    exact ⟨⟨_, rfl⟩, HL.out, TurnsB.refl _ _ _⟩
end Go.Proofs.YtflcmmeoppdhdaaGreat
namespace Go.Proofs.YtflcmmeoppdhdaaGreat
open Go.RowKit Go.Shelf
attribute [local go_sem] Oper.semAt_some

theorem isDown_in {e : Nat} : ∀ {xs : List Nat} {p : Nat}, IsDown e p xs → ∀ x ∈ xs, x ≤ p ∧ e < x := by
  intro xs
  induction xs with
  | nil => intro p _ x hx; cases hx
  | cons y r ih =>
    intro p h x hx
    obtain ⟨rfl, h1, h2⟩ := h
    rcases List.mem_cons.1 hx with rfl | hx
    · exact ⟨Nat.le_refl _, h1⟩
    · have := ih h2 x hx
      exact ⟨by omega, this.2⟩
def sumN (c : List Int) (xs : List Nat) : Int := (xs.map (fNode c)).sum
theorem sumN_snoc (c : List Int) (xs : List Nat) (x : Nat) : sumN c (xs ++ [x]) = sumN c xs + fNode c x := by simp [sumN]
theorem sumN_cons (c : List Int) (xs : List Nat) (x : Nat) : sumN c (x :: xs) = fNode c x + sumN c xs := by simp [sumN]
theorem sumN_app (c : List Int) (xs ys : List Nat) : sumN c (xs ++ ys) = sumN c xs + sumN c ys := by simp [sumN]
theorem sumN_nn {c : List Int} (hc : ∀ x ∈ c, 0 ≤ x) (xs : List Nat) : 0 ≤ sumN c xs := by
  induction xs with
  | nil => simp [sumN]
  | cons x r ih => rw [sumN_cons]; have := fNode_nn hc x; omega
/-- What the way down from p to e has together. -/
theorem sumN_down (c : List Int) {e k : Nat} (hk : 2 ^ k ∣ e) : ∀ (xs : List Nat) (p : Nat), IsDown e p xs → e ≤ p → p < e + 2 ^ k → p < 2 ^ 64 → sumN c xs = fPre c p - fPre c e := by
  intro xs
  induction xs with
  | nil => intro p h h1 _ _; obtain rfl : p = e := Nat.le_antisymm h h1; simp [sumN]
  | cons x r ih =>
    intro p h h1 h2 h3
    obtain ⟨rfl, h4, h5⟩ := h
    have e1 : fLow x = fLow (x - e) := by
      have := fLow_add (q := e) (r := x - e) (k := k) hk (by omega) (by omega) (by omega)
      rw [← this]; congr 1; omega
    have e2 := fLow_le (i := x - e) (by omega) (by omega)
    rw [sumN_cons, ih _ h5 (by omega) (by omega) (by omega)]
    unfold fNode; omega

theorem fenDown_any (p e : Int) (w : World) :
    Calls Tryz.prog 208 #[.int .i64 p, .int .i64 e] w fun r w' => r = .returned (.func (.func 229) #[] #[.pointer (some ⟨w.heap.size, 0, none⟩), .pointer (some ⟨w.heap.size + 1, 0, none⟩)]) ∧
      Below w.heap.size w w' ∧ w'.heap.size = w.heap.size + 2 ∧ Boxed w' w.heap.size 3 (.int .i64 p) ∧ Boxed w' (w.heap.size + 1) 3 (.int .i64 e) := by
  go_enter Tryz.func208, Tryz.ntmps208
  go_wp2
  go_ret
  refine ⟨rfl, ((Below.refl _ _).alloc (Nat.le_refl _) _).alloc (by simp) _, by simp, (Boxed.new _ _ _).alloc _, ?_⟩
  have h := Boxed.new (w.alloc (.cells #[.int .i64 p] 3)) 3 (.int .i64 e)
  rwa [World.size_alloc] at h

/-- What goes through a row reads it: the box of the sum, the box of the tree, and all that lay. -/
def SumI (w : World) (Bs Bt T : Nat) (f : List Nat → Int) (pre : List Nat) (W : World) : Prop :=
  Boxed W Bs 3 (.int .i64 (f pre)) ∧ Boxed W Bt 239 (.pointer (some ⟨T, 0, none⟩)) ∧ Below w.heap.size w W
theorem boxed_grown {W W' : World} {row : Option Nat} {B N : Nat} {t : TypeId} {v : Value} {Bp : Nat} (h : Boxed W B t v) (hg : W.grownBy W' row)
    (hr : ∀ r, row = some r → r = Bp ∨ (N ≤ r ∧ ∃ o : Obj, W.heap[r]? = some o ∧ o.isCells = false)) (hne : B ≠ Bp) : Boxed W' B t v := by
  refine h.kept hg fun e => ?_
  rcases hr B e.symm with e | ⟨_, o, ho, hc⟩
  · exact hne e
  · rw [show W.heap[B]? = _ from h] at ho; cases ho; cases hc
theorem sumI_own {w w0 : World} {Bs Bt T Bp : Nat} {f : List Nat → Int} (hBp : w.heap.size ≤ Bp) (h1 : Bs ≠ Bp) (h2 : Bt ≠ Bp) (h0 : w.heap.size ≤ w0.heap.size) :
    ∀ s A B row, SumI w Bs Bt T f s A → A.grownBy B row → (∀ r, row = some r → r = Bp ∨ (w0.heap.size ≤ r ∧ ∃ o : Obj, A.heap[r]? = some o ∧ o.isCells = false)) → SumI w Bs Bt T f s B := by
  rintro s A B row ⟨x1, x2, x3⟩ hg hr
  exact ⟨boxed_grown x1 hg hr h1, boxed_grown x2 hg hr h2, x3.grown hg x3.size (fun r e => by rcases hr r e with e | e <;> omega)⟩

theorem sum_round {w Wd : World} {Bs Bt T N : Nat} {f : List Nat → Int} {keep : Nat → Prop} {pre : List Nat} {sm v : Int} (hs : Boxed Wd Bs 3 (.int .i64 sm)) (ht : Boxed Wd Bt 239 (.pointer (some ⟨T, 0, none⟩))) (hB : Below w.heap.size w Wd)
    (n1 : Bt ≠ Bs) (n2 : ∀ k, keep k → k ≠ Bs) (hle : w.heap.size ≤ Bs) (e : f pre = v) :
    KeepsFrom N Wd (Wd.setCell ⟨Bs, 0, none⟩ (.int .i64 v)).drew ∧ KeepsB keep Wd (Wd.setCell ⟨Bs, 0, none⟩ (.int .i64 v)).drew ∧ SumI w Bs Bt T f pre (Wd.setCell ⟨Bs, 0, none⟩ (.int .i64 v)).drew := by
  have h1 : KeepsFrom N Wd (Wd.setCell ⟨Bs, 0, none⟩ (.int .i64 v)) := (KeepsOthers.setCell Wd ⟨Bs, 0, none⟩ (.int .i64 v)).from N
  have h3 : Boxed (Wd.setCell ⟨Bs, 0, none⟩ (.int .i64 v)) Bs 3 (.int .i64 v) := hs.set _
  have h4 : Boxed (Wd.setCell ⟨Bs, 0, none⟩ (.int .i64 v)) Bt 239 (.pointer (some ⟨T, 0, none⟩)) := Blk.setOther (cs := [_]) ht _ _ n1
  refine ⟨⟨h1.size, h1.same⟩, ⟨(grownBy_setCell' Wd _ _).size, fun k hk => Below.heap_setCell _ _ _ k (n2 k hk)⟩, ?_, h4, below_drewN (hB.setCell (p := ⟨Bs, 0, none⟩) hle _) 1⟩
  rw [e]; exact h3

set_option maxRecDepth 100000 in
set_option maxHeartbeats 2000000 in
theorem fenBelow_any {w : World} {T S : Nat} {c : List Int} (i : Int) (h : IsTree w T S c) (p : Nat) (hp : (p : Int) = min (max i 0) (c.length : Int)) :
    Calls Tryz.prog 177 #[.pointer (some ⟨T, 0, none⟩), .int .i64 i] w fun e w' => e = .returned (.int .i64 (fPre c p)) ∧ Below w.heap.size w w' := by
  have hlen := h.1.1
  have hnn := h.1.2.1
  have htot := h.1.2.2
  have hpn : p ≤ c.length := by omega
  have HC := Lib.hid h.1
  have HL := Lib.hid h.2
  have CL := Lib.hid (fun (W' : World) (hb : Below w.heap.size w W') => fenLen_any (h.2.grow hb) hlen.2)
  have cd := fenDown_any (min (max i 0) (c.length : Int)) 0
  have CD := Lib.hid cd
  clear cd
  obtain ⟨xs, hx⟩ := isDown_ex 0 p
  have hsum := sumN_down c (e := 0) (k := 13) (Nat.dvd_zero _) xs p hx (Nat.zero_le _) (by omega) (by omega)
  rw [fPre_zero, Int.sub_zero] at hsum
  have HX := Lib.hid hx
  have HS := Lib.hid hsum
  have HN := Lib.hid hnn
  clear h hx hsum hnn
  refine (callsIn_wide (n := 4)).1 ?_
  refine callsIn_of_wp_marks Tryz.func177 rfl trivial ?_ rfl
  simp only [Tryz.ntmps177, List.size_toArray, List.length_cons, List.length_nil, Nat.reduceAdd, Nat.reduceSub, Array.replicate_succ, Array.replicate_zero, List.push_toArray, List.append_toArray, List.nil_append, List.cons_append]
  gi_wp2_with (first
    | (refine ⟨trivial, ?_⟩; gi_at_call 176; refine (callsIn_wide.2 (CL.out _ (((Below.refl _ _).alloc (Nat.le_refl _) _).alloc (by simp) _))).mono ?_; rintro e w' ⟨rfl, rfl⟩)
    | (refine ⟨trivial, ?_⟩; gi_at_call 208; refine (callsIn_wide.2 (CD.out _)).mono ?_; rintro e w3 ⟨rfl, hb3, hs3, hbp, hbe⟩))
  rw [← hp] at hbp
  have hBt := (Boxed.new w 239 (.pointer (some ⟨T, 0, none⟩))).alloc (.cells #[.int .i64 0] 3)
  have hBs := Boxed.new (w.alloc (.cells #[.pointer (some ⟨T, 0, none⟩)] 239)) 3 (.int .i64 0)
  have hB2 : Below w.heap.size w _ := ((Below.refl _ w).alloc (Nat.le_refl _) (.cells #[.pointer (some ⟨T, 0, none⟩)] 239)).alloc (by simp) (.cells #[.int .i64 0] 3)
  simp only [World.size_alloc] at hs3 hbp hbe hBs
  have hBt3 : Boxed w3 w.heap.size 239 (.pointer (some ⟨T, 0, none⟩)) := (hb3.block _ (by simp; omega)).trans hBt
  have hBs3 : Boxed w3 (w.heap.size + 1) 3 (.int .i64 0) := (hb3.block _ (by simp)).trans hBs
  have hB3 := hB2.trans (hb3.mono hB2.size)
  obtain ⟨BT, hBT⟩ : ∃ BT, BT = w.heap.size := ⟨_, rfl⟩
  clear hBt hBs hB2 hb3
  rw [← hBT] at hs3 hbp hbe hBt3 hBs3 ⊢
  have hle : w.heap.size ≤ BT := by omega
  clear hBT
  refine wpIn_range_state (by omega) (gf := 229) (lb := #[.pointer (some ⟨BT + 1 + 1, 0, none⟩), .pointer (some ⟨BT + 1 + 1 + 1, 0, none⟩)]) rfl (enters_of Tryz.func229 (by kernel_rfl) rfl)
    (down1_hands 3 (by omega) (BT + 1 + 1) (BT + 1 + 1 + 1) p 0 (by omega) (by omega) xs HX.out w3 hbp hbe) (fun k hk => by rcases hk with rfl | rfl <;> omega) (by omega) (fun _ => rfl)
    (SumI w (BT + 1) BT T (sumN c)) (sumI_own (by omega) (by omega) (by omega) (by omega)) (fun _ _ k h => ⟨h.1, h.2.1, below_drewN h.2.2 k⟩) ⟨hBs3, hBt3, hB3⟩
    (fun x => { tmps := #[.pointer (some ⟨T, 0, none⟩), .int .i64 i, .pointer (some ⟨BT, 0, none⟩), undef, .int .i64 0, .pointer (some ⟨BT + 1, 0, none⟩), .int .i64 (x : Int), .int .i64 i, .int .i64 (max i 0), .pointer (some ⟨T, 0, none⟩), .int .i64 (c.length : Int), .int .i64 (min (max i 0) (c.length : Int)), .func (.func 229) #[] #[.pointer (some ⟨BT + 1 + 1, 0, none⟩), .pointer (some ⟨BT + 1 + 1 + 1, 0, none⟩)], .int .i64 (x : Int), undef, undef, undef, undef, undef, undef, undef, undef, undef, undef], defers := [] }) ?assign ?body ?done
  case assign =>
    intro l x Wd K hK
    gi_wp2
    exact hK
  case body =>
    rintro l pre x rest Wd hxs ⟨hs, ht, hB⟩ hsz hkp
    have hsc := hs.cell
    have hsf := hs.frozen
    have htc := ht.cell
    have hl := HL.out.grow hB
    have hT0 := hl.tb.cell 0
    have hxin := isDown_in HX.out x (by rw [← hxs]; simp)
    have hS := hl.sb.cell x
    rw [zvs_get, fRow_get c x (by omega)] at hS
    simp only [List.getElem?_cons_zero, Option.map_some] at hT0 hS
    have hsn := sumN_snoc c pre x
    have h0 := sumN_nn HN.out pre
    have h1 := fNode_nn HN.out x
    have h2 := fPre_le HN.out p
    have h3 := sumN_nn HN.out rest
    have h4 : sumN c pre + (fNode c x + sumN c rest) = fPre c p := by rw [← HS.out, ← hxs, sumN_app, sumN_cons]
    obtain ⟨sm, hsm⟩ : ∃ sm, sm = sumN c pre := ⟨_, rfl⟩
    obtain ⟨nd, hnd⟩ : ∃ nd, nd = fNode c x := ⟨_, rfl⟩
    rw [← hsm] at hsc hsn h0 h4
    rw [← hnd] at hS hsn h1 h4
    have hadd : IntKind.i64.wrap (sm + nd) = sm + nd := by rw [IntKind.wrap_i64]; omega
    have hxb : (x : Int) < (c.length : Int) + 1 := by omega
    rw [← hsm] at hs
    have HADD := Lib.hid hadd
    have HSN := Lib.hid hsn
    have HSS := Lib.hid hs
    have HTT := Lib.hid ht
    have HBB := Lib.hid hB
    clear hadd hsn hsm hnd h0 h1 h2 h3 h4 hxin hkp hl hs ht hB hxs htot hlen hpn hsz hB3 hBs3 hBt3 hbe hbp hp
    gi_wp2
    gi_region
    all_goals gi_wp2
    all_goals
      rw [HADD.out]
      exact sum_round HSS.out HTT.out HBB.out (by omega) (fun k hk => by rcases hk with rfl | rfl <;> omega) (by omega) HSN.out
  case done =>
    rintro D Wd hD ⟨hs, ht, hB⟩ hK
    have hsc := hs.cell
    rw [HS.out] at hsc
    gi_wp2
    refine ⟨by simp, .inl ⟨_, _, rfl, run_takeDeferred hK, ?_⟩⟩
    refine ⟨_, results_tmp rfl _ _ _, ?_⟩
    exact ⟨rfl, hB.trans (belowK_b (w := w) (Nat.le_refl _) Wd D _ _ (by rw [hs3] at hD; omega) hK rfl rfl)⟩
end Go.Proofs.YtflcmmeoppdhdaaGreat
namespace Go.Proofs.YtflcmmeoppdhdaaGreat
open Go.RowKit Go.Shelf
attribute [local go_sem] Oper.semAt_some

/-- What a place ends with, ahead of its own. -/
theorem low_dvd {k : Nat} (h : k + 1 < 2 ^ 64) : ∃ a, fLow (k + 1) = 2 ^ a ∧ 2 ^ a ∣ k + 1 - fLow (k + 1) := by
  obtain ⟨m, hm⟩ := ctz_odd (i := k + 1) (by omega) h
  obtain ⟨a, ha⟩ := fLow_pow (k + 1)
  refine ⟨a, ha, ⟨2 * m, ?_⟩⟩
  rw [ha] at hm ⊢
  rw [Nat.mul_add] at hm
  omega

set_option maxRecDepth 100000 in
set_option maxHeartbeats 2000000 in
theorem fenGet_at {w : World} {T S : Nat} {c : List Int} (k : Nat) (h : IsTree w T S c) (hk : k < c.length) :
    Calls Tryz.prog 178 #[.pointer (some ⟨T, 0, none⟩), .int .i64 (k : Int)] w fun e w' => e = .returned (.int .i64 (c[k]'hk)) ∧ Below w.heap.size w w' := by
  have hlen := h.1.1
  have hnn := h.1.2.1
  have htot := h.1.2.2
  have hk1 : k + 1 < 2 ^ 64 := by omega
  have HL := Lib.hid h.2
  have ch := fun (W' : World) (hb : Below w.heap.size w W') => fenHas_any (k : Int) (h.2.grow hb) hlen.2
  rw [decide_eq_true (show 0 ≤ (k : Int) ∧ (k : Int) < c.length by omega)] at ch
  have CH := Lib.hid ch
  have cw := fenLowest_any (k + 1) (by omega) (by omega)
  rw [show ((k + 1 : Nat) : Int) = (k : Int) + 1 by omega] at cw
  have CW := Lib.hid cw
  clear cw
  obtain ⟨a, ha, had⟩ := low_dvd hk1
  have hlow := fLow_le (i := k + 1) (by omega) hk1
  have hlow0 := fLow_pos (k + 1)
  obtain ⟨E, hE⟩ : ∃ E, E = k + 1 - fLow (k + 1) := ⟨_, rfl⟩
  rw [← hE] at had
  have hEi : (k : Int) + 1 - (fLow (k + 1) : Int) = (E : Int) := by omega
  have CD := Lib.hid (fenDown_any (k : Int) (E : Int))
  obtain ⟨xs, hx⟩ := isDown_ex E k
  have hsum := sumN_down c had xs k hx (by omega) (by omega) (by omega)
  have hA := h.2.grow ((Below.refl _ w).alloc (Nat.le_refl _) (.cells #[.pointer (some ⟨T, 0, none⟩)] 239))
  have hS := hA.sb.cell (k + 1)
  rw [zvs_get, fRow_get c (k + 1) (by omega)] at hS
  have hnd : fNode c (k + 1) = c[k] + sumN c xs := by rw [hsum]; unfold fNode; rw [← hE, fPre_succ c k hk]; omega
  have hck := hnn _ (List.getElem_mem hk)
  have hndle := fNode_le hnn (k + 1)
  have hT0 := hA.tb.cell 0
  simp only [List.getElem?_cons_zero, Option.map_some] at hT0 hS
  obtain ⟨ck, hckq⟩ : ∃ ck, ck = c[k] := ⟨_, rfl⟩
  rw [← hckq] at hck hnd ⊢
  obtain ⟨nd, hndq⟩ : ∃ nd, nd = fNode c (k + 1) := ⟨_, rfl⟩
  rw [← hndq] at hS hnd hndle
  have HX := Lib.hid hx
  have HN := Lib.hid hnn
  have HND := Lib.hid hnd
  have HCK := Lib.hid hck
  have HNL := Lib.hid hndle
  have HEI := Lib.hid hEi
  have hx1 : (k : Int) + 1 < (c.length : Int) + 1 := by omega
  have hEk : E ≤ k := by omega
  have hkn : k < 4097 := by omega
  have hlow1 : (fLow (k + 1) : Int) ≤ (k : Int) + 1 := by omega
  clear h hA hx hsum hnn ch hE had hnd hndq hckq hck hndle hEi ha
  refine (callsIn_wide (n := 4)).1 ?_
  refine callsIn_of_wp_marks Tryz.func178 rfl trivial ?_ rfl
  simp only [Tryz.ntmps178, List.size_toArray, List.length_cons, List.length_nil, Nat.reduceAdd, Nat.reduceSub, Array.replicate_succ, Array.replicate_zero, List.push_toArray, List.append_toArray, List.nil_append, List.cons_append]
  gi_wp2_with (first
    | (refine ⟨trivial, ?_⟩; gi_at_call 209; refine (callsIn_wide.2 (CH.out _ ((Below.refl _ _).alloc (Nat.le_refl _) _))).mono ?_; rintro e w' ⟨rfl, rfl⟩)
    | (refine ⟨trivial, ?_⟩; gi_at_call 210; refine (callsIn_wide.2 (CW.out _)).mono ?_; rintro e w' ⟨rfl, rfl⟩))
  rw [HEI.out]
  gi_wp2_with (refine ⟨trivial, ?_⟩; gi_at_call 208; refine (callsIn_wide.2 (CD.out _)).mono ?_; rintro e w3 ⟨rfl, hb3, hs3, hbp, hbe⟩)
  have hBt := (Boxed.new w 239 (.pointer (some ⟨T, 0, none⟩))).alloc (.cells #[.int .i64 nd] 3)
  have hBs := Boxed.new (w.alloc (.cells #[.pointer (some ⟨T, 0, none⟩)] 239)) 3 (.int .i64 nd)
  have hB2 : Below w.heap.size w _ := ((Below.refl _ w).alloc (Nat.le_refl _) (.cells #[.pointer (some ⟨T, 0, none⟩)] 239)).alloc (by simp) (.cells #[.int .i64 nd] 3)
  simp only [World.size_alloc] at hs3 hbp hbe hBs
  have hBt3 : Boxed w3 w.heap.size 239 (.pointer (some ⟨T, 0, none⟩)) := (hb3.block _ (by simp; omega)).trans hBt
  have hBs3 : Boxed w3 (w.heap.size + 1) 3 (.int .i64 nd) := (hb3.block _ (by simp)).trans hBs
  have hB3 := hB2.trans (hb3.mono hB2.size)
  obtain ⟨BT, hBT⟩ : ∃ BT, BT = w.heap.size := ⟨_, rfl⟩
  clear hBt hBs hB2 hb3
  rw [← hBT] at hs3 hbp hbe hBt3 hBs3 ⊢
  have hle : w.heap.size ≤ BT := by omega
  clear hBT
  refine wpIn_range_state (by omega) (gf := 229) (lb := #[.pointer (some ⟨BT + 1 + 1, 0, none⟩), .pointer (some ⟨BT + 1 + 1 + 1, 0, none⟩)]) rfl (enters_of Tryz.func229 (by kernel_rfl) rfl)
    (down1_hands 3 (by omega) (BT + 1 + 1) (BT + 1 + 1 + 1) k E (by omega) (by omega) xs HX.out w3 hbp hbe) (fun k hk => by rcases hk with rfl | rfl <;> omega) (by omega) (fun _ => rfl)
    (SumI w (BT + 1) BT T (fun pre => nd - sumN c pre)) (sumI_own (by omega) (by omega) (by omega) (by omega)) (fun _ _ k h => ⟨h.1, h.2.1, below_drewN h.2.2 k⟩) ⟨by simpa [sumN] using hBs3, hBt3, hB3⟩
    (fun x => { tmps := #[.pointer (some ⟨T, 0, none⟩), .int .i64 (k : Int), .pointer (some ⟨BT, 0, none⟩), undef, .int .i64 0, .int .i64 ((k : Int) + 1), .pointer (some ⟨BT + 1, 0, none⟩), .int .i64 (x : Int), .pointer (some ⟨T, 0, none⟩), .int .i64 (k : Int), .bool true, .bool false, .int .i64 (k : Int), .int .i64 ((k : Int) + 1), .pointer (some ⟨T, 0, none⟩), .pointer (some ⟨T, 0, none⟩), .pointer (some ⟨T, 0, none⟩), .slice (some ⟨S, 0, none⟩) (c.length + 1) (c.length + 1), .int .i64 ((k : Int) + 1), .pointer (some ⟨S, k + 1, none⟩), .int .i64 nd, .int .i64 (k : Int), .int .i64 ((k : Int) + 1), .int .i64 ((k : Int) + 1), .int .i64 (fLow (k + 1) : Int), .int .i64 (E : Int), .func (.func 229) #[] #[.pointer (some ⟨BT + 1 + 1, 0, none⟩), .pointer (some ⟨BT + 1 + 1 + 1, 0, none⟩)], .int .i64 (x : Int), undef, undef, undef, undef, undef, undef, undef, undef, undef, undef], defers := [] }) ?assign ?body ?done
  case assign =>
    intro l x Wd K hK
    gi_wp2
    exact hK
  case body =>
    rintro l pre x rest Wd hxs ⟨hs, ht, hB⟩ hsz hkp
    dsimp only at hs
    have hsc := hs.cell
    have hsf := hs.frozen
    have htc := ht.cell
    have hl := HL.out.grow hB
    have hT0 := hl.tb.cell 0
    have hxin := isDown_in HX.out x (by rw [← hxs]; simp)
    have hS := hl.sb.cell x
    rw [zvs_get, fRow_get c x (by omega)] at hS
    simp only [List.getElem?_cons_zero, Option.map_some] at hT0 hS
    have hsn := sumN_snoc c pre x
    have h0 := sumN_nn HN.out pre
    have h1 := fNode_nn HN.out x
    have h3 := sumN_nn HN.out rest
    have h4 : sumN c pre + (fNode c x + sumN c rest) = sumN c xs := by rw [← hxs, sumN_app, sumN_cons]
    have h5 := HND.out
    have h6 := HCK.out
    have h7 := HNL.out
    obtain ⟨sm, hsm⟩ : ∃ sm, sm = nd - sumN c pre := ⟨_, rfl⟩
    obtain ⟨y, hy⟩ : ∃ y, y = fNode c x := ⟨_, rfl⟩
    have hsn' : nd - sumN c (pre ++ [x]) = sm - y := by omega
    have hadd : IntKind.i64.wrap (sm - y) = sm - y := by rw [IntKind.wrap_i64]; omega
    rw [← hsm] at hs hsc
    rw [← hy] at hS
    have hxb : (x : Int) < (c.length : Int) + 1 := by omega
    have HADD := Lib.hid hadd
    have HSN := Lib.hid hsn'
    have HSS := Lib.hid hs
    have HTT := Lib.hid ht
    have HBB := Lib.hid hB
    clear hadd hsn hsn' hsm hy h0 h1 h3 h4 h5 h6 h7 hxin hkp hl hs ht hB hxs htot hlen hsz hB3 hBs3 hBt3 hbe hbp hx1 hEk hkn hlow hlow0 hlow1 hk1 hk
    gi_wp2
    gi_region
    all_goals gi_wp2
    all_goals
      rw [HADD.out]
      exact sum_round HSS.out HTT.out HBB.out (by omega) (fun k hk => by rcases hk with rfl | rfl <;> omega) (by omega) HSN.out
  case done =>
    rintro D Wd hD ⟨hs, ht, hB⟩ hK
    have hsc := hs.cell
    dsimp only at hsc
    rw [show nd - sumN c xs = ck by have := HND.out; omega] at hsc
    gi_wp2
    refine ⟨by simp, .inl ⟨_, _, rfl, run_takeDeferred hK, ?_⟩⟩
    refine ⟨_, results_tmp rfl _ _ _, ?_⟩
    exact ⟨rfl, hB.trans (belowK_b (w := w) (Nat.le_refl _) Wd D _ _ (by rw [hs3] at hD; omega) hK rfl rfl)⟩
end Go.Proofs.YtflcmmeoppdhdaaGreat
namespace Go.Proofs.YtflcmmeoppdhdaaGreat
open Go.RowKit Go.Shelf Go.Sort
attribute [local go_sem] Oper.semAt_some

theorem fenUp_any (T p : Nat) (w : World) :
    Calls Tryz.prog 213 #[.pointer (some ⟨T, 0, none⟩), .int .i64 (p : Int)] w fun r w' => r = .returned (.func (.func 230) #[] #[.pointer (some ⟨w.heap.size + 1, 0, none⟩), .pointer (some ⟨w.heap.size, 0, none⟩)]) ∧
      Below w.heap.size w w' ∧ w'.heap.size = w.heap.size + 2 ∧ Boxed w' w.heap.size 239 (.pointer (some ⟨T, 0, none⟩)) ∧ Boxed w' (w.heap.size + 1) 3 (.int .i64 (p : Int)) := by
  go_enter Tryz.func213, Tryz.ntmps213
  go_wp2
  go_ret
  refine ⟨rfl, ((Below.refl _ _).alloc (Nat.le_refl _) _).alloc (by simp) _, by simp, (Boxed.new _ _ _).alloc _, ?_⟩
  have h := Boxed.new (w.alloc (.cells #[.pointer (some ⟨T, 0, none⟩)] 239)) 3 (.int .i64 (p : Int))
  rwa [World.size_alloc] at h

/-- What Add lays first. -/
theorem addBoxes (w : World) (v u : Value) : Below w.heap.size w ((w.alloc (.cells #[v] 239)).alloc (.cells #[u] 3)) ∧
    Boxed ((w.alloc (.cells #[v] 239)).alloc (.cells #[u] 3)) w.heap.size 239 v ∧ Boxed ((w.alloc (.cells #[v] 239)).alloc (.cells #[u] 3)) (w.heap.size + 1) 3 u ∧
    ((w.alloc (.cells #[v] 239)).alloc (.cells #[u] 3)).heap.size = w.heap.size + 1 + 1 := by
  refine ⟨((Below.refl _ _).alloc (Nat.le_refl _) _).alloc (by simp) _, (Boxed.new _ _ _).alloc _, ?_, by simp⟩
  have h := Boxed.new (w.alloc (.cells #[v] 239)) 3 u
  rwa [World.size_alloc] at h

end Go.Proofs.YtflcmmeoppdhdaaGreat
