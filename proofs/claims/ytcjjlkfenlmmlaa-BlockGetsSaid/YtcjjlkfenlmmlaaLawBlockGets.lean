/-
  The law's statement, proved: whatever the input, the call returns true, and the input reads as it did. No further condition.
-/
import Derived.Test.YtcjjlkfenlmmlaaRows
import Derived.Test.YtcjjlkfenlmmlaaBlkLaws2
import Derived.Test.YtcjjlkfenlmmlaaAggN
import Derived.WalkKit
import Derived.ProofKit
import Derived.OpenShut
import Derived.ShutString
import Derived.ChangeOld
import Derived.Below
import Derived.Lib.SmallJoins
namespace Go.Proofs.Ytcjjlkfenlmmlaa.blockGets
open Go.ChangeShapes Go.WideShapes Go.ChangeAt Go.RowKit Go.Joins

theorem own : ownKnob Try.prog.godebug = none := by kernel_rfl
theorem laidOut : laidOutB Try.prog = true := by kernel_rfl

/-- What the walk is told of a []byte that came in. -/
def IsRow (k : IntKind) (w : World) (a : Option Addr) (len cap : Nat) (zs : List Int) : Prop :=
  (a = none ∧ len = 0 ∧ cap = 0 ∧ zs = []) ∨
  ∃ x, a = some x ∧ len ≤ cap ∧ cap ≤ maxLen ∧ zs.length = cap ∧ (∀ i, i < zs.length → w.cell? (x.add i) = some (.int k (zs.getD i 0))) ∧ ∀ n ∈ zs, (Lit.int k n).wf = true

set_option maxRecDepth 100000 in
theorem lifted (os : Os) (started : os.Started) (H : Type) (enc : TypeId × Value → H) :
    ReturnsInHanded {} Try.checked os 4 .any (Rows.blockGetsSpec.pre6 enc Try.prog Try.f4 Rows.blockGetsRow.domain false) (Rows.blockGetsSpec.post enc Try.prog Try.f4 false true false false) := by
  refine returnsInHanded_of_change (C := Try.checked) own started (by kernel_rfl) Try.func4
    (ChangeSpec.witness6 (enc := enc) (C := Try.checked) false ⟨#[], #[.slice none 0 0, .agg #[.int .i64 0, .int .i64 0, .int .i64 0, .int .i64 0]], []⟩ 8 (by kernel_rfl) (by kernel_rfl) (by kernel_rfl) (by kernel_rfl)) ?_
  intro W base args ds gs before hval0 hW hcnd _
  have hval : ∀ (j : Nat) t v, Try.f4.params[j]? = some t → args[j]? = some v → Value.okWide Try.prog W .any base t v := hval0
  have hW' := hW
  obtain ⟨p, q, hA0, hV, rfl, hfz, hnd⟩ := hW
  have hA : DataW.TrodAll enc Try.prog W 0 (fun _ => true) true Try.f4.params.toList args.toList ds p := hA0
  rw [Try.params4] at hA hval
  obtain ⟨v0, vs0, d0, ds0, p0, q0, hargs, rfl, rfl, h0, r0⟩ := trodAll_cons hA
  obtain ⟨v1, vs1, d1, ds1, p1, q1, rfl, rfl, rfl, h1, r1⟩ := trodAll_cons r0
  obtain ⟨rfl, rfl, rfl⟩ := trodAll_nil r1
  obtain rfl : args = #[v0, v1] := by cases args; simp_all
  obtain ⟨rfl, rfl⟩ := trodVars_none hV
  obtain ⟨a0, len0, cap0, rfl⟩ := okWide_slice Try.underlying32 (hval 0 32 v0 rfl rfl)
  have k0 := h0
  have lt0 : ∀ x ∈ p0, x.block < W.heap.size := by obtain ⟨m, hm⟩ := k0; exact DataW.trod_lt m _ _ _ hm
  obtain ⟨z0, w0⟩ : ∃ zs, IsRow .u8 W a0 len0 cap0 zs := by
    obtain ⟨fuel, hf⟩ := h0
    rcases open_ints Try.underlying32 Try.underlying5 (by kernel_rfl) hf with ⟨hcs, _⟩ | ⟨x, l, c, zs, hcs, _, hl, hm, hz, _, hcell, hwz⟩
    · simp [Value.cells] at hcs
      obtain ⟨rfl, rfl, rfl⟩ := hcs
      exact ⟨[], .inl ⟨rfl, rfl, rfl, rfl⟩⟩
    · simp [Value.cells] at hcs
      obtain ⟨rfl, rfl, rfl⟩ := hcs
      exact ⟨zs, .inr ⟨_, rfl, hl, hm, by simpa using hz, hcell, hwz⟩⟩
  obtain ⟨l0, hl0, hlc0, hc0, hr0⟩ := rd_of_row w0
  have k1 := h1
  have lt1 : ∀ x ∈ p1, x.block < W.heap.size := by obtain ⟨m, hm⟩ := k1; exact DataW.trod_lt m _ _ _ hm
  obtain ⟨cs1, rfl, sz1, at1⟩ := agg_ints (ks := [.i64, .i64, .i64, .i64]) Try.underlying26 (by kernel_rfl) (by kernel_rfl) rfl (fun i f k hi hk => by
    match i, hi, hk with
    | 0, hi, hk => (obtain rfl := Option.some.inj hi; obtain rfl := Option.some.inj hk; exact Try.underlying3)
    | 1, hi, hk => (obtain rfl := Option.some.inj hi; obtain rfl := Option.some.inj hk; exact Try.underlying3)
    | 2, hi, hk => (obtain rfl := Option.some.inj hi; obtain rfl := Option.some.inj hk; exact Try.underlying3)
    | 3, hi, hk => (obtain rfl := Option.some.inj hi; obtain rfl := Option.some.inj hk; exact Try.underlying3)
    | j + 4, hi, hk => exact absurd hk (by simp)) (hval 1 26 v1 rfl rfl) h1
  obtain ⟨ob1, e10, w10⟩ := at1 0 .i64 rfl
  obtain ⟨ou1, e11, w11⟩ := at1 1 .i64 rfl
  obtain ⟨oR1, e12, w12⟩ := at1 2 .i64 rfl
  obtain ⟨om1, e13, w13⟩ := at1 3 .i64 rfl
  obtain rfl : cs1 = #[.int .i64 ob1, .int .i64 ou1, .int .i64 oR1, .int .i64 om1] := by
    refine Array.ext_getElem? fun j => ?_
    match j with
    | 0 => exact e10
    | 1 => exact e11
    | 2 => exact e12
    | 3 => exact e13
    | j + 4 => rw [Array.getElem?_eq_none (by rw [sz1]; exact Nat.le_add_left _ _), Array.getElem?_eq_none (by exact Nat.le_add_left _ _)]
  clear hA0 hval0
  refine (blockGets_law a0 len0 cap0 l0 ob1 ou1 oR1 om1 W hr0 hl0 hlc0).mono fun e W' ⟨he, bel⟩ => ?_
  subst he
  exact ⟨_, rfl, _, _, _, [], _, [], hW', (trodAll_mk1 (shut_bool Try.underlying4 _)), (trodAll_cons_mk (Below.trod laidOut (by kernel_rfl) (of_decide_eq_true (by kernel_rfl)) k0 bel lt0) (trodAll_cons_mk (Below.trod laidOut (by kernel_rfl) (of_decide_eq_true (by kernel_rfl)) k1 bel lt1) trodAll_mk0)), rfl, bel.frame _, fun h => by cases h⟩

theorem over : Rows.blockGetsRow.holds Try.pinned (OpenSpec.ofChange Rows.blockGetsSpec) :=
  OpenClaim.holds_of_wide 4 Try.f4 rfl rfl rfl rfl rfl rfl rfl ⟨rfl, rfl, rfl, rfl, rfl⟩ rfl rfl rfl rfl rfl (by kernel_rfl) Try.func4 (by kernel_rfl)
    (of_decide_eq_true (by kernel_rfl)) (by unfold Func.isWrapper; first | (rw [if_pos (by decide +kernel)]; kernel_rfl) | (rw [if_neg (by decide +kernel)]; exact ⟨rfl, rfl⟩))
    (fun os started H enc _ => lifted os started H enc)

theorem proved : Rows.BlockGetsSaid := over
end Go.Proofs.Ytcjjlkfenlmmlaa.blockGets
