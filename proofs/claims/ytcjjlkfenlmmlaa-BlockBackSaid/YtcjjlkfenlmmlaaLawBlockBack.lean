/-
  The law's statement, proved: whatever the input, the call returns true, and the input reads as it did. No further condition.
-/
import Derived.Test.YtcjjlkfenlmmlaaRows
import Derived.Test.YtcjjlkfenlmmlaaBlkBack
import Derived.Test.YtcjjlkfenlmmlaaAggN
import Derived.WalkKit
import Derived.ProofKit
import Derived.OpenShut
import Derived.ShutString
import Derived.ChangeOld
import Derived.Below
import Derived.Lib.SmallJoins
namespace Go.Proofs.Ytcjjlkfenlmmlaa.blockBack
open Go.ChangeShapes Go.WideShapes Go.ChangeAt Go.RowKit Go.Joins

theorem own : ownKnob Try.prog.godebug = none := by kernel_rfl
theorem laidOut : laidOutB Try.prog = true := by kernel_rfl

/-- What the walk is told of a []byte that came in. -/
def IsRow (k : IntKind) (w : World) (a : Option Addr) (len cap : Nat) (zs : List Int) : Prop :=
  (a = none ∧ len = 0 ∧ cap = 0 ∧ zs = []) ∨
  ∃ x, a = some x ∧ len ≤ cap ∧ cap ≤ maxLen ∧ zs.length = cap ∧ (∀ i, i < zs.length → w.cell? (x.add i) = some (.int k (zs.getD i 0))) ∧ ∀ n ∈ zs, (Lit.int k n).wf = true

set_option maxRecDepth 100000 in
theorem lifted (os : Os) (started : os.Started) (H : Type) (enc : TypeId × Value → H) :
    ReturnsInHanded {} Try.checked os 6 .any (Rows.blockBackSpec.pre6 enc Try.prog Try.f6 Rows.blockBackRow.domain false) (Rows.blockBackSpec.post enc Try.prog Try.f6 false true false false) := by
  refine returnsInHanded_of_change (C := Try.checked) own started (by kernel_rfl) Try.func6
    (ChangeSpec.witness6 (enc := enc) (C := Try.checked) false ⟨#[], #[.agg #[.int .i64 0, .int .i64 0, .int .i64 0, .int .i64 0, .int .u32 0, .int .i64 0, .int .i64 0], .agg #[.int .i64 0, .int .i64 0, .int .i64 0, .int .i64 0], .int .u32 0, .slice none 0 0], []⟩ 8 (by kernel_rfl) (by kernel_rfl) (by kernel_rfl) (by kernel_rfl)) ?_
  intro W base args ds gs before hval0 hW hcnd _
  have hval : ∀ (j : Nat) t v, Try.f6.params[j]? = some t → args[j]? = some v → Value.okWide Try.prog W .any base t v := hval0
  have hW' := hW
  obtain ⟨p, q, hA0, hV, rfl, hfz, hnd⟩ := hW
  have hA : DataW.TrodAll enc Try.prog W 0 (fun _ => true) true Try.f6.params.toList args.toList ds p := hA0
  rw [Try.params6] at hA hval
  obtain ⟨v0, vs0, d0, ds0, p0, q0, hargs, rfl, rfl, h0, r0⟩ := trodAll_cons hA
  obtain ⟨v1, vs1, d1, ds1, p1, q1, rfl, rfl, rfl, h1, r1⟩ := trodAll_cons r0
  obtain ⟨v2, vs2, d2, ds2, p2, q2, rfl, rfl, rfl, h2, r2⟩ := trodAll_cons r1
  obtain ⟨v3, vs3, d3, ds3, p3, q3, rfl, rfl, rfl, h3, r3⟩ := trodAll_cons r2
  obtain ⟨rfl, rfl, rfl⟩ := trodAll_nil r3
  obtain rfl : args = #[v0, v1, v2, v3] := by cases args; simp_all
  obtain ⟨rfl, rfl⟩ := trodVars_none hV
  have k0 := h0
  have lt0 : ∀ x ∈ p0, x.block < W.heap.size := by obtain ⟨m, hm⟩ := k0; exact DataW.trod_lt m _ _ _ hm
  obtain ⟨cs0, rfl, sz0, at0⟩ := agg_ints (ks := [.i64, .i64, .i64, .i64, .u32, .i64, .i64]) Try.underlying24 (by kernel_rfl) (by kernel_rfl) rfl (fun i f k hi hk => by
    match i, hi, hk with
    | 0, hi, hk => (obtain rfl := Option.some.inj hi; obtain rfl := Option.some.inj hk; exact Try.underlying3)
    | 1, hi, hk => (obtain rfl := Option.some.inj hi; obtain rfl := Option.some.inj hk; exact Try.underlying3)
    | 2, hi, hk => (obtain rfl := Option.some.inj hi; obtain rfl := Option.some.inj hk; exact Try.underlying3)
    | 3, hi, hk => (obtain rfl := Option.some.inj hi; obtain rfl := Option.some.inj hk; exact Try.underlying3)
    | 4, hi, hk => (obtain rfl := Option.some.inj hi; obtain rfl := Option.some.inj hk; exact Try.underlying22)
    | 5, hi, hk => (obtain rfl := Option.some.inj hi; obtain rfl := Option.some.inj hk; exact Try.underlying3)
    | 6, hi, hk => (obtain rfl := Option.some.inj hi; obtain rfl := Option.some.inj hk; exact Try.underlying3)
    | j + 7, hi, hk => exact absurd hk (by simp)) (hval 0 24 v0 rfl rfl) h0
  obtain ⟨mo0, e00, w00⟩ := at0 0 .i64 rfl
  obtain ⟨ra0, e01, w01⟩ := at0 1 .i64 rfl
  obtain ⟨mi0, e02, w02⟩ := at0 2 .i64 rfl
  obtain ⟨co0, e03, w03⟩ := at0 3 .i64 rfl
  obtain ⟨su0, e04, w04⟩ := at0 4 .u32 rfl
  obtain ⟨fr0, e05, w05⟩ := at0 5 .i64 rfl
  obtain ⟨pl0, e06, w06⟩ := at0 6 .i64 rfl
  obtain rfl : cs0 = #[.int .i64 mo0, .int .i64 ra0, .int .i64 mi0, .int .i64 co0, .int .u32 su0, .int .i64 fr0, .int .i64 pl0] := by
    refine Array.ext_getElem? fun j => ?_
    match j with
    | 0 => exact e00
    | 1 => exact e01
    | 2 => exact e02
    | 3 => exact e03
    | 4 => exact e04
    | 5 => exact e05
    | 6 => exact e06
    | j + 7 => rw [Array.getElem?_eq_none (by rw [sz0]; exact Nat.le_add_left _ _), Array.getElem?_eq_none (by exact Nat.le_add_left _ _)]
  have hsu0 : 0 ≤ su0 ∧ su0 ≤ 4294967295 := by simpa [Lit.wf, IntKind.min, IntKind.max, IntKind.signed, IntKind.bits] using w04
  have hbb0 : (-9223372036854775808 ≤ ra0 ∧ ra0 ≤ 9223372036854775807) ∧ (-9223372036854775808 ≤ mi0 ∧ mi0 ≤ 9223372036854775807) ∧ (-9223372036854775808 ≤ co0 ∧ co0 ≤ 9223372036854775807) := ⟨by simpa [Lit.wf, IntKind.min, IntKind.max, IntKind.signed, IntKind.bits] using w01, by simpa [Lit.wf, IntKind.min, IntKind.max, IntKind.signed, IntKind.bits] using w02, by simpa [Lit.wf, IntKind.min, IntKind.max, IntKind.signed, IntKind.bits] using w03⟩
  have k1 := h1
  have lt1 : ∀ x ∈ p1, x.block < W.heap.size := by obtain ⟨m, hm⟩ := k1; exact DataW.trod_lt m _ _ _ hm
  obtain ⟨cs1, rfl, sz1, at1⟩ := agg_ints (ks := [.i64, .i64, .i64, .i64]) Try.underlying26 (by kernel_rfl) (by kernel_rfl) rfl (fun i f k hi hk => by
    match i, hi, hk with
    | 0, hi, hk => (obtain rfl := Option.some.inj hi; obtain rfl := Option.some.inj hk; exact Try.underlying3)
    | 1, hi, hk => (obtain rfl := Option.some.inj hi; obtain rfl := Option.some.inj hk; exact Try.underlying3)
    | 2, hi, hk => (obtain rfl := Option.some.inj hi; obtain rfl := Option.some.inj hk; exact Try.underlying3)
    | 3, hi, hk => (obtain rfl := Option.some.inj hi; obtain rfl := Option.some.inj hk; exact Try.underlying3)
    | j + 4, hi, hk => exact absurd hk (by simp)) (hval 1 26 v1 rfl rfl) h1
  obtain ⟨ob1, e10, w10⟩ := at1 0 .i64 rfl
  obtain ⟨ou1, e11, w11⟩ := at1 1 .i64 rfl
  obtain ⟨oR1, e12, w12⟩ := at1 2 .i64 rfl
  obtain ⟨om1, e13, w13⟩ := at1 3 .i64 rfl
  obtain rfl : cs1 = #[.int .i64 ob1, .int .i64 ou1, .int .i64 oR1, .int .i64 om1] := by
    refine Array.ext_getElem? fun j => ?_
    match j with
    | 0 => exact e10
    | 1 => exact e11
    | 2 => exact e12
    | 3 => exact e13
    | j + 4 => rw [Array.getElem?_eq_none (by rw [sz1]; exact Nat.le_add_left _ _), Array.getElem?_eq_none (by exact Nat.le_add_left _ _)]
  obtain ⟨a2, rfl, rfl, rfl, w2⟩ := open_int Try.underlying22 (hval 2 22 v2 rfl rfl) h2
  have hb2 : 0 ≤ a2 ∧ a2 ≤ 4294967295 := by simpa [Lit.wf, IntKind.min, IntKind.max, IntKind.signed, IntKind.bits] using w2
  obtain ⟨a3, len3, cap3, rfl⟩ := okWide_slice Try.underlying32 (hval 3 32 v3 rfl rfl)
  have k3 := h3
  have lt3 : ∀ x ∈ p3, x.block < W.heap.size := by obtain ⟨m, hm⟩ := k3; exact DataW.trod_lt m _ _ _ hm
  obtain ⟨z3, w3⟩ : ∃ zs, IsRow .u8 W a3 len3 cap3 zs := by
    obtain ⟨fuel, hf⟩ := h3
    rcases open_ints Try.underlying32 Try.underlying5 (by kernel_rfl) hf with ⟨hcs, _⟩ | ⟨x, l, c, zs, hcs, _, hl, hm, hz, _, hcell, hwz⟩
    · simp [Value.cells] at hcs
      obtain ⟨rfl, rfl, rfl⟩ := hcs
      exact ⟨[], .inl ⟨rfl, rfl, rfl, rfl⟩⟩
    · simp [Value.cells] at hcs
      obtain ⟨rfl, rfl, rfl⟩ := hcs
      exact ⟨zs, .inr ⟨_, rfl, hl, hm, by simpa using hz, hcell, hwz⟩⟩
  obtain ⟨l3, hl3, hlc3, hc3, hr3⟩ := rd_of_row w3
  clear hA0 hval0
  refine (blockBack_law mo0 ra0 mi0 co0 su0 fr0 pl0 ob1 ou1 oR1 om1 a2 a3 len3 cap3 l3 W hsu0 hbb0 hb2 hr3 hl3 hlc3).mono fun e W' ⟨he, bel⟩ => ?_
  subst he
  exact ⟨_, rfl, _, _, _, [], _, [], hW', (trodAll_mk1 (shut_bool Try.underlying4 _)), (trodAll_cons_mk (Below.trod laidOut (by kernel_rfl) (of_decide_eq_true (by kernel_rfl)) k0 bel lt0) (trodAll_cons_mk (Below.trod laidOut (by kernel_rfl) (of_decide_eq_true (by kernel_rfl)) k1 bel lt1) (trodAll_cons_mk (shut_int Try.underlying22 w2) (trodAll_cons_mk (Below.trod laidOut (by kernel_rfl) (of_decide_eq_true (by kernel_rfl)) k3 bel lt3) trodAll_mk0)))), rfl, bel.frame _, fun h => by cases h⟩

theorem over : Rows.blockBackRow.holds Try.pinned (OpenSpec.ofChange Rows.blockBackSpec) :=
  OpenClaim.holds_of_wide 6 Try.f6 rfl rfl rfl rfl rfl rfl rfl ⟨rfl, rfl, rfl, rfl, rfl⟩ rfl rfl rfl rfl rfl (by kernel_rfl) Try.func6 (by kernel_rfl)
    (of_decide_eq_true (by kernel_rfl)) (by unfold Func.isWrapper; first | (rw [if_pos (by decide +kernel)]; kernel_rfl) | (rw [if_neg (by decide +kernel)]; exact ⟨rfl, rfl⟩))
    (fun os started H enc _ => lifted os started H enc)

theorem proved : Rows.BlockBackSaid := over
end Go.Proofs.Ytcjjlkfenlmmlaa.blockBack
