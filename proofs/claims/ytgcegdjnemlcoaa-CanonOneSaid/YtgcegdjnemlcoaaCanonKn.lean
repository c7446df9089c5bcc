/- Layer 21: who has a code; the fixed calls. -/
import Derived.Test.YtgcegdjnemlcoaaCanonMak
namespace Go.Proofs.Ytgcegdjnemlcoaa
open Go.RowKit Go.Sort Go.Shelf

theorem ents_mem {l S : List Nat} (h : OrdL l S) {q : Pr × Nat} : q ∈ entsS l S ↔ ∃ i, i < l.length ∧ 0 < l.getD i 0 ∧ q = (codeP l i, i) := by
  unfold entsS
  rw [List.mem_map]
  constructor
  · rintro ⟨i, hi, rfl⟩
    have := h.mem.1 hi
    exact ⟨i, this.1, this.2, rfl⟩
  · rintro ⟨i, h1, h2, rfl⟩
    exact ⟨i, h.mem.2 ⟨h1, h2⟩, rfl⟩
/-- A code's letter is found. -/
theorem find_letter {l S : List Nat} (h : OrdL l S) {i : Nat} (hi : i < l.length) (h0 : 0 < l.getD i 0) {x y : Int} (hx : x = (codeL l i : Int)) (hy : y = (l.getD i 0 : Int)) : ∃ r, findC x y (entsS l S) 0 = some (r, .int .i64 (i : Int)) :=
  findC_some x y _ 0 (codeP l i, i) ((ents_mem h).2 ⟨i, hi, h0, rfl⟩) ⟨hx, hy⟩ fun q hq hqe => by
    obtain ⟨j, hj, hj0, rfl⟩ := (ents_mem h).1 hq
    obtain ⟨e1, e2⟩ := hqe
    have e1' : x = (codeL l j : Int) := e1
    have e2' : y = (l.getD j 0 : Int) := e2
    exact codeL_one l hj hi (Int.ofNat_inj.1 (e2'.symm.trans hy)) (Int.ofNat_inj.1 (e1'.symm.trans hx))
theorem find_none {l S : List Nat} (h : OrdL l S) {x y : Int} (hn : ∀ i, i < l.length → 0 < l.getD i 0 → ¬ (x = (codeL l i : Int) ∧ y = (l.getD i 0 : Int))) : findC x y (entsS l S) 0 = none :=
  findC_none x y _ 0 fun q hq => by
    obtain ⟨j, hj, hj0, rfl⟩ := (ents_mem h).1 hq
    exact hn j hj hj0
theorem pat_code {l S : List Nat} (h : OrdL l S) {i : Nat} (hi : i < l.length) : pat (codesS l S) i = if 0 < l.getD i 0 then codeP l i else (0, 0) := by
  rw [codesS_get l S hi]
  by_cases h0 : 0 < l.getD i 0
  · rw [if_pos h0, if_pos (h.mem.2 ⟨hi, h0⟩)]
  · rw [if_neg h0, if_neg (fun hm => h0 (h.mem.1 hm).2)]
set_option maxRecDepth 100000 in
set_option maxHeartbeats 2000000 in
theorem canonKnown_any (w : World) : Calls Try.prog 14 #[] w (Yes w) := by
  have C1 := Lib.hid (canonMake_ok (w := w.alloc (.cells #[.int .i64 1, .int .i64 0, .int .i64 2, .int .i64 2] 3)) (m := 4) (n := 4) (l := [1, 0, 2, 2]) (Rd.new _ _ _) rfl (by decide) (by decide) (.inl (by decide)))
  have HB0 := Lib.hid (show Below w.heap.size w (w.alloc (.cells #[.int .i64 1, .int .i64 0, .int .i64 2, .int .i64 2] 3)) from (Below.refl _ _).alloc (Nat.le_refl _) _)
  go_enter Try.func14, Try.ntmps14
  go_wp2_with fail
  refine C1.out.mono ?_
  rintro e w1 ⟨E, g, M, S, rfl, ho, hca, hb1⟩
  have HB1 := Lib.hid (HB0.out.trans (hb1.mono HB0.out.size))
  have C2 := codesOf_in hca 3 (by decide)
  rw [pat_code ho (i := 3) (by decide), if_pos (by decide), show codeP (natL [1, 0, 2, 2]) 3 = (3, 2) by decide] at C2
  have hca1 : ∀ q, CAt (w1.drewN q) E g M 4 (codesS (natL [1, 0, 2, 2]) S) (entsS (natL [1, 0, 2, 2]) S) := fun q => hca.same rfl
  obtain ⟨r, hr⟩ := find_letter ho (i := 2) (x := 2) (y := 2) (by decide) (by decide) (by decide) (by decide)
  have C3 := fun q => codesLetter (hca1 q) 2 2
  rw [hr] at C3
  have C2 := Lib.hid C2
  have C3 := Lib.hid C3
  clear hb1 C1 hca hca1 hr HB0 ho
  go_wp2_with fail
  refine C2.out.mono ?_
  rintro e w2 ⟨rfl, q, rfl⟩
  go_wp2_with fail
  refine (C3.out q).mono ?_
  rintro e w3 ⟨rfl, hw⟩
  subst hw
  unfold letV
  have C4 := Lib.hid (canonMake_range (w := (w1.drewN q).alloc (.cells #[.int .i64 1, .int .i64 2] 3)) (m := 2) (n := 2) (l := [1, 2]) (Rd.new _ _ _) rfl (by decide) (by decide) (fun h => by rcases h with h | h <;> exact absurd h (by decide)))
  have HB2 := Lib.hid (HB1.out.trans ((below_drewN (Below.refl w1.heap.size w1) q).mono HB1.out.size))
  have HB3 := Lib.hid (HB2.out.trans (show Below w.heap.size (w1.drewN q) ((w1.drewN q).alloc (.cells #[.int .i64 1, .int .i64 2] 3)) from (Below.refl _ _).alloc HB2.out.size _))
  clear C2 C3 HB1 HB2
  go_wp2_with fail
  refine C4.out.mono ?_
  rintro e w4 ⟨rfl, hw⟩
  subst hw
  go_wp2
  go_ret
  exact ⟨rfl, HB3.out⟩
end Go.Proofs.Ytgcegdjnemlcoaa
