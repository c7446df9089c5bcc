/- Layer 28: what comes of fixed calls; OptsReads. -/
import Derived.Test.YtnfkekaeppgaoaaDoorOptRfR
namespace Go.Proofs.YtnfkekaeppgaoaaDoor
open Go.RowKit Go.Sort

theorem pairsR_len : ∀ (P : List (List UInt8)) (st st' : List Int × List Bool), pairsR P st = some st' → st'.1.length = st.1.length
  | [], st, st', h => by
    unfold pairsR at h
    rw [Option.some.inj h]
  | x :: t, st, st', h => by
    unfold pairsR at h
    cases hp : pairR st x with
    | none => rw [hp] at h; cases h
    | some s2 =>
      rw [hp] at h
      rw [pairsR_len t s2 st' h]
      exact (pairR_len (o := st.1) (s := st.2) (o' := s2.1) (s' := s2.2) hp).1
theorem readR_len (l : List UInt8) : (readR l).1.length = 4 := by
  unfold readR
  split
  · rfl
  · split
    · rfl
    · rename_i st h
      split
      · exact pairsR_len _ _ _ h
      · rfl
/-- "width=4 mode=rans", "width=04". -/
def txt1 : List UInt8 := [119, 105, 100, 116, 104, 61, 52, 32, 109, 111, 100, 101, 61, 114, 97, 110, 115]
def txt2 : List UInt8 := [119, 105, 100, 116, 104, 61, 48, 52]
theorem read_txt1 : readR txt1 = ([65536, 4, 0, 2], 0) := by decide
theorem read_txt2 : readR txt2 = ([0, 0, 0, 0], 30) := by decide
set_option maxRecDepth 100000 in
set_option maxHeartbeats 2000000 in
theorem known28_any (W : World) : Calls Tryd.prog 11 #[] W fun e w' => e = .returned (.bool true) ∧ Below W.heap.size W w' := by
  have C1 := Lib.hid (fun w => optRead_any (l := txt1) (by decide) w)
  have C2 := Lib.hid (fun w => optRead_any (l := txt2) (by decide) w)
  have C3 := Lib.hid (optCheck_any 0 0 0 0)
  rw [read_txt1, show strA txt1 = ⟨#[119, 105, 100, 116, 104, 61, 52, 32, 109, 111, 100, 101, 61, 114, 97, 110, 115]⟩ from rfl, show optA ([65536, 4, 0, 2], 0).1 = .agg #[.int .i64 65536, .int .i64 4, .int .i64 0, .int .i64 2] from rfl] at C1
  rw [read_txt2, show strA txt2 = ⟨#[119, 105, 100, 116, 104, 61, 48, 52]⟩ from rfl, show optA ([0, 0, 0, 0], 30).1 = .agg #[.int .i64 0, .int .i64 0, .int .i64 0, .int .i64 0] from rfl] at C2
  rw [show chkE 0 0 0 0 = 10 from by decide] at C3
  unfold optV at C3
  go_enter Tryd.func11, Tryd.ntmps11
  go_wp2_with fail
  refine (C1.out _).mono ?_
  rintro e w1 ⟨rfl, hb1⟩
  have HB1 := Lib.hid hb1
  clear hb1
  go_wp2_with fail
  have hG := heap_alloc_new w1 (.cells #[.int .i64 65536, .int .i64 4, .int .i64 0, .int .i64 2] 23)
  obtain ⟨w2, hw2⟩ : ∃ w2, w2 = w1.alloc (.cells #[.int .i64 65536, .int .i64 4, .int .i64 0, .int .i64 2] 23) := ⟨_, rfl⟩
  have HB2 := Lib.hid (HB1.out.alloc HB1.out.size (.cells #[.int .i64 65536, .int .i64 4, .int .i64 0, .int .i64 2] 23))
  rw [← hw2] at hG HB2 ⊢
  have HG := Lib.hid (show Blk w2 w1.heap.size 23 [.int .i64 65536, .int .i64 4, .int .i64 0, .int .i64 2] from hG)
  clear hG hw2
  refine (C2.out _).mono ?_
  rintro e w3 ⟨rfl, hb3⟩
  have HG3 := Lib.hid (HG.out.grow hb3)
  have HB3 := Lib.hid (HB2.out.trans (hb3.mono HB2.out.size))
  have q0 := HG3.out.cell 0
  have q1 := HG3.out.cell 1
  have q2 := HG3.out.cell 2
  have q3 := HG3.out.cell 3
  have hlt := HG3.out.lt
  simp only [List.getElem?_cons_zero, List.getElem?_cons_succ] at q0 q1 q2 q3
  clear hb3
  go_wp2_with fail
  refine (C3.out _).mono ?_
  rintro e w4 ⟨rfl, hb4⟩
  have HB4 := Lib.hid ((HB3.out.alloc HB3.out.size (.cells #[.int .i64 0, .int .i64 0, .int .i64 0, .int .i64 0] 23)).trans (hb4.mono (by have := HB3.out.size; simp; omega)))
  clear hb4
  go_wp2
  go_ret
  exact ⟨rfl, HB4.out⟩
end Go.Proofs.YtnfkekaeppgaoaaDoor
