/- Contracts of layer 15: Make, Of, Letter, Bits. -/
import Derived.Test.YtfdgnhfppginiaaSlotMake
namespace Go.Proofs.Ytfdgnhfppginiaa
open Go.RowKit Go.Sort Go.Shelf

/-- At P lie numbers that are shared out. -/
def IsSlots (w : World) (P : Nat) (c : List Int) (b T : Nat) : Prop :=
  (∃ F H, Shares w P F H c c.length b T) ∧ (∀ x ∈ c, 0 ≤ x) ∧ c.sum = (T : Int) ∧ T ≤ 65536 ∧ c.length ≤ 4096
theorem IsSlots.grow {w w' : World} {P b T : Nat} {c : List Int} (h : IsSlots w P c b T) (hb : Below w.heap.size w w') : IsSlots w' P c b T := by
  obtain ⟨⟨F, H, h1⟩, h2⟩ := h
  exact ⟨⟨F, H, h1.grow hb⟩, h2⟩
theorem info_short : (Try.prog.info? 30).map (fun i => (i.zero, i.size, i.bytes)) = some (some (.int .u16 0), 1, 2) := by kernel_rfl
/-- A new row of n short noughts. -/
def NewShort (B n : Nat) (v : Value) (w : World) : Prop := ∃ g, v = .slice (some ⟨g, 0, none⟩) n n ∧ B ≤ g ∧ Blk w g 30 (hvs (List.replicate n 0))
theorem NewShort.grow (B n : Nat) (v : Value) (w w' : World) (h : NewShort B n v w) (hb : Below w.heap.size w w') : NewShort B n v w' := by
  obtain ⟨g, h1, h2, h3⟩ := h
  exact ⟨g, h1, h2, h3.grow hb⟩
/-- The parts, not yet in memory; and there. -/
def NewParts (B n T : Nat) (b : Int) (v : Value) (w : World) : Prop := ∃ x y, v = .agg #[x, y, .int .i64 b] ∧ NewRow B n x w ∧ NewShort B T y w
theorem NewParts.grow (B n T : Nat) (b : Int) (v : Value) (w w' : World) (h : NewParts B n T b v w) (hb : Below w.heap.size w w') : NewParts B n T b v w' := by
  obtain ⟨x, y, h1, h2, h3⟩ := h
  exact ⟨x, y, h1, NewRow.grow _ _ _ _ _ h2 hb, NewShort.grow _ _ _ _ _ h3 hb⟩
def NewSlots (B n T : Nat) (b : Int) (v : Value) (w : World) : Prop := ∃ p x y, v = .pointer (some ⟨p, 0, none⟩) ∧ B ≤ p ∧ Blk w p 103 [x, y, .int .i64 b] ∧ NewRow B n x w ∧ NewShort B T y w
theorem NewSlots.grow (B n T : Nat) (b : Int) (v : Value) (w w' : World) (h : NewSlots B n T b v w) (hb : Below w.heap.size w w') : NewSlots B n T b v w' := by
  obtain ⟨p, x, y, h1, h2, h3, h4, h5⟩ := h
  exact ⟨p, x, y, h1, h2, h3.grow hb, NewRow.grow _ _ _ _ _ h4 hb, NewShort.grow _ _ _ _ _ h5 hb⟩
section
variable {w : World} {B : Nat} {A : Option Addr} {n m : Nat} {c : List Int}
/-- What Make tells of none. -/
def NoSlots (err : Int) : Ending := .returned (.tuple #[.pointer none, .int .i64 err])
set_option maxRecDepth 100000 in
theorem slotMake_bits (bits : Int) (h : bits < 1 ∨ 16 < bits) : Calls Try.prog 22 #[.slice A n m, .int .i64 bits] w fun e w' => e = NoSlots 2 ∧ w' = w := by
  by_cases h1 : bits < 1
  · clear h
    go_enter Try.func22, Try.ntmps22
    go_wp2
    go_ret2
    exact ⟨rfl, rfl⟩
  · have h2 : 16 < bits := by omega
    clear h
    go_enter Try.func22, Try.ntmps22
    go_wp2
    go_ret2
    exact ⟨rfl, rfl⟩
set_option maxRecDepth 100000 in
theorem slotMake_err (b T : Nat) (hb1 : 1 ≤ b) (hb2 : b ≤ 16) (hT : T = 2 ^ b) (hr : Rd w B A (zvs c)) (hn : c.length = n) (hn1 : n ≤ 4096) (err : Int) (herr : SErr c T err) (h0 : err ≠ 0) :
    Calls Try.prog 22 #[.slice A n m, .int .i64 (b : Int)] w fun e w' => e = NoSlots err ∧ w' = w := by
  have c1 := slotBad_any (m := m) hr hn hn1
  have hT1 : T ≤ 65536 := by rw [hT]; exact Nat.pow_le_pow_right (n := 2) (by decide) hb2
  have hpow : (2 : Int) ^ b = (T : Int) := by rw [hT]; simp
  rcases herr with ⟨h1, rfl⟩ | ⟨h1, ⟨h2, rfl⟩ | ⟨-, h⟩⟩
  · rw [h1] at c1
    have C1 := Lib.hid c1
    clear hr hn c1 h1 h0
    go_enter Try.func22, Try.ntmps22
    go_wp2_with fail
    refine C1.out.mono ?_
    rintro e w' ⟨rfl, hw⟩
    obtain rfl : _ = w' := hw.symm
    go_wp2
    go_ret2
    exact ⟨rfl, rfl⟩
  · rw [h1] at c1
    have C1 := Lib.hid c1
    have C2 := Lib.hid (slotFill_any (m := m) T hT1 hr hn hn1 (sBad_not h1) false (Iff.intro (fun h => by cases h) (fun h => absurd h h2)))
    clear hr hn c1 h1 h0 h2 hT
    go_enter Try.func22, Try.ntmps22
    go_wp2_with fail
    refine C1.out.mono ?_
    rintro e w' ⟨rfl, hw⟩
    obtain rfl : _ = w' := hw.symm
    go_wp2_with fail
    refine C2.out.mono ?_
    rintro e w' ⟨rfl, hw⟩
    obtain rfl : _ = w' := hw.symm
    go_wp2
    go_ret2
    exact ⟨rfl, rfl⟩
  · exact absurd h h0
set_option maxRecDepth 100000 in
set_option maxHeartbeats 2000000 in
theorem slotMake_ok (b T : Nat) (hb1 : 1 ≤ b) (hb2 : b ≤ 16) (hT : T = 2 ^ b) (hr : Rd w w.heap.size A (zvs c)) (hn : c.length = n) (hn1 : n ≤ 4096) (hbad : c.any sBad = false) (hs : c.sum = (T : Int)) :
    Calls Try.prog 22 #[.slice A n m, .int .i64 (b : Int)] w fun e w' => ∃ P, e = .returned (.tuple #[.pointer (some ⟨P, 0, none⟩), .int .i64 0]) ∧ IsSlots w' P c b T ∧ Below w.heap.size w w' := by
  obtain ⟨i0, hi, hz0, hz1, hz2⟩ := info_parts info_int12
  obtain ⟨i1, hj, hy0, hy1, hy2⟩ := info_parts info_short
  have c1 := slotBad_any (m := m) hr hn hn1
  rw [hbad] at c1
  have hT1 : T ≤ 65536 := by rw [hT]; exact Nat.pow_le_pow_right (n := 2) (by decide) hb2
  have hpow : (2 : Int) ^ b = (T : Int) := by rw [hT]; simp
  have C1 := Lib.hid c1
  have C2 := Lib.hid (slotFill_any (m := m) T hT1 hr hn hn1 (sBad_not hbad) true (Iff.intro (fun _ => hs) (fun _ => rfl)))
  have HR := Lib.hid hr
  have HC := Lib.hid hn
  have HN := Lib.hid (sBad_not hbad)
  have HS := Lib.hid hs
  clear hr hn c1 hbad hs hT
  go_enter Try.func22, Try.ntmps22
  go_wp2_with fail
  refine C1.out.mono ?_
  rintro e w' ⟨rfl, hw⟩
  obtain rfl : _ = w' := hw.symm
  go_wp2_with fail
  refine C2.out.mono ?_
  rintro e w' ⟨rfl, hw⟩
  obtain rfl : _ = w' := hw.symm
  clear C1 C2 hpow
  go_wp2
  refine wp_region_grow [⟨31, [], .is (.slice A n m)⟩,
    ⟨32, [0], .is (.int .i64 (n : Int))⟩,
    ⟨33, [1], .is (.int .i64 ((n + 1 : Nat) : Int))⟩,
    ⟨34, [2], .such (NewRow w.heap.size (n + 1)) (NewRow.grow w.heap.size (n + 1))⟩,
    ⟨35, [], .is (.int .i64 (T : Int))⟩,
    ⟨36, [4], .such (NewShort w.heap.size T) (NewShort.grow w.heap.size T)⟩,
    ⟨37, [], .is (.int .i64 (b : Int))⟩,
    ⟨38, [3, 5, 6], .such (NewParts w.heap.size (n + 1) T b) (NewParts.grow w.heap.size (n + 1) T b)⟩,
    ⟨39, [7], .such (NewSlots w.heap.size (n + 1) T b) (NewSlots.grow w.heap.size (n + 1) T b)⟩,
    ⟨7, [8], .such (NewSlots w.heap.size (n + 1) T b) (NewSlots.grow w.heap.size (n + 1) T b)⟩]
    [(0, .slice A n m), (6, .int .i64 (T : Int)), (1, .int .i64 (b : Int))] (by kernel_rfl) (by kernel_rfl) (by kernel_rfl) (by kernel_rfl) (by kernel_rfl) ⟨rfl, rfl, rfl, trivial⟩ ?_ ?_
  · repeat' (first | exact OblGAll.nil | refine OblGAll.cons ?_ ?_)
    all_goals (intro ev yi w1 hB hc hf ho hn; simp only [OutsSay, NeedSay, rowAt, Fact.says, and_true] at ho hn)
    all_goals (try ((simp [OpSays, execOp, Region.wanted, Fact.says, go_sem, ho, hn, hc, Below.refl]; done)))
    · rw [if_pos (by simp [Region.wanted])]
      simp [OpSays, execOp, go_sem, hn, hc, Fact.says]
      refine ⟨by rw [IntKind.wrap_i64]; omega, Below.refl _ _⟩
    · rw [if_pos (by simp [Region.wanted])]
      exact says_mk rfl 3 i0 (.int .i64 0) Try.underlying37 hi hz0 rfl hz1 (by rw [hz2]; decide) (n + 1) hn.1 hn.1 (by omega) ⟨⟨w1.heap.size, rfl, hB.size, by
        have h := heap_alloc_new w1 (.cells (List.replicate (n + 1) (Value.int .i64 0)).toArray 3)
        unfold Blk
        rw [h]
        simp [zvs]⟩, (Below.refl _ _).alloc (Nat.le_refl _) _⟩
    · rw [if_pos (by simp [Region.wanted])]
      exact says_mk rfl 30 i1 (.int .u16 0) Try.underlying101 hj hy0 rfl hy1 (by rw [hy2]; decide) T hn.1 hn.1 (by omega) ⟨⟨w1.heap.size, rfl, hB.size, by
        have h := heap_alloc_new w1 (.cells (List.replicate T (Value.int .u16 0)).toArray 30)
        unfold Blk
        rw [h]
        simp [hvs]⟩, (Below.refl _ _).alloc (Nat.le_refl _) _⟩
    · rw [if_pos (by simp [Region.wanted])]
      obtain ⟨h1, -, h2, -, h3, -⟩ := hn
      obtain ⟨g1, e1, r1⟩ := h1
      obtain ⟨g2, e2, r2⟩ := h2
      simp [OpSays, execOp, go_sem, e1, e2, h3, Fact.says]
      exact ⟨⟨_, _, rfl, ⟨g1, rfl, r1⟩, ⟨g2, rfl, r2⟩⟩, Below.refl _ _⟩
    · rw [if_pos (by simp [Region.wanted])]
      obtain ⟨x, y, e1, h2, h3⟩ := hn.1
      simp [OpSays, execOp, go_sem, e1, Fact.says]
      have hb := (Below.refl w1.heap.size w1).alloc (Nat.le_refl _) (.cells #[x, y, Value.int IntKind.i64 (b : Int)] 103)
      exact ⟨⟨_, x, y, rfl, hB.size, heap_alloc_new w1 _, NewRow.grow _ _ _ _ _ h2 hb, NewShort.grow _ _ _ _ _ h3 hb⟩, hb⟩
  · intro x w1 hb1 hx
    obtain ⟨P, x1, x2, h7, hP, hpb, ⟨F, rfl, hF, hfb⟩, ⟨H, rfl, hH, hhb⟩⟩ : NewSlots w.heap.size (n + 1) T b (x 9) w1 := hx 9 (by decide)
    clear hx
    simp only [layAll, List.setIfInBounds_toArray, List.set_cons_succ, List.set_cons_zero, Nat.zero_add, Nat.reduceAdd, h7]
    have hsh : Shares w1 P F H c 0 b T := ⟨by rw [HC.out]; exact hpb, by rw [fRow2_zero, HC.out]; exact hfb, by rw [hRow_zero]; exact hhb⟩
    have HSH := Lib.hid hsh
    have HB1 := Lib.hid hb1
    have HFH := Lib.hid (And.intro hF hH)
    clear hsh hb1 hpb hF hfb hH hhb h7 hP hi hz0 hz1 hz2 hj hy0 hy1 hy2
    go_wp2
    go_loopw [42] (fun i wr => ∃ k : Nat, k ≤ n ∧ i = .int .i64 (k : Int) ∧ Shares wr P F H c k b T ∧ Below w.heap.size w wr) (fun i _ => n - (intOf i).toNat)
    case atStart => exact ⟨0, Nat.zero_le _, rfl, HSH.out, HB1.out⟩
    case round =>
      clear HSH HB1
      obtain ⟨k, hk, rfl, hsh, hb⟩ := hrel
      have HSH := Lib.hid hsh
      have HB := Lib.hid hb
      clear hsh hb
      by_cases hlt : k < n
      · have hkc : k < c.length := by have := HC.out; omega
        obtain ⟨ab, ao, rfl, hab, hcell0⟩ := cell_of_rd HR.out hkc
        have hcell := (HB.out.cell (p := ⟨ab, ao + k, none⟩) hab).trans hcell0
        have C := Lib.hid (slotGive_any k HSH.out HN.out HS.out hT1 (by rw [HC.out]; exact hn1) hkc)
        obtain ⟨x0, hx0⟩ : ∃ x0, x0 = c[k]'hkc := ⟨_, rfl⟩
        rw [← hx0] at hcell C
        have hki : (k : Int) < (n : Int) := by omega
        clear hcell0 hx0 hab
        go_wp2_with fail
        refine C.out.mono ?_
        rintro e w3 ⟨⟨u, rfl⟩, hs3, hu3⟩
        have HS3 := Lib.hid hs3
        have HB3 := Lib.hid (HB.out.trans (hu3.below HFH.out.1 HFH.out.2 HB.out.size))
        clear hs3 hu3 hcell
        go_wp2
        go_roundw
        case rel => exact ⟨k + 1, by omega, by go_num, HS3.out, HB3.out⟩
        case measure => simp [intOf]; omega
      · obtain rfl : k = n := by omega
        have hfin : IsSlots wr P c b T := ⟨⟨F, H, by rw [HC.out]; exact HSH.out⟩, HN.out, HS.out, hT1, by rw [HC.out]; exact hn1⟩
        have HFIN := Lib.hid hfin
        clear hfin
        go_wp2
        go_ret2
        exact ⟨P, rfl, HFIN.out, HB.out⟩
end
end Go.Proofs.Ytfdgnhfppginiaa
