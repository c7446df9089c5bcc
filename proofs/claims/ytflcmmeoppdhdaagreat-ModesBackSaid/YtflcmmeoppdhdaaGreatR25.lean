/-
  Contracts of layer 15: Make, Of, Letter, Bits. · Contracts of layer 15: Of, Letter, Bits; the fixed calls. · Layer 18: the program's Code. · Layer 18: what Decode tells, as plain functions: bytes that come in, letters that come out.
-/
import Derived.Test.YtflcmmeoppdhdaaGreatR03
import Derived.Test.YtflcmmeoppdhdaaGreatR19
import Derived.Test.YtflcmmeoppdhdaaGreatR22
import Derived.Test.YtflcmmeoppdhdaaGreatR23
import Derived.Test.YtflcmmeoppdhdaaGreatR24
namespace Go.Proofs.YtflcmmeoppdhdaaGreat
open Go.RowKit Go.Sort Go.Shelf

/-- At P lie numbers that are shared out. -/
def IsSlots (w : World) (P : Nat) (c : List Int) (b T : Nat) : Prop :=
  (∃ F H, Shares w P F H c c.length b T) ∧ (∀ x ∈ c, 0 ≤ x) ∧ c.sum = (T : Int) ∧ T ≤ 65536 ∧ c.length ≤ 4096
theorem IsSlots.grow {w w' : World} {P b T : Nat} {c : List Int} (h : IsSlots w P c b T) (hb : Below w.heap.size w w') : IsSlots w' P c b T := by
  obtain ⟨⟨F, H, h1⟩, h2⟩ := h
  exact ⟨⟨F, H, h1.grow hb⟩, h2⟩
theorem info_short : (Tryz.prog.info? 231).map (fun i => (i.zero, i.size, i.bytes)) = some (some (.int .u16 0), 1, 2) := by kernel_rfl
/-- A new row of n short noughts. -/
def NewShort (B n : Nat) (v : Value) (w : World) : Prop := ∃ g, v = .slice (some ⟨g, 0, none⟩) n n ∧ B ≤ g ∧ Blk w g 231 (hvs (List.replicate n 0))
theorem NewShort.grow (B n : Nat) (v : Value) (w w' : World) (h : NewShort B n v w) (hb : Below w.heap.size w w') : NewShort B n v w' := by
  obtain ⟨g, h1, h2, h3⟩ := h
  exact ⟨g, h1, h2, h3.grow hb⟩
/-- The parts, not yet in memory; and there. -/
def NewParts (B n T : Nat) (b : Int) (v : Value) (w : World) : Prop := ∃ x y, v = .agg #[x, y, .int .i64 b] ∧ NewRow B n x w ∧ NewShort B T y w
theorem NewParts.grow (B n T : Nat) (b : Int) (v : Value) (w w' : World) (h : NewParts B n T b v w) (hb : Below w.heap.size w w') : NewParts B n T b v w' := by
  obtain ⟨x, y, h1, h2, h3⟩ := h
  exact ⟨x, y, h1, NewRow.grow _ _ _ _ _ h2 hb, NewShort.grow _ _ _ _ _ h3 hb⟩
def NewSlots (B n T : Nat) (b : Int) (v : Value) (w : World) : Prop := ∃ p x y, v = .pointer (some ⟨p, 0, none⟩) ∧ B ≤ p ∧ Blk w p 179 [x, y, .int .i64 b] ∧ NewRow B n x w ∧ NewShort B T y w
theorem NewSlots.grow (B n T : Nat) (b : Int) (v : Value) (w w' : World) (h : NewSlots B n T b v w) (hb : Below w.heap.size w w') : NewSlots B n T b v w' := by
  obtain ⟨p, x, y, h1, h2, h3, h4, h5⟩ := h
  exact ⟨p, x, y, h1, h2, h3.grow hb, NewRow.grow _ _ _ _ _ h4 hb, NewShort.grow _ _ _ _ _ h5 hb⟩
section
variable {w : World} {B : Nat} {A : Option Addr} {n m : Nat} {c : List Int}
/-- What Make tells of none. -/
def NoSlots (err : Int) : Ending := .returned (.tuple #[.pointer none, .int .i64 err])
set_option maxRecDepth 100000 in
theorem slotMake_bits (bits : Int) (h : bits < 1 ∨ 16 < bits) : Calls Tryz.prog 79 #[.slice A n m, .int .i64 bits] w fun e w' => e = NoSlots 2 ∧ w' = w := by
  by_cases h1 : bits < 1
  · clear h
    go_enter Tryz.func79, Tryz.ntmps79
    go_wp2
    go_ret2
    exact ⟨rfl, rfl⟩
  · have h2 : 16 < bits := by omega
    clear h
    go_enter Tryz.func79, Tryz.ntmps79
    go_wp2
    go_ret2
    exact ⟨rfl, rfl⟩
set_option maxRecDepth 100000 in
theorem slotMake_err (b T : Nat) (hb1 : 1 ≤ b) (hb2 : b ≤ 16) (hT : T = 2 ^ b) (hr : Rd w B A (zvs c)) (hn : c.length = n) (hn1 : n ≤ 4096) (err : Int) (herr : SErr c T err) (h0 : err ≠ 0) :
    Calls Tryz.prog 79 #[.slice A n m, .int .i64 (b : Int)] w fun e w' => e = NoSlots err ∧ w' = w := by
  have c1 := slotBad_any (m := m) hr hn hn1
  have hT1 : T ≤ 65536 := by rw [hT]; exact Nat.pow_le_pow_right (n := 2) (by decide) hb2
  have hpow : (2 : Int) ^ b = (T : Int) := by rw [hT]; simp
  rcases herr with ⟨h1, rfl⟩ | ⟨h1, ⟨h2, rfl⟩ | ⟨-, h⟩⟩
  · rw [h1] at c1
    have C1 := Lib.hid c1
    clear hr hn c1 h1 h0
    go_enter Tryz.func79, Tryz.ntmps79
    go_wp2_with fail
    refine C1.out.mono ?_
    rintro e w' ⟨rfl, hw⟩
    obtain rfl : _ = w' := hw.symm
    go_wp2
    go_ret2
    exact ⟨rfl, rfl⟩
  · rw [h1] at c1
    have C1 := Lib.hid c1
    have C2 := Lib.hid (slotFill_any (m := m) T hT1 hr hn hn1 (sBad_not h1) false (Iff.intro (fun h => by cases h) (fun h => absurd h h2)))
    clear hr hn c1 h1 h0 h2 hT
    go_enter Tryz.func79, Tryz.ntmps79
    go_wp2_with fail
    refine C1.out.mono ?_
    rintro e w' ⟨rfl, hw⟩
    obtain rfl : _ = w' := hw.symm
    go_wp2_with fail
    refine C2.out.mono ?_
    rintro e w' ⟨rfl, hw⟩
    obtain rfl : _ = w' := hw.symm
    go_wp2
    go_ret2
    exact ⟨rfl, rfl⟩
  · exact absurd h h0
set_option maxRecDepth 100000 in
set_option maxHeartbeats 2000000 in
theorem slotMake_ok (b T : Nat) (hb1 : 1 ≤ b) (hb2 : b ≤ 16) (hT : T = 2 ^ b) (hr : Rd w w.heap.size A (zvs c)) (hn : c.length = n) (hn1 : n ≤ 4096) (hbad : c.any sBad = false) (hs : c.sum = (T : Int)) :
    Calls Tryz.prog 79 #[.slice A n m, .int .i64 (b : Int)] w fun e w' => ∃ P, e = .returned (.tuple #[.pointer (some ⟨P, 0, none⟩), .int .i64 0]) ∧ IsSlots w' P c b T ∧ Below w.heap.size w w' := by
  obtain ⟨i0, hi, hz0, hz1, hz2⟩ := info_parts info_int12
  obtain ⟨i1, hj, hy0, hy1, hy2⟩ := info_parts info_short
  have c1 := slotBad_any (m := m) hr hn hn1
  rw [hbad] at c1
  have hT1 : T ≤ 65536 := by rw [hT]; exact Nat.pow_le_pow_right (n := 2) (by decide) hb2
  have hpow : (2 : Int) ^ b = (T : Int) := by rw [hT]; simp
  have C1 := Lib.hid c1
  have C2 := Lib.hid (slotFill_any (m := m) T hT1 hr hn hn1 (sBad_not hbad) true (Iff.intro (fun _ => hs) (fun _ => rfl)))
  have HR := Lib.hid hr
  have HC := Lib.hid hn
  have HN := Lib.hid (sBad_not hbad)
  have HS := Lib.hid hs
  clear hr hn c1 hbad hs hT
  go_enter Tryz.func79, Tryz.ntmps79
  go_wp2_with fail
  refine C1.out.mono ?_
  rintro e w' ⟨rfl, hw⟩
  obtain rfl : _ = w' := hw.symm
  go_wp2_with fail
  refine C2.out.mono ?_
  rintro e w' ⟨rfl, hw⟩
  obtain rfl : _ = w' := hw.symm
  clear C1 C2 hpow
  go_wp2
  refine wp_region_grow [⟨31, [], .is (.slice A n m)⟩,
    ⟨32, [0], .is (.int .i64 (n : Int))⟩,
    ⟨33, [1], .is (.int .i64 ((n + 1 : Nat) : Int))⟩,
    ⟨34, [2], .such (NewRow w.heap.size (n + 1)) (NewRow.grow w.heap.size (n + 1))⟩,
    ⟨35, [], .is (.int .i64 (T : Int))⟩,
    ⟨36, [4], .such (NewShort w.heap.size T) (NewShort.grow w.heap.size T)⟩,
    ⟨37, [], .is (.int .i64 (b : Int))⟩,
    ⟨38, [3, 5, 6], .such (NewParts w.heap.size (n + 1) T b) (NewParts.grow w.heap.size (n + 1) T b)⟩,
    ⟨39, [7], .such (NewSlots w.heap.size (n + 1) T b) (NewSlots.grow w.heap.size (n + 1) T b)⟩,
    ⟨7, [8], .such (NewSlots w.heap.size (n + 1) T b) (NewSlots.grow w.heap.size (n + 1) T b)⟩]
    [(0, .slice A n m), (6, .int .i64 (T : Int)), (1, .int .i64 (b : Int))] (by kernel_rfl) (by kernel_rfl) (by kernel_rfl) (by kernel_rfl) (by kernel_rfl) ⟨rfl, rfl, rfl, trivial⟩ ?_ ?_
  · repeat' (first | exact OblGAll.nil | refine OblGAll.cons ?_ ?_)
    all_goals (intro ev yi w1 hB hc hf ho hn; simp only [OutsSay, NeedSay, rowAt, Fact.says, and_true] at ho hn)
    all_goals (try ((simp [OpSays, execOp, Region.wanted, Fact.says, go_sem, ho, hn, hc, Below.refl]; done)))
    · rw [if_pos (by simp [Region.wanted])]
      simp [OpSays, execOp, go_sem, hn, hc, Fact.says]
      refine ⟨by rw [IntKind.wrap_i64]; omega, Below.refl _ _⟩
    · rw [if_pos (by simp [Region.wanted])]
      exact says_mk rfl 3 i0 (.int .i64 0) Tryz.underlying53 hi hz0 rfl hz1 (by rw [hz2]; decide) (n + 1) hn.1 hn.1 (by omega) ⟨⟨w1.heap.size, rfl, hB.size, by
        have h := heap_alloc_new w1 (.cells (List.replicate (n + 1) (Value.int .i64 0)).toArray 3)
        unfold Blk
        rw [h]
        simp [zvs]⟩, (Below.refl _ _).alloc (Nat.le_refl _) _⟩
    · rw [if_pos (by simp [Region.wanted])]
      exact says_mk rfl 231 i1 (.int .u16 0) Tryz.underlying177 hj hy0 rfl hy1 (by rw [hy2]; decide) T hn.1 hn.1 (by omega) ⟨⟨w1.heap.size, rfl, hB.size, by
        have h := heap_alloc_new w1 (.cells (List.replicate T (Value.int .u16 0)).toArray 231)
        unfold Blk
        rw [h]
        simp [hvs]⟩, (Below.refl _ _).alloc (Nat.le_refl _) _⟩
    · rw [if_pos (by simp [Region.wanted])]
      obtain ⟨h1, -, h2, -, h3, -⟩ := hn
      obtain ⟨g1, e1, r1⟩ := h1
      obtain ⟨g2, e2, r2⟩ := h2
      simp [OpSays, execOp, go_sem, e1, e2, h3, Fact.says]
      exact ⟨⟨_, _, rfl, ⟨g1, rfl, r1⟩, ⟨g2, rfl, r2⟩⟩, Below.refl _ _⟩
    · rw [if_pos (by simp [Region.wanted])]
      obtain ⟨x, y, e1, h2, h3⟩ := hn.1
      simp [OpSays, execOp, go_sem, e1, Fact.says]
      have hb := (Below.refl w1.heap.size w1).alloc (Nat.le_refl _) (.cells #[x, y, Value.int IntKind.i64 (b : Int)] 179)
      exact ⟨⟨_, x, y, rfl, hB.size, heap_alloc_new w1 _, NewRow.grow _ _ _ _ _ h2 hb, NewShort.grow _ _ _ _ _ h3 hb⟩, hb⟩
  · intro x w1 hb1 hx
    obtain ⟨P, x1, x2, h7, hP, hpb, ⟨F, rfl, hF, hfb⟩, ⟨H, rfl, hH, hhb⟩⟩ : NewSlots w.heap.size (n + 1) T b (x 9) w1 := hx 9 (by decide)
    clear hx
    simp only [layAll, List.setIfInBounds_toArray, List.set_cons_succ, List.set_cons_zero, Nat.zero_add, Nat.reduceAdd, h7]
    have hsh : Shares w1 P F H c 0 b T := ⟨by rw [HC.out]; exact hpb, by rw [fRow2_zero, HC.out]; exact hfb, by rw [hRow_zero]; exact hhb⟩
    have HSH := Lib.hid hsh
    have HB1 := Lib.hid hb1
    have HFH := Lib.hid (And.intro hF hH)
    clear hsh hb1 hpb hF hfb hH hhb h7 hP hi hz0 hz1 hz2 hj hy0 hy1 hy2
    go_wp2
    go_loopw [42] (fun i wr => ∃ k : Nat, k ≤ n ∧ i = .int .i64 (k : Int) ∧ Shares wr P F H c k b T ∧ Below w.heap.size w wr) (fun i _ => n - (intOf i).toNat)
    case atStart => exact ⟨0, Nat.zero_le _, rfl, HSH.out, HB1.out⟩
    case round =>
      clear HSH HB1
      obtain ⟨k, hk, rfl, hsh, hb⟩ := hrel
      have HSH := Lib.hid hsh
      have HB := Lib.hid hb
      clear hsh hb
      by_cases hlt : k < n
      · have hkc : k < c.length := by have := HC.out; omega
        obtain ⟨ab, ao, rfl, hab, hcell0⟩ := cell_of_rd HR.out hkc
        have hcell := (HB.out.cell (p := ⟨ab, ao + k, none⟩) hab).trans hcell0
        have C := Lib.hid (slotGive_any k HSH.out HN.out HS.out hT1 (by rw [HC.out]; exact hn1) hkc)
        obtain ⟨x0, hx0⟩ : ∃ x0, x0 = c[k]'hkc := ⟨_, rfl⟩
        rw [← hx0] at hcell C
        have hki : (k : Int) < (n : Int) := by omega
        clear hcell0 hx0 hab
        go_wp2_with fail
        refine C.out.mono ?_
        rintro e w3 ⟨⟨u, rfl⟩, hs3, hu3⟩
        have HS3 := Lib.hid hs3
        have HB3 := Lib.hid (HB.out.trans (hu3.below HFH.out.1 HFH.out.2 HB.out.size))
        clear hs3 hu3 hcell
        go_wp2
        go_roundw
        case rel => exact ⟨k + 1, by omega, by go_num, HS3.out, HB3.out⟩
        case measure => simp [intOf]; omega
      · obtain rfl : k = n := by omega
        have hfin : IsSlots wr P c b T := ⟨⟨F, H, by rw [HC.out]; exact HSH.out⟩, HN.out, HS.out, hT1, by rw [HC.out]; exact hn1⟩
        have HFIN := Lib.hid hfin
        clear hfin
        go_wp2
        go_ret2
        exact ⟨P, rfl, HFIN.out, HB.out⟩
end
end Go.Proofs.YtflcmmeoppdhdaaGreat
namespace Go.Proofs.YtflcmmeoppdhdaaGreat
open Go.RowKit Go.Sort Go.Shelf

section
variable {w : World} {P b T : Nat} {c : List Int}
set_option maxRecDepth 100000 in
theorem slotOf_none (i : Int) (h : IsSlots w P c b T) (hi : ¬ (0 ≤ i ∧ i < (c.length : Int))) : Calls Tryz.prog 82 #[.pointer (some ⟨P, 0, none⟩), .int .i64 i] w fun e w' => e = .returned (.tuple #[.int .i64 0, .int .i64 0]) ∧ w' = w := by
  obtain ⟨⟨F, H, hp, -, -⟩, -, -, -, hl⟩ := h
  have c0 := hp.cell 0
  simp only [List.getElem?_cons_zero] at c0
  obtain ⟨n, hn⟩ : ∃ n, n = c.length := ⟨_, rfl⟩
  rw [← hn] at c0 hl hi
  clear hp hn
  by_cases h1 : i < 0
  · clear hi
    go_enter Tryz.func82, Tryz.ntmps82
    go_wp2
    go_ret2
    exact ⟨rfl, rfl⟩
  · have h2 : (n : Int) ≤ i := by omega
    clear hi
    go_enter Tryz.func82, Tryz.ntmps82
    go_wp2
    go_ret2
    exact ⟨rfl, rfl⟩
set_option maxRecDepth 100000 in
set_option maxHeartbeats 1000000 in
theorem slotOf_at (k : Nat) (h : IsSlots w P c b T) (hk : k < c.length) : Calls Tryz.prog 82 #[.pointer (some ⟨P, 0, none⟩), .int .i64 (k : Int)] w fun e w' => e = .returned (.tuple #[.int .i64 (fPre c k), .int .i64 (c[k]'hk)]) ∧ Below w.heap.size w w' := by
  obtain ⟨⟨F, H, hp, hf, -⟩, hc, hs, hT, hl⟩ := h
  have c0 := hp.cell 0
  simp only [List.getElem?_cons_zero] at c0
  have f0 := hf.cell k
  have f1 := hf.cell (k + 1)
  rw [zvs_get, fRow2_get c _ k (by omega), if_pos (by omega)] at f0
  rw [zvs_get, fRow2_get c _ (k + 1) (by omega), if_pos (by omega)] at f1
  simp only [Option.map_some] at f0 f1
  have hsn := fPre_succ c k hk
  have g0 := fPre_nn hc k
  have g1 := fPre_le hc (k + 1)
  have g2 := hc _ (List.getElem_mem hk)
  rw [hs] at g1
  obtain ⟨x, hx⟩ : ∃ x, x = c[k]'hk := ⟨_, rfl⟩
  obtain ⟨p, hp1⟩ : ∃ p, p = fPre c k := ⟨_, rfl⟩
  obtain ⟨q, hq1⟩ : ∃ q, q = fPre c (k + 1) := ⟨_, rfl⟩
  rw [← hx] at hsn g2 ⊢
  rw [← hp1] at hsn g0 f0 ⊢
  rw [← hq1] at hsn g1 f1
  obtain ⟨n, hn⟩ : ∃ n, n = c.length := ⟨_, rfl⟩
  rw [← hn] at c0 hl hk
  have hki : (k : Int) < (n : Int) := by omega
  have hki3 : (k : Int) < (n : Int) + 1 := by omega
  have hki2 : (k : Int) + 1 < (n : Int) + 1 := by omega
  have hq2 : q ≤ 65536 := by omega
  have hqp : q - p = x := by omega
  have HQP := Lib.hid hqp
  have hp2 : p ≤ q := by omega
  have hw1 : IntKind.i64.wrap ((k : Int) + 1) = (k : Int) + 1 := by rw [IntKind.wrap_i64]; omega
  have hw2 : IntKind.i64.wrap (q - p) = q - p := by rw [IntKind.wrap_i64]; omega
  have htn : ((k : Int) + 1).toNat = k + 1 := by omega
  have hk0 : (0 : Int) ≤ (k : Int) + 1 := by omega
  clear hp hf hx hp1 hq1 hn hc hs hsn g1 hqp hk
  go_enter Tryz.func82, Tryz.ntmps82
  go_wp2
  refine wp_region_still_lit (by kernel_rfl) (by kernel_rfl) ?_
  repeat still_step
  refine wpStill_nil ?_
  change Exit.then _ _ _ _ w.drew
  go_wp2
  go_ret2
  exact ⟨by rw [HQP.out]; rfl, (Below.refl _ _).drew⟩
set_option maxRecDepth 100000 in
theorem slotLetter_any (v : Int) (h : IsSlots w P c b T) : Calls Tryz.prog 174 #[.pointer (some ⟨P, 0, none⟩), .int .i64 v] w fun e w' => e = .returned (findV (fFind c v)) ∧ w' = w := by
  obtain ⟨⟨F, H, hp, -, hh⟩, hc, hs, hT, hl⟩ := h
  have c1 := hp.cell 1
  simp only [List.getElem?_cons_zero, List.getElem?_cons_succ] at c1
  by_cases h1 : v < 0
  · rw [fFind_none hc (.inl h1)]
    clear hp hh hc hs
    go_enter Tryz.func174, Tryz.ntmps174
    go_wp2
    go_ret2
    exact ⟨rfl, rfl⟩
  by_cases h2 : (T : Int) ≤ v
  · rw [fFind_none hc (.inr (by omega))]
    clear hp hh hc hs
    go_enter Tryz.func174, Tryz.ntmps174
    go_wp2
    go_ret2
    exact ⟨rfl, rfl⟩
  · obtain ⟨z, rfl⟩ := Int.eq_ofNat_of_zero_le (show 0 ≤ v by omega)
    obtain ⟨r, hr, hrc, -, -⟩ := fFind_all hc (v := (z : Int)) (by omega) (by omega)
    have hslen : (sRow c c.length).length = T := by
      have := sRow_len hc c.length (Nat.le_refl _)
      rw [fPre_most c (Nat.le_refl _), hs] at this
      omega
    rw [hRow_all hslen] at hh
    have hget := sRow_get hc hr c.length hrc (Nat.le_refl _)
    have hzl : z < (sRow c c.length).length := by omega
    rw [List.getElem?_eq_getElem hzl, Option.some.injEq] at hget
    have hgc := hh.cell z
    rw [hvs_get _ _ hzl, hget] at hgc
    have hzT : (z : Int) < (T : Int) := by omega
    have hr2 : r ≤ 4096 := by omega
    rw [hr]
    clear hp hh hc hs hslen hget hzl hr hrc
    go_enter Tryz.func174, Tryz.ntmps174
    go_wp2
    go_ret2
    exact ⟨rfl, rfl⟩
end
end Go.Proofs.YtflcmmeoppdhdaaGreat
namespace Go.Proofs.YtflcmmeoppdhdaaGreat
open Go.RowKit Go.Sort Go.Shelf
attribute [local go_sem] Oper.semAt_some

theorem own_otherR {W W' : World} {base e size n : Nat} {v : Value} {xs : List Value} (h : W.ownsRow base e size v n xs) (hk : ∀ (g : Nat) (o : Obj), W.heap[g]? = some o → o.isCells = true → W'.heap[g]? = some o) : W'.ownsRow base e size v n xs := by
  refine ⟨h.1, ?_⟩
  rcases h.2 with h0 | ⟨g, cap, cur, rfl, hbg, hg, rest⟩
  · exact .inl h0
  · exact .inr ⟨g, cap, cur, rfl, hbg, hk g _ hg rfl, rest⟩
/-- Blocks of cells stay, where a row of no cells is turned. -/
theorem cells_grown {W W' : World} {row : Option Nat} (hg : W.grownBy W' row) (hr : ∀ r, row = some r → ∃ o : Obj, W.heap[r]? = some o ∧ o.isCells = false) (g : Nat) (o : Obj) (h : W.heap[g]? = some o) (ho : o.isCells = true) : W'.heap[g]? = some o := by
  refine (hg.block g (Array.getElem?_eq_some_iff.1 h).1 fun e => ?_).trans h
  obtain ⟨o2, h2, h3⟩ := hr g e.symm
  rw [h] at h2
  cases h2
  rw [ho] at h3
  cases h3
theorem EncS.other {W W' : World} {E x : Nat} {O : List UInt8} (h : EncS W E x O) (hk : ∀ (g : Nat) (o : Obj), W.heap[g]? = some o → o.isCells = true → W'.heap[g]? = some o) : EncS W' E x O := by
  obtain ⟨v, hb, hown⟩ := h
  exact ⟨v, hk E _ hb rfl, own_otherR hown hk⟩
theorem keepsFrom_only {B E : Nat} {ts : List TypeId} {W W' : World} (h : OnlyT E ts W W') : KeepsFrom B W W' := ⟨h.size, fun k o _ hk ho => (h.block k (Array.getElem?_eq_some_iff.1 hk).1 (.inr fun t _ hof => by
  obtain ⟨cs, fr, h2⟩ := hof
  rw [hk] at h2
  cases h2
  cases ho)).trans hk⟩
theorem only_keepsB {E Bs n₀ : Nat} {t : TypeId} {cs : List Value} {ts : List TypeId} {W W' : World} (h : OnlyT E ts W W') (hb : Blk W Bs t cs) (ht : t ∉ ts) (hE : n₀ ≤ E) (hn : n₀ ≤ W.heap.size) : KeepsB (keepN Bs n₀) W W' := ⟨h.size, fun k hk => by
  rcases hk with rfl | hk
  · exact h.block _ hb.lt (.inr fun t' ht' hof => hb.ofType.ne (fun e => ht (e ▸ ht')) hof)
  · exact h.block k (by omega) (.inl (by omega))⟩
/-- Between two rounds of Code. -/
def CodeI (w5 : World) (E B9 B7 P : Nat) (l : List UInt8) (r : List Int) (pre : List (Nat × UInt8)) (W : World) : Prop :=
  (∃ (x : Nat) (T : List Nat), RansIn (letL r (l.drop (l.length - pre.length))) x T ∧ EncS W E x (u8s T.reverse)) ∧ Boxed W B9 125 (.pointer (some ⟨E, 0, none⟩)) ∧ Boxed W B7 122 (.pointer (some ⟨P, 0, none⟩)) ∧ Below E w5 W
theorem codeI_own {w5 w8 : World} {E B9 B7 P : Nat} {l : List UInt8} {r : List Int} (hE : E ≤ w8.heap.size) (h5 : E ≤ w5.heap.size) :
    ∀ s A B row, CodeI w5 E B9 B7 P l r s A → A.grownBy B row → (∀ q, row = some q → w8.heap.size ≤ q ∧ ∃ o : Obj, A.heap[q]? = some o ∧ o.isCells = false) → CodeI w5 E B9 B7 P l r s B := by
  rintro s A B row ⟨⟨x, T, h1, h2⟩, h3, h4, h6⟩ hg hr
  have hk := cells_grown hg fun q e => (hr q e).2
  exact ⟨⟨x, T, h1, h2.other hk⟩, hk _ _ h3 rfl, hk _ _ h4 rfl, h6.grown hg (Nat.le_trans h5 h6.size) (fun q e => Nat.le_trans hE (hr q e).1)⟩
/-- What the region of a round's calls goes through. -/
def RoundG (E B9 B7 P : Nat) (w5 W0 : World) (x x2 : Nat) (O O2 : List UInt8) (c : Nat) (W : World) : Prop :=
  Boxed W B9 125 (.pointer (some ⟨E, 0, none⟩)) ∧ Boxed W B7 122 (.pointer (some ⟨P, 0, none⟩)) ∧ EncS W E (if c ≤ 1 then x else x2) (if c ≤ 1 then O else O2) ∧ OnlyT E encRT W0 W ∧ Below E w5 W
theorem RoundG.grow {E B9 B7 P x x2 : Nat} {w5 W0 W W' : World} {O O2 : List UInt8} (h : RoundG E B9 B7 P w5 W0 x x2 O O2 0 W) (hE : E ≤ W.heap.size) (hb : Below W.heap.size W W') : RoundG E B9 B7 P w5 W0 x x2 O O2 1 W' := by
  obtain ⟨h1, h2, h3, h4, h5⟩ := h
  exact ⟨(hb.block _ h1.lt).trans h1, (hb.block _ h2.lt).trans h2, h3.below hb, h4.trans (OnlyT.of_below hb), h5.trans (hb.mono hE)⟩
theorem RoundG.turn {E B9 B7 P x x2 : Nat} {w5 W0 W W' : World} {O O2 : List UInt8} (h : RoundG E B9 B7 P w5 W0 x x2 O O2 1 W) (hE : E ≤ W.heap.size) (he : EncS W' E x2 O2) (ho : OnlyT E encRT W W') : RoundG E B9 B7 P w5 W0 x x2 O O2 2 W' := by
  obtain ⟨h1, h2, h3, h4, h5⟩ := h
  exact ⟨Blk.only (cs := [_]) h1 ho (by decide), Blk.only (cs := [_]) h2 ho (by decide), he, h4.trans ho, h5.trans (ho.below hE)⟩
set_option maxHeartbeats 8000000 in
set_option maxRecDepth 100000 in
theorem ransCode_any {w : World} {A : Option Addr} {n m : Nat} {l : List UInt8} (hr : Rd w w.heap.size A (bvs l)) (hn : l.length = n) (h0 : 0 < n) (hn1 : n ≤ 4000) :
    Calls Tryz.prog 43 #[.slice A n m] w fun e w' => ∃ (v : Value) (B : List UInt8), e = .returned v ∧ RansSays l B ∧ B.length ≤ 20000 ∧ w'.ownsRow w.heap.size 5 1 v B.length (bvs B) ∧ Below w.heap.size w w' := by
  obtain ⟨i0, hi0, hz0, hz1, hz2⟩ := info_parts info_u8r
  have C1 := Lib.hid (normCount_any (m := m) hr hn (by omega))
  have hbad : (cntL l).any nBad = false := by
    rw [List.any_eq_false]
    intro x hx
    have := cntL_le l x hx
    simp [nBad]
    omega
  have hm1 : many (cntL l) ≤ ((4096 : Nat) : Int) := by have := many_le (cntL l); rw [cntL_len] at this; omega
  have hm0 : many (cntL l) ≠ 0 := fun h => by
    obtain ⟨a, t, rfl⟩ := List.exists_cons_of_length_pos (show 0 < l.length by omega)
    have hnn := fun x hx => (cntL_le (a :: t) x hx).1
    have h2 := cntL_mem (l := a :: t) (b := a) List.mem_cons_self
    have h3 := many_zero hnn h
    have hlt : a.toNat < (cntL (a :: t)).length := by rw [cntL_len]; exact a.toNat_lt
    have h4 := le_sum12 hnn hlt
    have e : (cntL (a :: t)).getD a.toNat 0 = (cntL (a :: t))[a.toNat] := by simp [List.getD_eq_getElem?_getD, hlt]
    omega
  have C2 := Lib.hid (fun (W : World) (g : Nat) (h : Rd W W.heap.size (some ⟨g, 0, none⟩) (zvs (cntL l))) => normNorm_ok (m := 256) 12 4096 (by decide) (by decide) rfl hbad h (cntL_len l) (by decide) hm0 hm1)
  have HSH := Lib.hid (fun (r : List Int) (h : NormR (cntL l) ((4096 : Nat) : Int) r) => shares_of (l := l) (by omega) (by omega) h)
  have CB := Lib.hid (fun W' => backwardB_any A n m W')
  have HR := Lib.hid hr
  have HN := Lib.hid (And.intro hn (And.intro h0 hn1))
  have hn0 : ((n : Int) == 0) = false := by rw [beq_eq_false_iff_ne]; omega
  have hn0i : ¬ (n : Int) = 0 := by omega
  clear hr hn hbad hm1 hm0 h0 hn1
  refine (callsIn_wide (n := 4)).1 ?_
  refine callsIn_of_wp_marks Tryz.func43 rfl trivial ?_ rfl
  simp only [Tryz.ntmps43, List.size_toArray, List.length_cons, List.length_nil, Nat.reduceAdd, Nat.reduceSub, Array.replicate_succ, Array.replicate_zero, List.push_toArray, List.append_toArray, List.nil_append, List.cons_append]
  gi_wp2_with fail
  refine ⟨trivial, ?_⟩
  refine (callsIn_wide.2 C1.out).mono ?_
  rintro _ w1 ⟨g, rfl, -, hk1, hb1⟩
  have HK1 := Lib.hid hk1
  have HB1 := Lib.hid hb1
  clear hk1 hb1 C1
  gi_wp2_with fail
  refine ⟨trivial, ?_⟩
  refine (callsIn_wide.2 (C2.out w1 g (Rd.of_blk HK1.out))).mono ?_
  rintro _ w2 ⟨g2, r, rfl, -, hnr, hk2, hb2⟩
  have HNR := Lib.hid hnr
  have HS := Lib.hid (HSH.out r hnr)
  have HB2 := Lib.hid (HB1.out.trans (hb2.mono HB1.out.size))
  have HK2 := Lib.hid hk2
  have C3 := Lib.hid (histPut_ok (n := 256) (m := 256) (Rd.of_blk hk2) HS.out.len ⟨HS.out.len, HS.out.may⟩ (Nat.le_refl _))
  have hql := hPutF_len r 0 HS.out.may (by rw [HS.out.len]; decide)
  rw [HS.out.len] at hql
  obtain ⟨Q, hQ⟩ : ∃ Q, Q = hPut r := ⟨_, rfl⟩
  have hQl : Q.length ≤ 5130 := by rw [hQ]; exact hql
  have HQ := Lib.hid hQ
  rw [← hQ] at C3
  clear hnr hk2 hb2 C2 HSH HK1 HB1 hQ hql
  gi_wp2_with fail
  refine ⟨trivial, ?_⟩
  refine (callsIn_wide.2 C3.out).mono ?_
  rintro _ w3 ⟨v3, rfl, hown3, hb3⟩
  obtain ⟨A3, c3, rfl, -, -, -⟩ := own_form hown3
  have HOWN3 := Lib.hid (own_more hown3 HB2.out.size)
  have HB3 := Lib.hid (HB2.out.trans (hb3.mono HB2.out.size))
  have C4 := Lib.hid (slotMake_ok (n := 256) (m := 256) 12 4096 (by decide) (by decide) rfl (Rd.of_blk (HK2.out.grow hb3)) HS.out.len (by decide) (by
    rw [List.any_eq_false]
    intro x hx
    have := HS.out.nn x hx
    simp [sBad]; omega) HS.out.sum)
  clear hown3 hb3 C3 HK2 HB2
  gi_wp2_with fail
  refine ⟨trivial, ?_⟩
  refine (callsIn_wide.2 C4.out).mono ?_
  rintro _ w4 ⟨P, rfl, hsl, hb4⟩
  have HSL := Lib.hid hsl
  have HOWN4 := Lib.hid (own_kept HOWN3.out hb4)
  have HB4 := Lib.hid (HB3.out.trans (hb4.mono HB3.out.size))
  clear hsl hb4 C4 HOWN3 HB3
  gi_wp2_with fail
  refine ⟨trivial, ?_⟩
  obtain ⟨w5, hw5⟩ : ∃ w5, w5 = w4.alloc (.cells #[.pointer (some ⟨P, 0, none⟩)] 122) := ⟨_, rfl⟩
  obtain ⟨w6, hw6⟩ : ∃ w6, w6 = w5.alloc (.cells #[.int .i64 8388608, .slice none 0 0] 127) := ⟨_, rfl⟩
  obtain ⟨w7, hw7⟩ : ∃ w7, w7 = w6.alloc (.cells #[.pointer (some ⟨w4.heap.size + 1, 0, none⟩)] 125) := ⟨_, rfl⟩
  have hs5 : w5.heap.size = w4.heap.size + 1 := by rw [hw5]; simp
  have hs6 : w6.heap.size = w4.heap.size + 2 := by rw [hw6]; simp; omega
  have hs7 : w7.heap.size = w4.heap.size + 3 := by rw [hw7]; simp; omega
  have hb5 : Below w4.heap.size w4 w5 := by rw [hw5]; exact (Below.refl _ _).alloc (Nat.le_refl _) _
  have hb6 : Below w5.heap.size w5 w6 := by rw [hw6]; exact (Below.refl _ _).alloc (Nat.le_refl _) _
  have hb7 : Below w6.heap.size w6 w7 := by rw [hw7]; exact (Below.refl _ _).alloc (Nat.le_refl _) _
  have hk5 : Boxed w5 w4.heap.size 122 (.pointer (some ⟨P, 0, none⟩)) := by rw [hw5]; exact Boxed.new w4 _ _
  have hk6 : Blk w6 (w4.heap.size + 1) 127 [.int .i64 8388608, .slice none 0 0] := by rw [← hs5, hw6]; exact heap_alloc_new w5 _
  have hk7 : Boxed w7 (w4.heap.size + 2) 125 (.pointer (some ⟨w4.heap.size + 1, 0, none⟩)) := by rw [← hs6, hw7]; exact Boxed.new w6 _ _
  rw [← hw5, ← hw6, ← hw7]
  have HSL5 := Lib.hid (HSL.out.grow hb5)
  have HOWN5 := Lib.hid (own_kept HOWN4.out hb5)
  have HB5 := Lib.hid (HB4.out.trans (hb5.mono HB4.out.size))
  clear hw5 hw6 hw7 HSL HOWN4 HB4
  refine (callsIn_wide.2 (CB.out w7)).mono ?_
  rintro _ w8 ⟨rfl, hb8, hs8, hbs8⟩
  obtain ⟨E, hE⟩ : ∃ E, E = w4.heap.size + 1 := ⟨_, rfl⟩
  obtain ⟨B7, hB7⟩ : ∃ B7, B7 = w4.heap.size := ⟨_, rfl⟩
  obtain ⟨B9, hB9⟩ : ∃ B9, B9 = w4.heap.size + 1 + 1 := ⟨_, rfl⟩
  obtain ⟨Bs, hBs⟩ : ∃ Bs, Bs = w7.heap.size := ⟨_, rfl⟩
  have h56 : Below w5.heap.size w5 w7 := hb6.trans (hb7.mono (by omega))
  have h58 : Below w5.heap.size w5 w8 := h56.trans (hb8.mono (by omega))
  have hk58 : Boxed w8 B7 122 (.pointer (some ⟨P, 0, none⟩)) := by rw [hB7]; exact (h58.block _ (by omega)).trans hk5
  have hk68 : Blk w8 E 127 [.int .i64 8388608, .slice none 0 0] := by rw [hE]; exact ((hk6.grow hb7)).grow hb8
  have hk78 : Boxed w8 B9 125 (.pointer (some ⟨E, 0, none⟩)) := by rw [hB9, hE]; exact (hb8.block _ (by omega)).trans hk7
  rw [← hE] at hs5
  have hwE : w.heap.size ≤ E := by have := HB5.out.size; omega
  have hE8 : E < w8.heap.size := by omega
  have hB98 : B9 < w8.heap.size := by omega
  have hBs8 : Bs < w8.heap.size := by omega
  rw [← hBs] at hbs8
  rw [← hB9, ← hE, ← hB7, ← hBs]
  have H58 := Lib.hid (show Below E w5 w8 from by rw [← hs5]; exact h58)
  have HBS := Lib.hid hbs8
  have HI0 := Lib.hid (show CodeI w5 E B9 B7 P l r [] w8 from ⟨⟨8388608, [], by rw [List.length_nil, Nat.sub_zero, List.drop_length]; exact .none, ⟨_, hk68, World.ownsRow_nil _ _ _ _⟩⟩, hk78, hk58, H58.out⟩)
  have HH := Lib.hid (backward_hands 3 (by omega) Bs w.heap.size A m l (by have := HN.out; omega) w8 (by rw [HN.out.1]; exact hbs8) ((HR.out.below HB5.out).below (H58.out.mono hwE)))
  have HSZ := Lib.hid (And.intro hs5 (And.intro hwE (And.intro hE8 (And.intro hBs8 hB98))))
  clear hs6 hs7 hb5 hb6 hb7 hk5 hk6 hk7 hb8 hs8 hbs8 h56 h58 hk58 hk68 hk78 hE hB7 hB9 hBs CB hs5 hwE hE8 hBs8 hB98 HR
  gi_wp2
  refine wpIn_range_still (by omega) (gf := 125) (lb := #[.pointer (some ⟨Bs, 0, none⟩)]) rfl (enters_of Tryz.func125 (by kernel_rfl) rfl)
    HH.out (fun k hk => by have := HSZ.out; rcases hk with rfl | hk <;> omega) (fun _ => rfl)
    (CodeI w5 E B9 B7 P l r) (codeI_own (by have := HSZ.out; omega) (by have := HSZ.out; omega)) HI0.out ?a1 ?assign ?body ?done
  case assign =>
    intro lq x Wd K hK
    unfold encNB
    gi_wp2
    exact hK
  case body =>
    rintro lq pre xb rest Wd hxs ⟨⟨x, T, hin, he⟩, h9, h7, hbw⟩ hsz hkp
    obtain ⟨hs5, hwE, hE8, hBs8, hB98⟩ := HSZ.out
    obtain ⟨hnl, h0, hn1⟩ := HN.out
    have hk : pre.length < l.length := by
      have := congrArg List.length hxs
      rw [backL_len, List.length_append, List.length_cons] at this
      omega
    have hget := backL_get l pre.length hk
    have hxb : (backL l)[pre.length]? = some xb := by rw [← hxs]; simp
    rw [hget, Option.some.injEq] at hxb
    obtain ⟨q, hq⟩ : ∃ q, q = l.length - 1 - pre.length := ⟨_, rfl⟩
    have hql : q < l.length := by omega
    have hx2 : xb.2 = l[q] := by rw [← hxb]; simp only [hq]
    have e1 : l.length - pre.length = q + 1 := by omega
    have e2 : l.length - (pre ++ [xb]).length = q := by rw [List.length_append, List.length_singleton]; omega
    rw [e1] at hin
    have hd : l.drop q = l[q] :: l.drop (q + 1) := List.drop_eq_getElem_cons hql
    obtain ⟨⟨hs1, hs2⟩, hf1, hf2⟩ := HS.out.letter (b := l[q]) (List.getElem_mem hql)
    have hsub : ∀ b ∈ l.drop (q + 1), b ∈ l := fun b hb => List.mem_of_mem_drop hb
    have hTl := hin.len (HS.out.letters _ hsub)
    have hTl2 : T.length ≤ 8000 := by
      have : (letL r (l.drop (q + 1))).length ≤ 4000 := by unfold letL; rw [List.length_map, List.length_drop]; omega
      omega
    have hrg := hin.range (HS.out.letters _ hsub)
    have hb256 : l[q].toNat < 256 := l[q].toNat_lt
    have hbr : l[q].toNat < r.length := by rw [HS.out.len]; exact hb256
    have hrb : r.getD l[q].toNat 0 = r[l[q].toNat] := by simp [List.getD_eq_getElem?_getD, hbr]
    have c1 := fun (W' : World) (h : IsSlots W' P r 12 4096) => slotOf_at l[q].toNat h hbr
    rw [← hrb, ← hf1, ← hf2] at c1
    simp only at hs1 hs2
    obtain ⟨f, hff⟩ : ∃ f, f = (fPre r l[q].toNat).toNat := ⟨_, rfl⟩
    obtain ⟨s, hss⟩ : ∃ s, s = (r.getD l[q].toNat 0).toNat := ⟨_, rfl⟩
    rw [← hff] at hs2 c1
    rw [← hss] at hs1 hs2 c1
    obtain ⟨o, y, hg⟩ := goes_all hs1 x
    have hrgx : s * 2048 ≤ x := by omega
    have c2 := fun (W' : World) (h : EncS W' E x (u8s T.reverse)) => ransIn_any h hrg.2.1 hs1 hs2 hrgx (by rw [u8s_length, List.length_reverse]; omega) hg
    have hin2 : RansIn (letL r (l.drop q)) (inX f s y) (o.reverse ++ T) := by rw [hd, letL_cons, ← hff, ← hss]; exact .letter f s _ x T o y hin hg
    have hO2 : u8s T.reverse ++ u8s o = u8s (o.reverse ++ T).reverse := by rw [List.reverse_append, List.reverse_reverse]; simp [u8s]
    rw [hO2] at c2
    obtain ⟨X, hX⟩ : ∃ X, X = inX f s y := ⟨_, rfl⟩
    rw [← hX] at c2 hin2
    obtain ⟨O1, hO1e⟩ : ∃ O1, O1 = u8s T.reverse := ⟨_, rfl⟩
    obtain ⟨O2, hO2e⟩ : ∃ O2, O2 = u8s (o.reverse ++ T).reverse := ⟨_, rfl⟩
    rw [← hO1e] at he
    rw [← hO2e] at c2
    simp only [← hO1e] at c2
    obtain ⟨b, hb⟩ : ∃ b, b = xb.2 := ⟨_, rfl⟩
    rw [← hx2, ← hb] at c1
    have hbw256 : b.toNat < 256 := b.toNat_lt
    obtain ⟨bn, hbn⟩ : ∃ bn, bn = b.toNat := ⟨_, rfl⟩
    rw [← hbn] at c1 hbw256
    simp only [← hb, ← hbn]
    have HC1 := Lib.hid c1
    have HC2 := Lib.hid c2
    have HIN2 := Lib.hid (And.intro hin2 (And.intro e2 hO2e))
    have hbsW : Boxed Wd Bs 22 (.slice A n m) := (hkp Bs (.inl rfl)).trans HBS.out
    have HKP := Lib.hid (And.intro hbsW (And.intro hwE (And.intro (show E ≤ Wd.heap.size by omega) (show w.heap.size ≤ Wd.heap.size by omega))))
    have HG0 := Lib.hid (show RoundG E B9 B7 P w5 Wd x X O1 O2 0 Wd.drew from ⟨h9, h7, he.same rfl, (OnlyT.refl _ _ _).drew, hbw.drew⟩)
    have HS5 := Lib.hid (show Below w5.heap.size w5 Wd → True from fun _ => trivial)
    have hs5' := hs5
    have HS55 := Lib.hid hs5
    have hconv : IntKind.i64.wrap (bn : Int) = (bn : Int) := by rw [IntKind.wrap_i64]; omega
    clear hxs hin he h9 h7 hbw hsz hkp hs5 hwE hE8 hBs8 hB98 hnl h0 hn1 hk hget hxb hq hx2 e1 e2 hd hs1 hs2 hf1 hf2 hsub hTl hTl2 hrg hb256 hbr hrb c1 c2 hff hss hg hrgx hin2 hO2 hX hO1e hO2e hb hbn hbsW HS5 hs5'
    gi_wp2
    refine wp_region_round (by kernel_rfl) (fun ⟨_, _, h⟩ => h) [⟨37, [], (.pointer (some ⟨E, 0, none⟩)), 0, 1, none⟩,
        ⟨38, [], (.pointer (some ⟨P, 0, none⟩)), 0, 0, none⟩,
        ⟨39, [], .int .u8 (bn : Int), 0, 0, none⟩,
        ⟨40, [2], (.int .i64 (bn : Int)), 0, 0, none⟩,
        ⟨41, [1, 3], (.tuple #[.int .i64 (f : Int), .int .i64 (s : Int)]), 0, 0, some 0⟩,
        ⟨42, [4], (.int .i64 (f : Int)), 1, 1, none⟩,
        ⟨43, [4], (.int .i64 (s : Int)), 1, 1, none⟩,
        ⟨44, [0, 5, 6], (.tuple #[]), 1, 1, some 1⟩] 2 (RoundG E B9 B7 P w5 Wd x X O1 O2)
      [(9, .pointer (some ⟨B9, 0, none⟩)), (7, .pointer (some ⟨B7, 0, none⟩)), (11, .int .u8 (bn : Int))] HG0.out (by kernel_rfl) (by kernel_rfl) (by kernel_rfl) (by kernel_rfl) (by kernel_rfl) (by kernel_rfl) ⟨rfl, rfl, rfl, trivial⟩ ?_ ?_
    · repeat' (first | exact OblSAll.nil | refine OblSAll.cons ?_ ?_)
      all_goals (intro ev yi w' c hG hcc hc hf ho hn; simp only [OutsSay, NeedV, rowS, and_true] at ho hn hcc)
      all_goals (try ((simp [OpSays, execOp, Region.wanted, go_sem, ho, hn, hG, hconv]; done)))
      · rw [if_pos (by simp [Region.wanted])]
        have hb := hG.1.cell
        simp [OpSays, execOp, go_sem, ho, hb, hG]
      · rw [if_pos (by simp [Region.wanted])]
        have hb := hG.2.1.cell
        simp [OpSays, execOp, go_sem, ho, hb, hG]
      · rw [if_pos (by simp [Region.wanted])]
        exact says_call Tryz.call82 (vs := #[.pointer (some ⟨P, 0, none⟩), .int .i64 (bn : Int)]) rfl hf (by simp [hn]) (by obtain rfl : c = 0 := hcc; exact (HC1.out w' (HSL5.out.grow (by rw [HS55.out]; exact hG.2.2.2.2))).mono fun e w4 ⟨he, hb⟩ => ⟨_, he, rfl, hG.grow (Nat.le_of_lt hG.2.2.1.lt) hb⟩)
      · rw [if_pos (by simp [Region.wanted])]
        exact says_call Tryz.call81 (vs := #[.pointer (some ⟨E, 0, none⟩), .int .i64 (f : Int), .int .i64 (s : Int)]) rfl hf (by simp [hn]) (by obtain rfl : c = 1 := hcc; exact (HC2.out w' hG.2.2.1).mono fun e w4 ⟨he, he2, ho2⟩ => ⟨_, he, rfl, hG.turn (Nat.le_of_lt hG.2.2.1.lt) he2 ho2⟩)
    · intro wE hGE
      simp only [layAll, rowS, List.setIfInBounds_toArray, List.set_cons_succ, List.set_cons_zero]
      obtain ⟨g1, g2, g3, g4, g5⟩ := hGE
      exact ⟨keepsFrom_only g4, only_keepsB (cs := [_]) g4 HKP.out.1 (by decide) HKP.out.2.1 HKP.out.2.2.2, ⟨X, o.reverse ++ T, by rw [HIN2.out.2.1]; exact HIN2.out.1, by rw [← HIN2.out.2.2]; exact g3⟩, g1, g2, g5⟩
  case done =>
    rintro D Wd hD ⟨⟨x, T, hin, he⟩, h9, h7, hbw⟩ hK
    obtain ⟨hs5, hwE, hE8, hBs8, hB98⟩ := HSZ.out
    obtain ⟨hnl, h0, hn1⟩ := HN.out
    rw [backL_len, Nat.sub_self, List.drop_zero] at hin
    have hrg := hin.range (HS.out.letters _ fun _ h => h)
    have hTl := hin.len (HS.out.letters _ fun _ h => h)
    have hTl2 : T.length ≤ 8000 := by
      have : (letL r l).length ≤ 4000 := by unfold letL; rw [List.length_map]; omega
      omega
    have CT := Lib.hid (ransTurned_any he hrg.2.1 (by rw [u8s_length, List.length_reverse]; omega))
    have hc9 := h9.cell
    have HBW := Lib.hid hbw
    have HIN := Lib.hid (And.intro hin hrg)
    have HK := Lib.hid hK
    have HE := Lib.hid (And.intro hD (And.intro hwE hE8))
    have hEW : E ≤ Wd.heap.size := Nat.le_of_lt he.lt
    clear hin he h9 h7 hbw hK hs5 hwE hE8 hBs8 hB98 hnl h0 hn1 hrg hTl HI0 HH H58 HBS HSL5 hD
    rename_i K1 hK1
    refine hK1 _ _ ?_
    refine wpIn_wide.2 ?_
    go_wp2_with fail
    refine CT.out.mono ?_
    rintro _ w9 ⟨v9, rfl, hown9, ho9⟩
    obtain ⟨hs5, hwE, hE8, hBs8, hB98⟩ := HSZ.out
    obtain ⟨A9, c9, rfl, -, -, -⟩ := own_form hown9
    rw [u8s_reverse, List.reverse_reverse, u8s_length, List.length_reverse] at hown9
    obtain ⟨R9, hR9⟩ : ∃ R9, R9 = u8s (be4 x) ++ u8s T := ⟨_, rfl⟩
    rw [← hR9] at hown9
    obtain ⟨L9, hL9⟩ : ∃ L9, L9 = 4 + T.length := ⟨_, rfl⟩
    have hLe : 4 + (u8s T.reverse).length = L9 := by rw [hL9, u8s_length, List.length_reverse]
    rw [← hL9] at hown9
    simp only [hLe]
    have hL9b : L9 ≤ 9000 := by omega
    have hRl : R9.length = L9 := by rw [hR9, List.length_append, u8s_length, u8s_length, hL9]; rfl
    have hb9 : Below E w5 w9 := HBW.out.trans (ho9.below hEW)
    have HOWN9 := Lib.hid (own_kept HOWN5.out (by rw [hs5]; exact hb9))
    have HRD9 := Lib.hid (Rd.of_own hown9)
    have HB9 := Lib.hid (HB5.out.trans (hb9.mono hwE))
    have hK9 : w9.heap[D]? = some (.deferred (some [])) := (ho9.block D (Array.getElem?_eq_some_iff.1 HK.out).1 (.inr fun t _ hof => by
      obtain ⟨cs, fr, h2⟩ := hof
      rw [HK.out] at h2
      cases h2)).trans HK.out
    have HK9 := Lib.hid hK9
    have HRL := Lib.hid (And.intro hRl (show R9 = u8s (be4 x ++ T) by rw [hR9]; simp [u8s]))
    have hwD : w.heap.size ≤ D := by have := HE.out.1; omega
    clear hown9 ho9 hb9 hK9 hR9 hL9 hLe hRl CT hc9 HK HBW hs5 hE8 hBs8 hB98 HSZ HOWN5 HB5
    go_wp2_with ((with_reducible show wpList _ _ _ (({ dst := some 48, op := _, type := _, pos := _, after := _, guard := _ } : Oper) :: _) _ _); go_must (refine wpList_app rfl (.tmp 45) (.tmp 47) 22 rfl w.heap.size 5 i0 (.int .u8 0) 1 1 Tryz.underlying22 hi0 hz0 hz1 hz2 rfl (by decide) _ _ _ rfl HOWN9.out w9.heap.size A9 L9 c9 (bvs R9) rfl HRD9.out (by rw [bvs_length, Nat.mul_one]; exact HRL.out.1) (bvs_one _) (by simp only [maxLen]; omega) (by omega) HB9.out.size ?_; intro v10 w10 hown10 hg10))
    have hrow := own_block HOWN9.out
    have hK10 : w10.heap[D]? = some (.deferred (some [])) := (hg10.block D (Array.getElem?_eq_some_iff.1 HK9.out).1 fun e => by
      obtain ⟨-, cs, fr, h2⟩ := own_type HOWN9.out D e.symm
      rw [HK9.out] at h2
      cases h2).trans HK9.out
    have hb10 : Below w.heap.size w9 w10 := (Below.refl _ _).grown hg10 HB9.out.size hrow
    have HF := Lib.hid (And.intro hown10 (And.intro hK10 (HB9.out.trans hb10)))
    clear hown10 hK10 hb10 hg10 hrow HOWN9 HRD9 HB9 HK9
    go_wp2
    refine ⟨by simp, .inl ⟨_, _, rfl, run_takeDeferred HF.out.2.1, ?_⟩⟩
    refine ⟨_, results_tmp rfl _ _ _, ?_⟩
    have hlen : (Q ++ u8s (be4 x ++ T)).length = Q.length + L9 := by rw [List.length_append, ← HRL.out.2, HRL.out.1]
    refine ⟨_, Q ++ u8s (be4 x ++ T), rfl, ⟨r, x, T, HNR.out, HIN.out.1, by rw [HQ.out]⟩, by rw [hlen]; omega, ?_, HF.out.2.2.trans (belowK_b (w := w) (Nat.le_refl _) w10 D _ _ hwD HF.out.2.1 rfl rfl)⟩
    rw [hlen, bvs_append, ← HRL.out.2]
    refine own_otherR HF.out.1 fun g o hg ho => (World.putObj_heap_other fun e => ?_).trans hg
    subst e
    rw [HF.out.2.1] at hg
    cases hg
    cases ho
end Go.Proofs.YtflcmmeoppdhdaaGreat
namespace Go.Proofs.YtflcmmeoppdhdaaGreat

/-- A state, as long as it is small, takes the next byte; none, if there is none. -/
def fill : Nat → List UInt8 → Option (Nat × List UInt8)
  | x, [] => if 8388608 ≤ x then some (x, []) else none
  | x, b :: S => if 8388608 ≤ x then some (x, b :: S) else fill (256 * x + b.toNat) S
theorem fill_stop {x : Nat} (S : List UInt8) (h : 8388608 ≤ x) : fill x S = some (x, S) := by
  cases S <;> simp [fill, h]
theorem fill_none {x : Nat} (h : x < 8388608) : fill x [] = none := by
  simp [fill]; omega
theorem fill_next {x : Nat} (b : UInt8) (S : List UInt8) (h : x < 8388608) : fill x (b :: S) = fill (256 * x + b.toNat) S := by
  simp only [fill]; rw [if_neg (by omega)]
/-- The letter that comes out of a state, and the state ahead of its bytes. -/
def letOf (r : List Int) (x : Nat) : Nat := (fFind r ((x % 4096 : Nat) : Int)).getD 0
def outY (r : List Int) (x : Nat) : Nat := (r.getD (letOf r x) 0).toNat * (x / 4096) + x % 4096 - (fPre r (letOf r x)).toNat
def lets (r : List Int) : Nat → Nat → List UInt8 → Option (List UInt8 × Nat × List UInt8)
  | 0, x, S => some ([], x, S)
  | n + 1, x, S => (fill (outY r x) S).bind fun p => (lets r n p.1 p.2).map fun q => (UInt8.ofNat (letOf r x) :: q.1, q.2)
/-- What Decode tells of what is left behind the shares: the letters, or none. -/
def be4V (S : List UInt8) : Nat := ((S.take 4).foldl (fun a b => 256 * a + b.toNat) 0)
def tellF (r : List Int) (n : Nat) (S : List UInt8) : Option (List UInt8) :=
  if S.length < 4 ∨ be4V S < 8388608 ∨ 2147483648 ≤ be4V S then none
  else (lets r n (be4V S) (S.drop 4)).bind fun q => if q.2.1 = 8388608 ∧ q.2.2 = [] then some q.1 else none
theorem reads_fill {y x : Nat} {S T : List Nat} (h : Reads y S x T) (more : List UInt8) : 8388608 ≤ x → (∀ b ∈ S, b < 256) → fill y (u8s S ++ more) = some (x, u8s T ++ more) := by
  induction h with
  | none x S => intro hx _; exact fill_stop _ hx
  | next y b S x T hy hr ih =>
    intro hx hS
    have h1 := hS b List.mem_cons_self
    have h2 := ih hx fun c hc => hS c (List.mem_cons_of_mem _ hc)
    rw [show u8s (b :: S) = UInt8.ofNat b :: u8s S from rfl, List.cons_append, fill_next _ _ hy, UInt8.toNat_ofNat', Nat.mod_eq_of_lt h1]
    exact h2
theorem lets_in {l0 : List UInt8} {r : List Int} (hs : SharesOf l0 r) (more : List UInt8) : ∀ (l : List UInt8) (x : Nat) (T : List Nat), (∀ b ∈ l, b ∈ l0) → RansIn (letL r l) x T → lets r l.length x (u8s T ++ more) = some (l, 8388608, more)
  | [], x, T, _, h => by
    cases h
    rfl
  | b :: l, x, T, hl, h => by
    have hb := hl b List.mem_cons_self
    have hok := hs.letters (b :: l) hl
    have hTb := (h.range hok).2.2
    rw [letL_cons] at h
    obtain ⟨⟨k1, k2⟩, k3, k4⟩ := hs.letter hb
    simp only at k1 k2
    obtain ⟨x2, T2, y, h2, hy, e1, e2, hr, hx2⟩ := h.out (by rw [← letL_cons]; exact hok)
    have hlt : b.toNat < r.length := by rw [hs.len]; exact b.toNat_lt
    have hsucc := fPre_succ r b.toNat hlt
    have hrb : r.getD b.toNat 0 = r[b.toNat] := by simp [List.getD_eq_getElem?_getD, hlt]
    have hmod : y % (r.getD b.toNat 0).toNat < (r.getD b.toNat 0).toNat := Nat.mod_lt _ k1
    have hf : letOf r x = b.toNat := by
      unfold letOf
      rw [fFind_some hs.nn (r := b.toNat) (by omega) hlt (by rw [e1]; omega) (by rw [e1, hsucc, ← hrb]; omega)]
      rfl
    have hout : outY r x = y := by unfold outY; rw [hf]; exact e2
    have hfil := reads_fill hr more hx2 hTb
    have ih := lets_in hs more l x2 T2 (fun c hc => hl c (List.mem_cons_of_mem _ hc)) h2
    simp only [List.length_cons, lets, hout, hfil, Option.bind_some, ih, Option.map_some, hf, UInt8.ofNat_toNat]
theorem u8s_be4 {x : Nat} (hx : x < 4294967296) (S : List UInt8) : (u8s (be4 x) ++ S).length = 4 + S.length ∧ be4V (u8s (be4 x) ++ S) = x ∧ (u8s (be4 x) ++ S).drop 4 = S := by
  refine ⟨by simp [u8s, be4]; omega, ?_, by simp [u8s, be4]⟩
  simp [be4V, u8s, be4]
  omega
/-- **P18.3**: what was coded is told; with more behind it is none. -/
theorem tell_coded {l : List UInt8} {r : List Int} {x : Nat} {T : List Nat} (hs : SharesOf l r) (h : RansIn (letL r l) x T) (more : List UInt8) : tellF r l.length (u8s (be4 x ++ T) ++ more) = if more = [] then some l else none := by
  have hrg := h.range (hs.letters l fun _ h => h)
  have e : u8s (be4 x ++ T) ++ more = u8s (be4 x) ++ (u8s T ++ more) := by simp [u8s]
  obtain ⟨e1, e2, e3⟩ := u8s_be4 (x := x) (by omega) (u8s T ++ more)
  unfold tellF
  rw [e, e1, e2, e3, if_neg (by omega), lets_in hs more l x T (fun _ h => h) h]
  simp
end Go.Proofs.YtflcmmeoppdhdaaGreat
