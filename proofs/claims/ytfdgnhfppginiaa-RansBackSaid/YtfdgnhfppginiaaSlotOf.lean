/- Contracts of layer 15: Of, Letter, Bits; the fixed calls. -/
import Derived.Test.YtfdgnhfppginiaaSlotMk
namespace Go.Proofs.Ytfdgnhfppginiaa
open Go.RowKit Go.Sort Go.Shelf

set_option maxRecDepth 100000 in
theorem slotOf_nil (i : Int) (w : World) : Calls Try.prog 25 #[.pointer none, .int .i64 i] w fun e w' => e = .returned (.tuple #[.int .i64 0, .int .i64 0]) ∧ w' = w := by
  go_enter Try.func25, Try.ntmps25
  go_wp2
  go_ret2
  exact ⟨rfl, rfl⟩
set_option maxRecDepth 100000 in
theorem slotLetter_nil (i : Int) (w : World) : Calls Try.prog 98 #[.pointer none, .int .i64 i] w fun e w' => e = .returned (.tuple #[.int .i64 0, .bool false]) ∧ w' = w := by
  go_enter Try.func98, Try.ntmps98
  go_wp2
  go_ret2
  exact ⟨rfl, rfl⟩
section
variable {w : World} {P b T : Nat} {c : List Int}
set_option maxRecDepth 100000 in
theorem slotOf_none (i : Int) (h : IsSlots w P c b T) (hi : ¬ (0 ≤ i ∧ i < (c.length : Int))) : Calls Try.prog 25 #[.pointer (some ⟨P, 0, none⟩), .int .i64 i] w fun e w' => e = .returned (.tuple #[.int .i64 0, .int .i64 0]) ∧ w' = w := by
  obtain ⟨⟨F, H, hp, -, -⟩, -, -, -, hl⟩ := h
  have c0 := hp.cell 0
  simp only [List.getElem?_cons_zero] at c0
  obtain ⟨n, hn⟩ : ∃ n, n = c.length := ⟨_, rfl⟩
  rw [← hn] at c0 hl hi
  clear hp hn
  by_cases h1 : i < 0
  · clear hi
    go_enter Try.func25, Try.ntmps25
    go_wp2
    go_ret2
    exact ⟨rfl, rfl⟩
  · have h2 : (n : Int) ≤ i := by omega
    clear hi
    go_enter Try.func25, Try.ntmps25
    go_wp2
    go_ret2
    exact ⟨rfl, rfl⟩
set_option maxRecDepth 100000 in
set_option maxHeartbeats 1000000 in
theorem slotOf_at (k : Nat) (h : IsSlots w P c b T) (hk : k < c.length) : Calls Try.prog 25 #[.pointer (some ⟨P, 0, none⟩), .int .i64 (k : Int)] w fun e w' => e = .returned (.tuple #[.int .i64 (fPre c k), .int .i64 (c[k]'hk)]) ∧ Below w.heap.size w w' := by
  obtain ⟨⟨F, H, hp, hf, -⟩, hc, hs, hT, hl⟩ := h
  have c0 := hp.cell 0
  simp only [List.getElem?_cons_zero] at c0
  have f0 := hf.cell k
  have f1 := hf.cell (k + 1)
  rw [zvs_get, fRow2_get c _ k (by omega), if_pos (by omega)] at f0
  rw [zvs_get, fRow2_get c _ (k + 1) (by omega), if_pos (by omega)] at f1
  simp only [Option.map_some] at f0 f1
  have hsn := fPre_succ c k hk
  have g0 := fPre_nn hc k
  have g1 := fPre_le hc (k + 1)
  have g2 := hc _ (List.getElem_mem hk)
  rw [hs] at g1
  obtain ⟨x, hx⟩ : ∃ x, x = c[k]'hk := ⟨_, rfl⟩
  obtain ⟨p, hp1⟩ : ∃ p, p = fPre c k := ⟨_, rfl⟩
  obtain ⟨q, hq1⟩ : ∃ q, q = fPre c (k + 1) := ⟨_, rfl⟩
  rw [← hx] at hsn g2 ⊢
  rw [← hp1] at hsn g0 f0 ⊢
  rw [← hq1] at hsn g1 f1
  obtain ⟨n, hn⟩ : ∃ n, n = c.length := ⟨_, rfl⟩
  rw [← hn] at c0 hl hk
  have hki : (k : Int) < (n : Int) := by omega
  have hki3 : (k : Int) < (n : Int) + 1 := by omega
  have hki2 : (k : Int) + 1 < (n : Int) + 1 := by omega
  have hq2 : q ≤ 65536 := by omega
  have hqp : q - p = x := by omega
  have HQP := Lib.hid hqp
  have hp2 : p ≤ q := by omega
  have hw1 : IntKind.i64.wrap ((k : Int) + 1) = (k : Int) + 1 := by rw [IntKind.wrap_i64]; omega
  have hw2 : IntKind.i64.wrap (q - p) = q - p := by rw [IntKind.wrap_i64]; omega
  have htn : ((k : Int) + 1).toNat = k + 1 := by omega
  have hk0 : (0 : Int) ≤ (k : Int) + 1 := by omega
  clear hp hf hx hp1 hq1 hn hc hs hsn g1 hqp hk
  go_enter Try.func25, Try.ntmps25
  go_wp2
  refine wp_region_still_lit (by kernel_rfl) (by kernel_rfl) ?_
  repeat still_step
  refine wpStill_nil ?_
  change Exit.then _ _ _ _ w.drew
  go_wp2
  go_ret2
  exact ⟨by rw [HQP.out]; rfl, (Below.refl _ _).drew⟩
set_option maxRecDepth 100000 in
theorem slotLetter_any (v : Int) (h : IsSlots w P c b T) : Calls Try.prog 98 #[.pointer (some ⟨P, 0, none⟩), .int .i64 v] w fun e w' => e = .returned (findV (fFind c v)) ∧ w' = w := by
  obtain ⟨⟨F, H, hp, -, hh⟩, hc, hs, hT, hl⟩ := h
  have c1 := hp.cell 1
  simp only [List.getElem?_cons_zero, List.getElem?_cons_succ] at c1
  by_cases h1 : v < 0
  · rw [fFind_none hc (.inl h1)]
    clear hp hh hc hs
    go_enter Try.func98, Try.ntmps98
    go_wp2
    go_ret2
    exact ⟨rfl, rfl⟩
  by_cases h2 : (T : Int) ≤ v
  · rw [fFind_none hc (.inr (by omega))]
    clear hp hh hc hs
    go_enter Try.func98, Try.ntmps98
    go_wp2
    go_ret2
    exact ⟨rfl, rfl⟩
  · obtain ⟨z, rfl⟩ := Int.eq_ofNat_of_zero_le (show 0 ≤ v by omega)
    obtain ⟨r, hr, hrc, -, -⟩ := fFind_all hc (v := (z : Int)) (by omega) (by omega)
    have hslen : (sRow c c.length).length = T := by
      have := sRow_len hc c.length (Nat.le_refl _)
      rw [fPre_most c (Nat.le_refl _), hs] at this
      omega
    rw [hRow_all hslen] at hh
    have hget := sRow_get hc hr c.length hrc (Nat.le_refl _)
    have hzl : z < (sRow c c.length).length := by omega
    rw [List.getElem?_eq_getElem hzl, Option.some.injEq] at hget
    have hgc := hh.cell z
    rw [hvs_get _ _ hzl, hget] at hgc
    have hzT : (z : Int) < (T : Int) := by omega
    have hr2 : r ≤ 4096 := by omega
    rw [hr]
    clear hp hh hc hs hslen hget hzl hr hrc
    go_enter Try.func98, Try.ntmps98
    go_wp2
    go_ret2
    exact ⟨rfl, rfl⟩
end
theorem sknown_find : fFind [3, 0, 1] 2 = some 0 ∧ fFind [3, 0, 1] 3 = some 2 := by decide
end Go.Proofs.Ytfdgnhfppginiaa
