/- Layer 25: the program's new model. -/
import Derived.Test.YtnghcfogigglmaaModSeen
namespace Go.Proofs.Ytnghcfogigglmaa
open Go.RowKit Go.Sort

/-- A new model's cells and mixer, while its banks are made. -/
structure NewB (w wr : World) (M X : Nat) (f1 f2 f3 : Value) : Prop where
  mb : Blk wr M 47 [f1, f2, f3, .pointer (some ⟨X, 0, none⟩), .int .i64 1, .int .i64 0, .int .i64 0]
  x : IsMix wr X 3 (List.replicate 3 64)
  below : Below w.heap.size w wr
/-- A bank made for it. -/
structure NewK (w wr : World) (F C bits n : Nat) : Prop where
  b : IsBank wr F C bits n (List.replicate n 32768)
  lo : w.heap.size ≤ F ∧ w.heap.size ≤ C
section
variable {w wr w6 : World} {M X F C bits n F' C' bits' n' : Nat} {f1 f2 f3 : Value}
theorem NewK.next (h : NewK w wr F C bits n) (hb : Below wr.heap.size wr w6) {g : Nat} {cs : List Value} (hm : Blk w6 g 47 cs) (k : Nat) (v : Value) : NewK w (w6.setCell ⟨g, k, none⟩ v) F C bits n := by
  have h1 := h.b.grow hb
  exact ⟨⟨h1.fb.setOther _ v (blk_ne h1.fb hm (by decide)), h1.cb.setOther _ v (blk_ne h1.cb hm (by decide)), h1.row, h1.pow, h1.lo⟩, h.lo⟩
theorem NewK.made (h : IsBank w6 F C bits n (List.replicate n 32768)) (hlo : wr.heap.size ≤ F ∧ wr.heap.size ≤ C) (hs : w.heap.size ≤ wr.heap.size) {g : Nat} {cs : List Value} (hm : Blk w6 g 47 cs) (k : Nat) (v : Value) : NewK w (w6.setCell ⟨g, k, none⟩ v) F C bits n :=
  ⟨⟨h.fb.setOther _ v (blk_ne h.fb hm (by decide)), h.cb.setOther _ v (blk_ne h.cb hm (by decide)), h.row, h.pow, h.lo⟩, by omega, by omega⟩
theorem NewB.next (h : NewB w wr M X f1 f2 f3) (hM : w.heap.size ≤ M) (hb : Below wr.heap.size wr w6) (v : Value) :
    NewB w (w6.setCell ⟨M, 0, none⟩ v) M X v f2 f3 ∧ NewB w (w6.setCell ⟨M, 1, none⟩ v) M X f1 v f3 ∧ NewB w (w6.setCell ⟨M, 2, none⟩ v) M X f1 f2 v := by
  have hm := h.mb.grow hb
  have hx := h.x.grow hb
  have hl := h.below.trans (hb.mono h.below.size)
  have x2 := fun k => (⟨hx.fb.setOther ⟨M, k, none⟩ v (blk_ne hx.fb hm (by decide)), hx.wts, hx.lo⟩ : IsMix (w6.setCell ⟨M, k, none⟩ v) X 3 (List.replicate 3 64))
  exact ⟨⟨hm.set_ 0 v, x2 0, hl.setCell (p := ⟨M, 0, none⟩) hM v⟩, ⟨hm.set_ 1 v, x2 1, hl.setCell (p := ⟨M, 1, none⟩) hM v⟩, ⟨hm.set_ 2 v, x2 2, hl.setCell (p := ⟨M, 2, none⟩) hM v⟩⟩
theorem NewB.drew (h : NewB w wr M X f1 f2 f3) : NewB w wr.drew M X f1 f2 f3 := ⟨h.mb.same rfl, h.x.same rfl, h.below.drew⟩
theorem NewK.drew (h : NewK w wr F C bits n) : NewK w wr.drew F C bits n := ⟨h.b.same rfl, h.lo⟩
theorem idxI (w : World) : (Instr.index 48 (.agg #[.int .i64 9, .int .i64 11, .int .i64 13]) (.int .i64 0)).run Try.prog w = .ok (.int .i64 9) w ∧ (Instr.index 48 (.agg #[.int .i64 9, .int .i64 11, .int .i64 13]) (.int .i64 1)).run Try.prog w = .ok (.int .i64 11) w ∧ (Instr.index 48 (.agg #[.int .i64 9, .int .i64 11, .int .i64 13]) (.int .i64 2)).run Try.prog w = .ok (.int .i64 13) w :=
  ⟨by kernel_rfl, by kernel_rfl, by kernel_rfl⟩
set_option maxHeartbeats 4000000 in
theorem modNew_any (w : World) : Calls Try.prog 7 #[] w fun e w' => ∃ a : ModA, e = .returned (.pointer (some ⟨a.M, 0, none⟩)) ∧ IsModel w' a newD ∧ (∀ k ∈ a.every, w.heap.size ≤ k) ∧ Below w.heap.size w w' := by
  have CX := Lib.hid (mixNew_any 3 w (by decide))
  have C1c := Lib.hid (fun W => ctxNew_any 9 512 W (by decide) (by decide))
  have C2c := Lib.hid (fun W => ctxNew_any 11 2048 W (by decide) (by decide))
  have C3c := Lib.hid (fun W => ctxNew_any 13 8192 W (by decide) (by decide))
  go_enter Try.func7, Try.ntmps7
  go_wp2_with fail
  refine CX.out.mono ?_
  rintro e w1 ⟨X, rfl, hx1, hX, hb1⟩
  obtain ⟨w2, hw2⟩ : ∃ w2, w2 = w1.alloc (.cells #[.pointer none, .pointer none, .pointer none, .pointer (some ⟨X, 0, none⟩), .int .i64 1, .int .i64 0, .int .i64 0] 47) := ⟨_, rfl⟩
  have hm2 : Blk w2 w1.heap.size 47 [.pointer none, .pointer none, .pointer none, .pointer (some ⟨X, 0, none⟩), .int .i64 1, .int .i64 0, .int .i64 0] := by rw [hw2]; exact heap_alloc_new w1 _
  have hb2 : Below w1.heap.size w1 w2 := by rw [hw2]; exact (Below.refl w1.heap.size w1).alloc (Nat.le_refl _) _
  obtain ⟨M, hM⟩ : ∃ M, M = w1.heap.size := ⟨_, rfl⟩
  rw [← hM] at hm2
  have HM := Lib.hid (show w.heap.size ≤ M by rw [hM]; exact hb1.size)
  have HN := Lib.hid (⟨hm2, hx1.grow hb2, hb1.trans (hb2.mono hb1.size)⟩ : NewB w w2 M X (.pointer none) (.pointer none) (.pointer none))
  have HX := Lib.hid hX
  have HW := Lib.hid (And.intro hw2 hM)
  clear hx1 hX hb1 hw2 hm2 hb2 hM
  go_wp2
  rw [← HW.out.1, ← HW.out.2]
  go_loopw [8] (fun ii wr =>
    (ii = .int .i64 0 ∧ NewB w wr M X (.pointer none) (.pointer none) (.pointer none))
    ∨ (ii = .int .i64 1 ∧ ∃ F1 C1 : Nat, NewB w wr M X (.pointer (some ⟨F1, 0, none⟩)) (.pointer none) (.pointer none) ∧ NewK w wr F1 C1 9 512)
    ∨ (ii = .int .i64 2 ∧ ∃ F1 C1 F2 C2 : Nat, NewB w wr M X (.pointer (some ⟨F1, 0, none⟩)) (.pointer (some ⟨F2, 0, none⟩)) (.pointer none) ∧ NewK w wr F1 C1 9 512 ∧ NewK w wr F2 C2 11 2048 ∧ C1 ≠ C2)
    ∨ (ii = .int .i64 3 ∧ ∃ F1 C1 F2 C2 F3 C3 : Nat, NewB w wr M X (.pointer (some ⟨F1, 0, none⟩)) (.pointer (some ⟨F2, 0, none⟩)) (.pointer (some ⟨F3, 0, none⟩)) ∧ NewK w wr F1 C1 9 512 ∧ NewK w wr F2 C2 11 2048 ∧ NewK w wr F3 C3 13 8192 ∧ C1 ≠ C2 ∧ C1 ≠ C3 ∧ C2 ≠ C3)) (fun ii _ => 3 - (intOf ii).toNat)
  case atStart => exact .inl ⟨rfl, HN.out⟩
  case round =>
    clear HN HW
    rcases hrel with ⟨rfl, hJ⟩ | ⟨rfl, hJ⟩ | ⟨rfl, hJ⟩ | ⟨rfl, hJ⟩
    · have hN := hJ
      have ix := (idxI wr).1
      have HND := Lib.hid hN.drew
      clear hN hJ
      go_wp2
      go_region_with (go_at_call 16; refine (C1c.out _).mono ?_; rintro _ w6 ⟨F1, rfl, C1, hbk, hlo, hb6⟩; have d0 := (HND.out.mb.grow hb6).cell 0; have f0 := (HND.out.mb.grow hb6).frozen 0; simp only [List.getElem?_cons_zero] at d0; have HR := Lib.hid (And.intro hbk (And.intro hlo hb6)); clear hbk hlo hb6)
      have hm6 := HND.out.mb.grow HR.out.2.2
      have HX1 := Lib.hid (NewK.made HR.out.1 HR.out.2.1 HND.out.below.size hm6 0 (.pointer (some ⟨F1, 0, none⟩)))
      have HNN := Lib.hid (HND.out.next HM.out HR.out.2.2 (.pointer (some ⟨F1, 0, none⟩))).1
      clear hm6 d0 f0
      go_wp2
      go_roundw
      case rel => exact .inr (.inl ⟨rfl, F1, C1, HNN.out, HX1.out⟩)
      case measure => simp [intOf]
    · obtain ⟨F1, C1, hN, hk1⟩ := hJ
      have ix := (idxI wr).2.1
      have HND := Lib.hid hN.drew
      have HK1 := Lib.hid hk1.drew
      clear hN hk1
      go_wp2
      go_region_with (go_at_call 16; refine (C2c.out _).mono ?_; rintro _ w6 ⟨F2, rfl, C2, hbk, hlo, hb6⟩; have d0 := (HND.out.mb.grow hb6).cell 1; have f0 := (HND.out.mb.grow hb6).frozen 1; simp only [List.getElem?_cons_zero, List.getElem?_cons_succ] at d0; have HR := Lib.hid (And.intro hbk (And.intro hlo hb6)); clear hbk hlo hb6)
      have hm6 := HND.out.mb.grow HR.out.2.2
      have HX1 := Lib.hid (HK1.out.next HR.out.2.2 hm6 1 (.pointer (some ⟨F2, 0, none⟩)))
      have HX2 := Lib.hid (NewK.made HR.out.1 HR.out.2.1 HND.out.below.size hm6 1 (.pointer (some ⟨F2, 0, none⟩)))
      have HNN := Lib.hid (HND.out.next HM.out HR.out.2.2 (.pointer (some ⟨F2, 0, none⟩))).2.1
      have HNE1 := Lib.hid (show C1 ≠ C2 from Nat.ne_of_lt (Nat.lt_of_lt_of_le HK1.out.b.cb.lt HR.out.2.1.2))
      clear hm6 d0 f0
      go_wp2
      go_roundw
      case rel => exact .inr (.inr (.inl ⟨rfl, F1, C1, F2, C2, HNN.out, HX1.out, HX2.out, HNE1.out⟩))
      case measure => simp [intOf]
    · obtain ⟨F1, C1, F2, C2, hN, hk1, hk2, h12⟩ := hJ
      have ix := (idxI wr).2.2
      have HND := Lib.hid hN.drew
      have HK1 := Lib.hid hk1.drew
      have HK2 := Lib.hid hk2.drew
      have H12 := Lib.hid h12
      clear hN hk1 hk2 h12
      go_wp2
      go_region_with (go_at_call 16; refine (C3c.out _).mono ?_; rintro _ w6 ⟨F3, rfl, C3, hbk, hlo, hb6⟩; have d0 := (HND.out.mb.grow hb6).cell 2; have f0 := (HND.out.mb.grow hb6).frozen 2; simp only [List.getElem?_cons_zero, List.getElem?_cons_succ] at d0; have HR := Lib.hid (And.intro hbk (And.intro hlo hb6)); clear hbk hlo hb6)
      have hm6 := HND.out.mb.grow HR.out.2.2
      have HX1 := Lib.hid (HK1.out.next HR.out.2.2 hm6 2 (.pointer (some ⟨F3, 0, none⟩)))
      have HX2 := Lib.hid (HK2.out.next HR.out.2.2 hm6 2 (.pointer (some ⟨F3, 0, none⟩)))
      have HX3 := Lib.hid (NewK.made HR.out.1 HR.out.2.1 HND.out.below.size hm6 2 (.pointer (some ⟨F3, 0, none⟩)))
      have HNN := Lib.hid (HND.out.next HM.out HR.out.2.2 (.pointer (some ⟨F3, 0, none⟩))).2.2
      have HNE1 := Lib.hid (show C1 ≠ C3 from Nat.ne_of_lt (Nat.lt_of_lt_of_le HK1.out.b.cb.lt HR.out.2.1.2))
      have HNE2 := Lib.hid (show C2 ≠ C3 from Nat.ne_of_lt (Nat.lt_of_lt_of_le HK2.out.b.cb.lt HR.out.2.1.2))
      clear hm6 d0 f0
      go_wp2
      go_roundw
      case rel => exact .inr (.inr (.inr (⟨rfl, F1, C1, F2, C2, F3, C3, HNN.out, HX1.out, HX2.out, HX3.out, H12.out, HNE1.out, HNE2.out⟩)))
      case measure => simp [intOf]
    · obtain ⟨F1, C1, F2, C2, F3, C3, hN, hk1, hk2, hk3, h12, h13, h23⟩ := hJ
      have HFIN := Lib.hid (⟨hN.mb, hk1.b, hk2.b, hk3.b, hN.x, newD_ok, h12, h13, h23⟩ : IsModel wr ⟨M, F1, C1, F2, C2, F3, C3, X⟩ newD)
      have HLO := Lib.hid (And.intro hk1.lo (And.intro hk2.lo (And.intro hk3.lo hN.below)))
      clear hN hk1 hk2 hk3 h12 h13 h23
      go_wp2
      go_ret
      refine ⟨⟨M, F1, C1, F2, C2, F3, C3, X⟩, rfl, HFIN.out, fun k hk => ?_, HLO.out.2.2.2⟩
      simp only [ModA.every, List.mem_cons, List.not_mem_nil, or_false] at hk
      have h1 := HLO.out
      have h2 := HM.out
      have h3 := HX.out
      omega
end
end Go.Proofs.Ytnghcfogigglmaa
