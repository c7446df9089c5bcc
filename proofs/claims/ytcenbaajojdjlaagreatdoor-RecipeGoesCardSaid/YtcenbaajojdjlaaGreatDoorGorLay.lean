/- Contracts of gorilla's window: around, has, lay. -/
import Derived.Test.YtcenbaajojdjlaaGreatDoorGorWin
import Derived.Test.YtcenbaajojdjlaaGreatDoorBitKnown
import Derived.StillTailTactics
namespace Go.Proofs.YtcenbaajojdjlaaGreatDoor
open Go.RowKit

def triV (a m b : Nat) : Value := .agg #[.int .i64 (a : Int), .int .i64 (m : Int), .int .i64 (b : Int)]
theorem win_size : (Tryz.prog.info? 96).map (·.size) = some 3 := by kernel_rfl
/-- The window as a value: none is all noughts. -/
def winV (W : Nat) : Win → Value
  | none => triV 0 0 0
  | some p => triV p.1 (8 * W - p.1 - p.2) p.2

set_option maxHeartbeats 1000000 in
set_option maxRecDepth 100000 in
theorem around_any {W : Nat} (hW : IsW W) (x : Nat) (h0 : x ≠ 0) (hx : x < 256 ^ W) (w : World) (ht : TabA w) :
    Calls Tryz.prog 107 #[.int .u64 (x : Int), .int .i64 (W : Int)] w fun e w' => e = .returned (winV W (some (aboveN W x, belowN x))) ∧ Below w.heap.size w w' := by
  have hp := hW.pos
  obtain ⟨h1, h2, h3, h4, h5, h6, h7, h8⟩ := own_facts hp.2 h0 hx
  have C := Lib.hid (fun (w' : World) (h : TabA w') => window_any hW x h0 hx w' h)
  have HT := Lib.hid ht
  obtain ⟨a, ha⟩ : ∃ a, a = aboveN W x := ⟨_, rfl⟩
  obtain ⟨b, hb⟩ : ∃ b, b = belowN x := ⟨_, rfl⟩
  rw [← ha, ← hb] at C h1
  rw [← ha, ← hb]
  have hWi : (W : Int) ≤ 8 := by omega
  have hab : (a : Int) + (b : Int) < 8 * (W : Int) := by omega
  clear h2 h3 h4 h5 h6 h7 h8 ha hb hp ht hx h0 hW
  go_enter Tryz.func107, Tryz.ntmps107
  go_wp2_with fail
  refine (C.out _ (HT.out.grow ((Below.refl _ _).alloc (Nat.le_refl _) _))).mono ?_
  rintro e w' ⟨rfl, rfl⟩
  go_wp2
  have hm : 8 * (W : Int) - (a : Int) - (b : Int) = ((8 * W - a - b : Nat) : Int) := by omega
  rw [hm]
  exact bodyPost_ret (v := winV W (some (a, b))) (results_cell_row Tryz.results107 _ _ w.heap.size 96 _ (0, 0) _ rfl (heap_alloc_new w _) Tryz.underlying96 rfl win_size) rfl ⟨rfl, (Below.refl _ _).alloc (Nat.le_refl _) _⟩

set_option maxHeartbeats 1000000 in
set_option maxRecDepth 100000 in
theorem has_any {W : Nat} (s : Win) (hs : winOk W s) (a m b : Nat) (w : World) :
    Calls Tryz.prog 108 #[winV W s, triV a m b] w fun e w' => e = .returned (.bool (hasB s a b)) ∧ Below w.heap.size w w' := by
  cases s with
  | none =>
    unfold winV triV
    go_enter Tryz.func108, Tryz.ntmps108
    go_wp2
    go_ret
    exact ⟨rfl, ((Below.refl _ _).alloc (Nat.le_refl _) _).alloc (by simp) _⟩
  | some p =>
    obtain ⟨hi, lo⟩ := p
    unfold winV triV
    simp only [winOk] at hs
    have hpos : 0 < 8 * W - hi - lo := by omega
    go_enter Tryz.func108, Tryz.ntmps108
    go_wp2
    all_goals
      rename_i h
      go_ret
      exact ⟨by simp [hasB, h], ((Below.refl _ _).alloc (Nat.le_refl _) _).alloc (by simp) _⟩

theorem winV_some (W a b : Nat) : winV W (some (a, b)) = .agg #[.int .i64 (a : Int), .int .i64 ((8 * W - a - b : Nat) : Int), .int .i64 (b : Int)] := rfl
theorem winV_form (W : Nat) (s : Win) (hs : winOk W s) : ∃ a m b : Nat, winV W s = triV a m b ∧ a ≤ 8 * W ∧ m ≤ 8 * W ∧ b ≤ 8 * W ∧ (s ≠ none → a = (s.getD (0, 0)).1 ∧ b = (s.getD (0, 0)).2 ∧ m = 8 * W - a - b ∧ 0 < m) ∧ (s = none → a = 0 ∧ m = 0 ∧ b = 0) := by
  cases s with
  | none => exact ⟨0, 0, 0, rfl, by omega, by omega, by omega, fun h => absurd rfl h, fun _ => ⟨rfl, rfl, rfl⟩⟩
  | some p =>
    obtain ⟨a, b⟩ := p
    simp only [winOk] at hs
    exact ⟨a, 8 * W - a - b, b, rfl, by omega, by omega, by omega, fun _ => ⟨rfl, rfl, rfl, by omega⟩, fun h => by cases h⟩
theorem put0 (g B : Nat) (L : List Bool) (w : World) (h : WrAt w B g L) (hl : L.length < 900000000) :
    Calls Tryz.prog 91 #[.pointer (some ⟨g, 0, none⟩), .int .u64 0, .int .i64 1] w fun e w' => e = .returned (.int .i64 0) ∧ WrAt w' B g (L ++ [false]) ∧ OnlyT B [94, 5] w w' :=
  wPut_any g B L 0 1 w h hl (by decide) (by decide)
theorem put1 (g B : Nat) (L : List Bool) (w : World) (h : WrAt w B g L) (hl : L.length < 900000000) :
    Calls Tryz.prog 91 #[.pointer (some ⟨g, 0, none⟩), .int .u64 1, .int .i64 1] w fun e w' => e = .returned (.int .i64 0) ∧ WrAt w' B g (L ++ [true]) ∧ OnlyT B [94, 5] w w' :=
  wPut_any g B L 1 1 w h hl (by decide) (by decide)
/-- What lay leaves. -/
def Lays (w : World) (B g W : Nat) (L : List Bool) (s : Win) (x : Nat) (e : Ending) (w' : World) : Prop :=
  e = .returned (winV W (nextW W s x)) ∧ WrAt w' B g (L ++ stepB W s x) ∧ OnlyT B [94, 5] w w'
theorem set3 {w : World} {g : Nat} {t : TypeId} {u0 u1 u2 : Value} (h : Blk w g t [u0, u1, u2]) (v0 v1 v2 : Value) : Blk (((w.setCell ⟨g, 0, none⟩ v0).setCell ⟨g, 1, none⟩ v1).setCell ⟨g, 2, none⟩ v2) g t [v0, v1, v2] :=
  ((h.set_ 0 v0).set_ 1 v1).set_ 2 v2
theorem set3_other {w : World} {g k : Nat} {t : TypeId} {cs : List Value} (h : Blk w k t cs) (hn : k ≠ g) (v0 v1 v2 : Value) : Blk (((w.setCell ⟨g, 0, none⟩ v0).setCell ⟨g, 1, none⟩ v1).setCell ⟨g, 2, none⟩ v2) k t cs :=
  ((h.setOther ⟨g, 0, none⟩ v0 hn).setOther ⟨g, 1, none⟩ v1 hn).setOther ⟨g, 2, none⟩ v2 hn
theorem set3_only {w : World} {g B : Nat} {t : TypeId} {u0 u1 u2 : Value} (h : Blk w g t [u0, u1, u2]) (hg : B ≤ g) (v0 v1 v2 : Value) : OnlyT B [t] w (((w.setCell ⟨g, 0, none⟩ v0).setCell ⟨g, 1, none⟩ v1).setCell ⟨g, 2, none⟩ v2) :=
  ((OnlyT.set_ h hg v0 (by simp)).trans (OnlyT.set_ (h.set_ 0 v0) hg v1 (by simp))).trans (OnlyT.set_ ((h.set_ 0 v0).set_ 1 v1) hg v2 (by simp))
theorem set3_below {w : World} {g B : Nat} (hg : B ≤ g) (v0 v1 v2 : Value) : Below B w (((w.setCell ⟨g, 0, none⟩ v0).setCell ⟨g, 1, none⟩ v1).setCell ⟨g, 2, none⟩ v2) :=
  (((Below.refl B w).setCell (p := ⟨g, 0, none⟩) hg v0).setCell (p := ⟨g, 1, none⟩) hg v1).setCell (p := ⟨g, 2, none⟩) hg v2
theorem OnlyT.late {B : Nat} {ts : List TypeId} {w w1 w2 : World} (h : OnlyT B ts w w1) (h2 : Below w.heap.size w1 w2) : OnlyT B ts w w2 :=
  ⟨h2.os.trans h.os, h2.tape.trans h.tape, h2.output.trans h.output, Nat.le_trans h.size h2.size, fun k hk hn => (h2.block k hk).trans (h.block k hk hn)⟩
theorem WrAt.base {w : World} {B g : Nat} {L : List Bool} (h : WrAt w B g L) : B ≤ w.heap.size := by
  obtain ⟨v, bs, hb, hg, _⟩ := h
  exact Nat.le_trans hg (Nat.le_of_lt hb.lt)
theorem win_end {w' : World} {p : Nat} {tmps : Array Value} {fn : Func} {q : Tmp} (hres : fn.results = #[.cell q 96]) {v0 v1 v2 : Value} (hp : tmps.getD q undef = .pointer (some ⟨p, 0, none⟩)) (hk : Blk w' p 96 [v0, v1, v2]) : (results fn tmps).run Tryz.prog w' = .ok (.agg #[v0, v1, v2]) w' :=
  results_cell_row hres tmps w' p 96 _ (0, 0) _ hp hk Tryz.underlying96 rfl win_size
set_option maxHeartbeats 2000000 in
set_option maxRecDepth 100000 in
theorem winLay_zero {W : Nat} (s : Win) (hs : winOk W s) (g B : Nat) (L : List Bool) (w : World) (h : WrAt w B g L) (hl : L.length < 800000000) :
    Calls Tryz.prog 92 #[winV W s, .pointer (some ⟨g, 0, none⟩), .int .u64 0, .int .i64 (W : Int)] w (Lays w B g W L s 0) := by
  obtain ⟨a, m, b, hf, -, -, -, -, -⟩ := winV_form W s hs
  have hn : nextW W s 0 = s := rfl
  have hb : stepB W s 0 = [false] := rfl
  unfold Lays
  rw [hn, hb, hf]
  unfold triV
  have H := Lib.hid h
  clear hf hn hb hs h
  go_enter Tryz.func92, Tryz.ntmps92
  go_wp2_with fail
  have hb1 : Below w.heap.size w ((w.alloc (.cells #[.int .i64 (a : Int), .int .i64 (m : Int), .int .i64 (b : Int)] 96)).alloc (.cells #[.int .i64 0, .int .i64 0, .int .i64 0] 96)) := ((Below.refl _ _).alloc (Nat.le_refl _) _).alloc (by simp) _
  have hk1 : Blk ((w.alloc (.cells #[.int .i64 (a : Int), .int .i64 (m : Int), .int .i64 (b : Int)] 96)).alloc (.cells #[.int .i64 0, .int .i64 0, .int .i64 0] 96)) w.heap.size 96 [.int .i64 (a : Int), .int .i64 (m : Int), .int .i64 (b : Int)] := Blk.alloc_ (heap_alloc_new w _) _
  have hk2 : Blk ((w.alloc (.cells #[.int .i64 (a : Int), .int .i64 (m : Int), .int .i64 (b : Int)] 96)).alloc (.cells #[.int .i64 0, .int .i64 0, .int .i64 0] 96)) (w.heap.size + 1) 96 [.int .i64 0, .int .i64 0, .int .i64 0] := by
    have := heap_alloc_new (w.alloc (.cells #[.int .i64 (a : Int), .int .i64 (m : Int), .int .i64 (b : Int)] 96)) (.cells #[.int .i64 0, .int .i64 0, .int .i64 0] 96)
    simpa [Blk] using this
  have hs1 : w.heap.size + 2 ≤ ((w.alloc (.cells #[.int .i64 (a : Int), .int .i64 (m : Int), .int .i64 (b : Int)] 96)).alloc (.cells #[.int .i64 0, .int .i64 0, .int .i64 0] 96)).heap.size := by simp
  have HAT := Lib.hid (H.out.only (OnlyT.of_below hb1 (B := B) (ts := [])) (by decide) (by decide))
  have HO := Lib.hid (OnlyT.of_below hb1 (B := B) (ts := [94, 5]))
  have K1 := Lib.hid hk1
  have K2 := Lib.hid hk2
  have HS := Lib.hid hs1
  clear hb1 hk1 hk2 hs1 H
  refine (put0 g B L _ HAT.out (by omega)).mono ?_
  rintro e w2 ⟨rfl, hat, hon⟩
  have K1n := Lib.hid (K1.out.only hon (by decide))
  have K2n := Lib.hid (K2.out.only hon (by decide))
  have HATn := Lib.hid hat
  have HOn := Lib.hid (HO.out.trans hon)
  have HSn := Lib.hid (Nat.le_trans HS.out hon.size)
  clear hat hon HAT HO HS K1 K2
  have K1 := K1n
  clear K1n
  have K2 := K2n
  clear K2n
  have HAT := HATn
  have HO := HOn
  have HS := HSn
  clear HATn HOn HSn
  have hk1 := K1.out
  have hk2 := K2.out
  have c0 := hk1.cell 0
  have c1 := hk1.cell 1
  have c2 := hk1.cell 2
  simp only [List.getElem?_cons_zero, List.getElem?_cons_succ] at c0 c1 c2
  have d0 := hk2.cell 0
  have d1 := hk2.cell 1
  have d2 := hk2.cell 2
  simp only [List.getElem?_cons_zero, List.getElem?_cons_succ] at d0 d1 d2
  have df0 := hk2.frozen 0
  have df1 := hk2.frozen 1
  have df2 := hk2.frozen 2
  clear hk1 hk2
  go_wp2_with fail
  have hat := HAT.out.only (set3_only K2.out (B := 0) (Nat.zero_le _) (.int .i64 (a : Int)) (.int .i64 (m : Int)) (.int .i64 (b : Int))) (by decide) (by decide)
  have hk := set3 K2.out (.int .i64 (a : Int)) (.int .i64 (m : Int)) (.int .i64 (b : Int))
  have ho := HO.out.late (set3_below (B := w.heap.size) (g := w.heap.size + 1) (by omega) (.int .i64 (a : Int)) (.int .i64 (m : Int)) (.int .i64 (b : Int)))
  exact bodyPost_ret (win_end Tryz.results92 rfl hk) rfl ⟨rfl, hat, ho⟩
set_option maxHeartbeats 4000000 in
set_option maxRecDepth 100000 in
theorem winLay_in {W : Nat} (hW : IsW W) (s : Win) (hs : winOk W s) (x : Nat) (h0 : x ≠ 0) (hx : x < 256 ^ W) (hh : hasB s (aboveN W x) (belowN x) = true) (g B : Nat) (L : List Bool) (w : World) (h : WrAt w B g L) (hl : L.length < 800000000) (ht : TabA w) (hB0 : 0 < B) :
    Calls Tryz.prog 92 #[winV W s, .pointer (some ⟨g, 0, none⟩), .int .u64 (x : Int), .int .i64 (W : Int)] w (Lays w B g W L s x) := by
  have hp := hW.pos
  have h8 : 256 ^ W ≤ 18446744073709551616 := by rcases hW with rfl | rfl | rfl | rfl <;> decide
  obtain ⟨f1, f2, f3, f4, f5, f6, f7, f8⟩ := own_facts hp.2 h0 hx
  obtain ⟨a0, m0, b0, hf, k1, k2, k3, hsome, -⟩ := winV_form W s hs
  have CA := Lib.hid (fun (w' : World) (h : TabA w') => around_any hW x h0 hx w' h)
  have ch := fun (w' : World) => has_any s hs (aboveN W x) (8 * W - aboveN W x - belowN x) (belowN x) w'
  rw [hh, hf] at ch
  have hx1 : ((x : Int) == 0) = false := by rw [beq_eq_false_iff_ne]; omega
  have hn : nextW W s x = s := by unfold nextW; rw [if_neg h0, hh, if_pos rfl]
  have hsb : stepB W s x = [true, false] ++ bitsOf (x / 2 ^ b0) m0 := by
    unfold stepB
    rw [if_neg h0, hh, if_pos rfl]
    obtain ⟨p, rfl, -, -⟩ := hasB_some hh
    obtain ⟨e1, e2, e3, e4⟩ := hsome (by simp)
    unfold winB ownB
    rw [e3, e1, e2]
  unfold Lays
  rw [hn, hsb, hf]
  obtain ⟨a, ha⟩ : ∃ a, a = aboveN W x := ⟨_, rfl⟩
  obtain ⟨b, hb⟩ : ∃ b, b = belowN x := ⟨_, rfl⟩
  obtain ⟨m, hm⟩ : ∃ m, m = 8 * W - a - b := ⟨_, rfl⟩
  unfold winV at CA
  simp only [← ha, ← hb, ← hm] at CA ch f1 ⊢
  unfold triV at ch CA
  unfold triV
  have CH := Lib.hid ch
  have hm0 : 0 < m := by omega
  have hm64 : m ≤ 64 := by omega
  have ha64 : a < 64 := by omega
  have hb64 : b < 64 := by omega
  have hm00 : m0 ≤ 64 := by omega
  have hb00 : b0 ≤ 64 := by omega
  have hx64 : x < 18446744073709551616 := by omega
  have H := Lib.hid h
  have HT := Lib.hid ht
  have HBW := Lib.hid h.base
  clear hf hn hsb hs h ch ht f1 f2 f3 f4 f5 f6 f7 f8 k1 k2 k3 hsome hm ha hb hh hx h0 hW h8
  go_enter Tryz.func92, Tryz.ntmps92
  go_wp2_with fail
  have hb1 : Below w.heap.size w ((w.alloc (.cells #[.int .i64 (a0 : Int), .int .i64 (m0 : Int), .int .i64 (b0 : Int)] 96)).alloc (.cells #[.int .i64 0, .int .i64 0, .int .i64 0] 96)) := ((Below.refl _ _).alloc (Nat.le_refl _) _).alloc (by simp) _
  have hk1 : Blk ((w.alloc (.cells #[.int .i64 (a0 : Int), .int .i64 (m0 : Int), .int .i64 (b0 : Int)] 96)).alloc (.cells #[.int .i64 0, .int .i64 0, .int .i64 0] 96)) w.heap.size 96 [.int .i64 (a0 : Int), .int .i64 (m0 : Int), .int .i64 (b0 : Int)] := Blk.alloc_ (heap_alloc_new w _) _
  have hk2 : Blk ((w.alloc (.cells #[.int .i64 (a0 : Int), .int .i64 (m0 : Int), .int .i64 (b0 : Int)] 96)).alloc (.cells #[.int .i64 0, .int .i64 0, .int .i64 0] 96)) (w.heap.size + 1) 96 [.int .i64 0, .int .i64 0, .int .i64 0] := by
    have := heap_alloc_new (w.alloc (.cells #[.int .i64 (a0 : Int), .int .i64 (m0 : Int), .int .i64 (b0 : Int)] 96)) (.cells #[.int .i64 0, .int .i64 0, .int .i64 0] 96)
    simpa [Blk] using this
  have hs1 : w.heap.size + 2 ≤ ((w.alloc (.cells #[.int .i64 (a0 : Int), .int .i64 (m0 : Int), .int .i64 (b0 : Int)] 96)).alloc (.cells #[.int .i64 0, .int .i64 0, .int .i64 0] 96)).heap.size := by simp
  have HAT := Lib.hid (H.out.only (OnlyT.of_below hb1 (B := B) (ts := [])) (by decide) (by decide))
  have HO := Lib.hid (OnlyT.of_below hb1 (B := B) (ts := [94, 5]))
  have K1 := Lib.hid hk1
  have K2 := Lib.hid hk2
  have HS := Lib.hid hs1
  clear hb1 hk1 hk2 hs1 H
  refine (put1 g B L _ HAT.out (by omega)).mono ?_
  rintro e w2 ⟨rfl, hat, hon⟩
  have K1n := Lib.hid (K1.out.only hon (by decide))
  have K2n := Lib.hid (K2.out.only hon (by decide))
  have HATn := Lib.hid hat
  have HOn := Lib.hid (HO.out.trans hon)
  have HSn := Lib.hid (Nat.le_trans HS.out hon.size)
  clear hat hon HAT HO HS K1 K2
  have K1 := K1n
  clear K1n
  have K2 := K2n
  clear K2n
  have HAT := HATn
  have HO := HOn
  have HS := HSn
  clear HATn HOn HSn
  have HT2 := Lib.hid (HT.out.below (HO.out.below HBW.out) hB0)
  go_wp2_with fail
  refine (CA.out w2 HT2.out).mono ?_
  rintro e w3 ⟨rfl, hb3⟩
  clear HT2
  have K1n := Lib.hid (K1.out.grow hb3)
  have K2n := Lib.hid (K2.out.grow hb3)
  have HATn := Lib.hid (HAT.out.only (OnlyT.of_below hb3 (B := B) (ts := [])) (by decide) (by decide))
  have HOn := Lib.hid (HO.out.trans (OnlyT.of_below hb3))
  have HSn := Lib.hid (Nat.le_trans HS.out hb3.size)
  clear hb3 K1 K2 HAT HO HS CA
  have hk1 := K1n.out.alloc_ (.cells #[.int .i64 (a : Int), .int .i64 (m : Int), .int .i64 (b : Int)] 96)
  have c0 := hk1.cell 0
  have c1 := hk1.cell 1
  have c2 := hk1.cell 2
  simp only [List.getElem?_cons_zero, List.getElem?_cons_succ] at c0 c1 c2
  clear hk1
  go_wp2_with fail
  refine (CH.out _).mono ?_
  rintro e w4 ⟨rfl, hb4⟩
  have K1 := Lib.hid ((K1n.out.alloc_ _).grow hb4)
  have K2 := Lib.hid ((K2n.out.alloc_ _).grow hb4)
  have hk3 : Blk (w3.alloc (.cells #[.int .i64 (a : Int), .int .i64 (m : Int), .int .i64 (b : Int)] 96)) w3.heap.size 96 [.int .i64 (a : Int), .int .i64 (m : Int), .int .i64 (b : Int)] := heap_alloc_new w3 _
  have K3 := Lib.hid (hk3.grow hb4)
  have hba : Below w3.heap.size w3 w4 := ((Below.refl _ _).alloc (Nat.le_refl _) _).trans (hb4.mono (by simp))
  have HAT := Lib.hid (HATn.out.only (OnlyT.of_below hba (B := B) (ts := [])) (by decide) (by decide))
  have HO := Lib.hid (HOn.out.trans (OnlyT.of_below hba))
  have HS := Lib.hid (Nat.le_trans HSn.out hba.size)
  have HS3 := Lib.hid HSn.out
  obtain ⟨p3, hp3⟩ : ∃ p, p = w3.heap.size := ⟨_, rfl⟩
  rw [← hp3] at K3 HS3
  simp only [← hp3]
  clear hb4 hba hk3 K1n K2n HATn HOn HSn CH hp3 c0 c1 c2
  go_wp2_with fail
  refine (put0 g B (L ++ [true]) w4 HAT.out (by simp; omega)).mono ?_
  rintro e w5 ⟨rfl, hat, hon⟩
  have K1n := Lib.hid (K1.out.only hon (by decide))
  have K2n := Lib.hid (K2.out.only hon (by decide))
  have HATn := Lib.hid hat
  have HOn := Lib.hid (HO.out.trans hon)
  have HSn := Lib.hid (Nat.le_trans HS.out hon.size)
  clear hat hon HAT HO HS K1 K2
  have K1 := K1n
  clear K1n
  have K2 := K2n
  clear K2n
  have HAT := HATn
  have HO := HOn
  have HS := HSn
  clear HATn HOn HSn
  have hk1 := K1.out
  have c0 := hk1.cell 0
  have c1 := hk1.cell 1
  have c2 := hk1.cell 2
  simp only [List.getElem?_cons_zero, List.getElem?_cons_succ] at c0 c1 c2
  clear hk1 K3 HS3
  go_wp2_with fail
  refine wp_region_still_tail 7 (by kernel_rfl) (by kernel_rfl) ?_
  simp only [List.take_succ_cons, List.take_zero, List.drop_succ_cons, List.drop_zero]
  repeat still_step
  refine wpStill_nil ?_
  change wpList _ _ _ _ _ w5.drew
  go_wp2_with fail
  clear c0 c1 c2
  have hV : (x : Int) / 2 ^ b0 = ((x / 2 ^ b0 : Nat) : Int) := by rw [Int.natCast_ediv, Int.natCast_pow]; rfl
  rw [hV]
  clear hV
  refine (wPut_any g B (L ++ [true] ++ [false]) (x / 2 ^ b0) m0 _ (show WrAt w5.drew B g (L ++ [true] ++ [false]) from HAT.out) (by simp; omega) (Nat.lt_of_le_of_lt (Nat.div_le_self _ _) hx64) (by omega)).mono ?_
  rintro e w6 ⟨rfl, hat, hon⟩
  have K1n := Lib.hid (K1.out.drew_.only hon (by decide))
  have K2n := Lib.hid (K2.out.drew_.only hon (by decide))
  have HATn := Lib.hid hat
  have HOn := Lib.hid (HO.out.drew.trans hon)
  have HSn := Lib.hid (Nat.le_trans HS.out hon.size)
  clear hat hon HAT HO HS K1 K2
  have K1 := K1n
  clear K1n
  have K2 := K2n
  clear K2n
  have HAT := HATn
  have HO := HOn
  have HS := HSn
  clear HATn HOn HSn
  have hk1 := K1.out
  have hk2 := K2.out
  have c0 := hk1.cell 0
  have c1 := hk1.cell 1
  have c2 := hk1.cell 2
  simp only [List.getElem?_cons_zero, List.getElem?_cons_succ] at c0 c1 c2
  have d0 := hk2.cell 0
  have d1 := hk2.cell 1
  have d2 := hk2.cell 2
  simp only [List.getElem?_cons_zero, List.getElem?_cons_succ] at d0 d1 d2
  have df0 := hk2.frozen 0
  have df1 := hk2.frozen 1
  have df2 := hk2.frozen 2
  clear hk1 hk2
  go_wp2_with fail
  have hat := HAT.out.only (set3_only K2.out (B := 0) (Nat.zero_le _) (.int .i64 (a0 : Int)) (.int .i64 (m0 : Int)) (.int .i64 (b0 : Int))) (by decide) (by decide)
  have hk := set3 K2.out (.int .i64 (a0 : Int)) (.int .i64 (m0 : Int)) (.int .i64 (b0 : Int))
  rw [show L ++ [true] ++ [false] ++ bitsOf (x / 2 ^ b0) m0 = L ++ ([true, false] ++ bitsOf (x / 2 ^ b0) m0) by simp] at hat
  have ho := HO.out.late (set3_below (B := w.heap.size) (g := w.heap.size + 1) (by omega) (.int .i64 (a0 : Int)) (.int .i64 (m0 : Int)) (.int .i64 (b0 : Int)))
  exact bodyPost_ret (win_end Tryz.results92 rfl hk) rfl ⟨rfl, hat, ho⟩
set_option maxHeartbeats 4000000 in
set_option maxRecDepth 100000 in
theorem winLay_new {W : Nat} (hW : IsW W) (s : Win) (hs : winOk W s) (x : Nat) (h0 : x ≠ 0) (hx : x < 256 ^ W) (hh : hasB s (aboveN W x) (belowN x) = false) (g B : Nat) (L : List Bool) (w : World) (h : WrAt w B g L) (hl : L.length < 800000000) (ht : TabA w) (hB0 : 0 < B) :
    Calls Tryz.prog 92 #[winV W s, .pointer (some ⟨g, 0, none⟩), .int .u64 (x : Int), .int .i64 (W : Int)] w (Lays w B g W L s x) := by
  have hp := hW.pos
  have h8 : 256 ^ W ≤ 18446744073709551616 := by rcases hW with rfl | rfl | rfl | rfl <;> decide
  obtain ⟨f1, f2, f3, f4, f5, f6, f7, f8⟩ := own_facts hp.2 h0 hx
  obtain ⟨a0, m0, b0, hf, k1, k2, k3, hsome, -⟩ := winV_form W s hs
  have CA := Lib.hid (fun (w' : World) (h : TabA w') => around_any hW x h0 hx w' h)
  have ch := fun (w' : World) => has_any s hs (aboveN W x) (8 * W - aboveN W x - belowN x) (belowN x) w'
  rw [hh, hf] at ch
  have hx1 : ((x : Int) == 0) = false := by rw [beq_eq_false_iff_ne]; omega
  have hn : nextW W s x = some (aboveN W x, belowN x) := by unfold nextW; rw [if_neg h0, hh, if_neg (by decide)]
  have hsb : stepB W s x = [true, true] ++ bitsOf (aboveN W x) 6 ++ bitsOf (8 * W - aboveN W x - belowN x - 1) 6 ++ bitsOf (x / 2 ^ belowN x) (8 * W - aboveN W x - belowN x) := by
    unfold stepB
    rw [if_neg h0, hh, if_neg (by decide)]
    rfl
  unfold Lays
  rw [hn, hsb, hf]
  unfold winV
  obtain ⟨a, ha⟩ : ∃ a, a = aboveN W x := ⟨_, rfl⟩
  obtain ⟨b, hb⟩ : ∃ b, b = belowN x := ⟨_, rfl⟩
  obtain ⟨m, hm⟩ : ∃ m, m = 8 * W - a - b := ⟨_, rfl⟩
  unfold winV at CA
  simp only [← ha, ← hb, ← hm] at CA ch f1 ⊢
  unfold triV at ch CA
  unfold triV
  have CH := Lib.hid ch
  have hm0 : 0 < m := by omega
  have hm64 : m ≤ 64 := by omega
  have ha64 : a < 64 := by omega
  have hb64 : b < 64 := by omega
  have hm00 : m0 ≤ 64 := by omega
  have hb00 : b0 ≤ 64 := by omega
  have hx64 : x < 18446744073709551616 := by omega
  have H := Lib.hid h
  have HT := Lib.hid ht
  have HBW := Lib.hid h.base
  clear hf hn hsb hs h ch ht f1 f2 f3 f4 f5 f6 f7 f8 k1 k2 k3 hsome hm ha hb hh hx h0 hW h8
  go_enter Tryz.func92, Tryz.ntmps92
  go_wp2_with fail
  have hb1 : Below w.heap.size w ((w.alloc (.cells #[.int .i64 (a0 : Int), .int .i64 (m0 : Int), .int .i64 (b0 : Int)] 96)).alloc (.cells #[.int .i64 0, .int .i64 0, .int .i64 0] 96)) := ((Below.refl _ _).alloc (Nat.le_refl _) _).alloc (by simp) _
  have hk1 : Blk ((w.alloc (.cells #[.int .i64 (a0 : Int), .int .i64 (m0 : Int), .int .i64 (b0 : Int)] 96)).alloc (.cells #[.int .i64 0, .int .i64 0, .int .i64 0] 96)) w.heap.size 96 [.int .i64 (a0 : Int), .int .i64 (m0 : Int), .int .i64 (b0 : Int)] := Blk.alloc_ (heap_alloc_new w _) _
  have hk2 : Blk ((w.alloc (.cells #[.int .i64 (a0 : Int), .int .i64 (m0 : Int), .int .i64 (b0 : Int)] 96)).alloc (.cells #[.int .i64 0, .int .i64 0, .int .i64 0] 96)) (w.heap.size + 1) 96 [.int .i64 0, .int .i64 0, .int .i64 0] := by
    have := heap_alloc_new (w.alloc (.cells #[.int .i64 (a0 : Int), .int .i64 (m0 : Int), .int .i64 (b0 : Int)] 96)) (.cells #[.int .i64 0, .int .i64 0, .int .i64 0] 96)
    simpa [Blk] using this
  have hs1 : w.heap.size + 2 ≤ ((w.alloc (.cells #[.int .i64 (a0 : Int), .int .i64 (m0 : Int), .int .i64 (b0 : Int)] 96)).alloc (.cells #[.int .i64 0, .int .i64 0, .int .i64 0] 96)).heap.size := by simp
  have HAT := Lib.hid (H.out.only (OnlyT.of_below hb1 (B := B) (ts := [])) (by decide) (by decide))
  have HO := Lib.hid (OnlyT.of_below hb1 (B := B) (ts := [94, 5]))
  have K1 := Lib.hid hk1
  have K2 := Lib.hid hk2
  have HS := Lib.hid hs1
  clear hb1 hk1 hk2 hs1 H
  refine (put1 g B L _ HAT.out (by omega)).mono ?_
  rintro e w2 ⟨rfl, hat, hon⟩
  have K1n := Lib.hid (K1.out.only hon (by decide))
  have K2n := Lib.hid (K2.out.only hon (by decide))
  have HATn := Lib.hid hat
  have HOn := Lib.hid (HO.out.trans hon)
  have HSn := Lib.hid (Nat.le_trans HS.out hon.size)
  clear hat hon HAT HO HS K1 K2
  have K1 := K1n
  clear K1n
  have K2 := K2n
  clear K2n
  have HAT := HATn
  have HO := HOn
  have HS := HSn
  clear HATn HOn HSn
  have HT2 := Lib.hid (HT.out.below (HO.out.below HBW.out) hB0)
  go_wp2_with fail
  refine (CA.out w2 HT2.out).mono ?_
  rintro e w3 ⟨rfl, hb3⟩
  clear HT2
  have K1n := Lib.hid (K1.out.grow hb3)
  have K2n := Lib.hid (K2.out.grow hb3)
  have HATn := Lib.hid (HAT.out.only (OnlyT.of_below hb3 (B := B) (ts := [])) (by decide) (by decide))
  have HOn := Lib.hid (HO.out.trans (OnlyT.of_below hb3))
  have HSn := Lib.hid (Nat.le_trans HS.out hb3.size)
  clear hb3 K1 K2 HAT HO HS CA
  have hk1 := K1n.out.alloc_ (.cells #[.int .i64 (a : Int), .int .i64 (m : Int), .int .i64 (b : Int)] 96)
  have c0 := hk1.cell 0
  have c1 := hk1.cell 1
  have c2 := hk1.cell 2
  simp only [List.getElem?_cons_zero, List.getElem?_cons_succ] at c0 c1 c2
  clear hk1
  go_wp2_with fail
  refine (CH.out _).mono ?_
  rintro e w4 ⟨rfl, hb4⟩
  have K1 := Lib.hid ((K1n.out.alloc_ _).grow hb4)
  have K2 := Lib.hid ((K2n.out.alloc_ _).grow hb4)
  have hk3 : Blk (w3.alloc (.cells #[.int .i64 (a : Int), .int .i64 (m : Int), .int .i64 (b : Int)] 96)) w3.heap.size 96 [.int .i64 (a : Int), .int .i64 (m : Int), .int .i64 (b : Int)] := heap_alloc_new w3 _
  have K3 := Lib.hid (hk3.grow hb4)
  have hba : Below w3.heap.size w3 w4 := ((Below.refl _ _).alloc (Nat.le_refl _) _).trans (hb4.mono (by simp))
  have HAT := Lib.hid (HATn.out.only (OnlyT.of_below hba (B := B) (ts := [])) (by decide) (by decide))
  have HO := Lib.hid (HOn.out.trans (OnlyT.of_below hba))
  have HS := Lib.hid (Nat.le_trans HSn.out hba.size)
  have HS3 := Lib.hid HSn.out
  obtain ⟨p3, hp3⟩ : ∃ p, p = w3.heap.size := ⟨_, rfl⟩
  rw [← hp3] at K3 HS3
  simp only [← hp3]
  clear hb4 hba hk3 K1n K2n HATn HOn HSn CH hp3 c0 c1 c2
  go_wp2_with fail
  refine (put1 g B (L ++ [true]) w4 HAT.out (by simp; omega)).mono ?_
  rintro e w5 ⟨rfl, hat, hon⟩
  have K1n := Lib.hid (K1.out.only hon (by decide))
  have K2n := Lib.hid (K2.out.only hon (by decide))
  have K3n := Lib.hid (K3.out.only hon (by decide))
  have HATn := Lib.hid hat
  have HOn := Lib.hid (HO.out.trans hon)
  have HSn := Lib.hid (Nat.le_trans HS.out hon.size)
  clear hat hon HAT HO HS K1 K2 K3
  have K1 := K1n
  clear K1n
  have K2 := K2n
  clear K2n
  have K3 := K3n
  clear K3n
  have HAT := HATn
  have HO := HOn
  have HS := HSn
  clear HATn HOn HSn
  have hk3 := K3.out
  have c0 := hk3.cell 0
  have c1 := hk3.cell 1
  have c2 := hk3.cell 2
  simp only [List.getElem?_cons_zero, List.getElem?_cons_succ] at c0 c1 c2
  clear hk3
  go_wp2_with fail
  clear c0 c1 c2
  refine (wPut_any g B (L ++ [true] ++ [true]) a 6 w5 HAT.out (by simp; omega) (by omega) (by omega)).mono ?_
  rintro e w6 ⟨rfl, hat, hon⟩
  have K1n := Lib.hid (K1.out.only hon (by decide))
  have K2n := Lib.hid (K2.out.only hon (by decide))
  have K3n := Lib.hid (K3.out.only hon (by decide))
  have HATn := Lib.hid hat
  have HOn := Lib.hid (HO.out.trans hon)
  have HSn := Lib.hid (Nat.le_trans HS.out hon.size)
  clear hat hon HAT HO HS K1 K2 K3
  have K1 := K1n
  clear K1n
  have K2 := K2n
  clear K2n
  have K3 := K3n
  clear K3n
  have HAT := HATn
  have HO := HOn
  have HS := HSn
  clear HATn HOn HSn
  have hk3 := K3.out
  have c0 := hk3.cell 0
  have c1 := hk3.cell 1
  have c2 := hk3.cell 2
  simp only [List.getElem?_cons_zero, List.getElem?_cons_succ] at c0 c1 c2
  clear hk3
  go_wp2_with fail
  clear c0 c1 c2
  have hm1 : (m : Int) - 1 = ((m - 1 : Nat) : Int) := by omega
  rw [hm1]
  clear hm1
  refine (wPut_any g B (L ++ [true] ++ [true] ++ bitsOf a 6) (m - 1) 6 w6 HAT.out (by simp [bitsOf_length]; omega) (by omega) (by omega)).mono ?_
  rintro e w7 ⟨rfl, hat, hon⟩
  have K1n := Lib.hid (K1.out.only hon (by decide))
  have K2n := Lib.hid (K2.out.only hon (by decide))
  have K3n := Lib.hid (K3.out.only hon (by decide))
  have HATn := Lib.hid hat
  have HOn := Lib.hid (HO.out.trans hon)
  have HSn := Lib.hid (Nat.le_trans HS.out hon.size)
  clear hat hon HAT HO HS K1 K2 K3
  have K1 := K1n
  clear K1n
  have K2 := K2n
  clear K2n
  have K3 := K3n
  clear K3n
  have HAT := HATn
  have HO := HOn
  have HS := HSn
  clear HATn HOn HSn
  have hk3 := K3.out
  have c0 := hk3.cell 0
  have c1 := hk3.cell 1
  have c2 := hk3.cell 2
  simp only [List.getElem?_cons_zero, List.getElem?_cons_succ] at c0 c1 c2
  have hk1 := K1.out
  have d0 := hk1.cell 0
  have d1 := hk1.cell 1
  have d2 := hk1.cell 2
  simp only [List.getElem?_cons_zero, List.getElem?_cons_succ] at d0 d1 d2
  have df0 := hk1.frozen 0
  have df1 := hk1.frozen 1
  have df2 := hk1.frozen 2
  clear hk1 hk3
  go_wp2_with fail
  clear c0 c1 c2 d0 d1 d2 df0 df1 df2
  have K1n := Lib.hid (set3 K1.out (.int .i64 (a : Int)) (.int .i64 (m : Int)) (.int .i64 (b : Int)))
  have K2n := Lib.hid (set3_other K2.out (g := w.heap.size) (by omega) (.int .i64 (a : Int)) (.int .i64 (m : Int)) (.int .i64 (b : Int)))
  have HATn := Lib.hid (HAT.out.only (set3_only K1.out (B := 0) (Nat.zero_le _) (.int .i64 (a : Int)) (.int .i64 (m : Int)) (.int .i64 (b : Int))) (by decide) (by decide))
  have hbs := set3_below (w := w7) (B := w.heap.size) (g := w.heap.size) (Nat.le_refl _) (.int .i64 (a : Int)) (.int .i64 (m : Int)) (.int .i64 (b : Int))
  have HOn := Lib.hid (HO.out.late hbs)
  have HSn := Lib.hid (Nat.le_trans HS.out hbs.size)
  clear hbs K1 K2 K3 HAT HO HS HS3
  generalize ((w7.setCell ⟨w.heap.size, 0, none⟩ (.int .i64 (a : Int))).setCell ⟨w.heap.size, 1, none⟩ (.int .i64 (m : Int))).setCell ⟨w.heap.size, 2, none⟩ (.int .i64 (b : Int)) = w8 at *
  have K1 := K1n
  have K2 := K2n
  have HAT := HATn
  have HO := HOn
  have HS := HSn
  clear K1n K2n HATn HOn HSn
  have hk1 := K1.out
  have c0 := hk1.cell 0
  have c1 := hk1.cell 1
  have c2 := hk1.cell 2
  simp only [List.getElem?_cons_zero, List.getElem?_cons_succ] at c0 c1 c2
  clear hk1
  refine wp_region_still_tail 7 (by kernel_rfl) (by kernel_rfl) ?_
  simp only [List.take_succ_cons, List.take_zero, List.drop_succ_cons, List.drop_zero]
  repeat still_step
  refine wpStill_nil ?_
  change wpList _ _ _ _ _ w8.drew
  go_wp2_with fail
  clear c0 c1 c2
  have hV : (x : Int) / 2 ^ b = ((x / 2 ^ b : Nat) : Int) := by rw [Int.natCast_ediv, Int.natCast_pow]; rfl
  rw [hV]
  clear hV
  refine (wPut_any g B (L ++ [true] ++ [true] ++ bitsOf a 6 ++ bitsOf (m - 1) 6) (x / 2 ^ b) m _ (show WrAt w8.drew B g (L ++ [true] ++ [true] ++ bitsOf a 6 ++ bitsOf (m - 1) 6) from HAT.out) (by simp [bitsOf_length]; omega) (Nat.lt_of_le_of_lt (Nat.div_le_self _ _) hx64) (by omega)).mono ?_
  rintro e w9 ⟨rfl, hat, hon⟩
  have K1n := Lib.hid (K1.out.drew_.only hon (by decide))
  have K2n := Lib.hid (K2.out.drew_.only hon (by decide))
  have HATn := Lib.hid hat
  have HOn := Lib.hid (HO.out.drew.trans hon)
  have HSn := Lib.hid (Nat.le_trans HS.out hon.size)
  clear hat hon HAT HO HS K1 K2
  have K1 := K1n
  clear K1n
  have K2 := K2n
  clear K2n
  have HAT := HATn
  have HO := HOn
  have HS := HSn
  clear HATn HOn HSn
  have hk1 := K1.out
  have hk2 := K2.out
  have c0 := hk1.cell 0
  have c1 := hk1.cell 1
  have c2 := hk1.cell 2
  simp only [List.getElem?_cons_zero, List.getElem?_cons_succ] at c0 c1 c2
  have d0 := hk2.cell 0
  have d1 := hk2.cell 1
  have d2 := hk2.cell 2
  simp only [List.getElem?_cons_zero, List.getElem?_cons_succ] at d0 d1 d2
  have df0 := hk2.frozen 0
  have df1 := hk2.frozen 1
  have df2 := hk2.frozen 2
  clear hk1 hk2
  go_wp2_with fail
  have hat := HAT.out.only (set3_only K2.out (B := 0) (Nat.zero_le _) (.int .i64 (a : Int)) (.int .i64 (m : Int)) (.int .i64 (b : Int))) (by decide) (by decide)
  have hk := set3 K2.out (.int .i64 (a : Int)) (.int .i64 (m : Int)) (.int .i64 (b : Int))
  rw [show L ++ [true] ++ [true] ++ bitsOf a 6 ++ bitsOf (m - 1) 6 ++ bitsOf (x / 2 ^ b) m = L ++ ([true, true] ++ bitsOf a 6 ++ bitsOf (m - 1) 6 ++ bitsOf (x / 2 ^ b) m) by simp] at hat
  have ho := HO.out.late (set3_below (B := w.heap.size) (g := w.heap.size + 1) (by omega) (.int .i64 (a : Int)) (.int .i64 (m : Int)) (.int .i64 (b : Int)))
  exact bodyPost_ret (win_end Tryz.results92 rfl hk) rfl ⟨rfl, hat, ho⟩
end Go.Proofs.YtcenbaajojdjlaaGreatDoor
