/- Contracts of gorilla's told and take: what lay laid is told. -/
import Derived.Test.YtclhgjjehnmncaaDoorGorPack
import Derived.Deep.RegionHeld3
import Derived.Deep.RegionWith
namespace Go.Proofs.YtclhgjjehnmncaaDoor
open Go.RowKit

theorem bits_take (v n : Nat) (R : List Bool) : (bitsOf v n ++ R).take n = bitsOf v n := by
  have h : (bitsOf v n).length = n := bitsOf_length v n
  rw [List.take_append_of_le_length (by omega), List.take_of_length_le (by omega)]
theorem bits_drop (v n : Nat) (R : List Bool) : (bitsOf v n ++ R).drop n = R := by
  have h : (bitsOf v n).length = n := bitsOf_length v n
  rw [List.drop_append_of_le_length (by omega), List.drop_of_length_le (by omega), List.nil_append]
/-- a number is taken as it was put -/
theorem rGet_bits (g v n : Nat) (R : List Bool) (w : World) (h : RdrIs w g (bitsOf v n ++ R) 0) (hn : n ≤ 64) (hv : v < 2 ^ n) :
    Calls Tryd.prog 36 #[.pointer (some ⟨g, 0, none⟩), .int .i64 (n : Int)] w fun e' w' => e' = .returned (.int .u64 (v : Int)) ∧ RdrIs w' g R 0 ∧ OnlyT g [68] w w' := by
  have := rGet_ok n h hn (by rw [List.length_append, bitsOf_length]; omega)
  rw [bits_take, bits_drop, valOf_bitsOf, Nat.mod_eq_of_lt hv] at this
  exact this
theorem rGet_one (g : Nat) (b : Bool) (R : List Bool) (w : World) (h : RdrIs w g (b :: R) 0) :
    Calls Tryd.prog 36 #[.pointer (some ⟨g, 0, none⟩), .int .i64 1] w fun e' w' => e' = .returned (.int .u64 (b.toNat : Int)) ∧ RdrIs w' g R 0 ∧ OnlyT g [68] w w' := by
  have e : b :: R = bitsOf b.toNat 1 ++ R := by cases b <;> rfl
  rw [e] at h
  exact rGet_bits g b.toNat 1 R w h (by decide) (by cases b <;> decide)
theorem RdrIs.lt {w : World} {g : Nat} {L : List Bool} {e : Nat} (h : RdrIs w g L e) : g < w.heap.size := by
  obtain ⟨_, _, _, _, hb, _⟩ := h
  exact hb.lt

set_option maxHeartbeats 2000000 in
set_option maxRecDepth 100000 in
theorem told_any {W : Nat} (hW8 : W ≤ 8) (g a m b : Nat) (R : List Bool) (w : World) (hab : a + m + b = 8 * W) (hm : 0 < m) (h : RdrIs w g (bitsOf a 6 ++ (bitsOf (m - 1) 6 ++ R)) 0) :
    Calls Tryd.prog 46 #[.pointer (some ⟨g, 0, none⟩), .int .i64 (W : Int)] w fun e w' => e = .returned (triV a m b) ∧ RdrIs w' g R 0 ∧ OnlyT g [68] w w' := by
  have H := Lib.hid h
  have hg := h.lt
  have hb1 : Below w.heap.size w (w.alloc (.cells #[.int .i64 0, .int .i64 0, .int .i64 0] 40)) := (Below.refl _ _).alloc (Nat.le_refl _) _
  have hk1 : Blk (w.alloc (.cells #[.int .i64 0, .int .i64 0, .int .i64 0] 40)) w.heap.size 40 [.int .i64 0, .int .i64 0, .int .i64 0] := heap_alloc_new w _
  have C1 := Lib.hid (rGet_bits g a 6 _ _ (h.only (OnlyT.of_below (B := 0) (ts := []) hb1) (by decide) (by decide)) (by decide) (by omega))
  have HO1 := Lib.hid (OnlyT.of_below (B := g) (ts := [68]) hb1)
  have HK1 := Lib.hid hk1
  have ha : (a : Int) < 64 := by omega
  have habi : (a : Int) + (m : Int) + (b : Int) = 8 * (W : Int) := by omega
  have hmi : (0 : Int) < (m : Int) := by omega
  have hWi : (W : Int) ≤ 8 := by omega
  unfold triV
  clear h hb1 hk1
  go_enter Tryd.func46, Tryd.ntmps46
  go_wp2_with fail
  refine C1.out.mono ?_
  rintro e w2 ⟨rfl, hr2, ho2⟩
  have C2 := Lib.hid (rGet_bits g (m - 1) 6 _ _ hr2 (by decide) (by omega))
  have HO2 := Lib.hid (HO1.out.trans ho2)
  have HK2 := Lib.hid (HK1.out.only ho2 (by decide))
  clear hr2 ho2 C1 HO1 HK1
  go_wp2_with fail
  refine C2.out.mono ?_
  rintro e w3 ⟨rfl, hr3, ho3⟩
  have hm1 : ((m - 1 : Nat) : Int) = (m : Int) - 1 := by omega
  rw [hm1]
  have HR3 := Lib.hid hr3
  have HO3 := Lib.hid (HO2.out.trans ho3)
  have HK3 := Lib.hid (HK2.out.only ho3 (by decide))
  have hk3 := HK3.out
  have d0 := hk3.cell 0
  have d1 := hk3.cell 1
  have d2 := hk3.cell 2
  simp only [List.getElem?_cons_zero, List.getElem?_cons_succ] at d0 d1 d2
  have f0 := hk3.frozen 0
  have f1 := hk3.frozen 1
  have f2 := hk3.frozen 2
  have hnn : ¬ (8 * (W : Int) - (a : Int) - (m : Int) < 0) := by omega
  clear hr3 ho3 C2 HO2 HK2 hk3 hm1
  go_wp2_with fail
  have hbe : 8 * (W : Int) - (a : Int) - (m : Int) = (b : Int) := by omega
  rw [hbe]
  exact bodyPost_ret (win_end Tryd.results46 rfl (set3 HK3.out (.int .i64 (a : Int)) (.int .i64 (m : Int)) (.int .i64 (b : Int)))) rfl
    ⟨rfl, HR3.out.only (set3_only HK3.out (B := 0) (Nat.zero_le _) _ _ _) (by decide) (by decide), HO3.out.late (set3_below (Nat.le_refl _) _ _ _)⟩

/-- What take leaves. -/
def Takes (w : World) (g W : Nat) (R : List Bool) (s : Win) (x : Nat) (e : Ending) (w' : World) : Prop :=
  e = .returned (.tuple #[.int .u64 (x : Int), winV W (nextW W s x), .bool true]) ∧ RdrIs w' g R 0 ∧ OnlyT g [68] w w'
theorem take_end {w' : World} {p : Nat} {tmps : Array Value} {fn : Func} {q r u : Tmp} (hres : fn.results = #[.tmp r, .cell q 40, .tmp u]) {v0 v1 v2 x y : Value} (hp : tmps.getD q undef = .pointer (some ⟨p, 0, none⟩)) (hk : Blk w' p 40 [v0, v1, v2]) (hx : tmps.getD r undef = x) (hy : tmps.getD u undef = y) :
    (results fn tmps).run Tryd.prog w' = .ok (.tuple #[x, .agg #[v0, v1, v2], y]) w' := by
  have hp' : tmps[q]?.getD undef = .pointer (some ⟨p, 0, none⟩) := by simpa using hp
  have hx' : tmps[r]?.getD undef = x := by simpa using hx
  have hy' : tmps[u]?.getD undef = y := by simpa using hy
  simp [results, hres, hp', hx', hy', asAddr, run_loadVar_row w' p 40 40 _ (0, 0) _ hk Tryd.underlying40 rfl win_size]
set_option maxHeartbeats 2000000 in
set_option maxRecDepth 100000 in
theorem take_zero {W : Nat} (s : Win) (hs : winOk W s) (g : Nat) (R : List Bool) (w : World) (h : RdrIs w g (false :: R) 0) :
    Calls Tryd.prog 37 #[winV W s, .pointer (some ⟨g, 0, none⟩), .int .i64 (W : Int)] w (Takes w g W R s 0) := by
  obtain ⟨a, m, b, hf, -, -, -, -, -⟩ := winV_form W s hs
  have hn : nextW W s 0 = s := rfl
  have hg := h.lt
  unfold Takes
  rw [hn, hf]
  unfold triV
  have hb1 : Below w.heap.size w ((w.alloc (.cells #[.int .i64 (a : Int), .int .i64 (m : Int), .int .i64 (b : Int)] 40)).alloc (.cells #[.int .i64 0, .int .i64 0, .int .i64 0] 40)) := ((Below.refl _ _).alloc (Nat.le_refl _) _).alloc (by simp) _
  have hk1 : Blk ((w.alloc (.cells #[.int .i64 (a : Int), .int .i64 (m : Int), .int .i64 (b : Int)] 40)).alloc (.cells #[.int .i64 0, .int .i64 0, .int .i64 0] 40)) w.heap.size 40 [.int .i64 (a : Int), .int .i64 (m : Int), .int .i64 (b : Int)] := Blk.alloc_ (heap_alloc_new w _) _
  have hk2 : Blk ((w.alloc (.cells #[.int .i64 (a : Int), .int .i64 (m : Int), .int .i64 (b : Int)] 40)).alloc (.cells #[.int .i64 0, .int .i64 0, .int .i64 0] 40)) (w.heap.size + 1) 40 [.int .i64 0, .int .i64 0, .int .i64 0] := by
    have := heap_alloc_new (w.alloc (.cells #[.int .i64 (a : Int), .int .i64 (m : Int), .int .i64 (b : Int)] 40)) (.cells #[.int .i64 0, .int .i64 0, .int .i64 0] 40)
    simpa [Blk] using this
  have C1 := Lib.hid (rGet_one g false R _ (h.only (OnlyT.of_below (B := 0) (ts := []) hb1) (by decide) (by decide)))
  have HO1 := Lib.hid (OnlyT.of_below (B := g) (ts := [68]) hb1)
  have K1 := Lib.hid hk1
  have K2 := Lib.hid hk2
  clear hf hn hs h hb1 hk1 hk2
  go_enter Tryd.func37, Tryd.ntmps37
  go_wp2_with fail
  refine C1.out.mono ?_
  rintro e w2 ⟨rfl, hr2, ho2⟩
  have HR := Lib.hid hr2
  have HO := Lib.hid (HO1.out.trans ho2)
  have L1 := Lib.hid (K1.out.only ho2 (by decide))
  have L2 := Lib.hid (K2.out.only ho2 (by decide))
  clear hr2 ho2 C1 HO1 K1 K2
  have hk1 := L1.out
  have c0 := hk1.cell 0
  have c1 := hk1.cell 1
  have c2 := hk1.cell 2
  simp only [List.getElem?_cons_zero, List.getElem?_cons_succ] at c0 c1 c2
  have hk2 := L2.out
  have d0 := hk2.cell 0
  have d1 := hk2.cell 1
  have d2 := hk2.cell 2
  simp only [List.getElem?_cons_zero, List.getElem?_cons_succ] at d0 d1 d2
  have f0 := hk2.frozen 0
  have f1 := hk2.frozen 1
  have f2 := hk2.frozen 2
  clear hk1 hk2
  go_wp2_with fail
  have hso := set3_only L2.out (B := 0) (Nat.zero_le _) (.int .i64 (a : Int)) (.int .i64 (m : Int)) (.int .i64 (b : Int))
  have HK := Lib.hid (set3 L2.out (.int .i64 (a : Int)) (.int .i64 (m : Int)) (.int .i64 (b : Int))).drew_
  have HF := Lib.hid ((HR.out.only hso (by decide) (by decide)).only (OnlyT.refl 0 [] _).drew (by simp) (by simp))
  have HOF := Lib.hid (HO.out.late (set3_below (B := w.heap.size) (g := w.heap.size + 1) (by omega) (.int .i64 (a : Int)) (.int .i64 (m : Int)) (.int .i64 (b : Int)))).drew
  clear hso
  have HRD : Hid (RdrIs w2.drew g R 0) := HR.out.only (OnlyT.refl 0 [] w2).drew (by simp) (by simp)
  go_region_with (go_at_call 42; refine (rErr_is 0 HRD.out).mono ?_; rintro e w3 ⟨rfl, rfl⟩)
  all_goals
    go_wp2
    exact bodyPost_ret (take_end Tryd.results37 rfl HK.out rfl rfl) rfl ⟨rfl, HF.out, HOF.out⟩
end Go.Proofs.YtclhgjjehnmncaaDoor
