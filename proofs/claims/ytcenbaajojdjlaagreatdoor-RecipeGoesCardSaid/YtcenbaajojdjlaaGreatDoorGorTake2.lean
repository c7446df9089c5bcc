/- Contracts of gorilla's told and take: what lay laid is told. · Contract of gorilla's take: a word that is not 0. -/
import Derived.Test.YtcenbaajojdjlaaGreatDoorGorPack
import Derived.Deep.RegionHeld3
import Derived.Deep.RegionWith
namespace Go.Proofs.YtcenbaajojdjlaaGreatDoor
open Go.RowKit

theorem bits_take (v n : Nat) (R : List Bool) : (bitsOf v n ++ R).take n = bitsOf v n := by
  have h : (bitsOf v n).length = n := bitsOf_length v n
  rw [List.take_append_of_le_length (by omega), List.take_of_length_le (by omega)]
theorem bits_drop (v n : Nat) (R : List Bool) : (bitsOf v n ++ R).drop n = R := by
  have h : (bitsOf v n).length = n := bitsOf_length v n
  rw [List.drop_append_of_le_length (by omega), List.drop_of_length_le (by omega), List.nil_append]
/-- a number is taken as it was put -/
theorem rGet_bits (g v n : Nat) (R : List Bool) (w : World) (h : RdrIs w g (bitsOf v n ++ R) 0) (hn : n ≤ 64) (hv : v < 2 ^ n) :
    Calls Tryz.prog 110 #[.pointer (some ⟨g, 0, none⟩), .int .i64 (n : Int)] w fun e' w' => e' = .returned (.int .u64 (v : Int)) ∧ RdrIs w' g R 0 ∧ OnlyT g [119] w w' := by
  have := rGet_ok n h hn (by rw [List.length_append, bitsOf_length]; omega)
  rw [bits_take, bits_drop, valOf_bitsOf, Nat.mod_eq_of_lt hv] at this
  exact this
theorem rGet_one (g : Nat) (b : Bool) (R : List Bool) (w : World) (h : RdrIs w g (b :: R) 0) :
    Calls Tryz.prog 110 #[.pointer (some ⟨g, 0, none⟩), .int .i64 1] w fun e' w' => e' = .returned (.int .u64 (b.toNat : Int)) ∧ RdrIs w' g R 0 ∧ OnlyT g [119] w w' := by
  have e : b :: R = bitsOf b.toNat 1 ++ R := by cases b <;> rfl
  rw [e] at h
  exact rGet_bits g b.toNat 1 R w h (by decide) (by cases b <;> decide)
theorem RdrIs.lt {w : World} {g : Nat} {L : List Bool} {e : Nat} (h : RdrIs w g L e) : g < w.heap.size := by
  obtain ⟨_, _, _, _, hb, _⟩ := h
  exact hb.lt

set_option maxHeartbeats 2000000 in
set_option maxRecDepth 100000 in
theorem told_any {W : Nat} (hW8 : W ≤ 8) (g a m b : Nat) (R : List Bool) (w : World) (hab : a + m + b = 8 * W) (hm : 0 < m) (h : RdrIs w g (bitsOf a 6 ++ (bitsOf (m - 1) 6 ++ R)) 0) :
    Calls Tryz.prog 122 #[.pointer (some ⟨g, 0, none⟩), .int .i64 (W : Int)] w fun e w' => e = .returned (triV a m b) ∧ RdrIs w' g R 0 ∧ OnlyT g [119] w w' := by
  have H := Lib.hid h
  have hg := h.lt
  have hb1 : Below w.heap.size w (w.alloc (.cells #[.int .i64 0, .int .i64 0, .int .i64 0] 96)) := (Below.refl _ _).alloc (Nat.le_refl _) _
  have hk1 : Blk (w.alloc (.cells #[.int .i64 0, .int .i64 0, .int .i64 0] 96)) w.heap.size 96 [.int .i64 0, .int .i64 0, .int .i64 0] := heap_alloc_new w _
  have C1 := Lib.hid (rGet_bits g a 6 _ _ (h.only (OnlyT.of_below (B := 0) (ts := []) hb1) (by decide) (by decide)) (by decide) (by omega))
  have HO1 := Lib.hid (OnlyT.of_below (B := g) (ts := [119]) hb1)
  have HK1 := Lib.hid hk1
  have ha : (a : Int) < 64 := by omega
  have habi : (a : Int) + (m : Int) + (b : Int) = 8 * (W : Int) := by omega
  have hmi : (0 : Int) < (m : Int) := by omega
  have hWi : (W : Int) ≤ 8 := by omega
  unfold triV
  clear h hb1 hk1
  go_enter Tryz.func122, Tryz.ntmps122
  go_wp2_with fail
  refine C1.out.mono ?_
  rintro e w2 ⟨rfl, hr2, ho2⟩
  have C2 := Lib.hid (rGet_bits g (m - 1) 6 _ _ hr2 (by decide) (by omega))
  have HO2 := Lib.hid (HO1.out.trans ho2)
  have HK2 := Lib.hid (HK1.out.only ho2 (by decide))
  clear hr2 ho2 C1 HO1 HK1
  go_wp2_with fail
  refine C2.out.mono ?_
  rintro e w3 ⟨rfl, hr3, ho3⟩
  have hm1 : ((m - 1 : Nat) : Int) = (m : Int) - 1 := by omega
  rw [hm1]
  have HR3 := Lib.hid hr3
  have HO3 := Lib.hid (HO2.out.trans ho3)
  have HK3 := Lib.hid (HK2.out.only ho3 (by decide))
  have hk3 := HK3.out
  have d0 := hk3.cell 0
  have d1 := hk3.cell 1
  have d2 := hk3.cell 2
  simp only [List.getElem?_cons_zero, List.getElem?_cons_succ] at d0 d1 d2
  have f0 := hk3.frozen 0
  have f1 := hk3.frozen 1
  have f2 := hk3.frozen 2
  have hnn : ¬ (8 * (W : Int) - (a : Int) - (m : Int) < 0) := by omega
  clear hr3 ho3 C2 HO2 HK2 hk3 hm1
  go_wp2_with fail
  have hbe : 8 * (W : Int) - (a : Int) - (m : Int) = (b : Int) := by omega
  rw [hbe]
  exact bodyPost_ret (win_end Tryz.results122 rfl (set3 HK3.out (.int .i64 (a : Int)) (.int .i64 (m : Int)) (.int .i64 (b : Int)))) rfl
    ⟨rfl, HR3.out.only (set3_only HK3.out (B := 0) (Nat.zero_le _) _ _ _) (by decide) (by decide), HO3.out.late (set3_below (Nat.le_refl _) _ _ _)⟩

/-- What take leaves. -/
def Takes (w : World) (g W : Nat) (R : List Bool) (s : Win) (x : Nat) (e : Ending) (w' : World) : Prop :=
  e = .returned (.tuple #[.int .u64 (x : Int), winV W (nextW W s x), .bool true]) ∧ RdrIs w' g R 0 ∧ OnlyT g [119] w w'
theorem take_end {w' : World} {p : Nat} {tmps : Array Value} {fn : Func} {q r u : Tmp} (hres : fn.results = #[.tmp r, .cell q 96, .tmp u]) {v0 v1 v2 x y : Value} (hp : tmps.getD q undef = .pointer (some ⟨p, 0, none⟩)) (hk : Blk w' p 96 [v0, v1, v2]) (hx : tmps.getD r undef = x) (hy : tmps.getD u undef = y) :
    (results fn tmps).run Tryz.prog w' = .ok (.tuple #[x, .agg #[v0, v1, v2], y]) w' := by
  have hp' : tmps[q]?.getD undef = .pointer (some ⟨p, 0, none⟩) := by simpa using hp
  have hx' : tmps[r]?.getD undef = x := by simpa using hx
  have hy' : tmps[u]?.getD undef = y := by simpa using hy
  simp [results, hres, hp', hx', hy', asAddr, run_loadVar_row w' p 96 96 _ (0, 0) _ hk Tryz.underlying96 rfl win_size]
set_option maxHeartbeats 2000000 in
set_option maxRecDepth 100000 in
theorem take_zero {W : Nat} (s : Win) (hs : winOk W s) (g : Nat) (R : List Bool) (w : World) (h : RdrIs w g (false :: R) 0) :
    Calls Tryz.prog 111 #[winV W s, .pointer (some ⟨g, 0, none⟩), .int .i64 (W : Int)] w (Takes w g W R s 0) := by
  obtain ⟨a, m, b, hf, -, -, -, -, -⟩ := winV_form W s hs
  have hn : nextW W s 0 = s := rfl
  have hg := h.lt
  unfold Takes
  rw [hn, hf]
  unfold triV
  have hb1 : Below w.heap.size w ((w.alloc (.cells #[.int .i64 (a : Int), .int .i64 (m : Int), .int .i64 (b : Int)] 96)).alloc (.cells #[.int .i64 0, .int .i64 0, .int .i64 0] 96)) := ((Below.refl _ _).alloc (Nat.le_refl _) _).alloc (by simp) _
  have hk1 : Blk ((w.alloc (.cells #[.int .i64 (a : Int), .int .i64 (m : Int), .int .i64 (b : Int)] 96)).alloc (.cells #[.int .i64 0, .int .i64 0, .int .i64 0] 96)) w.heap.size 96 [.int .i64 (a : Int), .int .i64 (m : Int), .int .i64 (b : Int)] := Blk.alloc_ (heap_alloc_new w _) _
  have hk2 : Blk ((w.alloc (.cells #[.int .i64 (a : Int), .int .i64 (m : Int), .int .i64 (b : Int)] 96)).alloc (.cells #[.int .i64 0, .int .i64 0, .int .i64 0] 96)) (w.heap.size + 1) 96 [.int .i64 0, .int .i64 0, .int .i64 0] := by
    have := heap_alloc_new (w.alloc (.cells #[.int .i64 (a : Int), .int .i64 (m : Int), .int .i64 (b : Int)] 96)) (.cells #[.int .i64 0, .int .i64 0, .int .i64 0] 96)
    simpa [Blk] using this
  have C1 := Lib.hid (rGet_one g false R _ (h.only (OnlyT.of_below (B := 0) (ts := []) hb1) (by decide) (by decide)))
  have HO1 := Lib.hid (OnlyT.of_below (B := g) (ts := [119]) hb1)
  have K1 := Lib.hid hk1
  have K2 := Lib.hid hk2
  clear hf hn hs h hb1 hk1 hk2
  go_enter Tryz.func111, Tryz.ntmps111
  go_wp2_with fail
  refine C1.out.mono ?_
  rintro e w2 ⟨rfl, hr2, ho2⟩
  have HR := Lib.hid hr2
  have HO := Lib.hid (HO1.out.trans ho2)
  have L1 := Lib.hid (K1.out.only ho2 (by decide))
  have L2 := Lib.hid (K2.out.only ho2 (by decide))
  clear hr2 ho2 C1 HO1 K1 K2
  have hk1 := L1.out
  have c0 := hk1.cell 0
  have c1 := hk1.cell 1
  have c2 := hk1.cell 2
  simp only [List.getElem?_cons_zero, List.getElem?_cons_succ] at c0 c1 c2
  have hk2 := L2.out
  have d0 := hk2.cell 0
  have d1 := hk2.cell 1
  have d2 := hk2.cell 2
  simp only [List.getElem?_cons_zero, List.getElem?_cons_succ] at d0 d1 d2
  have f0 := hk2.frozen 0
  have f1 := hk2.frozen 1
  have f2 := hk2.frozen 2
  clear hk1 hk2
  go_wp2_with fail
  have hso := set3_only L2.out (B := 0) (Nat.zero_le _) (.int .i64 (a : Int)) (.int .i64 (m : Int)) (.int .i64 (b : Int))
  have HK := Lib.hid (set3 L2.out (.int .i64 (a : Int)) (.int .i64 (m : Int)) (.int .i64 (b : Int))).drew_
  have HF := Lib.hid ((HR.out.only hso (by decide) (by decide)).only (OnlyT.refl 0 [] _).drew (by simp) (by simp))
  have HOF := Lib.hid (HO.out.late (set3_below (B := w.heap.size) (g := w.heap.size + 1) (by omega) (.int .i64 (a : Int)) (.int .i64 (m : Int)) (.int .i64 (b : Int)))).drew
  clear hso
  have HRD : Hid (RdrIs w2.drew g R 0) := HR.out.only (OnlyT.refl 0 [] w2).drew (by simp) (by simp)
  go_region_with (go_at_call 118; refine (rErr_is 0 HRD.out).mono ?_; rintro e w3 ⟨rfl, rfl⟩)
  all_goals
    go_wp2
    exact bodyPost_ret (take_end Tryz.results111 rfl HK.out rfl rfl) rfl ⟨rfl, HF.out, HOF.out⟩
end Go.Proofs.YtcenbaajojdjlaaGreatDoor
namespace Go.Proofs.YtcenbaajojdjlaaGreatDoor
open Go.RowKit

set_option maxHeartbeats 4000000 in
set_option maxRecDepth 100000 in
theorem take_in {W : Nat} (hW : IsW W) (s : Win) (hs : winOk W s) (x : Nat) (h0 : x ≠ 0) (hx : x < 256 ^ W) (hh : hasB s (aboveN W x) (belowN x) = true) (g : Nat) (R : List Bool) (w : World) (h : RdrIs w g (stepB W s x ++ R) 0) :
    Calls Tryz.prog 111 #[winV W s, .pointer (some ⟨g, 0, none⟩), .int .i64 (W : Int)] w (Takes w g W R s x) := by
  have hp := hW.pos
  have h8 : 256 ^ W ≤ 18446744073709551616 := by rcases hW with rfl | rfl | rfl | rfl <;> decide
  obtain ⟨f1, f2, f3, f4, f5, f6, f7, f8⟩ := own_facts hp.2 h0 hx
  obtain ⟨a0, m0, b0, hf, k1, k2, k3, hsome, -⟩ := winV_form W s hs
  have hn : nextW W s x = s := by unfold nextW; rw [if_neg h0, hh, if_pos rfl]
  have hsb : stepB W s x = true :: false :: bitsOf (x / 2 ^ b0) m0 := by
    unfold stepB
    rw [if_neg h0, hh, if_pos rfl]
    obtain ⟨p, rfl, -, -⟩ := hasB_some hh
    obtain ⟨e1, e2, e3, e4⟩ := hsome (by simp)
    unfold winB ownB
    rw [e3, e1, e2]
    rfl
  have hm00 : 0 < m0 ∧ a0 + b0 < 8 * W ∧ a0 ≤ aboveN W x ∧ b0 ≤ belowN x ∧ m0 = 8 * W - a0 - b0 := by
    obtain ⟨p, rfl, e5, e6⟩ := hasB_some hh
    obtain ⟨e1, e2, e3, e4⟩ := hsome (by simp)
    simp only [Option.getD_some] at e1 e2
    simp only [winOk] at hs
    exact ⟨e4, by omega, by omega, by omega, e3⟩
  have hbk := own_back hp.2 h0 hx hm00.2.2.1 hm00.2.2.2.1 hm00.2.1
  unfold Takes
  rw [hn, hf]
  rw [hsb] at h
  obtain ⟨m, hm⟩ : ∃ m, m = m0 := ⟨_, rfl⟩
  obtain ⟨b, hb⟩ : ∃ b, b = b0 := ⟨_, rfl⟩
  have hmf := hm00.2.2.2.2
  unfold ownB at hbk
  rw [← hmf] at hbk
  obtain ⟨v, hv⟩ : ∃ v, v = x / 2 ^ b0 := ⟨_, rfl⟩
  rw [valOf_bitsOf] at hbk
  rw [← hv] at hbk h
  have hvle : v ≤ x := by rw [hv]; exact Nat.div_le_self _ _
  have hvlt : v < 2 ^ m0 := by
    rcases Nat.lt_or_ge v (2 ^ m0) with gg | gg
    · exact gg
    · exfalso
      have h1 : v % 2 ^ m0 < v := Nat.lt_of_lt_of_le (Nat.mod_lt _ (Nat.two_pow_pos _)) gg
      have h2 : v % 2 ^ m0 * 2 ^ b0 < v * 2 ^ b0 := Nat.mul_lt_mul_of_pos_right h1 (Nat.two_pow_pos _)
      have h3 : v * 2 ^ b0 ≤ x := by rw [hv]; exact Nat.div_mul_le_self _ _
      omega
  rw [Nat.mod_eq_of_lt hvlt] at hbk
  clear hm hb m b hmf
  have hsh : IntKind.u64.wrap ((v : Int) * 2 ^ b0) = (x : Int) := by
    have e : (v : Int) * 2 ^ b0 = ((v * 2 ^ b0 : Nat) : Int) := by rw [Int.natCast_mul, Int.natCast_pow]; rfl
    rw [e, hbk, IntKind.wrap_u64]
    omega
  have hg := h.lt
  unfold triV
  have hm64 : m0 ≤ 64 := by omega
  have hb64 : b0 < 64 := by omega
  have hmpos : 0 < m0 := hm00.1
  have hb1 : Below w.heap.size w ((w.alloc (.cells #[.int .i64 (a0 : Int), .int .i64 (m0 : Int), .int .i64 (b0 : Int)] 96)).alloc (.cells #[.int .i64 0, .int .i64 0, .int .i64 0] 96)) := ((Below.refl _ _).alloc (Nat.le_refl _) _).alloc (by simp) _
  have hk1 : Blk ((w.alloc (.cells #[.int .i64 (a0 : Int), .int .i64 (m0 : Int), .int .i64 (b0 : Int)] 96)).alloc (.cells #[.int .i64 0, .int .i64 0, .int .i64 0] 96)) w.heap.size 96 [.int .i64 (a0 : Int), .int .i64 (m0 : Int), .int .i64 (b0 : Int)] := Blk.alloc_ (heap_alloc_new w _) _
  have hk2 : Blk ((w.alloc (.cells #[.int .i64 (a0 : Int), .int .i64 (m0 : Int), .int .i64 (b0 : Int)] 96)).alloc (.cells #[.int .i64 0, .int .i64 0, .int .i64 0] 96)) (w.heap.size + 1) 96 [.int .i64 0, .int .i64 0, .int .i64 0] := by
    have := heap_alloc_new (w.alloc (.cells #[.int .i64 (a0 : Int), .int .i64 (m0 : Int), .int .i64 (b0 : Int)] 96)) (.cells #[.int .i64 0, .int .i64 0, .int .i64 0] 96)
    simpa [Blk] using this
  have HR := Lib.hid (h.only (OnlyT.of_below (B := 0) (ts := []) hb1) (by decide) (by decide))
  have HO := Lib.hid (OnlyT.of_below (B := g) (ts := [119]) hb1)
  have L1 := Lib.hid hk1
  have L2 := Lib.hid hk2
  have HV := Lib.hid hvlt
  have HSH := Lib.hid hsh
  clear hf hn hsb hs h hb1 hk1 hk2 hh hx h0 hW hp h8 f1 f2 f3 f4 f5 f6 f7 f8 k1 k2 k3 hsome hbk hv hvle hvlt hsh hm00
  go_enter Tryz.func111, Tryz.ntmps111
  go_wp2_with fail
  refine (rGet_one g true _ _ HR.out).mono ?_
  rintro e w2 ⟨rfl, hrn, hon⟩
  have HRn := Lib.hid hrn
  have HOn := Lib.hid (HO.out.trans hon)
  have L1n := Lib.hid (L1.out.only hon (by decide))
  have L2n := Lib.hid (L2.out.only hon (by decide))
  clear hrn hon HR HO L1 L2
  have HR := HRn
  have HO := HOn
  have L1 := L1n
  have L2 := L2n
  clear HRn HOn L1n L2n
  go_wp2_with fail
  refine (rGet_one g false _ _ HR.out).mono ?_
  rintro e w3 ⟨rfl, hrn, hon⟩
  have HRn := Lib.hid hrn
  have HOn := Lib.hid (HO.out.trans hon)
  have L1n := Lib.hid (L1.out.only hon (by decide))
  have L2n := Lib.hid (L2.out.only hon (by decide))
  clear hrn hon HR HO L1 L2
  have HR := HRn
  have HO := HOn
  have L1 := L1n
  have L2 := L2n
  clear HRn HOn L1n L2n
  have hk1 := L1.out
  have c0 := hk1.cell 0
  have c1 := hk1.cell 1
  have c2 := hk1.cell 2
  simp only [List.getElem?_cons_zero, List.getElem?_cons_succ] at c0 c1 c2
  clear hk1
  go_wp2_with fail
  have S1 := Lib.hid c1
  have S2 := Lib.hid c2
  clear c0 c1 c2
  have HRA : Hid (RdrIs w3.drew g (bitsOf v m0 ++ R) 0) := HR.out.only (OnlyT.refl 0 [] w3).drew (by simp) (by simp)
  have C := Lib.hid (rGet_bits g v m0 R _ HRA.out hm64 HV.out)
  clear HRA HR
  go_region_held3 (fun w' => w'.cell? ⟨w.heap.size, 1, none⟩ = some (.int .i64 (m0 : Int)) ∧ w'.cell? ⟨w.heap.size, 2, none⟩ = some (.int .i64 (b0 : Int))) (first | exact ⟨S1.out, S2.out⟩ | exact ⟨T1.out, T2.out⟩)
    (first
      | (go_at_call 110; refine C.out.mono ?_; rintro e w6 ⟨rfl, hr6, ho6⟩; have HR := Lib.hid hr6; have HOx := Lib.hid (HO.out.drew.trans ho6); have M1 := Lib.hid (L1.out.drew_.only ho6 (by decide)); have M2 := Lib.hid (L2.out.drew_.only ho6 (by decide)); have t1 := M1.out.cell 1; have t2 := M1.out.cell 2; simp only [List.getElem?_cons_zero, List.getElem?_cons_succ] at t1 t2; have T1 := Lib.hid t1; have T2 := Lib.hid t2; clear hr6 ho6 t1 t2))
  simp only [HSH.out]
  rename_i hHeld
  clear hHeld S1 S2 T1 T2 C L1 L2 HO
  have hk1 := M1.out
  have hk2 := M2.out
  have c0 := hk1.cell 0
  have c1 := hk1.cell 1
  have c2 := hk1.cell 2
  simp only [List.getElem?_cons_zero, List.getElem?_cons_succ] at c0 c1 c2
  have d0 := hk2.cell 0
  have d1 := hk2.cell 1
  have d2 := hk2.cell 2
  simp only [List.getElem?_cons_zero, List.getElem?_cons_succ] at d0 d1 d2
  have df0 := hk2.frozen 0
  have df1 := hk2.frozen 1
  have df2 := hk2.frozen 2
  clear hk1 hk2
  have hso := set3_only M2.out (B := 0) (Nat.zero_le _) (.int .i64 (a0 : Int)) (.int .i64 (m0 : Int)) (.int .i64 (b0 : Int))
  have HK := Lib.hid (set3 M2.out (.int .i64 (a0 : Int)) (.int .i64 (m0 : Int)) (.int .i64 (b0 : Int))).drew_
  have HF := Lib.hid ((HR.out.only hso (by decide) (by decide)).only (OnlyT.refl 0 [] _).drew (by simp) (by simp))
  have HOF := Lib.hid (HOx.out.late (set3_below (B := w.heap.size) (g := w.heap.size + 1) (by omega) (.int .i64 (a0 : Int)) (.int .i64 (m0 : Int)) (.int .i64 (b0 : Int)))).drew
  clear hso
  have HRD : Hid (RdrIs w6.drew g R 0) := HR.out.only (OnlyT.refl 0 [] w6).drew (by simp) (by simp)
  go_wp2_with fail
  go_region_with (go_at_call 118; refine (rErr_is 0 HRD.out).mono ?_; rintro e w7 ⟨rfl, rfl⟩)
  all_goals
    go_wp2
    exact bodyPost_ret (take_end Tryz.results111 rfl HK.out rfl rfl) rfl ⟨rfl, HF.out, HOF.out⟩
set_option maxHeartbeats 4000000 in
set_option maxRecDepth 100000 in
theorem take_new {W : Nat} (hW : IsW W) (s : Win) (hs : winOk W s) (x : Nat) (h0 : x ≠ 0) (hx : x < 256 ^ W) (hh : hasB s (aboveN W x) (belowN x) = false) (g : Nat) (R : List Bool) (w : World) (h : RdrIs w g (stepB W s x ++ R) 0) :
    Calls Tryz.prog 111 #[winV W s, .pointer (some ⟨g, 0, none⟩), .int .i64 (W : Int)] w (Takes w g W R s x) := by
  have hp := hW.pos
  have h8 : 256 ^ W ≤ 18446744073709551616 := by rcases hW with rfl | rfl | rfl | rfl <;> decide
  obtain ⟨f1, f2, f3, f4, f5, f6, f7, f8⟩ := own_facts hp.2 h0 hx
  obtain ⟨a0, m0, b0, hf, k1, k2, k3, hsome, -⟩ := winV_form W s hs
  have hn : nextW W s x = some (aboveN W x, belowN x) := by unfold nextW; rw [if_neg h0, hh, if_neg (by decide)]
  have hsb : stepB W s x = true :: true :: (bitsOf (aboveN W x) 6 ++ (bitsOf (8 * W - aboveN W x - belowN x - 1) 6 ++ bitsOf (x / 2 ^ belowN x) (8 * W - aboveN W x - belowN x))) := by
    unfold stepB
    rw [if_neg h0, hh, if_neg (by decide)]
    simp [ownB]
  have hbk := own_back hp.2 h0 hx (Nat.le_refl _) (Nat.le_refl _) f1
  unfold Takes
  rw [hn, hf]
  rw [hsb] at h
  obtain ⟨a, ha⟩ : ∃ a, a = aboveN W x := ⟨_, rfl⟩
  obtain ⟨b, hb⟩ : ∃ b, b = belowN x := ⟨_, rfl⟩
  obtain ⟨m, hm⟩ : ∃ m, m = 8 * W - a - b := ⟨_, rfl⟩
  unfold ownB at hbk
  unfold winV
  simp only [← ha, ← hb, ← hm] at h hbk f1 ⊢
  have hm00 : 0 < m ∧ a + m + b = 8 * W ∧ a < 64 := ⟨by omega, by omega, by omega⟩
  have CT := Lib.hid fun (w' : World) (R' : List Bool) (h' : RdrIs w' g (bitsOf a 6 ++ (bitsOf (m - 1) 6 ++ R')) 0) => told_any hp.2 g a m b R' w' hm00.2.1 hm00.1 h'
  unfold triV at CT
  obtain ⟨v, hv⟩ : ∃ v, v = x / 2 ^ b := ⟨_, rfl⟩
  rw [valOf_bitsOf] at hbk
  rw [← hv] at hbk h
  have hvle : v ≤ x := by rw [hv]; exact Nat.div_le_self _ _
  have hvlt : v < 2 ^ m := by
    rcases Nat.lt_or_ge v (2 ^ m) with gg | gg
    · exact gg
    · exfalso
      have h1 : v % 2 ^ m < v := Nat.lt_of_lt_of_le (Nat.mod_lt _ (Nat.two_pow_pos _)) gg
      have h2 : v % 2 ^ m * 2 ^ b < v * 2 ^ b := Nat.mul_lt_mul_of_pos_right h1 (Nat.two_pow_pos _)
      have h3 : v * 2 ^ b ≤ x := by rw [hv]; exact Nat.div_mul_le_self _ _
      omega
  rw [Nat.mod_eq_of_lt hvlt] at hbk
  have hsh : IntKind.u64.wrap ((v : Int) * 2 ^ b) = (x : Int) := by
    have e : (v : Int) * 2 ^ b = ((v * 2 ^ b : Nat) : Int) := by rw [Int.natCast_mul, Int.natCast_pow]; rfl
    rw [e, hbk, IntKind.wrap_u64]
    omega
  have hg := h.lt
  unfold triV
  have hm64 : m ≤ 64 := by omega
  have hb64 : b < 64 := by omega
  have hmpos : 0 < m := hm00.1
  have hb1 : Below w.heap.size w ((w.alloc (.cells #[.int .i64 (a0 : Int), .int .i64 (m0 : Int), .int .i64 (b0 : Int)] 96)).alloc (.cells #[.int .i64 0, .int .i64 0, .int .i64 0] 96)) := ((Below.refl _ _).alloc (Nat.le_refl _) _).alloc (by simp) _
  have hk1 : Blk ((w.alloc (.cells #[.int .i64 (a0 : Int), .int .i64 (m0 : Int), .int .i64 (b0 : Int)] 96)).alloc (.cells #[.int .i64 0, .int .i64 0, .int .i64 0] 96)) w.heap.size 96 [.int .i64 (a0 : Int), .int .i64 (m0 : Int), .int .i64 (b0 : Int)] := Blk.alloc_ (heap_alloc_new w _) _
  have hk2 : Blk ((w.alloc (.cells #[.int .i64 (a0 : Int), .int .i64 (m0 : Int), .int .i64 (b0 : Int)] 96)).alloc (.cells #[.int .i64 0, .int .i64 0, .int .i64 0] 96)) (w.heap.size + 1) 96 [.int .i64 0, .int .i64 0, .int .i64 0] := by
    have := heap_alloc_new (w.alloc (.cells #[.int .i64 (a0 : Int), .int .i64 (m0 : Int), .int .i64 (b0 : Int)] 96)) (.cells #[.int .i64 0, .int .i64 0, .int .i64 0] 96)
    simpa [Blk] using this
  have HR := Lib.hid (h.only (OnlyT.of_below (B := 0) (ts := []) hb1) (by decide) (by decide))
  have HO := Lib.hid (OnlyT.of_below (B := g) (ts := [119]) hb1)
  have L1 := Lib.hid hk1
  have L2 := Lib.hid hk2
  have HV := Lib.hid hvlt
  have HSH := Lib.hid hsh
  clear hf hn hsb hs h hb1 hk1 hk2 hh hx h0 hW hp h8 f1 f2 f3 f4 f5 f6 f7 f8 k1 k2 k3 hsome hbk hv hvle hvlt hsh hm00 ha hb hm
  go_enter Tryz.func111, Tryz.ntmps111
  go_wp2_with fail
  refine (rGet_one g true _ _ HR.out).mono ?_
  rintro e w2 ⟨rfl, hrn, hon⟩
  have HRn := Lib.hid hrn
  have HOn := Lib.hid (HO.out.trans hon)
  have L1n := Lib.hid (L1.out.only hon (by decide))
  have L2n := Lib.hid (L2.out.only hon (by decide))
  clear hrn hon HR HO L1 L2
  have HR := HRn
  have HO := HOn
  have L1 := L1n
  have L2 := L2n
  clear HRn HOn L1n L2n
  go_wp2_with fail
  refine (rGet_one g true _ _ HR.out).mono ?_
  rintro e w3 ⟨rfl, hrn, hon⟩
  have HRn := Lib.hid hrn
  have HOn := Lib.hid (HO.out.trans hon)
  have L1n := Lib.hid (L1.out.only hon (by decide))
  have L2n := Lib.hid (L2.out.only hon (by decide))
  clear hrn hon HR HO L1 L2
  have HR := HRn
  have HO := HOn
  have L1 := L1n
  have L2 := L2n
  clear HRn HOn L1n L2n
  go_wp2_with fail
  refine (CT.out w3 _ (by have := HR.out; simpa using this)).mono ?_
  rintro e w4 ⟨rfl, hrn, hon⟩
  have HRn := Lib.hid hrn
  have HOn := Lib.hid (HO.out.trans hon)
  have L1n := Lib.hid (L1.out.only hon (by decide))
  have L2n := Lib.hid (L2.out.only hon (by decide))
  clear hrn hon HR HO L1 L2
  have HR := HRn
  have HO := HOn
  have L1 := L1n
  have L2 := L2n
  clear HRn HOn L1n L2n
  have hk1 := L1.out
  have d0 := hk1.cell 0
  have d1 := hk1.cell 1
  have d2 := hk1.cell 2
  simp only [List.getElem?_cons_zero, List.getElem?_cons_succ] at d0 d1 d2
  have df0 := hk1.frozen 0
  have df1 := hk1.frozen 1
  have df2 := hk1.frozen 2
  clear hk1
  go_wp2_with fail
  clear d0 d1 d2 df0 df1 df2
  have HRn := Lib.hid (HR.out.only (set3_only L1.out (B := 0) (Nat.zero_le _) (.int .i64 (a : Int)) (.int .i64 (m : Int)) (.int .i64 (b : Int))) (by decide) (by decide))
  have HOn := Lib.hid (HO.out.late (set3_below (B := w.heap.size) (g := w.heap.size) (Nat.le_refl _) (.int .i64 (a : Int)) (.int .i64 (m : Int)) (.int .i64 (b : Int))))
  have L1n := Lib.hid (set3 L1.out (.int .i64 (a : Int)) (.int .i64 (m : Int)) (.int .i64 (b : Int)))
  have L2n := Lib.hid (set3_other L2.out (g := w.heap.size) (by omega) (.int .i64 (a : Int)) (.int .i64 (m : Int)) (.int .i64 (b : Int)))
  clear HR HO L1 L2
  generalize ((w4.setCell ⟨w.heap.size, 0, none⟩ (.int .i64 (a : Int))).setCell ⟨w.heap.size, 1, none⟩ (.int .i64 (m : Int))).setCell ⟨w.heap.size, 2, none⟩ (.int .i64 (b : Int)) = w5 at *
  have HR := HRn
  have HO := HOn
  have L1 := L1n
  have L2 := L2n
  clear HRn HOn L1n L2n
  have hk1 := L1.out
  have c0 := hk1.cell 0
  have c1 := hk1.cell 1
  have c2 := hk1.cell 2
  simp only [List.getElem?_cons_zero, List.getElem?_cons_succ] at c0 c1 c2
  clear hk1
  have S1 := Lib.hid c1
  have S2 := Lib.hid c2
  clear c0 c1 c2
  have HRA : Hid (RdrIs w5.drew g (bitsOf v m ++ R) 0) := HR.out.only (OnlyT.refl 0 [] w5).drew (by simp) (by simp)
  have C := Lib.hid (rGet_bits g v m R _ HRA.out hm64 HV.out)
  clear HRA HR
  go_region_held3 (fun w' => w'.cell? ⟨w.heap.size, 1, none⟩ = some (.int .i64 (m : Int)) ∧ w'.cell? ⟨w.heap.size, 2, none⟩ = some (.int .i64 (b : Int))) (first | exact ⟨S1.out, S2.out⟩ | exact ⟨T1.out, T2.out⟩)
    (first
      | (go_at_call 110; refine C.out.mono ?_; rintro e w6 ⟨rfl, hr6, ho6⟩; have HR := Lib.hid hr6; have HOx := Lib.hid (HO.out.drew.trans ho6); have M1 := Lib.hid (L1.out.drew_.only ho6 (by decide)); have M2 := Lib.hid (L2.out.drew_.only ho6 (by decide)); have t1 := M1.out.cell 1; have t2 := M1.out.cell 2; simp only [List.getElem?_cons_zero, List.getElem?_cons_succ] at t1 t2; have T1 := Lib.hid t1; have T2 := Lib.hid t2; clear hr6 ho6 t1 t2))
  simp only [HSH.out]
  rename_i hHeld
  clear hHeld S1 S2 T1 T2 C L1 L2 HO
  have hk1 := M1.out
  have hk2 := M2.out
  have c0 := hk1.cell 0
  have c1 := hk1.cell 1
  have c2 := hk1.cell 2
  simp only [List.getElem?_cons_zero, List.getElem?_cons_succ] at c0 c1 c2
  have d0 := hk2.cell 0
  have d1 := hk2.cell 1
  have d2 := hk2.cell 2
  simp only [List.getElem?_cons_zero, List.getElem?_cons_succ] at d0 d1 d2
  have df0 := hk2.frozen 0
  have df1 := hk2.frozen 1
  have df2 := hk2.frozen 2
  clear hk1 hk2
  have hso := set3_only M2.out (B := 0) (Nat.zero_le _) (.int .i64 (a : Int)) (.int .i64 (m : Int)) (.int .i64 (b : Int))
  have HK := Lib.hid (set3 M2.out (.int .i64 (a : Int)) (.int .i64 (m : Int)) (.int .i64 (b : Int))).drew_
  have HF := Lib.hid ((HR.out.only hso (by decide) (by decide)).only (OnlyT.refl 0 [] _).drew (by simp) (by simp))
  have HOF := Lib.hid (HOx.out.late (set3_below (B := w.heap.size) (g := w.heap.size + 1) (by omega) (.int .i64 (a : Int)) (.int .i64 (m : Int)) (.int .i64 (b : Int)))).drew
  clear hso
  have HRD : Hid (RdrIs w6.drew g R 0) := HR.out.only (OnlyT.refl 0 [] w6).drew (by simp) (by simp)
  go_wp2_with fail
  go_region_with (go_at_call 118; refine (rErr_is 0 HRD.out).mono ?_; rintro e w7 ⟨rfl, rfl⟩)
  all_goals
    go_wp2
    exact bodyPost_ret (take_end Tryz.results111 rfl HK.out rfl rfl) rfl ⟨rfl, HF.out, HOF.out⟩
end Go.Proofs.YtcenbaajojdjlaaGreatDoor
