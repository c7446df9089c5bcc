/- Contract of gorilla's take: a word that is not 0. -/
import Derived.Test.YtclhgjjehnmncaaDoorGorTake
namespace Go.Proofs.YtclhgjjehnmncaaDoor
open Go.RowKit

set_option maxHeartbeats 4000000 in
set_option maxRecDepth 100000 in
theorem take_in {W : Nat} (hW : IsW W) (s : Win) (hs : winOk W s) (x : Nat) (h0 : x ≠ 0) (hx : x < 256 ^ W) (hh : hasB s (aboveN W x) (belowN x) = true) (g : Nat) (R : List Bool) (w : World) (h : RdrIs w g (stepB W s x ++ R) 0) :
    Calls Tryd.prog 37 #[winV W s, .pointer (some ⟨g, 0, none⟩), .int .i64 (W : Int)] w (Takes w g W R s x) := by
  have hp := hW.pos
  have h8 : 256 ^ W ≤ 18446744073709551616 := by rcases hW with rfl | rfl | rfl | rfl <;> decide
  obtain ⟨f1, f2, f3, f4, f5, f6, f7, f8⟩ := own_facts hp.2 h0 hx
  obtain ⟨a0, m0, b0, hf, k1, k2, k3, hsome, -⟩ := winV_form W s hs
  have hn : nextW W s x = s := by unfold nextW; rw [if_neg h0, hh, if_pos rfl]
  have hsb : stepB W s x = true :: false :: bitsOf (x / 2 ^ b0) m0 := by
    unfold stepB
    rw [if_neg h0, hh, if_pos rfl]
    obtain ⟨p, rfl, -, -⟩ := hasB_some hh
    obtain ⟨e1, e2, e3, e4⟩ := hsome (by simp)
    unfold winB ownB
    rw [e3, e1, e2]
    rfl
  have hm00 : 0 < m0 ∧ a0 + b0 < 8 * W ∧ a0 ≤ aboveN W x ∧ b0 ≤ belowN x ∧ m0 = 8 * W - a0 - b0 := by
    obtain ⟨p, rfl, e5, e6⟩ := hasB_some hh
    obtain ⟨e1, e2, e3, e4⟩ := hsome (by simp)
    simp only [Option.getD_some] at e1 e2
    simp only [winOk] at hs
    exact ⟨e4, by omega, by omega, by omega, e3⟩
  have hbk := own_back hp.2 h0 hx hm00.2.2.1 hm00.2.2.2.1 hm00.2.1
  unfold Takes
  rw [hn, hf]
  rw [hsb] at h
  obtain ⟨m, hm⟩ : ∃ m, m = m0 := ⟨_, rfl⟩
  obtain ⟨b, hb⟩ : ∃ b, b = b0 := ⟨_, rfl⟩
  have hmf := hm00.2.2.2.2
  unfold ownB at hbk
  rw [← hmf] at hbk
  obtain ⟨v, hv⟩ : ∃ v, v = x / 2 ^ b0 := ⟨_, rfl⟩
  rw [valOf_bitsOf] at hbk
  rw [← hv] at hbk h
  have hvle : v ≤ x := by rw [hv]; exact Nat.div_le_self _ _
  have hvlt : v < 2 ^ m0 := by
    rcases Nat.lt_or_ge v (2 ^ m0) with gg | gg
    · exact gg
    · exfalso
      have h1 : v % 2 ^ m0 < v := Nat.lt_of_lt_of_le (Nat.mod_lt _ (Nat.two_pow_pos _)) gg
      have h2 : v % 2 ^ m0 * 2 ^ b0 < v * 2 ^ b0 := Nat.mul_lt_mul_of_pos_right h1 (Nat.two_pow_pos _)
      have h3 : v * 2 ^ b0 ≤ x := by rw [hv]; exact Nat.div_mul_le_self _ _
      omega
  rw [Nat.mod_eq_of_lt hvlt] at hbk
  clear hm hb m b hmf
  have hsh : IntKind.u64.wrap ((v : Int) * 2 ^ b0) = (x : Int) := by
    have e : (v : Int) * 2 ^ b0 = ((v * 2 ^ b0 : Nat) : Int) := by rw [Int.natCast_mul, Int.natCast_pow]; rfl
    rw [e, hbk, IntKind.wrap_u64]
    omega
  have hg := h.lt
  unfold triV
  have hm64 : m0 ≤ 64 := by omega
  have hb64 : b0 < 64 := by omega
  have hmpos : 0 < m0 := hm00.1
  have hb1 : Below w.heap.size w ((w.alloc (.cells #[.int .i64 (a0 : Int), .int .i64 (m0 : Int), .int .i64 (b0 : Int)] 40)).alloc (.cells #[.int .i64 0, .int .i64 0, .int .i64 0] 40)) := ((Below.refl _ _).alloc (Nat.le_refl _) _).alloc (by simp) _
  have hk1 : Blk ((w.alloc (.cells #[.int .i64 (a0 : Int), .int .i64 (m0 : Int), .int .i64 (b0 : Int)] 40)).alloc (.cells #[.int .i64 0, .int .i64 0, .int .i64 0] 40)) w.heap.size 40 [.int .i64 (a0 : Int), .int .i64 (m0 : Int), .int .i64 (b0 : Int)] := Blk.alloc_ (heap_alloc_new w _) _
  have hk2 : Blk ((w.alloc (.cells #[.int .i64 (a0 : Int), .int .i64 (m0 : Int), .int .i64 (b0 : Int)] 40)).alloc (.cells #[.int .i64 0, .int .i64 0, .int .i64 0] 40)) (w.heap.size + 1) 40 [.int .i64 0, .int .i64 0, .int .i64 0] := by
    have := heap_alloc_new (w.alloc (.cells #[.int .i64 (a0 : Int), .int .i64 (m0 : Int), .int .i64 (b0 : Int)] 40)) (.cells #[.int .i64 0, .int .i64 0, .int .i64 0] 40)
    simpa [Blk] using this
  have HR := Lib.hid (h.only (OnlyT.of_below (B := 0) (ts := []) hb1) (by decide) (by decide))
  have HO := Lib.hid (OnlyT.of_below (B := g) (ts := [68]) hb1)
  have L1 := Lib.hid hk1
  have L2 := Lib.hid hk2
  have HV := Lib.hid hvlt
  have HSH := Lib.hid hsh
  clear hf hn hsb hs h hb1 hk1 hk2 hh hx h0 hW hp h8 f1 f2 f3 f4 f5 f6 f7 f8 k1 k2 k3 hsome hbk hv hvle hvlt hsh hm00
  go_enter Tryd.func37, Tryd.ntmps37
  go_wp2_with fail
  refine (rGet_one g true _ _ HR.out).mono ?_
  rintro e w2 ⟨rfl, hrn, hon⟩
  have HRn := Lib.hid hrn
  have HOn := Lib.hid (HO.out.trans hon)
  have L1n := Lib.hid (L1.out.only hon (by decide))
  have L2n := Lib.hid (L2.out.only hon (by decide))
  clear hrn hon HR HO L1 L2
  have HR := HRn
  have HO := HOn
  have L1 := L1n
  have L2 := L2n
  clear HRn HOn L1n L2n
  go_wp2_with fail
  refine (rGet_one g false _ _ HR.out).mono ?_
  rintro e w3 ⟨rfl, hrn, hon⟩
  have HRn := Lib.hid hrn
  have HOn := Lib.hid (HO.out.trans hon)
  have L1n := Lib.hid (L1.out.only hon (by decide))
  have L2n := Lib.hid (L2.out.only hon (by decide))
  clear hrn hon HR HO L1 L2
  have HR := HRn
  have HO := HOn
  have L1 := L1n
  have L2 := L2n
  clear HRn HOn L1n L2n
  have hk1 := L1.out
  have c0 := hk1.cell 0
  have c1 := hk1.cell 1
  have c2 := hk1.cell 2
  simp only [List.getElem?_cons_zero, List.getElem?_cons_succ] at c0 c1 c2
  clear hk1
  go_wp2_with fail
  have S1 := Lib.hid c1
  have S2 := Lib.hid c2
  clear c0 c1 c2
  have HRA : Hid (RdrIs w3.drew g (bitsOf v m0 ++ R) 0) := HR.out.only (OnlyT.refl 0 [] w3).drew (by simp) (by simp)
  have C := Lib.hid (rGet_bits g v m0 R _ HRA.out hm64 HV.out)
  clear HRA HR
  go_region_held3 (fun w' => w'.cell? ⟨w.heap.size, 1, none⟩ = some (.int .i64 (m0 : Int)) ∧ w'.cell? ⟨w.heap.size, 2, none⟩ = some (.int .i64 (b0 : Int))) (first | exact ⟨S1.out, S2.out⟩ | exact ⟨T1.out, T2.out⟩)
    (first
      | (go_at_call 36; refine C.out.mono ?_; rintro e w6 ⟨rfl, hr6, ho6⟩; have HR := Lib.hid hr6; have HOx := Lib.hid (HO.out.drew.trans ho6); have M1 := Lib.hid (L1.out.drew_.only ho6 (by decide)); have M2 := Lib.hid (L2.out.drew_.only ho6 (by decide)); have t1 := M1.out.cell 1; have t2 := M1.out.cell 2; simp only [List.getElem?_cons_zero, List.getElem?_cons_succ] at t1 t2; have T1 := Lib.hid t1; have T2 := Lib.hid t2; clear hr6 ho6 t1 t2))
  simp only [HSH.out]
  rename_i hHeld
  clear hHeld S1 S2 T1 T2 C L1 L2 HO
  have hk1 := M1.out
  have hk2 := M2.out
  have c0 := hk1.cell 0
  have c1 := hk1.cell 1
  have c2 := hk1.cell 2
  simp only [List.getElem?_cons_zero, List.getElem?_cons_succ] at c0 c1 c2
  have d0 := hk2.cell 0
  have d1 := hk2.cell 1
  have d2 := hk2.cell 2
  simp only [List.getElem?_cons_zero, List.getElem?_cons_succ] at d0 d1 d2
  have df0 := hk2.frozen 0
  have df1 := hk2.frozen 1
  have df2 := hk2.frozen 2
  clear hk1 hk2
  have hso := set3_only M2.out (B := 0) (Nat.zero_le _) (.int .i64 (a0 : Int)) (.int .i64 (m0 : Int)) (.int .i64 (b0 : Int))
  have HK := Lib.hid (set3 M2.out (.int .i64 (a0 : Int)) (.int .i64 (m0 : Int)) (.int .i64 (b0 : Int))).drew_
  have HF := Lib.hid ((HR.out.only hso (by decide) (by decide)).only (OnlyT.refl 0 [] _).drew (by simp) (by simp))
  have HOF := Lib.hid (HOx.out.late (set3_below (B := w.heap.size) (g := w.heap.size + 1) (by omega) (.int .i64 (a0 : Int)) (.int .i64 (m0 : Int)) (.int .i64 (b0 : Int)))).drew
  clear hso
  have HRD : Hid (RdrIs w6.drew g R 0) := HR.out.only (OnlyT.refl 0 [] w6).drew (by simp) (by simp)
  go_wp2_with fail
  go_region_with (go_at_call 42; refine (rErr_is 0 HRD.out).mono ?_; rintro e w7 ⟨rfl, rfl⟩)
  all_goals
    go_wp2
    exact bodyPost_ret (take_end Tryd.results37 rfl HK.out rfl rfl) rfl ⟨rfl, HF.out, HOF.out⟩
set_option maxHeartbeats 4000000 in
set_option maxRecDepth 100000 in
theorem take_new {W : Nat} (hW : IsW W) (s : Win) (hs : winOk W s) (x : Nat) (h0 : x ≠ 0) (hx : x < 256 ^ W) (hh : hasB s (aboveN W x) (belowN x) = false) (g : Nat) (R : List Bool) (w : World) (h : RdrIs w g (stepB W s x ++ R) 0) :
    Calls Tryd.prog 37 #[winV W s, .pointer (some ⟨g, 0, none⟩), .int .i64 (W : Int)] w (Takes w g W R s x) := by
  have hp := hW.pos
  have h8 : 256 ^ W ≤ 18446744073709551616 := by rcases hW with rfl | rfl | rfl | rfl <;> decide
  obtain ⟨f1, f2, f3, f4, f5, f6, f7, f8⟩ := own_facts hp.2 h0 hx
  obtain ⟨a0, m0, b0, hf, k1, k2, k3, hsome, -⟩ := winV_form W s hs
  have hn : nextW W s x = some (aboveN W x, belowN x) := by unfold nextW; rw [if_neg h0, hh, if_neg (by decide)]
  have hsb : stepB W s x = true :: true :: (bitsOf (aboveN W x) 6 ++ (bitsOf (8 * W - aboveN W x - belowN x - 1) 6 ++ bitsOf (x / 2 ^ belowN x) (8 * W - aboveN W x - belowN x))) := by
    unfold stepB
    rw [if_neg h0, hh, if_neg (by decide)]
    simp [ownB]
  have hbk := own_back hp.2 h0 hx (Nat.le_refl _) (Nat.le_refl _) f1
  unfold Takes
  rw [hn, hf]
  rw [hsb] at h
  obtain ⟨a, ha⟩ : ∃ a, a = aboveN W x := ⟨_, rfl⟩
  obtain ⟨b, hb⟩ : ∃ b, b = belowN x := ⟨_, rfl⟩
  obtain ⟨m, hm⟩ : ∃ m, m = 8 * W - a - b := ⟨_, rfl⟩
  unfold ownB at hbk
  unfold winV
  simp only [← ha, ← hb, ← hm] at h hbk f1 ⊢
  have hm00 : 0 < m ∧ a + m + b = 8 * W ∧ a < 64 := ⟨by omega, by omega, by omega⟩
  have CT := Lib.hid fun (w' : World) (R' : List Bool) (h' : RdrIs w' g (bitsOf a 6 ++ (bitsOf (m - 1) 6 ++ R')) 0) => told_any hp.2 g a m b R' w' hm00.2.1 hm00.1 h'
  unfold triV at CT
  obtain ⟨v, hv⟩ : ∃ v, v = x / 2 ^ b := ⟨_, rfl⟩
  rw [valOf_bitsOf] at hbk
  rw [← hv] at hbk h
  have hvle : v ≤ x := by rw [hv]; exact Nat.div_le_self _ _
  have hvlt : v < 2 ^ m := by
    rcases Nat.lt_or_ge v (2 ^ m) with gg | gg
    · exact gg
    · exfalso
      have h1 : v % 2 ^ m < v := Nat.lt_of_lt_of_le (Nat.mod_lt _ (Nat.two_pow_pos _)) gg
      have h2 : v % 2 ^ m * 2 ^ b < v * 2 ^ b := Nat.mul_lt_mul_of_pos_right h1 (Nat.two_pow_pos _)
      have h3 : v * 2 ^ b ≤ x := by rw [hv]; exact Nat.div_mul_le_self _ _
      omega
  rw [Nat.mod_eq_of_lt hvlt] at hbk
  have hsh : IntKind.u64.wrap ((v : Int) * 2 ^ b) = (x : Int) := by
    have e : (v : Int) * 2 ^ b = ((v * 2 ^ b : Nat) : Int) := by rw [Int.natCast_mul, Int.natCast_pow]; rfl
    rw [e, hbk, IntKind.wrap_u64]
    omega
  have hg := h.lt
  unfold triV
  have hm64 : m ≤ 64 := by omega
  have hb64 : b < 64 := by omega
  have hmpos : 0 < m := hm00.1
  have hb1 : Below w.heap.size w ((w.alloc (.cells #[.int .i64 (a0 : Int), .int .i64 (m0 : Int), .int .i64 (b0 : Int)] 40)).alloc (.cells #[.int .i64 0, .int .i64 0, .int .i64 0] 40)) := ((Below.refl _ _).alloc (Nat.le_refl _) _).alloc (by simp) _
  have hk1 : Blk ((w.alloc (.cells #[.int .i64 (a0 : Int), .int .i64 (m0 : Int), .int .i64 (b0 : Int)] 40)).alloc (.cells #[.int .i64 0, .int .i64 0, .int .i64 0] 40)) w.heap.size 40 [.int .i64 (a0 : Int), .int .i64 (m0 : Int), .int .i64 (b0 : Int)] := Blk.alloc_ (heap_alloc_new w _) _
  have hk2 : Blk ((w.alloc (.cells #[.int .i64 (a0 : Int), .int .i64 (m0 : Int), .int .i64 (b0 : Int)] 40)).alloc (.cells #[.int .i64 0, .int .i64 0, .int .i64 0] 40)) (w.heap.size + 1) 40 [.int .i64 0, .int .i64 0, .int .i64 0] := by
    have := heap_alloc_new (w.alloc (.cells #[.int .i64 (a0 : Int), .int .i64 (m0 : Int), .int .i64 (b0 : Int)] 40)) (.cells #[.int .i64 0, .int .i64 0, .int .i64 0] 40)
    simpa [Blk] using this
  have HR := Lib.hid (h.only (OnlyT.of_below (B := 0) (ts := []) hb1) (by decide) (by decide))
  have HO := Lib.hid (OnlyT.of_below (B := g) (ts := [68]) hb1)
  have L1 := Lib.hid hk1
  have L2 := Lib.hid hk2
  have HV := Lib.hid hvlt
  have HSH := Lib.hid hsh
  clear hf hn hsb hs h hb1 hk1 hk2 hh hx h0 hW hp h8 f1 f2 f3 f4 f5 f6 f7 f8 k1 k2 k3 hsome hbk hv hvle hvlt hsh hm00 ha hb hm
  go_enter Tryd.func37, Tryd.ntmps37
  go_wp2_with fail
  refine (rGet_one g true _ _ HR.out).mono ?_
  rintro e w2 ⟨rfl, hrn, hon⟩
  have HRn := Lib.hid hrn
  have HOn := Lib.hid (HO.out.trans hon)
  have L1n := Lib.hid (L1.out.only hon (by decide))
  have L2n := Lib.hid (L2.out.only hon (by decide))
  clear hrn hon HR HO L1 L2
  have HR := HRn
  have HO := HOn
  have L1 := L1n
  have L2 := L2n
  clear HRn HOn L1n L2n
  go_wp2_with fail
  refine (rGet_one g true _ _ HR.out).mono ?_
  rintro e w3 ⟨rfl, hrn, hon⟩
  have HRn := Lib.hid hrn
  have HOn := Lib.hid (HO.out.trans hon)
  have L1n := Lib.hid (L1.out.only hon (by decide))
  have L2n := Lib.hid (L2.out.only hon (by decide))
  clear hrn hon HR HO L1 L2
  have HR := HRn
  have HO := HOn
  have L1 := L1n
  have L2 := L2n
  clear HRn HOn L1n L2n
  go_wp2_with fail
  refine (CT.out w3 _ (by have := HR.out; simpa using this)).mono ?_
  rintro e w4 ⟨rfl, hrn, hon⟩
  have HRn := Lib.hid hrn
  have HOn := Lib.hid (HO.out.trans hon)
  have L1n := Lib.hid (L1.out.only hon (by decide))
  have L2n := Lib.hid (L2.out.only hon (by decide))
  clear hrn hon HR HO L1 L2
  have HR := HRn
  have HO := HOn
  have L1 := L1n
  have L2 := L2n
  clear HRn HOn L1n L2n
  have hk1 := L1.out
  have d0 := hk1.cell 0
  have d1 := hk1.cell 1
  have d2 := hk1.cell 2
  simp only [List.getElem?_cons_zero, List.getElem?_cons_succ] at d0 d1 d2
  have df0 := hk1.frozen 0
  have df1 := hk1.frozen 1
  have df2 := hk1.frozen 2
  clear hk1
  go_wp2_with fail
  clear d0 d1 d2 df0 df1 df2
  have HRn := Lib.hid (HR.out.only (set3_only L1.out (B := 0) (Nat.zero_le _) (.int .i64 (a : Int)) (.int .i64 (m : Int)) (.int .i64 (b : Int))) (by decide) (by decide))
  have HOn := Lib.hid (HO.out.late (set3_below (B := w.heap.size) (g := w.heap.size) (Nat.le_refl _) (.int .i64 (a : Int)) (.int .i64 (m : Int)) (.int .i64 (b : Int))))
  have L1n := Lib.hid (set3 L1.out (.int .i64 (a : Int)) (.int .i64 (m : Int)) (.int .i64 (b : Int)))
  have L2n := Lib.hid (set3_other L2.out (g := w.heap.size) (by omega) (.int .i64 (a : Int)) (.int .i64 (m : Int)) (.int .i64 (b : Int)))
  clear HR HO L1 L2
  generalize ((w4.setCell ⟨w.heap.size, 0, none⟩ (.int .i64 (a : Int))).setCell ⟨w.heap.size, 1, none⟩ (.int .i64 (m : Int))).setCell ⟨w.heap.size, 2, none⟩ (.int .i64 (b : Int)) = w5 at *
  have HR := HRn
  have HO := HOn
  have L1 := L1n
  have L2 := L2n
  clear HRn HOn L1n L2n
  have hk1 := L1.out
  have c0 := hk1.cell 0
  have c1 := hk1.cell 1
  have c2 := hk1.cell 2
  simp only [List.getElem?_cons_zero, List.getElem?_cons_succ] at c0 c1 c2
  clear hk1
  have S1 := Lib.hid c1
  have S2 := Lib.hid c2
  clear c0 c1 c2
  have HRA : Hid (RdrIs w5.drew g (bitsOf v m ++ R) 0) := HR.out.only (OnlyT.refl 0 [] w5).drew (by simp) (by simp)
  have C := Lib.hid (rGet_bits g v m R _ HRA.out hm64 HV.out)
  clear HRA HR
  go_region_held3 (fun w' => w'.cell? ⟨w.heap.size, 1, none⟩ = some (.int .i64 (m : Int)) ∧ w'.cell? ⟨w.heap.size, 2, none⟩ = some (.int .i64 (b : Int))) (first | exact ⟨S1.out, S2.out⟩ | exact ⟨T1.out, T2.out⟩)
    (first
      | (go_at_call 36; refine C.out.mono ?_; rintro e w6 ⟨rfl, hr6, ho6⟩; have HR := Lib.hid hr6; have HOx := Lib.hid (HO.out.drew.trans ho6); have M1 := Lib.hid (L1.out.drew_.only ho6 (by decide)); have M2 := Lib.hid (L2.out.drew_.only ho6 (by decide)); have t1 := M1.out.cell 1; have t2 := M1.out.cell 2; simp only [List.getElem?_cons_zero, List.getElem?_cons_succ] at t1 t2; have T1 := Lib.hid t1; have T2 := Lib.hid t2; clear hr6 ho6 t1 t2))
  simp only [HSH.out]
  rename_i hHeld
  clear hHeld S1 S2 T1 T2 C L1 L2 HO
  have hk1 := M1.out
  have hk2 := M2.out
  have c0 := hk1.cell 0
  have c1 := hk1.cell 1
  have c2 := hk1.cell 2
  simp only [List.getElem?_cons_zero, List.getElem?_cons_succ] at c0 c1 c2
  have d0 := hk2.cell 0
  have d1 := hk2.cell 1
  have d2 := hk2.cell 2
  simp only [List.getElem?_cons_zero, List.getElem?_cons_succ] at d0 d1 d2
  have df0 := hk2.frozen 0
  have df1 := hk2.frozen 1
  have df2 := hk2.frozen 2
  clear hk1 hk2
  have hso := set3_only M2.out (B := 0) (Nat.zero_le _) (.int .i64 (a : Int)) (.int .i64 (m : Int)) (.int .i64 (b : Int))
  have HK := Lib.hid (set3 M2.out (.int .i64 (a : Int)) (.int .i64 (m : Int)) (.int .i64 (b : Int))).drew_
  have HF := Lib.hid ((HR.out.only hso (by decide) (by decide)).only (OnlyT.refl 0 [] _).drew (by simp) (by simp))
  have HOF := Lib.hid (HOx.out.late (set3_below (B := w.heap.size) (g := w.heap.size + 1) (by omega) (.int .i64 (a : Int)) (.int .i64 (m : Int)) (.int .i64 (b : Int)))).drew
  clear hso
  have HRD : Hid (RdrIs w6.drew g R 0) := HR.out.only (OnlyT.refl 0 [] w6).drew (by simp) (by simp)
  go_wp2_with fail
  go_region_with (go_at_call 42; refine (rErr_is 0 HRD.out).mono ?_; rintro e w7 ⟨rfl, rfl⟩)
  all_goals
    go_wp2
    exact bodyPost_ret (take_end Tryd.results37 rfl HK.out rfl rfl) rfl ⟨rfl, HF.out, HOF.out⟩
end Go.Proofs.YtclhgjjehnmncaaDoor
