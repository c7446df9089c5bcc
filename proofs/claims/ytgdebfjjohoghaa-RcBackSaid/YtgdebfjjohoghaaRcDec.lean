/- Layer 17: the reference's decoder. -/
import Derived.Test.YtgdebfjjohoghaaRcRef
import Derived.Test.YtgdebfjjohoghaaRcState
namespace Go.Proofs.Ytgdebfjjohoghaa
open Go.RowKit Go.Sort

/-- The reference's decoder at D: a span, C, the bytes that are left (below block K), the first error. -/
def RefDec (w : World) (D K : Nat) (L R C E : Nat) (B : List Nat) : Prop :=
  ∃ A n m, Blk w D 46 [.int .u64 (L : Int), .int .u64 (R : Int), .int .u64 (C : Int), .slice A n m, .int .i64 (E : Int)] ∧ Rd w K A (nvs B) ∧ B.length = n ∧ n ≤ m ∧ n ≤ 1000000 ∧ K ≤ D ∧ C < 4294967296 ∧ ∀ b ∈ B, b < 256
section
variable {w : World} {D K : Nat} {L R C E : Nat} {B : List Nat}
theorem RefDec.below {w' : World} (h : RefDec w D K L R C E B) (hb : Below w.heap.size w w') : RefDec w' D K L R C E B := by
  obtain ⟨A, n, m, h1, h2, h3, h4, h5, h6, h7⟩ := h
  exact ⟨A, n, m, h1.grow hb, h2.below (hb.mono (by have := h1.lt; omega)), h3, h4, h5, h6, h7⟩
theorem size_u8d : (Try.prog.info? 5).map (·.size) = some 1 := by kernel_rfl
theorem come_vals {C b : Nat} (hC : C < 4294967296) (hb : b < 256) : ∃ M N c : Nat, IntKind.u64.wrap (256 * (C : Int)) = (M : Int) ∧ IntKind.u64.wrap ((M : Int) + (b : Int)) = (N : Int) ∧ (N : Int).tmod 4294967296 = (c : Int) ∧ (N : Int) % 4294967296 = (c : Int) ∧ IntKind.u64.wrap (b : Int) = (b : Int) ∧ c = (256 * C + b) % 4294967296 := by
  refine ⟨256 * C, 256 * C + b, (256 * C + b) % 4294967296, ?_, ?_, ?_, ?_, ?_, rfl⟩
  · rw [IntKind.wrap_u64]; omega
  · rw [IntKind.wrap_u64]; omega
  · rw [Int.tmod_eq_emod_of_nonneg (by omega)]; omega
  · omega
  · rw [IntKind.wrap_u64]; omega
set_option maxHeartbeats 1000000 in
set_option maxRecDepth 100000 in
theorem rcComes_any (h : RefDec w D K L R C E B) :
    Calls Try.prog 28 #[.pointer (some ⟨D, 0, none⟩)] w fun e w' => e = .returned (.tuple #[]) ∧ RefDec w' D K L R (comeS (C, B, E)).1 (comeS (C, B, E)).2.2 (comeS (C, B, E)).2.1 ∧ TurnsB D D w w' := by
  obtain ⟨A, n, m, hb, hr, hn, hnm, hn1, hK, hC, hB⟩ := h
  have hc0 := hb.cell 0
  have hc1 := hb.cell 1
  have hc2 := hb.cell 2
  have hc3 := hb.cell 3
  have hc4 := hb.cell 4
  have hf2 := hb.frozen 2
  have hf3 := hb.frozen 3
  have hf4 := hb.frozen 4
  simp only [List.getElem?_cons_zero, List.getElem?_cons_succ] at hc0 hc1 hc2 hc3 hc4
  have HB := Lib.hid hb
  have HR := Lib.hid hr
  clear hb hr
  cases B with
  | nil =>
    obtain rfl : n = 0 := by rw [← hn]; rfl
    clear hc0 hc1 hc2 hf2 hf3
    by_cases hE : E = 0
    · subst hE
      rw [comeS_nil]
      go_enter Try.func28, Try.ntmps28
      go_wp2
      (try simp only [Exit.inBlock, Exit.then]); refine bodyPost_ret (results_none rfl _ _ _) rfl ?_
      exact ⟨rfl, ⟨A, 0, m, HB.out.set_ 4 _, Rd.nil_ _ _ _, rfl, hnm, hn1, hK, hC, hB⟩, TurnsB.set_ 4 _⟩
    · rw [comeS_nil, if_neg hE]
      have hEi : ¬ (E : Int) = 0 := by omega
      go_enter Try.func28, Try.ntmps28
      go_wp2
      (try simp only [Exit.inBlock, Exit.then]); refine bodyPost_ret (results_none rfl _ _ _) rfl ?_
      exact ⟨rfl, ⟨A, 0, m, HB.out, Rd.nil_ _ _ _, rfl, hnm, hn1, hK, hC, hB⟩, TurnsB.refl _ _ _⟩
  | cons b T =>
    have hb8 := hB b (by simp)
    have hTb : ∀ y ∈ T, y < 256 := fun y hy => hB y (by simp [hy])
    have hTl : T.length + 1 = n := by rw [← hn]; rfl
    obtain ⟨ab, ao, rfl, hab, hcell⟩ := HR.out 0 (.int .u8 (b : Int)) (by simp [nvs])
    rw [Nat.add_zero] at hcell
    obtain ⟨M, N, c, e1, e2, e3, e4, e5, e6⟩ := come_vals hC hb8
    rw [comeS_cons, ← e6]
    have hn0 : ¬ (n : Int) = 0 := by omega
    have hn3 : (0 : Int) < (n : Int) := by omega
    have hn4 : 0 < n := by omega
    have hn5 : ¬ n = 0 := by omega
    have hc256 : c < 4294967296 := by rw [e6]; exact Nat.mod_lt _ (by decide)
    have hDs := HB.out.lt
    clear e6
    go_enter Try.func28, Try.ntmps28
    go_wp2
    refine wp_region_still_tail 17 (by kernel_rfl) (by kernel_rfl) ?_
    simp only [List.take_succ_cons, List.take_zero, List.drop_succ_cons, List.drop_zero]
    repeat still_step
    refine wpStill_nil ?_
    change wpList _ _ _ _ _ w.drew
    have hb1 : Blk (w.setCell ⟨D, 2, none⟩ (.int .u64 (c : Int))) D 46 [.int .u64 (L : Int), .int .u64 (R : Int), .int .u64 (c : Int), .slice (some ⟨ab, ao, none⟩) n m, .int .i64 (E : Int)] := HB.out.set_ 2 _
    have hr1 : Rd (w.setCell ⟨D, 2, none⟩ (.int .u64 (c : Int))) K (some ⟨ab, ao, none⟩) (nvs (b :: T)) := HR.out.setCell hK _
    have HB1 := Lib.hid hb1
    have HR1 := Lib.hid (hr1.drew)
    have HLN := Lib.hid (show (nvs (b :: T)).length = n by rw [nvs_length]; exact hn)
    clear hb1 hr1 hn3 hn4 hn5 hn0 hcell
    have h1n : 1 ≤ n := by omega
    go_wp2_with ((with_reducible show wpList _ _ _ (({ dst := some 38, op := _, type := _, pos := _, after := _, guard := _ } : Oper) :: _) _ _); go_must (refine wpList_from rfl (.tmp 37) (.const (.int .i64 1)) rfl Try.underlying31 size_u8d K _ n m 1 (nvs (b :: T)) rfl rfl HR1.out HLN.out hnm h1n ?_; intro A2 c2 hc2' hr2; rw [nvs_drop] at hr2))
    go_end0
    have hb2 := (HB1.out.set_ 3 (.slice A2 (n - 1) c2)).drew_
    refine ⟨rfl, ⟨A2, n - 1, c2, hb2, (hr2.setCell (by exact hK) _).drew, by omega, hc2', by omega, hK, hc256, hTb⟩, ((TurnsB.set_ 2 _).trans (TurnsB.set_ 3 _)).drew⟩
theorem find_vals {L R C T : Nat} (hL : L < 4294967296) (hR : R ≤ 4294967296) (hC : C < 4294967296) (hT : 1 ≤ T) (hTR : T ≤ R) : ∃ X Y Z r n : Nat, IntKind.u64.wrap ((C : Int) + 4294967296) = (X : Int) ∧ IntKind.u64.wrap ((X : Int) - (L : Int)) = (Y : Int) ∧ (Y : Int).tmod 4294967296 = (Z : Int) ∧ (Y : Int) % 4294967296 = (Z : Int) ∧ IntKind.u64.wrap ((R : Int) / (T : Int)) = (r : Int) ∧ ¬ r = 0 ∧ IntKind.u64.wrap ((Z : Int) / (r : Int)) = (n : Int) ∧ n < 4294967296 ∧ n = (C + 4294967296 - L) % 4294967296 / (R / T) := by
  have hr : 1 ≤ R / T := (Nat.le_div_iff_mul_le (by omega)).2 (by omega)
  have hrle : R / T ≤ R := Nat.div_le_self _ _
  have hdc : (R : Int) / (T : Int) = ((R / T : Nat) : Int) := (Int.natCast_ediv _ _).symm
  obtain ⟨r, hrr⟩ : ∃ r, r = R / T := ⟨_, rfl⟩
  rw [← hrr] at hr hrle hdc ⊢
  obtain ⟨Z, hZ⟩ : ∃ Z, Z = (C + 4294967296 - L) % 4294967296 := ⟨_, rfl⟩
  have hlt : Z < 4294967296 := by rw [hZ]; exact Nat.mod_lt _ (by decide)
  have hdc2 : (Z : Int) / (r : Int) = ((Z / r : Nat) : Int) := (Int.natCast_ediv _ _).symm
  have hle : Z / r ≤ Z := Nat.div_le_self _ _
  rw [← hZ]
  obtain ⟨q, hq⟩ : ∃ q, q = Z / r := ⟨_, rfl⟩
  rw [← hq] at hle hdc2 ⊢
  refine ⟨C + 4294967296, C + 4294967296 - L, Z, r, q, ?_, ?_, ?_, ?_, ?_, by omega, ?_, by omega, rfl⟩
  · rw [IntKind.wrap_u64]; omega
  · rw [IntKind.wrap_u64]; omega
  · rw [Int.tmod_eq_emod_of_nonneg (by omega)]; omega
  · omega
  · rw [hdc, IntKind.wrap_u64]; omega
  · rw [hdc2, IntKind.wrap_u64]; omega
set_option maxHeartbeats 1000000 in
set_option maxRecDepth 100000 in
theorem rcFind_err (total : Int) (h : RefDec w D K L R C E B) (hE : E ≠ 0) :
    Calls Try.prog 16 #[.pointer (some ⟨D, 0, none⟩), .int .i64 total] w fun e w' => e = .returned (.int .i64 0) ∧ w' = w := by
  obtain ⟨A, n, m, hb, hr, hn, hnm, hn1, hK, hC, hB⟩ := h
  have hc4 := hb.cell 4
  simp only [List.getElem?_cons_zero, List.getElem?_cons_succ] at hc4
  have hEi : ¬ (E : Int) = 0 := by omega
  clear hb hr
  go_enter Try.func16, Try.ntmps16
  go_wp2
  go_ret
  exact ⟨rfl, rfl⟩
set_option maxHeartbeats 1000000 in
set_option maxRecDepth 100000 in
theorem rcFind_arg (total : Int) (h : RefDec w D K L R C 0 B) (ht : total < 1 ∨ 65536 < total) :
    Calls Try.prog 16 #[.pointer (some ⟨D, 0, none⟩), .int .i64 total] w fun e w' => e = .returned (.int .i64 0) ∧ RefDec w' D K L R C 2 B ∧ TurnsB D D w w' := by
  obtain ⟨A, n, m, hb, hr, hn, hnm, hn1, hK, hC, hB⟩ := h
  have hc4 := hb.cell 4
  have hf4 := hb.frozen 4
  simp only [List.getElem?_cons_zero, List.getElem?_cons_succ] at hc4
  have HB := Lib.hid hb
  have HR := Lib.hid hr
  clear hb hr
  have HEND := Lib.hid (show RefDec (w.setCell ⟨D, 4, none⟩ (.int .i64 2)) D K L R C 2 B ∧ TurnsB D D w (w.setCell ⟨D, 4, none⟩ (.int .i64 2)) from ⟨⟨A, n, m, HB.out.set_ 4 _, HR.out.setCell hK _, hn, hnm, hn1, hK, hC, hB⟩, TurnsB.set_ 4 _⟩)
  go_enter Try.func16, Try.ntmps16
  by_cases h1 : total < 1
  · clear ht
    go_wp2
    go_ret
    exact ⟨rfl, HEND.out⟩
  · have h2 : 65536 < total := by omega
    clear ht
    go_wp2
    go_ret
    exact ⟨rfl, HEND.out⟩
set_option maxHeartbeats 1000000 in
set_option maxRecDepth 100000 in
theorem rcFind_ok (T : Nat) (h : RefDec w D K L R C 0 B) (hi : InSpan L R) (hR : 65536 ≤ R) (h1 : 1 ≤ T) (h2 : T ≤ 65536) :
    Calls Try.prog 16 #[.pointer (some ⟨D, 0, none⟩), .int .i64 (T : Int)] w fun e w' => e = .returned (.int .i64 ((findS L R C T).1 : Int)) ∧ RefDec w' D K L R C (findS L R C T).2 B ∧ TurnsB D D w w' := by
  obtain ⟨A, n, m, hb, hr, hn, hnm, hn1, hK, hC, hB⟩ := h
  obtain ⟨X, Y, Z, r, q, e1, e2, e3, e4, e5, e6, e7, e8, e9⟩ := find_vals (L := L) (R := R) (C := C) (T := T) hi.1 (by have := hi.2.2.1; omega) hC h1 (by omega)
  have hc0 := hb.cell 0
  have hc1 := hb.cell 1
  have hc2 := hb.cell 2
  have hc4 := hb.cell 4
  have hf4 := hb.frozen 4
  simp only [List.getElem?_cons_zero, List.getElem?_cons_succ] at hc0 hc1 hc2 hc4
  have HB := Lib.hid hb
  have HR := Lib.hid hr
  have HE := Lib.hid e9
  have ht1 : (1 : Int) ≤ (T : Int) := by omega
  have ht2 : (T : Int) ≤ 65536 := by omega
  have ht3 : ¬ T = 0 := by omega
  have hwt : IntKind.u64.wrap (T : Int) = (T : Int) := by rw [IntKind.wrap_u64]; omega
  clear hb hr hi hR h1 h2 e9
  by_cases hq : T ≤ q
  · have hfs : findS L R C T = (0, 16) := by unfold findS; rw [← HE.out, if_pos hq]
    rw [hfs]
    have hqi : (T : Int) ≤ (q : Int) := by omega
    clear hfs hq
    have HEND := Lib.hid (show RefDec (w.drew.setCell ⟨D, 4, none⟩ (.int .i64 16)) D K L R C 16 B ∧ TurnsB D D w (w.drew.setCell ⟨D, 4, none⟩ (.int .i64 16)) from ⟨⟨A, n, m, HB.out.drew_.set_ 4 _, HR.out.drew.setCell hK _, hn, hnm, hn1, hK, hC, hB⟩, ((TurnsB.refl D D w).drew).trans (TurnsB.set_ 4 _)⟩)
    go_enter Try.func16, Try.ntmps16
    go_wp2
    refine wp_region_still_lit (by kernel_rfl) (by kernel_rfl) ?_
    repeat still_step
    refine wpStill_nil ?_
    change Exit.then _ _ _ _ w.drew
    go_wp2
    go_ret
    exact ⟨rfl, HEND.out⟩
  · have hfs : findS L R C T = (q, 0) := by unfold findS; rw [← HE.out, if_neg hq]
    rw [hfs]
    have hqi : ¬ (T : Int) ≤ (q : Int) := by omega
    have hwq : IntKind.i64.wrap (q : Int) = (q : Int) := by rw [IntKind.wrap_i64]; omega
    clear hfs hq
    go_enter Try.func16, Try.ntmps16
    go_wp2
    refine wp_region_still_lit (by kernel_rfl) (by kernel_rfl) ?_
    repeat still_step
    refine wpStill_nil ?_
    change Exit.then _ _ _ _ w.drew
    go_wp2
    go_ret
    exact ⟨rfl, ⟨A, n, m, HB.out.drew_, HR.out.drew, hn, hnm, hn1, hK, hC, hB⟩, (TurnsB.refl D D w).drew⟩
/-- The state, as a decoder holds it. -/
def RefDecS (w : World) (D K : Nat) (L R : Nat) (s : Nat × List Nat × Nat) : Prop := RefDec w D K L R s.1 s.2.2 s.2.1
set_option maxHeartbeats 1000000 in
set_option maxRecDepth 100000 in
theorem rcRead_any {A : Option Addr} {n m : Nat} (hr : Rd w K A (nvs B)) (hK : K ≤ w.heap.size) (hn : B.length = n) (hnm : n ≤ m) (hn1 : n ≤ 1000000) (hB : ∀ b ∈ B, b < 256) :
    Calls Try.prog 14 #[.slice A n m] w fun e w' => e = .returned (.pointer (some ⟨w.heap.size, 0, none⟩)) ∧ RefDecS w' w.heap.size K 0 4294967295 (comesS 4 (0, B, 0)) ∧ Below w.heap.size w w' := by
  obtain ⟨P, hP⟩ : ∃ P, P = w.heap.size := ⟨_, rfl⟩
  obtain ⟨w1, hw1⟩ : ∃ w1, w1 = w.alloc (.cells #[.int .u64 0, .int .u64 4294967295, .int .u64 0, .slice A n m, .int .i64 0] 46) := ⟨_, rfl⟩
  have h0 : RefDecS w1 P K 0 4294967295 (comesS 0 (0, B, 0)) := by
    rw [hw1, hP]
    exact ⟨A, n, m, heap_alloc_new w _, hr.alloc hK _, hn, hnm, hn1, hK, Nat.zero_lt_succ _, hB⟩
  have hb1 : Below P w w1 := by rw [hw1, hP]; exact (Below.refl _ _).alloc (Nat.le_refl _) _
  have hPs : P < w1.heap.size := by rw [hw1, hP]; simp
  have HW := Lib.hid hw1
  have HP := Lib.hid hP
  have H0 := Lib.hid h0
  have HB1 := Lib.hid hb1
  rw [← hP]
  clear hr hn hw1 hP h0 hb1
  go_enter Try.func14, Try.ntmps14
  go_wp2
  simp only [← HW.out, ← HP.out]
  go_loopw [4] (fun i wr => ∃ k : Nat, k ≤ 4 ∧ i = .int .i64 (k : Int) ∧ RefDecS wr P K 0 4294967295 (comesS k (0, B, 0)) ∧ Below P w wr) (fun i _ => 4 - (intOf i).toNat)
  case atStart => exact ⟨0, by decide, rfl, H0.out, HB1.out⟩
  case round =>
    clear H0 HB1
    obtain ⟨k, hk, rfl, hd, hb⟩ := hrel
    by_cases hlt : k < 4
    · have C1 := Lib.hid (rcComes_any hd)
      have HB := Lib.hid hb
      have hki : (k : Int) < 4 := by omega
      clear hd hb
      go_wp2_with fail
      refine C1.out.mono ?_
      rintro _ w2 ⟨rfl, hd2, ht2⟩
      have HD2 := Lib.hid (show RefDecS w2 P K 0 4294967295 (comesS (k + 1) (0, B, 0)) by rw [comesS_succ]; exact hd2)
      have HB2 := Lib.hid (HB.out.trans (ht2.below (B := P) (Nat.le_refl _) (Nat.le_refl _) (by have := HB.out.size; have := HP.out; omega)))
      clear hd2 ht2 C1 HB
      go_wp2
      go_roundw
      case rel => exact ⟨k + 1, by omega, by go_num, HD2.out, HB2.out⟩
      case measure => simp [intOf]; omega
    · obtain rfl : k = 4 := by omega
      have HD := Lib.hid hd
      have HB := Lib.hid hb
      clear hd hb
      go_wp2
      go_ret
      exact ⟨rfl, HD.out, HB.out⟩
/-- A span within a decoder, narrowed; then as many bytes come as moved. -/
theorem mayP_iff {low size total : Nat} : mayP (low : Int) (size : Int) (total : Int) = true ↔ 1 ≤ size ∧ low + size ≤ total ∧ total ≤ 65536 := by
  simp only [mayP, Bool.and_eq_true, decide_eq_true_eq]
  omega
set_option maxHeartbeats 1000000 in
set_option maxRecDepth 100000 in
theorem rcTake_err (low size total : Int) (h : RefDec w D K L R C E B) (hE : E ≠ 0) :
    Calls Try.prog 18 #[.pointer (some ⟨D, 0, none⟩), .agg #[.int .i64 low, .int .i64 size, .int .i64 total]] w fun e w' => e = .returned (.int .i64 (E : Int)) ∧ RefDec w' D K L R C E B ∧ Below w.heap.size w w' := by
  have hb2 := (Below.refl w.heap.size w).alloc (Nat.le_refl _) (.cells #[.int .i64 low, .int .i64 size, .int .i64 total] 29)
  have HEND := Lib.hid (And.intro (h.below hb2) hb2)
  obtain ⟨A, n, m, hb, hr, hn, hnm, hn1, hK, hC, hB⟩ := h
  have hgl := hb.lt
  have hc4 := hb.cell 4
  simp only [List.getElem?_cons_zero, List.getElem?_cons_succ] at hc4
  have hEi : ¬ (E : Int) = 0 := by omega
  clear hb hr hb2
  go_enter Try.func18, Try.ntmps18
  go_wp2
  go_ret
  exact ⟨rfl, HEND.out⟩
set_option maxHeartbeats 1000000 in
set_option maxRecDepth 100000 in
theorem rcTake_arg (low size total : Int) (h : RefDec w D K L R C 0 B) (hm : mayP low size total = false) :
    Calls Try.prog 18 #[.pointer (some ⟨D, 0, none⟩), .agg #[.int .i64 low, .int .i64 size, .int .i64 total]] w fun e w' => e = .returned (.int .i64 2) ∧ RefDec w' D K L R C 2 B ∧ TurnsB D D w w' := by
  obtain ⟨P, hP⟩ : ∃ P, P = w.heap.size := ⟨_, rfl⟩
  obtain ⟨w1, hw1⟩ : ∃ w1, w1 = w.alloc (.cells #[.int .i64 low, .int .i64 size, .int .i64 total] 29) := ⟨_, rfl⟩
  have hb2 : Below w.heap.size w w1 := by rw [hw1]; exact (Below.refl w.heap.size w).alloc (Nat.le_refl _) _
  have h1 := h.below hb2
  obtain ⟨A, n, m, hb, hr, hn, hnm, hn1, hK, hC, hB⟩ := h1
  have hgl : D < P := by rw [hP]; exact (h.choose_spec.choose_spec.choose_spec.1).lt
  have hp1 : Blk w1 P 29 [.int .i64 low, .int .i64 size, .int .i64 total] := by rw [hw1, hP]; exact heap_alloc_new w _
  have hc4 := hb.cell 4
  have hf4 := hb.frozen 4
  have hp0 := hp1.cell 0
  have hq1 := hp1.cell 1
  have hq2 := hp1.cell 2
  simp only [List.getElem?_cons_zero, List.getElem?_cons_succ] at hc4 hp0 hq1 hq2
  have HB := Lib.hid hb
  have HR := Lib.hid hr
  have HW := Lib.hid hw1
  have HP := Lib.hid hP
  have HT := Lib.hid (TurnsB.of_below (T := D) (S := D) hb2)
  have C1 := Lib.hid (fun W => rcMay_any low size total W)
  rw [hm] at C1
  have hw4 : w.cell? ⟨D, 4, none⟩ = some (.int .i64 0) := (h.choose_spec.choose_spec.choose_spec.1).cell 4
  have hgw : D < w.heap.size := by rw [← hP]; exact hgl
  clear hb hr hw1 hP hp1 hb2 h hm
  go_enter Try.func18, Try.ntmps18
  go_wp2_with fail
  refine (C1.out _).mono ?_
  rintro _ w2 ⟨rfl, hb3⟩
  rw [← HW.out] at hb3
  have hb4 := HB.out.grow hb3
  have hc4 := hb4.cell 4
  have hf4 := hb4.frozen 4
  simp only [List.getElem?_cons_zero, List.getElem?_cons_succ] at hc4
  have HB4 := Lib.hid hb4
  have hs1 : w.heap.size ≤ w1.heap.size := HT.out.size
  have HR4 := Lib.hid (HR.out.below (hb3.mono (by omega)))
  have HT4 := Lib.hid (HT.out.trans ((TurnsB.of_below (T := D) (S := D) (w := w1) hb3)))
  clear hw4 hp0 hq1 hq2 hb3 hb4 HB HR HT C1
  go_wp2
  go_ret
  exact ⟨rfl, ⟨A, n, m, HB4.out.set_ 4 _, HR4.out.setCell hK _, hn, hnm, hn1, hK, hC, hB⟩, HT4.out.trans (TurnsB.set_ 4 _)⟩
set_option maxHeartbeats 2000000 in
set_option maxRecDepth 100000 in
theorem rcTake_ok {low size total A' B' : Nat} {o : List Nat} (h : RefDec w D K L R C 0 B) (hi : InSpan L R) (hR : 65536 ≤ R) (h1 : 1 ≤ size) (h2 : low + size ≤ total) (h3 : total ≤ 65536) (hm : Moves (L + low * (R / total)) (size * (R / total)) o A' B') :
    Calls Try.prog 18 #[.pointer (some ⟨D, 0, none⟩), .agg #[.int .i64 (low : Int), .int .i64 (size : Int), .int .i64 (total : Int)]] w fun e w' => e = .returned (.int .i64 ((comesS o.length (C, B, 0)).2.2 : Int)) ∧ RefDecS w' D K A' B' (comesS o.length (C, B, 0)) ∧ TurnsB D D w w' := by
  obtain ⟨n1, n2, n3, n4⟩ := narrow_span hi hR h1 h2 h3
  have hol := hm.few n4
  clear n1 n2 n3 n4
  obtain ⟨P, hP⟩ : ∃ P, P = w.heap.size := ⟨_, rfl⟩
  obtain ⟨w1, hw1⟩ : ∃ w1, w1 = w.alloc (.cells #[.int .i64 (low : Int), .int .i64 (size : Int), .int .i64 (total : Int)] 29) := ⟨_, rfl⟩
  have hb2 : Below w.heap.size w w1 := by rw [hw1]; exact (Below.refl w.heap.size w).alloc (Nat.le_refl _) _
  have g1 := h.below hb2
  obtain ⟨A, n, m, hb, hr, hn, hnm, hn1, hK, hC, hB⟩ := g1
  have hgl : D < P := by rw [hP]; exact (h.choose_spec.choose_spec.choose_spec.1).lt
  have hp1 : Blk w1 P 29 [.int .i64 (low : Int), .int .i64 (size : Int), .int .i64 (total : Int)] := by rw [hw1, hP]; exact heap_alloc_new w _
  have HB := Lib.hid hb
  have HR := Lib.hid hr
  have HW := Lib.hid hw1
  have HP := Lib.hid hP
  have HPT := Lib.hid hp1
  have HT := Lib.hid (TurnsB.of_below (T := D) (S := D) hb2)
  have C1 := Lib.hid (fun W => rcMay_any (low : Int) (size : Int) (total : Int) W)
  rw [mayP_iff.2 ⟨h1, h2, h3⟩] at C1
  have hw4 : w.cell? ⟨D, 4, none⟩ = some (.int .i64 0) := (h.choose_spec.choose_spec.choose_spec.1).cell 4
  have hgw : D < w.heap.size := by rw [← hP]; exact hgl
  have C2 := Lib.hid (fun (W : World) (hbl : Blk W D 46 [.int .u64 (L : Int), .int .u64 (R : Int), .int .u64 (C : Int), .slice A n m, .int .i64 ((0 : Nat) : Int)]) => rcNarrow_any hbl hi hR h1 h2 h3 hm)
  clear hb hr hw1 hP hp1 hb2 h hm hi hR h1 h2 h3
  go_enter Try.func18, Try.ntmps18
  go_wp2_with fail
  refine (C1.out _).mono ?_
  rintro _ w2 ⟨rfl, hb3⟩
  rw [← HW.out] at hb3
  have hb4 := HB.out.grow hb3
  have hp4 := HPT.out.grow hb3
  have hp0 := hp4.cell 0
  have hq1 := hp4.cell 1
  have hq2 := hp4.cell 2
  simp only [List.getElem?_cons_zero, List.getElem?_cons_succ] at hp0 hq1 hq2
  have HB4 := Lib.hid hb4
  have hs1 : w.heap.size ≤ w1.heap.size := HT.out.size
  have HR4 := Lib.hid (HR.out.below (hb3.mono (by omega)))
  have HT4 := Lib.hid (HT.out.trans ((TurnsB.of_below (T := D) (S := D) (w := w1) hb3)))
  have hs2 : w.heap.size ≤ w2.heap.size := HT4.out.size
  simp only [← HP.out]
  clear hw4 hb3 hb4 hp4 HB HR HT C1 HPT hs1
  go_wp2
  refine wp_region_still_tail 4 (by kernel_rfl) (by kernel_rfl) ?_
  simp only [List.take_succ_cons, List.take_zero, List.drop_succ_cons, List.drop_zero]
  repeat still_step
  refine wpStill_nil ?_
  change wpList _ _ _ _ _ w2.drew
  clear hp0 hq1 hq2
  go_wp2_with fail
  refine (C2.out _ HB4.out.drew_).mono ?_
  rintro _ w3 ⟨v, rfl, hown, hb5, ht5⟩
  obtain ⟨Av, cv, rfl, -, -, -⟩ := own_form hown
  have HT5 := Lib.hid (HT4.out.drew.trans ht5)
  have HD5 := Lib.hid (show RefDecS w3 D K A' B' (comesS 0 (C, B, 0)) from ⟨A, n, m, hb5, HR4.out.drew.below (ht5.below hK hK (by have : D < w2.heap.size := HB4.out.lt; show K ≤ w2.heap.size; omega)), hn, hnm, hn1, hK, hC, hB⟩)
  clear hown hb5 ht5 C2 HB4 HR4 HT4
  go_wp2
  go_loopw [6] (fun i wr => ∃ k : Nat, k ≤ o.length ∧ i = .int .i64 (k : Int) ∧ RefDecS wr D K A' B' (comesS k (C, B, 0)) ∧ TurnsB D D w wr) (fun i _ => o.length - (intOf i).toNat)
  case atStart => exact ⟨0, Nat.zero_le _, rfl, HD5.out, HT5.out⟩
  case round =>
    clear HD5 HT5
    obtain ⟨k, hk, rfl, hd, ht⟩ := hrel
    have HT := Lib.hid ht
    by_cases hlt : k < o.length
    · have C3 := Lib.hid (rcComes_any hd)
      have hki : (k : Int) < (o.length : Int) := by omega
      clear hd ht
      go_wp2_with fail
      refine C3.out.mono ?_
      rintro _ w4 ⟨rfl, hd2, ht2⟩
      have HD2 := Lib.hid (show RefDecS w4 D K A' B' (comesS (k + 1) (C, B, 0)) by rw [comesS_succ]; exact hd2)
      have HT2 := Lib.hid (HT.out.trans ht2)
      clear hd2 ht2 C3 HT
      go_wp2
      go_roundw
      case rel => exact ⟨k + 1, by omega, by go_num, HD2.out, HT2.out⟩
      case measure => simp [intOf]; omega
    · obtain rfl : k = o.length := by omega
      have HD := Lib.hid hd
      have hc4 := (hd.choose_spec.choose_spec.choose_spec.1).cell 4
      simp only [List.getElem?_cons_zero, List.getElem?_cons_succ] at hc4
      clear hd ht
      go_wp2
      go_ret
      exact ⟨rfl, HD.out, HT.out⟩
end
end Go.Proofs.Ytgdebfjjohoghaa
