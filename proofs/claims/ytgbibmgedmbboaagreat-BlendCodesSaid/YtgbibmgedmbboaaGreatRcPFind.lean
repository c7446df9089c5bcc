/- Layer 17: the program's decoder: Read, next, Find, Take, Err, Done. · Layer 17: the program's decoder: Find, Take, Read. -/
import Derived.Test.YtgbibmgedmbboaaGreatRcEnc
namespace Go.Proofs.YtgbibmgedmbboaaGreat
open Go.RowKit Go.Sort Go.Shelf

/-- The program's decoder at D: a span, the bytes that are left (below block K), C, the first error. -/
def DecAt (w : World) (D K : Nat) (L R : Nat) (s : Nat × List Nat × Nat) : Prop :=
  ∃ A n m, Blk w D 135 [.int .u32 (L : Int), .int .u32 (R : Int), .slice A n m, .int .u32 (s.1 : Int), .int .i64 (s.2.2 : Int)] ∧ Rd w K A (nvs s.2.1) ∧ s.2.1.length = n ∧ n ≤ m ∧ n ≤ 1000000 ∧ K ≤ D ∧ s.1 < 4294967296 ∧ ∀ b ∈ s.2.1, b < 256
/-- No error, or the one of bytes that lack. -/
def Soft (s : Nat × List Nat × Nat) : Prop := s.2.2 = 0 ∨ s.2.2 = 16
theorem comeS_soft {s : Nat × List Nat × Nat} (h : Soft s) : Soft (comeS s) := by
  obtain ⟨C, B, E⟩ := s
  cases B with
  | nil => rcases h with h | h <;> (simp only at h; subst h; exact .inr rfl)
  | cons b T => exact h
theorem comesS_soft : ∀ (k : Nat) {s : Nat × List Nat × Nat}, Soft s → Soft (comesS k s)
  | 0, _, h => h
  | k + 1, _, h => comesS_soft k (comeS_soft h)
section
variable {w : World} {D K L R C E : Nat} {B : List Nat} {s : Nat × List Nat × Nat}
theorem DecAt.below {w' : World} (h : DecAt w D K L R s) (hb : Below w.heap.size w w') : DecAt w' D K L R s := by
  obtain ⟨A, n, m, h1, h2, h3, h4, h5, h6, h7⟩ := h
  exact ⟨A, n, m, h1.grow hb, h2.below (hb.mono (by have := h1.lt; omega)), h3, h4, h5, h6, h7⟩
theorem DecAt.same {w' : World} (h : DecAt w D K L R s) (e : w'.heap = w.heap) : DecAt w' D K L R s := by
  obtain ⟨A, n, m, h1, h2, h3, h4, h5, h6, h7⟩ := h
  exact ⟨A, n, m, h1.same e, h2.keep (fun p _ => World.cell?_of_block (by rw [e])), h3, h4, h5, h6, h7⟩
theorem DecAt.drew_ (h : DecAt w D K L R s) : DecAt w.drew D K L R s := h.same rfl
theorem DecAt.lt (h : DecAt w D K L R s) : D < w.heap.size := by
  obtain ⟨A, n, m, h1, -⟩ := h
  exact h1.lt
theorem DecAt.turns {T S : Nat} {w' : World} (h : DecAt w D K L R s) (ht : TurnsB T S w w') (h1 : D < T) (h2 : D < S) : DecAt w' D K L R s := by
  obtain ⟨A, n, m, hb, hr, h3, h4, h5, h6, h7⟩ := h
  have hlt := hb.lt
  exact ⟨A, n, m, ht.blk hb (by omega) (by omega), hr.below (ht.below (by omega) (by omega) (by omega)), h3, h4, h5, h6, h7⟩
theorem shiftadd_vals {C b : Nat} (hb : b < 256) : ∃ M c : Nat, (C : Int) * 256 % 4294967296 = (M : Int) ∧ IntKind.u32.wrap ((C : Int) * 256) = (M : Int) ∧ IntKind.u32.wrap ((M : Int) + (b : Int)) = (c : Int) ∧ ((M : Int) + (b : Int)) % 4294967296 = (c : Int) ∧ IntKind.u32.wrap (b : Int) = (b : Int) ∧ c = (256 * C + b) % 4294967296 := by
  refine ⟨C * 256 % 4294967296, (256 * C + b) % 4294967296, by omega, ?_, ?_, by omega, ?_, rfl⟩
  · rw [IntKind.wrap_u32]; omega
  · rw [IntKind.wrap_u32]; omega
  · rw [IntKind.wrap_u32]; omega
set_option maxHeartbeats 1000000 in
set_option maxRecDepth 100000 in
theorem decNext_any (h : DecAt w D K L R s) (hs : Soft s) :
    Calls Tryz.prog 86 #[.pointer (some ⟨D, 0, none⟩)] w fun e w' => e = .returned (.tuple #[]) ∧ DecAt w' D K L R (comeS s) ∧ TurnsB D D w w' := by
  obtain ⟨C, B, E⟩ := s
  obtain ⟨A, n, m, hb, hr, hn, hnm, hn1, hK, hC, hB⟩ := h
  simp only at hb hr hn hC hB
  have hc2 := hb.cell 2
  have hc3 := hb.cell 3
  have hf2 := hb.frozen 2
  have hf3 := hb.frozen 3
  have hf4 := hb.frozen 4
  simp only [List.getElem?_cons_zero, List.getElem?_cons_succ] at hc2 hc3
  have HB := Lib.hid hb
  have HR := Lib.hid hr
  clear hb hr
  cases B with
  | nil =>
    obtain rfl : n = 0 := by rw [← hn]; rfl
    have hc4 := HB.out.cell 4
    simp only [List.getElem?_cons_zero, List.getElem?_cons_succ] at hc4
    have he : comeS (C, [], E) = (C, [], 16) := by rw [comeS_nil]; rcases hs with h | h <;> (simp only at h; subst h; rfl)
    rw [he]
    clear hs hc3 hf2 hf3 he
    go_enter Tryz.func86, Tryz.ntmps86
    go_wp2
    (try simp only [Exit.inBlock, Exit.then]); refine bodyPost_ret (results_none rfl _ _ _) rfl ?_
    exact ⟨rfl, ⟨A, 0, m, HB.out.set_ 4 _, Rd.nil_ _ _ _, rfl, hnm, hn1, hK, hC, hB⟩, TurnsB.set_ 4 _⟩
  | cons b T =>
    have hb8 := hB b (by simp)
    have hTb : ∀ y ∈ T, y < 256 := fun y hy => hB y (by simp [hy])
    have hTl : T.length + 1 = n := by rw [← hn]; rfl
    obtain ⟨ab, ao, rfl, hab, hcell⟩ := HR.out 0 (.int .u8 (b : Int)) (by simp [nvs])
    rw [Nat.add_zero] at hcell
    obtain ⟨M, c, e1, e5, e2, e6, e3, e4⟩ := shiftadd_vals (C := C) hb8
    rw [comeS_cons, ← e4]
    have hn0 : ¬ (n : Int) = 0 := by omega
    have hn3 : (0 : Int) < (n : Int) := by omega
    have hn4 : 0 < n := by omega
    have hn5 : ¬ n = 0 := by omega
    have hc256 : c < 4294967296 := by rw [e4]; exact Nat.mod_lt _ (by decide)
    have hDs := HB.out.lt
    clear e4 hs
    go_enter Tryz.func86, Tryz.ntmps86
    go_wp2
    refine wp_region_still_tail 16 (by kernel_rfl) (by kernel_rfl) ?_
    simp only [List.take_succ_cons, List.take_zero, List.drop_succ_cons, List.drop_zero]
    repeat still_step
    refine wpStill_nil ?_
    change wpList _ _ _ _ _ w.drew
    have hb1 : Blk ((w.setCell ⟨D, 3, none⟩ (.int .u32 (c : Int))).drew) D 135 [.int .u32 (L : Int), .int .u32 (R : Int), .slice (some ⟨ab, ao, none⟩) n m, .int .u32 (c : Int), .int .i64 (E : Int)] := (HB.out.set_ 3 _).drew_
    have hr1 : Rd ((w.setCell ⟨D, 3, none⟩ (.int .u32 (c : Int))).drew) K (some ⟨ab, ao, none⟩) (nvs (b :: T)) := (HR.out.setCell hK _).drew
    have HB1 := Lib.hid hb1
    have HR1 := Lib.hid hr1
    have HLN := Lib.hid (show (nvs (b :: T)).length = n by rw [nvs_length]; exact hn)
    clear hb1 hr1 hn3 hn4 hn5 hn0 hcell
    have h1n : 1 ≤ n := by omega
    go_wp2_with ((with_reducible show wpList _ _ _ (({ dst := some 32, op := _, type := _, pos := _, after := _, guard := _ } : Oper) :: _) _ _); go_must (refine wpList_from rfl (.tmp 31) (.const (.int .i64 1)) rfl Tryz.underlying22 size_u8d K _ n m 1 (nvs (b :: T)) rfl rfl HR1.out HLN.out hnm h1n ?_; intro A2 c2 hc2' hr2; rw [nvs_drop] at hr2))
    refine bodyPost_end (results_none rfl _ _ _) rfl ?_
    exact ⟨rfl, ⟨A2, n - 1, c2, (HB1.out.set_ 2 (.slice A2 (n - 1) c2)).same rfl, (hr2.setCell (by exact hK) _), by simp only; omega, hc2', by omega, hK, hc256, hTb⟩, ((TurnsB.set_ 3 _).trans (TurnsB.set_ 2 _)).drew⟩
set_option maxHeartbeats 1000000 in
theorem decErr_nil (w : World) : Calls Tryz.prog 88 #[.pointer none] w fun e w' => e = .returned (.int .i64 1) ∧ w' = w := by
  go_enter Tryz.func88, Tryz.ntmps88
  go_wp2
  go_ret
  exact ⟨rfl, rfl⟩
set_option maxHeartbeats 1000000 in
theorem decErr_any (h : DecAt w D K L R s) : Calls Tryz.prog 88 #[.pointer (some ⟨D, 0, none⟩)] w fun e w' => e = .returned (.int .i64 (s.2.2 : Int)) ∧ w' = w := by
  obtain ⟨A, n, m, hb, -⟩ := h
  have hc4 := hb.cell 4
  simp only [List.getElem?_cons_zero, List.getElem?_cons_succ] at hc4
  clear hb
  go_enter Tryz.func88, Tryz.ntmps88
  go_wp2
  go_ret
  exact ⟨rfl, rfl⟩
set_option maxHeartbeats 1000000 in
theorem decDone_nil (w : World) : Calls Tryz.prog 56 #[.pointer none] w fun e w' => e = .returned (.int .i64 1) ∧ w' = w := by
  have C := Lib.hid (decErr_nil w)
  go_enter Tryz.func56, Tryz.ntmps56
  go_wp2_with fail
  refine C.out.mono ?_
  rintro _ w0 ⟨rfl, hw0⟩
  subst w0
  go_wp2
  go_ret
  exact ⟨rfl, rfl⟩
/-- What Done tells. -/
def doneS (s : Nat × List Nat × Nat) : Nat := if s.2.2 = 0 then (if s.2.1 = [] then 0 else 16) else s.2.2
set_option maxHeartbeats 1000000 in
theorem decDone_any (h : DecAt w D K L R s) : Calls Tryz.prog 56 #[.pointer (some ⟨D, 0, none⟩)] w fun e w' => e = .returned (.int .i64 (doneS s : Int)) ∧ w' = w := by
  have C := Lib.hid (decErr_any h)
  obtain ⟨C0, B, E⟩ := s
  obtain ⟨A, n, m, hb, -, hn, -⟩ := h
  have hc2 := hb.cell 2
  simp only [List.getElem?_cons_zero, List.getElem?_cons_succ] at hc2 C
  simp only at hn
  clear hb
  by_cases hE : E = 0
  · subst hE
    cases B with
    | nil =>
      obtain rfl : n = 0 := by rw [← hn]; rfl
      have HD := Lib.hid (show doneS (C0, [], 0) = 0 from rfl)
      go_enter Tryz.func56, Tryz.ntmps56
      go_wp2_with fail
      refine C.out.mono ?_
      rintro _ w0 ⟨rfl, hw0⟩
      subst w0
      go_wp2
      go_ret
      exact ⟨by rw [HD.out]; rfl, rfl⟩
    | cons b T =>
      have hn1 : (0 : Int) < (n : Int) := by rw [← hn, List.length_cons]; omega
      have HD := Lib.hid (show doneS (C0, b :: T, 0) = 16 from rfl)
      clear hn
      go_enter Tryz.func56, Tryz.ntmps56
      go_wp2_with fail
      refine C.out.mono ?_
      rintro _ w0 ⟨rfl, hw0⟩
      subst w0
      go_wp2
      go_ret
      exact ⟨by rw [HD.out]; rfl, rfl⟩
  · have hEi : ¬ (E : Int) = 0 := by omega
    have HD := Lib.hid (show doneS (C0, B, E) = E by unfold doneS; rw [if_neg hE])
    clear hE hn
    go_enter Tryz.func56, Tryz.ntmps56
    go_wp2_with fail
    refine C.out.mono ?_
    rintro _ w0 ⟨rfl, hw0⟩
    subst w0
    go_wp2
    go_ret
    exact ⟨by rw [HD.out]; rfl, rfl⟩
set_option maxHeartbeats 1000000 in
theorem decFind_nil (total : Int) (w : World) : Calls Tryz.prog 58 #[.pointer none, .int .i64 total] w fun e w' => e = .returned (.int .i64 0) ∧ w' = w := by
  have C := Lib.hid (decErr_nil w)
  go_enter Tryz.func58, Tryz.ntmps58
  go_wp2_with fail
  refine C.out.mono ?_
  rintro _ w0 ⟨rfl, hw0⟩
  subst w0
  go_wp2
  go_ret
  exact ⟨rfl, rfl⟩
set_option maxHeartbeats 1000000 in
theorem decFind_err (total : Int) (h : DecAt w D K L R s) (hE : s.2.2 ≠ 0) :
    Calls Tryz.prog 58 #[.pointer (some ⟨D, 0, none⟩), .int .i64 total] w fun e w' => e = .returned (.int .i64 0) ∧ w' = w := by
  have C := Lib.hid (decErr_any h)
  obtain ⟨e, he⟩ : ∃ e, e = s.2.2 := ⟨_, rfl⟩
  rw [← he] at C hE
  have hEi : ¬ (e : Int) = 0 := by omega
  clear h he
  go_enter Tryz.func58, Tryz.ntmps58
  go_wp2_with fail
  refine C.out.mono ?_
  rintro _ w0 ⟨rfl, hw0⟩
  subst w0
  go_wp2
  go_ret
  exact ⟨rfl, rfl⟩
theorem DecAt.setErr (h : DecAt w D K L R (C, B, E)) (E' : Nat) : DecAt (w.setCell ⟨D, 4, none⟩ (.int .i64 (E' : Int))) D K L R (C, B, E') ∧ TurnsB D D w (w.setCell ⟨D, 4, none⟩ (.int .i64 (E' : Int))) := by
  obtain ⟨A, n, m, hb, hr, hn, hnm, hn1, hK, hC, hB⟩ := h
  exact ⟨⟨A, n, m, hb.set_ 4 _, hr.setCell hK _, hn, hnm, hn1, hK, hC, hB⟩, TurnsB.set_ 4 _⟩
set_option maxHeartbeats 1000000 in
theorem decFind_arg (total : Int) (h : DecAt w D K L R (C, B, 0)) (ht : total < 1 ∨ 65536 < total) :
    Calls Tryz.prog 58 #[.pointer (some ⟨D, 0, none⟩), .int .i64 total] w fun e w' => e = .returned (.int .i64 0) ∧ DecAt w' D K L R (C, B, 2) ∧ TurnsB D D w w' := by
  have C1 := Lib.hid (decErr_any h)
  have C2 := Lib.hid (spStep_bad (w := w) total ht (.pointer (some ⟨D, 0, none⟩)))
  have HEND := Lib.hid (h.setErr 2)
  obtain ⟨A, n, m, hb, -⟩ := h
  have hf4 := hb.frozen 4
  have hc4 := hb.cell 4
  simp only [List.getElem?_cons_zero, List.getElem?_cons_succ] at hc4 C1
  have hDl := hb.lt
  clear hb ht
  go_enter Tryz.func58, Tryz.ntmps58
  go_wp2_with fail
  refine C1.out.mono ?_
  rintro _ w0 ⟨rfl, hw0⟩
  subst w0
  go_wp2_with fail
  refine C2.out.mono ?_
  rintro _ w0 ⟨rfl, hw0⟩
  subst w0
  clear C1 C2
  go_wp2
  go_ret
  exact ⟨rfl, HEND.out⟩
end
end Go.Proofs.YtgbibmgedmbboaaGreat
namespace Go.Proofs.YtgbibmgedmbboaaGreat
open Go.RowKit Go.Sort Go.Shelf

section
variable {w : World} {D K L R C E : Nat} {B : List Nat} {s : Nat × List Nat × Nat}
theorem find_vals32 {L R C T : Nat} (hL : L < 4294967296) (hC : C < 4294967296) (hT : 1 ≤ T) (hTR : T ≤ R) : ∃ Z r q : Nat, IntKind.u32.wrap ((C : Int) - (L : Int)) = (Z : Int) ∧ ((C : Int) - (L : Int)) % 4294967296 = (Z : Int) ∧ r = R / T ∧ 1 ≤ r ∧ IntKind.u32.wrap ((Z : Int) / (r : Int)) = (q : Int) ∧ (Z : Int) / (r : Int) = (q : Int) ∧ q < 4294967296 ∧ q = (C + 4294967296 - L) % 4294967296 / (R / T) := by
  have hr : 1 ≤ R / T := (Nat.le_div_iff_mul_le (by omega)).2 (by omega)
  obtain ⟨r, hrr⟩ : ∃ r, r = R / T := ⟨_, rfl⟩
  rw [← hrr] at hr
  rw [← hrr]
  obtain ⟨Z, hZ⟩ : ∃ Z, Z = (C + 4294967296 - L) % 4294967296 := ⟨_, rfl⟩
  have hlt : Z < 4294967296 := by rw [hZ]; exact Nat.mod_lt _ (by decide)
  have hdc2 : (Z : Int) / (r : Int) = ((Z / r : Nat) : Int) := (Int.natCast_ediv _ _).symm
  have hle : Z / r ≤ Z := Nat.div_le_self _ _
  rw [← hZ]
  obtain ⟨q, hq⟩ : ∃ q, q = Z / r := ⟨_, rfl⟩
  rw [← hq] at hle hdc2 ⊢
  refine ⟨Z, r, q, ?_, ?_, rfl, hr, ?_, hdc2, by omega, rfl⟩
  · rw [IntKind.wrap_u32]; omega
  · omega
  · rw [hdc2, IntKind.wrap_u32]; omega
set_option maxHeartbeats 1000000 in
set_option maxRecDepth 100000 in
theorem decFind_ok (T : Nat) (h : DecAt w D K L R (C, B, 0)) (hi : InSpan L R) (hR : 65536 ≤ R) (h1 : 1 ≤ T) (h2 : T ≤ 65536) :
    Calls Tryz.prog 58 #[.pointer (some ⟨D, 0, none⟩), .int .i64 (T : Int)] w fun e w' => e = .returned (.int .i64 ((findS L R C T).1 : Int)) ∧ DecAt w' D K L R (C, B, (findS L R C T).2) ∧ TurnsB D D w w' := by
  have C1 := Lib.hid (decErr_any h)
  have hR2 : R < 4294967296 := by obtain ⟨a, b, c, d⟩ := hi; omega
  obtain ⟨A, n, m, hb, hr, hn, hnm, hn1, hK, hC, hB⟩ := id h
  have C2 := Lib.hid (spStep_ok (w := w) (g := D) T h1 h2 hR2 (hb.cell 1))
  obtain ⟨Z, r, q, e1, e2, e3, e4, e5, e6, e7, e8⟩ := find_vals32 (L := L) (R := R) (C := C) (T := T) hi.1 hC h1 (by omega)
  rw [← e3] at C2
  have hc0 := hb.cell 0
  have hc3 := hb.cell 3
  have hc4 := hb.cell 4
  have hf4 := hb.frozen 4
  simp only [List.getElem?_cons_zero, List.getElem?_cons_succ] at hc0 hc3 hc4 C1
  have HH := Lib.hid h
  have HE := Lib.hid e8
  have hDl := hb.lt
  have hr0 : ¬ r = 0 := by omega
  have hr1 : ¬ (r : Int) = 0 := by omega
  have HWQ := Lib.hid (show IntKind.i64.wrap (q : Int) = (q : Int) ∧ IntKind.u32.wrap (q : Int) = (q : Int) ∧ wrap64 (q : Int) = (q : Int) ∧ (q : Int) % 4294967296 = (q : Int) from ⟨by rw [IntKind.wrap_i64]; omega, by rw [IntKind.wrap_u32]; omega, IntWalk.wrap64_in _ (by omega), by omega⟩)
  have HE5 := Lib.hid (And.intro e1 (And.intro e2 (And.intro e5 e6)))
  clear hb hr hn hnm hn1 hK hC hB e1 e2 e3 e4 e5 e6 e7 e8 h hi hR h1 h2 hR2
  by_cases hq : T ≤ q
  · have hfs : findS L R C T = (0, 16) := by unfold findS; rw [← HE.out, if_pos hq]
    rw [hfs]
    have hqi : (T : Int) ≤ (q : Int) := by omega
    have HEND := Lib.hid (show DecAt ((w.setCell ⟨D, 4, none⟩ (.int .i64 16)).drew) D K L R (C, B, 16) ∧ TurnsB D D w ((w.setCell ⟨D, 4, none⟩ (.int .i64 16)).drew) from ⟨(HH.out.setErr 16).1.drew_, (HH.out.setErr 16).2.drew⟩)
    clear hfs hq
    go_enter Tryz.func58, Tryz.ntmps58
    go_wp2_with fail
    refine C1.out.mono ?_
    rintro _ w0 ⟨rfl, hw0⟩
    subst w0
    go_wp2_with fail
    refine C2.out.mono ?_
    rintro _ w0 ⟨rfl, hw0⟩
    subst w0
    clear C1 C2
    go_wp2
    obtain ⟨e1, e2, e5, e6⟩ := HE5.out
    obtain ⟨hwq, hwq1, hwq3, hwq2⟩ := HWQ.out
    refine wp_region_still_lit (by kernel_rfl) (by kernel_rfl) ?_
    repeat still_step
    refine wpStill_nil ?_
    change Exit.then _ _ _ _ w.drew
    clear e1 e2 e5 e6 hwq hwq1 hwq2 hwq3 HE5 HWQ
    go_wp2
    go_ret
    exact ⟨rfl, HEND.out⟩
  · have hfs : findS L R C T = (q, 0) := by unfold findS; rw [← HE.out, if_neg hq]
    rw [hfs]
    have hqi : ¬ (T : Int) ≤ (q : Int) := by omega
    clear hfs hq
    go_enter Tryz.func58, Tryz.ntmps58
    go_wp2_with fail
    refine C1.out.mono ?_
    rintro _ w0 ⟨rfl, hw0⟩
    subst w0
    go_wp2_with fail
    refine C2.out.mono ?_
    rintro _ w0 ⟨rfl, hw0⟩
    subst w0
    clear C1 C2
    go_wp2
    obtain ⟨e1, e2, e5, e6⟩ := HE5.out
    obtain ⟨hwq, hwq1, hwq3, hwq2⟩ := HWQ.out
    refine wp_region_still_lit (by kernel_rfl) (by kernel_rfl) ?_
    repeat still_step
    refine wpStill_nil ?_
    change Exit.then _ _ _ _ w.drew
    clear e1 e2 e5 e6 hwq hwq1 hwq2 hwq3 HE5 HWQ
    go_wp2
    go_ret
    exact ⟨rfl, HH.out.drew_, (TurnsB.refl D D w).drew⟩
set_option maxHeartbeats 1000000 in
theorem decTake_nil (low size total : Int) (w : World) : Calls Tryz.prog 59 #[.pointer none, .int .i64 low, .int .i64 size, .int .i64 total] w fun e w' => e = .returned (.int .i64 1) ∧ w' = w := by
  have C := Lib.hid (decErr_nil w)
  go_enter Tryz.func59, Tryz.ntmps59
  go_wp2_with fail
  refine C.out.mono ?_
  rintro _ w0 ⟨rfl, hw0⟩
  subst w0
  go_wp2
  go_ret
  exact ⟨rfl, rfl⟩
set_option maxHeartbeats 1000000 in
theorem decTake_err (low size total : Int) (h : DecAt w D K L R s) (hE : s.2.2 ≠ 0) :
    Calls Tryz.prog 59 #[.pointer (some ⟨D, 0, none⟩), .int .i64 low, .int .i64 size, .int .i64 total] w fun e w' => e = .returned (.int .i64 (s.2.2 : Int)) ∧ w' = w := by
  have C := Lib.hid (decErr_any h)
  obtain ⟨e, he⟩ : ∃ e, e = s.2.2 := ⟨_, rfl⟩
  rw [← he] at C hE ⊢
  have hEi : ¬ (e : Int) = 0 := by omega
  clear h he
  go_enter Tryz.func59, Tryz.ntmps59
  go_wp2_with fail
  refine C.out.mono ?_
  rintro _ w0 ⟨rfl, hw0⟩
  subst w0
  go_wp2
  go_ret
  exact ⟨rfl, rfl⟩
set_option maxHeartbeats 1000000 in
theorem decTake_arg (low size total : Int) (hsz : size ≤ 9223372036854775807) (h : DecAt w D K L R (C, B, 0)) (hR : 65536 ≤ R) (hR2 : R < 4294967296) (hm : mayP low size total = false) :
    Calls Tryz.prog 59 #[.pointer (some ⟨D, 0, none⟩), .int .i64 low, .int .i64 size, .int .i64 total] w fun e w' => e = .returned (.int .i64 2) ∧ DecAt w' D K L R (C, B, 2) ∧ TurnsB D D w w' := by
  have C1 := Lib.hid (decErr_any h)
  have HEND := Lib.hid (h.setErr 2)
  obtain ⟨A, n, m, hb, -⟩ := h
  have C2 := Lib.hid (spMay_any (w := w) (g := D) low size total hsz hR hR2 (hb.cell 1))
  rw [hm] at C2
  have hf4 := hb.frozen 4
  have hc4 := hb.cell 4
  simp only [List.getElem?_cons_zero, List.getElem?_cons_succ] at hc4 C1
  have hDl := hb.lt
  clear hb hm hR hR2 hsz
  go_enter Tryz.func59, Tryz.ntmps59
  go_wp2_with fail
  refine C1.out.mono ?_
  rintro _ w0 ⟨rfl, hw0⟩
  subst w0
  go_wp2_with fail
  refine C2.out.mono ?_
  rintro _ w0 ⟨rfl, hw0⟩
  subst w0
  clear C1 C2
  go_wp2
  go_ret
  exact ⟨rfl, HEND.out⟩
theorem dec_span (hs : Soft s) : SpanJ D 86 (fun o L' R' w' => DecAt w' D K L' R' (comesS o.length s) ∧ TurnsB D D w w') where
  cell0 := fun {o L' R' w'} ⟨⟨A, n, m, hb, _⟩, _⟩ => hb.cell 0
  cell1 := fun {o L' R' w'} ⟨⟨A, n, m, hb, _⟩, _⟩ => hb.cell 1
  frozen0 := fun {o L' R' w'} ⟨⟨A, n, m, hb, _⟩, _⟩ => hb.frozen 0
  frozen1 := fun {o L' R' w'} ⟨⟨A, n, m, hb, _⟩, _⟩ => hb.frozen 1
  set0 := fun {o L' R' w'} L2 ⟨⟨A, n, m, hb, hr, hn, hnm, hn1, hK, hC, hB⟩, ht⟩ => ⟨⟨A, n, m, hb.set_ 0 _, hr.setCell hK _, hn, hnm, hn1, hK, hC, hB⟩, ht.trans (TurnsB.set_ 0 _)⟩
  set1 := fun {o L' R' w'} L2 ⟨⟨A, n, m, hb, hr, hn, hnm, hn1, hK, hC, hB⟩, ht⟩ => ⟨⟨A, n, m, hb.set_ 1 _, hr.setCell hK _, hn, hnm, hn1, hK, hC, hB⟩, ht.trans (TurnsB.set_ 1 _)⟩
  drew := fun {o L' R' w'} ⟨h, ht⟩ => ⟨h.drew_, ht.drew⟩
  move := fun {o L' R' w'} ⟨h2, ht2⟩ _ _ => (decNext_any h2 (comesS_soft o.length hs)).mono fun e w2 ⟨h3, h4, h5⟩ => ⟨h3, by rw [List.length_append, List.length_singleton, comesS_succ]; exact h4, ht2.trans h5⟩
set_option maxHeartbeats 1000000 in
theorem decTake_ok {low size total A' B' : Nat} {o : List Nat} (h : DecAt w D K L R (C, B, 0)) (hi : InSpan L R) (hR : 65536 ≤ R) (h1 : 1 ≤ size) (h2 : low + size ≤ total) (h3 : total ≤ 65536) (hm : Moves (L + low * (R / total)) (size * (R / total)) o A' B') :
    Calls Tryz.prog 59 #[.pointer (some ⟨D, 0, none⟩), .int .i64 (low : Int), .int .i64 (size : Int), .int .i64 (total : Int)] w fun e w' => e = .returned (.int .i64 ((comesS o.length (C, B, 0)).2.2 : Int)) ∧ DecAt w' D K A' B' (comesS o.length (C, B, 0)) ∧ TurnsB D D w w' := by
  have hR2 : R < 4294967296 := by obtain ⟨a, b, c, d⟩ := hi; omega
  have C1 := Lib.hid (decErr_any h)
  have D1 := Lib.hid (spNarrow_any (w := w) (dec_span (D := D) (K := K) (w := w) (s := (C, B, 0)) (.inl rfl)) (enters_of Tryz.func86 (by kernel_rfl) rfl) ⟨h, TurnsB.refl _ _ _⟩ hi hR h1 h2 h3 hm)
  obtain ⟨A, n, m, hb, -⟩ := h
  have C2 := Lib.hid (spMay_any (w := w) (g := D) (low : Int) (size : Int) (total : Int) (by omega) hR hR2 (hb.cell 1))
  rw [mayP_iff.2 ⟨h1, h2, h3⟩] at C2
  have hc4 := hb.cell 4
  simp only [List.getElem?_cons_zero, List.getElem?_cons_succ] at hc4 C1
  obtain ⟨s2, hs2⟩ : ∃ s2, s2 = comesS o.length (C, B, 0) := ⟨_, rfl⟩
  rw [← hs2] at D1 ⊢
  have hDl := hb.lt
  clear hb hm hR hR2 hi h1 h2 h3 hs2
  go_enter Tryz.func59, Tryz.ntmps59
  go_wp2_with fail
  refine C1.out.mono ?_
  rintro _ w0 ⟨rfl, hw0⟩
  subst w0
  go_wp2_with fail
  refine C2.out.mono ?_
  rintro _ w0 ⟨rfl, hw0⟩
  subst w0
  go_wp2_with fail
  refine D1.out.mono ?_
  rintro _ w2 ⟨rfl, hd, ht⟩
  have hc2 : w2.cell? ⟨D, 4, none⟩ = some (.int .i64 (s2.2.2 : Int)) := by
    obtain ⟨A2, n2, m2, hb2, -⟩ := hd
    exact hb2.cell 4
  have hDl2 := hd.lt
  have H := Lib.hid (And.intro hd ht)
  clear hd ht C1 C2 D1 hc4
  go_wp2
  go_ret
  exact ⟨rfl, H.out⟩
set_option maxHeartbeats 1000000 in
theorem decRead_any {A : Option Addr} {n m : Nat} (l : List UInt8) (hr : Rd w w.heap.size A (bvs l)) (hn : l.length = n) (hn1 : n ≤ 1000000) :
    Calls Tryz.prog 54 #[.slice A n m] w fun e w' => ∃ D, e = .returned (.pointer (some ⟨D, 0, none⟩)) ∧ w.heap.size ≤ D ∧ DecAt w' D D 0 4294967295 (comesS 4 (0, l.map UInt8.toNat, 0)) ∧ Below w.heap.size w w' := by
  have C1 := Lib.hid (rcFirst_any w)
  have C2 := Lib.hid (fun (W : World) (h : Below w.heap.size w W) => clone_all A n m l W ((hr.below h).more h.size) hn (by omega))
  have HN := Lib.hid hn
  have HN1 := Lib.hid hn1
  clear hr hn hn1
  go_enter Tryz.func54, Tryz.ntmps54
  go_wp2_with fail
  refine C1.out.mono ?_
  rintro _ w1 ⟨rfl, hb1⟩
  have HB1 := Lib.hid hb1
  clear hb1
  go_wp2_with fail
  refine (C2.out w1 HB1.out).mono ?_
  rintro _ w2 ⟨v, rfl, hown, hb2⟩
  obtain ⟨A2, c2, rfl, hc2, -, -⟩ := own_form hown
  have HB2 := Lib.hid (HB1.out.trans (hb2.mono HB1.out.size))
  have h0 : DecAt (w2.alloc (.cells #[.int .u32 0, .int .u32 4294967295, .slice A2 l.length c2, .int .u32 0, .int .i64 0] 135)) w2.heap.size w2.heap.size 0 4294967295 (comesS 0 (0, l.map UInt8.toNat, 0)) := by
    refine ⟨A2, l.length, c2, heap_alloc_new w2 _, ?_, by simp [comesS], hc2, by have := HN.out; have := HN1.out; omega, Nat.le_refl _, Nat.zero_lt_succ _, ?_⟩
    · show Rd _ _ _ (nvs (l.map UInt8.toNat))
      rw [nvs_bvs]
      exact (Rd.of_own hown).alloc (Nat.le_refl _) _
    · intro b hb
      obtain ⟨c, -, rfl⟩ := List.mem_map.1 hb
      exact c.toNat_lt
  have hbw : Below w.heap.size w (w2.alloc (.cells #[.int .u32 0, .int .u32 4294967295, .slice A2 l.length c2, .int .u32 0, .int .i64 0] 135)) := HB2.out.alloc HB2.out.size _
  obtain ⟨D, hD⟩ : ∃ D, D = w2.heap.size := ⟨_, rfl⟩
  obtain ⟨w3, hw3⟩ : ∃ w3, w3 = w2.alloc (.cells #[.int .u32 0, .int .u32 4294967295, .slice A2 l.length c2, .int .u32 0, .int .i64 0] 135) := ⟨_, rfl⟩
  rw [← hw3, ← hD] at h0
  rw [← hw3] at hbw
  have H0 := Lib.hid h0
  have HBW := Lib.hid hbw
  have HW := Lib.hid hw3
  have HD := Lib.hid hD
  have HDS := Lib.hid (show w.heap.size ≤ D by rw [hD]; exact HB2.out.size)
  clear h0 hbw hw3 hD hown hb2 hc2 C1 C2
  go_wp2
  simp only [← HW.out, ← HD.out]
  go_loopw [9] (fun i wr => ∃ k : Nat, k ≤ 4 ∧ i = .int .i64 (k : Int) ∧ DecAt wr D D 0 4294967295 (comesS k (0, l.map UInt8.toNat, 0)) ∧ Below w.heap.size w wr) (fun i _ => 4 - (intOf i).toNat)
  case atStart => exact ⟨0, by decide, rfl, H0.out, HBW.out⟩
  case round =>
    clear H0 HBW
    obtain ⟨k, hk, rfl, hd, hb⟩ := hrel
    by_cases hlt : k < 4
    · have C3 := Lib.hid (decNext_any hd (comesS_soft k (.inl rfl)))
      have HB := Lib.hid hb
      have hki : (k : Int) < 4 := by omega
      clear hd hb
      go_wp2_with fail
      refine C3.out.mono ?_
      rintro _ w4 ⟨rfl, hd2, ht2⟩
      have HD2 := Lib.hid (show DecAt w4 D D 0 4294967295 (comesS (k + 1) (0, l.map UInt8.toNat, 0)) by rw [comesS_succ]; exact hd2)
      have HB2 := Lib.hid (HB.out.trans (ht2.below (B := w.heap.size) HDS.out HDS.out HB.out.size))
      clear hd2 ht2 C3 HB
      go_wp2
      go_roundw
      case rel => exact ⟨k + 1, by omega, by go_num, HD2.out, HB2.out⟩
      case measure => simp [intOf]; omega
    · obtain rfl : k = 4 := by omega
      have HE := Lib.hid (And.intro hd hb)
      clear hd hb
      go_wp2
      go_ret
      exact ⟨D, rfl, HDS.out, HE.out⟩
end
end Go.Proofs.YtgbibmgedmbboaaGreat
