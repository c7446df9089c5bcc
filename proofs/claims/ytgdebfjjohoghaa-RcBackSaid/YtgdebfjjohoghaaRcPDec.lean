/- Layer 17: the program's decoder: Read, next, Find, Take, Err, Done. -/
import Derived.Test.YtgdebfjjohoghaaRcEnc
namespace Go.Proofs.Ytgdebfjjohoghaa
open Go.RowKit Go.Sort Go.Shelf

/-- The program's decoder at D: a span, the bytes that are left (below block K), C, the first error. -/
def DecAt (w : World) (D K : Nat) (L R : Nat) (s : Nat × List Nat × Nat) : Prop :=
  ∃ A n m, Blk w D 61 [.int .u32 (L : Int), .int .u32 (R : Int), .slice A n m, .int .u32 (s.1 : Int), .int .i64 (s.2.2 : Int)] ∧ Rd w K A (nvs s.2.1) ∧ s.2.1.length = n ∧ n ≤ m ∧ n ≤ 1000000 ∧ K ≤ D ∧ s.1 < 4294967296 ∧ ∀ b ∈ s.2.1, b < 256
/-- No error, or the one of bytes that lack. -/
def Soft (s : Nat × List Nat × Nat) : Prop := s.2.2 = 0 ∨ s.2.2 = 16
theorem comeS_soft {s : Nat × List Nat × Nat} (h : Soft s) : Soft (comeS s) := by
  obtain ⟨C, B, E⟩ := s
  cases B with
  | nil => rcases h with h | h <;> (simp only at h; subst h; exact .inr rfl)
  | cons b T => exact h
theorem comesS_soft : ∀ (k : Nat) {s : Nat × List Nat × Nat}, Soft s → Soft (comesS k s)
  | 0, _, h => h
  | k + 1, _, h => comesS_soft k (comeS_soft h)
section
variable {w : World} {D K L R C E : Nat} {B : List Nat} {s : Nat × List Nat × Nat}
theorem DecAt.below {w' : World} (h : DecAt w D K L R s) (hb : Below w.heap.size w w') : DecAt w' D K L R s := by
  obtain ⟨A, n, m, h1, h2, h3, h4, h5, h6, h7⟩ := h
  exact ⟨A, n, m, h1.grow hb, h2.below (hb.mono (by have := h1.lt; omega)), h3, h4, h5, h6, h7⟩
theorem DecAt.same {w' : World} (h : DecAt w D K L R s) (e : w'.heap = w.heap) : DecAt w' D K L R s := by
  obtain ⟨A, n, m, h1, h2, h3, h4, h5, h6, h7⟩ := h
  exact ⟨A, n, m, h1.same e, h2.keep (fun p _ => World.cell?_of_block (by rw [e])), h3, h4, h5, h6, h7⟩
theorem DecAt.drew_ (h : DecAt w D K L R s) : DecAt w.drew D K L R s := h.same rfl
theorem DecAt.lt (h : DecAt w D K L R s) : D < w.heap.size := by
  obtain ⟨A, n, m, h1, -⟩ := h
  exact h1.lt
theorem DecAt.turns {T S : Nat} {w' : World} (h : DecAt w D K L R s) (ht : TurnsB T S w w') (h1 : D < T) (h2 : D < S) : DecAt w' D K L R s := by
  obtain ⟨A, n, m, hb, hr, h3, h4, h5, h6, h7⟩ := h
  have hlt := hb.lt
  exact ⟨A, n, m, ht.blk hb (by omega) (by omega), hr.below (ht.below (by omega) (by omega) (by omega)), h3, h4, h5, h6, h7⟩
theorem shiftadd_vals {C b : Nat} (hb : b < 256) : ∃ M c : Nat, (C : Int) * 256 % 4294967296 = (M : Int) ∧ IntKind.u32.wrap ((C : Int) * 256) = (M : Int) ∧ IntKind.u32.wrap ((M : Int) + (b : Int)) = (c : Int) ∧ ((M : Int) + (b : Int)) % 4294967296 = (c : Int) ∧ IntKind.u32.wrap (b : Int) = (b : Int) ∧ c = (256 * C + b) % 4294967296 := by
  refine ⟨C * 256 % 4294967296, (256 * C + b) % 4294967296, by omega, ?_, ?_, by omega, ?_, rfl⟩
  · rw [IntKind.wrap_u32]; omega
  · rw [IntKind.wrap_u32]; omega
  · rw [IntKind.wrap_u32]; omega
set_option maxHeartbeats 1000000 in
set_option maxRecDepth 100000 in
theorem decNext_any (h : DecAt w D K L R s) (hs : Soft s) :
    Calls Try.prog 27 #[.pointer (some ⟨D, 0, none⟩)] w fun e w' => e = .returned (.tuple #[]) ∧ DecAt w' D K L R (comeS s) ∧ TurnsB D D w w' := by
  obtain ⟨C, B, E⟩ := s
  obtain ⟨A, n, m, hb, hr, hn, hnm, hn1, hK, hC, hB⟩ := h
  simp only at hb hr hn hC hB
  have hc2 := hb.cell 2
  have hc3 := hb.cell 3
  have hf2 := hb.frozen 2
  have hf3 := hb.frozen 3
  have hf4 := hb.frozen 4
  simp only [List.getElem?_cons_zero, List.getElem?_cons_succ] at hc2 hc3
  have HB := Lib.hid hb
  have HR := Lib.hid hr
  clear hb hr
  cases B with
  | nil =>
    obtain rfl : n = 0 := by rw [← hn]; rfl
    have hc4 := HB.out.cell 4
    simp only [List.getElem?_cons_zero, List.getElem?_cons_succ] at hc4
    have he : comeS (C, [], E) = (C, [], 16) := by rw [comeS_nil]; rcases hs with h | h <;> (simp only at h; subst h; rfl)
    rw [he]
    clear hs hc3 hf2 hf3 he
    go_enter Try.func27, Try.ntmps27
    go_wp2
    (try simp only [Exit.inBlock, Exit.then]); refine bodyPost_ret (results_none rfl _ _ _) rfl ?_
    exact ⟨rfl, ⟨A, 0, m, HB.out.set_ 4 _, Rd.nil_ _ _ _, rfl, hnm, hn1, hK, hC, hB⟩, TurnsB.set_ 4 _⟩
  | cons b T =>
    have hb8 := hB b (by simp)
    have hTb : ∀ y ∈ T, y < 256 := fun y hy => hB y (by simp [hy])
    have hTl : T.length + 1 = n := by rw [← hn]; rfl
    obtain ⟨ab, ao, rfl, hab, hcell⟩ := HR.out 0 (.int .u8 (b : Int)) (by simp [nvs])
    rw [Nat.add_zero] at hcell
    obtain ⟨M, c, e1, e5, e2, e6, e3, e4⟩ := shiftadd_vals (C := C) hb8
    rw [comeS_cons, ← e4]
    have hn0 : ¬ (n : Int) = 0 := by omega
    have hn3 : (0 : Int) < (n : Int) := by omega
    have hn4 : 0 < n := by omega
    have hn5 : ¬ n = 0 := by omega
    have hc256 : c < 4294967296 := by rw [e4]; exact Nat.mod_lt _ (by decide)
    have hDs := HB.out.lt
    clear e4 hs
    go_enter Try.func27, Try.ntmps27
    go_wp2
    refine wp_region_still_tail 16 (by kernel_rfl) (by kernel_rfl) ?_
    simp only [List.take_succ_cons, List.take_zero, List.drop_succ_cons, List.drop_zero]
    repeat still_step
    refine wpStill_nil ?_
    change wpList _ _ _ _ _ w.drew
    have hb1 : Blk ((w.setCell ⟨D, 3, none⟩ (.int .u32 (c : Int))).drew) D 61 [.int .u32 (L : Int), .int .u32 (R : Int), .slice (some ⟨ab, ao, none⟩) n m, .int .u32 (c : Int), .int .i64 (E : Int)] := (HB.out.set_ 3 _).drew_
    have hr1 : Rd ((w.setCell ⟨D, 3, none⟩ (.int .u32 (c : Int))).drew) K (some ⟨ab, ao, none⟩) (nvs (b :: T)) := (HR.out.setCell hK _).drew
    have HB1 := Lib.hid hb1
    have HR1 := Lib.hid hr1
    have HLN := Lib.hid (show (nvs (b :: T)).length = n by rw [nvs_length]; exact hn)
    clear hb1 hr1 hn3 hn4 hn5 hn0 hcell
    have h1n : 1 ≤ n := by omega
    go_wp2_with ((with_reducible show wpList _ _ _ (({ dst := some 32, op := _, type := _, pos := _, after := _, guard := _ } : Oper) :: _) _ _); go_must (refine wpList_from rfl (.tmp 31) (.const (.int .i64 1)) rfl Try.underlying31 size_u8d K _ n m 1 (nvs (b :: T)) rfl rfl HR1.out HLN.out hnm h1n ?_; intro A2 c2 hc2' hr2; rw [nvs_drop] at hr2))
    refine bodyPost_end (results_none rfl _ _ _) rfl ?_
    exact ⟨rfl, ⟨A2, n - 1, c2, (HB1.out.set_ 2 (.slice A2 (n - 1) c2)).same rfl, (hr2.setCell (by exact hK) _), by simp only; omega, hc2', by omega, hK, hc256, hTb⟩, ((TurnsB.set_ 3 _).trans (TurnsB.set_ 2 _)).drew⟩
set_option maxHeartbeats 1000000 in
theorem decErr_nil (w : World) : Calls Try.prog 19 #[.pointer none] w fun e w' => e = .returned (.int .i64 1) ∧ w' = w := by
  go_enter Try.func19, Try.ntmps19
  go_wp2
  go_ret
  exact ⟨rfl, rfl⟩
set_option maxHeartbeats 1000000 in
theorem decErr_any (h : DecAt w D K L R s) : Calls Try.prog 19 #[.pointer (some ⟨D, 0, none⟩)] w fun e w' => e = .returned (.int .i64 (s.2.2 : Int)) ∧ w' = w := by
  obtain ⟨A, n, m, hb, -⟩ := h
  have hc4 := hb.cell 4
  simp only [List.getElem?_cons_zero, List.getElem?_cons_succ] at hc4
  clear hb
  go_enter Try.func19, Try.ntmps19
  go_wp2
  go_ret
  exact ⟨rfl, rfl⟩
set_option maxHeartbeats 1000000 in
theorem decDone_nil (w : World) : Calls Try.prog 20 #[.pointer none] w fun e w' => e = .returned (.int .i64 1) ∧ w' = w := by
  have C := Lib.hid (decErr_nil w)
  go_enter Try.func20, Try.ntmps20
  go_wp2_with fail
  refine C.out.mono ?_
  rintro _ w0 ⟨rfl, hw0⟩
  subst w0
  go_wp2
  go_ret
  exact ⟨rfl, rfl⟩
/-- What Done tells. -/
def doneS (s : Nat × List Nat × Nat) : Nat := if s.2.2 = 0 then (if s.2.1 = [] then 0 else 16) else s.2.2
set_option maxHeartbeats 1000000 in
theorem decDone_any (h : DecAt w D K L R s) : Calls Try.prog 20 #[.pointer (some ⟨D, 0, none⟩)] w fun e w' => e = .returned (.int .i64 (doneS s : Int)) ∧ w' = w := by
  have C := Lib.hid (decErr_any h)
  obtain ⟨C0, B, E⟩ := s
  obtain ⟨A, n, m, hb, -, hn, -⟩ := h
  have hc2 := hb.cell 2
  simp only [List.getElem?_cons_zero, List.getElem?_cons_succ] at hc2 C
  simp only at hn
  clear hb
  by_cases hE : E = 0
  · subst hE
    cases B with
    | nil =>
      obtain rfl : n = 0 := by rw [← hn]; rfl
      have HD := Lib.hid (show doneS (C0, [], 0) = 0 from rfl)
      go_enter Try.func20, Try.ntmps20
      go_wp2_with fail
      refine C.out.mono ?_
      rintro _ w0 ⟨rfl, hw0⟩
      subst w0
      go_wp2
      go_ret
      exact ⟨by rw [HD.out]; rfl, rfl⟩
    | cons b T =>
      have hn1 : (0 : Int) < (n : Int) := by rw [← hn, List.length_cons]; omega
      have HD := Lib.hid (show doneS (C0, b :: T, 0) = 16 from rfl)
      clear hn
      go_enter Try.func20, Try.ntmps20
      go_wp2_with fail
      refine C.out.mono ?_
      rintro _ w0 ⟨rfl, hw0⟩
      subst w0
      go_wp2
      go_ret
      exact ⟨by rw [HD.out]; rfl, rfl⟩
  · have hEi : ¬ (E : Int) = 0 := by omega
    have HD := Lib.hid (show doneS (C0, B, E) = E by unfold doneS; rw [if_neg hE])
    clear hE hn
    go_enter Try.func20, Try.ntmps20
    go_wp2_with fail
    refine C.out.mono ?_
    rintro _ w0 ⟨rfl, hw0⟩
    subst w0
    go_wp2
    go_ret
    exact ⟨by rw [HD.out]; rfl, rfl⟩
set_option maxHeartbeats 1000000 in
theorem decFind_nil (total : Int) (w : World) : Calls Try.prog 15 #[.pointer none, .int .i64 total] w fun e w' => e = .returned (.int .i64 0) ∧ w' = w := by
  have C := Lib.hid (decErr_nil w)
  go_enter Try.func15, Try.ntmps15
  go_wp2_with fail
  refine C.out.mono ?_
  rintro _ w0 ⟨rfl, hw0⟩
  subst w0
  go_wp2
  go_ret
  exact ⟨rfl, rfl⟩
set_option maxHeartbeats 1000000 in
theorem decFind_err (total : Int) (h : DecAt w D K L R s) (hE : s.2.2 ≠ 0) :
    Calls Try.prog 15 #[.pointer (some ⟨D, 0, none⟩), .int .i64 total] w fun e w' => e = .returned (.int .i64 0) ∧ w' = w := by
  have C := Lib.hid (decErr_any h)
  obtain ⟨e, he⟩ : ∃ e, e = s.2.2 := ⟨_, rfl⟩
  rw [← he] at C hE
  have hEi : ¬ (e : Int) = 0 := by omega
  clear h he
  go_enter Try.func15, Try.ntmps15
  go_wp2_with fail
  refine C.out.mono ?_
  rintro _ w0 ⟨rfl, hw0⟩
  subst w0
  go_wp2
  go_ret
  exact ⟨rfl, rfl⟩
theorem DecAt.setErr (h : DecAt w D K L R (C, B, E)) (E' : Nat) : DecAt (w.setCell ⟨D, 4, none⟩ (.int .i64 (E' : Int))) D K L R (C, B, E') ∧ TurnsB D D w (w.setCell ⟨D, 4, none⟩ (.int .i64 (E' : Int))) := by
  obtain ⟨A, n, m, hb, hr, hn, hnm, hn1, hK, hC, hB⟩ := h
  exact ⟨⟨A, n, m, hb.set_ 4 _, hr.setCell hK _, hn, hnm, hn1, hK, hC, hB⟩, TurnsB.set_ 4 _⟩
set_option maxHeartbeats 1000000 in
theorem decFind_arg (total : Int) (h : DecAt w D K L R (C, B, 0)) (ht : total < 1 ∨ 65536 < total) :
    Calls Try.prog 15 #[.pointer (some ⟨D, 0, none⟩), .int .i64 total] w fun e w' => e = .returned (.int .i64 0) ∧ DecAt w' D K L R (C, B, 2) ∧ TurnsB D D w w' := by
  have C1 := Lib.hid (decErr_any h)
  have C2 := Lib.hid (spStep_bad (w := w) total ht (.pointer (some ⟨D, 0, none⟩)))
  have HEND := Lib.hid (h.setErr 2)
  obtain ⟨A, n, m, hb, -⟩ := h
  have hf4 := hb.frozen 4
  have hc4 := hb.cell 4
  simp only [List.getElem?_cons_zero, List.getElem?_cons_succ] at hc4 C1
  have hDl := hb.lt
  clear hb ht
  go_enter Try.func15, Try.ntmps15
  go_wp2_with fail
  refine C1.out.mono ?_
  rintro _ w0 ⟨rfl, hw0⟩
  subst w0
  go_wp2_with fail
  refine C2.out.mono ?_
  rintro _ w0 ⟨rfl, hw0⟩
  subst w0
  clear C1 C2
  go_wp2
  go_ret
  exact ⟨rfl, HEND.out⟩
end
end Go.Proofs.Ytgdebfjjohoghaa
