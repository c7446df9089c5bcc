/- Layer 13: counts of letters as they lie; New, Of, Total, Find, Seen. -/
import Derived.Test.YtfjfjadlpnlmjaaFenNil
import Derived.Test.YtfjfjadlpnlmjaaFenBoth
import Derived.Lib.QuietBelow
import Derived.Deep.LoopGhost
namespace Go.Proofs.Ytfjfjadlpnlmjaa
open Go.RowKit Go.Sort

/-- As long as all are more than so many, each becomes its half. -/
inductive Shrunk (mo : Int) : List Int → List Int → Prop
  | stop (c : List Int) (h : c.sum ≤ mo) : Shrunk mo c c
  | more (c r : List Int) (h : mo < c.sum) (hr : Shrunk mo (fHalf c) r) : Shrunk mo c r
theorem Shrunk.one {mo : Int} {c r r' : List Int} (h : Shrunk mo c r) (h' : Shrunk mo c r') : r = r' := by
  induction h with
  | stop c h => cases h' with
    | stop _ => rfl
    | more _ _ h2 _ => omega
  | more c r h hr ih => cases h' with
    | stop _ h2 => omega
    | more _ _ _ hr2 => exact ih hr2
/-- Counts of which none is below 1, no more than so many together where there are as many. -/
def Ones (n : Nat) (c : List Int) : Prop := c.length = n ∧ ∀ x ∈ c, 1 ≤ x
theorem Ones.half {n : Nat} {c : List Int} (h : Ones n c) : Ones n (fHalf c) := ⟨by rw [fHalf_length]; exact h.1, fHalf_one h.2⟩
theorem Ones.set {n : Nat} {c : List Int} (h : Ones n c) {k : Nat} (hk : k < c.length) {d : Int} (hd : 0 ≤ d) : Ones n (c.set k (c[k] + d)) :=
  ⟨by simpa using h.1, fun x hx => by
    rcases List.mem_or_eq_of_mem_set hx with hx | rfl
    · exact h.2 x hx
    · have := h.2 _ (List.getElem_mem hk); omega⟩
theorem Shrunk.ones {mo : Int} {n : Nat} {c r : List Int} (h : Shrunk mo c r) (ho : Ones n c) : Ones n r ∧ r.sum ≤ mo := by
  induction h with
  | stop c h => exact ⟨ho, h⟩
  | more c r _ _ ih => exact ih ho.half

structure IsFreq (w : World) (F T S : Nat) (c : List Int) (st mo : Int) : Prop where
  fb : Blk w F 65 [.pointer (some ⟨T, 0, none⟩), .int .i64 st, .int .i64 mo]
  tree : IsTree w T S c
section
variable {w w' : World} {F T S : Nat} {c : List Int} {st mo : Int}
theorem blk_ne {w : World} {g g' : Nat} {t t' : TypeId} {cs cs' : List Value} (h : Blk w g t cs) (h' : Blk w g' t' cs') (hne : t ≠ t') : g ≠ g' := by
  intro e
  subst e
  unfold Blk at h h'
  rw [h] at h'
  injection h' with h'
  injection h' with _ e _
  exact hne e
theorem IsFreq.ne (h : IsFreq w F T S c st mo) : F ≠ T ∧ F ≠ S := ⟨blk_ne h.fb h.tree.2.tb (by decide), blk_ne h.fb h.tree.2.sb (by decide)⟩
theorem IsFreq.grow (h : IsFreq w F T S c st mo) (hb : Below w.heap.size w w') : IsFreq w' F T S c st mo := ⟨h.fb.grow hb, h.tree.grow hb⟩
theorem IsFreq.turn {c' : List Int} (h : IsFreq w F T S c st mo) (ht : IsTree w' T S c') (hu : TurnsB T S w w') : IsFreq w' F T S c' st mo := ⟨hu.blk h.fb h.ne.1 h.ne.2, ht⟩

theorem freqTotal_any (h : IsFreq w F T S c st mo) : Calls Try.prog 27 #[.pointer (some ⟨F, 0, none⟩)] w fun e w' => e = .returned (.int .i64 c.sum) ∧ w' = w := by
  have C := Lib.hid (fenTotal_any h.tree.2)
  have c0 := h.fb.cell 0
  simp only [List.getElem?_cons_zero] at c0
  clear h
  go_enter Try.func27, Try.ntmps27
  go_wp2_with fail
  refine C.out.mono ?_
  rintro e w' ⟨rfl, hw⟩
  obtain rfl : _ = w' := hw.symm
  go_wp2
  go_ret
  exact ⟨rfl, rfl⟩
theorem freqFind_any (v : Int) (h : IsFreq w F T S c st mo) : Calls Try.prog 30 #[.pointer (some ⟨F, 0, none⟩), .int .i64 v] w fun e w' => e = .returned (findV (fFind c v)) ∧ w' = w := by
  have C := Lib.hid (fenFind_val v h.tree)
  have c0 := h.fb.cell 0
  simp only [List.getElem?_cons_zero] at c0
  clear h
  cases hf : fFind c v with
  | none =>
    simp only [hf, findV] at C ⊢
    go_enter Try.func30, Try.ntmps30
    go_wp2_with fail
    refine C.out.mono ?_
    rintro e w' ⟨rfl, hw⟩
    obtain rfl : _ = w' := hw.symm
    go_wp2
    go_ret2
    exact ⟨rfl, rfl⟩
  | some r =>
    simp only [hf, findV] at C ⊢
    go_enter Try.func30, Try.ntmps30
    go_wp2_with fail
    refine C.out.mono ?_
    rintro e w' ⟨rfl, hw⟩
    obtain rfl : _ = w' := hw.symm
    go_wp2
    go_ret2
    exact ⟨rfl, rfl⟩
theorem freqOf_out (i : Int) (h : IsFreq w F T S c st mo) (hi : ¬ (0 ≤ i ∧ i < c.length)) : Calls Try.prog 29 #[.pointer (some ⟨F, 0, none⟩), .int .i64 i] w fun e w' => e = .returned (.tuple #[.int .i64 0, .int .i64 0]) ∧ Below w.heap.size w w' := by
  have C := Lib.hid (fenLen_any h.tree.2 h.tree.1.1.2)
  have c0 := h.fb.cell 0
  simp only [List.getElem?_cons_zero] at c0
  clear h
  by_cases h0 : i < 0
  · go_enter Try.func29, Try.ntmps29
    go_wp2
    go_ret2
    exact ⟨rfl, Below.refl _ _⟩
  · have h1 : ¬ (i < (c.length : Int)) := by omega
    go_enter Try.func29, Try.ntmps29
    go_wp2_with fail
    refine C.out.mono ?_
    rintro e w' ⟨rfl, hw⟩
    obtain rfl : _ = w' := hw.symm
    go_wp2
    go_ret2
    exact ⟨rfl, Below.refl _ _⟩
theorem freqOf_at (k : Nat) (h : IsFreq w F T S c st mo) (hk : k < c.length) : Calls Try.prog 29 #[.pointer (some ⟨F, 0, none⟩), .int .i64 (k : Int)] w fun e w' => e = .returned (.tuple #[.int .i64 (fPre c k), .int .i64 (c[k]'hk)]) ∧ Below w.heap.size w w' := by
  have C := Lib.hid (fenLen_any h.tree.2 h.tree.1.1.2)
  have c0 := h.fb.cell 0
  simp only [List.getElem?_cons_zero] at c0
  have k1 := cell_regrown c0
  have cB := fun d os => Calls.regrown_of (fenBelow_any (k : Int) (h.tree.grow (below_regrown w d os)) k (by omega))
  have cG := fun d os => Calls.regrown_of (fenGet_at k (h.tree.grow (below_regrown w d os)) hk)
  obtain ⟨fp, hfp⟩ : ∃ fp, fp = fPre c k := ⟨_, rfl⟩
  obtain ⟨ck, hck⟩ : ∃ ck, ck = c[k]'hk := ⟨_, rfl⟩
  rw [← hfp] at cB ⊢
  rw [← hck] at cG ⊢
  have CB := Lib.hid cB
  have CG := Lib.hid cG
  have h1 : (k : Int) < (c.length : Int) := by omega
  clear h cB cG hfp hck
  go_enter Try.func29, Try.ntmps29
  go_wp2_with fail
  refine C.out.mono ?_
  rintro e w' ⟨rfl, hw⟩
  obtain rfl : _ = w' := hw.symm
  go_wp2
  refine wp_region_quiet_below (by kernel_rfl) (by kernel_rfl) ?_
  repeat (go_big_quiet_step ((first | (go_at_call 18; exact CB.out _ _) | (go_at_call 20; exact CG.out _ _))))
  refine wpQuiet_nil ?_
  intro _ hw'
  obtain ⟨⟨dq, osq⟩, hw''⟩ := hw'
  subst hw''
  go_wp2
  go_ret2
  exact ⟨rfl, below_regrown w dq osq⟩
end

theorem freqTotal_nil (w : World) : Calls Try.prog 27 #[.pointer none] w fun e w' => e = .returned (.int .i64 0) ∧ w' = w := by
  go_enter Try.func27, Try.ntmps27
  go_wp2
  go_ret
  exact ⟨rfl, rfl⟩
theorem freqFind_nil (v : Int) (w : World) : Calls Try.prog 30 #[.pointer none, .int .i64 v] w fun e w' => e = .returned (.tuple #[.int .i64 0, .bool false]) ∧ w' = w := by
  go_enter Try.func30, Try.ntmps30
  go_wp2
  go_ret2
  exact ⟨rfl, rfl⟩
theorem freqOf_nil (i : Int) (w : World) : Calls Try.prog 29 #[.pointer none, .int .i64 i] w fun e w' => e = .returned (.tuple #[.int .i64 0, .int .i64 0]) ∧ w' = w := by
  go_enter Try.func29, Try.ntmps29
  go_wp2
  go_ret2
  exact ⟨rfl, rfl⟩
theorem freqSeen_nil (i : Int) (w : World) : Calls Try.prog 26 #[.pointer none, .int .i64 i] w fun e w' => e = .returned (.int .i64 1) ∧ w' = w := by
  go_enter Try.func26, Try.ntmps26
  go_wp2
  go_ret
  exact ⟨rfl, rfl⟩
end Go.Proofs.Ytfjfjadlpnlmjaa
