/- Layer 27: the modes' names: Name, Find. -/
import Derived.Test.YtnfkekaeppgaoaaDoorMdsFn
import Derived.Test.YtnfkekaeppgaoaaDoorNamesR
namespace Go.Proofs.YtnfkekaeppgaoaaDoor
open Go.RowKit Go.Sort Go.Shelf

theorem names_idx {k : Nat} (hk : k < 7) (w : World) : (Instr.index 38 namesV (.int .i64 (k : Int))).run Tryd.prog w = .ok (.string (nmA k)) w := by
  rcases (show k = 0 ∨ k = 1 ∨ k = 2 ∨ k = 3 ∨ k = 4 ∨ k = 5 ∨ k = 6 by omega) with rfl | rfl | rfl | rfl | rfl | rfl | rfl
  all_goals kernel_rfl
set_option maxRecDepth 100000 in
set_option maxHeartbeats 1000000 in
theorem modeNames_any (w : World) : Calls Tryd.prog 23 #[] w fun e w' => e = .returned namesV ∧ Below w.heap.size w w' := by
  go_enter Tryd.func23, Tryd.ntmps23
  go_wp2
  exact bodyPost_ret (v := namesV) (results_cell_row Tryd.results23 _ _ w.heap.size 38 _ (0, 0) _ rfl (heap_alloc_new w _) Tryd.underlying38 rfl size_names) rfl ⟨rfl, (Below.refl _ _).alloc (Nat.le_refl _) _⟩
def nameOf (m : Int) : ByteArray := if 0 ≤ m ∧ m < 7 then nmA m.toNat else ⟨#[]⟩
set_option maxRecDepth 100000 in
set_option maxHeartbeats 1000000 in
theorem mdsName_any (m : Int) (w : World) : Calls Tryd.prog 18 #[.int .i64 m] w fun e w' => e = .returned (.string (nameOf m)) ∧ Below w.heap.size w w' := by
  have CN := Lib.hid modeNames_any
  unfold namesV at CN
  by_cases h : 0 ≤ m ∧ m < 7
  · have ho : nameOf m = nmA m.toNat := if_pos h
    obtain ⟨k, rfl⟩ := Int.eq_ofNat_of_zero_le h.1
    have ha := names_at (show k < 7 by omega)
    have h0 : ¬ (k : Int) < 0 := by omega
    have h1 : (k : Int) < 7 := h.2
    have h2 : decide ((k : Int) < 0) = false := by simp
    have h3 : decide (7 ≤ (k : Int)) = false := by simp; omega
    rw [Int.toNat_natCast] at ho
    rw [ho]
    obtain ⟨V, hV⟩ : ∃ V, V = nmA k := ⟨_, rfl⟩
    rw [← hV] at ha ⊢
    have HA := Lib.hid ha
    clear hV ha ho h
    go_enter Tryd.func18, Tryd.ntmps18
    go_wp2_with fail
    refine (CN.out _).mono ?_
    rintro e w1 ⟨rfl, hb⟩
    obtain ⟨hr2, hb2⟩ := names_row w1
    have hc := hr2.cell k
    rw [HA.out] at hc
    have HB2 := Lib.hid (hb.trans (hb2.mono hb.size))
    clear hr2 hb2 hb
    go_wp2
    go_ret
    exact ⟨rfl, HB2.out⟩
  · have ho : nameOf m = ⟨#[]⟩ := if_neg h
    rw [ho]
    have h2 : (decide (m < 0) || decide (7 ≤ m)) = true := by
      by_cases h : m < 0
      · simp [h]
      · simp [show (7 : Int) ≤ m by omega]
    clear h ho
    go_enter Tryd.func18, Tryd.ntmps18
    go_wp2_with fail
    refine (CN.out _).mono ?_
    rintro e w1 ⟨rfl, hb⟩
    obtain ⟨hr2, hb2⟩ := names_row w1
    have HB2 := Lib.hid (hb.trans (hb2.mono hb.size))
    clear hr2 hb2 hb
    go_wp2
    all_goals
      go_ret
      exact ⟨rfl, HB2.out⟩
set_option maxRecDepth 100000 in
set_option maxHeartbeats 2000000 in
theorem mdsFind_any {s : ByteArray} {p : Nat} (hp : NameAt s p) (w : World) : Calls Tryd.prog 32 #[.string s] w fun e w' => e = .returned (.tuple #[.int .i64 ((if p < 7 then p else 0 : Nat) : Int), .bool (decide (p < 7))]) ∧ Below w.heap.size w w' := by
  have CN := Lib.hid modeNames_any
  have HP := Lib.hid hp
  obtain ⟨N, hN⟩ : ∃ N, N = namesV := ⟨_, rfl⟩
  obtain ⟨a, ha⟩ : ∃ a : Nat, a = if p < 7 then p else 0 := ⟨_, rfl⟩
  obtain ⟨d, hd⟩ : ∃ d : Bool, d = decide (p < 7) := ⟨_, rfl⟩
  have HX := Lib.hid (fun (k : Nat) (hk : k < 7) (w : World) => names_idx hk w)
  rw [← hN] at CN HX
  rw [← ha, ← hd]
  have HA := Lib.hid (And.intro ha hd)
  clear hN hp ha hd
  go_enter Tryd.func32, Tryd.ntmps32
  go_wp2_with fail
  refine (CN.out _).mono ?_
  rintro e w1 ⟨rfl, hb⟩
  have HB := Lib.hid hb
  clear hb
  go_wp2
  go_loopw [7] (fun i wr => ∃ k : Nat, k ≤ 7 ∧ i = .int .i64 (k : Int) ∧ k ≤ p ∧ wr = w1) (fun i _ => 7 - (intOf i).toNat)
  case atStart => exact ⟨0, by decide, rfl, Nat.zero_le _, rfl⟩
  case round =>
    obtain ⟨k, hk, rfl, hkp, rfl⟩ := hrel
    have HK := Lib.hid hkp
    clear hkp
    by_cases hlt : k < 7
    · have hx := HX.out k hlt wr
      have he := HP.out.2 k hlt
      obtain ⟨x, hx2⟩ : ∃ x, x = nmA k := ⟨_, rfl⟩
      rw [← hx2] at hx he
      have hki : (k : Int) < 7 := by omega
      clear hx2
      by_cases hpk : k = p
      · have heq : (x.toList == s.toList) = true := by rw [he]; simp [hpk]
        have hp7 : p < 7 := by omega
        have HPK := Lib.hid hpk
        have HP7 := Lib.hid hp7
        clear he hp7 hpk
        go_wp2
        go_ret2
        refine ⟨?_, HB.out⟩
        rw [HA.out.1, HA.out.2, if_pos HP7.out, HPK.out]
        simp [HP7.out]
      · have heq : (x.toList == s.toList) = false := by rw [he]; simp [hpk]
        have HN := Lib.hid hpk
        clear he hpk
        go_wp2
        go_roundw
        case rel => exact ⟨k + 1, by omega, by go_num, by have := HK.out; have := HN.out; omega, trivial⟩
        case measure => simp [intOf]; omega
    · obtain rfl : k = 7 := by omega
      have hp7 : p = 7 := by have := HP.out.1; have := HK.out; omega
      have HP7 := Lib.hid hp7
      clear hp7
      go_wp2
      go_ret2
      refine ⟨?_, HB.out⟩
      rw [HA.out.1, HA.out.2, HP7.out]
      rfl
end Go.Proofs.YtnfkekaeppgaoaaDoor
