/- Layer 27: the modes' names: Name, Find. -/
import Derived.Test.YtnfkekaeppgaoaaMdsFn
import Derived.Test.YtnfkekaeppgaoaaNamesR
namespace Go.Proofs.Ytnfkekaeppgaoaa
open Go.RowKit Go.Sort Go.Shelf

theorem names_idx {k : Nat} (hk : k < 7) (w : World) : (Instr.index 64 namesV (.int .i64 (k : Int))).run Try.prog w = .ok (.string (nmA k)) w := by
  rcases (show k = 0 ∨ k = 1 ∨ k = 2 ∨ k = 3 ∨ k = 4 ∨ k = 5 ∨ k = 6 by omega) with rfl | rfl | rfl | rfl | rfl | rfl | rfl
  all_goals kernel_rfl
set_option maxRecDepth 100000 in
set_option maxHeartbeats 1000000 in
theorem modeNames_any (w : World) : Calls Try.prog 50 #[] w fun e w' => e = .returned namesV ∧ Below w.heap.size w w' := by
  go_enter Try.func50, Try.ntmps50
  go_wp2
  exact bodyPost_ret (v := namesV) (results_cell_row Try.results50 _ _ w.heap.size 64 _ (0, 0) _ rfl (heap_alloc_new w _) Try.underlying64 rfl size_names) rfl ⟨rfl, (Below.refl _ _).alloc (Nat.le_refl _) _⟩
def nameOf (m : Int) : ByteArray := if 0 ≤ m ∧ m < 7 then nmA m.toNat else ⟨#[]⟩
set_option maxRecDepth 100000 in
set_option maxHeartbeats 2000000 in
theorem mdsFind_any {s : ByteArray} {p : Nat} (hp : NameAt s p) (w : World) : Calls Try.prog 48 #[.string s] w fun e w' => e = .returned (.tuple #[.int .i64 ((if p < 7 then p else 0 : Nat) : Int), .bool (decide (p < 7))]) ∧ Below w.heap.size w w' := by
  have CN := Lib.hid modeNames_any
  have HP := Lib.hid hp
  obtain ⟨N, hN⟩ : ∃ N, N = namesV := ⟨_, rfl⟩
  obtain ⟨a, ha⟩ : ∃ a : Nat, a = if p < 7 then p else 0 := ⟨_, rfl⟩
  obtain ⟨d, hd⟩ : ∃ d : Bool, d = decide (p < 7) := ⟨_, rfl⟩
  have HX := Lib.hid (fun (k : Nat) (hk : k < 7) (w : World) => names_idx hk w)
  rw [← hN] at CN HX
  rw [← ha, ← hd]
  have HA := Lib.hid (And.intro ha hd)
  clear hN hp ha hd
  go_enter Try.func48, Try.ntmps48
  go_wp2_with fail
  refine (CN.out _).mono ?_
  rintro e w1 ⟨rfl, hb⟩
  have HB := Lib.hid hb
  clear hb
  go_wp2
  go_loopw [7] (fun i wr => ∃ k : Nat, k ≤ 7 ∧ i = .int .i64 (k : Int) ∧ k ≤ p ∧ wr = w1) (fun i _ => 7 - (intOf i).toNat)
  case atStart => exact ⟨0, by decide, rfl, Nat.zero_le _, rfl⟩
  case round =>
    obtain ⟨k, hk, rfl, hkp, rfl⟩ := hrel
    have HK := Lib.hid hkp
    clear hkp
    by_cases hlt : k < 7
    · have hx := HX.out k hlt wr
      have he := HP.out.2 k hlt
      obtain ⟨x, hx2⟩ : ∃ x, x = nmA k := ⟨_, rfl⟩
      rw [← hx2] at hx he
      have hki : (k : Int) < 7 := by omega
      clear hx2
      by_cases hpk : k = p
      · have heq : (x.toList == s.toList) = true := by rw [he]; simp [hpk]
        have hp7 : p < 7 := by omega
        have HPK := Lib.hid hpk
        have HP7 := Lib.hid hp7
        clear he hp7 hpk
        go_wp2
        go_ret2
        refine ⟨?_, HB.out⟩
        rw [HA.out.1, HA.out.2, if_pos HP7.out, HPK.out]
        simp [HP7.out]
      · have heq : (x.toList == s.toList) = false := by rw [he]; simp [hpk]
        have HN := Lib.hid hpk
        clear he hpk
        go_wp2
        go_roundw
        case rel => exact ⟨k + 1, by omega, by go_num, by have := HK.out; have := HN.out; omega, trivial⟩
        case measure => simp [intOf]; omega
    · obtain rfl : k = 7 := by omega
      have hp7 : p = 7 := by have := HP.out.1; have := HK.out; omega
      have HP7 := Lib.hid hp7
      clear hp7
      go_wp2
      go_ret2
      refine ⟨?_, HB.out⟩
      rw [HA.out.1, HA.out.2, HP7.out]
      rfl
end Go.Proofs.Ytnfkekaeppgaoaa
