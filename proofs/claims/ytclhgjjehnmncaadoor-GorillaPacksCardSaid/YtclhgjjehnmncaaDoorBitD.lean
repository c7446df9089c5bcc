/- Contracts of bit.Reader: Err, Left, Done over what is left. -/
import Derived.Test.YtclhgjjehnmncaaDoorBitG
namespace Go.Proofs.YtclhgjjehnmncaaDoor
open Go.RowKit

section
variable {w : World} {g : Nat} {L : List Bool}
theorem rErr_is (e : Nat) (h : RdrIs w g L e) : Calls Tryd.prog 42 #[.pointer (some ⟨g, 0, none⟩)] w fun e' w' => e' = .returned (.int .i64 e) ∧ w = w' := by
  obtain ⟨bs, at_, A, c, hb, _⟩ := h
  exact rErr_any _ _ _ hb
theorem rLeft_is (h : RdrIs w g L 0) : Calls Tryd.prog 35 #[.pointer (some ⟨g, 0, none⟩)] w fun e' w' => e' = .returned (.int .i64 (L.length : Nat)) ∧ w.drew = w' := by
  obtain ⟨bs, at_, A, c, hb, hr, ha, hl, _, rfl⟩ := h
  rw [drop_len]
  exact rLeft_ok hb hl ha
theorem rLeft_er (e : Nat) (h : RdrIs w g L e) (he : e ≠ 0) : Calls Tryd.prog 35 #[.pointer (some ⟨g, 0, none⟩)] w fun e' w' => e' = .returned (.int .i64 0) ∧ w = w' := by
  obtain ⟨bs, at_, A, c, hb, _⟩ := h
  exact rLeft_bad _ _ _ hb (by omega)
theorem rNext_is (k : Nat) (b : Bool) (h : RdrIs w g L 0) (hb : L[k]? = some b) :
    Calls Tryd.prog 45 #[.pointer (some ⟨g, 0, none⟩), .int .i64 k] w fun e' w' => e' = .returned (.int .u8 (b.toNat : Nat)) ∧ w = w' := by
  obtain ⟨bs, at_, A, c, hblk, hr, ha, hl, _, rfl⟩ := h
  obtain ⟨rfl, hlt⟩ := drop_get bs at_ k b hb
  exact rNext_any k _ hblk hr hl hlt

set_option maxHeartbeats 1000000 in
theorem rDone_err (e : Nat) (h : RdrIs w g L e) (he : e ≠ 0) : Calls Tryd.prog 38 #[.pointer (some ⟨g, 0, none⟩)] w fun e' w' => e' = .returned (.int .i64 e) ∧ w = w' := by
  have H := Lib.hid (rErr_is e h)
  have hne : (((e : Nat) : Int) != 0) = true := by rw [bne_iff_ne]; omega
  clear h he
  go_enter Tryd.func38, Tryd.ntmps38
  go_wp2_with (go_at_call 42; go_must (refine H.out.mono ?_; rintro e w' ⟨rfl, rfl⟩))
  go_ret
  exact ⟨rfl, rfl⟩
set_option maxHeartbeats 1000000 in
theorem rDone_more (h : RdrIs w g L 0) (hl : 8 ≤ L.length) (hl2 : L.length ≤ 9000000000000000) : Calls Tryd.prog 38 #[.pointer (some ⟨g, 0, none⟩)] w fun e' w' => e' = .returned (.int .i64 22) ∧ w.drew = w' := by
  have H := Lib.hid (rErr_is 0 h)
  have H2 := Lib.hid (rLeft_is h)
  have hli : (8 : Int) ≤ (L.length : Int) := by omega
  clear h
  go_enter Tryd.func38, Tryd.ntmps38
  go_wp2_with (first
    | (go_at_call 42; go_must (refine H.out.mono ?_; rintro e w' ⟨rfl, rfl⟩))
    | (go_at_call 35; go_must (refine H2.out.mono ?_; rintro e w' ⟨rfl, rfl⟩)))
  go_ret
  exact ⟨rfl, rfl⟩
set_option maxHeartbeats 1000000 in
theorem rDone_ok (n : Nat) (h : RdrIs w g L 0) (hn : n < 8) (hL : L = List.replicate n false) : Calls Tryd.prog 38 #[.pointer (some ⟨g, 0, none⟩)] w fun e' w' => e' = .returned (.int .i64 0) ∧ w.drew = w' := by
  have H := Lib.hid (rErr_is 0 h)
  have h2 := rLeft_is h
  rw [show L.length = n by rw [hL]; simp] at h2
  have H2 := Lib.hid h2
  have H3 := Lib.hid h
  have HL := Lib.hid hL
  have hni : (n : Int) < 8 := by omega
  clear h h2 hL
  go_enter Tryd.func38, Tryd.ntmps38
  go_wp2_with (first
    | (go_at_call 42; go_must (refine H.out.mono ?_; rintro e w' ⟨rfl, rfl⟩))
    | (go_at_call 35; go_must (refine H2.out.mono ?_; rintro e w' ⟨rfl, rfl⟩)))
  go_loop [16] (CountR n) (fun i => n - (intOf i).toNat)
  case atStart => exact ⟨0, Nat.zero_le _, rfl⟩
  case round =>
    obtain ⟨k, hk, rfl⟩ := hrel
    by_cases hlt : k < n
    · have hb0 : L[k]? = some false := by rw [HL.out]; simp [hlt]
      have HB0 := Lib.hid hb0
      clear hb0
      go_wp2_with (go_at_call 45; go_must (refine (rNext_is (w := w.drew) k false H3.out HB0.out).mono ?_; rintro e w' ⟨rfl, rfl⟩))
      go_round
      case rel => exact ⟨k + 1, by omega, by go_num⟩
      case measure => simp [intOf]; omega
    · obtain rfl : k = n := by omega
      go_wp2
      go_ret
      exact ⟨rfl, rfl⟩
set_option maxHeartbeats 1000000 in
theorem rDone_pay (n : Nat) (R : List Bool) (h : RdrIs w g L 0) (hn : n + 1 + R.length < 8) (hL : L = List.replicate n false ++ true :: R) : Calls Tryd.prog 38 #[.pointer (some ⟨g, 0, none⟩)] w fun e' w' => e' = .returned (.int .i64 16) ∧ w.drew = w' := by
  have H := Lib.hid (rErr_is 0 h)
  have h2 := rLeft_is h
  obtain ⟨t, ht⟩ : ∃ t, t = n + 1 + R.length := ⟨_, rfl⟩
  rw [show L.length = t by rw [hL, ht]; simp; omega] at h2
  have H2 := Lib.hid h2
  have H3 := Lib.hid h
  have HL := Lib.hid hL
  have hni : (t : Int) < 8 := by omega
  have hnt : n < t := by omega
  clear h h2 hL ht hn
  go_enter Tryd.func38, Tryd.ntmps38
  go_wp2_with (first
    | (go_at_call 42; go_must (refine H.out.mono ?_; rintro e w' ⟨rfl, rfl⟩))
    | (go_at_call 35; go_must (refine H2.out.mono ?_; rintro e w' ⟨rfl, rfl⟩)))
  go_loop [16] (CountR n) (fun i => n - (intOf i).toNat)
  case atStart => exact ⟨0, Nat.zero_le _, rfl⟩
  case round =>
    obtain ⟨k, hk, rfl⟩ := hrel
    by_cases hlt : k < n
    · have hb0 : L[k]? = some false := by rw [HL.out, List.getElem?_append_left (by simp; omega)]; simp [hlt]
      have HB0 := Lib.hid hb0
      clear hb0
      go_wp2_with (go_at_call 45; go_must (refine (rNext_is (w := w.drew) k false H3.out HB0.out).mono ?_; rintro e w' ⟨rfl, rfl⟩))
      go_round
      case rel => exact ⟨k + 1, by omega, by go_num⟩
      case measure => simp [intOf]; omega
    · obtain rfl : k = n := by omega
      have hb0 : L[k]? = some true := by rw [HL.out, List.getElem?_append_right (by simp)]; simp
      have HB0 := Lib.hid hb0
      clear hb0
      go_wp2_with (go_at_call 45; go_must (refine (rNext_is (w := w.drew) k true H3.out HB0.out).mono ?_; rintro e w' ⟨rfl, rfl⟩))
      go_ret
      exact ⟨rfl, rfl⟩
/-- Noughts alone, or a one among them. -/
theorem noughts_cases : ∀ L : List Bool, (L = List.replicate L.length false) ∨ ∃ n R, L = List.replicate n false ++ true :: R
  | [] => .inl rfl
  | true :: L => .inr ⟨0, L, rfl⟩
  | false :: L => by
    rcases noughts_cases L with h | ⟨n, R, h⟩
    · exact .inl (by rw [List.length_cons, List.replicate_succ, ← h])
    · exact .inr ⟨n + 1, R, by rw [h]; rfl⟩
end
end Go.Proofs.YtclhgjjehnmncaaDoor
