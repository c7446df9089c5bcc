/- Layer 25: a byte's bits, of the reference; the fixed calls. -/
import Derived.Test.YtnghcfogigglmaaModNew
namespace Go.Proofs.Ytnghcfogigglmaa
open Go.RowKit Go.Sort

theorem refBit_any (c k : Nat) (w : World) (hc : c < 256) (hk : k < 8) : Calls Try.prog 14 #[.int .u8 (c : Int), .int .i64 (k : Int)] w fun e w' => e = .returned (.int .i64 (bitD c k : Nat)) ∧ w' = w := by
  unfold bitD
  go_enter Try.func14, Try.ntmps14
  go_wp2
  go_loopw [5, 6] (fun yy ii wr => ∃ i y : Nat, k ≤ i ∧ i ≤ 7 ∧ y = c / 2 ^ (i - k) ∧ yy = .int .i64 (y : Int) ∧ ii = .int .i64 (i : Int) ∧ wr = w) (fun _ ii _ => 7 - (intOf ii).toNat)
  case atStart => exact ⟨k, c, Nat.le_refl _, by omega, by simp, rfl, rfl, rfl⟩
  case round =>
    obtain ⟨i, y, hi0, hi1, hy, rfl, rfl, rfl⟩ := hrel
    have hyx : y ≤ c := by rw [hy]; exact Nat.div_le_self _ _
    have HY := Lib.hid hy
    have hy4 : y < 256 := by omega
    clear hy hyx
    by_cases hlt : i < 7
    · have hii : (i : Int) < 7 := by omega
      obtain ⟨z, hz⟩ : ∃ z, z = y / 2 := ⟨_, rfl⟩
      have hzi : (y : Int) / 2 = (z : Int) := by omega
      have HZ := Lib.hid hz
      clear hz
      go_wp2
      go_roundw
      case rel => exact ⟨i + 1, z, by omega, by omega, by rw [HZ.out, HY.out, Nat.div_div_eq_div_mul, ← Nat.pow_succ, show i + 1 - k = (i - k).succ by omega], by go_num, by go_num, by simp⟩
      case measure => simp [intOf]; omega
    · obtain rfl : i = 7 := by omega
      go_wp2
      go_ret
      exact ⟨ret_int (by rw [← HY.out]; omega), rfl⟩
/-- A model that lives on. -/
structure ModS (w wr : World) (a : ModA) (s : ModD) : Prop where
  f : IsModel wr a s
  lo : ∀ k ∈ a.every, w.heap.size ≤ k
  below : Below w.heap.size w wr
section
variable {w wr w' : World} {a : ModA} {s t : ModD}
theorem ModS.grow (h : ModS w wr a s) (hb : Below wr.heap.size wr w') : ModS w w' a s := ⟨h.f.grow hb, h.lo, h.below.trans (hb.mono h.below.size)⟩
theorem ModS.next (h : ModS w wr a s) (hm : IsModel w' a t) (hu : OnlyS a.all wr w') : ModS w w' a t :=
  ⟨hm, h.lo, h.below.trans (hu.below (fun k hk => h.lo k (ModA.all_every k hk)) h.below.size)⟩
theorem ModS.drewN (h : ModS w wr a s) (j : Nat) : ModS w (wr.drewN j) a s := h.grow (below_drawn wr j)
end
set_option maxHeartbeats 1000000 in
theorem modKnown_any (w : World) : Calls Try.prog 6 #[] w (Yes w) := by
  have CN := Lib.hid (modNew_any w)
  go_enter Try.func6, Try.ntmps6
  go_wp2_with fail
  refine CN.out.mono ?_
  rintro e w1 ⟨a, rfl, hm1, hlo1, hb1⟩
  have HS1 := Lib.hid (⟨hm1, hlo1, hb1⟩ : ModS w w1 a newD)
  have cp := modP_any hm1
  rw [newD_chance] at cp
  have CP := Lib.hid cp
  clear hm1 hlo1 hb1 cp
  go_wp2_with fail
  refine CP.out.mono ?_
  rintro e w2 ⟨rfl, hb2⟩
  have HS2 := Lib.hid (HS1.out.grow hb2)
  clear hb2
  go_wp2
  go_loopw [3] (fun ii wr => ∃ (k : Nat) (s : ModD), k ≤ 8 ∧ ii = .int .i64 (k : Int) ∧ s.p = posB 65 k 0 0 ∧ ModS w wr a s) (fun ii _ => 8 - (intOf ii).toNat)
  case atStart => exact ⟨0, newD, by omega, rfl, (posB_zero 0 0 (by decide)).symm, HS2.out⟩
  case round =>
    clear HS1 HS2
    obtain ⟨k, s, hk, rfl, hp, hs⟩ := hrel
    have HS := Lib.hid hs
    by_cases hlt : k < 8
    · have hki : (k : Int) < 8 := by omega
      have CB := Lib.hid (fun w => refBit_any 65 k w (by decide) hlt)
      have CS := Lib.hid (modSeen_any ((bitD 65 k : Nat) : Int) hs.f)
      have HP := Lib.hid (show (s.seen ((bitD 65 k : Nat) : Int)).p = posB 65 (k + 1) 0 0 by show s.p.step _ = _; rw [hp]; exact posB_next 0 0 (by decide) hlt)
      obtain ⟨b, hb⟩ : ∃ b, b = bitD 65 k := ⟨_, rfl⟩
      rw [← hb] at CB CS HP
      clear hs hp hb
      go_wp2_with fail
      refine (CB.out _).mono ?_
      rintro e w' ⟨rfl, hw⟩
      obtain rfl : _ = w' := hw.symm
      go_wp2_with fail
      refine CS.out.mono ?_
      rintro e w4 ⟨⟨u, rfl⟩, hm, hu⟩
      have HS4 := Lib.hid (HS.out.next hm hu)
      clear hm hu
      go_wp2
      go_roundw
      case rel => exact ⟨k + 1, _, by omega, by go_num, HP.out, HS4.out⟩
      case measure => simp [intOf]; omega
    · obtain rfl : k = 8 := by omega
      have cw := modWhere_any hs.f.mb
      rw [hp, posB_eight] at cw
      have CW := Lib.hid cw
      clear hs hp cw
      go_wp2_with fail
      refine CW.out.mono ?_
      rintro e w4 ⟨rfl, j, hw⟩
      have HB := Lib.hid (show Below w.heap.size w w4 by rw [hw]; exact below_drewn HS.out.below)
      clear hw
      go_wp2
      go_ret
      exact ⟨rfl, HB.out⟩
end Go.Proofs.Ytnghcfogigglmaa
