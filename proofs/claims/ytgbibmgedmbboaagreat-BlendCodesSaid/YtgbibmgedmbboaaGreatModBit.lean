/- Layer 25: a byte's bits, of the reference; the fixed calls. -/
import Derived.Test.YtgbibmgedmbboaaGreatModNew
namespace Go.Proofs.YtgbibmgedmbboaaGreat
open Go.RowKit Go.Sort

theorem refBit_any (c k : Nat) (w : World) (hc : c < 256) (hk : k < 8) : Calls Tryz.prog 15 #[.int .u8 (c : Int), .int .i64 (k : Int)] w fun e w' => e = .returned (.int .i64 (bitD c k : Nat)) ∧ w' = w := by
  unfold bitD
  go_enter Tryz.func15, Tryz.ntmps15
  go_wp2
  go_loopw [5, 6] (fun yy ii wr => ∃ i y : Nat, k ≤ i ∧ i ≤ 7 ∧ y = c / 2 ^ (i - k) ∧ yy = .int .i64 (y : Int) ∧ ii = .int .i64 (i : Int) ∧ wr = w) (fun _ ii _ => 7 - (intOf ii).toNat)
  case atStart => exact ⟨k, c, Nat.le_refl _, by omega, by simp, rfl, rfl, rfl⟩
  case round =>
    obtain ⟨i, y, hi0, hi1, hy, rfl, rfl, rfl⟩ := hrel
    have hyx : y ≤ c := by rw [hy]; exact Nat.div_le_self _ _
    have HY := Lib.hid hy
    have hy4 : y < 256 := by omega
    clear hy hyx
    by_cases hlt : i < 7
    · have hii : (i : Int) < 7 := by omega
      obtain ⟨z, hz⟩ : ∃ z, z = y / 2 := ⟨_, rfl⟩
      have hzi : (y : Int) / 2 = (z : Int) := by omega
      have HZ := Lib.hid hz
      clear hz
      go_wp2
      go_roundw
      case rel => exact ⟨i + 1, z, by omega, by omega, by rw [HZ.out, HY.out, Nat.div_div_eq_div_mul, ← Nat.pow_succ, show i + 1 - k = (i - k).succ by omega], by go_num, by go_num, by simp⟩
      case measure => simp [intOf]; omega
    · obtain rfl : i = 7 := by omega
      go_wp2
      go_ret
      exact ⟨ret_int (by rw [← HY.out]; omega), rfl⟩
/-- A model that lives on. -/
structure ModS (w wr : World) (a : ModA) (s : ModD) : Prop where
  f : IsModel wr a s
  lo : ∀ k ∈ a.every, w.heap.size ≤ k
  below : Below w.heap.size w wr
section
variable {w wr w' : World} {a : ModA} {s t : ModD}
theorem ModS.grow (h : ModS w wr a s) (hb : Below wr.heap.size wr w') : ModS w w' a s := ⟨h.f.grow hb, h.lo, h.below.trans (hb.mono h.below.size)⟩
theorem ModS.next (h : ModS w wr a s) (hm : IsModel w' a t) (hu : OnlyS a.all wr w') : ModS w w' a t :=
  ⟨hm, h.lo, h.below.trans (hu.below (fun k hk => h.lo k (ModA.all_every k hk)) h.below.size)⟩
theorem ModS.drewN (h : ModS w wr a s) (j : Nat) : ModS w (wr.drewN j) a s := h.grow (below_drawn wr j)
end
end Go.Proofs.YtgbibmgedmbboaaGreat
