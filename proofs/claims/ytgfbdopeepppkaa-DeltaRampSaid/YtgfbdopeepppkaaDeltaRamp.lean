/- Law DeltaRamp. -/
import Derived.Test.YtgfbdopeepppkaaDeltaLaws
namespace Go.Proofs.Ytgfbdopeepppkaa
open Go.RowKit

def rampAt (a s : Nat) (j : Nat) : Nat := (a + j * s) % 18446744073709551616
/-- What holds at the head of a round that looks for noughts. -/
def ZeroRel (wr : World) (n : Nat) (i : Value) (w' : World) : Prop := ∃ k : Nat, 2 ≤ k ∧ (k ≤ n ∨ k = 2) ∧ i = .int .i64 k ∧ w' = wr
theorem ramp_val (a s k : Nat) : IntKind.u64.wrap ((a : Int) + IntKind.u64.wrap ((k : Int) * (s : Int))) = ((rampAt a s k : Nat) : Int) := by
  unfold rampAt
  rw [IntKind.wrap_u64, IntKind.wrap_u64]
  have e : (k : Int) * (s : Int) = ((k * s : Nat) : Int) := by simp
  rw [e]
  generalize k * s = p
  omega
theorem rampAt_lt (a s n : Nat) : ∀ x ∈ rowOf (rampAt a s) n, x < 18446744073709551616 := rowOf_lt _ _ _ fun _ => Nat.mod_lt _ (by decide)

set_option maxHeartbeats 1000000 in
set_option maxRecDepth 100000 in
theorem deltaRamp_law (a s n u : Nat) (w : World) (hn : n ≤ 255) :
    Calls Try.prog 5 #[.int .u64 (a : Int), .int .u64 (s : Int), .int .u8 (n : Int), .int .u8 (u : Int)] w (Yes w) := by
  obtain ⟨i0, hi, hz0, hz1, hz2⟩ := info_parts info_u64r
  obtain ⟨V, hV, hw⟩ := width_of u
  have HV := Lib.hid hV
  have HW := Lib.hid hw
  clear hV hw
  go_enter Try.func5, Try.ntmps5
  go_wp2
  simp only [HW.out]
  go_loopw [10, 11] (RefRow w (rampAt a s) n) (fun _ i _ => n - (intOf i).toNat)
  case atStart => exact ⟨0, Nat.zero_le _, rfl, World.ownsRow_nil _ _ _ _, Below.refl _ _⟩
  case round =>
    obtain ⟨k, hk, rfl, hown, hb⟩ := hrel
    have hbs := hb.size
    by_cases hlt : k < n
    · have hv := ramp_val a s k
      have HVAL := Lib.hid hv
      clear hv
      have hk1 : (k : Int) < (n : Int) := by omega
      go_wp2_with ((with_reducible show wpList _ _ _ (({ dst := some 31, op := _, type := _, pos := _, after := _, guard := _ } : Oper) :: _) _ _); rw [HVAL.out]; go_must (refine wpList_app rfl (.tmp 23) (.tmp 30) 22 rfl w.heap.size 28 i0 (.int .u64 0) 1 8 Try.underlying22 hi hz0 hz1 hz2 rfl (by decide) _ _ _ rfl (hown.alloc _) _ _ 1 1 _ rfl (Rd.new _ _ _) rfl (by intro u hu; simp at hu; subst hu; rfl) (by simp only [maxLen]; omega) (by omega) (by simp; omega) ?_; intro v1 w1 hown1 hg1; have hb1 : Below w.heap.size w w1 := (hb.alloc hbs _).grown hg1 (by simp; omega) (own_block hown); clear hg1 hown hb))
      have hown2 : w1.ownsRow w.heap.size 28 1 v1 (k + 1) (wvs (rowOf (rampAt a s) (k + 1))) := by
        rw [rowOf_snoc, wvs_snoc]
        exact hown1
      clear hown1
      go_roundw
      case rel => exact ⟨k + 1, by omega, by go_num, hown2, hb1⟩
      case measure => simp [intOf]; omega
    · obtain rfl : k = n := by omega
      have hc := cells_of_own (ws := rowOf (rampAt a s) k) (by rw [rowOf_len]; exact hown)
      obtain ⟨A, c, rfl, hnc, _⟩ := own_form hown
      have HC := Lib.hid hc
      have HB := Lib.hid hb
      clear hc hown hb hnc
      go_wp2_with fail
      refine (dSecond_cells (V : Int) (rowOf (rampAt a s) k) _ _ HC.out (by rw [rowOf_len]; omega) (rampAt_lt a s k)).mono ?_
      rintro e w1 ⟨v1, rfl, ⟨A1, c1, rfl, _, hr1⟩, hb1⟩
      rw [ofW_of HV.out] at hr1
      have hlen : (wvs (ofW secondW (V : Int) (rowOf (rampAt a s) k))).length = k := by rw [ofW_of HV.out, wvs_length, secondW_len, rowOf_len]
      have hzero : ∀ i, 2 ≤ i → i < k → (wvs (secondW V (rowOf (rampAt a s) k)))[i]? = some (.int .u64 0) := by
        intro i h2 hik
        have hz := second_ramp HV.out a s k i h2 hik
        have hl2 : i < (secondW V (rowOf (rampAt a s) k)).length := by rw [secondW_len, rowOf_len]; exact hik
        rw [wvs_get _ _ hl2]
        have hz' : (secondW V (rowOf (rampAt a s) k)).getD i 0 = 0 := hz
        have : (secondW V (rowOf (rampAt a s) k))[i] = 0 := by simpa [List.getD_eq_getElem?_getD, hl2] using hz'
        rw [this]
        rfl
      rw [hlen]
      have hbb := HB.out.trans (hb1.mono HB.out.size)
      have HBB := Lib.hid hbb
      have HR := Lib.hid hr1
      have HZ := Lib.hid hzero
      clear hr1 hzero hbb hb1 hlen HC HB
      go_wp2
      go_loopw [13] (ZeroRel w1 k) (fun i _ => k - (intOf i).toNat)
      case atStart => exact ⟨2, Nat.le_refl _, .inr rfl, rfl, rfl⟩
      case round =>
        obtain ⟨j, hj2, hjk, rfl, rfl⟩ := hrel
        by_cases hj : j < k
        · obtain ⟨ab, ao, rfl, _, hcell⟩ := HR.out j _ (HZ.out j hj2 hj)
          have hj1 : (j : Int) < (k : Int) := by omega
          go_wp2
          go_roundw
          case rel => exact ⟨j + 1, by omega, by omega, by go_num, rfl⟩
          case measure => simp [intOf]; omega
        · have hj1 : ¬ ((j : Int) < (k : Int)) := by omega
          go_wp2_with fail
          refine (deltaKnown_any _).mono ?_
          rintro e w2 ⟨rfl, hb⟩
          have hb2 := HBB.out.trans (hb.mono HBB.out.size)
          clear hb
          go_wp2
          go_ret
          exact ⟨rfl, hb2⟩
end Go.Proofs.Ytgfbdopeepppkaa
