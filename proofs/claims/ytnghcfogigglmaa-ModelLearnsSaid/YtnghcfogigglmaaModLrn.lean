/- Layer 25: the law ModelLearns. -/
import Derived.Test.YtnghcfogigglmaaModBit
import Derived.Test.YtnghcfogigglmaaModLrnM
namespace Go.Proofs.Ytnghcfogigglmaa
open Go.RowKit Go.Sort

/-- What a model is behind i bytes c, and k bits of the next, of which there are eight. -/
def LearnB (c i k : Nat) (s : ModD) : Prop := if k < 8 then LearnD c i k s else LearnD c (i + 1) 0 s
theorem LearnB.at_ {c i k : Nat} {s : ModD} (h : LearnB c i k s) (hk : k < 8) : LearnD c i k s := by unfold LearnB at h; rwa [if_pos hk] at h
theorem LearnB.end_ {c i : Nat} {s : ModD} (h : LearnB c i 8 s) : LearnD c (i + 1) 0 s := by unfold LearnB at h; rwa [if_neg (by decide)] at h
theorem LearnB.next {c i k : Nat} {s : ModD} (h : LearnB c i k s) (hc : c < 256) (hk : k < 8) : LearnB c i (k + 1) (s.seen ((bitD c k : Nat) : Int)) := by
  have hd := h.at_ hk
  unfold LearnB
  by_cases e : k = 7
  · subst e; rw [if_neg (by decide)]; exact hd.over hc
  · rw [if_pos (by omega)]; exact hd.next hc (by omega)
set_option maxHeartbeats 2000000 in
theorem modLearns_law (c n : Nat) (hc : c < 256) (hn : n < 256) (w : World) : Calls Try.prog 5 #[.int .u8 (c : Int), .int .u8 (n : Int)] w (Yes w) := by
  have CK := Lib.hid modKnown_any
  have CN := Lib.hid (modNew_any w)
  go_enter Try.func5, Try.ntmps5
  go_wp2_with fail
  refine CN.out.mono ?_
  rintro e w1 ⟨a, rfl, hm1, hlo1, hb1⟩
  have HS1 := Lib.hid (⟨hm1, hlo1, hb1⟩ : ModS w w1 a newD)
  clear hm1 hlo1 hb1
  go_wp2
  go_loopw [6] (fun ii wr => ∃ (i : Nat) (s : ModD), i ≤ 40 + n ∧ ii = .int .i64 (i : Int) ∧ LearnD c i 0 s ∧ ModS w wr a s) (fun ii _ => 40 + n - (intOf ii).toNat)
  case atStart => exact ⟨0, newD, by omega, rfl, LearnD.first c hc, HS1.out⟩
  case round =>
    clear HS1
    obtain ⟨i, s0, hi, rfl, hl, hs⟩ := hrel
    have HS := Lib.hid hs
    have HLD := Lib.hid hl
    clear hl hs
    by_cases hlt : i < 40 + n
    · have hii : (i : Int) < 40 + (n : Int) := by omega
      go_wp2
      go_loopw [7] (fun kk wr2 => ∃ (k : Nat) (s : ModD), k ≤ 8 ∧ kk = .int .i64 (k : Int) ∧ LearnB c i k s ∧ ModS w wr2 a s) (fun kk _ => 8 - (intOf kk).toNat)
      case atStart => exact ⟨0, s0, by omega, rfl, by unfold LearnB; rw [if_pos (by decide)]; exact HLD.out, HS.out⟩
      case round =>
        clear HS HLD
        obtain ⟨k, s, hk, rfl, hl, hs⟩ := hrel
        have HS := Lib.hid hs
        by_cases hk8 : k < 8
        · have hki : (k : Int) < 8 := by omega
          have CB := Lib.hid (fun w => refBit_any c k w hc hk8)
          have CP := Lib.hid (modP_any hs.f)
          have CS := Lib.hid (fun (W : World) (hb : Below wr.heap.size wr W) => modSeen_any ((bitD c k : Nat) : Int) (hs.f.grow hb))
          have HL := Lib.hid (hl.next hc hk8)
          have hsure : 30 ≤ i → (((bitD c k : Nat) : Int) = 1 → 40000 ≤ s.chance) ∧ (((bitD c k : Nat) : Int) = 0 → s.chance ≤ 25536) := fun h30 =>
            have h := (hl.at_ hk8).sure h30 hk8
            ⟨fun e => h.1 (by omega), fun e => h.2 (by omega)⟩
          have hb2 := bitD_lt c k
          have hb01 : ((bitD c k : Nat) : Int) = 0 ∨ ((bitD c k : Nat) : Int) = 1 := by omega
          obtain ⟨b, hb⟩ : ∃ b : Int, b = ((bitD c k : Nat) : Int) := ⟨_, rfl⟩
          rw [← hb] at CB CS HL hsure hb01
          obtain ⟨p, hp⟩ : ∃ p, p = s.chance := ⟨_, rfl⟩
          rw [← hp] at CP hsure
          clear hl hs hb hb2 hp
          by_cases h30 : 30 ≤ i
          · have h30i : 30 ≤ (i : Int) := by omega
            obtain ⟨hs1, hs0⟩ := hsure h30
            rcases hb01 with rfl | rfl
            · have t0 : ¬ (25536 < p) := by have := hs0 rfl; omega
              clear hs1 hs0 hsure
              go_wp2_with fail
              refine (CB.out _).mono ?_
              rintro e w' ⟨rfl, hw⟩
              obtain rfl : _ = w' := hw.symm
              go_wp2_with fail
              refine CP.out.mono ?_
              rintro e w4 ⟨rfl, hb4⟩
              have CS4 := Lib.hid (CS.out w4 hb4)
              have HB4 := Lib.hid (HS.out.grow hb4)
              clear hb4
              go_wp2_with fail
              refine CS4.out.mono ?_
              rintro e w5 ⟨⟨u, rfl⟩, hm, hu⟩
              have HS5 := Lib.hid (HB4.out.next hm hu)
              clear hm hu
              go_wp2
              go_roundw
              case rel => exact ⟨k + 1, _, by omega, by go_num, HL.out, HS5.out⟩
              case measure => simp [intOf]; omega
            · have t0 : ¬ (p < 40000) := by have := hs1 rfl; omega
              clear hs1 hs0 hsure
              go_wp2_with fail
              refine (CB.out _).mono ?_
              rintro e w' ⟨rfl, hw⟩
              obtain rfl : _ = w' := hw.symm
              go_wp2_with fail
              refine CP.out.mono ?_
              rintro e w4 ⟨rfl, hb4⟩
              have CS4 := Lib.hid (CS.out w4 hb4)
              have HB4 := Lib.hid (HS.out.grow hb4)
              clear hb4
              go_wp2_with fail
              refine CS4.out.mono ?_
              rintro e w5 ⟨⟨u, rfl⟩, hm, hu⟩
              have HS5 := Lib.hid (HB4.out.next hm hu)
              clear hm hu
              go_wp2
              go_roundw
              case rel => exact ⟨k + 1, _, by omega, by go_num, HL.out, HS5.out⟩
              case measure => simp [intOf]; omega
          · have h30i : ¬ (30 ≤ (i : Int)) := by omega
            clear hsure
            go_wp2_with fail
            refine (CB.out _).mono ?_
            rintro e w' ⟨rfl, hw⟩
            obtain rfl : _ = w' := hw.symm
            go_wp2_with fail
            refine CP.out.mono ?_
            rintro e w4 ⟨rfl, hb4⟩
            have CS4 := Lib.hid (CS.out w4 hb4)
            have HB4 := Lib.hid (HS.out.grow hb4)
            clear hb4
            go_wp2_with fail
            refine CS4.out.mono ?_
            rintro e w5 ⟨⟨u, rfl⟩, hm, hu⟩
            have HS5 := Lib.hid (HB4.out.next hm hu)
            clear hm hu
            go_wp2
            go_roundw
            case rel => exact ⟨k + 1, _, by omega, by go_num, HL.out, HS5.out⟩
            case measure => simp [intOf]; omega
        · obtain rfl : k = 8 := by omega
          have HL := Lib.hid hl.end_
          clear hl hs
          go_wp2
          go_roundw
          case rel => exact ⟨i + 1, s, by omega, by go_num, HL.out, HS.out⟩
          case measure => simp [intOf]; omega
    · obtain rfl : i = 40 + n := by omega
      have hii : ¬ (((40 + n : Nat) : Int) < 40 + (n : Int)) := by omega
      go_wp2_with fail
      refine (CK.out _).mono ?_
      rintro e w7 hy
      obtain ⟨rfl, hb7⟩ : Yes w e w7 := ⟨hy.1, HS.out.below.trans (hy.2.mono HS.out.below.size)⟩
      go_wp2
      go_ret
      exact ⟨rfl, hb7⟩
end Go.Proofs.Ytnghcfogigglmaa
