/- Layer 27: the law ModesNames. -/
import Derived.Test.YtflcmmeoppdhdaaGreatMdsKn
namespace Go.Proofs.YtflcmmeoppdhdaaGreat
open Go.RowKit Go.Sort Go.Shelf

/-- What is wanted behind i names. -/
def wantS (m : Int) (i : Nat) : ByteArray := if 0 ≤ m ∧ m < i then nmA m.toNat else ⟨#[]⟩
theorem wantS_hit (i : Nat) : wantS (i : Int) (i + 1) = nmA i := by
  unfold wantS
  rw [if_pos (by omega), Int.toNat_natCast]
theorem wantS_miss {m : Int} {i : Nat} (h : (i : Int) ≠ m) : wantS m (i + 1) = wantS m i := by
  unfold wantS
  by_cases h1 : 0 ≤ m ∧ m < (i : Int)
  · rw [if_pos h1, if_pos (by omega)]
  · rw [if_neg h1, if_neg (by omega)]
theorem wantS_last (m : Int) : wantS m 7 = nameOf m := rfl
def atI (p i : Nat) : Nat := if p < i then p else 0
theorem atI_hit (i : Nat) : atI i (i + 1) = i := by unfold atI; rw [if_pos (by omega)]
theorem atI_miss {p i : Nat} (h : i ≠ p) : atI p (i + 1) = atI p i := by
  unfold atI
  by_cases h1 : p < i
  · rw [if_pos h1, if_pos (by omega)]
  · rw [if_neg h1, if_neg (by omega)]
/-- What holds at the head of a round. -/
def NmRel (m : Int) (p : Nat) (w2 : World) (want at_ is_ iv : Value) (wr : World) : Prop :=
  ∃ i : Nat, i ≤ 7 ∧ iv = .int .i64 (i : Int) ∧ want = .string (wantS m i) ∧ at_ = .int .i64 (atI p i : Int) ∧ is_ = .bool (decide (p < i)) ∧ wr = w2
set_option maxRecDepth 100000 in
set_option maxHeartbeats 4000000 in
theorem modesNames_law (m : Int) (s : ByteArray) (w : World) : Calls Tryz.prog 4 #[.int .i64 m, .string s] w (Yes w) := by
  have CK := Lib.hid mdsKnown_any
  by_cases h100 : 100 < (s.size : Int)
  · go_enter Tryz.func4, Tryz.ntmps4
    go_wp2_with fail
    refine (CK.out _).mono ?_
    rintro e w' ⟨rfl, hb⟩
    go_wp2
    go_ret
    exact ⟨rfl, hb⟩
  · obtain ⟨p, hp⟩ := nameAt_some s
    have CN := Lib.hid refNames_any
    unfold namesV at CN
    have CF := Lib.hid (mdsFind_any hp)
    have CM := Lib.hid (mdsName_any m)
    have HP := Lib.hid hp
    clear hp
    go_enter Tryz.func4, Tryz.ntmps4
    go_wp2_with fail
    refine (CN.out _).mono ?_
    rintro e w1 ⟨rfl, hb⟩
    obtain ⟨hr2, hb2⟩ := names_row w1
    obtain ⟨w2, hw2⟩ : ∃ w2, w2 = w1.alloc (.cells #[.string (nmA 0), .string (nmA 1), .string (nmA 2), .string (nmA 3), .string (nmA 4), .string (nmA 5), .string (nmA 6)] 28) := ⟨_, rfl⟩
    rw [← hw2] at hr2 hb2
    obtain ⟨g, hg⟩ : ∃ g, g = w1.heap.size := ⟨_, rfl⟩
    rw [← hg] at hr2
    have HR := Lib.hid hr2
    have HB2 := Lib.hid (hb.trans (hb2.mono hb.size))
    have HW := Lib.hid (And.intro hw2 hg)
    clear hr2 hb2 hb hw2 hg
    go_wp2
    rw [← HW.out.1, ← HW.out.2]
    go_loopw [6, 7, 8, 9] (fun a b c d wr => NmRel m p w2 a b c d wr) (fun _ _ _ d _ => 7 - (intOf d).toNat)
    case atStart => exact ⟨0, by decide, rfl, by unfold wantS; rw [if_neg (by omega)], rfl, by simp, rfl⟩
    case round =>
      obtain ⟨i, hi, rfl, rfl, rfl, rfl, rfl⟩ := hrel
      by_cases hlt : i < 7
      · have hcell := HR.out.cell i
        rw [names_at hlt] at hcell
        have he := HP.out.2 i hlt
        obtain ⟨x, hx⟩ : ∃ x, x = nmA i := ⟨_, rfl⟩
        rw [← hx] at hcell he
        obtain ⟨W, hW⟩ : ∃ W, W = wantS m i := ⟨_, rfl⟩
        obtain ⟨a, ha⟩ : ∃ a : Nat, a = atI p i := ⟨_, rfl⟩
        obtain ⟨d, hd⟩ : ∃ d : Bool, d = decide (p < i) := ⟨_, rfl⟩
        rw [← hW, ← ha, ← hd]
        have hki : (i : Int) < 7 := by omega
        by_cases hm : (i : Int) = m
        · by_cases hp : i = p
          · have hmi : ((i : Int) == m) = true := by simp [hm]
            have hstr : (x.toList == s.toList) = true := by rw [he]; simp [hp]
            have HM := Lib.hid (show x = wantS m (i + 1) by rw [hx, ← hm]; exact (wantS_hit i).symm)
            have HQ := Lib.hid (show i = atI p (i + 1) by rw [← hp]; exact (atI_hit i).symm)
            have HD := Lib.hid (show true = decide (p < i + 1) by rw [← hp]; simp)
            clear hx hW ha hd he hm hp
            go_wp2
            go_roundw
            case rel => exact ⟨i + 1, by omega, by go_num, by rw [HM.out], by rw [← HQ.out], by rw [← HD.out], rfl⟩
            case measure => simp [intOf]; omega
          · have hmi : ((i : Int) == m) = true := by simp [hm]
            have hstr : (x.toList == s.toList) = false := by rw [he]; simp [hp]
            have HM := Lib.hid (show x = wantS m (i + 1) by rw [hx, ← hm]; exact (wantS_hit i).symm)
            have HQ := Lib.hid (show a = atI p (i + 1) by rw [ha]; exact (atI_miss hp).symm)
            have HD := Lib.hid (show d = decide (p < i + 1) by rw [hd]; exact decide_eq_decide.2 (by omega))
            clear hx hW ha hd he hm hp
            go_wp2
            go_roundw
            case rel => exact ⟨i + 1, by omega, by go_num, by rw [HM.out], by rw [← HQ.out], by rw [← HD.out], rfl⟩
            case measure => simp [intOf]; omega
        · by_cases hp : i = p
          · have hmi : ((i : Int) == m) = false := by simp [hm]
            have hstr : (x.toList == s.toList) = true := by rw [he]; simp [hp]
            have HM := Lib.hid (show W = wantS m (i + 1) by rw [hW]; exact (wantS_miss hm).symm)
            have HQ := Lib.hid (show i = atI p (i + 1) by rw [← hp]; exact (atI_hit i).symm)
            have HD := Lib.hid (show true = decide (p < i + 1) by rw [← hp]; simp)
            clear hx hW ha hd he hm hp
            go_wp2
            go_roundw
            case rel => exact ⟨i + 1, by omega, by go_num, by rw [HM.out], by rw [← HQ.out], by rw [← HD.out], rfl⟩
            case measure => simp [intOf]; omega
          · have hmi : ((i : Int) == m) = false := by simp [hm]
            have hstr : (x.toList == s.toList) = false := by rw [he]; simp [hp]
            have HM := Lib.hid (show W = wantS m (i + 1) by rw [hW]; exact (wantS_miss hm).symm)
            have HQ := Lib.hid (show a = atI p (i + 1) by rw [ha]; exact (atI_miss hp).symm)
            have HD := Lib.hid (show d = decide (p < i + 1) by rw [hd]; exact decide_eq_decide.2 (by omega))
            clear hx hW ha hd he hm hp
            go_wp2
            go_roundw
            case rel => exact ⟨i + 1, by omega, by go_num, by rw [HM.out], by rw [← HQ.out], by rw [← HD.out], rfl⟩
            case measure => simp [intOf]; omega
      · obtain rfl : i = 7 := by omega
        obtain ⟨W, hW⟩ : ∃ W, W = wantS m 7 := ⟨_, rfl⟩
        obtain ⟨a, ha⟩ : ∃ a : Nat, a = atI p 7 := ⟨_, rfl⟩
        obtain ⟨d, hd⟩ : ∃ d : Bool, d = decide (p < 7) := ⟨_, rfl⟩
        rw [← hW, ← ha, ← hd]
        rw [wantS_last] at hW
        have CM2 := CM
        rw [← hW] at CM2
        have CF2 := CF
        rw [← hd, show (if p < 7 then p else 0 : Nat) = atI p 7 from rfl, ← ha] at CF2
        clear hW ha hd CM CF
        go_wp2_with fail
        refine (CF2.out _).mono ?_
        rintro e w3 ⟨rfl, hb3⟩
        have HB3 := Lib.hid (HB2.out.trans (hb3.mono HB2.out.size))
        clear hb3
        go_wp2_with fail
        refine (CM2.out _).mono ?_
        rintro e w4 ⟨rfl, hb4⟩
        have HB4 := Lib.hid (HB3.out.trans (hb4.mono HB3.out.size))
        clear hb4
        go_wp2_with fail
        refine (CK.out _).mono ?_
        rintro e w5 ⟨rfl, hb5⟩
        have HB5 := Lib.hid (HB4.out.trans (hb5.mono HB4.out.size))
        clear hb5
        go_wp2
        go_ret
        exact ⟨rfl, HB5.out⟩
end Go.Proofs.YtflcmmeoppdhdaaGreat
