/- Layer 19: the program's Decode; what both answer to wrong arguments. -/
import Derived.Test.YtfdgnhfppginiaaRicePln
import Derived.Test.YtfdgnhfppginiaaWordTake
namespace Go.Proofs.Ytfdgnhfppginiaa
open Go.RowKit Go.Sort

/-- What a call with a wrong argument answers. -/
def ArgSays (w : World) (e : Ending) (w' : World) : Prop := e = .returned (.tuple #[.slice none 0 0, .int .i64 2]) ∧ w' = w
/-- Arguments as they may be. -/
def mayR (W n : Int) : Prop := rightB W = true ∧ 0 ≤ n ∧ n ≤ 67108864
set_option maxHeartbeats 1000000 in
set_option maxRecDepth 100000 in
theorem riceDec_arg (W n : Int) (h : ¬ mayR W n) (v : Value) (w : World) : Calls Try.prog 17 #[v, .int .i64 W, .int .i64 n] w (ArgSays w) := by
  have C1 := Lib.hid (wordRight_any W (rightB W) rfl)
  by_cases hW : rightB W = true
  · rw [hW] at C1
    by_cases h0 : n < 0
    · go_enter Try.func17, Try.ntmps17
      go_wp2_with fail
      refine (C1.out _).mono ?_
      rintro _ w0 ⟨rfl, hw0⟩
      subst w0
      go_wp2
      go_ret2
      exact ⟨rfl, rfl⟩
    · have h1 : 67108864 < n := by
        rcases Int.lt_or_le 67108864 n with h2 | h2
        · exact h2
        · exact absurd ⟨hW, by omega, h2⟩ h
      clear h
      go_enter Try.func17, Try.ntmps17
      go_wp2_with fail
      refine (C1.out _).mono ?_
      rintro _ w0 ⟨rfl, hw0⟩
      subst w0
      go_wp2
      go_ret2
      exact ⟨rfl, rfl⟩
  · rw [show rightB W = false by simpa using hW] at C1
    clear h hW
    go_enter Try.func17, Try.ntmps17
    go_wp2_with fail
    refine (C1.out _).mono ?_
    rintro _ w0 ⟨rfl, hw0⟩
    subst w0
    go_wp2
    go_ret2
    exact ⟨rfl, rfl⟩
set_option maxHeartbeats 1000000 in
set_option maxRecDepth 100000 in
theorem riceRDec_arg (W n : Int) (h : ¬ mayR W n) (v : Value) (w : World) : Calls Try.prog 18 #[v, .int .i64 W, .int .i64 n] w (ArgSays w) := by
  have C1 := Lib.hid (refRight_any W (rightB W) rfl)
  by_cases hW : rightB W = true
  · rw [hW] at C1
    by_cases h0 : n < 0
    · go_enter Try.func18, Try.ntmps18
      go_wp2_with fail
      refine (C1.out _).mono ?_
      rintro _ w0 ⟨rfl, hw0⟩
      subst w0
      go_wp2
      go_ret2
      exact ⟨rfl, rfl⟩
    · have h1 : 67108864 < n := by
        rcases Int.lt_or_le 67108864 n with h2 | h2
        · exact h2
        · exact absurd ⟨hW, by omega, h2⟩ h
      clear h
      go_enter Try.func18, Try.ntmps18
      go_wp2_with fail
      refine (C1.out _).mono ?_
      rintro _ w0 ⟨rfl, hw0⟩
      subst w0
      go_wp2
      go_ret2
      exact ⟨rfl, rfl⟩
  · rw [show rightB W = false by simpa using hW] at C1
    clear h hW
    go_enter Try.func18, Try.ntmps18
    go_wp2_with fail
    refine (C1.out _).mono ?_
    rintro _ w0 ⟨rfl, hw0⟩
    subst w0
    go_wp2
    go_ret2
    exact ⟨rfl, rfl⟩
/-- More words, or bytes, than there are bits: nothing is told. -/
theorem riceOut_few {W n : Nat} {L : List Bool} {o : Option (List Nat × (List Bool × Nat))} (ho : RiceR (8 * W) (n / W) 16 1 (L, 0) o) (h : L.length < n / W + n % W * 8) : riceOut W n o = ([], 16) := by
  cases o with
  | none => rfl
  | some p =>
    obtain ⟨X, s⟩ := p
    obtain ⟨h1, h2, -, -⟩ := ho.len X s rfl
    unfold riceOut
    simp only
    rw [if_neg]
    intro h3
    have h4 : (restF (n % W) s).2.2 = 0 := by
      unfold doneE at h3
      by_cases h5 : (restF (n % W) s).2.2 = 0
      · exact h5
      · rw [if_pos h5] at h3; exact h3
    obtain ⟨-, h6⟩ := restF_few _ _ h4
    simp only at h2
    omega
theorem doneE_stuck {s : List Bool × Nat} (h : s.2 ≠ 0) : doneE s ≠ 0 := by unfold doneE; rw [if_pos h]; exact h
set_option maxHeartbeats 4000000 in
set_option maxRecDepth 100000 in
theorem riceDec_any {W n : Nat} (hW : IsW W) (hn : n ≤ 67108864) (l : List UInt8) (v : Value) (w : World) (hv : IsBytes l v w) (hl : l.length ≤ 10000) {o : Option (List Nat × (List Bool × Nat))} (ho : RiceR (8 * W) (n / W) 16 1 (allBits l, 0) o) :
    Calls Try.prog 17 #[v, .int .i64 (W : Int), .int .i64 (n : Int)] w (RDSays w (riceOut W n o)) := by
  obtain ⟨A, c, rfl, hc, hr⟩ := hv
  have hp := hW.pos
  have C1 := Lib.hid (wordRight_any (W : Int) true hW.right)
  have C2 := Lib.hid (read_all A l.length c l w hr rfl (by omega))
  have hLl : (allBits l).length ≤ 80000 := by rw [allBits_length]; omega
  have hfew : (allBits l).length < n / W + n % W * 8 → riceOut W n o = ([], 16) := riceOut_few ho
  have hout : ∀ X s, o = some (X, s) → riceOut W n o = if doneE (restF (n % W) s).2 = 0 then (layW W X ++ (restF (n % W) s).1, 0) else ([], 16) := fun X s e => by rw [e]; rfl
  have hnone : o = none → riceOut W n o = ([], 16) := fun e => by rw [e]; rfl
  obtain ⟨L, hLe⟩ : ∃ L, L = allBits l := ⟨_, rfl⟩
  rw [← hLe] at C2 ho hLl hfew
  obtain ⟨Q, hQ⟩ : ∃ Q, Q = riceOut W n o := ⟨_, rfl⟩
  rw [← hQ] at hfew hnone ⊢
  simp only [← hQ] at hout
  obtain ⟨M, hM⟩ : ∃ M, M = n / W := ⟨_, rfl⟩
  obtain ⟨m, hm⟩ : ∃ m, m = n % W := ⟨_, rfl⟩
  rw [← hM] at ho
  rw [← hM, ← hm] at hfew
  simp only [← hm] at hout
  have hMi : (n : Int) / (W : Int) = (M : Int) := by rw [hM]; exact (Int.natCast_ediv _ _).symm
  have hMt : (n : Int).tdiv (W : Int) = (M : Int) := by rw [Int.tdiv_eq_ediv_of_nonneg (by omega)]; exact hMi
  have hmi : (n : Int) % (W : Int) = (m : Int) := by rw [hm]; exact (Int.natCast_emod _ _).symm
  have hmt : (n : Int).tmod (W : Int) = (m : Int) := by rw [Int.tmod_eq_emod_of_nonneg (by omega)]; exact hmi
  have hMn : M ≤ 67108864 := by rw [hM]; exact Nat.le_trans (Nat.div_le_self _ _) hn
  have hmW : m < W := by rw [hm]; exact Nat.mod_lt _ (by omega)
  have HO := Lib.hid ho
  have HFEW := Lib.hid hfew
  have HOUT := Lib.hid hout
  have HNONE := Lib.hid hnone
  have HWW := Lib.hid hW
  have HL := Lib.hid hLl
  have HMM := Lib.hid (And.intro hMn hmW)
  have hni : (n : Int) ≤ 67108864 := by omega
  have hn0 : (0 : Int) ≤ (n : Int) := by omega
  have hW8 : (W : Int) ≤ 8 := by omega
  have hW1 : (1 : Int) ≤ (W : Int) := by omega
  have hW0n : ¬ W = 0 := by omega
  have hW0 : ¬ (W : Int) = 0 := by omega
  have hM8 : (M : Int) ≤ 67108864 := by omega
  have hm8 : (m : Int) < 8 := by omega
  have hMw : IntKind.i64.wrap (M : Int) = (M : Int) := by rw [IntKind.wrap_i64]; omega
  obtain ⟨T, hT⟩ : ∃ T, T = m * 8 := ⟨_, rfl⟩
  have hT1 : IntKind.i64.wrap ((m : Int) * 8) = (T : Int) := by rw [IntKind.wrap_i64]; omega
  obtain ⟨U, hU⟩ : ∃ U, U = M + T := ⟨_, rfl⟩
  have hT2 : IntKind.i64.wrap ((M : Int) + (T : Int)) = (U : Int) := by rw [IntKind.wrap_i64]; omega
  have HU := Lib.hid (show U = M + m * 8 by omega)
  clear hr hLe hW hfew hout hnone hM hm hT hU hLl ho hQ hn hl hc hp hMn hmW
  go_enter Try.func17, Try.ntmps17
  go_wp2_with fail
  refine (C1.out _).mono ?_
  rintro _ w0 ⟨rfl, hw0⟩
  subst w0
  go_wp2_with fail
  refine C2.out.mono ?_
  rintro _ w1 ⟨g, rfl, hg, hrd, hb1⟩
  have hgl : g < w1.heap.size := by obtain ⟨_, _, _, _, hk, -⟩ := hrd; exact hk.lt
  have HRD := Lib.hid hrd
  have HB1 := Lib.hid hb1
  have HG := Lib.hid (And.intro hg hgl)
  have CL := Lib.hid (fun W' h => rLeft_is (w := W') (g := g) (L := L) h)
  clear hrd hb1 hg hgl C1 C2
  go_wp2
  refine wp_region_grow [⟨25, [], .is (.int .i64 (n : Int))⟩, ⟨26, [], .is (.int .i64 (W : Int))⟩, ⟨27, [0, 1], .is (.int .i64 (M : Int))⟩, ⟨28, [], .is (.int .i64 (n : Int))⟩, ⟨29, [], .is (.int .i64 (W : Int))⟩, ⟨30, [3, 4], .is (.int .i64 (m : Int))⟩,
      ⟨31, [5], .is (.int .i64 (T : Int))⟩, ⟨32, [2, 6], .is (.int .i64 (U : Int))⟩, ⟨33, [], .is (.pointer (some ⟨g, 0, none⟩))⟩, ⟨34, [8], .is (.int .i64 (L.length : Int))⟩, ⟨35, [7, 9], .is (.bool (decide ((L.length : Int) < (U : Int))))⟩]
    [(2, .int .i64 (n : Int)), (1, .int .i64 (W : Int)), (8, .pointer (some ⟨g, 0, none⟩))] (by kernel_rfl) (by kernel_rfl) (by kernel_rfl) (by kernel_rfl) (by kernel_rfl) ⟨rfl, rfl, rfl, trivial⟩ ?_ ?_
  · repeat' (first | exact OblGAll.nil | refine OblGAll.cons ?_ ?_)
    all_goals (intro ev yi w' hB hc hf ho hn; simp only [OutsSay, NeedSay, rowAt, Fact.says, and_true] at ho hn)
    all_goals (try ((simp [OpSays, execOp, Region.wanted, Fact.says, go_sem, ho, hn, hc, Below.refl, hT1, hT2]; done)))
    · rw [if_pos (by simp [Region.wanted])]
      simp [OpSays, execOp, go_sem, Fact.says, hn, hW0n, Below.refl]
      rw [hMi]; exact hMw
    · rw [if_pos (by simp [Region.wanted])]
      simp [OpSays, execOp, go_sem, Fact.says, hn, hW0n, Below.refl]
      exact hmt
    · rw [if_pos (by simp [Region.wanted])]
      exact says_call Try.call45 (vs := #[.pointer (some ⟨g, 0, none⟩)]) rfl hf (by simp [hn]) ((CL.out w' (HRD.out.only (OnlyT.of_below (B := w1.heap.size) (ts := []) hB) (by simp) (by simp))).mono fun e w2 ⟨he, hw⟩ => ⟨_, he, rfl, by rw [← hw]; exact (Below.refl _ _).drew⟩)
  · intro X w4 hb4 hx
    have hlast : X 10 = .bool (decide ((L.length : Int) < (U : Int))) := hx 10 (by decide)
    clear hx
    have HRD4 := Lib.hid (show RdrIs w4 g L 0 from HRD.out.only (OnlyT.of_below (B := w1.heap.size) (ts := []) hb4) (by simp) (by simp))
    have HB4 := Lib.hid (HB1.out.trans (hb4.mono HB1.out.size))
    have HG4 := Lib.hid (show w.heap.size ≤ g ∧ g < w4.heap.size from ⟨HG.out.1, Nat.lt_of_lt_of_le HG.out.2 hb4.size⟩)
    simp only [layAll, List.setIfInBounds_toArray, List.set_cons_succ, List.set_cons_zero, hlast]
    clear hlast hb4 HRD HB1 HG CL hT1 hT2
    by_cases hfw : L.length < U
    · have hQ := HFEW.out (by rw [← HU.out]; exact hfw)
      subst hQ
      have hdec : decide ((L.length : Int) < (U : Int)) = true := by simp; omega
      simp only [hdec]
      clear hdec HOUT HNONE HFEW
      go_wp2
      go_ret2
      exact ⟨_, rfl, isBytes_nil _, HB4.out⟩
    · have hdec : decide ((L.length : Int) < (U : Int)) = false := by simp; omega
      simp only [hdec]
      have hM100 : M ≤ 100000 := by have := HU.out; have := HL.out; omega
      have CW := Lib.hid (riceWords_any (s0 := (L, 0)) HWW.out w4 hM100 HRD4.out rfl HO.out)
      clear hdec hfw HFEW HRD4
      go_wp2_with fail
      refine CW.out.mono ?_
      rintro _ w5 ⟨ho5, (⟨rfl, hon⟩ | ⟨a, X, s, rfl, ha, hba, hXl, hXs, hrd5, hok⟩)⟩
      · have hQ := HNONE.out hon
        subst hQ
        have HB5 := Lib.hid (HB4.out.trans (ho5.lower HG4.out.1 HB4.out.size))
        clear ho5 CW HOUT HNONE
        go_wp2
        go_ret2
        exact ⟨_, rfl, isBytes_nil _, HB5.out⟩
      · have HB5 := Lib.hid (HB4.out.trans (ho5.lower HG4.out.1 HB4.out.size))
        have hg5 : g < w5.heap.size := Nat.lt_of_lt_of_le HG4.out.2 ho5.size
        have CP := Lib.hid (ricePlain_any (n := m) w5 (by have := HMM.out; omega) hrd5 hg5)
        have HBA := Lib.hid hba
        have HX := Lib.hid (And.intro hXl hXs)
        obtain ⟨rs, hrs⟩ : ∃ rs, rs = (restF m s).1 := ⟨_, rfl⟩
        obtain ⟨SE, hSE⟩ : ∃ SE, SE = (restF m s).2 := ⟨_, rfl⟩
        have hrl : rs.length = m := by rw [hrs]; exact restF_len m s
        have hone : doneE SE = 0 → Q = (layW W X ++ rs, 0) := fun h => by
          rcases hok with ⟨h1, h2⟩ | ⟨h1, h2⟩
          · rw [HOUT.out X s h2, ← hSE, if_pos h, hrs]
          · rw [hSE, restF_stuck m s h1] at h
            exact absurd h (doneE_stuck h1)
        have htwo : doneE SE ≠ 0 → Q = ([], 16) := fun h => by
          rcases hok with ⟨h1, h2⟩ | ⟨h1, h2⟩
          · rw [HOUT.out X s h2, ← hSE, if_neg h]
          · exact HNONE.out h2
        have HONE := Lib.hid hone
        have HTWO := Lib.hid htwo
        rw [← hrs, ← hSE] at CP
        clear ho5 CW hba hXl hXs hrd5 hok hone htwo hrs hSE HOUT HNONE
        go_wp2_with fail
        refine CP.out.mono ?_
        rintro _ w6 ⟨a2, rfl, ha2, hba2, hrd6, ho6⟩
        have hlen6 : SE.1.length ≤ 9000000000000000 := by
          obtain ⟨bs, at_, A', c', -, -, -, h4, -, h6⟩ := hrd6
          rw [h6, List.length_drop, allBits_length]
          omega
        have CD := Lib.hid (rDone_st g SE w6 hrd6 hlen6)
        have HBA6 := Lib.hid (HBA.out.only ho6 (by decide))
        have HBR6 := Lib.hid hba2
        have HB6 := Lib.hid (HB5.out.trans (ho6.lower HG4.out.1 HB5.out.size))
        obtain ⟨E, hE⟩ : ∃ E, E = doneE SE := ⟨_, rfl⟩
        rw [← hE] at CD HONE HTWO
        clear hrd6 ho6 hba2 hlen6 CP HBA HB5 hE
        by_cases hE0 : E = 0
        · have hQ := HONE.out hE0
          subst hQ
          subst hE0
          go_wp2_with fail
          refine CD.out.mono ?_
          rintro _ w7 ⟨rfl, ho7⟩
          have hba7 := HBA6.out.only ho7 (by decide)
          have hbr7 := HBR6.out.only ho7 (by decide)
          have HB7 := Lib.hid (HB6.out.trans (ho7.lower HG4.out.1 HB6.out.size))
          have CY := Lib.hid (wordLay_any W HWW.out (some ⟨a, 0, none⟩) M M X (some ⟨a2, 0, none⟩) m m rs w7 (Rd.of_blk hba7) HX.out.1 (fun x hx => Nat.lt_of_lt_of_le (HX.out.2 x hx) (Nat.pow_le_pow_right (n := 2) (by decide) (D_le HWW.out).2)) (Rd.of_blk hbr7) hrl hM100 (by have := HMM.out; omega))
          clear ho7 hba7 hbr7 CD HBA6 HBR6 HB6 HONE HTWO
          go_wp2_with fail
          refine CY.out.mono ?_
          rintro _ w8 ⟨v8, rfl, h8, hb8⟩
          have HE := Lib.hid (And.intro h8 (HB7.out.trans (hb8.mono HB7.out.size)))
          clear h8 hb8 CY
          go_wp2
          go_ret2
          exact ⟨_, rfl, HE.out.1, HE.out.2⟩
        · have hQ := HTWO.out hE0
          subst hQ
          have hei : ((E : Int) == 0) = false := by simp; omega
          have hei2 : ¬ (E : Int) = 0 := by omega
          clear hE0 HONE HTWO
          go_wp2_with fail
          refine CD.out.mono ?_
          rintro _ w7 ⟨rfl, ho7⟩
          have HB7 := Lib.hid (HB6.out.trans (ho7.lower HG4.out.1 HB6.out.size))
          clear ho7 CD HBA6 HBR6 HB6
          go_wp2
          go_ret2
          exact ⟨_, rfl, isBytes_nil _, HB7.out⟩
end Go.Proofs.Ytfdgnhfppginiaa
