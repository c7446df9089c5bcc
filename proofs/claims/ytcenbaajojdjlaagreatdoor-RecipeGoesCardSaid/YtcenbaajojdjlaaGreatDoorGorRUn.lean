/- Contract of the reference's Unpack (layer 9), of any bytes. -/
import Derived.Test.YtcenbaajojdjlaaGreatDoorGorAcc
import Derived.Test.YtcenbaajojdjlaaGreatDoorGorUnp
import Derived.Test.YtcenbaajojdjlaaGreatDoorRefRd2
import Derived.Test.YtcenbaajojdjlaaGreatDoorGorRef
import Derived.Test.YtcenbaajojdjlaaGreatDoorFlipRef
namespace Go.Proofs.YtcenbaajojdjlaaGreatDoor
open Go.RowKit

theorem rfGet_st (g n : Nat) (s : List Bool × Nat) (w : World) (h : RfrIs w g s.1 s.2) (hn : n ≤ 64) :
    Calls Tryz.prog 80 #[.pointer (some ⟨g, 0, none⟩), .int .i64 (n : Int)] w fun e' w' => e' = .returned (.int .u64 (getV s n : Nat)) ∧ RfrIs w' g (getS s n).1 (getS s n).2 ∧ OnlyT g [83] w w' := by
  obtain ⟨L, e⟩ := s
  unfold getV getS
  simp only at h ⊢
  by_cases he : e = 0
  · subst he
    by_cases hl : n ≤ L.length
    · rw [if_pos ⟨rfl, hl⟩, if_pos rfl, if_pos hl]
      exact rfGet_ok n h hn hl
    · rw [if_neg (fun q => hl q.2), if_pos rfl, if_neg hl]
      exact rfGet_trunc n h hn (Nat.lt_of_not_le hl)
  · rw [if_neg (fun q => he q.1), if_neg he]
    refine (rfGet_err (n : Int) e h he).mono ?_
    rintro e' w' ⟨rfl, rfl⟩
    exact ⟨rfl, h, OnlyT.refl _ _ _⟩
theorem rfDone_st (g : Nat) (s : List Bool × Nat) (w : World) (h : RfrIs w g s.1 s.2) :
    Calls Tryz.prog 82 #[.pointer (some ⟨g, 0, none⟩)] w fun e' w' => e' = .returned (.int .i64 (doneE s : Int)) ∧ w = w' := by
  obtain ⟨L, e⟩ := s
  unfold doneE
  simp only at h ⊢
  by_cases he : e ≠ 0
  · rw [if_pos he]
    exact rfDone_err e h he
  · rw [if_neg he]
    obtain rfl : e = 0 := by omega
    by_cases h8 : 8 ≤ L.length
    · rw [if_pos h8]
      exact rfDone_more h h8
    · rw [if_neg h8]
      by_cases ha : L.any id = true
      · rw [if_pos ha]
        obtain ⟨n, R, hL⟩ := any_split L ha
        have hl := congrArg List.length hL
        simp only [List.length_append, List.length_replicate, List.length_cons] at hl
        exact rfDone_pay n R h (by omega) hL
      · rw [if_neg ha]
        exact rfDone_ok L.length h (by omega) (any_none L ha)
/-- Unpack's answer by the other way of taking words. -/
theorem gorR_acc {W n : Nat} (hW : IsW W) (hn : n ≤ 67108864) (l : List UInt8) :
    gorR (W : Int) (n : Int) l = (match accR (allF W n (allBits l)) with | none => (16, []) | some X => (0, backW W X)) := by
  unfold gorR
  rw [if_pos ⟨hW.right.symm, by omega, by omega⟩, Int.toNat_natCast, Int.toNat_natCast, allF_takenR hW.pos.1]
  cases takenR W n (allBits l) with
  | none => rfl
  | some q =>
    obtain ⟨X, s⟩ := q
    simp only [accR]
    split <;> rfl
/-- What has been taken, ahead of what the rest will tell. -/
def headF (W n : Nat) (X : List Nat) (t : Nat × Nat × Nat) (s : List Bool × Nat) : Option (List Nat × (List Bool × Nat)) := aheadR X (loopF W (n - X.length) t s)
theorem headF_err {W n : Nat} {X : List Nat} {t : Nat × Nat × Nat} {s : List Bool × Nat} (hl : X.length < n) (he : s.2 ≠ 0) : headF W n X t s = none := by
  unfold headF aheadR
  obtain ⟨k, hk⟩ : ∃ k, n - X.length = k + 1 := ⟨n - X.length - 1, by omega⟩
  rw [hk, loopF, if_pos he]
  rfl
theorem headF_none {W n : Nat} {X : List Nat} {t : Nat × Nat × Nat} {s : List Bool × Nat} (hl : X.length < n) (h : takeF W t s = none) : headF W n X t s = none := by
  by_cases he : s.2 ≠ 0
  · exact headF_err hl he
  unfold headF aheadR
  obtain ⟨k, hk⟩ : ∃ k, n - X.length = k + 1 := ⟨n - X.length - 1, by omega⟩
  rw [hk, loopF, if_neg he, h]
  rfl
theorem headF_next {W n x : Nat} {X : List Nat} {t t1 : Nat × Nat × Nat} {s s1 : List Bool × Nat} (hl : X.length < n) (he : s.2 = 0) (h : takeF W t s = some (x, t1, s1)) : headF W n X t s = headF W n (X ++ [x]) t1 s1 := by
  unfold headF aheadR
  obtain ⟨k, hk⟩ : ∃ k, n - X.length = k + 1 := ⟨n - X.length - 1, by omega⟩
  rw [hk, loopF, if_neg (by omega), h]
  simp only
  rw [List.length_append, show n - (X.length + [x].length) = k by simp only [List.length_cons, List.length_nil]; omega, Option.map_map]
  congr 1
  funext q
  simp
theorem headF_end {W n : Nat} {X : List Nat} {t : Nat × Nat × Nat} {s : List Bool × Nat} (hl : X.length = n) : headF W n X t s = some (X, s) := by
  unfold headF aheadR
  rw [hl, Nat.sub_self, loopF]
  simp
theorem headF_first {W n : Nat} {L : List Bool} (hn : 0 < n) : allF W n L = headF W n [getV (L, 0) (8 * W)] (0, 0, 0) (getS (L, 0) (8 * W)) := by
  unfold allF headF aheadR
  rw [if_neg (by omega)]
  rfl
/- the walk, by gen_gorrun.py -/
theorem OnlyT.below' {B g : Nat} {ts : List TypeId} {w w' : World} (h : OnlyT g ts w w') (hg : B ≤ g) (hB : B ≤ w.heap.size) : Below B w w' := (h.base hg).below hB
/-- What is known of a round's head: nothing has been taken yet, or what has been is ahead of what the rest will tell. -/
def TotF (W n : Nat) (L : List Bool) (X : List Nat) (t : Nat × Nat × Nat) (s : List Bool × Nat) : Prop := (X = [] ∧ s = (L, 0) ∧ t = (0, 0, 0)) ∨ (X ≠ [] ∧ headF W n X t s = allF W n L)
def RURel (w : World) (W n g : Nat) (L : List Bool) (is hi ma lv i : Value) (wr : World) : Prop :=
  ∃ (X : List Nat) (a m b : Nat) (s : List Bool × Nat) (isb : Bool), X.length ≤ n ∧ i = .int .i64 (X.length : Int) ∧ wr.ownsRow w.heap.size 63 1 lv X.length (wvs X) ∧ RfrIs wr g s.1 s.2 ∧ Below w.heap.size w wr ∧ Hid (∀ x ∈ X, x < 2 ^ (8 * W)) ∧
    is = .bool isb ∧ hi = .int .i64 (a : Int) ∧ ma = .int .i64 (m : Int) ∧ Hid (isb = decide (0 < m)) ∧ Hid (WinT W (a, m, b)) ∧ Hid (TotF W n L X (a, m, b) s)
theorem lt_snoc {M x : Nat} {X : List Nat} (h : ∀ y ∈ X, y < M) (hx : x < M) : ∀ y ∈ X ++ [x], y < M := by
  intro y hy
  rcases List.mem_append.1 hy with h1 | h1
  · exact h y h1
  · rw [List.mem_singleton.1 h1]; exact hx
set_option maxHeartbeats 4000000 in
set_option maxRecDepth 100000 in
theorem rUnpack_st {W n : Nat} (hW : IsW W) (hn : n ≤ 67108864) (l : List UInt8) (v : Value) (w : World) (hv : IsBytes l v w) (hl : l.length ≤ 1000) :
    Calls Tryz.prog 51 #[v, .int .i64 (W : Int), .int .i64 (n : Int)] w (GUnpR w (gorR (W : Int) (n : Int) l)) := by
  rw [gorR_acc hW hn]
  obtain ⟨i0, hi, hz0, hz1, hz2⟩ := info_parts info_u64r
  obtain ⟨A, c, rfl, hc, hr⟩ := hv
  have hp := hW.pos
  have C1 := Lib.hid (refRight_any (W : Int) true hW.right)
  have C2 := Lib.hid (rfAll_any A l.length c l w hr rfl hl)
  have HL := Lib.hid (show (allBits l).length ≤ 8000 by rw [allBits_length]; omega)
  obtain ⟨L, hLe⟩ : ∃ L, L = allBits l := ⟨_, rfl⟩
  rw [← hLe] at C2 HL ⊢
  obtain ⟨o, ho⟩ : ∃ o, o = allF W n L := ⟨_, rfl⟩
  rw [← ho]
  obtain ⟨R, hR⟩ : ∃ R, R = (match accR o with | none => ((16, []) : Nat × List Nat) | some X => (0, backW W X)) := ⟨_, rfl⟩
  rw [← hR]
  have HRR := Lib.hid hR
  have HOO := Lib.hid ho
  have C5 := Lib.hid (fun (A' : Option Addr) (X : List Nat) (c' : Nat) (w' : World) (h : Rd w' w'.heap.size A' (wvs X)) (hb : X.length ≤ 67108864) (hx : ∀ x ∈ X, x < 2 ^ (8 * W)) => (show Calls Tryz.prog 54 #[.slice A' X.length c', .int .i64 (W : Int)] w' (NewW w' (backW W X)) by
    have := refBack_any (W : Int) A' X.length c' X w' h rfl (by omega) (fun x hq => Nat.lt_of_lt_of_le (hx x hq) (Nat.pow_le_pow_right (by decide) (show 8 * W ≤ 64 by omega)))
    rwa [ofW_of hW] at this))
  have hni : (n : Int) ≤ 67108864 := by omega
  have hW8 : (W : Int) ≤ 8 := by omega
  have hW1 : (1 : Int) ≤ (W : Int) := by omega
  have h8W : (8 : Int) * (W : Int) = ((8 * W : Nat) : Int) := by omega
  have H8W := Lib.hid h8W
  clear hr hLe ho hR hW h8W
  go_enter Tryz.func51, Tryz.ntmps51
  go_wp2_with fail
  refine (C1.out _).mono ?_
  rintro e w' ⟨rfl, rfl⟩
  go_wp2_with fail
  refine C2.out.mono ?_
  rintro e w1 ⟨v1, rfl, hown1, ho1⟩
  have hb1 := ho1.below (Nat.le_refl _)
  obtain ⟨A1, c1, rfl, hc1, -, -⟩ := own_form hown1
  have hk1 : Blk (w1.alloc (.cells #[.slice A1 L.length c1, .int .i64 0] 83)) w1.heap.size 83 [.slice A1 L.length c1, .int .i64 0] := heap_alloc_new w1 _
  have hrd1 : RfrIs (w1.alloc (.cells #[.slice A1 L.length c1, .int .i64 0] 83)) w1.heap.size L 0 :=
    ⟨A1, c1, hk1, RdT.of_own (hown1.alloc _), hc1, by have := HL.out; omega⟩
  have HRD0 := Lib.hid hrd1
  have HG := Lib.hid hb1.size
  have HB0 := Lib.hid (hb1.alloc hb1.size (.cells #[.slice A1 L.length c1, .int .i64 0] 83))
  obtain ⟨g, hg⟩ : ∃ g, g = w1.heap.size := ⟨_, rfl⟩
  rw [← hg] at HRD0 HG
  have HGE := Lib.hid hg
  clear hown1 ho1 hb1 hk1 hrd1 hg C1 C2 hc1
  go_wp2
  rw [← HGE.out]
  go_loopw [10, 11, 12, 13, 14] (fun is hi ma lv i wr => RURel w W n g L is hi ma lv i wr) (fun _ _ _ _ i _ => n - (intOf i).toNat)
  case atStart => exact ⟨[], 0, 0, 0, (L, 0), false, Nat.zero_le _, rfl, World.ownsRow_nil _ _ _ _, HRD0.out, HB0.out, Lib.hid (fun x hx => by cases hx), rfl, rfl, rfl, rfl, Lib.hid (.inl rfl), Lib.hid (.inl ⟨rfl, rfl, rfl⟩)⟩
  case round =>
    clear HRD0 HB0 HGE
    obtain ⟨X, a, m, b, s, isb, hk, rfl, hown, hrd, hb, HX, rfl, rfl, rfl, HIS, HWT, HTT⟩ := hrel
    have HOWN_wr := Lib.hid hown
    have HRD_wr := Lib.hid hrd
    have HB_wr := Lib.hid hb
    obtain ⟨A2, c2, hblk, -, -, -⟩ := hrd
    by_cases hlt : X.length < n
    · have x1 := hblk.cell 1
      simp only [List.getElem?_cons_zero, List.getElem?_cons_succ] at x1
      have hki : (X.length : Int) < (n : Int) := by omega
      clear hown hb hblk
      by_cases he : s.2 ≠ 0
      · have hne : (((s.2 : Nat) : Int) != 0) = true := by rw [bne_iff_ne]; omega
        have hon : R = (16, []) := by
          rcases HTT.out with ⟨_, h2, _⟩ | ⟨_, h2⟩
          · rw [h2] at he; exact absurd rfl he
          · rw [HRR.out, HOO.out, ← h2, headF_err hlt he]; rfl
        rw [hon]
        clear hon
        go_wp2
        go_ret2
        exact ⟨_, rfl, HB_wr.out, cells_none _⟩
      · have he0 : s.2 = 0 := by omega
        have hne : (((s.2 : Nat) : Int) != 0) = false := by rw [he0]; rfl
        have HE0 := Lib.hid he0
        clear he he0
        rcases HTT.out with ⟨h1, h2, h3⟩ | ⟨h1, h2⟩
        · subst h1
          subst h2
          injection h3 with e1 e2
          injection e2 with e2 e3
          subst e1 e2 e3
          have hg2 := rfGet_st g (8 * W) (L, 0) wr HRD_wr.out (by omega)
          obtain ⟨x0, hx0⟩ : ∃ x0, x0 = getV (L, 0) (8 * W) := ⟨_, rfl⟩
          obtain ⟨s0, hs0⟩ : ∃ s0, s0 = getS (L, 0) (8 * W) := ⟨_, rfl⟩
          rw [← hx0, ← hs0, ← H8W.out] at hg2
          have HZ := Lib.hid (show x0 < 2 ^ (8 * W) by rw [hx0]; exact getV_lt _ _)
          have HT3 := Lib.hid (show headF W n [x0] (0, 0, 0) s0 = allF W n L by rw [hx0, hs0]; exact (headF_first (by simpa using hlt)).symm)
          have CG := Lib.hid hg2
          clear hg2 hx0 hs0 HTT
          have hl0 : ([] : List Nat).length = 0 := rfl
          go_wp2_with fail
          refine CG.out.mono ?_
          rintro e w2 ⟨rfl, hrd, ho⟩
          have HOWN_w2 := Lib.hid (own_only HOWN_wr.out ho (by decide))
          have HB_w2 := Lib.hid (HB_wr.out.trans (ho.below' HG.out HB_wr.out.size))
          have HRD_w2 := Lib.hid hrd
          clear hrd ho
          clear CG
          go_wp2_with ((with_reducible show wpList _ _ _ (({ dst := some 49, op := _, type := _, pos := _, after := _, guard := _ } : Oper) :: _) _ _); go_must (refine wpList_app rfl (.tmp 44) (.tmp 48) 53 rfl w.heap.size 63 i0 (.int .u64 0) 1 8 Tryz.underlying53 hi hz0 hz1 hz2 rfl (by decide) _ _ _ rfl (HOWN_w2.out.alloc _) _ _ 1 1 _ rfl (Rd.new _ #[.int .u64 (x0 : Int)] _) rfl (one1 (.int .u64 (x0 : Int)) rfl) (by simp only [maxLen]; omega) (by omega) (by have := HB_w2.out.size; simp; omega) ?_; intro v9 w9 hown9 hg9; have hrd9 := (HRD_w2.out.only (OnlyT.of_below (B := 0) (ts := []) ((Below.refl w2.heap.size w2).alloc (Nat.le_refl _) (.cells #[.int .u64 (x0 : Int)] 63))) (by decide) (by decide)).only (OnlyT.grown hg9 (own_type (HOWN_w2.out.alloc (.cells #[.int .u64 (x0 : Int)] 63))) (by simp : 63 ∈ [63])) (by decide) (by decide); have hb9 := (HB_w2.out.alloc HB_w2.out.size (.cells #[.int .u64 (x0 : Int)] 63)).grown hg9 (by have := HB_w2.out.size; simp; omega) (own_block HOWN_w2.out); clear hg9))
          go_roundw
          case rel => exact ⟨[x0], 0, 0, 0, s0, isb, by have := hlt; simp at this ⊢; omega, by go_num, hown9, hrd9, hb9, Lib.hid (fun y hy => by rw [List.mem_singleton.1 hy]; exact HZ.out), rfl, rfl, rfl, HIS, Lib.hid (.inl rfl), Lib.hid (.inr ⟨by simp, HT3.out⟩)⟩
          case measure => simp [intOf]; omega
        · have HT2 := Lib.hid h2
          have hX0 : 0 < X.length := List.length_pos_iff.2 h1
          have hk0 : (((X.length : Nat) : Int) == 0) = false := by rw [beq_eq_false_iff_ne]; omega
          have hg1 := rfGet_st g 1 s wr HRD_wr.out (by decide)
          obtain ⟨s1, hs1⟩ : ∃ s1, s1 = getS s 1 := ⟨_, rfl⟩
          have hb1 := bit1 s
          obtain ⟨v1, hv1⟩ : ∃ v1, v1 = getV s 1 := ⟨_, rfl⟩
          rw [← hs1, ← hv1] at hg1
          rw [← hv1] at hb1
          have HS1 := Lib.hid hs1
          have HV1 := Lib.hid hv1
          have CG1 := Lib.hid hg1
          clear hs1 hv1 hg1 h1 h2 HTT
          rcases hb1 with hb1 | hb1
          · subst hb1
            have HTK := Lib.hid (show takeF W (a, m, b) s = some (0, (a, m, b), s1) by unfold takeF; rw [← HV1.out, if_pos rfl, HS1.out])
            go_wp2_with fail
            refine CG1.out.mono ?_
            rintro e w2 ⟨rfl, hrd, ho⟩
            have HOWN_w2 := Lib.hid (own_only HOWN_wr.out ho (by decide))
            have HB_w2 := Lib.hid (HB_wr.out.trans (ho.below' HG.out HB_wr.out.size))
            have HRD_w2 := Lib.hid hrd
            clear hrd ho
            clear CG1
            go_wp2_with ((with_reducible show wpList _ _ _ (({ dst := some 55, op := _, type := _, pos := _, after := _, guard := _ } : Oper) :: _) _ _); go_must (refine wpList_app rfl (.tmp 53) (.tmp 54) 53 rfl w.heap.size 63 i0 (.int .u64 0) 1 8 Tryz.underlying53 hi hz0 hz1 hz2 rfl (by decide) _ _ _ rfl (HOWN_w2.out.alloc _) _ _ 1 1 _ rfl (Rd.new _ #[.int .u64 0] _) rfl (one1 (.int .u64 0) rfl) (by simp only [maxLen]; omega) (by omega) (by have := HB_w2.out.size; simp; omega) ?_; intro v9 w9 hown9 hg9; have hrd9 := (HRD_w2.out.only (OnlyT.of_below (B := 0) (ts := []) ((Below.refl w2.heap.size w2).alloc (Nat.le_refl _) (.cells #[.int .u64 0] 63))) (by decide) (by decide)).only (OnlyT.grown hg9 (own_type (HOWN_w2.out.alloc (.cells #[.int .u64 0] 63))) (by simp : 63 ∈ [63])) (by decide) (by decide); have hb9 := (HB_w2.out.alloc HB_w2.out.size (.cells #[.int .u64 0] 63)).grown hg9 (by have := HB_w2.out.size; simp; omega) (own_block HOWN_w2.out); clear hg9))
            go_roundw
            case rel => exact ⟨X ++ [0], a, m, b, s1, isb, by rw [List.length_append]; exact hlt, by rw [List.length_append]; go_num, by rw [List.length_append, wvs_append]; exact hown9, hrd9, hb9, Lib.hid (lt_snoc HX.out (Nat.two_pow_pos _)), rfl, rfl, rfl, HIS, HWT, Lib.hid (.inr ⟨by simp, by rw [← headF_next hlt HE0.out (HTK.out)]; exact HT2.out⟩)⟩
            case measure => simp [intOf]; omega
          · subst hb1
            have hg1 := fun (w' : World) (h : RfrIs w' g s1.1 s1.2) => rfGet_st g 1 s1 w' h (by decide)
            obtain ⟨s2, hs2⟩ : ∃ s2, s2 = getS s1 1 := ⟨_, rfl⟩
            have hb2 := bit1 s1
            obtain ⟨v2, hv2⟩ : ∃ v2, v2 = getV s1 1 := ⟨_, rfl⟩
            rw [← hs2, ← hv2] at hg1
            rw [← hv2] at hb2
            have HS2 := Lib.hid hs2
            have HV2 := Lib.hid hv2
            have CG2 := Lib.hid hg1
            clear hs2 hv2 hg1
            go_wp2_with fail
            refine CG1.out.mono ?_
            rintro e w2 ⟨rfl, hrd, ho⟩
            have HOWN_w2 := Lib.hid (own_only HOWN_wr.out ho (by decide))
            have HB_w2 := Lib.hid (HB_wr.out.trans (ho.below' HG.out HB_wr.out.size))
            have HRD_w2 := Lib.hid hrd
            clear hrd ho
            clear CG1
            have CG3 := Lib.hid (CG2.out w2 HRD_w2.out)
            clear CG2
            rcases hb2 with hb2 | hb2
            · subst hb2
              have HTK0 := Lib.hid (show takeF W (a, m, b) s = fromF (a, m, b) s2 by unfold takeF; rw [← HV1.out, if_neg (by decide), ← HS1.out, ← HV2.out, if_pos rfl, HS2.out])
              go_wp2_with fail
              refine CG3.out.mono ?_
              rintro e w3 ⟨rfl, hrd, ho⟩
              have HOWN_w3 := Lib.hid (own_only HOWN_w2.out ho (by decide))
              have HB_w3 := Lib.hid (HB_w2.out.trans (ho.below' HG.out HB_w2.out.size))
              have HRD_w3 := Lib.hid hrd
              clear hrd ho
              clear CG3
              rcases HWT.out with h0 | ⟨hm0, hab⟩
              · injection h0 with e1 e2
                injection e2 with e2 e3
                subst e1 e2 e3
                have hf : isb = false := by rw [HIS.out]; rfl
                subst hf
                have hon : R = (16, []) := by rw [HRR.out, HOO.out, ← HT2.out, headF_none hlt (by rw [HTK0.out]; rfl)]; rfl
                have HON := Lib.hid hon
                clear hon
                go_wp2
                go_ret2
                rw [HON.out]
                exact ⟨_, rfl, HB_w3.out, cells_none _⟩
              · have hf : isb = true := by rw [HIS.out, decide_eq_true_eq]; exact hm0
                subst hf
                simp only at hm0 hab
                have hmi : (m : Int) ≤ 64 := by omega
                have hai : (a : Int) ≤ 64 := by omega
                have hm64 : m ≤ 64 := by omega
                have hg2 := rfGet_st g m s2 w3 HRD_w3.out (by omega)
                obtain ⟨y, hy⟩ : ∃ y, y = getV s2 m := ⟨_, rfl⟩
                obtain ⟨s3, hs3⟩ : ∃ s3, s3 = getS s2 m := ⟨_, rfl⟩
                rw [← hy, ← hs3] at hg2
                have hyl := getV_lt s2 m
                rw [← hy] at hyl
                have cp := fun (w' : World) => power_any b (by omega) w'
                obtain ⟨P, hP⟩ : ∃ P, P = 2 ^ b := ⟨_, rfl⟩
                rw [← hP] at cp
                have hyP : y * P < 2 ^ (8 * W) := by
                  rw [hP]
                  have e1 : y * 2 ^ b < 2 ^ m * 2 ^ b := Nat.mul_lt_mul_of_pos_right hyl (Nat.two_pow_pos _)
                  rw [← Nat.pow_add] at e1
                  exact Nat.lt_of_lt_of_le e1 (Nat.pow_le_pow_right (by decide) (by omega))
                have hy64 : y * P < 18446744073709551616 := Nat.lt_of_lt_of_le hyP (by rw [show (18446744073709551616 : Nat) = 2 ^ 64 by decide]; exact Nat.pow_le_pow_right (by decide) (by omega))
                obtain ⟨z, hz⟩ : ∃ z, z = y * P := ⟨_, rfl⟩
                have hmul : IntKind.u64.wrap ((y : Int) * (P : Int)) = (z : Int) := by
                  rw [hz, IntKind.wrap_u64, ← Int.natCast_mul]
                  omega
                have htk : takeF W (a, m, b) s = some (z, (a, m, b), s3) := by
                  rw [HTK0.out]
                  unfold fromF
                  rw [if_neg (by simp only; omega)]
                  simp only
                  rw [hz, hP, hy, hs3]
                have HTK := Lib.hid htk
                have HZ := Lib.hid (show z < 2 ^ (8 * W) by rw [hz]; exact hyP)
                have HM := Lib.hid hmul
                have CP := Lib.hid cp
                have CG := Lib.hid hg2
                have hpw : (8 : Int) * (W : Int) - (a : Int) - (m : Int) = (b : Int) := by omega
                have HPW := Lib.hid hpw
                clear hy hs3 hP hz hmul htk cp hyl hyP hy64 hg2 hpw
                go_wp2_with fail
                refine CG.out.mono ?_
                rintro e w4 ⟨rfl, hrd, ho⟩
                have HOWN_w4 := Lib.hid (own_only HOWN_w3.out ho (by decide))
                have HB_w4 := Lib.hid (HB_w3.out.trans (ho.below' HG.out HB_w3.out.size))
                have HRD_w4 := Lib.hid hrd
                clear hrd ho
                clear CG
                have hpw := HPW.out
                go_wp2_with fail
                refine (CP.out _).mono ?_
                rintro e w' ⟨rfl, hww⟩
                obtain rfl : w4 = w' := hww.symm
                clear hpw
                have hmul := HM.out
                go_wp2_with ((with_reducible show wpList _ _ _ (({ dst := some 85, op := _, type := _, pos := _, after := _, guard := _ } : Oper) :: _) _ _); go_must (refine wpList_app rfl (.tmp 73) (.tmp 84) 53 rfl w.heap.size 63 i0 (.int .u64 0) 1 8 Tryz.underlying53 hi hz0 hz1 hz2 rfl (by decide) _ _ _ rfl (HOWN_w4.out.alloc _) _ _ 1 1 _ rfl (Rd.new _ #[.int .u64 (z : Int)] _) rfl (one1 (.int .u64 (z : Int)) rfl) (by simp only [maxLen]; omega) (by omega) (by have := HB_w4.out.size; simp; omega) ?_; intro v9 w9 hown9 hg9; have hrd9 := (HRD_w4.out.only (OnlyT.of_below (B := 0) (ts := []) ((Below.refl w4.heap.size w4).alloc (Nat.le_refl _) (.cells #[.int .u64 (z : Int)] 63))) (by decide) (by decide)).only (OnlyT.grown hg9 (own_type (HOWN_w4.out.alloc (.cells #[.int .u64 (z : Int)] 63))) (by simp : 63 ∈ [63])) (by decide) (by decide); have hb9 := (HB_w4.out.alloc HB_w4.out.size (.cells #[.int .u64 (z : Int)] 63)).grown hg9 (by have := HB_w4.out.size; simp; omega) (own_block HOWN_w4.out); clear hg9))
                clear hmul
                go_roundw
                case rel => exact ⟨X ++ [z], a, m, b, s3, true, by rw [List.length_append]; exact hlt, by rw [List.length_append]; go_num, by rw [List.length_append, wvs_append]; exact hown9, hrd9, hb9, Lib.hid (lt_snoc HX.out HZ.out), rfl, rfl, rfl, HIS, HWT, Lib.hid (.inr ⟨by simp, by rw [← headF_next hlt HE0.out (HTK.out)]; exact HT2.out⟩)⟩
                case measure => simp [intOf]; omega
            · subst hb2
              have HTK0 := Lib.hid (show takeF W (a, m, b) s = fromF (toldT W s2) (toldS s2) by unfold takeF; rw [← HV1.out, if_neg (by decide), ← HS1.out, ← HV2.out, if_neg (by decide), HS2.out])
              go_wp2_with fail
              refine CG3.out.mono ?_
              rintro e w3 ⟨rfl, hrd, ho⟩
              have HOWN_w3 := Lib.hid (own_only HOWN_w2.out ho (by decide))
              have HB_w3 := Lib.hid (HB_w2.out.trans (ho.below' HG.out HB_w2.out.size))
              have HRD_w3 := Lib.hid hrd
              clear hrd ho
              clear CG3
              have hg4 := rfGet_st g 6 s2 w3 HRD_w3.out (by decide)
              have hg5 := fun (w' : World) (h : RfrIs w' g (getS s2 6).1 (getS s2 6).2) => rfGet_st g 6 (getS s2 6) w' h (by decide)
              obtain ⟨p, hp0⟩ : ∃ p, p = getV s2 6 := ⟨_, rfl⟩
              obtain ⟨q, hq0⟩ : ∃ q, q = getV (getS s2 6) 6 := ⟨_, rfl⟩
              obtain ⟨s4, hs4⟩ : ∃ s4, s4 = getS s2 6 := ⟨_, rfl⟩
              obtain ⟨s5, hs5⟩ : ∃ s5, s5 = getS (getS s2 6) 6 := ⟨_, rfl⟩
              have hpl := getV_lt s2 6
              have hql := getV_lt (getS s2 6) 6
              rw [← hp0] at hpl
              rw [← hq0] at hql
              have hts : toldS s2 = s5 := by unfold toldS; rw [hs5]
              have htt : toldT W s2 = if p + (q + 1) ≤ 8 * W then (p, q + 1, 8 * W - p - (q + 1)) else (0, 0, 0) := by unfold toldT; rw [← hp0, ← hq0]
              rw [← hp0, ← hs4] at hg4
              rw [← hq0, ← hs5, ← hs4] at hg5
              have HTS := Lib.hid hts
              have HT4 := Lib.hid htt
              have CG4 := Lib.hid hg4
              have CG5 := Lib.hid hg5
              have hpi : (p : Int) < 64 := by omega
              have hqi : (q : Int) < 64 := by omega
              clear hp0 hq0 hs4 hs5 hts htt hg4 hg5
              go_wp2_with fail
              refine CG4.out.mono ?_
              rintro e w4 ⟨rfl, hrd, ho⟩
              have HOWN_w4 := Lib.hid (own_only HOWN_w3.out ho (by decide))
              have HB_w4 := Lib.hid (HB_w3.out.trans (ho.below' HG.out HB_w3.out.size))
              have HRD_w4 := Lib.hid hrd
              clear hrd ho
              have CG6 := Lib.hid (CG5.out w4 HRD_w4.out)
              clear CG4 CG5
              go_wp2_with fail
              refine CG6.out.mono ?_
              rintro e w5 ⟨rfl, hrd, ho⟩
              have HOWN_w5 := Lib.hid (own_only HOWN_w4.out ho (by decide))
              have HB_w5 := Lib.hid (HB_w4.out.trans (ho.below' HG.out HB_w4.out.size))
              have HRD_w5 := Lib.hid hrd
              clear hrd ho
              clear CG6
              by_cases hc : p + (q + 1) ≤ 8 * W
              · obtain ⟨d, hd⟩ : ∃ d, d = 8 * W - p - (q + 1) := ⟨_, rfl⟩
                have hdw : p + (q + 1) + d = 8 * W := by omega
                obtain ⟨r, hr1⟩ : ∃ r, r = q + 1 := ⟨_, rfl⟩
                have hri : ((q : Nat) : Int) + 1 = (r : Int) := by omega
                have HTK1 := Lib.hid (show takeF W (a, m, b) s = fromF (p, r, d) s5 by rw [HTK0.out, HTS.out, HT4.out, if_pos hc, ← hd, ← hr1])
                have hgt : ¬ (8 : Int) * (W : Int) < (p : Int) + (r : Int) := by omega
                have hr0 : 0 < r := by omega
                have hpr : p + r + d = 8 * W := by omega
                have hr64 : r ≤ 64 := by omega
                have hrl : (r : Int) ≤ 64 := by omega
                clear hd hdw hr1 HTK0 HTS HT4 hc
                have hg2 := rfGet_st g r s5 w5 HRD_w5.out (by omega)
                obtain ⟨y, hy⟩ : ∃ y, y = getV s5 r := ⟨_, rfl⟩
                obtain ⟨s6, hs6⟩ : ∃ s6, s6 = getS s5 r := ⟨_, rfl⟩
                rw [← hy, ← hs6] at hg2
                have hyl := getV_lt s5 r
                rw [← hy] at hyl
                have cp := fun (w' : World) => power_any d (by omega) w'
                obtain ⟨P, hP⟩ : ∃ P, P = 2 ^ d := ⟨_, rfl⟩
                rw [← hP] at cp
                have hyP : y * P < 2 ^ (8 * W) := by
                  rw [hP]
                  have e1 : y * 2 ^ d < 2 ^ r * 2 ^ d := Nat.mul_lt_mul_of_pos_right hyl (Nat.two_pow_pos _)
                  rw [← Nat.pow_add] at e1
                  exact Nat.lt_of_lt_of_le e1 (Nat.pow_le_pow_right (by decide) (by omega))
                have hy64 : y * P < 18446744073709551616 := Nat.lt_of_lt_of_le hyP (by rw [show (18446744073709551616 : Nat) = 2 ^ 64 by decide]; exact Nat.pow_le_pow_right (by decide) (by omega))
                obtain ⟨z, hz⟩ : ∃ z, z = y * P := ⟨_, rfl⟩
                have hmul : IntKind.u64.wrap ((y : Int) * (P : Int)) = (z : Int) := by
                  rw [hz, IntKind.wrap_u64, ← Int.natCast_mul]
                  omega
                have htk : takeF W (a, m, b) s = some (z, (p, r, d), s6) := by
                  rw [HTK1.out]
                  unfold fromF
                  rw [if_neg (by simp only; omega)]
                  simp only
                  rw [hz, hP, hy, hs6]
                have HTK := Lib.hid htk
                have HZ := Lib.hid (show z < 2 ^ (8 * W) by rw [hz]; exact hyP)
                have HM := Lib.hid hmul
                have CP := Lib.hid cp
                have CG := Lib.hid hg2
                have hpw : (8 : Int) * (W : Int) - (p : Int) - (r : Int) = (d : Int) := by omega
                have HPW := Lib.hid hpw
                clear hy hs6 hP hz hmul htk cp hyl hyP hy64 hg2 hpw
                go_wp2_with fail
                refine CG.out.mono ?_
                rintro e w6 ⟨rfl, hrd, ho⟩
                have HOWN_w6 := Lib.hid (own_only HOWN_w5.out ho (by decide))
                have HB_w6 := Lib.hid (HB_w5.out.trans (ho.below' HG.out HB_w5.out.size))
                have HRD_w6 := Lib.hid hrd
                clear hrd ho
                clear CG
                have hpw := HPW.out
                go_wp2_with fail
                refine (CP.out _).mono ?_
                rintro e w' ⟨rfl, hww⟩
                obtain rfl : w6 = w' := hww.symm
                clear hpw
                have hmul := HM.out
                go_wp2_with ((with_reducible show wpList _ _ _ (({ dst := some 85, op := _, type := _, pos := _, after := _, guard := _ } : Oper) :: _) _ _); go_must (refine wpList_app rfl (.tmp 73) (.tmp 84) 53 rfl w.heap.size 63 i0 (.int .u64 0) 1 8 Tryz.underlying53 hi hz0 hz1 hz2 rfl (by decide) _ _ _ rfl (HOWN_w6.out.alloc _) _ _ 1 1 _ rfl (Rd.new _ #[.int .u64 (z : Int)] _) rfl (one1 (.int .u64 (z : Int)) rfl) (by simp only [maxLen]; omega) (by omega) (by have := HB_w6.out.size; simp; omega) ?_; intro v9 w9 hown9 hg9; have hrd9 := (HRD_w6.out.only (OnlyT.of_below (B := 0) (ts := []) ((Below.refl w6.heap.size w6).alloc (Nat.le_refl _) (.cells #[.int .u64 (z : Int)] 63))) (by decide) (by decide)).only (OnlyT.grown hg9 (own_type (HOWN_w6.out.alloc (.cells #[.int .u64 (z : Int)] 63))) (by simp : 63 ∈ [63])) (by decide) (by decide); have hb9 := (HB_w6.out.alloc HB_w6.out.size (.cells #[.int .u64 (z : Int)] 63)).grown hg9 (by have := HB_w6.out.size; simp; omega) (own_block HOWN_w6.out); clear hg9))
                clear hmul
                go_roundw
                case rel => exact ⟨X ++ [z], p, r, d, s6, true, by rw [List.length_append]; exact hlt, by rw [List.length_append]; go_num, by rw [List.length_append, wvs_append]; exact hown9, hrd9, hb9, Lib.hid (lt_snoc HX.out HZ.out), rfl, rfl, rfl, Lib.hid (by simpa using hr0), Lib.hid (.inr ⟨hr0, hpr⟩), Lib.hid (.inr ⟨by simp, by rw [← headF_next hlt HE0.out (HTK.out)]; exact HT2.out⟩)⟩
                case measure => simp [intOf]; omega
              · have hgt : (8 : Int) * (W : Int) < (p : Int) + ((q : Int) + 1) := by omega
                have hon : R = (16, []) := by rw [HRR.out, HOO.out, ← HT2.out, headF_none hlt (by rw [HTK0.out, HT4.out, if_neg hc]; rfl)]; rfl
                have HON := Lib.hid hon
                clear hon
                go_wp2
                go_ret2
                rw [HON.out]
                exact ⟨_, rfl, HB_w5.out, cells_none _⟩
    · have hkn : X.length = n := by omega
      have hos : o = some (X, s) := by
        rw [HOO.out]
        rcases HTT.out with ⟨h1, h2, _⟩ | ⟨_, h2⟩
        · subst h1
          subst h2
          unfold allF
          rw [if_pos (by simpa using hkn.symm)]
        · rw [← h2]; exact headF_end hkn
      have hki : ¬ (X.length : Int) < (n : Int) := by omega
      have HOS := Lib.hid hos
      obtain ⟨E, hE⟩ : ∃ E, E = doneE s := ⟨_, rfl⟩
      have cd := rfDone_st g s wr HRD_wr.out
      rw [← hE] at cd
      have CD := Lib.hid cd
      have HEE := Lib.hid hE
      obtain ⟨A9, c9, rfl, -, -, -⟩ := own_form hown
      have CB := Lib.hid (C5.out A9 X c9 wr (Rd.of_own hown) (by omega) HX.out)
      clear hown hb hblk hos hE cd hkn HTT C5
      by_cases he : E = 0
      · have hne : (((E : Nat) : Int) != 0) = false := by rw [he]; rfl
        have hR2 : R = (0, backW W X) := by
          rw [HRR.out, HOS.out]
          unfold accR
          simp only
          rw [if_pos (by rw [← HEE.out]; exact he)]
        have HR2 := Lib.hid hR2
        clear he hR2
        go_wp2_with fail
        refine CD.out.mono ?_
        rintro e w' ⟨rfl, hww⟩
        obtain rfl : wr = w' := hww
        go_wp2_with fail
        refine CB.out.mono ?_
        rintro e w9 ⟨v9, rfl, h9, hb9⟩
        have HB9 := Lib.hid (HB_wr.out.trans (hb9.mono HB_wr.out.size))
        have H9 := Lib.hid h9
        clear hb9 h9
        go_wp2
        go_ret2
        rw [HR2.out]
        exact ⟨_, rfl, HB9.out, H9.out⟩
      · have hne : (((E : Nat) : Int) != 0) = true := by rw [bne_iff_ne]; omega
        have hR2 : R = (16, []) := by
          rw [HRR.out, HOS.out]
          unfold accR
          simp only
          rw [if_neg (by rw [← HEE.out]; exact he)]
        have HR2 := Lib.hid hR2
        clear he hR2
        go_wp2_with fail
        refine CD.out.mono ?_
        rintro e w' ⟨rfl, hww⟩
        obtain rfl : wr = w' := hww
        go_wp2
        go_ret2
        rw [HR2.out]
        exact ⟨_, rfl, HB_wr.out, cells_none _⟩
end Go.Proofs.YtcenbaajojdjlaaGreatDoor
