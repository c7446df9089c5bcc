/- Contracts of layer 12: New, Find. -/
import Derived.Test.YtgbibmgedmbboaaGreatFenTree
namespace Go.Proofs.YtgbibmgedmbboaaGreat
open Go.RowKit

theorem fRow_zero (n : Nat) : fRow (List.replicate n 0) = List.replicate (n + 1) 0 := by
  refine List.eq_replicate_iff.2 ⟨by simp [fRow_len], fun b hb => ?_⟩
  obtain ⟨j, _, rfl⟩ := List.mem_map.1 hb
  have h : ∀ k, fPre (List.replicate n 0) k = 0 := fun k => by simp [fPre]
  unfold fNode; rw [h, h]; rfl

theorem fenNew_bad (n : Int) (w : World) (h : n < 1 ∨ 4096 < n) :
    Calls Tryz.prog 85 #[.int .i64 n] w fun e w' => e = .returned (.pointer none) ∧ w' = w := by
  rcases h with h | h
  · go_enter Tryz.func85, Tryz.ntmps85
    go_wp2
    go_ret
    exact ⟨rfl, rfl⟩
  · have h1 : ¬ n < 1 := by omega
    go_enter Tryz.func85, Tryz.ntmps85
    go_wp2
    go_ret
    exact ⟨rfl, rfl⟩
theorem fenNew_any (n : Nat) (w : World) (h1 : 1 ≤ n) (h2 : n ≤ 4096) :
    Calls Tryz.prog 85 #[.int .i64 (n : Int)] w fun e w' => ∃ T, e = .returned (.pointer (some ⟨T, 0, none⟩)) ∧ ∃ S, IsTree w' T S (List.replicate n 0) ∧ (w.heap.size ≤ T ∧ w.heap.size ≤ S) ∧ Below w.heap.size w w' := by
  obtain ⟨i0, hi, hz0, hz1, hz2⟩ := info_parts info_int12
  have a1 : ¬ ((n : Int) < 1) := by omega
  have a2 : ¬ ((4096 : Int) < n) := by omega
  go_enter Tryz.func85, Tryz.ntmps85
  go_wp2_with (at_make; go_must (refine wpList_mk rfl (.tmp 10) (.tmp 10) 72 rfl w.heap.size 3 i0 (.int .i64 0) 8 Tryz.underlying72 hi hz0 rfl hz1 hz2 .i64 .i64 _ _ rfl rfl (n + 1) (n + 1) (by omega) (by omega) (Nat.le_refl _) (by omega) (by simp only [maxLen]; omega) (Nat.le_refl _) ?_; intro w1 hg1 hown1 hgr1; have hb : Below w.heap.size w w1 := (Below.refl _ _).grown hgr1 (Nat.le_refl _) (by simp)))
  go_ret
  refine ⟨w1.heap.size, rfl, w.heap.size, ⟨⟨by simp; omega, ?_, by simp⟩, ?_, ?_⟩, ⟨hb.size, Nat.le_refl _⟩, hb.alloc hb.size _⟩
  · intro x hx; obtain ⟨-, rfl⟩ := List.mem_replicate.1 hx; exact Int.le_refl _
  · have := heap_alloc_new w1 (.cells #[.slice (some ⟨w.heap.size, 0, none⟩) (n + 1) (n + 1), .int .i64 0] 146)
    unfold Blk
    rw [this]
    simp
  · have hs : Blk w1 w.heap.size 3 (zvs (fRow (List.replicate n 0))) := by unfold Blk; rw [hg1, fRow_zero]; simp [zvs]
    exact hs.alloc_ _

theorem lt_bitLen (x : Nat) (h : x < 2 ^ 64) : x < 2 ^ Lib.bitLen x := by
  have key : ∀ (f x : Nat), x < 2 ^ f → x < 2 ^ Lib.bitLenAux f x := by
    intro f
    induction f with
    | zero => intro x h; simpa [Lib.bitLenAux] using h
    | succ f ih =>
      intro x h
      unfold Lib.bitLenAux
      split
      · omega
      · have := ih (x / 2) (by rw [Nat.pow_succ] at h; omega)
        rw [Nat.add_comm, Nat.pow_succ]; omega
  exact key 64 x h
/-- Find, where there is none. -/
theorem fenFind_none {w : World} {T S : Nat} {c : List Int} (v : Int) (h : IsTree w T S c) (hv : v < 0 ∨ c.sum ≤ v) :
    Calls Tryz.prog 90 #[.pointer (some ⟨T, 0, none⟩), .int .i64 v] w fun e w' => e = .returned (.tuple #[.int .i64 0, .bool false]) ∧ w' = w := by
  have C := Lib.hid (fenTotal_any h.2)
  clear h
  rcases hv with hv | hv
  · go_enter Tryz.func90, Tryz.ntmps90
    go_wp2
    go_ret2
    exact ⟨rfl, rfl⟩
  · by_cases h0 : v < 0
    · go_enter Tryz.func90, Tryz.ntmps90
      go_wp2
      go_ret2
      exact ⟨rfl, rfl⟩
    · go_enter Tryz.func90, Tryz.ntmps90
      go_wp2_with (go_at_call 82; refine C.out.mono ?_; rintro e w' ⟨rfl, rfl⟩)
      go_ret2
      exact ⟨rfl, rfl⟩

/-- The step of the search: half the places left. -/
def stepAt : Nat → Nat
  | 0 => 0
  | j + 1 => 2 ^ j
set_option maxHeartbeats 2000000 in
theorem fenFind_some {w : World} {T S : Nat} {c : List Int} (v : Int) (r : Nat) (h : IsTree w T S c) (hv : fFind c v = some r) :
    Calls Tryz.prog 90 #[.pointer (some ⟨T, 0, none⟩), .int .i64 v] w fun e w' => e = .returned (.tuple #[.int .i64 (r : Int), .bool true]) ∧ w' = w := by
  have hlen := h.1.1
  have hnn := h.1.2.1
  have htot := h.1.2.2
  have hin := fFind_in hv
  have hvs : v < c.sum := by have := fPre_le hnn (r + 1); omega
  have hle : Lib.bitLen c.length ≤ 13 := Lib.bitLen_le c.length 13 (by omega) (by omega)
  have h1 : 1 ≤ Lib.bitLen c.length := by
    have := Lib.bitLen_half c.length (by omega) (by omega); omega
  obtain ⟨L, hL⟩ : ∃ L, Lib.bitLen c.length = L + 1 := ⟨Lib.bitLen c.length - 1, by omega⟩
  have hlt : c.length < 2 ^ (L + 1) := by rw [← hL]; exact lt_bitLen _ (by omega)
  obtain ⟨hfd, hfl⟩ := fSeek_find hnn hin.1 hvs hlt
  rw [hv] at hfd
  injection hfd with hfd
  have hg := fenGreatest_any c.length (by omega) hlen.2
  rw [hL, Nat.add_sub_cancel] at hg
  have C := Lib.hid (fenTotal_any h.2)
  have CL := Lib.hid (fenLen_any h.2 hlen.2)
  have CG := Lib.hid hg
  have HL := Lib.hid h.2
  have HN := Lib.hid hnn
  have HFD := Lib.hid hfd
  have HLT := Lib.hid hlt
  have hv0 := hin.1
  have hL12 : L ≤ 12 := by omega
  have hT0 := h.2.tb.cell 0
  simp only [List.getElem?_cons_zero] at hT0
  have hge : ¬ (c.sum ≤ v) := by omega
  clear h hnn hfd hlt hg hin hfl hle h1 hL hv
  go_enter Tryz.func90, Tryz.ntmps90
  go_wp2_with (first
    | (go_at_call 82; refine C.out.mono ?_; rintro e w' ⟨rfl, rfl⟩)
    | (go_at_call 79; refine CL.out.mono ?_; rintro e w' ⟨rfl, rfl⟩)
    | (go_at_call 106; refine (CG.out _).mono ?_; rintro e w' ⟨rfl, rfl⟩))
  go_loop [1, 6, 7] (fun vv ff ss => ∃ j p : Nat, j ≤ L + 1 ∧ ss = .int .i64 (stepAt j : Nat) ∧ ff = .int .i64 (p : Int) ∧ vv = .int .i64 (v - fPre c p) ∧ 2 ^ j ∣ p ∧ p ≤ c.length ∧ fPre c p ≤ v ∧ fSeek c v j p = r)
    (fun _ _ ss => (intOf ss).toNat)
  case atStart => exact ⟨L + 1, 0, Nat.le_refl _, rfl, rfl, by rw [fPre_zero, Int.sub_zero], Nat.dvd_zero _, Nat.zero_le _, by rw [fPre_zero]; exact hv0, HFD.out.symm⟩
  case round =>
    obtain ⟨j, p, hj, rfl, rfl, rfl, hdv, hp, hpv, hsk⟩ := hrel
    cases j with
    | zero =>
      simp only [stepAt, fSeek] at hsk ⊢
      subst hsk
      go_wp2
      go_ret2
      exact ⟨rfl, rfl⟩
    | succ j =>
      obtain ⟨P, hP⟩ : ∃ P, P = 2 ^ j := ⟨_, rfl⟩
      have hst : stepAt (j + 1) = P := hP.symm
      have hP0 : 0 < P := by rw [hP]; exact Nat.two_pow_pos j
      have hP4 : P ≤ 4096 := by rw [hP]; exact Nat.pow_le_pow_right (n := 2) (by decide) (show j ≤ 12 by omega)
      have hsn : P / 2 = stepAt j := by
        cases j with
        | zero => rw [hP]; rfl
        | succ j => rw [hP, Nat.pow_succ]; simp [stepAt]
      have hdv0 : 2 ^ j ∣ p := Nat.dvd_trans ⟨2, by rw [Nat.pow_succ]⟩ hdv
      have hdv1 : 2 ^ j ∣ p + P := by rw [hP]; exact Nat.dvd_add hdv0 (Nat.dvd_refl _)
      have hnode := fNode_half c hdv (by rw [← hP]; omega)
      have hsk2 : (if p + P ≤ c.length ∧ fPre c (p + P) ≤ v then fSeek c v j (p + P) else fSeek c v j p) = r := by rw [hP]; exact hsk
      rw [← hP] at hnode
      have HDV0 := Lib.hid hdv0
      have HDV1 := Lib.hid hdv1
      have HSN := Lib.hid hsn
      have HSK := Lib.hid hsk2
      have HNODE := Lib.hid hnode
      have pp0 := fPre_nn HN.out p
      have HPV := Lib.hid hpv
      rw [hst]
      obtain ⟨q, hq⟩ : ∃ q, q = v - fPre c p := ⟨_, rfl⟩
      rw [← hq]
      have HQ := Lib.hid hq
      have hq0 : 0 ≤ q := by omega
      have hq1 : q ≤ 65536 := by omega
      have hPi : (0 : Int) < (P : Int) := by omega
      clear hdv hsk hsk2 hnode hdv0 hdv1 hsn hst hP hq pp0 hpv
      by_cases hin : p + P ≤ c.length
      · have hS := HL.out.sb.cell (p + P)
        rw [zvs_get, fRow_get c (p + P) hin, HNODE.out] at hS
        simp only [Option.map_some] at hS
        obtain ⟨nd, hnd⟩ : ∃ nd, nd = fPre c (p + P) - fPre c p := ⟨_, rfl⟩
        rw [← hnd] at hS
        have HND := Lib.hid hnd
        have hnd0 : 0 ≤ nd := by have := fPre_mono HN.out (a := p) (b := p + P) (by omega); omega
        have hnd1 : nd ≤ 65536 := by have := fPre_le HN.out (p + P); have := fPre_nn HN.out p; omega
        have hini : (p : Int) + (P : Int) ≤ (c.length : Int) := by omega
        have hinx : (p : Int) + (P : Int) < (c.length : Int) + 1 := by omega
        clear hnd
        by_cases hle : nd ≤ q
        · go_wp2_with (go_at_call 79; refine CL.out.mono ?_; rintro e w' ⟨rfl, rfl⟩)
          go_round
          case rel =>
            have h1 := HQ.out
            have h2 := HND.out
            have hle2 : fPre c (p + P) ≤ v := by omega
            refine ⟨j, p + P, by omega, ?_, ?_, ?_, HDV1.out, hin, hle2, ?_⟩
            · rw [← HSN.out]; congr 1
            · congr 1
            · congr 1; omega
            · have := HSK.out; rwa [if_pos ⟨hin, hle2⟩] at this
          case measure => simp [intOf]; omega
        · go_wp2_with (go_at_call 79; refine CL.out.mono ?_; rintro e w' ⟨rfl, rfl⟩)
          go_round
          case rel =>
            have h1 := HQ.out
            have h2 := HND.out
            have hle2 : ¬ fPre c (p + P) ≤ v := by omega
            refine ⟨j, p, by omega, ?_, rfl, ?_, HDV0.out, hp, HPV.out, ?_⟩
            · rw [← HSN.out]; congr 1
            · congr 1
            · have := HSK.out; rwa [if_neg (fun x => hle2 x.2)] at this
          case measure => simp [intOf]; omega
      · have hini : ¬ ((p : Int) + (P : Int) ≤ (c.length : Int)) := by omega
        go_wp2_with (go_at_call 79; refine CL.out.mono ?_; rintro e w' ⟨rfl, rfl⟩)
        go_round
        case rel =>
          refine ⟨j, p, by omega, ?_, rfl, ?_, HDV0.out, hp, HPV.out, ?_⟩
          · rw [← HSN.out]; congr 1
          · rw [HQ.out]
          · have := HSK.out; rwa [if_neg (fun x => hin x.1)] at this
        case measure => simp [intOf]; omega
end Go.Proofs.YtgbibmgedmbboaaGreat
