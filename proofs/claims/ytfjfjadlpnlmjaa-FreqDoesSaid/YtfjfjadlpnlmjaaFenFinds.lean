/- Layer 12: the law FenFinds. -/
import Derived.Test.YtfjfjadlpnlmjaaFenKnown
namespace Go.Proofs.Ytfjfjadlpnlmjaa
open Go.RowKit

/-- The first k counts are laid, the others are 0. -/
def laidC (l : List UInt8) (k : Nat) : List Int := (l.take k).map (fun c => (c.toNat : Int)) ++ List.replicate (l.length - k) 0
theorem laidC_len (l : List UInt8) (k : Nat) (h : k ≤ l.length) : (laidC l k).length = l.length := by simp [laidC]; omega
theorem laidC_get (l : List UInt8) (k : Nat) (h : k < l.length) (h' : k < (laidC l k).length) : (laidC l k)[k]'h' = 0 := by
  have e : (laidC l k)[k]? = some 0 := by
    unfold laidC
    rw [List.getElem?_append_right (by simp; omega), List.getElem?_replicate, if_pos (by simp; omega)]
  rwa [List.getElem?_eq_getElem h', Option.some.injEq] at e
theorem laidC_set (l : List UInt8) (k : Nat) (h : k < l.length) : (laidC l k).set k (0 + (l[k].toNat : Int)) = laidC l (k + 1) := by
  unfold laidC
  rw [List.set_append_right _ _ (by simp; omega), List.take_add_one, List.getElem?_eq_getElem h]
  have e1 : k - ((l.take k).map (fun c => (c.toNat : Int))).length = 0 := by simp; omega
  have e2 : l.length - k = (l.length - (k + 1)) + 1 := by omega
  rw [e1, e2, List.replicate_succ, List.set_cons_zero, List.map_append, List.append_assoc, Int.zero_add]
  rfl
theorem laidC_sum (l : List UInt8) : ∀ k, (laidC l k).sum ≤ 255 * k := by
  intro k
  unfold laidC
  rw [List.sum_append]
  have h0 : (List.replicate (l.length - k) (0 : Int)).sum = 0 := by simp
  rw [h0, Int.add_zero]
  have key : ∀ m : List UInt8, (m.map (fun c => (c.toNat : Int))).sum ≤ 255 * m.length := by
    intro m
    induction m with
    | nil => simp
    | cons a r ih => have := a.toNat_lt; simp only [List.map_cons, List.sum_cons, List.length_cons]; omega
  have := key (l.take k)
  have h2 : (l.take k).length ≤ k := by simp; omega
  omega

theorem yes_trans {w w' : World} {e : Ending} {w'' : World} (hb : Below w.heap.size w w') (h : Yes w' e w'') : Yes w e w'' := ⟨h.1, hb.trans (h.2.mono hb.size)⟩

set_option maxHeartbeats 4000000 in
set_option maxRecDepth 100000 in
theorem fenFinds_law (A : Option Addr) (n m : Nat) (v : Int) (l : List UInt8) (w : World) (hr : Rd w w.heap.size A (bvs l)) (hl : l.length = n) (hn63 : n ≤ 9223372036854775807) :
    Calls Try.prog 4 #[.slice A n m, .int .i64 v] w (Yes w) := by
  have CK := Lib.hid fenKnown_any
  by_cases h0 : n = 0
  · subst h0
    go_enter Try.func4, Try.ntmps4
    go_wp2_with fail
    refine (CK.out _).mono ?_
    rintro e w' ⟨rfl, hb⟩
    go_wp2
    go_ret
    exact ⟨rfl, hb⟩
  by_cases h200 : 200 < n
  · have h1 : ¬ ((n : Int) = 0) := by omega
    have h1f : ((n : Int) == 0) = false := by rw [beq_eq_false_iff_ne]; exact h1
    have h2 : (200 : Int) < (n : Int) := by omega
    go_enter Try.func4, Try.ntmps4
    go_wp2_with fail
    refine (CK.out _).mono ?_
    rintro e w' ⟨rfl, hb⟩
    go_wp2
    go_ret
    exact ⟨rfl, hb⟩
  have h1 : ((n : Int) == 0) = false := by rw [beq_eq_false_iff_ne]; omega
  have h2 : ¬ ((200 : Int) < (n : Int)) := by omega
  have CN := Lib.hid (fenNew_any n w (by omega) (by omega))
  have HR := Lib.hid hr
  have HL := Lib.hid hl
  clear hr hl
  go_enter Try.func4, Try.ntmps4
  go_wp2_with fail
  refine CN.out.mono ?_
  rintro e w1 ⟨T, rfl, S, ht1, ⟨hT, hS⟩, hb1⟩
  have HTS := Lib.hid (And.intro hT hS)
  have h00 : List.replicate n 0 = laidC l 0 := by simp [laidC, HL.out]
  rw [h00] at ht1
  have HT1 := Lib.hid ht1
  have HB1 := Lib.hid hb1
  clear ht1 hb1 hT hS h00
  go_wp2
  go_loopw [6] (fun kk wr => ∃ k : Nat, k ≤ n ∧ kk = .int .i64 (k : Int) ∧ IsTree wr T S (laidC l k) ∧ Below w.heap.size w wr) (fun kk _ => n - (intOf kk).toNat)
  case atStart => exact ⟨0, Nat.zero_le _, rfl, HT1.out, HB1.out⟩
  case round =>
    clear HT1 HB1
    obtain ⟨k, hk, rfl, ht, hb⟩ := hrel
    have HT := Lib.hid ht
    have HB := Lib.hid hb
    clear ht hb
    by_cases hlt : k < n
    · have hkl : k < l.length := by have := HL.out; omega
      obtain ⟨b, off, rfl, hbl, hc0⟩ := HR.out k _ (bvs_get l k hkl)
      have hcell := (HB.out.cell (p := ⟨b, off + k, none⟩) hbl).trans hc0
      have hkc : k < (laidC l k).length := by rw [laidC_len l k (by omega)]; exact hkl
      have hadd := fenAdd_any k (l[k].toNat : Int) HT.out hkc (by rw [laidC_get l k hkl hkc]; omega) (by have := laidC_sum l k; have := l[k].toNat_lt; omega)
      rw [laidC_get l k hkl hkc, laidC_set l k hkl] at hadd
      have CA := Lib.hid hadd
      have hx := l[k].toNat_lt
      obtain ⟨x, hxx⟩ : ∃ x, x = l[k].toNat := ⟨_, rfl⟩
      rw [← hxx] at hcell hx CA
      have hki : (k : Int) < (n : Int) := by omega
      clear hadd hxx hc0 hbl hkc
      go_wp2_with fail
      refine CA.out.mono ?_
      rintro e w2 ⟨rfl, ht2, hu2⟩
      have HT2 := Lib.hid ht2
      have HB2 := Lib.hid (HB.out.trans (hu2.below HTS.out.1 HTS.out.2 HB.out.size))
      clear ht2 hu2
      go_wp2
      go_roundw
      case rel => exact ⟨k + 1, by omega, by go_num, HT2.out, HB2.out⟩
      case measure => simp [intOf]; omega
    · obtain rfl : k = n := by omega
      obtain ⟨c, hc⟩ : ∃ c, c = laidC l k := ⟨_, rfl⟩
      rw [← hc] at HT
      have CT := Lib.hid (fun (W : World) (h : IsTree W T S c) => fenTotal_any (w := W) h.2)
      clear hc
      cases hf : fFind c v with
      | none =>
        have hv : v < 0 ∨ c.sum ≤ v := by
          rcases Int.lt_or_le v 0 with h | h
          · exact .inl h
          · refine .inr (Int.not_lt.1 fun h' => ?_)
            obtain ⟨j, hj⟩ : ∃ j, c.length < 2 ^ j := ⟨c.length, Nat.lt_two_pow_self⟩
            have := (fSeek_find HT.out.1.2.1 h h' hj).1
            rw [hf] at this; cases this
        have CF := Lib.hid (fenFind_none v HT.out hv)
        have HV := Lib.hid hv
        clear hf hv
        go_wp2_with fail
        refine CF.out.mono ?_
        rintro e w' ⟨rfl, hw⟩
        obtain rfl : _ = w' := hw.symm
        by_cases hv0 : v < 0
        · go_wp2_with fail
          refine (CK.out _).mono ?_
          rintro e w3 hy
          obtain ⟨rfl, hb3⟩ := yes_trans HB.out hy
          go_wp2
          go_ret
          exact ⟨rfl, hb3⟩
        · have hv1 : ¬ (v < c.sum) := by have := HV.out; omega
          go_wp2_with fail
          refine (CT.out _ HT.out).mono ?_
          rintro e w' ⟨rfl, hw⟩
          obtain rfl : _ = w' := hw.symm
          go_wp2_with fail
          refine (CK.out _).mono ?_
          rintro e w3 hy
          obtain ⟨rfl, hb3⟩ := yes_trans HB.out hy
          go_wp2
          go_ret
          exact ⟨rfl, hb3⟩
      | some r =>
        have hin := fFind_in hf
        have CF := Lib.hid (fenFind_some v r HT.out hf)
        have hrl := hin.2.1
        have hle := HT.out.1.1.2
        have CB := Lib.hid (fun (W : World) (h : IsTree W T S c) => fenBelow_any (w := W) (r : Int) h r (by omega))
        have CG := Lib.hid (fun (W : World) (h : IsTree W T S c) => fenGet_at (w := W) r h hrl)
        have hs := fPre_succ c r hrl
        have g0 := fPre_nn HT.out.1.2.1 r
        have g1 := fPre_le HT.out.1.2.1 (r + 1)
        have g2 := HT.out.1.2.2
        have g3 := HT.out.1.2.1 _ (List.getElem_mem hrl)
        have g4 := hin.2.2.1
        have g5 := hin.2.2.2
        have g6 := hin.1
        obtain ⟨x, hx⟩ : ∃ x, x = c[r]'hrl := ⟨_, rfl⟩
        rw [← hx] at CG hs g3
        obtain ⟨s, hss⟩ : ∃ s, s = fPre c r := ⟨_, rfl⟩
        rw [← hss] at CB hs g0 g5
        rw [hs] at g1 g4
        have g7 : v < c.sum := by omega
        obtain ⟨tot, htt⟩ : ∃ t, t = c.sum := ⟨_, rfl⟩
        rw [← htt] at CT g1 g2 g7
        clear hin hf hx hss htt hs hle hrl
        go_wp2_with fail
        refine CF.out.mono ?_
        rintro e w' ⟨rfl, hw⟩
        obtain rfl : _ = w' := hw.symm
        go_wp2_with fail
        refine (CB.out _ HT.out).mono ?_
        rintro e w4 ⟨rfl, hb4⟩
        have HT4 := Lib.hid (HT.out.grow hb4)
        have HB4 := Lib.hid (HB.out.trans (hb4.mono HB.out.size))
        clear hb4
        go_wp2_with fail
        refine (CB.out _ HT4.out).mono ?_
        rintro e w5 ⟨rfl, hb5⟩
        have HT5 := Lib.hid (HT4.out.grow hb5)
        have HB5 := Lib.hid (HB4.out.trans (hb5.mono HB4.out.size))
        clear hb5
        go_wp2_with fail
        refine (CG.out _ HT5.out).mono ?_
        rintro e w6 ⟨rfl, hb6⟩
        have HT6 := Lib.hid (HT5.out.grow hb6)
        have HB6 := Lib.hid (HB5.out.trans (hb6.mono HB5.out.size))
        clear hb6
        go_wp2_with fail
        refine (CT.out _ HT6.out).mono ?_
        rintro e w' ⟨rfl, hw⟩
        obtain rfl : _ = w' := hw.symm
        go_wp2_with fail
        refine (CK.out _).mono ?_
        rintro e w3 hy
        obtain ⟨rfl, hb3⟩ := yes_trans HB6.out hy
        go_wp2
        go_ret
        exact ⟨rfl, hb3⟩
end Go.Proofs.Ytfjfjadlpnlmjaa
