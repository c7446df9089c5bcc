/- Contracts of layer 10's counting functions. -/
import Derived.Test.YtclhgjjehnmncaaProg
import Derived.Test.YtclhgjjehnmncaaMore
import Derived.Test.YtclhgjjehnmncaaRunsMath
import Derived.Deep.DeepMust
import Derived.BigQuiet
namespace Go.Proofs.Ytclhgjjehnmncaa
open Go.RowKit

theorem alike_next {l : List UInt8} {c : UInt8} {k : Nat} (h : ∀ j, j < k → l[j]? = some c) (hk : l[k]? = some c) : ∀ j, j < k + 1 → l[j]? = some c := by
  intro j hj
  rcases Nat.lt_or_ge j k with g | g
  · exact h j g
  · obtain rfl : j = k := by omega
    exact hk
/-- What holds at the head of a round of alike. -/
def AlikeRel (w : World) (l : List UInt8) (c : UInt8) (m : Nat) (i : Value) (wr : World) : Prop :=
  ∃ k : Nat, i = .int .i64 k ∧ 1 ≤ k ∧ k ≤ m ∧ k ≤ l.length ∧ Hid (∀ j, j < k → l[j]? = some c) ∧ Below w.heap.size w wr

set_option maxHeartbeats 1000000 in
set_option maxRecDepth 100000 in
theorem alike_any (A : Option Addr) (n c : Nat) (l : List UInt8) (w : World) (hr : Rd w w.heap.size A (bvs l)) (hn : l.length = n) (hn0 : 0 < n) (hn1 : n ≤ 1000000000000) (m : Nat) (hm : 1 ≤ m) :
    Calls Try.prog 14 #[.slice A n c, .int .i64 (m : Int)] w fun e w' => e = .returned (.int .i64 (alikeN m l : Nat)) ∧ Below w.heap.size w w' := by
  subst hn
  obtain ⟨b, off, rfl, hb, hcell⟩ := hr.at_ (by rw [bvs_length]; exact hn0)
  obtain ⟨c0, hc0⟩ : ∃ c0, l[0]? = some c0 := ⟨l[0], by simp⟩
  have hcl : ∀ k x, l[k]? = some x → w.cell? ⟨b, off + k, none⟩ = some (.int .u8 (x.toNat : Int)) := fun k x hx => hcell k _ (by simp [bvs, hx])
  have HC := Lib.hid hcl
  have H0 := Lib.hid hc0
  clear hcell hr hcl
  have hres : ∀ k, 1 ≤ k → k ≤ m → k ≤ l.length → (∀ j, j < k → l[j]? = some c0) → (k = m ∨ l[k]? ≠ some c0) → alikeN m l = k := by
    intro k h1 h2 h3 h4 h5
    match l, hc0 with
    | x :: t, hc0 =>
      simp at hc0
      subst hc0
      exact alikeN_is h1 h2 (by simpa using h3) h4 h5
  have HRES := Lib.hid hres
  clear hres hc0
  go_enter Try.func14, Try.ntmps14
  go_wp2_with fail
  go_loopw [5] (AlikeRel w l c0 m) (fun i _ => m - (intOf i).toNat)
  case atStart =>
    refine ⟨1, rfl, Nat.le_refl _, hm, hn0, Lib.hid fun j hj => ?_, Below.refl _ _⟩
    obtain rfl : j = 0 := by omega
    exact H0.out
  case round =>
    obtain ⟨k, rfl, hk1, hkm, hkl, HK, hbl⟩ := hrel
    have HB := Lib.hid hbl
    by_cases hlt : k < l.length ∧ k < m
    · obtain ⟨hlt1, hlt2⟩ := hlt
      have hmin : decide ((k : Int) < if m < l.length then (m : Int) else (l.length : Int)) = true := by rw [decide_eq_true_eq]; split <;> omega
      obtain ⟨x, hx⟩ : ∃ x, l[k]? = some x := ⟨l[k], by simp⟩
      have hc1 := (hbl.cell (p := ⟨b, off + k, none⟩) hb).trans (HC.out k x hx)
      have hc2 := (hbl.cell (p := ⟨b, off, none⟩) hb).trans (HC.out 0 c0 H0.out)
      have hk0 : (0 : Int) ≤ (k : Int) := by omega
      have hkl1 : (k : Int) < (l.length : Int) := by omega
      have hl0 : (0 : Int) < (l.length : Int) := by omega
      have HX := Lib.hid hx
      have HL := Lib.hid (And.intro hlt1 hlt2)
      clear hx hbl hkm hkl hlt2
      by_cases hxc : x = c0
      · subst hxc
        have hd : ((x.toNat : Int) == (x.toNat : Int)) = true := by rw [beq_iff_eq]
        go_wp2_with fail
        go_quiet (fail)
        go_wp2
        all_goals
          go_roundw
          case rel => exact ⟨k + 1, by go_num, by omega, HL.out.2, HL.out.1, Lib.hid (alike_next HK.out HX.out), below_drewN HB.out nq⟩
          case measure => have := HL.out.2; simp [intOf]; omega
      · have hxn : x.toNat ≠ c0.toNat := fun e => hxc (UInt8.toNat_inj.1 e)
        have hd : ((x.toNat : Int) == (c0.toNat : Int)) = false := by rw [beq_eq_false_iff_ne]; omega
        have hr := HRES.out k hk1 (by have := HL.out.2; omega) (by have := HL.out.1; omega) HK.out (.inr (by rw [HX.out]; simpa using hxc))
        have HR := Lib.hid hr
        clear hr
        go_wp2_with fail
        go_quiet (fail)
        go_wp2
        all_goals
          go_ret
          exact ⟨by rw [HR.out]; rfl, below_drewN HB.out nq⟩
    · have hmin : decide ((k : Int) < if m < l.length then (m : Int) else (l.length : Int)) = false := by rw [decide_eq_false_iff_not]; split <;> omega
      have hr := HRES.out k hk1 hkm hkl HK.out (by
        rcases Nat.lt_or_ge k m with g | g
        · right; rw [List.getElem?_eq_none (by omega)]; simp
        · left; omega)
      have HR := Lib.hid hr
      clear hr hlt
      go_wp2_with fail
      go_quiet (fail)
      go_wp2
      all_goals
        go_ret
        exact ⟨by rw [HR.out]; rfl, below_drewN HB.out nq⟩

theorem apart_at {l : List UInt8} {k m : Nat} (hk : k < l.length) : apartN (m + 1) (l.drop k) = if threeB (l.drop k) then 0 else apartN m (l.drop (k + 1)) + 1 := by
  rw [List.drop_eq_getElem_cons hk]
  rfl
theorem apart_end {l : List UInt8} {k m : Nat} (hk : l.length ≤ k) : apartN m (l.drop k) = 0 := by
  rw [List.drop_of_length_le hk]
  cases m <;> rfl
/-- What holds at the head of a round of apart. -/
def ApartRel (w : World) (l : List UInt8) (t : Nat) (i : Value) (wr : World) : Prop :=
  ∃ k : Nat, i = .int .i64 k ∧ 1 ≤ k ∧ k ≤ 128 ∧ k ≤ l.length ∧ Hid (k + apartN (128 - k) (l.drop k) = t) ∧ Below w.heap.size w wr

theorem size_u8r : (Try.prog.info? 5).map (·.size) = some 1 := by kernel_rfl
set_option maxHeartbeats 1000000 in
set_option maxRecDepth 100000 in
theorem apart_any (A : Option Addr) (n c : Nat) (l : List UInt8) (w : World) (hr : Rd w w.heap.size A (bvs l)) (hn : l.length = n) (hnc : n ≤ c) (hn0 : 0 < n) (hn1 : n ≤ 1000000000000) :
    Calls Try.prog 15 #[.slice A n c] w fun e w' => e = .returned (.int .i64 (apartN 127 (l.drop 1) + 1 : Nat)) ∧ Below w.heap.size w w' := by
  subst hn
  obtain ⟨T, hT⟩ : ∃ T, T = apartN 127 (l.drop 1) + 1 := ⟨_, rfl⟩
  rw [← hT]
  have HT := Lib.hid hT
  clear hT
  go_enter Try.func15, Try.ntmps15
  go_wp2_with fail
  go_loopw [3] (ApartRel w l T) (fun i _ => 128 - (intOf i).toNat)
  case atStart => exact ⟨1, rfl, Nat.le_refl _, by omega, hn0, Lib.hid ((Nat.add_comm _ _).trans HT.out.symm), Below.refl _ _⟩
  case round =>
    obtain ⟨k, rfl, hk1, hkm, hkl, HK, hbl⟩ := hrel
    have HB := Lib.hid hbl
    have HR := Lib.hid ((hr.below hbl).more hbl.size)
    by_cases hlt : k < l.length ∧ k < 128
    · obtain ⟨hlt1, hlt2⟩ := hlt
      have hmin : decide ((k : Int) < if 128 < l.length then (128 : Int) else (l.length : Int)) = true := by rw [decide_eq_true_eq]; split <;> omega
      have hst : apartN (128 - k) (l.drop k) = if threeB (l.drop k) then 0 else apartN (128 - (k + 1)) (l.drop (k + 1)) + 1 := by
        rw [show 128 - k = (128 - (k + 1)) + 1 by omega]
        exact apart_at hlt1
      have h3 := three_iff 3 (by omega) (l.drop k)
      have hd0 : 0 < l.length - k := by omega
      have C := Lib.hid fun (A' : Option Addr) (c' : Nat) (hrd : Rd wr wr.heap.size A' (bvs (l.drop k))) => alike_any A' (l.length - k) c' (l.drop k) wr hrd (by simp) hd0 (by omega) 3 (by omega)
      have HL := Lib.hid (And.intro hlt1 hlt2)
      have HST := Lib.hid hst
      have H3 := Lib.hid h3
      have HRD : Rd wr wr.heap.size (A.map (·.add k)) (bvs (l.drop k)) := by have := HR.out.drop k; rwa [bvs_drop] at this
      have HA := Lib.hid (C.out _ (c - k) HRD)
      clear hst h3 hbl hr hkm HRD C HR
      obtain ⟨a, ha⟩ : ∃ a, a = alikeN 3 (l.drop k) := ⟨_, rfl⟩
      rw [← ha] at HA H3
      clear ha
      cases h : threeB (l.drop k) with
      | true =>
        rw [h] at HST H3
        have hd : decide ((a : Int) < 3) = false := by rw [decide_eq_false_iff_not]; have := H3.out.2 rfl; omega
        have hk' := HK.out
        rw [HST.out, if_pos rfl, Nat.add_zero] at hk'
        have HKK := Lib.hid hk'
        clear hk'
        go_wp2_with fail
        all_goals
          refine HA.out.mono ?_
          rintro e w2 ⟨rfl, hb2⟩
          have HB2 := Lib.hid (HB.out.trans (hb2.mono HB.out.size))
          clear hb2
          go_wp2_with fail
          go_ret
          exact ⟨by rw [HKK.out]; rfl, HB2.out⟩
      | false =>
        rw [h] at HST H3
        have hd : decide ((a : Int) < 3) = true := by
          rw [decide_eq_true_eq]
          rcases Nat.lt_or_ge a 3 with g | g
          · omega
          · have := H3.out.1 g; cases this
        have hk' := HK.out
        rw [HST.out, if_neg (by decide)] at hk'
        have HKK := Lib.hid (show k + 1 + apartN (128 - (k + 1)) (l.drop (k + 1)) = T by omega)
        clear hk'
        go_wp2_with fail
        all_goals
          refine HA.out.mono ?_
          rintro e w2 ⟨rfl, hb2⟩
          have HB2 := Lib.hid (HB.out.trans (hb2.mono HB.out.size))
          clear hb2
          go_wp2_with fail
          go_roundw
          case rel => exact ⟨k + 1, by go_num, by omega, HL.out.2, HL.out.1, HKK, HB2.out⟩
          case measure => have := HL.out.2; simp [intOf]; omega
    · have hmin : decide ((k : Int) < if 128 < l.length then (128 : Int) else (l.length : Int)) = false := by rw [decide_eq_false_iff_not]; split <;> omega
      have hk' : k = T := by
        rw [← HK.out]
        rcases Nat.lt_or_ge k l.length with g | g
        · obtain rfl : k = 128 := by omega
          show _ = 128 + apartN 0 _
          cases hq : l.drop 128 <;> rfl
        · rw [apart_end g]; rfl
      have HKK := Lib.hid hk'
      clear hk'
      rcases Nat.lt_or_ge k l.length with g | g
      · have g1 : ¬ ((l.length : Int) ≤ 128) := by omega
        have g2 : ¬ ((k : Int) < 128) := by omega
        clear hlt g
        go_wp2_with fail
        go_ret
        exact ⟨by rw [HKK.out]; rfl, HB.out⟩
      · have g1 : ¬ (k : Int) < (l.length : Int) := by omega
        clear hlt
        go_wp2_with fail
        all_goals
          go_ret
          exact ⟨by rw [HKK.out]; rfl, HB.out⟩
end Go.Proofs.Ytclhgjjehnmncaa
