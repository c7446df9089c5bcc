/- Layer 25: the law ModelBytes. -/
import Derived.Test.YtnghcfogigglmaaModBit
namespace Go.Proofs.Ytnghcfogigglmaa
open Go.RowKit Go.Sort

/-- Two models beside one another. -/
structure MTwin (w wr : World) (a b : ModA) (s t : ModD) : Prop where
  f : IsModel wr a s
  g : IsModel wr b t
  lo : (∀ k ∈ a.every, w.heap.size ≤ k) ∧ (∀ k ∈ b.every, w.heap.size ≤ k)
  ab : ∀ k ∈ a.every, k ∉ b.all
  ba : ∀ k ∈ b.every, k ∉ a.all
  below : Below w.heap.size w wr
section
variable {w wr w' : World} {a b : ModA} {s t s' : ModD}
theorem MTwin.grow (h : MTwin w wr a b s t) (hb : Below wr.heap.size wr w') : MTwin w w' a b s t := ⟨h.f.grow hb, h.g.grow hb, h.lo, h.ab, h.ba, h.below.trans (hb.mono h.below.size)⟩
theorem MTwin.one (h : MTwin w wr a b s t) (hm : IsModel w' a s') (hu : OnlyS a.all wr w') : MTwin w w' a b s' t :=
  ⟨hm, h.g.only hu h.ba, h.lo, h.ab, h.ba, h.below.trans (hu.below (fun k hk => h.lo.1 k (ModA.all_every k hk)) h.below.size)⟩
theorem MTwin.two (h : MTwin w wr a b s t) (hm : IsModel w' b s') (hu : OnlyS b.all wr w') : MTwin w w' a b s s' :=
  ⟨h.f.only hu h.ab, hm, h.lo, h.ab, h.ba, h.below.trans (hu.below (fun k hk => h.lo.2 k (ModA.all_every k hk)) h.below.size)⟩
theorem MTwin.made {w1 : World} (h : IsModel w1 a s) (hlo : ∀ k ∈ a.every, w.heap.size ≤ k) (hb : Below w.heap.size w w1) (h' : IsModel w' b t) (hlo' : ∀ k ∈ b.every, w1.heap.size ≤ k) (hb' : Below w1.heap.size w1 w') : MTwin w w' a b s t :=
  ⟨h.grow hb', h', ⟨hlo, fun k hk => Nat.le_trans hb.size (hlo' k hk)⟩, fun k hk hk' => by have := h.lt k hk; have := hlo' k (ModA.all_every k hk'); omega,
    fun k hk hk' => by have := h.lt k (ModA.all_every k hk'); have := hlo' k hk; omega, hb.trans (hb'.mono hb.size)⟩
theorem MTwin.drewN (h : MTwin w wr a b s t) (j : Nat) : MTwin w (wr.drewN j) a b s t := h.grow (below_drawn wr j)
end
set_option maxHeartbeats 4000000 in
set_option maxRecDepth 100000 in
theorem modBytes_law (A : Option Addr) (L m : Nat) (l : List UInt8) (w : World) (hr : Rd w w.heap.size A (bvs l)) (hL : l.length = L) (hL63 : L ≤ 9223372036854775807) :
    Calls Try.prog 4 #[.slice A L m] w (Yes w) := by
  have CK := Lib.hid modKnown_any
  by_cases h100 : 100 < L
  · have h2 : (100 : Int) < (L : Int) := by omega
    clear hr hL
    go_enter Try.func4, Try.ntmps4
    go_wp2_with fail
    refine (CK.out _).mono ?_
    rintro e w' ⟨rfl, hb⟩
    go_wp2
    go_ret
    exact ⟨rfl, hb⟩
  have h2 : ¬ ((100 : Int) < (L : Int)) := by omega
  have CN := Lib.hid modNew_any
  have HR := Lib.hid hr
  have HL := Lib.hid hL
  clear hr hL
  go_enter Try.func4, Try.ntmps4
  go_wp2_with fail
  refine (CN.out _).mono ?_
  rintro e w1 ⟨a, rfl, hm1, hlo1, hb1⟩
  have H1 := Lib.hid (And.intro hm1 (And.intro hlo1 hb1))
  clear hm1 hlo1 hb1
  go_wp2_with fail
  refine (CN.out _).mono ?_
  rintro e w2 ⟨b, rfl, hm2, hlo2, hb2⟩
  have HT2 := Lib.hid (MTwin.made H1.out.1 H1.out.2.1 H1.out.2.2 hm2 hlo2 hb2)
  clear hm2 hlo2 hb2 H1
  go_wp2
  go_loopw [5] (fun ii wr => ∃ (i q r : Nat) (s : ModD), i ≤ L ∧ ii = .int .i64 (i : Int) ∧ s.p = ⟨1, q, r⟩ ∧ Hid (∀ h : 0 < i, q = (l.getD (i - 1) 0).toNat) ∧ MTwin w wr a b s s) (fun ii _ => L - (intOf ii).toNat)
  case atStart => exact ⟨0, 0, 0, newD, Nat.zero_le _, rfl, rfl, Lib.hid (fun h => absurd h (by decide)), HT2.out⟩
  case round =>
    clear HT2
    obtain ⟨i, q, r, s0, hi, rfl, hp0, HQ, ht⟩ := hrel
    have HT := Lib.hid ht
    have HP0 := Lib.hid hp0
    clear ht hp0
    by_cases hlt : i < L
    · have hil : i < l.length := by rw [HL.out]; exact hlt
      obtain ⟨ab, ao, rfl, hab, hcell⟩ := HR.out i _ (bvs_get l i hil)
      have hgd : l.getD i 0 = l[i] := by rw [List.getD_eq_getElem?_getD, List.getElem?_eq_getElem hil, Option.getD_some]
      obtain ⟨c, hc⟩ : ∃ c, c = l[i].toNat := ⟨_, rfl⟩
      rw [← hc] at hcell
      have hc256 : c < 256 := by rw [hc]; exact l[i].toNat_lt
      have HC := Lib.hid (show c = (l.getD i 0).toNat by rw [hgd, hc])
      have HCELL := Lib.hid (fun (W : World) (h : Below w.heap.size w W) => (h.cell (p := ⟨ab, ao + i, none⟩) hab).trans hcell)
      have HS0 := Lib.hid (show s0.p = posB c 0 q r by rw [posB_zero q r hc256]; exact HP0.out)
      have hii : (i : Int) < (L : Int) := by omega
      clear hcell hab hgd hc hil HP0
      go_wp2
      go_loopw [6] (fun kk wr2 => ∃ (k : Nat) (s : ModD), k ≤ 8 ∧ kk = .int .i64 (k : Int) ∧ s.p = posB c k q r ∧ MTwin w wr2 a b s s) (fun kk _ => 8 - (intOf kk).toNat)
      case atStart => exact ⟨0, s0, Nat.zero_le _, rfl, HS0.out, HT.out⟩
      case round =>
        clear HT HS0
        obtain ⟨k, s, hk, rfl, hp, ht⟩ := hrel
        have HT := Lib.hid ht
        by_cases hk8 : k < 8
        · have hki : (k : Int) < 8 := by omega
          have CB := Lib.hid (fun w => refBit_any c k w hc256 hk8)
          have CP1 := Lib.hid (modP_any ht.f)
          have CP2 := Lib.hid (fun (W : World) (hb : Below wr.heap.size wr W) => modP_any (ht.g.grow hb))
          have HP := Lib.hid (show (s.seen ((bitD c k : Nat) : Int)).p = posB c (k + 1) q r by show s.p.step _ = _; rw [hp]; exact posB_next q r hc256 hk8)
          have hb2 := bitD_lt c k
          have HB0 : 0 ≤ ((bitD c k : Nat) : Int) := by omega
          have HB1 : ((bitD c k : Nat) : Int) ≤ 1 := by omega
          obtain ⟨x, hx⟩ : ∃ x : Int, x = ((bitD c k : Nat) : Int) := ⟨_, rfl⟩
          rw [← hx] at CB HP HB0 HB1
          have hch := s.chance_ok
          obtain ⟨p, hpp⟩ : ∃ p, p = s.chance := ⟨_, rfl⟩
          rw [← hpp] at CP1 CP2 hch
          have t1 : ¬ (p < 32) := by omega
          have t2 : ¬ (65504 < p) := by omega
          clear ht hp hb2 hx hpp hch
          go_wp2_with fail
          refine CP1.out.mono ?_
          rintro e w3 ⟨rfl, hb3⟩
          have CP3 := Lib.hid (CP2.out w3 hb3)
          have HT3 := Lib.hid (HT.out.grow hb3)
          clear hb3
          go_wp2_with fail
          refine CP3.out.mono ?_
          rintro e w4 ⟨rfl, hb4⟩
          have ht4 := HT3.out.grow hb4
          have HT4 := Lib.hid ht4
          have hcell := HCELL.out w4 ht4.below
          have CS := Lib.hid (modSeen_any x ht4.f)
          clear hb4 ht4
          go_wp2_with fail
          refine (CB.out _).mono ?_
          rintro e w' ⟨rfl, hw⟩
          obtain rfl : _ = w' := hw.symm
          go_wp2_with fail
          refine CS.out.mono ?_
          rintro e w5 ⟨⟨u, rfl⟩, hm, hu⟩
          have ht5 := HT4.out.one hm hu
          have HT5 := Lib.hid ht5
          clear hcell
          have hcell := HCELL.out w5 ht5.below
          have CS5 := modSeen_any (5 * x) ht5.g
          rw [ModD.seen_five] at CS5
          have CS6 := Lib.hid CS5
          clear hm hu ht5 CS5
          go_wp2_with fail
          refine (CB.out _).mono ?_
          rintro e w' ⟨rfl, hw⟩
          obtain rfl : _ = w' := hw.symm
          go_wp2_with fail
          refine CS6.out.mono ?_
          rintro e w6 ⟨⟨u', rfl⟩, hm, hu⟩
          have HT6 := Lib.hid (HT5.out.two hm hu)
          clear hm hu hcell
          go_wp2
          go_roundw
          case rel => exact ⟨k + 1, _, by omega, by go_num, HP.out, HT6.out⟩
          case measure => simp [intOf]; omega
        · obtain rfl : k = 8 := by omega
          have cw := modWhere_any ht.f.mb
          rw [hp, posB_eight] at cw
          rw [posB_eight] at hp
          have CW := Lib.hid cw
          have HP := Lib.hid hp
          clear ht hp cw
          go_wp2_with fail
          refine CW.out.mono ?_
          rintro e w4 ⟨rfl, j, hw⟩
          have ht4 : MTwin w w4 a b s s := by rw [hw]; exact HT.out.drewN j
          have HT4 := Lib.hid ht4
          have hcell := HCELL.out w4 ht4.below
          have HNQ := Lib.hid (show 0 < i + 1 → c = (l.getD (i + 1 - 1) 0).toNat from fun _ => HC.out)
          clear hw
          by_cases h0 : 0 < i
          · have h0i : 0 < (i : Int) := by omega
            have hjl : i - 1 < l.length := by rw [HL.out]; omega
            obtain ⟨ab', ao', hAe, hab, hcell2⟩ := HR.out (i - 1) _ (bvs_get l (i - 1) hjl)
            injection hAe with hAe
            injection hAe with e1 e2 _
            subst e1
            subst e2
            have hq : q = l[i - 1].toNat := by rw [HQ.out h0, List.getD_eq_getElem?_getD, List.getElem?_eq_getElem hjl, Option.getD_some]
            rw [← hq] at hcell2
            have hcell3 := (ht4.below.cell (p := ⟨ab, ao + (i - 1), none⟩) hab).trans hcell2
            have n1 : ((i : Int) - 1).toNat = i - 1 := by omega
            have n2 : 0 ≤ (i : Int) - 1 := by omega
            have n3 : (i : Int) - 1 < (L : Int) := by omega
            have hq256 : q < 256 := by rw [hq]; exact l[i - 1].toNat_lt
            clear ht4 hab hcell2 hq hjl
            go_wp2
            go_roundw
            case rel => exact ⟨i + 1, c, q, s, by omega, by go_num, HP.out, HNQ, HT4.out⟩
            case measure => simp [intOf]; omega
          · have h0i : ¬ (0 < (i : Int)) := by omega
            clear ht4 h0
            go_wp2
            go_roundw
            case rel => exact ⟨i + 1, c, q, s, by omega, by go_num, HP.out, HNQ, HT4.out⟩
            case measure => simp [intOf]; omega
    · obtain rfl : i = L := by omega
      go_wp2_with fail
      refine (CK.out _).mono ?_
      rintro e w7 hy
      obtain ⟨rfl, hb7⟩ : Yes w e w7 := ⟨hy.1, HT.out.below.trans (hy.2.mono HT.out.below.size)⟩
      go_wp2
      go_ret
      exact ⟨rfl, hb7⟩
end Go.Proofs.Ytnghcfogigglmaa
