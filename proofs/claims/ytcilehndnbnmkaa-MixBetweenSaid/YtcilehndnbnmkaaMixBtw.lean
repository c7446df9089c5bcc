/- Layer 24: the law MixBetween. -/
import Derived.Test.YtcilehndnbnmkaaMixKnown
import Derived.Test.YtcilehndnbnmkaaMixArg
namespace Go.Proofs.Ytcilehndnbnmkaa
open Go.RowKit Go.Sort

/-- The least and the greatest of the numbers, as the law reckons them. -/
def lowM (l : List Int) : Int := l.foldl (fun a p => min a (max p 0)) 65536
def highM (l : List Int) : Int := l.foldl (fun a p => max a (min p 65536)) 0
theorem lowM_snoc (l : List Int) (p : Int) : lowM (l ++ [p]) = min (lowM l) (max p 0) := by simp [lowM]
theorem highM_snoc (l : List Int) (p : Int) : highM (l ++ [p]) = max (highM l) (min p 65536) := by simp [highM]
theorem take_next {l : List Int} {k : Nat} (h : k < l.length) : l.take (k + 1) = l.take k ++ [l[k]] := by rw [List.take_add_one, List.getElem?_eq_getElem h]; rfl
theorem lowM_all (l : List Int) : ∀ k, k ≤ l.length → lowM (l.take k) ≤ 65536 ∧ ∀ p ∈ l.take k, lowM (l.take k) ≤ clM p
  | 0, _ => by simp [lowM]
  | k + 1, h => by
    have ih := lowM_all l k (by omega)
    rw [take_next (by omega), lowM_snoc]
    refine ⟨by omega, fun p hp => ?_⟩
    rcases List.mem_append.1 hp with h1 | h1
    · have := ih.2 p h1; omega
    · obtain rfl := List.mem_singleton.1 h1
      unfold clM
      omega
theorem highM_all (l : List Int) : ∀ k, k ≤ l.length → 0 ≤ highM (l.take k) ∧ ∀ p ∈ l.take k, clM p ≤ highM (l.take k)
  | 0, _ => by simp [highM]
  | k + 1, h => by
    have ih := highM_all l k (by omega)
    rw [take_next (by omega), highM_snoc]
    refine ⟨by omega, fun p hp => ?_⟩
    rcases List.mem_append.1 hp with h1 | h1
    · have := ih.2 p h1; omega
    · obtain rfl := List.mem_singleton.1 h1
      unfold clM
      omega
theorem between_M {n : Nat} {W l : List Int} (h : WtsM n W) (hl : l.length = n) (h0 : 0 < n) : min (max (lowM l) 32) 65504 ≤ mixM W l ∧ mixM W l ≤ max (min (highM l) 65504) 32 := by
  have h1 := lowM_all l l.length (Nat.le_refl _)
  have h2 := highM_all l l.length (Nat.le_refl _)
  rw [List.take_length] at h1 h2
  exact mixM_within h hl h0 fun p hp => ⟨h1.2 p hp, h2.2 p hp⟩

/-- A mixer that lives on. -/
structure MSolo (w wr : World) (F n : Nat) (W : List Int) : Prop where
  f : IsMix wr F n W
  below : Below w.heap.size w wr
  lo : w.heap.size ≤ F
theorem MSolo.grow {w wr w' : World} {F n : Nat} {W : List Int} (h : MSolo w wr F n W) (hb : Below wr.heap.size wr w') : MSolo w w' F n W :=
  ⟨h.f.grow hb, h.below.trans (hb.mono h.below.size), h.lo⟩
theorem MSolo.next {w wr w' : World} {F n : Nat} {W W2 : List Int} (h : MSolo w wr F n W) (hm : IsMix w' F n W2) (hu : TurnsB F F wr w') : MSolo w w' F n W2 :=
  ⟨hm, h.below.trans (hu.below h.lo h.lo h.below.size), h.lo⟩
theorem LB.ok.at2 {w W : World} {s : LB} (h : s.ok w w.heap.size) (hb : Below w.heap.size w W) : Rd W W.heap.size s.A (zvs s.l) := (h.2.2.below hb).more hb.size

set_option maxHeartbeats 8000000 in
set_option maxRecDepth 100000 in
theorem mixBetween_law (n0 : Nat) (hn0 : n0 < 256) (A : Option Addr) (L m : Nat) (ss : List LB) (w : World) (hr : RdLB w w.heap.size A ss) (hL : ss.length = L) (hL63 : L ≤ 9223372036854775807) :
    Calls Try.prog 6 #[.int .u8 (n0 : Int), .slice A L m] w (Yes w) := by
  have CK := Lib.hid mixKnown_any
  by_cases h600 : 600 < L
  · have h2 : (600 : Int) < (L : Int) := by omega
    clear hr hL
    go_enter Try.func6, Try.ntmps6
    go_wp2_with fail
    refine (CK.out _).mono ?_
    rintro e w' ⟨rfl, hb⟩
    go_wp2
    go_ret
    exact ⟨rfl, hb⟩
  obtain ⟨n, hn⟩ : ∃ n, n = 1 + n0 % 8 := ⟨_, rfl⟩
  have e1 : 1 + (n0 : Int) % 8 = (n : Int) := by omega
  have E1 := Lib.hid e1
  have hn8 : 1 ≤ n ∧ n ≤ 8 := by omega
  have CN := Lib.hid (mixNew_any n w hn8)
  have HN := Lib.hid hn8
  have HR := Lib.hid hr
  have HL := Lib.hid hL
  have hn1 : n ≤ 8 := hn8.2
  have a2 : ¬ ((600 : Int) < (L : Int)) := by omega
  clear hr hL hn e1 hn8
  go_enter Try.func6, Try.ntmps6
  go_wp2_with fail
  rw [E1.out]
  refine CN.out.mono ?_
  rintro e w1 ⟨F, rfl, hf1, hF, hb1⟩
  have HS1 := Lib.hid (⟨hf1, hb1, hF⟩ : MSolo w w1 F n (List.replicate n 64))
  clear hf1 hb1 hF
  go_wp2
  go_loopw [7] (fun ii wr => ∃ (k : Nat) (W : List Int), k ≤ L ∧ ii = .int .i64 (k : Int) ∧ MSolo w wr F n W) (fun ii _ => L - (intOf ii).toNat)
  case atStart => exact ⟨0, _, Nat.zero_le _, rfl, HS1.out⟩
  case round =>
    clear HS1
    obtain ⟨k, W, hk, rfl, hso⟩ := hrel
    have HS := Lib.hid hso
    clear hso
    by_cases hlt : k < L
    · have hkl : k < ss.length := by have := HL.out; omega
      obtain ⟨hsok, b, off, rfl, hbl, hc0, hc1⟩ := HR.out k _ (List.getElem?_eq_getElem hkl)
      obtain ⟨s, hs⟩ : ∃ s, s = ss[k] := ⟨_, rfl⟩
      rw [← hs] at hc0 hc1 hsok
      obtain ⟨sA, sn, sc, sl, y⟩ := s
      have HSK := Lib.hid hsok
      simp only at hc0 hc1
      have HC := Lib.hid (fun (W : World) (h : Below w.heap.size w W) => And.intro ((h.cell (p := ⟨b, off + k * 2, none⟩) hbl).trans hc0) ((h.cell (p := ⟨b, off + k * 2 + 1, none⟩) hbl).trans hc1))
      obtain ⟨d0, d1⟩ := HC.out wr HS.out.below
      have hki : (k : Int) < (L : Int) := by omega
      have hkL : k < 600 := by omega
      clear hc0 hc1 hbl hs hkl hsok
      by_cases hln : sn = n
      · subst hln
        have hlen : sl.length = sn := HSK.out.1
        have hrs := fun (W : World) (h : Below w.heap.size w W) => HSK.out.at2 h
        simp only at hrs
        have HRS := Lib.hid hrs
        have HLEN := Lib.hid hlen
        clear hlen hrs
        go_wp2
        go_loopw [8, 9, 10] (fun lo hi jj wr2 => ∃ j : Nat, j ≤ sn ∧ lo = .int .i64 (lowM (sl.take j)) ∧ hi = .int .i64 (highM (sl.take j)) ∧ jj = .int .i64 (j : Int) ∧ MSolo w wr2 F sn W) (fun _ _ jj _ => sn - (intOf jj).toNat)
        case atStart => exact ⟨0, Nat.zero_le _, rfl, rfl, rfl, HS.out⟩
        case round =>
          clear HS d0 d1
          obtain ⟨j, hj, rfl, rfl, rfl, hso⟩ := hrel
          have HS := Lib.hid hso
          clear hso
          by_cases hjn : j < sn
          · have hjl : j < sl.length := by rw [HLEN.out]; exact hjn
            obtain ⟨ab, ao, rfl, -, hc2⟩ := cell_of_rd (HRS.out wr HS.out.below) hjl
            obtain ⟨d0, d1⟩ := HC.out wr HS.out.below
            have hlo := lowM_snoc (sl.take j) (sl[j]'hjl)
            have hhi := highM_snoc (sl.take j) (sl[j]'hjl)
            rw [← take_next hjl] at hlo hhi
            obtain ⟨x, hx⟩ : ∃ x, x = sl[j]'hjl := ⟨_, rfl⟩
            rw [← hx] at hlo hhi hc2
            obtain ⟨a, ha⟩ : ∃ a, a = lowM (sl.take j) := ⟨_, rfl⟩
            obtain ⟨z, hz⟩ : ∃ z, z = highM (sl.take j) := ⟨_, rfl⟩
            rw [← ha] at hlo ⊢
            rw [← hz] at hhi ⊢
            have HLH := Lib.hid (And.intro hlo hhi)
            have hji : (j : Int) < (sn : Int) := by omega
            clear hlo hhi hx ha hz hjl d1
            go_wp2
            go_region
            go_wp2
            refine ⟨⟨j + 1, by omega, by rw [HLH.out.1], by rw [HLH.out.2], by go_num, HS.out.grow (by exact below_drawn wr 1)⟩, by simp [intOf]; omega⟩
          · obtain rfl : j = sn := by omega
            have htk : sl.take j = sl := List.take_of_length_le (by rw [HLEN.out]; exact Nat.le_refl _)
            rw [htk]
            have hbt := between_M HS.out.f.wts HLEN.out (by have := HN.out; omega)
            have hmb : 0 ≤ mixM W sl ∧ mixM W sl ≤ 65536 := by have := heldM_ok (dotM W sl / W.sum); unfold mixM; omega
            have CP := Lib.hid (mixP_any (m := sc) HS.out.f (HRS.out wr HS.out.below) HLEN.out)
            obtain ⟨pm, hpm⟩ : ∃ pm, pm = mixM W sl := ⟨_, rfl⟩
            rw [← hpm] at CP hbt hmb
            obtain ⟨lo, hlo⟩ : ∃ lo, lo = lowM sl := ⟨_, rfl⟩
            obtain ⟨hi, hhi⟩ : ∃ hi, hi = highM sl := ⟨_, rfl⟩
            rw [← hlo, ← hhi] at hbt ⊢
            obtain ⟨d0, d1⟩ := HC.out wr HS.out.below
            have t1 : ¬ (pm < min (max lo 32) 65504) := by omega
            have t2 : ¬ (max (min hi 65504) 32 < pm) := by omega
            have T12 := Lib.hid (And.intro t1 t2)
            clear htk hbt hpm hlo hhi t1 t2
            go_wp2_with fail
            refine CP.out.mono ?_
            rintro e w3 ⟨rfl, jj, hwj⟩
            have hs3 := HS.out.grow (w' := w3) (by rw [hwj]; exact below_drawn wr jj)
            have CS := Lib.hid (mixSeen_any (w := w3.drew) (m := sc) y (hs3.f.same rfl) (rd_turns (HSK.out.2.2.below hs3.below).drew hs3.lo hs3.below.size) HLEN.out)
            have HS3 := Lib.hid (hs3.grow (w' := w3.drew) (by exact below_drawn w3 1))
            clear hwj d0 d1
            obtain ⟨d0, d1⟩ := HC.out w3 hs3.below
            obtain ⟨t1, t2⟩ := T12.out
            clear hs3
            go_wp2
            clear t1 t2
            refine wp_region_still_tail 11 (by kernel_rfl) (by kernel_rfl) ?_
            simp only [List.take_succ_cons, List.take_zero, List.drop_succ_cons, List.drop_zero]
            repeat still_step
            refine wpStill_nil ?_
            change wpList _ _ _ _ _ w3.drew
            go_wp2_with fail
            refine CS.out.mono ?_
            rintro e w4 ⟨⟨u, rfl⟩, hm4, hu4⟩
            have hs4 := HS3.out.next hm4 hu4
            have HS4 := Lib.hid hs4
            have CWT := Lib.hid (mixWeights_any hs4.f)
            clear hm4 hu4 d0 d1 hs4
            go_wp2_with fail
            refine CWT.out.mono ?_
            rintro e w5 ⟨v5, rfl, ho5, hb5⟩
            obtain ⟨A5, c5, rfl, -, -, -⟩ := own_form ho5
            have HS5 := Lib.hid (HS4.out.grow hb5)
            have HO5 := Lib.hid (Rd.of_own ho5)
            have HW5 := Lib.hid HS4.out.f.wts
            clear ho5 hb5
            go_wp2
            go_loopw [13] (fun ii wr2 => ∃ i : Nat, i ≤ j ∧ ii = .int .i64 (i : Int) ∧ wr2 = w5) (fun ii _ => j - (intOf ii).toNat)
            case atStart => exact ⟨0, Nat.zero_le _, rfl, rfl⟩
            case round =>
              obtain ⟨i, hi, rfl, rfl⟩ := hrel
              by_cases hij : i < j
              · have hil : i < (seenM W sl y).length := by rw [HW5.out.len]; exact hij
                obtain ⟨ab, ao, rfl, -, hc2⟩ := cell_of_rd HO5.out hil
                have hxk := HW5.out.ok _ (List.getElem_mem hil)
                obtain ⟨x, hx⟩ : ∃ x, x = (seenM W sl y)[i]'hil := ⟨_, rfl⟩
                rw [← hx] at hc2 hxk
                have t1 : ¬ (x < 1) := by omega
                have t2 : ¬ (255 < x) := by omega
                have hiji : (i : Int) < (j : Int) := by omega
                clear hx hil hxk
                go_wp2
                refine ⟨⟨i + 1, by omega, by go_num, by simp⟩, by simp [intOf]; omega⟩
              · obtain rfl : i = j := by omega
                go_wp2
                refine ⟨⟨k + 1, _, by omega, by go_num, HS5.out⟩, by simp [intOf]; omega⟩
      · have hlq : ((sn : Int) != (n : Int)) = true := by simp; omega
        go_wp2
        refine ⟨⟨k + 1, _, by omega, by go_num, HS.out⟩, by simp [intOf]; omega⟩
    · obtain rfl : k = L := by omega
      go_wp2_with fail
      refine (CK.out _).mono ?_
      rintro e w3 hy
      obtain ⟨rfl, hb3⟩ : Yes w e w3 := ⟨hy.1, HS.out.below.trans (hy.2.mono HS.out.below.size)⟩
      go_wp2
      go_ret
      exact ⟨rfl, hb3⟩
end Go.Proofs.Ytcilehndnbnmkaa
