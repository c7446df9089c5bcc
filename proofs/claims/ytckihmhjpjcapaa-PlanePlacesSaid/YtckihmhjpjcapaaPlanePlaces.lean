/- The law of layer 8 that goes through all places. -/
import Derived.Test.YtckihmhjpjcapaaPlaneLaws
import Derived.BigQuiet
namespace Go.Proofs.Ytckihmhjpjcapaa
open Go.RowKit

/-- What holds at the head of a round. -/
def PlacesRel (w w1 : World) (n : Nat) (i : Value) (wr : World) : Prop :=
  ∃ k : Nat, k ≤ n ∧ i = .int .i64 k ∧ Below w.heap.size w wr ∧ Below w1.heap.size w1 wr
theorem split_place (V : Nat) (hV : IsW V) (l : List UInt8) (k : Nat) (hk : k < l.length) : (splitL V l).getD (toI l.length V k) 0 = l.getD k 0 := by
  rw [splitL, moveL_get _ _ _ (toI_lt hV.pos.1 hk), from_to hV.pos.1]

set_option maxHeartbeats 2000000 in
set_option maxRecDepth 100000 in
theorem planePlaces_core (n W i : Int) (hn : n ≤ 9223372036854775807) (A : Option Addr) (c : Nat) (l : List UInt8) (w : World) (hr : Rd w w.heap.size A (bvs l)) (hs : (l.length : Int) ≤ 300) :
    Calls Try.prog 4 #[.int .i64 n, .int .i64 W, .int .i64 i, .slice A l.length c] w (Yes w) := by
  have C1 := Lib.hid (planeSplit_any W A l.length c l w hr rfl (by omega))
  have hlen : (ofB splitL W l).length = 0 ∨ ((ofB splitL W l).length = l.length ∧ ∃ V : Nat, W = (V : Int) ∧ IsW V ∧ ofB splitL W l = splitL V l) := by
    cases hR : rightB W with
    | false => exact .inl (by unfold ofB; rw [hR]; rfl)
    | true =>
      obtain ⟨V, rfl, hV⟩ := isW_of hR
      exact .inr ⟨by rw [ofB_of hV, splitL_len], V, rfl, hV, ofB_of hV splitL l⟩
  obtain ⟨L, hL⟩ : ∃ L, L = ofB splitL W l := ⟨_, rfl⟩
  rw [← hL] at C1 hlen
  obtain ⟨p, hp⟩ : ∃ p, p = placeI n W i := ⟨_, rfl⟩
  have C2 := Lib.hid (fun w => place_any n W i hn w)
  have C3 := Lib.hid (fun w => refPlace_any n W i hn w)
  rw [← hp] at C2 C3
  clear hL hp
  go_enter Try.func4, Try.ntmps4
  go_wp2_with fail
  refine C1.out.mono ?_
  rintro e w1 ⟨v, rfl, ⟨A1, c1, rfl, hc1, h1⟩, hb1⟩
  go_wp2_with fail
  go_loopw [10] (PlacesRel w w1 l.length) (fun i _ => l.length - (intOf i).toNat)
  case atStart => exact ⟨0, Nat.zero_le _, rfl, hb1, Below.refl _ _⟩
  case round =>
    obtain ⟨k, hk, rfl, hb, hbr⟩ := hrel
    clear hb1
    by_cases hlt : k < l.length
    · have hk1 : (k : Int) < (l.length : Int) := by omega
      rcases hlen with h0 | ⟨hll, V, hWV, hV, hLs⟩
      · have hL0 : ¬ (0 < (L.length : Int)) := by omega
        go_wp2_with fail
        refine (C2.out _).mono ?_
        rintro e x1 ⟨rfl, hx1⟩
        have hb2 := hb.trans (hx1.mono hb.size)
        go_wp2_with fail
        refine (C3.out _).mono ?_
        rintro e x2 ⟨rfl, hx2⟩
        obtain rfl := hx2.symm
        go_wp2_with fail
        refine (planeKnown_any _).mono ?_
        rintro e x3 ⟨rfl, hx3⟩
        have hb4 := hb2.trans (hx3.mono hb2.size)
        go_wp2
        go_ret
        exact ⟨rfl, hb4⟩
      · have hL1 : (0 : Int) < (L.length : Int) := by omega
        have hT := toI_lt hV.pos.1 hlt
        have hsp := split_place V hV l k hlt
        have c4 := fun w => place_any (l.length : Int) W (k : Int) (by omega) w
        rw [hWV, place_in l.length V k hV hlt] at c4
        obtain ⟨T, hTT⟩ : ∃ T, T = toI l.length V k := ⟨_, rfl⟩
        rw [← hTT] at hT hsp c4
        rw [← hWV] at c4
        rw [← hLs] at hsp
        have hTL : T < L.length := by omega
        have hx : L[T] = l[k] := by
          simpa [List.getD_eq_getElem?_getD, hTL, hlt] using hsp
        obtain ⟨ob, oo, rfl, hob, hoc⟩ := h1 T _ (bvs_get L T hTL)
        obtain ⟨ab, ao, rfl, hab, hac⟩ := hr k _ (bvs_get l k hlt)
        rw [hx] at hoc
        have hd1 : decide ((T : Int) < 0) = false := by rw [decide_eq_false_iff_not]; omega
        have hd2 : decide (L.length ≤ T) = false := by rw [decide_eq_false_iff_not]; omega
        have ht1 : (T : Int) < (L.length : Int) := by omega
        obtain ⟨x, hxx⟩ : ∃ x, x = l[k] := ⟨_, rfl⟩
        rw [← hxx] at hoc hac
        have C4 := Lib.hid c4
        clear c4 hTT hsp hx hLs hV hWV hxx hTL hll
        go_wp2_with fail
        refine (C4.out _).mono ?_
        rintro e w2 ⟨rfl, hb2⟩
        have hbr2 := hbr.trans (hb2.mono hbr.size)
        have hbw2 := hb.trans (hb2.mono hb.size)
        have hc1' := (hbr2.cell (p := ⟨ob, oo + T, none⟩) hob).trans hoc
        have hc2' := (hbw2.cell (p := ⟨ab, ao + k, none⟩) hab).trans hac
        clear hb2 hb hbr hoc hac
        go_wp2_with fail
        go_quiet (fail)
        go_wp2
        go_roundw
        case rel => exact ⟨k + 1, by omega, by go_num, below_drewN hbw2 nq, below_drewN hbr2 nq⟩
        case measure => simp [intOf]; omega
    · have hk1 : ¬ ((k : Int) < (l.length : Int)) := by omega
      go_wp2_with fail
      refine (C2.out _).mono ?_
      rintro e x1 ⟨rfl, hx1⟩
      have hb2 := hb.trans (hx1.mono hb.size)
      go_wp2_with fail
      refine (C3.out _).mono ?_
      rintro e x2 ⟨rfl, hx2⟩
      obtain rfl := hx2.symm
      go_wp2_with fail
      refine (planeKnown_any _).mono ?_
      rintro e x3 ⟨rfl, hx3⟩
      have hb4 := hb2.trans (hx3.mono hb2.size)
      go_wp2
      go_ret
      exact ⟨rfl, hb4⟩
theorem planePlaces_law (n W i : Int) (hn : n ≤ 9223372036854775807) (A : Option Addr) (m c : Nat) (l : List UInt8) (w : World) (hr : Rd w w.heap.size A (bvs l)) (hl : l.length = m) :
    Calls Try.prog 4 #[.int .i64 n, .int .i64 W, .int .i64 i, .slice A m c] w (Yes w) := by
  subst hl
  by_cases hs : (l.length : Int) ≤ 300
  · exact planePlaces_core n W i hn A c l w hr hs
  · clear hr hn
    go_enter Try.func4, Try.ntmps4
    go_wp2_with (go_at_call 6; go_must (refine (planeKnown_any _).mono ?_; rintro e w' ⟨rfl, hb⟩))
    go_ret
    exact ⟨rfl, hb⟩
end Go.Proofs.Ytckihmhjpjcapaa
