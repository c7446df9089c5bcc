/-
  Layer 27: the law ModesCode.
-/
import Derived.Test.YtflcmmeoppdhdaaGreatQ34
import Derived.Test.YtflcmmeoppdhdaaGreatQ38
namespace Go.Proofs.YtflcmmeoppdhdaaGreat
open Go.RowKit Go.Sort Go.Shelf

/-- Both sides tell the same of any mode and width. -/
theorem modes_both (m W : Int) {l : List UInt8} (hl : l.length ≤ 150) {A : Option Addr} {w : World} (hr : Rd w w.heap.size A (bvs l)) : ∃ (Q : List UInt8) (E : Int), (∀ (v : Value) (W' : World), IsBytes l v W' → Calls Tryz.prog 8 #[.int .i64 m, v, .int .i64 W] W' (SaysM W' Q E)) ∧ ∀ (v : Value) (W' : World), IsBytes l v W' → Calls Tryz.prog 9 #[.int .i64 m, v, .int .i64 W] W' (SaysM W' Q E) := by
  by_cases hm : m < 0 ∨ 5 < m
  · exact ⟨[], 2, fun v W' _ => mdsCode_mode hm W v W', fun v W' _ => mdsRef_mode hm W⟩
  · obtain ⟨k, rfl⟩ := Int.eq_ofNat_of_zero_le (show 0 ≤ m by omega)
    have hk : k ≤ 5 := by omega
    cases hW : rightB W with
    | false => exact ⟨[], 2, fun v W' _ => mdsCode_width hk hW v W', fun v W' _ => mdsRef_width hk hW⟩
    | true =>
      obtain ⟨V, rfl, hV⟩ := isW_of hW
      obtain ⟨Q, hQ⟩ := modeQ_some k (V := V) l (by omega) hr
      exact ⟨Q, 0, fun v W' h => modesCode_q hk hV hQ (by omega) h, fun v W' h => mdsRef_q hk hV hQ (by omega) h⟩
set_option maxRecDepth 100000 in
set_option maxHeartbeats 2000000 in
theorem modesCode_law (m W : Int) (A : Option Addr) (L c : Nat) (l : List UInt8) (w : World) (hr : Rd w w.heap.size A (bvs l)) (hL : l.length = L) (hLc : L ≤ c) (hL63 : L ≤ 9223372036854775807) :
    Calls Tryz.prog 3 #[.int .i64 m, .slice A L c, .int .i64 W] w (Yes w) := by
  subst hL
  have CK := Lib.hid mdsKnown_any
  by_cases h150 : 150 < l.length
  · have h2 : (150 : Int) < (l.length : Int) := by omega
    clear hr
    go_enter Tryz.func3, Tryz.ntmps3
    go_wp2_with fail
    refine (CK.out _).mono ?_
    rintro e w' ⟨rfl, hb⟩
    go_wp2
    go_ret
    exact ⟨rfl, hb⟩
  · have h2 : ¬ (150 : Int) < (l.length : Int) := by omega
    have hv0 : IsBytes l (.slice A l.length c) w := ⟨A, c, rfl, hLc, hr⟩
    obtain ⟨Q, E, hC1, hC2⟩ := modes_both m W (l := l) (by omega) hr
    have C1 := Lib.hid (hC1 _ _ hv0)
    have C2 := Lib.hid (fun w1 (hb : Below w.heap.size w w1) => hC2 _ _ (hv0.grow hb))
    clear hC1 hC2 hv0 hr h150
    go_enter Tryz.func3, Tryz.ntmps3
    go_wp2_with fail
    refine C1.out.mono ?_
    rintro e w1 ⟨v1, rfl, hv1, hb1⟩
    have HV1 := Lib.hid hv1
    have HB1 := Lib.hid hb1
    clear hv1 hb1 C1
    go_wp2_with fail
    refine (C2.out _ HB1.out).mono ?_
    rintro e w2 ⟨v2, rfl, hv2, hb2⟩
    have HV2 := Lib.hid hv2
    have HV3 := Lib.hid (HV1.out.grow hb2)
    have HB2 := Lib.hid (HB1.out.trans (hb2.mono HB1.out.size))
    clear hv2 hb2 C2 HV1 HB1
    go_wp2_with (first
      | ((with_reducible show wpList _ _ _ (({ dst := some 30, op := _, type := _, pos := _, after := _, guard := _ } : Oper) :: _) _ _); go_must (refine wpList_strW rfl 22 9 5 (.tmp 29) rfl Tryz.underlying22 Tryz.underlying5 Tryz.underlying9 _ HV3.out ?_))
      | ((with_reducible show wpList _ _ _ (({ dst := some 32, op := _, type := _, pos := _, after := _, guard := _ } : Oper) :: _) _ _); go_must (refine wpList_strW rfl 22 9 5 (.tmp 31) rfl Tryz.underlying22 Tryz.underlying5 Tryz.underlying9 _ HV2.out ?_))
      | (go_at_call 7; go_must (refine (CK.out _).mono ?_; rintro e w3 ⟨rfl, hb3⟩; have HB3 := Lib.hid (HB2.out.trans (hb3.mono HB2.out.size)); clear hb3)))
    go_ret
    exact ⟨rfl, HB3.out⟩
end Go.Proofs.YtflcmmeoppdhdaaGreat
