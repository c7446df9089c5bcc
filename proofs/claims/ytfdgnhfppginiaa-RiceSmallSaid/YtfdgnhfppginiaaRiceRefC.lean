/- Layer 19: the reference's Code. -/
import Derived.Test.YtfdgnhfppginiaaRiceRefB
namespace Go.Proofs.Ytfdgnhfppginiaa
open Go.RowKit Go.Sort

set_option maxRecDepth 100000 in
set_option maxHeartbeats 1000000 in
theorem riceRCode_wrong (W : Int) (hW : rightB W = false) (A : Option Addr) (n c : Nat) (w : World) :
    Calls Try.prog 15 #[.slice A n c, .int .i64 W] w fun e w' => e = .returned (.slice none 0 0) ∧ w = w' := by
  have C1 := Lib.hid (refRight_any W false hW.symm)
  clear hW
  go_enter Try.func15, Try.ntmps15
  go_wp2_with fail
  refine (C1.out _).mono ?_
  rintro _ w0 ⟨rfl, hw0⟩
  subst w0
  go_wp2
  go_ret
  exact ⟨rfl, rfl⟩
set_option maxRecDepth 100000 in
set_option maxHeartbeats 1000000 in
theorem riceRCode_any {W : Nat} (hW : IsW W) (A : Option Addr) (c : Nat) (l : List UInt8) (w : World) (hr : Rd w w.heap.size A (bvs l)) (hnc : l.length ≤ c) (hb : l.length ≤ 2000) {L : List Bool} (hL : RiceB (8 * W) 16 1 (wordsOf W l) L) (hLl : L.length ≤ 200000) :
    Calls Try.prog 15 #[.slice A l.length c, .int .i64 (W : Int)] w fun e w' => ∃ bs, Packs bs (L ++ allBits (restOf W l)) ∧ NewBy w bs e w' := by
  have C1 := Lib.hid (refRight_any (W : Int) true hW.right)
  have C2 := Lib.hid (riceBits_any hW A c l w hr hnc hb hL hLl)
  have hal : (allBits (restOf W l)).length ≤ 64 := by rw [allBits_length]; have := rest_lt (W := W) (by have := hW.pos; omega) l; have := hW.pos; omega
  obtain ⟨M, hM⟩ : ∃ M, M = L ++ allBits (restOf W l) := ⟨_, rfl⟩
  have hMl : M.length ≤ 300000 := by rw [hM, List.length_append]; omega
  rw [← hM] at C2 ⊢
  have HML := Lib.hid hMl
  clear hr hnc hb hL hLl hW hal hM hMl
  go_enter Try.func15, Try.ntmps15
  go_wp2_with fail
  refine (C1.out _).mono ?_
  rintro _ w0 ⟨rfl, hw0⟩
  subst w0
  go_wp2_with fail
  refine C2.out.mono ?_
  rintro _ w1 ⟨v1, rfl, hown1, hb1⟩
  obtain ⟨A1, c1, rfl, -, -, -⟩ := own_form hown1
  have C3 := Lib.hid (rfBytes_any A1 M.length c1 M w1 (Rd.of_own hown1) rfl (by have := HML.out; omega))
  have HB1 := Lib.hid hb1
  clear hown1 hb1 C1 C2
  go_wp2_with fail
  refine C3.out.mono ?_
  rintro _ w2 ⟨bs, hpk, v2, rfl, hown2, hb2⟩
  have HE := Lib.hid (And.intro hpk (And.intro (own_more hown2 HB1.out.size) (HB1.out.trans (hb2.mono HB1.out.size))))
  clear hpk hown2 hb2 C3
  go_wp2
  go_ret
  exact ⟨bs, HE.out.1, _, rfl, HE.out.2.1, HE.out.2.2⟩
end Go.Proofs.Ytfdgnhfppginiaa
