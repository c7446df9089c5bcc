/- Laws of layer 11: what any recipe made is undone. -/
import Derived.Test.YtcenbaajojdjlaaDoorRecKnown
namespace Go.Proofs.YtcenbaajojdjlaaDoor
open Go.RowKit Go.Shelf

set_option maxHeartbeats 2000000 in
set_option maxRecDepth 100000 in
theorem recBack_core (V : Nat) (hV : IsW V) (A : Option Addr) (c : Nat) (l : List UInt8) (u k : Nat) (w : World) (hr : Rd w w.heap.size A (bvs l)) (hnc : l.length ≤ c) (hs : (l.length : Int) ≤ 600) (ht : TabA w) (hw : wrap64 (2 ^ (u % 4)) = (V : Int)) (hk : k ≤ 255) :
    Calls Tryd.prog 3 #[.slice A l.length c, .int .u8 (u : Int), .int .u8 (k : Int)] w (Yes w) := by
  obtain ⟨i0, hi, hz0, hz1, hz2⟩ := info_parts info_u8b
  obtain ⟨n, hn⟩ : ∃ n, n = k % 11 := ⟨_, rfl⟩
  have hn10 : n ≤ 10 := by omega
  have hni : (k : Int) % 11 = (n : Int) := by omega
  have HBL := Lib.hid (show IsBytes l (.slice A l.length c) w from ⟨A, c, rfl, hnc, hr⟩)
  have hba : Below w.heap.size w (w.alloc (.cells #[] 5)) := (Below.refl _ _).alloc (Nat.le_refl _) _
  have HR := Lib.hid (hr.below hba)
  have HNL := Lib.hid (show (bvs l).length = l.length * 1 by rw [bvs_length, Nat.mul_one])
  have hA1 : 0 + l.length ≤ maxLen := by simp only [maxLen]; omega
  have hA2 : (0 + l.length) * 1 ≤ 140737488355328 := by omega
  have HOW := Lib.hid (show (w.alloc (.cells #[] 5)).ownsRow w.heap.size 5 1 (.slice (some ⟨w.heap.size, 0, none⟩) 0 0) 0 [] from ⟨by simp, .inr ⟨w.heap.size, 0, #[], rfl, Nat.le_refl _, heap_alloc_new w _, Nat.le_refl _, Nat.zero_le _, rfl, rfl⟩⟩)
  have HBA := Lib.hid hba
  have HT := Lib.hid ht
  have HV := Lib.hid hV
  have HN := Lib.hid hn10
  have C1 := Lib.hid (fun (v : Value) (w' : World) (h : IsBytes l v w') (ht : TabA w') => go_right hV n hn10 l v w' h (by omega) ht)
  have C2 := Lib.hid (fun (m : List UInt8) (v : Value) (w' : World) (h : IsBytes m v w') (hm : m.length ≤ 3 * l.length + 64) => back_right hV n hn10 l.length (by omega) m v w' h (.inl ⟨by omega, by omega⟩))
  have HG := Lib.hid (fun (m : List UInt8) (h : goR V (stepsL n) l m) => And.intro (backC_go hV n l m (by omega) h) (goR_few hV (stepsL n) l m (steps_all n) (steps_drop n) h))
  clear hr hba ht hV hn hn10
  go_enter Tryd.func3, Tryd.ntmps3
  go_wp2_with ((with_reducible show wpList _ _ _ (({ dst := some 26, op := _, type := _, pos := _, after := _, guard := _ } : Oper) :: _) _ _); go_must (refine wpList_app rfl (.tmp 24) (.tmp 25) 22 rfl w.heap.size 5 i0 (.int .u8 0) 1 1 Tryd.underlying22 hi hz0 hz1 hz2 rfl (by decide) _ _ _ rfl HOW.out w.heap.size A l.length c (bvs l) rfl HR.out HNL.out (bvs_one _) hA1 hA2 (by simp) ?_; intro v1 w1 hown1 hg1; have hb1 := HBA.out.grown hg1 (by simp) (own_block HOW.out); clear hg1))
  clear hw
  rw [Nat.zero_add] at hown1
  have ho1 : IsBytes l v1 w1 := IsBytes.of_own (base := w.heap.size) (e := 5) hown1
  have HO1 := Lib.hid ho1
  have HB1 := Lib.hid hb1
  have HT1 := Lib.hid (HT.out.grow hb1)
  have HL1 := Lib.hid (HBL.out.grow hb1)
  have C3 := Lib.hid (C1.out v1 w1 ho1 HT1.out)
  obtain ⟨A1, c1, rfl, -, -⟩ := ho1
  clear hown1 hb1 C1 HT HR HOW HBA
  refine C3.out.mono ?_
  rintro e w2 ⟨m, v2, hgo, rfl, h2, hb2⟩
  obtain ⟨hback, hfew⟩ := HG.out m hgo
  have HB2 := Lib.hid (HB1.out.trans (hb2.mono HB1.out.size))
  have HT2 := Lib.hid (HT1.out.grow hb2)
  have HL2 := Lib.hid (HL1.out.grow hb2)
  have HO2 := Lib.hid (HO1.out.grow hb2)
  have c4 := C2.out m v2 w2 h2 hfew
  rw [hback] at c4
  have C4 := Lib.hid c4
  obtain ⟨A2, c2, rfl, -, -⟩ := h2
  clear hgo hb2 hback c4 C3 HG C2 HT1 HL1 HO1 HB1
  go_wp2_with fail
  refine C4.out.mono ?_
  rintro e w3 ⟨A3, n3, c3, rfl, hb3, h3⟩
  have HB3 := Lib.hid (HB2.out.trans (hb3.mono HB2.out.size))
  have HT3 := Lib.hid (HT2.out.grow hb3)
  have hs1 := str_run l _ _ (HL2.out.grow hb3)
  have hs2 := str_run l _ _ (HO2.out.grow hb3)
  have hs3 := str_run l _ _ (h3 l rfl)
  obtain ⟨S, hS⟩ : ∃ S : ByteArray, S = ⟨l.toArray⟩ := ⟨_, rfl⟩
  rw [← hS] at hs1 hs2 hs3
  have hen : errN (some l) = 0 := rfl
  rw [hen]
  have hmi : (m.length : Int) ≤ 3 * (l.length : Int) + 64 := by omega
  clear hen hS hb3 h3 C4 HB2 HT2 HL2 HO2 hfew
  go_wp2_with fail
  refine (recKnown_any _ HT3.out).mono ?_
  rintro e w4 ⟨rfl, hb4⟩
  have HB4 := Lib.hid (HB3.out.trans (hb4.mono HB3.out.size))
  clear hb4 hs1 hs2 hs3
  go_wp2
  go_ret
  exact ⟨rfl, HB4.out⟩
theorem recBack_law (A : Option Addr) (n0 c : Nat) (l : List UInt8) (u k : Nat) (w : World) (hr : Rd w w.heap.size A (bvs l)) (hn : l.length = n0) (hnc : n0 ≤ c) (ht : TabA w) (hk : k ≤ 255) :
    Calls Tryd.prog 3 #[.slice A n0 c, .int .u8 (u : Int), .int .u8 (k : Int)] w (Yes w) := by
  subst hn
  by_cases hs : (l.length : Int) ≤ 600
  · obtain ⟨V, hV, hw⟩ := width_of u
    exact recBack_core V hV A c l u k w hr hnc hs ht hw hk
  · have HT := Lib.hid ht
    clear hr ht
    go_enter Tryd.func3, Tryd.ntmps3
    go_wp2_with (go_at_call 4; go_must (refine (recKnown_any _ HT.out).mono ?_; rintro e w' ⟨rfl, hb⟩))
    go_ret
    exact ⟨rfl, hb⟩
end Go.Proofs.YtcenbaajojdjlaaDoor
