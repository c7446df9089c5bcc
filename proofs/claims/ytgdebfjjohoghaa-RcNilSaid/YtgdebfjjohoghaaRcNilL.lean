/- Layer 17: the law RcNil. -/
import Derived.Test.YtgdebfjjohoghaaRcLaws
namespace Go.Proofs.Ytgdebfjjohoghaa
open Go.RowKit Go.Sort Go.Shelf

theorem comesS_short (B : List Nat) (h : B.length ≤ 3) : (comesS 4 (0, B, 0)).2.2 = 16 := by
  match B, h with
  | [], _ => rfl
  | [_], _ => rfl
  | [_, _], _ => rfl
  | [_, _, _], _ => rfl
  | _ :: _ :: _ :: _ :: _, h => simp at h
set_option maxHeartbeats 2000000 in
set_option maxRecDepth 100000 in
theorem rcNil_law (A : Option Addr) (n m : Nat) (lo sz : Int) (l : List UInt8) (w : World) (hr : Rd w w.heap.size A (bvs l)) (hl : l.length = n) (hn : n ≤ 140737488351232) :
    Calls Try.prog 6 #[.slice A n m, .int .i64 lo, .int .i64 sz] w (Yes w) := by
  obtain ⟨i0, hi0, hz0, hz1, hz2⟩ := info_parts info_u8r
  have CK := Lib.hid rcKnown_any
  have HR := Lib.hid hr
  have HL := Lib.hid (show (bvs l).length = n * 1 by rw [bvs_length, hl, Nat.mul_one])
  have HLN := Lib.hid hl
  have HN := Lib.hid hn
  have HOW := Lib.hid (own_none12 w w.heap.size 5 (Nat.le_refl _))
  clear hr hl hn
  go_enter Try.func6, Try.ntmps6
  go_wp2_with ((with_reducible show wpList _ _ _ (({ dst := some 13, op := _, type := _, pos := _, after := _, guard := _ } : Oper) :: _) _ _); go_must (refine wpList_app rfl (.tmp 11) (.tmp 12) 31 rfl w.heap.size 5 i0 (.int .u8 0) 1 1 Try.underlying31 hi0 hz0 hz1 hz2 rfl (by decide) _ 0 [] rfl HOW.out w.heap.size A n m (bvs l) rfl (HR.out.alloc (Nat.le_refl _) _) HL.out (bvs_one _) (by have := HN.out; simp only [maxLen]; omega) (by have := HN.out; omega) (by simp) ?_; intro v1 w1 hown1 hg1; rw [Nat.zero_add, List.nil_append] at hown1; have hb1 : Below w.heap.size w w1 := ((Below.refl w.heap.size w).alloc (Nat.le_refl _) (.cells #[] 5)).grown hg1 (by simp) (own_block HOW.out); obtain ⟨A1, c1, rfl, hc1, -, -⟩ := own_form hown1; clear hg1))
  have hq : (l.take (min (n : Int) 3).toNat).length = (min (n : Int) 3).toNat := by rw [List.length_take, HLN.out]; omega
  have C := Lib.hid (decRead_any (w := w1) (A := A1) (n := (min (n : Int) 3).toNat) (m := c1) (l.take (min (n : Int) 3).toNat) (by rw [← bvs_take]; exact (Rd.of_own hown1).take _) hq (by omega))
  have hsh := comesS_short ((l.take (min (n : Int) 3).toNat).map UInt8.toNat) (by rw [List.length_map, hq]; omega)
  have HB := Lib.hid hb1
  obtain ⟨s, hs⟩ : ∃ s, s = comesS 4 (0, (l.take (min (n : Int) 3).toNat).map UInt8.toNat, 0) := ⟨_, rfl⟩
  rw [← hs] at C hsh
  clear hq hb1 hown1 hs HR HL HLN HN HOW hc1
  refine C.out.mono ?_
  rintro _ w2 ⟨D, rfl, hD, hd, hb2⟩
  have HD := Lib.hid hd
  have HE := Lib.hid (show s.2.2 ≠ 0 by rw [hsh]; decide)
  have HSH := Lib.hid hsh
  have HB2 := Lib.hid (HB.out.trans (hb2.mono HB.out.size))
  clear hd hsh hb2 hD C HB
  go_wp2_with fail
  refine (encPut_nil lo sz sz w2).mono ?_
  rintro _ w0 ⟨rfl, hw0⟩
  subst w0
  go_wp2_with fail
  refine (encBytes_nil w2).mono ?_
  rintro _ w0 ⟨rfl, hw0⟩
  subst w0
  go_wp2_with fail
  refine (decFind_nil sz w2).mono ?_
  rintro _ w0 ⟨rfl, hw0⟩
  subst w0
  go_wp2_with fail
  refine (decTake_nil lo sz sz w2).mono ?_
  rintro _ w0 ⟨rfl, hw0⟩
  subst w0
  go_wp2_with fail
  refine (decErr_nil w2).mono ?_
  rintro _ w0 ⟨rfl, hw0⟩
  subst w0
  go_wp2_with fail
  refine (decDone_nil w2).mono ?_
  rintro _ w0 ⟨rfl, hw0⟩
  subst w0
  go_wp2_with fail
  have hc := decErr_any HD.out
  rw [HSH.out] at hc
  refine hc.mono ?_
  rintro _ w0 ⟨rfl, hw0⟩
  subst w0
  clear hc
  go_wp2_with fail
  refine (decFind_err 2 HD.out HE.out).mono ?_
  rintro _ w0 ⟨rfl, hw0⟩
  subst w0
  go_wp2_with fail
  have hc := decTake_err 0 1 2 HD.out HE.out
  rw [HSH.out] at hc
  refine hc.mono ?_
  rintro _ w0 ⟨rfl, hw0⟩
  subst w0
  clear hc
  go_wp2_with fail
  refine (CK.out w2).mono ?_
  rintro _ w3 ⟨rfl, hb3⟩
  have HB3 := Lib.hid (HB2.out.trans (hb3.mono HB2.out.size))
  clear hb3
  go_wp2
  go_ret
  exact ⟨rfl, HB3.out⟩
end Go.Proofs.Ytgdebfjjohoghaa
