/- Layer 20: the program's Of and Cost. -/
import Derived.Test.YtjncmfoommlldaaLensAll
namespace Go.Proofs.Ytjncmfoommlldaa
open Go.RowKit Go.Sort Go.Shelf

section
variable {w : World} {A : Option Addr} {n m : Nat} {c : List Int}
set_option maxHeartbeats 1000000 in
set_option maxRecDepth 100000 in
theorem lens_bad (hr : Rd w w.heap.size A (zvs c)) (hn : c.length = n) (hb : 4096 < n ∨ c.any nBad = true) :
    Calls Try.prog 11 #[.slice A n m] w fun e w' => e = .returned (.slice none 0 0) ∧ w' = w := by
  by_cases h : 4096 < n
  · clear hr hn hb
    go_enter Try.func11, Try.ntmps11
    go_wp2
    go_ret
    exact ⟨rfl, rfl⟩
  · have hbad := hb.resolve_left h
    have C := Lib.hid (contains_any (m := m) (w := w) 26 nBad (enters_of Try.func26 (by kernel_rfl) rfl) (fun x W => lensWrong_any x W) hr hn (by omega))
    rw [hbad] at C
    have hn4 : n ≤ 4096 := by omega
    clear hr hn hb hbad h
    go_enter Try.func11, Try.ntmps11
    go_wp2_with fail
    refine C.out.mono ?_
    rintro _ w1 ⟨rfl, hw⟩
    subst w1
    go_wp2
    go_ret
    exact ⟨rfl, rfl⟩
set_option maxHeartbeats 2000000 in
set_option maxRecDepth 100000 in
theorem lens_Of (hr : Rd w w.heap.size A (zvs c)) (hn : c.length = n) (hn1 : n ≤ 1500) (hc : Good c) :
    Calls Try.prog 11 #[.slice A n m] w fun e w' => ∃ v out, e = .returned v ∧ LensOfR c out ∧ LensV w.heap.size out v w' ∧ Below w.heap.size w w' := by
  have hsum : ∀ {c' : List Int}, Good c' → c'.length = n → c'.sum ≤ 9007199254740992 := fun {c'} h1 h2 => by have := good_sum h1; omega
  have C := Lib.hid (contains_any (m := m) (w := w) 26 nBad (enters_of Try.func26 (by kernel_rfl) rfl) (fun x W => lensWrong_any x W) hr hn (by omega))
  rw [good_bad.2 hc] at C
  have D := Lib.hid (fun (W : World) (A' : Option Addr) (m' : Nat) (c' : List Int) (h1 : Rd W W.heap.size A' (zvs c')) (h2 : c'.length = n) (h3 : Good c') => lens_lensOf (m := m') (w := W) h1 h2 (by omega) h3 (hsum h3 h2))
  have E := Lib.hid (fun (W : World) (A' : Option Addr) (m' n' : Nat) (o : List Int) (h1 : Rd W W.heap.size A' (zvs o)) (h2 : o.length = n') (h3 : n' ≤ 4096) => contains_any (m := m') (w := W) 28 longB (enters_of Try.func28 (by kernel_rfl) rfl) (fun x W => lensLong_any x W) h1 h2 h3)
  have F := Lib.hid (fun (W : World) (A' : Option Addr) (m' : Nat) (c' : List Int) (h1 : Rd W W.heap.size A' (zvs c')) (h2 : c'.length = n) (h3 : Good c') => lens_halves (m := m') (w := W) h1 h2 (by omega) h3)
  have HR := Lib.hid hr
  have HC := Lib.hid (And.intro hn hc)
  have hn4 : n ≤ 4096 := by omega
  clear hr hn hc hsum
  go_enter Try.func11, Try.ntmps11
  go_wp2_with fail
  refine C.out.mono ?_
  rintro _ w1 ⟨rfl, hw⟩
  subst w1
  clear C
  go_wp2_with fail
  refine (D.out w A m c HR.out HC.out.1 HC.out.2).mono ?_
  rintro _ w2 ⟨v2, o2, rfl, hd2, hl2, hb2⟩
  have HST := Lib.hid (And.intro hd2 (And.intro hl2 hb2))
  clear hd2 hl2 hb2
  go_wp2
  go_loopg [0, 3] (c.sum.toNat) (fun gg s0 s3 wr => ∃ (A' : Option Addr) (m' : Nat) (c' o : List Int), s0 = .slice A' n m' ∧ Rd wr wr.heap.size A' (zvs c') ∧ c'.length = n ∧ Good c' ∧ DeepR c' o ∧ LensV w.heap.size o s3 wr ∧ (∀ r, LensOfR c' r → LensOfR c r) ∧ Below w.heap.size w wr ∧ c'.sum.toNat = gg)
  case atStart => exact ⟨A, m, c, o2, rfl, (HR.out.below HST.out.2.2).more HST.out.2.2.size, HC.out.1, HC.out.2, HST.out.1, HST.out.2.1, fun _ h => h, HST.out.2.2, rfl⟩
  case round =>
    clear HST
    obtain ⟨A', m', c', o, rfl, hr', hn', hg', hd', hl', hway, hb', hgg⟩ := hrel
    obtain ⟨A3, n3, rfl, hn3, hr3⟩ := hl'.rd
    have hn34 : n3 ≤ 4096 := by rw [← hn3, hd'.len, hn']; exact hn4
    have E1 := Lib.hid (E.out wr A3 n3 n3 o hr3 hn3 hn34)
    have F1 := Lib.hid (F.out wr A' m' c' hr' hn' hg')
    have HREL := Lib.hid (And.intro hn' (And.intro hg' (And.intro hd' (And.intro hl' (And.intro hway (And.intro hb' hgg))))))
    obtain ⟨b, hb⟩ : ∃ b, b = o.any longB := ⟨_, rfl⟩
    rw [← hb] at E1
    have HBB := Lib.hid hb
    clear hr' hn' hg' hd' hl' hway hb' hgg hr3 hn3 hb
    cases b with
    | false =>
      have HEND := Lib.hid (HREL.out.2.2.2.2.1 o (.done c' o HREL.out.2.2.1 ((short_iff o).1 HBB.out.symm)))
      go_wp2_with fail
      refine E1.out.mono ?_
      rintro _ w1 ⟨rfl, hw⟩
      subst w1
      go_wp2
      go_ret
      exact ⟨_, o, rfl, HEND.out, HREL.out.2.2.2.1, HREL.out.2.2.2.2.2.1⟩
    | true =>
      have hns : ¬ Short o := fun hs => by
        have := (short_iff o).2 hs
        rw [← HBB.out] at this; cases this
      have HNS := Lib.hid (And.intro hns (deep_less HREL.out.2.2.1 (fun x hx => (HREL.out.2.1 x hx).1) (by rw [HREL.out.1]; exact hn1) hns))
      clear hns
      go_wp2_with fail
      refine E1.out.mono ?_
      rintro _ w1 ⟨rfl, hw⟩
      subst w1
      clear E1
      go_wp2_with fail
      refine F1.out.mono ?_
      rintro _ w4 ⟨v4, rfl, hl4, hb4⟩
      obtain ⟨A4, n4, rfl, hn4', hr4⟩ := hl4.rd
      have hlen4 : (c'.map halfI).length = n := by rw [List.length_map]; exact HREL.out.1
      obtain rfl : n = n4 := by omega
      have G := Lib.hid (D.out w4 A4 n (c'.map halfI) hr4 hlen4 (good_half HREL.out.2.1))
      have HB4 := Lib.hid (HREL.out.2.2.2.2.2.1.trans (hb4.mono HREL.out.2.2.2.2.2.1.size))
      have HR4 := Lib.hid hr4
      have HL4 := Lib.hid hlen4
      clear hl4 hb4 hn4' hr4 F1 hlen4
      go_wp2_with fail
      refine G.out.mono ?_
      rintro _ w5 ⟨v5, o5, rfl, hd5, hl5, hb5⟩
      have HEND := Lib.hid (And.intro (hl5.more (HB4.out.size)) (And.intro hd5 (And.intro (HB4.out.trans (hb5.mono HB4.out.size)) ((HR4.out.below hb5).more hb5.size))))
      clear hd5 hl5 hb5
      go_wp2
      go_roundg ((c'.map halfI).sum.toNat)
      case measure =>
        have h1 := HNS.out.2
        have h2 := (good_sum (good_half HREL.out.2.1)).1
        have h3 := HREL.out.2.2.2.2.2.2
        omega
      case rel => exact ⟨A4, n, c'.map halfI, o5, rfl, HEND.out.2.2.2, HL4.out, good_half HREL.out.2.1, HEND.out.2.1, HEND.out.1, fun r hr => HREL.out.2.2.2.2.1 r (.half c' o r HREL.out.2.2.1 HNS.out.1 hr), HEND.out.2.2.1, rfl⟩
end
end Go.Proofs.Ytjncmfoommlldaa
