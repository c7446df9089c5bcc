/- Layer 18: the program's Decode. -/
import Derived.Test.YtfdgnhfppginiaaRansDecL
import Derived.Test.YtfdgnhfppginiaaHistGot
namespace Go.Proofs.Ytfdgnhfppginiaa
open Go.RowKit Go.Sort

/-- What Decode answers: bytes, and an error. -/
def DecSays (w : World) (Q : List UInt8 × Nat) (e : Ending) (w' : World) : Prop := ∃ v, e = .returned (.tuple #[v, .int .i64 (Q.2 : Int)]) ∧ IsBytes Q.1 v w' ∧ Below w.heap.size w w'
theorem bytes_nil18 (w : World) : IsBytes [] (.slice none 0 0) w := ⟨none, 0, rfl, Nat.le_refl _, Rd.nil_ _ _ _⟩
/-- What is told of letters, or of none. -/
def decQ : Option (List UInt8) → List UInt8 × Nat
  | some X => (X, 0)
  | none => ([], 16)
set_option maxHeartbeats 1000000 in
set_option maxRecDepth 100000 in
theorem ransDec_nil (A : Option Addr) (m : Nat) (w : World) : Calls Try.prog 13 #[.slice A (0 : Nat) m, .int .i64 0] w (DecSays w ([], 0)) := by
  go_enter Try.func13, Try.ntmps13
  go_wp2
  go_ret2
  exact ⟨_, rfl, bytes_nil18 _, Below.refl _ _⟩
section
variable {w : World} {A : Option Addr} {p m N : Nat} {l : List UInt8}
set_option maxHeartbeats 2000000 in
set_option maxRecDepth 100000 in
theorem ransDec_none (hr : Rd w w.heap.size A (bvs l)) (hp : l.length = p) (hpm : p ≤ m) (hp1 : p ≤ 1000000) (hN : N ≤ 100000) (hne : ¬ (N = 0 ∧ p = 0)) (hg : hGot ((4096 : Nat) : Int) l = none) :
    Calls Try.prog 13 #[.slice A p m, .int .i64 (N : Int)] w (DecSays w ([], 16)) := by
  have C1 := Lib.hid (histGet_any 12 4096 (by decide) (by decide) rfl hr hp hpm hp1)
  rw [hg] at C1
  have hNi : (N : Int) ≤ 100000 := by omega
  have hN0 : (0 : Int) ≤ (N : Int) := by omega
  have HX := Lib.hid (fun (W : World) (hb : Below w.heap.size w W) => show DecSays w ([], 16) (.returned (.tuple #[.slice none 0 0, .int .i64 16])) W from ⟨_, rfl, bytes_nil18 _, hb⟩)
  clear hr hp hg
  by_cases h0 : N = 0
  · subst h0
    have hp0 : ¬ (p : Int) = 0 := by omega
    have hp0b : ((p : Int) == 0) = false := by rw [beq_eq_false_iff_ne]; exact hp0
    have hp0n : ¬ p = 0 := by omega
    clear hne
    go_enter Try.func13, Try.ntmps13
    go_wp2_with fail
    refine C1.out.mono ?_
    rintro _ w1 ⟨hb1, rfl⟩
    have HB1 := Lib.hid hb1
    clear hb1 C1
    go_wp2
    go_ret2
    exact HX.out _ HB1.out
  · have h0i : ¬ (N : Int) = 0 := by omega
    have h0b : ((N : Int) == 0) = false := by rw [beq_eq_false_iff_ne]; exact h0i
    clear hne
    go_enter Try.func13, Try.ntmps13
    go_wp2_with fail
    refine C1.out.mono ?_
    rintro _ w1 ⟨hb1, rfl⟩
    have HB1 := Lib.hid hb1
    clear hb1 C1
    go_wp2
    go_ret2
    exact HX.out _ HB1.out
set_option maxHeartbeats 4000000 in
set_option maxRecDepth 100000 in
theorem ransDec_some {r : List Int} {k : Nat} (hr : Rd w w.heap.size A (bvs l)) (hp : l.length = p) (hpm : p ≤ m) (hp1 : p ≤ 1000000) (hN : N ≤ 100000) (h0 : 0 < N) (hg : hGot ((4096 : Nat) : Int) l = some (r, k)) (hl : r.length = 256) (hnn : ∀ x ∈ r, 0 ≤ x) (hs : r.sum = 4096) (hk : k ≤ p) :
    Calls Try.prog 13 #[.slice A p m, .int .i64 (N : Int)] w (DecSays w (decQ (tellF r N (l.drop k)))) := by
  have C1 := Lib.hid (histGet_any 12 4096 (by decide) (by decide) rfl hr hp hpm hp1)
  rw [hg] at C1
  have hNi : (N : Int) ≤ 100000 := by omega
  have hN0 : ¬ (N : Int) = 0 := by omega
  have hN0b : ((N : Int) == 0) = false := by rw [beq_eq_false_iff_ne]; exact hN0
  have hN1 : (0 : Int) < (N : Int) := by omega
  have hsb : r.any sBad = false := by
    rw [List.any_eq_false]
    intro x hx
    have := hnn x hx
    simp [sBad]; omega
  have HR := Lib.hid hr
  have HH := Lib.hid (And.intro hp (And.intro hpm (And.intro hp1 (And.intro hk (And.intro hN hl)))))
  have HS := Lib.hid (And.intro hsb hs)
  obtain ⟨R, hR⟩ : ∃ R, R = tellF r N (l.drop k) := ⟨_, rfl⟩
  rw [← hR]
  rw [← tellD_is] at hR
  have HRR := Lib.hid hR
  clear hr hp hpm hp1 hg hnn hs hsb hk hR hl h0 hN
  go_enter Try.func13, Try.ntmps13
  go_wp2_with fail
  refine C1.out.mono ?_
  rintro _ w1 ⟨hb1, -, S, rfl, hS⟩
  have C2 := Lib.hid (slotMake_ok (n := 256) (m := 256) 12 4096 (by decide) (by decide) rfl (Rd.of_blk hS) HH.out.2.2.2.2.2 (by decide) HS.out.1 HS.out.2)
  have HB1 := Lib.hid hb1
  clear hb1 hS C1
  go_wp2_with fail
  refine C2.out.mono ?_
  rintro _ w2 ⟨P, rfl, hsl, hb2⟩
  have HSL := Lib.hid hsl
  have HB2 := Lib.hid (HB1.out.trans (hb2.mono HB1.out.size))
  clear hsl hb2 C2 HB1
  have C3 := Lib.hid (ransBehind_any (k := k) (HR.out.below HB2.out) HH.out.1 HH.out.2.1 HH.out.2.2.2.1)
  go_wp2_with fail
  refine C3.out.mono ?_
  rintro _ w3 ⟨A', rfl, hrd, hw3⟩
  subst w3
  have C4 := Lib.hid (ransBegun_any hrd HB2.out.size (by rw [List.length_drop, HH.out.1]) (Nat.le_refl _) (by have := HH.out.2.2.1; omega))
  clear hrd C3 HR
  go_wp2_with fail
  refine C4.out.mono ?_
  rintro _ w4 ⟨D, rfl, hD, hd, hb4⟩
  have C5 := Lib.hid (ransLetters_any (n := N) hd (HSL.out.grow hb4) HH.out.2.2.2.2.2 HH.out.2.2.2.2.1)
  rw [← HRR.out] at C5
  have HB4 := Lib.hid (HB2.out.trans (hb4.mono HB2.out.size))
  have HD := Lib.hid (Nat.le_trans HB2.out.size hD)
  clear hd hb4 hD C4 HSL HB2
  go_wp2_with fail
  refine C5.out.mono ?_
  rintro _ w5 ⟨ht5, hres⟩
  have HB5 := Lib.hid (HB4.out.trans (ht5.below HD.out HD.out HB4.out.size))
  clear ht5 C5 HB4 HRR
  cases R with
  | none =>
    obtain ⟨v, rfl⟩ := hres
    have HX := Lib.hid (show DecSays w (decQ none) (.returned (.tuple #[.slice none 0 0, .int .i64 16])) w5 from ⟨_, rfl, bytes_nil18 _, HB5.out⟩)
    go_wp2
    go_ret2
    exact HX.out
  | some X =>
    obtain ⟨v, rfl, hv⟩ := hres
    have HX := Lib.hid (show DecSays w (decQ (some X)) (.returned (.tuple #[v, .int .i64 0])) w5 from ⟨_, rfl, hv, HB5.out⟩)
    clear hv
    go_wp2
    go_ret2
    exact HX.out
end
end Go.Proofs.Ytfdgnhfppginiaa
