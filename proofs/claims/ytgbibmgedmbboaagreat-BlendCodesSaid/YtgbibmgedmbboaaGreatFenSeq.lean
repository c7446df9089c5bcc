/- Contracts of layer 12: the ways up and down, gone through by functions that are ranged over. -/
import Derived.Test.YtgbibmgedmbboaaGreatFenTree
import Derived.Test.YtgbibmgedmbboaaGreatRangeState
import Derived.RangeFuncNested
import Derived.RangeFuncBox
import Derived.RangeFuncLeaves
import Derived.Shelf.Abstract
import Derived.OwnWalkIn
import Derived.TacticsInMore
import Derived.LoopNIn
import Derived.LoopIn
import Derived.Maps.AppendAt
namespace Go.Proofs.YtgbibmgedmbboaaGreat
open Go.RowKit Go.Shelf
attribute [local go_sem] Oper.semAt_some

/-- The way down from a place, to what another one ends with. -/
def IsDown (e : Nat) : Nat → List Nat → Prop
  | p, [] => p ≤ e
  | p, x :: r => x = p ∧ e < p ∧ IsDown e (p - fLow p) r
theorem isDown_ex (e : Nat) : ∀ p, ∃ xs, IsDown e p xs := by
  intro p
  induction p using Nat.strongRecOn with
  | ind p ih =>
    by_cases h : e < p
    · obtain ⟨r, hr⟩ := ih (p - fLow p) (by have := fLow_pos p; omega)
      exact ⟨p :: r, rfl, h, hr⟩
    · exact ⟨[], by simp only [IsDown]; omega⟩
/-- The way up from a place. -/
def IsUp (n : Nat) : Nat → List Nat → Prop
  | p, [] => n < p
  | p, x :: r => x = p ∧ p ≤ n ∧ IsUp n (p + fLow p) r
theorem isUp_ex (n : Nat) : ∀ d p, n + 1 - p = d → ∃ xs, IsUp n p xs := by
  intro d
  induction d using Nat.strongRecOn with
  | ind d ih =>
    intro p hd
    by_cases h : p ≤ n
    · obtain ⟨r, hr⟩ := ih (n + 1 - (p + fLow p)) (by have := fLow_pos p; omega) (p + fLow p) rfl
      exact ⟨p :: r, rfl, h, hr⟩
    · exact ⟨[], by simp only [IsUp]; omega⟩

/-- What number lies in a box. -/
def boxNat (W : World) (B : Nat) : Nat := match W.cell? ⟨B, 0, none⟩ with
  | some v => (intOf v).toNat
  | none => 0
theorem boxNat_eq {W : World} {B p : Nat} {t : TypeId} (h : Boxed W B t (.int .i64 (p : Int))) : boxNat W B = p := by
  unfold boxNat; rw [h.cell]; simp [intOf]

def keepD (Bp Be : Nat) (k : Nat) : Prop := k = Bp ∨ k = Be
theorem boxed_keeps {keep : Nat → Prop} {W W' : World} {B : Nat} {t : TypeId} {v : Value} (h : Boxed W B t v) (hk : KeepsB keep W W') (hb : keep B) : Boxed W' B t v := (hk.2 B hb).trans h

set_option maxRecDepth 100000 in
set_option maxHeartbeats 2000000 in
theorem down1_hands (n : Nat) (hn : 1 ≤ n) (Bp Be p e : Nat) (hne : Bp ≠ Be) (hp : p < 2 ^ 62) (xs : List Nat) (hx : IsDown e p xs) (w : World) (hBp : Boxed w Bp 3 (.int .i64 (p : Int))) (hBe : Boxed w Be 3 (.int .i64 (e : Int))) :
    HandsOn n Tryz.prog 108 #[.pointer (some ⟨Bp, 0, none⟩), .pointer (some ⟨Be, 0, none⟩)] Bp (keepD Bp Be) (fun x : Nat => #[Value.int .i64 (x : Int)]) xs w := by
  intro l J W hW hJ hJd hY h0
  refine callsIn_of_wp Tryz.func108 rfl trivial ?_ rfl
  simp only [Tryz.ntmps108, List.size_toArray, List.length_cons, List.length_nil, Nat.reduceAdd, Nat.reduceSub, Array.replicate_succ, Array.replicate_zero, List.push_toArray, List.append_toArray, List.nil_append, List.cons_append]
  gi_wp2
  gi_loopw [] (fun wr => ∃ (pre rest : List Nat) (q : Nat), xs = pre ++ rest ∧ IsDown e q rest ∧ q < 2 ^ 62 ∧ Boxed wr Bp 3 (.int .i64 (q : Int)) ∧ Boxed wr Be 3 (.int .i64 (e : Int)) ∧ J pre wr)
    (fun wr => boxNat wr Bp)
  case atStart => exact ⟨[], xs, p, rfl, hx, hp, boxed_keeps hBp hW (.inl rfl), boxed_keeps hBe hW (.inr rfl), h0⟩
  case round =>
    obtain ⟨pre, rest, q, hxs, hdn, hq, hbp, hbe, hJs⟩ := hrel
    have hcp := hbp.cell
    have hce := hbe.cell
    have hm := boxNat_eq hbp
    have HXS := Lib.hid hxs
    cases rest with
    | nil =>
      have hle : q ≤ e := hdn
      rw [List.append_nil] at hxs
      clear hm
      gi_wp2
      go_end0
      exact ⟨⟨_, rfl⟩, by rw [hxs]; exact hJs⟩
    | cons x r =>
      obtain ⟨rfl, hlt, hdn⟩ := hdn
      obtain ⟨fn, tmps, assign, body, hy, hR⟩ := hY pre x r wr hxs.symm hJs
      have HDN := Lib.hid hdn
      have C := Lib.hid (fenLowest_any x (by omega) hq)
      have hl1 := fLow_le (i := x) (by omega) (by omega)
      have hl0 := fLow_pos x
      have hwr : IntKind.i64.wrap ((x : Int) - (fLow x : Int)) = ((x - fLow x : Nat) : Int) := by rw [IntKind.wrap_i64]; omega
      have HWR := Lib.hid hwr
      have HM := Lib.hid hm
      clear hdn hxs hm hwr
      gi_wp2
      refine hR.mono ?_
      rintro e3 W3 ⟨rfl, hJ3, hk3⟩
      have hbp3 := boxed_keeps hbp hk3 (.inl rfl)
      have hbe3 := boxed_keeps hbe hk3 (.inr rfl)
      have hcp3 := hbp3.cell
      have hfp3 := hbp3.frozen
      gi_wp2
      refine wpIn_wide.2 ?_
      go_region_with (go_at_call 103; refine (C.out _).mono ?_; rintro e w' ⟨rfl, rfl⟩)
      all_goals go_wp2
      all_goals
        rw [HWR.out]
        have hb4 : Boxed (W3.setCell ⟨Bp, 0, none⟩ (.int .i64 ((x - fLow x : Nat) : Int))).drew Bp 3 (.int .i64 ((x - fLow x : Nat) : Int)) := hbp3.set _
        refine ⟨⟨pre ++ [x], r, x - fLow x, by simp [HXS.out], HDN.out, by omega, hb4, Blk.setOther (cs := [_]) hbe3 _ _ (fun e => hne e.symm), hJd _ _ 1 (hJ _ _ _ hJ3)⟩, ?_⟩
        rw [HM.out, boxNat_eq hb4]; omega

def keepU (Bp Bt T : Nat) (k : Nat) : Prop := k = Bp ∨ k = Bt ∨ k = T
set_option maxRecDepth 100000 in
set_option maxHeartbeats 2000000 in
theorem up1_hands (n : Nat) (hn : 1 ≤ n) (Bp Bt T S N p : Nat) (tot : Int) (hne : Bp ≠ Bt) (hneT : Bp ≠ T) (hp0 : 0 < p) (hp : p < 2 ^ 40) (hN : N ≤ 4096) (xs : List Nat) (hx : IsUp N p xs) (w : World) (hBp : Boxed w Bp 3 (.int .i64 (p : Int))) (hBt : Boxed w Bt 129 (.pointer (some ⟨T, 0, none⟩)))
    (hT : Blk w T 146 [.slice (some ⟨S, 0, none⟩) (N + 1 : Nat) (N + 1), .int .i64 tot]) :
    HandsOn n Tryz.prog 109 #[.pointer (some ⟨Bp, 0, none⟩), .pointer (some ⟨Bt, 0, none⟩)] Bp (keepU Bp Bt T) (fun x : Nat => #[Value.int .i64 (x : Int)]) xs w := by
  intro l J W hW hJ hJd hY h0
  refine callsIn_of_wp Tryz.func109 rfl trivial ?_ rfl
  simp only [Tryz.ntmps109, List.size_toArray, List.length_cons, List.length_nil, Nat.reduceAdd, Nat.reduceSub, Array.replicate_succ, Array.replicate_zero, List.push_toArray, List.append_toArray, List.nil_append, List.cons_append]
  gi_wp2
  gi_loopw [] (fun wr => ∃ (pre rest : List Nat) (q : Nat), xs = pre ++ rest ∧ IsUp N q rest ∧ 0 < q ∧ q < 2 ^ 40 ∧ Boxed wr Bp 3 (.int .i64 (q : Int)) ∧ Boxed wr Bt 129 (.pointer (some ⟨T, 0, none⟩)) ∧ Blk wr T 146 [.slice (some ⟨S, 0, none⟩) (N + 1 : Nat) (N + 1), .int .i64 tot] ∧ J pre wr)
    (fun wr => 4097 - boxNat wr Bp)
  case atStart => exact ⟨[], xs, p, rfl, hx, hp0, hp, boxed_keeps hBp hW (.inl rfl), boxed_keeps hBt hW (.inr (.inl rfl)), (hW.2 T (.inr (.inr rfl))).trans hT, h0⟩
  case round =>
    obtain ⟨pre, rest, q, hxs, hdn, hq0, hq, hbp, hbt, hbT, hJs⟩ := hrel
    have hcp := hbp.cell
    have hct := hbt.cell
    have hm := boxNat_eq hbp
    have HXS := Lib.hid hxs
    have CL := Lib.hid (fun (W' : World) (e : W'.heap = wr.heap) => fenLen_blk (hbT.same e) hN)
    cases rest with
    | nil =>
      have hle : N < q := hdn
      rw [List.append_nil] at hxs
      clear hm
      gi_wp2
      refine wpIn_wide.2 ?_
      go_quiet ((go_at_call 79; exact quietOf CL.out))
      gi_wp2
      go_end0
      exact ⟨⟨_, rfl⟩, by rw [hxs]; exact hJd _ _ nq hJs⟩
    | cons x r =>
      obtain ⟨rfl, hlt, hdn⟩ := hdn
      have HDN := Lib.hid hdn
      have C := Lib.hid (fenLowest_any x (by omega) (by omega))
      have hl1 := fLow_le (i := x) (by omega) (by omega)
      have hl0 := fLow_pos x
      have hwr : IntKind.i64.wrap ((x : Int) + (fLow x : Int)) = ((x + fLow x : Nat) : Int) := by rw [IntKind.wrap_i64]; omega
      have HWR := Lib.hid hwr
      have HM := Lib.hid hm
      clear hdn hxs hm hwr
      gi_wp2
      refine wpIn_wide.2 ?_
      go_quiet ((go_at_call 79; exact quietOf CL.out))
      obtain ⟨fn, tmps, assign, body, hy, hR⟩ := hY pre x r (wr.drewN nq) HXS.out.symm (hJd _ _ nq hJs)
      gi_wp2
      refine hR.mono ?_
      rintro e3 W3 ⟨rfl, hJ3, hk3⟩
      have hbp3 := boxed_keeps (W := wr.drewN nq) hbp hk3 (.inl rfl)
      have hbt3 := boxed_keeps (W := wr.drewN nq) hbt hk3 (.inr (.inl rfl))
      have hT3 := (hk3.2 T (.inr (.inr rfl))).trans hbT
      have hcp3 := hbp3.cell
      have hfp3 := hbp3.frozen
      gi_wp2
      refine wpIn_wide.2 ?_
      go_region_with (go_at_call 103; refine (C.out _).mono ?_; rintro e w' ⟨rfl, rfl⟩)
      all_goals go_wp2
      all_goals
        rw [HWR.out]
        have hb4 : Boxed (W3.setCell ⟨Bp, 0, none⟩ (.int .i64 ((x + fLow x : Nat) : Int))).drew Bp 3 (.int .i64 ((x + fLow x : Nat) : Int)) := hbp3.set _
        refine ⟨⟨pre ++ [x], r, x + fLow x, by simp [HXS.out], HDN.out, by omega, by omega, hb4, Blk.setOther (cs := [_]) hbt3 _ _ (fun e => hne e.symm), Blk.setOther hT3 _ _ (fun e => hneT e.symm), hJd _ _ 1 (hJ _ _ _ hJ3)⟩, ?_⟩
        rw [HM.out, boxNat_eq hb4]; omega
end Go.Proofs.YtgbibmgedmbboaaGreat
