/- Layer 21: how letters compare. -/
import Derived.Test.YtjncmfoommlldaaCanonOrd
import Derived.Test.YtjncmfoommlldaaNormFn
import Derived.Test.YtjncmfoommlldaaInts
import Derived.Deep.RegionWith
import Derived.StillTailTactics
namespace Go.Proofs.Ytjncmfoommlldaa
open Go.RowKit Go.Sort Go.Shelf

def cmpN (x y : Int) : Int := if x < y then -1 else if y < x then 1 else 0
theorem isNaN_any (x : Int) (w : World) : Calls Try.prog 59 #[.int .i64 x] w fun e w' => e = .returned (.bool false) ∧ w' = w := by
  go_enter Try.func59, Try.ntmps59
  go_wp2
  go_ret
  exact ⟨rfl, rfl⟩
set_option maxHeartbeats 1000000 in
set_option maxRecDepth 100000 in
theorem compare_any (x y : Int) (w : World) : Calls Try.prog 51 #[.int .i64 x, .int .i64 y] w fun e w' => e = .returned (.int .i64 (cmpN x y)) ∧ w' = w := by
  have C := Lib.hid isNaN_any
  unfold cmpN
  go_enter Try.func51, Try.ntmps51
  by_cases h1 : x < y
  · rw [if_pos h1]
    go_wp2_with (go_at_call 59; go_must (refine (C.out _ _).mono ?_; rintro _ _ ⟨rfl, rfl⟩))
    go_ret
    exact ⟨rfl, rfl⟩
  · rw [if_neg h1]
    by_cases h2 : y < x
    · rw [if_pos h2]
      go_wp2_with (go_at_call 59; go_must (refine (C.out _ _).mono ?_; rintro _ _ ⟨rfl, rfl⟩))
      go_ret
      exact ⟨rfl, rfl⟩
    · rw [if_neg h2]
      go_wp2_with (go_at_call 59; go_must (refine (C.out _ _).mono ?_; rintro _ _ ⟨rfl, rfl⟩))
      go_ret
      exact ⟨rfl, rfl⟩
def orN (a b : Int) : Int := if a = 0 then b else a
set_option maxHeartbeats 1000000 in
set_option maxRecDepth 100000 in
/-- Of two the first that isn't 0. -/
theorem or_two (a b : Int) (g : Nat) (w : World) (h0 : w.cell? ⟨g, 0, none⟩ = some (.int .i64 a)) (h1 : w.cell? ⟨g, 1, none⟩ = some (.int .i64 b)) :
    Calls Try.prog 50 #[.slice (some ⟨g, 0, none⟩) 2 2] w fun e w' => e = .returned (.int .i64 (orN a b)) ∧ w' = w := by
  have H := Lib.hid (And.intro h0 h1)
  clear h0 h1
  go_enter Try.func50, Try.ntmps50
  go_wp2
  go_loopw [8] (fun i wr => ∃ j : Nat, j ≤ 2 ∧ i = .int .i64 (j : Int) ∧ (1 ≤ j → a = 0) ∧ (2 ≤ j → b = 0) ∧ wr = w) (fun i _ => 2 - (intOf i).toNat)
  case atStart => exact ⟨0, by decide, rfl, by omega, by omega, by first | trivial | rfl⟩
  case round =>
    obtain ⟨j, hj, rfl, ha, hb, rfl⟩ := hrel
    obtain ⟨h0, h1⟩ := H.out
    rcases (by omega : j = 0 ∨ j = 1 ∨ j = 2) with rfl | rfl | rfl
    · by_cases e : a = 0
      · subst e
        go_wp2
        go_roundw
        case rel => exact ⟨1, by decide, rfl, fun _ => by first | trivial | rfl, by omega, by first | trivial | rfl⟩
        case measure => decide
      · go_wp2
        go_ret
        exact ⟨by rw [show orN a b = a from if_neg e]; rfl, rfl⟩
    · obtain rfl := ha (by decide)
      by_cases e : b = 0
      · subst e
        go_wp2
        go_roundw
        case rel => exact ⟨2, by decide, rfl, fun _ => by first | trivial | rfl, fun _ => by first | trivial | rfl, by first | trivial | rfl⟩
        case measure => decide
      · go_wp2
        go_ret
        exact ⟨by rw [show orN 0 b = b from if_pos rfl]; rfl, rfl⟩
    · obtain rfl := ha (by decide)
      obtain rfl := hb (by decide)
      go_wp2
      go_ret
      exact ⟨rfl, rfl⟩
theorem new_cell (w : World) (xs : List Value) (t : TypeId) {k : Nat} {u : Value} (h : xs[k]? = some u) : ((w.alloc (.cells xs.toArray t)).drew).cell? ⟨w.heap.size, k, none⟩ = some u := by
  obtain ⟨b, off, he, -, hc⟩ := Rd.new w xs.toArray t k u (by simpa using h)
  obtain ⟨rfl, rfl⟩ : w.heap.size = b ∧ off = 0 := by injection he with e; injection e with e1 e2; exact ⟨e1, e2.symm⟩
  rw [Nat.zero_add] at hc
  exact hc
/-- How two letters compare. -/
def cfL (l : List Int) (i j : Nat) : Int := orN (cmpN (l.getD i 0) (l.getD j 0)) (cmpN (i : Int) (j : Int))
set_option maxHeartbeats 2000000 in
set_option maxRecDepth 100000 in
theorem inOrder_cmp {w : World} {B : Nat} {A : Option Addr} {n m E : Nat} {l : List Int} (hb : w.cell? ⟨E, 0, none⟩ = some (.slice A n m)) (hr : Rd w B A (zvs l)) (hn : l.length = n) (i j : Nat) (hi : i < n) (hj : j < n) :
    Calls Try.prog 49 #[.int .i64 (i : Int), .int .i64 (j : Int), .pointer (some ⟨E, 0, none⟩)] w fun e w' => e = .returned (.int .i64 (cfL l i j)) ∧ ∃ q os, w' = grow (w.drewN q) os := by
  have hil : i < l.length := by omega
  have hjl : j < l.length := by omega
  obtain ⟨ab, ao, rfl, -, hc1⟩ := cell_of_rd hr hil
  obtain ⟨ab', ao', he, -, hc2⟩ := cell_of_rd hr hjl
  obtain ⟨rfl, rfl⟩ : ab = ab' ∧ ao = ao' := by injection he with e; injection e with e1 e2; exact ⟨e1, e2⟩
  have e1 : l.getD i 0 = l[i] := by simp [List.getD_eq_getElem?_getD, hil]
  have e2 : l.getD j 0 = l[j] := by simp [List.getD_eq_getElem?_getD, hjl]
  unfold cfL
  rw [e1, e2]
  obtain ⟨x, hx⟩ : ∃ x, x = l[i]'hil := ⟨_, rfl⟩
  obtain ⟨y, hy⟩ : ∃ y, y = l[j]'hjl := ⟨_, rfl⟩
  rw [← hx] at hc1 ⊢
  rw [← hy] at hc2 ⊢
  have C := Lib.hid compare_any
  have hii : (i : Int) < (n : Int) := by omega
  have hji : (j : Int) < (n : Int) := by omega
  have DO := Lib.hid (or_two (cmpN x y) (cmpN (i : Int) (j : Int)) w.heap.size ((w.alloc (.cells #[.int .i64 (cmpN x y), .int .i64 (cmpN (i : Int) (j : Int))] 3)).drew) (new_cell w [.int .i64 (cmpN x y), .int .i64 (cmpN (i : Int) (j : Int))] 3 (k := 0) rfl) (new_cell w [.int .i64 (cmpN x y), .int .i64 (cmpN (i : Int) (j : Int))] 3 (k := 1) rfl))
  clear he hr hx hy hn e1 e2 hil hjl
  go_enter Try.func49, Try.ntmps49
  go_wp2
  go_region_with (first | (go_at_call 51; refine (C.out _ _ _).mono ?_; rintro _ _ ⟨rfl, rfl⟩) | (go_at_call 50; refine DO.out.mono ?_; rintro _ _ ⟨rfl, rfl⟩))
  all_goals go_wp2
  all_goals go_ret
  all_goals exact ⟨rfl, 1, #[_], by rw [alloc_eq_grow]; rfl⟩
end Go.Proofs.Ytjncmfoommlldaa
