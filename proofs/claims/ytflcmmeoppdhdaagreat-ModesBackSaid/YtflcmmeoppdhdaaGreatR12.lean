/-
  Contracts of layer 14: its small functions. · Layer 21: how letters compare. · Plain mathematics of layer 20: heaps of things, as the library keeps them. · Layer 21: a map whose keys are codes.
-/
import Derived.Test.YtflcmmeoppdhdaaGreatR03
import Derived.Test.YtflcmmeoppdhdaaGreatR10
import Derived.Test.YtflcmmeoppdhdaaGreatR11
import Derived.Shelf.Abstract
import Derived.Deep.RegionWith
import Derived.StillTailTactics
import Derived.Lib.BitFns
import Derived.MapKept
import Derived.Laws.StructEq
namespace Go.Proofs.YtflcmmeoppdhdaaGreat
open Go.RowKit Go.Sort Go.Shelf

theorem many_take (c : List Int) (k : Nat) (h : k < c.length) : many (c.take (k + 1)) = many (c.take k) + if 0 < c[k] then 1 else 0 := by
  unfold many; rw [List.take_add_one, List.getElem?_eq_getElem h, List.map_append, List.sum_append]; simp
theorem many_nn (l : List Int) : 0 ≤ many l := by
  induction l with
  | nil => simp [many]
  | cons a l ih => simp only [many, List.map_cons, List.sum_cons] at ih ⊢; split <;> omega
theorem many_le (l : List Int) : many l ≤ l.length := by
  induction l with
  | nil => simp [many]
  | cons a l ih => simp only [many, List.map_cons, List.sum_cons, List.length_cons] at ih ⊢; split <;> omega
theorem many_zero {c : List Int} (hc : ∀ x ∈ c, 0 ≤ x) (h : many c = 0) : c.sum = 0 := by
  induction c with
  | nil => rfl
  | cons a c ih =>
    have h1 := many_nn c
    have h2 := hc a List.mem_cons_self
    have h3 : many (a :: c) = (if 0 < a then 1 else 0) + many c := by simp [many]
    rw [h3] at h
    by_cases h0 : 0 < a
    · rw [if_pos h0] at h; omega
    · rw [if_neg h0] at h
      have := ih (fun x hx => hc x (List.mem_cons_of_mem _ hx)) (by omega)
      simp [this]; omega

section
variable {w : World} {B : Nat} {A : Option Addr} {n m : Nat} {c : List Int}
set_option maxRecDepth 100000 in
/-- What slices.IndexFunc tells: a place, if one is such, else -1. -/
theorem indexFn_any (K : Nat) (p : Int → Bool) (hE : Enters Tryz.prog K) (hK : ∀ (x : Int) (W : World), Calls Tryz.prog K #[.int .i64 x] W fun e w' => e = .returned (.bool (p x)) ∧ w' = W)
    (hr : Rd w B A (zvs c)) (hn : c.length = n) (hn1 : n ≤ 4096) :
    Calls Tryz.prog 171 #[.slice A n m, .func (.func K) #[] #[]] w fun e w' => ∃ i : Int, e = .returned (.int .i64 i) ∧ w' = w ∧ decide (0 ≤ i) = c.any p := by
  have HE := Lib.hid hE
  have HK := Lib.hid hK
  have HR := Lib.hid hr
  have HC := Lib.hid hn
  clear hE hK hr hn
  go_enter Tryz.func171, Tryz.ntmps171
  go_wp2
  go_loopw [8] (fun i wr => ∃ k : Nat, k ≤ n ∧ i = .int .i64 (k : Int) ∧ (c.take k).any p = false ∧ wr = w) (fun i _ => n - (intOf i).toNat)
  case atStart => exact ⟨0, Nat.zero_le _, rfl, by simp, rfl⟩
  case round =>
    obtain ⟨k, hk, rfl, hnot, rfl⟩ := hrel
    have HN := Lib.hid hnot
    clear hnot
    by_cases hlt : k < n
    · have hkc : k < c.length := by have := HC.out; omega
      obtain ⟨b, off, rfl, -, hcell⟩ := cell_of_rd HR.out hkc
      have ht : (c.take (k + 1)).any p = p c[k] := by
        rw [List.take_add_one, List.getElem?_eq_getElem hkc, List.any_append, HN.out]; simp
      have hmem : c[k] ∈ c := List.getElem_mem hkc
      obtain ⟨x, hx⟩ : ∃ x, x = c[k]'hkc := ⟨_, rfl⟩
      rw [← hx] at hcell ht hmem
      have C := Lib.hid (HK.out x wr)
      have HT := Lib.hid ht
      have HM := Lib.hid hmem
      have hki : (k : Int) < (n : Int) := by omega
      obtain ⟨o, ho⟩ : ∃ o, o = p x := ⟨_, rfl⟩
      rw [← ho] at C HT
      have HO := Lib.hid ho
      clear ht hmem hx ho
      cases o with
      | true =>
        go_wp2_with fail
        rw [HE.out]
        refine C.out.mono ?_
        rintro e w' ⟨rfl, hw⟩
        obtain rfl : _ = w' := hw.symm
        go_wp2
        go_ret
        exact ⟨_, rfl, rfl, by rw [List.any_eq_true.2 ⟨x, HM.out, HO.out.symm⟩]; simp⟩
      | false =>
        go_wp2_with fail
        rw [HE.out]
        refine C.out.mono ?_
        rintro e w' ⟨rfl, hw⟩
        obtain rfl : _ = w' := hw.symm
        go_wp2
        go_roundw
        case rel => exact ⟨k + 1, by omega, by go_num, HT.out, trivial⟩
        case measure => simp [intOf]; omega
    · obtain rfl : k = n := by omega
      go_wp2
      go_ret
      have h := HN.out
      rw [List.take_of_length_le (by have := HC.out; omega)] at h
      exact ⟨_, rfl, rfl, by rw [h]; rfl⟩
theorem contains_any (K : Nat) (p : Int → Bool) (hE : Enters Tryz.prog K) (hK : ∀ (x : Int) (W : World), Calls Tryz.prog K #[.int .i64 x] W fun e w' => e = .returned (.bool (p x)) ∧ w' = W)
    (hr : Rd w B A (zvs c)) (hn : c.length = n) (hn1 : n ≤ 4096) :
    Calls Tryz.prog 112 #[.slice A n m, .func (.func K) #[] #[]] w fun e w' => e = .returned (.bool (c.any p)) ∧ w' = w := by
  have C := Lib.hid (indexFn_any (m := m) K p hE hK hr hn hn1)
  clear hE hK hr hn
  go_enter Tryz.func112, Tryz.ntmps112
  go_wp2_with fail
  refine C.out.mono ?_
  rintro e w' ⟨i, rfl, hw, ho⟩
  obtain rfl : _ = w' := hw.symm
  go_wp2
  go_ret
  exact ⟨rfl, rfl⟩

/-- A count that may not be. -/
def nBad (x : Int) : Bool := decide (x < 0) || decide (1099511627776 < x)
theorem normWrong_any (x : Int) (w : World) : Calls Tryz.prog 113 #[.int .i64 x] w fun e w' => e = .returned (.bool (nBad x)) ∧ w' = w := by
  unfold nBad
  go_enter Tryz.func113, Tryz.ntmps113
  by_cases h : x < 0
  · rw [decide_eq_true h, Bool.true_or]
    go_wp2
    go_ret
    exact ⟨rfl, rfl⟩
  · rw [decide_eq_false h, Bool.false_or]
    go_wp2
    go_ret
    exact ⟨rfl, rfl⟩
theorem normBad_any (hr : Rd w B A (zvs c)) (hn : c.length = n) (hn1 : n ≤ 4096) :
    Calls Tryz.prog 112 #[.slice A n m, .func (.func 113) #[] #[]] w fun e w' => e = .returned (.bool (c.any nBad)) ∧ w' = w :=
  contains_any 113 nBad (enters_of Tryz.func113 (by kernel_rfl) rfl) (fun x W => normWrong_any x W) hr hn hn1

theorem normThere_any (hr : Rd w B A (zvs c)) (hn : c.length = n) (hn1 : n ≤ 4096) :
    Calls Tryz.prog 114 #[.slice A n m] w fun e w' => e = .returned (.int .i64 (many c)) ∧ w' = w := by
  have HR := Lib.hid hr
  have HC := Lib.hid hn
  clear hr hn
  go_enter Tryz.func114, Tryz.ntmps114
  go_wp2
  go_loop [3, 8] (fun s i => ∃ k : Nat, k ≤ n ∧ i = .int .i64 (k : Int) ∧ s = .int .i64 (many (c.take k))) (fun _ i => n - (intOf i).toNat)
  case atStart => exact ⟨0, Nat.zero_le _, rfl, by simp [many]⟩
  case round =>
    obtain ⟨k, hk, rfl, rfl⟩ := hrel
    by_cases hlt : k < n
    · have hkc : k < c.length := by have := HC.out; omega
      obtain ⟨b, off, rfl, -, hcell⟩ := cell_of_rd HR.out hkc
      have hs := many_take c k hkc
      have g0 := many_nn (c.take k)
      have g1 := many_le (c.take k)
      rw [List.length_take] at g1
      obtain ⟨x, hx⟩ : ∃ x, x = c[k]'hkc := ⟨_, rfl⟩
      rw [← hx] at hcell hs
      obtain ⟨s, hss⟩ : ∃ s, s = many (c.take k) := ⟨_, rfl⟩
      rw [← hss] at hs g0 g1 ⊢
      have hki : (k : Int) < (n : Int) := by omega
      have g2 : s ≤ 4096 := by omega
      have HS := Lib.hid hs
      clear hs hx hss g1
      by_cases h0 : 0 < x
      · go_wp2
        go_round
        case rel => exact ⟨k + 1, by omega, by go_num, by rw [HS.out, if_pos h0]⟩
        case measure => simp [intOf]; omega
      · go_wp2
        go_round
        case rel => exact ⟨k + 1, by omega, by go_num, by rw [HS.out, if_neg h0, Int.add_zero]⟩
        case measure => simp [intOf]; omega
    · obtain rfl : k = n := by omega
      rw [List.take_of_length_le (by have := HC.out; omega)]
      go_wp2
      go_ret
      exact ⟨rfl, rfl⟩
theorem normSum_any (hr : Rd w B A (zvs c)) (hn : c.length = n) (hn1 : n ≤ 4096) (hnn : ∀ x ∈ c, 0 ≤ x) (hb : c.sum ≤ 9007199254740992) :
    Calls Tryz.prog 116 #[.slice A n m] w fun e w' => e = .returned (.int .i64 c.sum) ∧ w' = w := by
  have HR := Lib.hid hr
  have HC := Lib.hid hn
  have HN := Lib.hid hnn
  have HB := Lib.hid hb
  clear hr hn hnn hb
  go_enter Tryz.func116, Tryz.ntmps116
  go_wp2
  go_loop [3, 8] (fun s i => ∃ k : Nat, k ≤ n ∧ i = .int .i64 (k : Int) ∧ s = .int .i64 (fPre c k)) (fun _ i => n - (intOf i).toNat)
  case atStart => exact ⟨0, Nat.zero_le _, rfl, by rw [fPre_zero]⟩
  case round =>
    obtain ⟨k, hk, rfl, rfl⟩ := hrel
    by_cases hlt : k < n
    · have hkc : k < c.length := by have := HC.out; omega
      obtain ⟨b, off, rfl, -, hcell⟩ := cell_of_rd HR.out hkc
      have hs := fPre_succ c k hkc
      have g0 := fPre_nn HN.out k
      have g1 := fPre_le HN.out (k + 1)
      have g2 := HN.out _ (List.getElem_mem hkc)
      have g3 := HB.out
      obtain ⟨x, hx⟩ : ∃ x, x = c[k]'hkc := ⟨_, rfl⟩
      rw [← hx] at hcell hs g2
      obtain ⟨s, hss⟩ : ∃ s, s = fPre c k := ⟨_, rfl⟩
      rw [← hss] at hs g0 ⊢
      have HS := Lib.hid hs
      have g4 : s + x ≤ 9007199254740992 := by omega
      have hki : (k : Int) < (n : Int) := by omega
      clear hs g1 g3 hx hss
      go_wp2
      go_round
      case rel => exact ⟨k + 1, by omega, by go_num, by rw [HS.out]⟩
      case measure => simp [intOf]; omega
    · obtain rfl : k = n := by omega
      rw [fPre_most c (by have := HC.out; omega)]
      go_wp2
      go_ret
      exact ⟨rfl, rfl⟩
set_option maxRecDepth 100000 in
/-- greatest: where what is told of a place is greatest, the first of such. -/
theorem normGreatest_any (K : Nat) (cap : Array Value) (hE : Enters Tryz.prog K) (l : List Int) (hl : l.length = n) (hn0 : 1 ≤ n) (hn1 : n ≤ 4096) (w : World)
    (hK : ∀ j, j < n → Calls Tryz.prog K (#[.int .i64 (j : Int)] ++ cap) w fun e w' => e = .returned (.int .i64 (l.getD j 0)) ∧ w' = w) :
    Calls Tryz.prog 117 #[.int .i64 (n : Int), .func (.func K) #[] cap] w fun e w' => ∃ k : Nat, e = .returned (.int .i64 (k : Int)) ∧ IsFirst l k ∧ w' = w := by
  have HE := Lib.hid hE
  have HK := Lib.hid hK
  have HL := Lib.hid hl
  clear hE hK hl
  go_enter Tryz.func117, Tryz.ntmps117
  go_wp2
  go_loopw [5, 8] (fun f i wr => ∃ (k a : Nat), k ≤ n ∧ i = .int .i64 (k : Int) ∧ f = .int .i64 (a : Int) ∧ a < n ∧ ((k = 0 ∧ a = 0) ∨ IsFirst (l.take k) a) ∧ wr = w) (fun _ i _ => n - (intOf i).toNat)
  case atStart => exact ⟨0, 0, Nat.zero_le _, rfl, rfl, hn0, .inl ⟨rfl, rfl⟩, rfl⟩
  case round =>
    obtain ⟨k, a, hk, rfl, rfl, ha, hf, rfl⟩ := hrel
    have HF := Lib.hid hf
    clear hf
    by_cases hlt : k < n
    · have C1 := Lib.hid (HK.out k hlt)
      have C2 := Lib.hid (HK.out a ha)
      have hki : (k : Int) < (n : Int) := by omega
      have hnext : IsFirst (l.take (k + 1)) (if l.getD a 0 < l.getD k 0 then k else a) := by
        rcases HF.out with ⟨rfl, rfl⟩ | h
        · rw [if_neg (by omega)]
          exact first_start l (by have := HL.out; omega)
        · exact first_next l h (by have := HL.out; omega)
      obtain ⟨x, hx⟩ : ∃ x, x = l.getD k 0 := ⟨_, rfl⟩
      obtain ⟨y, hy⟩ : ∃ y, y = l.getD a 0 := ⟨_, rfl⟩
      rw [← hx, ← hy] at hnext
      rw [← hx] at C1
      rw [← hy] at C2
      have HX := Lib.hid hnext
      clear hnext hx hy
      by_cases hg : y < x
      · have hx2 := HX.out
        rw [if_pos hg] at hx2
        have HX2 := Lib.hid hx2
        clear hx2
        go_wp2_with fail
        rw [HE.out]
        refine C1.out.mono ?_
        rintro e w' ⟨rfl, hw⟩
        obtain rfl : _ = w' := hw.symm
        go_wp2_with fail
        rw [HE.out]
        refine C2.out.mono ?_
        rintro e w' ⟨rfl, hw⟩
        obtain rfl : _ = w' := hw.symm
        go_wp2
        go_roundw
        case rel => exact ⟨k + 1, k, by omega, by go_num, rfl, hlt, .inr HX2.out, trivial⟩
        case measure => simp [intOf]; omega
      · have hx2 := HX.out
        rw [if_neg hg] at hx2
        have HX2 := Lib.hid hx2
        clear hx2
        go_wp2_with fail
        rw [HE.out]
        refine C1.out.mono ?_
        rintro e w' ⟨rfl, hw⟩
        obtain rfl : _ = w' := hw.symm
        go_wp2_with fail
        rw [HE.out]
        refine C2.out.mono ?_
        rintro e w' ⟨rfl, hw⟩
        obtain rfl : _ = w' := hw.symm
        go_wp2
        go_roundw
        case rel => exact ⟨k + 1, a, by omega, by go_num, rfl, ha, .inr HX2.out, trivial⟩
        case measure => simp [intOf]; omega
    · obtain rfl : k = n := by omega
      have h := HF.out
      rw [List.take_of_length_le (by have := HL.out; omega)] at h
      have HF2 := Lib.hid (show IsFirst l a by
        rcases h with ⟨h0, -⟩ | h
        · omega
        · exact h)
      clear h
      go_wp2
      go_ret
      exact ⟨a, rfl, HF2.out, rfl⟩
/-- The same, where the place is known. -/
theorem normGreatest_at (K : Nat) (cap : Array Value) (hE : Enters Tryz.prog K) (l : List Int) (hl : l.length = n) (hn1 : n ≤ 4096) (k : Nat) (hk : IsFirst l k) (w : World)
    (hK : ∀ j, j < n → Calls Tryz.prog K (#[.int .i64 (j : Int)] ++ cap) w fun e w' => e = .returned (.int .i64 (l.getD j 0)) ∧ w' = w) :
    Calls Tryz.prog 117 #[.int .i64 (n : Int), .func (.func K) #[] cap] w fun e w' => e = .returned (.int .i64 (k : Int)) ∧ w' = w :=
  (normGreatest_any K cap hE l hl (by have := hk.1; omega) hn1 w hK).mono fun e w' ⟨a, h1, h2, h3⟩ => ⟨by rw [h1, h2.one hk], h3⟩
end
end Go.Proofs.YtflcmmeoppdhdaaGreat
namespace Go.Proofs.YtflcmmeoppdhdaaGreat
open Go.RowKit Go.Sort Go.Shelf

def cmpN (x y : Int) : Int := if x < y then -1 else if y < x then 1 else 0
theorem isNaN_any (x : Int) (w : World) : Calls Tryz.prog 227 #[.int .i64 x] w fun e w' => e = .returned (.bool false) ∧ w' = w := by
  go_enter Tryz.func227, Tryz.ntmps227
  go_wp2
  go_ret
  exact ⟨rfl, rfl⟩
set_option maxHeartbeats 1000000 in
set_option maxRecDepth 100000 in
theorem compare_any (x y : Int) (w : World) : Calls Tryz.prog 202 #[.int .i64 x, .int .i64 y] w fun e w' => e = .returned (.int .i64 (cmpN x y)) ∧ w' = w := by
  have C := Lib.hid isNaN_any
  unfold cmpN
  go_enter Tryz.func202, Tryz.ntmps202
  by_cases h1 : x < y
  · rw [if_pos h1]
    go_wp2_with (go_at_call 227; go_must (refine (C.out _ _).mono ?_; rintro _ _ ⟨rfl, rfl⟩))
    go_ret
    exact ⟨rfl, rfl⟩
  · rw [if_neg h1]
    by_cases h2 : y < x
    · rw [if_pos h2]
      go_wp2_with (go_at_call 227; go_must (refine (C.out _ _).mono ?_; rintro _ _ ⟨rfl, rfl⟩))
      go_ret
      exact ⟨rfl, rfl⟩
    · rw [if_neg h2]
      go_wp2_with (go_at_call 227; go_must (refine (C.out _ _).mono ?_; rintro _ _ ⟨rfl, rfl⟩))
      go_ret
      exact ⟨rfl, rfl⟩
def orN (a b : Int) : Int := if a = 0 then b else a
set_option maxHeartbeats 1000000 in
set_option maxRecDepth 100000 in
/-- Of two the first that isn't 0. -/
theorem or_two (a b : Int) (g : Nat) (w : World) (h0 : w.cell? ⟨g, 0, none⟩ = some (.int .i64 a)) (h1 : w.cell? ⟨g, 1, none⟩ = some (.int .i64 b)) :
    Calls Tryz.prog 201 #[.slice (some ⟨g, 0, none⟩) 2 2] w fun e w' => e = .returned (.int .i64 (orN a b)) ∧ w' = w := by
  have H := Lib.hid (And.intro h0 h1)
  clear h0 h1
  go_enter Tryz.func201, Tryz.ntmps201
  go_wp2
  go_loopw [8] (fun i wr => ∃ j : Nat, j ≤ 2 ∧ i = .int .i64 (j : Int) ∧ (1 ≤ j → a = 0) ∧ (2 ≤ j → b = 0) ∧ wr = w) (fun i _ => 2 - (intOf i).toNat)
  case atStart => exact ⟨0, by decide, rfl, by omega, by omega, by first | trivial | rfl⟩
  case round =>
    obtain ⟨j, hj, rfl, ha, hb, rfl⟩ := hrel
    obtain ⟨h0, h1⟩ := H.out
    rcases (by omega : j = 0 ∨ j = 1 ∨ j = 2) with rfl | rfl | rfl
    · by_cases e : a = 0
      · subst e
        go_wp2
        go_roundw
        case rel => exact ⟨1, by decide, rfl, fun _ => by first | trivial | rfl, by omega, by first | trivial | rfl⟩
        case measure => decide
      · go_wp2
        go_ret
        exact ⟨by rw [show orN a b = a from if_neg e]; rfl, rfl⟩
    · obtain rfl := ha (by decide)
      by_cases e : b = 0
      · subst e
        go_wp2
        go_roundw
        case rel => exact ⟨2, by decide, rfl, fun _ => by first | trivial | rfl, fun _ => by first | trivial | rfl, by first | trivial | rfl⟩
        case measure => decide
      · go_wp2
        go_ret
        exact ⟨by rw [show orN 0 b = b from if_pos rfl]; rfl, rfl⟩
    · obtain rfl := ha (by decide)
      obtain rfl := hb (by decide)
      go_wp2
      go_ret
      exact ⟨rfl, rfl⟩
theorem new_cell (w : World) (xs : List Value) (t : TypeId) {k : Nat} {u : Value} (h : xs[k]? = some u) : ((w.alloc (.cells xs.toArray t)).drew).cell? ⟨w.heap.size, k, none⟩ = some u := by
  obtain ⟨b, off, he, -, hc⟩ := Rd.new w xs.toArray t k u (by simpa using h)
  obtain ⟨rfl, rfl⟩ : w.heap.size = b ∧ off = 0 := by injection he with e; injection e with e1 e2; exact ⟨e1, e2.symm⟩
  rw [Nat.zero_add] at hc
  exact hc
/-- How two letters compare. -/
def cfL (l : List Int) (i j : Nat) : Int := orN (cmpN (l.getD i 0) (l.getD j 0)) (cmpN (i : Int) (j : Int))
set_option maxHeartbeats 2000000 in
set_option maxRecDepth 100000 in
theorem inOrder_cmp {w : World} {B : Nat} {A : Option Addr} {n m E : Nat} {l : List Int} (hb : w.cell? ⟨E, 0, none⟩ = some (.slice A n m)) (hr : Rd w B A (zvs l)) (hn : l.length = n) (i j : Nat) (hi : i < n) (hj : j < n) :
    Calls Tryz.prog 200 #[.int .i64 (i : Int), .int .i64 (j : Int), .pointer (some ⟨E, 0, none⟩)] w fun e w' => e = .returned (.int .i64 (cfL l i j)) ∧ ∃ q os, w' = grow (w.drewN q) os := by
  have hil : i < l.length := by omega
  have hjl : j < l.length := by omega
  obtain ⟨ab, ao, rfl, -, hc1⟩ := cell_of_rd hr hil
  obtain ⟨ab', ao', he, -, hc2⟩ := cell_of_rd hr hjl
  obtain ⟨rfl, rfl⟩ : ab = ab' ∧ ao = ao' := by injection he with e; injection e with e1 e2; exact ⟨e1, e2⟩
  have e1 : l.getD i 0 = l[i] := by simp [List.getD_eq_getElem?_getD, hil]
  have e2 : l.getD j 0 = l[j] := by simp [List.getD_eq_getElem?_getD, hjl]
  unfold cfL
  rw [e1, e2]
  obtain ⟨x, hx⟩ : ∃ x, x = l[i]'hil := ⟨_, rfl⟩
  obtain ⟨y, hy⟩ : ∃ y, y = l[j]'hjl := ⟨_, rfl⟩
  rw [← hx] at hc1 ⊢
  rw [← hy] at hc2 ⊢
  have C := Lib.hid compare_any
  have hii : (i : Int) < (n : Int) := by omega
  have hji : (j : Int) < (n : Int) := by omega
  have DO := Lib.hid (or_two (cmpN x y) (cmpN (i : Int) (j : Int)) w.heap.size ((w.alloc (.cells #[.int .i64 (cmpN x y), .int .i64 (cmpN (i : Int) (j : Int))] 3)).drew) (new_cell w [.int .i64 (cmpN x y), .int .i64 (cmpN (i : Int) (j : Int))] 3 (k := 0) rfl) (new_cell w [.int .i64 (cmpN x y), .int .i64 (cmpN (i : Int) (j : Int))] 3 (k := 1) rfl))
  clear he hr hx hy hn e1 e2 hil hjl
  go_enter Tryz.func200, Tryz.ntmps200
  go_wp2
  go_region_with (first | (go_at_call 202; refine (C.out _ _ _).mono ?_; rintro _ _ ⟨rfl, rfl⟩) | (go_at_call 201; refine DO.out.mono ?_; rintro _ _ ⟨rfl, rfl⟩))
  all_goals go_wp2
  all_goals go_ret
  all_goals exact ⟨rfl, 1, #[_], by rw [alloc_eq_grow]; rfl⟩
end Go.Proofs.YtflcmmeoppdhdaaGreat
namespace Go.Proofs.YtflcmmeoppdhdaaGreat

/-- A thing: its weight, its number. -/
abbrev Pr := Nat × Nat
def pl (x y : Pr) : Bool := decide (x.1 < y.1) || (decide (x.1 = y.1) && decide (x.2 < y.2))
theorem pl_yes {x y : Pr} : pl x y = true ↔ x.1 < y.1 ∨ (x.1 = y.1 ∧ x.2 < y.2) := by simp [pl]
theorem pl_no {x y : Pr} : pl x y = false ↔ y.1 < x.1 ∨ (x.1 = y.1 ∧ y.2 ≤ x.2) := by
  rw [← Bool.not_eq_true, pl_yes]; omega
theorem pl_flip {x y : Pr} (h : pl x y = true) : pl y x = false := by rw [pl_yes] at h; rw [pl_no]; omega
theorem pl_trans {x y z : Pr} (h1 : pl x y = false) (h2 : pl y z = false) : pl x z = false := by rw [pl_no] at *; omega
theorem pl_trans1 {x y z : Pr} (h1 : pl x y = false) (h2 : pl z y = true) : pl x z = false := by rw [pl_yes] at h2; rw [pl_no] at *; omega
theorem pl_other {x y : Pr} (h : pl x y = false) (hne : x ≠ y) : pl y x = true := by
  rw [pl_no] at h
  rw [pl_yes]
  have : ¬ (x.1 = y.1 ∧ x.2 = y.2) := fun e => hne (Prod.ext e.1 e.2)
  omega

def pat (l : List Pr) (i : Nat) : Pr := l.getD i (0, 0)
def par (i : Nat) : Nat := (i - 1) / 2
theorem par_lt {i : Nat} (h : 0 < i) : par i < i := by unfold par; omega
def swapP (l : List Pr) (i j : Nat) : List Pr := (l.set i (pat l j)).set j (pat l i)
theorem swapP_len (l : List Pr) (i j : Nat) : (swapP l i j).length = l.length := by simp [swapP]
theorem pat_get {l : List Pr} {i : Nat} (h : i < l.length) : pat l i = l[i] := by simp [pat, List.getD_eq_getElem?_getD, h]
theorem pat_set (l : List Pr) (i k : Nat) (x : Pr) (h : i < l.length) : pat (l.set i x) k = if k = i then x else pat l k := by
  unfold pat
  rw [List.getD_eq_getElem?_getD, List.getD_eq_getElem?_getD, List.getElem?_set]
  by_cases e : i = k
  · subst e; simp [h]
  · rw [if_neg e, if_neg (fun x => e x.symm)]
theorem pat_swap {l : List Pr} {i j : Nat} (hi : i < l.length) (hj : j < l.length) (k : Nat) : pat (swapP l i j) k = if k = j then pat l i else if k = i then pat l j else pat l k := by
  unfold swapP
  rw [pat_set _ _ _ _ (by simpa using hj), pat_set _ _ _ _ hi]
theorem swap_perm {l : List Pr} {i j : Nat} (hi : i < l.length) (hj : j < l.length) : (swapP l i j).Perm l := by
  unfold swapP
  rw [pat_get hi, pat_get hj]
  exact List.set_set_perm hi hj

def HeapN (l : List Pr) (n : Nat) : Prop := ∀ i, 0 < i → i < n → pl (pat l i) (pat l (par i)) = false
def IsHeap (l : List Pr) : Prop := HeapN l l.length
structure UpOk (l : List Pr) (j : Nat) : Prop where
  lt : j < l.length
  rest : ∀ i, 0 < i → i < l.length → i ≠ j → pl (pat l i) (pat l (par i)) = false
  over : ∀ i, 0 < i → i < l.length → par i = j → 0 < j → pl (pat l i) (pat l (par j)) = false
theorem UpOk.done {l : List Pr} {j : Nat} (h : UpOk l j) (he : j = 0 ∨ pl (pat l j) (pat l (par j)) = false) : IsHeap l := fun i h0 hi => by
  by_cases e : i = j
  · subst e
    rcases he with he | he
    · omega
    · exact he
  · exact h.rest i h0 hi e
theorem UpOk.step {l : List Pr} {j : Nat} (h : UpOk l j) (h0 : 0 < j) (he : pl (pat l j) (pat l (par j)) = true) : UpOk (swapP l (par j) j) (par j) := by
  have hp := par_lt h0
  have hl := h.lt
  have hpl : par j < l.length := by omega
  refine ⟨by rw [swapP_len]; omega, fun i g0 g1 g2 => ?_, fun i g0 g1 g2 g3 => ?_⟩
  · rw [swapP_len] at g1
    rw [pat_swap hpl hl, pat_swap hpl hl]
    by_cases e : i = j
    · subst e
      rw [if_pos rfl, if_neg (by omega), if_pos rfl]
      exact pl_flip he
    · rw [if_neg e, if_neg g2]
      have h1 := h.rest i g0 g1 e
      by_cases e1 : par i = j
      · rw [if_pos e1]
        exact h.over i g0 g1 e1 h0
      · rw [if_neg e1]
        by_cases e2 : par i = par j
        · rw [if_pos e2]
          rw [e2] at h1
          exact pl_trans1 h1 he
        · rw [if_neg e2]; exact h1
  · rw [swapP_len] at g1
    have hpp := par_lt g3
    rw [pat_swap hpl hl, pat_swap hpl hl]
    rw [if_neg (show ¬ par (par j) = j by omega), if_neg (show ¬ par (par j) = par j by omega)]
    have h1 := h.rest (par j) g3 hpl (by omega)
    by_cases e : i = j
    · rw [if_pos e]; exact h1
    · have hi := par_lt g0
      rw [if_neg e, if_neg (by omega)]
      have h2 := h.rest i g0 g1 e
      rw [g2] at h2
      exact pl_trans h2 h1
theorem pat_push (l : List Pr) (x : Pr) (k : Nat) : pat (l ++ [x]) k = if k < l.length then pat l k else if k = l.length then x else (0, 0) := by
  unfold pat
  rw [List.getD_eq_getElem?_getD, List.getD_eq_getElem?_getD]
  by_cases h : k < l.length
  · rw [if_pos h, List.getElem?_append_left h]
  · rw [if_neg h, List.getElem?_append_right (by omega)]
    by_cases e : k = l.length
    · subst e; simp
    · rw [if_neg e, List.getElem?_eq_none (by simp; omega)]; rfl
theorem push_up {l : List Pr} (h : IsHeap l) (x : Pr) : UpOk (l ++ [x]) l.length := by
  refine ⟨by simp, fun i g0 g1 g2 => ?_, fun i g0 g1 g2 g3 => ?_⟩
  · have hp := par_lt g0
    rw [List.length_append, List.length_singleton] at g1
    rw [pat_push, pat_push, if_pos (by omega), if_pos (by omega)]
    exact h i g0 (by omega)
  · have hp := par_lt g0
    rw [List.length_append, List.length_singleton] at g1
    omega
structure DownOk (l : List Pr) (n i : Nat) : Prop where
  most : n ≤ l.length
  rest : ∀ k, 0 < k → k < n → par k ≠ i → pl (pat l k) (pat l (par k)) = false
  over : ∀ k, 0 < k → k < n → par k = i → 0 < i → pl (pat l k) (pat l (par i)) = false
theorem DownOk.done {l : List Pr} {n i : Nat} (h : DownOk l n i) (he : ∀ k, 0 < k → k < n → par k = i → pl (pat l k) (pat l i) = false) : HeapN l n := fun k h0 hk => by
  by_cases e : par k = i
  · rw [e]; exact he k h0 hk e
  · exact h.rest k h0 hk e
theorem DownOk.step {l : List Pr} {n i j : Nat} (h : DownOk l n i) (h0 : 0 < j) (hj : j < n) (hp : par j = i) (hm : ∀ k, 0 < k → k < n → par k = i → pl (pat l k) (pat l j) = false) (he : pl (pat l j) (pat l i) = true) :
    DownOk (swapP l i j) n j := by
  have hij := par_lt h0
  have hmo := h.most
  have hil : i < l.length := by omega
  have hjl : j < l.length := by omega
  refine ⟨by rw [swapP_len]; exact hmo, fun k g0 g1 g2 => ?_, fun k g0 g1 g2 g3 => ?_⟩
  · have hk := par_lt g0
    rw [pat_swap hil hjl, pat_swap hil hjl, if_neg g2]
    by_cases e : k = j
    · subst e
      rw [if_pos rfl, if_pos hp]
      exact pl_flip he
    · rw [if_neg e]
      by_cases e1 : par k = i
      · rw [if_pos e1, if_neg (by omega)]
        exact hm k g0 g1 e1
      · rw [if_neg e1]
        by_cases e2 : k = i
        · subst e2
          rw [if_pos rfl]
          exact h.over j h0 hj hp g0
        · rw [if_neg e2]
          exact h.rest k g0 g1 e1
  · have hk := par_lt g0
    rw [pat_swap hil hjl, pat_swap hil hjl, hp, if_neg (by omega), if_neg (by omega), if_neg (by omega), if_pos rfl]
    have h1 := h.rest k g0 g1 (by omega)
    rw [g2] at h1
    exact h1
theorem pop_down {l : List Pr} {n : Nat} (h : IsHeap l) (hn : l.length = n + 1) : DownOk (swapP l 0 n) n 0 := by
  refine ⟨by rw [swapP_len]; omega, fun k g0 g1 g2 => ?_, fun k g0 g1 g2 g3 => by omega⟩
  have hk := par_lt g0
  rw [pat_swap (by omega) (by omega), pat_swap (by omega) (by omega), if_neg (by omega), if_neg (by omega), if_neg (by omega), if_neg g2]
  exact h k g0 (by omega)
theorem heap_least {l : List Pr} (h : IsHeap l) : ∀ k, k < l.length → pl (pat l k) (pat l 0) = false := by
  intro k
  induction k using Nat.strongRecOn with
  | _ k ih =>
    intro hk
    by_cases h0 : k = 0
    · subst h0; rw [pl_no]; omega
    · have hp := par_lt (i := k) (by omega)
      exact pl_trans (h k (by omega) hk) (ih (par k) hp (by omega))
/-- A heap of just the things that are S. -/
structure HeapSet (S : Pr → Prop) (l : List Pr) : Prop where
  heap : IsHeap l
  nodup : l.Nodup
  mem : ∀ p, p ∈ l ↔ S p
theorem HeapSet.push {S : Pr → Prop} {l l' : List Pr} {x : Pr} (h : HeapSet S l) (hx : ¬ S x) (hp : l'.Perm (l ++ [x])) (hh : IsHeap l') : HeapSet (fun p => S p ∨ p = x) l' := by
  refine ⟨hh, ?_, fun p => ?_⟩
  · rw [hp.nodup_iff, List.nodup_append]
    refine ⟨h.nodup, by simp, fun a ha b hb e => ?_⟩
    rw [List.mem_singleton] at hb
    subst hb; subst e
    exact hx ((h.mem a).1 ha)
  · rw [hp.mem_iff, List.mem_append, List.mem_singleton, h.mem]
theorem pop_set {S : Pr → Prop} {l m : List Pr} {n : Nat} (h : HeapSet S l) (hn : l.length = n + 1) (hp : m.Perm l) (hm : pat m n = pat l 0) (hh : HeapN m n) :
    S (pat l 0) ∧ (∀ p, S p → p ≠ pat l 0 → pl (pat l 0) p = true) ∧ HeapSet (fun p => S p ∧ p ≠ pat l 0) (m.take n) := by
  have hml : m.length = n + 1 := by rw [hp.length_eq, hn]
  have hx : pat l 0 ∈ l := by rw [pat_get (by omega)]; exact List.getElem_mem _
  have e : m = m.take n ++ [pat l 0] := by
    have h1 := List.take_append_drop n m
    have h2 : m.drop n = [pat l 0] := by
      rw [← hm, pat_get (by omega), List.drop_eq_getElem_cons (by omega), List.drop_eq_nil_of_le (by omega)]
    rw [h2] at h1
    exact h1.symm
  have hnd : (m.take n ++ [pat l 0]).Nodup := by rw [← e, hp.nodup_iff]; exact h.nodup
  rw [List.nodup_append] at hnd
  refine ⟨(h.mem _).1 hx, fun p hs hne => ?_, ?_, hnd.1, fun p => ?_⟩
  · obtain ⟨k, hk, rfl⟩ := List.mem_iff_getElem.1 ((h.mem p).2 hs)
    have := heap_least h.heap k hk
    rw [pat_get hk] at this
    exact pl_other this hne
  · intro i h0 hi
    rw [List.length_take, Nat.min_eq_left (by omega)] at hi
    have hpi := par_lt h0
    have ht : ∀ k, k < n → pat (m.take n) k = pat m k := fun k hk => by
      unfold pat; rw [List.getD_eq_getElem?_getD, List.getD_eq_getElem?_getD, List.getElem?_take_of_lt hk]
    rw [ht i hi, ht _ (by omega)]
    exact hh i h0 hi
  · have h1 : p ∈ l ↔ p ∈ m.take n ∨ p = pat l 0 := by
      have h2 : p ∈ m ↔ p ∈ m.take n ++ [pat l 0] := by rw [← e]
      rw [← hp.mem_iff, h2, List.mem_append, List.mem_singleton]
    constructor
    · intro hp'
      refine ⟨(h.mem p).1 (h1.2 (.inl hp')), fun e' => ?_⟩
      exact hnd.2.2 p hp' (pat l 0) (by simp) e'
    · rintro ⟨hs, hne⟩
      rcases h1.1 ((h.mem p).2 hs) with h2 | h2
      · exact h2
      · exact absurd h2 hne
end Go.Proofs.YtflcmmeoppdhdaaGreat
namespace Go.Proofs.YtflcmmeoppdhdaaGreat
open Go.RowKit

def codeVI (a b : Int) : Value := .agg #[.int .i64 a, .int .i64 b]
def codeV (k : Pr) : Value := codeVI (k.1 : Int) (k.2 : Int)
/-- Entries: a code, and the letter that has it. -/
def cEnts : List (Pr × Nat) → Nat → List MapEntry
  | [], _ => []
  | p :: t, b => ⟨codeV p.1, .int .i64 (p.2 : Int), b⟩ :: cEnts t (b + 1)
theorem cEnts_snoc : ∀ (es : List (Pr × Nat)) (b : Nat) (p : Pr × Nat), cEnts (es ++ [p]) b = cEnts es b ++ [⟨codeV p.1, .int .i64 (p.2 : Int), b + es.length⟩]
  | [], b, p => by simp [cEnts]
  | q :: t, b, p => by
    simp only [List.cons_append, cEnts, cEnts_snoc t, List.length_cons]
    rw [show b + 1 + t.length = b + (t.length + 1) by omega]
/-- Block b is a map of these. -/
def MapC (w : World) (b : Nat) (es : List (Pr × Nat)) : Prop := w.heap[b]? = some (.map (cEnts es 0).toArray es.length)
def findC (x y : Int) : List (Pr × Nat) → Nat → Option (Nat × Value)
  | [], _ => none
  | p :: t, j => if x = (p.1.1 : Int) ∧ y = (p.1.2 : Int) then some (j, .int .i64 (p.2 : Int)) else findC x y t (j + 1)
theorem findC_none (x y : Int) : ∀ (es : List (Pr × Nat)) (j : Nat), (∀ p ∈ es, ¬ (x = (p.1.1 : Int) ∧ y = (p.1.2 : Int))) → findC x y es j = none
  | [], _, _ => rfl
  | p :: t, j, h => by
    unfold findC
    rw [if_neg (h p List.mem_cons_self)]
    exact findC_none x y t (j + 1) fun q hq => h q (List.mem_cons_of_mem _ hq)
theorem findC_some (x y : Int) : ∀ (es : List (Pr × Nat)) (j : Nat) (p : Pr × Nat), p ∈ es → (x = (p.1.1 : Int) ∧ y = (p.1.2 : Int)) → (∀ q ∈ es, (x = (q.1.1 : Int) ∧ y = (q.1.2 : Int)) → q.2 = p.2) → ∃ i, findC x y es j = some (i, .int .i64 (p.2 : Int))
  | [], _, _, h, _, _ => by cases h
  | q :: t, j, p, h, he, hu => by
    unfold findC
    by_cases e : x = (q.1.1 : Int) ∧ y = (q.1.2 : Int)
    · rw [if_pos e, hu q List.mem_cons_self e]
      exact ⟨j, rfl⟩
    · rw [if_neg e]
      rcases List.mem_cons.1 h with rfl | h
      · exact absurd he e
      · exact findC_some x y t (j + 1) p h he fun r hr => hu r (List.mem_cons_of_mem _ hr)
set_option maxRecDepth 100000 in
theorem equal_code (a b c d : Int) (w : World) : (Op.equal 216 (codeVI a b) (codeVI c d)).run Tryz.prog w = .ok (decide (a = c) && decide (b = d)) w := by
  have u3 := Tryz.underlying3
  have hS : Tryz.prog.underlying 216 = some (.struct (Tryz.prog.fieldsOf 216)) := by kernel_rfl
  have hp : Tryz.prog.stoodInHeld 216 = false := by kernel_rfl
  unfold Op.equal codeVI
  rw [show Op.maxDepth = 9999 + 1 from rfl, run_equalIn_agg w 9999 216 _ _ hS hp]
  simp only [Program.fieldsOf, Tryz.underlying216]
  go_simp
  by_cases h1 : a = c <;> by_cases h2 : b = d <;> simp [h1, h2]
theorem check_code (e : Bool) (a b : Int) (w : World) : (Instr.checkKey e 10000 216 (codeVI a b)).run Tryz.prog w = .ok () w := by
  unfold codeVI
  kernel_rfl
theorem asking_code (x y : Int) (w : World) : ∀ (es : List (Pr × Nat)) (b j : Nat), (Instr.findAsking 216 (codeVI x y) (cEnts es b) j).run Tryz.prog w = .ok (findC x y es j) w
  | [], _, _ => by simp [Instr.findAsking, cEnts, findC]
  | p :: t, b, j => by
    unfold cEnts Instr.findAsking codeV
    simp only [Sem.run_bind, equal_code, Result.andThen_ok]
    unfold findC
    by_cases e : x = (p.1.1 : Int) ∧ y = (p.1.2 : Int)
    · rw [if_pos e]
      simp [e.1, e.2]
    · rw [if_neg e]
      have h : (decide (x = (p.1.1 : Int)) && decide (y = (p.1.2 : Int))) = false := by
        rw [Bool.and_eq_false_iff, decide_eq_false_iff_not, decide_eq_false_iff_not]
        by_cases h1 : x = (p.1.1 : Int)
        · exact .inr fun h2 => e ⟨h1, h2⟩
        · exact .inl h1
      rw [h]
      simpa using asking_code x y w t (b + 1) (j + 1)
theorem now_code (x y : Int) (fs) : ∀ (es : List (Pr × Nat)) (b j : Nat), Instr.findNow (.struct fs) (codeVI x y) (cEnts es b) j = if es = [] then some none else none
  | [], _, _ => rfl
  | p :: t, b, j => by simp [cEnts, Instr.findNow, Instr.sameNow, codeVI]
theorem find_code (x y : Int) (w : World) (es : List (Pr × Nat)) : (Instr.findKey 216 (codeVI x y) (cEnts es 0)).run Tryz.prog w = .ok (findC x y es 0) w := by
  have hu := Tryz.underlying216
  unfold Instr.findKey
  simp only [Sem.run_bind, run_underlying hu, Result.andThen_ok, now_code]
  by_cases e : es = []
  · subst e; simp [findC]
  · rw [if_neg e]; exact asking_code x y w es 0 0
theorem run_cput (w : World) (b : Nat) (es : List (Pr × Nat)) (hb : MapC w b es) (k : Pr) (i : Nat) (hn : ∀ p ∈ es, p.1 ≠ k) :
    ∃ w', (Instr.mapUpdate 212 (.map (some b)) (codeV k) (.int .i64 (i : Int))).run Tryz.prog w = .ok () w' ∧ MapC w' b (es ++ [(k, i)]) ∧ w.grownBy w' (some b) := by
  have ht := Tryz.underlying212
  have hf : findC (k.1 : Int) (k.2 : Int) es 0 = none := findC_none _ _ es 0 fun p hp h => hn p hp (Prod.ext (by omega) (by omega))
  have hs := MapKept.heap_set (w := w) (o' := .map ((cEnts es 0).toArray.push ⟨codeV k, .int .i64 (i : Int), es.length⟩) (es.length + 1)) hb
  refine ⟨{ w with heap := w.heap.setIfInBounds b (.map ((cEnts es 0).toArray.push ⟨codeV k, .int .i64 (i : Int), es.length⟩) (es.length + 1)) }, ?_, ?_, rfl, rfl, rfl, by simp, fun r hr hne => hs.2 r (fun e => hne (by rw [e]))⟩
  · have h1 := check_code false (k.1 : Int) (k.2 : Int) w
    have h2 := find_code (k.1 : Int) (k.2 : Int) w es
    rw [hf] at h2
    unfold codeV
    simp [Instr.mapUpdate, run_underlying ht, MapKept.run_getObj_map hb, h1, h2, MapKept.run_setObj_map _ hb, Result.andThen]
  · unfold MapC
    rw [hs.1, cEnts_snoc]
    simp
theorem run_cget (w : World) (b : Nat) (es : List (Pr × Nat)) (hb : MapC w b es) (x y : Int) :
    (Instr.lookup 212 (.map (some b)) (codeVI x y) true).run Tryz.prog w = .ok (match findC x y es 0 with | some r => .tuple #[r.2, .bool true] | none => .tuple #[.int .i64 0, .bool false]) w := by
  have ht := Tryz.underlying212
  have hz : (zeroValue 3).run Tryz.prog w = .ok (.int .i64 0) w := by kernel_rfl
  have h2 := find_code x y w es
  have h1 := check_code (cEnts es 0).toArray.isEmpty x y w
  simp only [Instr.lookup, Sem.run_bind, run_underlying ht, Result.andThen_ok, MapKept.run_getObj_map hb, Sem.run_pure, h1, h2]
  cases findC x y es 0 with
  | none => simp [hz]
  | some r => simp
theorem MapC.lt {w : World} {b : Nat} {es : List (Pr × Nat)} (h : MapC w b es) : b < w.heap.size := (Array.getElem?_eq_some_iff.1 h).1
theorem MapC.grow {w w' : World} {b : Nat} {es : List (Pr × Nat)} (h : MapC w b es) (hb : Below w.heap.size w w') : MapC w' b es := (hb.block b h.lt).trans h
theorem MapC.same {w w' : World} {b : Nat} {es : List (Pr × Nat)} (h : MapC w b es) (e : w'.heap = w.heap) : MapC w' b es := by unfold MapC; rw [e]; exact h
theorem MapC.set {w : World} {b : Nat} {es : List (Pr × Nat)} (h : MapC w b es) (a : Addr) (v : Value) (hne : b ≠ a.block) : MapC (w.setCell a v) b es := (heap_setCell_other w a b v hne).trans h
theorem mapC_new (w : World) : MapC (w.alloc (.map #[] 0)) w.heap.size [] := by
  have := heap_alloc_new w (.map #[] 0)
  exact this
end Go.Proofs.YtflcmmeoppdhdaaGreat
