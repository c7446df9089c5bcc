/- Layer 12: the fixed calls; of a tree that is none. · Layer 12: of a tree that is none; the law FenNil. · Layer 12: the law FenFinds. · Layer 12: a slice of steps of three numbers, as a list. · Layer 12: a row of counts and its tree, beside one another. -/
import Derived.Test.YtgbibmgedmbboaaGreatFenAdd2
import Derived.Test.YtgbibmgedmbboaaGreatFenFind
import Derived.Test.YtgbibmgedmbboaaGreatFenRef
import Derived.Test.YtgbibmgedmbboaaGreatS3List
import Derived.Lib.QuietBelow
namespace Go.Proofs.YtgbibmgedmbboaaGreat
open Go.RowKit

theorem known_add1 {w : World} {T S : Nat} (h : IsTree w T S [0, 0, 0]) : Calls Tryz.prog 83 #[.pointer (some ⟨T, 0, none⟩), .int .i64 0, .int .i64 2] w fun e w' => e = .returned (.int .i64 0) ∧ IsTree w' T S [2, 0, 0] ∧ TurnsB T S w w' :=
  fenAdd_any 0 2 h (by decide) (by decide) (by decide)
theorem known_add2 {w : World} {T S : Nat} (h : IsTree w T S [2, 0, 0]) : Calls Tryz.prog 83 #[.pointer (some ⟨T, 0, none⟩), .int .i64 2, .int .i64 5] w fun e w' => e = .returned (.int .i64 0) ∧ IsTree w' T S [2, 0, 5] ∧ TurnsB T S w w' :=
  fenAdd_any 2 5 h (by decide) (by decide) (by decide)
theorem known_find {w : World} {T S : Nat} (h : IsTree w T S [2, 0, 5]) : Calls Tryz.prog 90 #[.pointer (some ⟨T, 0, none⟩), .int .i64 2] w fun e w' => e = .returned (.tuple #[.int .i64 2, .bool true]) ∧ w' = w :=
  fenFind_some 2 2 h (by decide)
theorem known_below {w : World} {T S : Nat} (h : IsTree w T S [2, 0, 5]) : Calls Tryz.prog 80 #[.pointer (some ⟨T, 0, none⟩), .int .i64 2] w fun e w' => e = .returned (.int .i64 2) ∧ Below w.heap.size w w' :=
  fenBelow_any 2 h 2 (by decide)
theorem known_get {w : World} {T S : Nat} (h : IsTree w T S [2, 0, 5]) : Calls Tryz.prog 81 #[.pointer (some ⟨T, 0, none⟩), .int .i64 2] w fun e w' => e = .returned (.int .i64 5) ∧ Below w.heap.size w w' :=
  fenGet_at 2 h (by decide)
theorem known_total {w : World} {T S : Nat} (h : IsTree w T S [2, 0, 5]) : Calls Tryz.prog 82 #[.pointer (some ⟨T, 0, none⟩)] w fun e w' => e = .returned (.int .i64 7) ∧ w' = w :=
  fenTotal_any h.2
theorem known_len {w : World} {T S : Nat} (h : IsTree w T S [2, 0, 5]) : Calls Tryz.prog 79 #[.pointer (some ⟨T, 0, none⟩)] w fun e w' => e = .returned (.int .i64 3) ∧ w' = w :=
  fenLen_any h.2 (by decide)
theorem known_new (w : World) : Calls Tryz.prog 85 #[.int .i64 3] w fun e w' => ∃ T, e = .returned (.pointer (some ⟨T, 0, none⟩)) ∧ ∃ S, IsTree w' T S [0, 0, 0] ∧ (w.heap.size ≤ T ∧ w.heap.size ≤ S) ∧ Below w.heap.size w w' :=
  fenNew_any 3 w (by decide) (by decide)

/- a tree that is none -/
theorem fenLen_nil (w : World) : Calls Tryz.prog 79 #[.pointer none] w fun e w' => e = .returned (.int .i64 0) ∧ w' = w := by
  go_enter Tryz.func79, Tryz.ntmps79
  go_wp2
  go_ret
  exact ⟨rfl, rfl⟩
theorem fenTotal_nil (w : World) : Calls Tryz.prog 82 #[.pointer none] w fun e w' => e = .returned (.int .i64 0) ∧ w' = w := by
  go_enter Tryz.func82, Tryz.ntmps82
  go_wp2
  go_ret
  exact ⟨rfl, rfl⟩
theorem fenHas_nil (i : Int) (w : World) : Calls Tryz.prog 102 #[.pointer none, .int .i64 i] w fun e w' => e = .returned (.bool false) ∧ w' = w := by
  by_cases h0 : 0 ≤ i
  · have h1 : ¬ (i < 0) := by omega
    go_enter Tryz.func102, Tryz.ntmps102
    go_wp2_with (go_at_call 79; refine (fenLen_nil _).mono ?_; rintro e w' ⟨rfl, hw⟩; obtain rfl : _ = w' := hw.symm)
    go_ret
    exact ⟨by simp [h1], rfl⟩
  · go_enter Tryz.func102, Tryz.ntmps102
    go_wp2
    go_ret
    exact ⟨rfl, rfl⟩
theorem fenFind_nil (v : Int) (w : World) : Calls Tryz.prog 90 #[.pointer none, .int .i64 v] w fun e w' => e = .returned (.tuple #[.int .i64 0, .bool false]) ∧ w' = w := by
  by_cases h0 : v < 0
  · go_enter Tryz.func90, Tryz.ntmps90
    go_wp2
    go_ret2
    exact ⟨rfl, rfl⟩
  · have h1 : 0 ≤ v := by omega
    go_enter Tryz.func90, Tryz.ntmps90
    go_wp2_with (go_at_call 82; refine (fenTotal_nil _).mono ?_; rintro e w' ⟨rfl, hw⟩; obtain rfl : _ = w' := hw.symm)
    go_ret2
    exact ⟨rfl, rfl⟩
end Go.Proofs.YtgbibmgedmbboaaGreat
namespace Go.Proofs.YtgbibmgedmbboaaGreat
open Go.RowKit Go.Shelf
attribute [local go_sem] Oper.semAt_some

theorem fenGet_nil (i : Int) (w : World) :
    Calls Tryz.prog 81 #[.pointer none, .int .i64 i] w fun e w' => e = .returned (.int .i64 0) ∧ Below w.heap.size w w' := by
  have CH := Lib.hid (fenHas_nil i)
  refine (callsIn_wide (n := 4)).1 ?_
  refine callsIn_of_wp_marks Tryz.func81 rfl trivial ?_ rfl
  simp only [Tryz.ntmps81, List.size_toArray, List.length_cons, List.length_nil, Nat.reduceAdd, Nat.reduceSub, Array.replicate_succ, Array.replicate_zero, List.push_toArray, List.append_toArray, List.nil_append, List.cons_append]
  gi_wp2_with (refine ⟨trivial, ?_⟩; gi_at_call 102; refine (callsIn_wide.2 (CH.out _)).mono ?_; rintro e w' ⟨rfl, rfl⟩)
  refine ⟨_, results_tmp rfl _ _ _, ?_⟩
  exact ⟨rfl, (Below.refl _ _).alloc (Nat.le_refl _) _⟩

set_option maxRecDepth 100000 in
set_option maxHeartbeats 2000000 in
theorem fenBelow_nil (i : Int) (w : World) :
    Calls Tryz.prog 80 #[.pointer none, .int .i64 i] w fun e w' => e = .returned (.int .i64 0) ∧ Below w.heap.size w w' := by
  have CL := Lib.hid fenLen_nil
  have cd := fenDown_any (min (max i 0) 0) 0
  have CD := Lib.hid cd
  have hm : min (max i 0) 0 = 0 := by omega
  have HM := Lib.hid hm
  clear cd hm
  refine (callsIn_wide (n := 4)).1 ?_
  refine callsIn_of_wp_marks Tryz.func80 rfl trivial ?_ rfl
  simp only [Tryz.ntmps80, List.size_toArray, List.length_cons, List.length_nil, Nat.reduceAdd, Nat.reduceSub, Array.replicate_succ, Array.replicate_zero, List.push_toArray, List.append_toArray, List.nil_append, List.cons_append]
  gi_wp2_with (first
    | (refine ⟨trivial, ?_⟩; gi_at_call 79; refine (callsIn_wide.2 (CL.out _)).mono ?_; rintro e w' ⟨rfl, rfl⟩)
    | (refine ⟨trivial, ?_⟩; gi_at_call 101; refine (callsIn_wide.2 (CD.out _)).mono ?_; rintro e w3 ⟨rfl, hb3, hs3, hbp, hbe⟩))
  rw [HM.out] at hbp
  have hBs := Boxed.new (w.alloc (.cells #[.pointer none] 129)) 3 (.int .i64 0)
  have hB2 : Below w.heap.size w _ := ((Below.refl _ w).alloc (Nat.le_refl _) (.cells #[.pointer none] 129)).alloc (by simp) (.cells #[.int .i64 0] 3)
  simp only [World.size_alloc] at hs3 hbp hbe hBs
  have hBs3 : Boxed w3 (w.heap.size + 1) 3 (.int .i64 0) := (hb3.block _ (by simp)).trans hBs
  have hB3 := hB2.trans (hb3.mono hB2.size)
  obtain ⟨BT, hBT⟩ : ∃ BT, BT = w.heap.size := ⟨_, rfl⟩
  clear hBs hB2 hb3
  rw [← hBT] at hs3 hbp hbe hBs3 ⊢
  have hle : w.heap.size ≤ BT := by omega
  clear hBT
  refine wpIn_range_state (by omega) (gf := 108) (lb := #[.pointer (some ⟨BT + 1 + 1, 0, none⟩), .pointer (some ⟨BT + 1 + 1 + 1, 0, none⟩)]) rfl (enters_of Tryz.func108 (by kernel_rfl) rfl)
    (down1_hands 3 (by omega) (BT + 1 + 1) (BT + 1 + 1 + 1) 0 0 (by omega) (by omega) [] (Nat.le_refl 0) w3 hbp hbe) (fun k hk => by rcases hk with rfl | rfl <;> omega) (by omega) (fun _ => rfl)
    (fun _ W => Boxed W (BT + 1) 3 (.int .i64 0) ∧ Below w.heap.size w W)
    (fun s A B row h hg hr => ⟨boxed_grown h.1 hg hr (by omega), h.2.grown hg h.2.size (fun r e => by rcases hr r e with e | e <;> omega)⟩) (fun _ _ k h => ⟨h.1, below_drewN h.2 k⟩) ⟨hBs3, hB3⟩
    (fun x => { tmps := #[.pointer none, .int .i64 i, .pointer (some ⟨BT, 0, none⟩), undef, .int .i64 0, .pointer (some ⟨BT + 1, 0, none⟩), .int .i64 (x : Int), .int .i64 i, .int .i64 (max i 0), .pointer none, .int .i64 0, .int .i64 (min (max i 0) 0), .func (.func 108) #[] #[.pointer (some ⟨BT + 1 + 1, 0, none⟩), .pointer (some ⟨BT + 1 + 1 + 1, 0, none⟩)], .int .i64 (x : Int), undef, undef, undef, undef, undef, undef, undef, undef, undef, undef], defers := [] }) ?assign ?body ?done
  case assign =>
    intro l x Wd K hK
    gi_wp2
    exact hK
  case body =>
    rintro l pre x rest Wd hxs
    simp at hxs
  case done =>
    rintro D Wd hD ⟨hs, hB⟩ hK
    have hsc := hs.cell
    gi_wp2
    refine ⟨by simp, .inl ⟨_, _, rfl, run_takeDeferred hK, ?_⟩⟩
    refine ⟨_, results_tmp rfl _ _ _, ?_⟩
    exact ⟨rfl, hB.trans (belowK_b (w := w) (Nat.le_refl _) Wd D _ _ (by rw [hs3] at hD; omega) hK rfl rfl)⟩

theorem nil_new1 (w : World) : Calls Tryz.prog 85 #[.int .i64 4096] w fun e w' => ∃ T, e = .returned (.pointer (some ⟨T, 0, none⟩)) ∧ ∃ S, IsTree w' T S (List.replicate 4096 0) ∧ (w.heap.size ≤ T ∧ w.heap.size ≤ S) ∧ Below w.heap.size w w' :=
  fenNew_any 4096 w (by decide) (by decide)
theorem nil_new2 (w : World) : Calls Tryz.prog 85 #[.int .i64 4097] w fun e w' => e = .returned (.pointer none) ∧ w' = w := fenNew_bad 4097 w (.inr (by decide))
theorem nil_addN {w : World} {T S : Nat} (n k : Nat) (hk : k < n) (h : IsTree w T S (List.replicate n 0)) : Calls Tryz.prog 83 #[.pointer (some ⟨T, 0, none⟩), .int .i64 (k : Int), .int .i64 1] w fun e w' => e = .returned (.int .i64 0) ∧ (∃ c, c.sum = 1 ∧ IsTree w' T S c) ∧ TurnsB T S w w' := by
  have hs : (List.replicate n (0 : Int)).sum = 0 := by simp
  have hk : k < (List.replicate n (0 : Int)).length := by simpa using hk
  have hg : (List.replicate n (0 : Int))[k]'hk = 0 := by simp
  have h2 := fenAdd_any k 1 h hk (by rw [hg]; decide) (by rw [hs]; decide)
  refine h2.mono fun e w' hh => ⟨hh.1, ⟨_, ?_, hh.2.1⟩, hh.2.2⟩
  rw [set_sum _ _ hk, hs]; decide
theorem nil_add {w : World} {T S : Nat} (h : IsTree w T S (List.replicate 4096 0)) : Calls Tryz.prog 83 #[.pointer (some ⟨T, 0, none⟩), .int .i64 4095, .int .i64 1] w fun e w' => e = .returned (.int .i64 0) ∧ (∃ c, c.sum = 1 ∧ IsTree w' T S c) ∧ TurnsB T S w w' :=
  nil_addN 4096 4095 (by decide) h

end Go.Proofs.YtgbibmgedmbboaaGreat
namespace Go.Proofs.YtgbibmgedmbboaaGreat
open Go.RowKit

/-- The first k counts are laid, the others are 0. -/
def laidC (l : List UInt8) (k : Nat) : List Int := (l.take k).map (fun c => (c.toNat : Int)) ++ List.replicate (l.length - k) 0
theorem laidC_len (l : List UInt8) (k : Nat) (h : k ≤ l.length) : (laidC l k).length = l.length := by simp [laidC]; omega
theorem laidC_get (l : List UInt8) (k : Nat) (h : k < l.length) (h' : k < (laidC l k).length) : (laidC l k)[k]'h' = 0 := by
  have e : (laidC l k)[k]? = some 0 := by
    unfold laidC
    rw [List.getElem?_append_right (by simp; omega), List.getElem?_replicate, if_pos (by simp; omega)]
  rwa [List.getElem?_eq_getElem h', Option.some.injEq] at e
theorem laidC_set (l : List UInt8) (k : Nat) (h : k < l.length) : (laidC l k).set k (0 + (l[k].toNat : Int)) = laidC l (k + 1) := by
  unfold laidC
  rw [List.set_append_right _ _ (by simp; omega), List.take_add_one, List.getElem?_eq_getElem h]
  have e1 : k - ((l.take k).map (fun c => (c.toNat : Int))).length = 0 := by simp; omega
  have e2 : l.length - k = (l.length - (k + 1)) + 1 := by omega
  rw [e1, e2, List.replicate_succ, List.set_cons_zero, List.map_append, List.append_assoc, Int.zero_add]
  rfl
theorem laidC_sum (l : List UInt8) : ∀ k, (laidC l k).sum ≤ 255 * k := by
  intro k
  unfold laidC
  rw [List.sum_append]
  have h0 : (List.replicate (l.length - k) (0 : Int)).sum = 0 := by simp
  rw [h0, Int.add_zero]
  have key : ∀ m : List UInt8, (m.map (fun c => (c.toNat : Int))).sum ≤ 255 * m.length := by
    intro m
    induction m with
    | nil => simp
    | cons a r ih => have := a.toNat_lt; simp only [List.map_cons, List.sum_cons, List.length_cons]; omega
  have := key (l.take k)
  have h2 : (l.take k).length ≤ k := by simp; omega
  omega

theorem yes_trans {w w' : World} {e : Ending} {w'' : World} (hb : Below w.heap.size w w') (h : Yes w' e w'') : Yes w e w'' := ⟨h.1, hb.trans (h.2.mono hb.size)⟩

end Go.Proofs.YtgbibmgedmbboaaGreat
namespace Go.Proofs.YtgbibmgedmbboaaGreat
open Go.RowKit

/-- A row of the call's own, and a tree, stay where memory grows. -/
theorem own_grow {w w' : World} {base e size n : Nat} {v : Value} {xs : List Value} (h : w.ownsRow base e size v n xs) (hb : Below w.heap.size w w') : w'.ownsRow base e size v n xs := own_kept h hb
end Go.Proofs.YtgbibmgedmbboaaGreat
namespace Go.Proofs.YtgbibmgedmbboaaGreat
open Go.RowKit Go.Sort

/-- A row of counts, and its tree, beside one another. -/
structure Both (w wr : World) (B T S n : Nat) (mv : Value) (c : List Int) : Prop where
  tree : IsTree wr T S c
  len : c.length = n
  own : wr.ownsRow B 3 1 mv n (zvs c)
  below : Below w.heap.size w wr
  lt : B ≤ wr.heap.size
  ts : w.heap.size ≤ T ∧ w.heap.size ≤ S ∧ T < B ∧ S < B
theorem Both.grow {w wr w' : World} {B T S n : Nat} {mv : Value} {c : List Int} (h : Both w wr B T S n mv c) (hb : Below wr.heap.size wr w') : Both w w' B T S n mv c :=
  ⟨h.tree.grow hb, h.len, own_kept h.own hb, h.below.trans (hb.mono h.below.size), Nat.le_trans h.lt hb.size, h.ts⟩
theorem Both.drewN {w wr : World} {B T S n : Nat} {mv : Value} {c : List Int} (h : Both w wr B T S n mv c) (k : Nat) : Both w (wr.drewN k) B T S n mv c := h.grow (below_drawn _ _)
section
variable {w x : World} {B T S n m g : Nat} {A : Option Addr} {mv : Value} {c : List Int}
theorem both_total (h : Both w x B T S n mv c) : Calls Tryz.prog 82 #[.pointer (some ⟨T, 0, none⟩)] x fun e w' => e = .returned (.int .i64 c.sum) ∧ w' = x := fenTotal_any h.tree.2
theorem both_total2 (h : Both w x B T S n mv c) : Calls Tryz.prog 82 #[.pointer (some ⟨T, 0, none⟩)] x fun e w' => e = .returned (.int .i64 (fPre c n)) ∧ w' = x := by
  rw [fPre_most c (by rw [h.len]; exact Nat.le_refl _)]
  exact both_total h
theorem both_len (h : Both w x B T S n mv c) (h60 : n ≤ 60) : Calls Tryz.prog 79 #[.pointer (some ⟨T, 0, none⟩)] x fun e w' => e = .returned (.int .i64 (n : Int)) ∧ w' = x := by
  have := fenLen_any h.tree.2 (by rw [h.len]; omega)
  rwa [h.len] at this
theorem both_below (i : Int) (h : Both w x B T S n mv c) (p : Nat) (hp : (p : Int) = min (max i 0) (n : Int)) :
    Calls Tryz.prog 80 #[.pointer (some ⟨T, 0, none⟩), .int .i64 i] x fun e w' => e = .returned (.int .i64 (fPre c p)) ∧ Below x.heap.size x w' := fenBelow_any i h.tree p (by rw [h.len]; exact hp)
theorem both_rbelow (i : Int) (h : Both w x B T S n (.slice A n m) c) (h60 : n ≤ 60) (p : Nat) (hp : (p : Int) = min (max i 0) (n : Int)) :
    Calls Tryz.prog 51 #[.slice A n m, .int .i64 i] x fun e w' => e = .returned (.int .i64 (fPre c p)) ∧ w' = x :=
  rBelow_any i (Rd.of_own h.own) h.len h.tree.1.2.1 (Int.le_trans h.tree.1.2.2 (by decide)) (by omega) p hp
theorem both_rsum_same {x' : World} (h : Both w x B T S n (.slice A n m) c) (h1 : 1 ≤ n) (h60 : n ≤ 60) (e : x'.heap = x.heap) :
    Calls Tryz.prog 51 #[.slice A n m, .int .i64 (n : Int)] x' fun e w' => e = .returned (.int .i64 c.sum) ∧ w' = x' := by
  have := rBelow_any (m := m) (n : Int) (rd_same (Rd.of_own h.own) e) h.len h.tree.1.2.1 (Int.le_trans h.tree.1.2.2 (by decide)) (by omega) n (by omega)
  rwa [fPre_most c (by rw [h.len]; exact Nat.le_refl _)] at this
theorem both_rsum (h : Both w x B T S n (.slice A n m) c) (h1 : 1 ≤ n) (h60 : n ≤ 60) :
    Calls Tryz.prog 51 #[.slice A n m, .int .i64 (n : Int)] x fun e w' => e = .returned (.int .i64 c.sum) ∧ w' = x := both_rsum_same h h1 h60 rfl
/-- A count is stored into the row. -/
theorem both_store {cm i : Nat} {v : Int} {nq : Nat} {xs : List Value} (h : Both w x B T S n (.slice (some ⟨g, 0, none⟩) n cm) c) (hg : B ≤ g) (hs : (x.setCell ⟨g, i, none⟩ (.int .i64 v)).ownsRow B 3 1 (.slice (some ⟨g, 0, none⟩) n cm) n xs) :
    IsTree ((x.drewN nq).setCell ⟨g, i, none⟩ (.int .i64 v)) T S c ∧ ((x.drewN nq).setCell ⟨g, i, none⟩ (.int .i64 v)).ownsRow B 3 1 (.slice (some ⟨g, 0, none⟩) n cm) n xs ∧
      Below w.heap.size w ((x.drewN nq).setCell ⟨g, i, none⟩ (.int .i64 v)) ∧ B ≤ ((x.drewN nq).setCell ⟨g, i, none⟩ (.int .i64 v)).heap.size := by
  have hts := h.ts
  have hgr := grownBy_setCell' x g (.int .i64 v)
  have hsz : x.heap.size ≤ (x.setCell ⟨g, i, none⟩ (.int .i64 v)).heap.size := by simp [World.setCell]
  have h1 : Lies (x.setCell ⟨g, i, none⟩ (.int .i64 v)) T S c.length (fRow c) c.sum := ⟨h.tree.2.tb.setOther _ _ (by simp; omega), h.tree.2.sb.setOther _ _ (by simp; omega)⟩
  have h2 := h.below.setCell (p := ⟨g, i, none⟩) (by simp; omega) (.int .i64 v)
  exact ⟨⟨h.tree.1, ⟨h1.tb, h1.sb⟩⟩, ⟨hs.1, hs.2⟩, ⟨h2.os, h2.tape, h2.output, h2.size, h2.block⟩, Nat.le_trans h.lt hsz⟩
/-- And then added to the tree. -/
theorem both_add {x0 x' : World} {c0 c1 : List Int} (h : Both w x0 B T S n mv c0) (ho : x.ownsRow B 3 1 mv n (zvs c1)) (hb : Below w.heap.size w x ∧ B ≤ x.heap.size) (ht : IsTree x' T S c1) (hu : TurnsB T S x x') (hl : c1.length = n) : Both w x' B T S n mv c1 :=
  ⟨ht, hl, own_turns ho hu h.ts.2.2.1 h.ts.2.2.2, hb.1.trans (hu.below h.ts.1 h.ts.2.1 hb.1.size), Nat.le_trans hb.2 hu.size, h.ts⟩
theorem both_rhalve (h : x.ownsRow B 3 1 (.slice A n m) n (zvs c)) (hc : Counts c) (hl : c.length = n) (h60 : n ≤ 60) :
    Calls Tryz.prog 53 #[.slice A n m] x fun e w' => ∃ v, e = .returned v ∧ w'.ownsRow x.heap.size 3 1 v n (zvs (fHalf c)) ∧ Below x.heap.size x w' :=
  rHalve_any (Rd.of_own h) (Nat.le_refl _) hl (fun y hy => by
    obtain ⟨i, hi, rfl⟩ := List.getElem_of_mem hy
    exact ⟨hc.2.1 _ hy, Int.le_trans (le_sum12 hc.2.1 hi) (Int.le_trans hc.2.2 (by decide))⟩) (by omega)
theorem both_halve {x3 x4 : World} {v4 : Value} (h : Both w x B T S n mv c) (hu : TurnsB T S x x3) (ht : IsTree x3 T S (fHalf c)) (ho : x4.ownsRow x3.heap.size 3 1 v4 n (zvs (fHalf c))) (hb : Below x3.heap.size x3 x4) : Both w x4 B T S n v4 (fHalf c) :=
  ⟨ht.grow hb, by rw [fHalf_length]; exact h.len, own_more ho (Nat.le_trans h.lt hu.size), (h.below.trans (hu.below h.ts.1 h.ts.2.1 h.below.size)).trans (hb.mono (Nat.le_trans h.below.size hu.size)), Nat.le_trans h.lt (Nat.le_trans hu.size hb.size), h.ts⟩
theorem fFind_out (hc : ∀ x ∈ c, 0 ≤ x) {v : Int} (hf : fFind c v = none) : v < 0 ∨ c.sum ≤ v := by
  rcases Int.lt_or_le v 0 with h | h
  · exact .inl h
  · refine .inr (Int.not_lt.1 fun h' => ?_)
    have := (fSeek_find hc h h' (k := c.length) Nat.lt_two_pow_self).1
    rw [hf] at this; cases this
theorem fenFind_val (v : Int) (h : IsTree x T S c) : Calls Tryz.prog 90 #[.pointer (some ⟨T, 0, none⟩), .int .i64 v] x fun e w' => e = .returned (findV (fFind c v)) ∧ w' = x := by
  cases hf : fFind c v with
  | none => exact fenFind_none v h (fFind_out h.1.2.1 hf)
  | some r => exact fenFind_some v r h hf
end
end Go.Proofs.YtgbibmgedmbboaaGreat
