/- Layer 12: a row of counts and its tree, beside one another. -/
import Derived.Test.YtfjfjadlpnlmjaaFenSteps
import Derived.Test.YtfjfjadlpnlmjaaFenFinds
import Derived.Lib.QuietBelow
namespace Go.Proofs.Ytfjfjadlpnlmjaa
open Go.RowKit Go.Sort

/-- A row of counts, and its tree, beside one another. -/
structure Both (w wr : World) (B T S n : Nat) (mv : Value) (c : List Int) : Prop where
  tree : IsTree wr T S c
  len : c.length = n
  own : wr.ownsRow B 3 1 mv n (zvs c)
  below : Below w.heap.size w wr
  lt : B ≤ wr.heap.size
  ts : w.heap.size ≤ T ∧ w.heap.size ≤ S ∧ T < B ∧ S < B
theorem Both.grow {w wr w' : World} {B T S n : Nat} {mv : Value} {c : List Int} (h : Both w wr B T S n mv c) (hb : Below wr.heap.size wr w') : Both w w' B T S n mv c :=
  ⟨h.tree.grow hb, h.len, own_kept h.own hb, h.below.trans (hb.mono h.below.size), Nat.le_trans h.lt hb.size, h.ts⟩
theorem below_drawn (w : World) (k : Nat) : Below w.heap.size w (w.drewN k) := ⟨rfl, rfl, rfl, Nat.le_refl _, fun _ _ => rfl⟩
theorem Both.drewN {w wr : World} {B T S n : Nat} {mv : Value} {c : List Int} (h : Both w wr B T S n mv c) (k : Nat) : Both w (wr.drewN k) B T S n mv c := h.grow (below_drawn _ _)
theorem quietB {P : Program} {f : FuncId} {args : Array Value} {x : World} {v : Value} (h : Calls P f args x fun e w' => e = .returned v ∧ w' = x) : Calls P f args x fun e w' => e = .returned v ∧ Below x.heap.size x w' :=
  h.mono fun _ _ h => ⟨h.1, h.2 ▸ Below.refl _ _⟩

section
variable {w x : World} {B T S n m g : Nat} {A : Option Addr} {mv : Value} {c : List Int}
theorem both_total (h : Both w x B T S n mv c) : Calls Try.prog 17 #[.pointer (some ⟨T, 0, none⟩)] x fun e w' => e = .returned (.int .i64 c.sum) ∧ w' = x := fenTotal_any h.tree.2
theorem both_total2 (h : Both w x B T S n mv c) : Calls Try.prog 17 #[.pointer (some ⟨T, 0, none⟩)] x fun e w' => e = .returned (.int .i64 (fPre c n)) ∧ w' = x := by
  rw [fPre_most c (by rw [h.len]; exact Nat.le_refl _)]
  exact both_total h
theorem both_len (h : Both w x B T S n mv c) (h60 : n ≤ 60) : Calls Try.prog 19 #[.pointer (some ⟨T, 0, none⟩)] x fun e w' => e = .returned (.int .i64 (n : Int)) ∧ w' = x := by
  have := fenLen_any h.tree.2 (by rw [h.len]; omega)
  rwa [h.len] at this
theorem both_below (i : Int) (h : Both w x B T S n mv c) (p : Nat) (hp : (p : Int) = min (max i 0) (n : Int)) :
    Calls Try.prog 18 #[.pointer (some ⟨T, 0, none⟩), .int .i64 i] x fun e w' => e = .returned (.int .i64 (fPre c p)) ∧ Below x.heap.size x w' := fenBelow_any i h.tree p (by rw [h.len]; exact hp)
theorem rd_same {w w' : World} {N : Nat} {A : Option Addr} {xs : List Value} (h : Rd w N A xs) (e : w'.heap = w.heap) : Rd w' N A xs := h.keep fun p _ => World.cell?_of_block (by rw [e])
theorem both_rbelow (i : Int) (h : Both w x B T S n (.slice A n m) c) (h60 : n ≤ 60) (p : Nat) (hp : (p : Int) = min (max i 0) (n : Int)) :
    Calls Try.prog 11 #[.slice A n m, .int .i64 i] x fun e w' => e = .returned (.int .i64 (fPre c p)) ∧ w' = x :=
  rBelow_any i (Rd.of_own h.own) h.len h.tree.1.2.1 (Int.le_trans h.tree.1.2.2 (by decide)) (by omega) p hp
theorem both_rsum_same {x' : World} (h : Both w x B T S n (.slice A n m) c) (h1 : 1 ≤ n) (h60 : n ≤ 60) (e : x'.heap = x.heap) :
    Calls Try.prog 11 #[.slice A n m, .int .i64 (n : Int)] x' fun e w' => e = .returned (.int .i64 c.sum) ∧ w' = x' := by
  have := rBelow_any (m := m) (n : Int) (rd_same (Rd.of_own h.own) e) h.len h.tree.1.2.1 (Int.le_trans h.tree.1.2.2 (by decide)) (by omega) n (by omega)
  rwa [fPre_most c (by rw [h.len]; exact Nat.le_refl _)] at this
theorem both_rsum (h : Both w x B T S n (.slice A n m) c) (h1 : 1 ≤ n) (h60 : n ≤ 60) :
    Calls Try.prog 11 #[.slice A n m, .int .i64 (n : Int)] x fun e w' => e = .returned (.int .i64 c.sum) ∧ w' = x := both_rsum_same h h1 h60 rfl
theorem le_sum12 (hc : ∀ x ∈ c, 0 ≤ x) {i : Nat} (hi : i < c.length) : c[i] ≤ c.sum := by
  have h1 := fPre_succ c i hi
  have h2 := fPre_le hc (i + 1)
  have h3 := fPre_nn hc i
  omega
theorem own_turns {x' : World} {base e size : Nat} {v : Value} {xs : List Value} {k : Nat} (h : x.ownsRow base e size v k xs) (ht : TurnsB T S x x') (hT : T < base) (hS : S < base) : x'.ownsRow base e size v k xs := by
  refine ⟨h.1, ?_⟩
  rcases h.2 with h0 | ⟨g, cap, cur, rfl, hbg, hg, rest⟩
  · exact .inl h0
  · exact .inr ⟨g, cap, cur, rfl, hbg, by rw [ht.block g (Array.getElem?_eq_some_iff.1 hg).1 (by omega) (by omega)]; exact hg, rest⟩
/-- A count is stored into the row. -/
theorem both_store {cm i : Nat} {v : Int} {nq : Nat} {xs : List Value} (h : Both w x B T S n (.slice (some ⟨g, 0, none⟩) n cm) c) (hg : B ≤ g) (hs : (x.setCell ⟨g, i, none⟩ (.int .i64 v)).ownsRow B 3 1 (.slice (some ⟨g, 0, none⟩) n cm) n xs) :
    IsTree ((x.drewN nq).setCell ⟨g, i, none⟩ (.int .i64 v)) T S c ∧ ((x.drewN nq).setCell ⟨g, i, none⟩ (.int .i64 v)).ownsRow B 3 1 (.slice (some ⟨g, 0, none⟩) n cm) n xs ∧
      Below w.heap.size w ((x.drewN nq).setCell ⟨g, i, none⟩ (.int .i64 v)) ∧ B ≤ ((x.drewN nq).setCell ⟨g, i, none⟩ (.int .i64 v)).heap.size := by
  have hts := h.ts
  have hgr := grownBy_setCell' x g (.int .i64 v)
  have hsz : x.heap.size ≤ (x.setCell ⟨g, i, none⟩ (.int .i64 v)).heap.size := by simp [World.setCell]
  have h1 : Lies (x.setCell ⟨g, i, none⟩ (.int .i64 v)) T S c.length (fRow c) c.sum := ⟨h.tree.2.tb.setOther _ _ (by simp; omega), h.tree.2.sb.setOther _ _ (by simp; omega)⟩
  have h2 := h.below.setCell (p := ⟨g, i, none⟩) (by simp; omega) (.int .i64 v)
  exact ⟨⟨h.tree.1, ⟨h1.tb, h1.sb⟩⟩, ⟨hs.1, hs.2⟩, ⟨h2.os, h2.tape, h2.output, h2.size, h2.block⟩, Nat.le_trans h.lt hsz⟩
/-- And then added to the tree. -/
theorem both_add {x0 x' : World} {c0 c1 : List Int} (h : Both w x0 B T S n mv c0) (ho : x.ownsRow B 3 1 mv n (zvs c1)) (hb : Below w.heap.size w x ∧ B ≤ x.heap.size) (ht : IsTree x' T S c1) (hu : TurnsB T S x x') (hl : c1.length = n) : Both w x' B T S n mv c1 :=
  ⟨ht, hl, own_turns ho hu h.ts.2.2.1 h.ts.2.2.2, hb.1.trans (hu.below h.ts.1 h.ts.2.1 hb.1.size), Nat.le_trans hb.2 hu.size, h.ts⟩
theorem both_rhalve (h : x.ownsRow B 3 1 (.slice A n m) n (zvs c)) (hc : Counts c) (hl : c.length = n) (h60 : n ≤ 60) :
    Calls Try.prog 14 #[.slice A n m] x fun e w' => ∃ v, e = .returned v ∧ w'.ownsRow x.heap.size 3 1 v n (zvs (fHalf c)) ∧ Below x.heap.size x w' :=
  rHalve_any (Rd.of_own h) (Nat.le_refl _) hl (fun y hy => by
    obtain ⟨i, hi, rfl⟩ := List.getElem_of_mem hy
    exact ⟨hc.2.1 _ hy, Int.le_trans (le_sum12 hc.2.1 hi) (Int.le_trans hc.2.2 (by decide))⟩) (by omega)
theorem both_halve {x3 x4 : World} {v4 : Value} (h : Both w x B T S n mv c) (hu : TurnsB T S x x3) (ht : IsTree x3 T S (fHalf c)) (ho : x4.ownsRow x3.heap.size 3 1 v4 n (zvs (fHalf c))) (hb : Below x3.heap.size x3 x4) : Both w x4 B T S n v4 (fHalf c) :=
  ⟨ht.grow hb, by rw [fHalf_length]; exact h.len, own_more ho (Nat.le_trans h.lt hu.size), (h.below.trans (hu.below h.ts.1 h.ts.2.1 h.below.size)).trans (hb.mono (Nat.le_trans h.below.size hu.size)), Nat.le_trans h.lt (Nat.le_trans hu.size hb.size), h.ts⟩
theorem fFind_out (hc : ∀ x ∈ c, 0 ≤ x) {v : Int} (hf : fFind c v = none) : v < 0 ∨ c.sum ≤ v := by
  rcases Int.lt_or_le v 0 with h | h
  · exact .inl h
  · refine .inr (Int.not_lt.1 fun h' => ?_)
    have := (fSeek_find hc h h' (k := c.length) Nat.lt_two_pow_self).1
    rw [hf] at this; cases this
theorem fenFind_val (v : Int) (h : IsTree x T S c) : Calls Try.prog 15 #[.pointer (some ⟨T, 0, none⟩), .int .i64 v] x fun e w' => e = .returned (findV (fFind c v)) ∧ w' = x := by
  cases hf : fFind c v with
  | none => exact fenFind_none v h (fFind_out h.1.2.1 hf)
  | some r => exact fenFind_some v r h hf
theorem both_rfind (v : Int) (h : Both w x B T S n (.slice A n m) c) (h60 : n ≤ 60) : Calls Try.prog 16 #[.slice A n m, .int .i64 v] x fun e w' => e = .returned (findV (fFind c v)) ∧ w' = x :=
  rFind_any v (Rd.of_own h.own) h.len h.tree.1.2.1 (Int.le_trans h.tree.1.2.2 (by decide)) (by omega)
end
end Go.Proofs.Ytfjfjadlpnlmjaa
