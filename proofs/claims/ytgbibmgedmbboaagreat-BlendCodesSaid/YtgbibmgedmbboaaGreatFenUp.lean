/- Mathematics of layer 12: a count that is d more: the way up, place by place. · Contracts of layer 12: lift, Halve. -/
import Derived.Test.YtgbibmgedmbboaaGreatFenSeq
import Derived.Test.YtgbibmgedmbboaaGreatFenTree
namespace Go.Proofs.YtgbibmgedmbboaaGreat

/-- Where the way up stands, behind some places. -/
def upAt (p : Nat) : List Nat → Nat
  | [] => p
  | x :: r => upAt (x + fLow x) r
theorem upAt_snoc (l : List Nat) : ∀ (p x : Nat), upAt p (l ++ [x]) = x + fLow x := by
  induction l with
  | nil => intro p x; rfl
  | cons y r ih => intro p x; exact ih _ x
theorem isUp_at {n : Nat} : ∀ {pre rest : List Nat} {p : Nat}, IsUp n p (pre ++ rest) → IsUp n (upAt p pre) rest := by
  intro pre
  induction pre with
  | nil => intro rest p h; exact h
  | cons y r ih => intro rest p h; obtain ⟨rfl, -, h⟩ := h; exact ih h

/-- The places below q are those of c', the others those of c. -/
def mixRow (c c' : List Int) (q : Nat) : List Int := (List.range (c.length + 1)).map fun j => if j < q then fNode c' j else fNode c j
theorem mixRow_len (c c' : List Int) (q : Nat) : (mixRow c c' q).length = c.length + 1 := by simp [mixRow]
theorem mixRow_get (c c' : List Int) (q j : Nat) (h : j ≤ c.length) : (mixRow c c' q)[j]? = some (if j < q then fNode c' j else fNode c j) := by
  unfold mixRow; rw [List.getElem?_map, List.getElem?_range (by omega)]; rfl
/-- Of the places from q on, those that have the k-th count are those that begin ahead of q. -/
def Mix (n k q : Nat) : Prop := k + 1 ≤ q ∧ ∀ j, q ≤ j → j ≤ n → ((j - fLow j < k + 1 ∧ k + 1 ≤ j) ↔ j - fLow j < q)
theorem mix_first (n k : Nat) : Mix n k (k + 1) := ⟨Nat.le_refl _, fun _ hj _ => ⟨fun h => h.1, fun h => ⟨h, hj⟩⟩⟩
theorem mix_next {n k q : Nat} (hn : n < 2 ^ 64) (h : Mix n k q) : Mix n k (q + fLow q) := by
  have hpos := fLow_pos q
  refine ⟨by have := h.1; omega, fun j hj hjn => ?_⟩
  rw [h.2 j (by omega) hjn]
  exact ⟨fun x => by omega, fun x => up_beyond (by have := h.1; omega) hj (by omega) x⟩
theorem mixRow_first (c : List Int) (k : Nat) (h : k < c.length) (d : Int) : mixRow c (c.set k (c[k] + d)) (k + 1) = fRow c := by
  refine List.map_congr_left fun j _ => ?_
  split
  · rw [fNode_set c k h d j, if_neg (by omega), Int.add_zero]
  · rfl
theorem mixRow_next (c : List Int) (k q : Nat) (h : k < c.length) (d : Int) (hn : c.length < 2 ^ 64) (hm : Mix c.length k q) (hq : q ≤ c.length) :
    mixRow c (c.set k (c[k] + d)) (q + fLow q) = (mixRow c (c.set k (c[k] + d)) q).set q (fNode c q + d) := by
  have hpos := fLow_pos q
  have hq0 : 0 < q := by have := hm.1; omega
  have hql := fLow_le hq0 (by omega)
  refine List.ext_getElem? fun j => ?_
  rcases Nat.lt_or_ge j (c.length + 1) with hj | hj
  · rw [mixRow_get _ _ _ j (by omega)]
    by_cases e : q = j
    · subst e
      rw [List.getElem?_set_self (by rw [mixRow_len]; exact hj), if_pos (by omega), fNode_set c k h d q, if_pos ((hm.2 q (Nat.le_refl _) hq).2 (by omega))]
    · rw [List.getElem?_set_ne e, mixRow_get _ _ _ j (by omega)]
      by_cases h1 : j < q
      · rw [if_pos h1, if_pos (by omega)]
      · rw [if_neg h1]
        by_cases h2 : j < q + fLow q
        · rw [if_pos h2, fNode_set c k h d j, if_neg ?_, Int.add_zero]
          intro x
          have := (hm.2 j (by omega) (by omega)).1 x
          have := up_between hq0 (show q < j by omega) h2 (by omega)
          omega
        · rw [if_neg h2]
  · rw [List.getElem?_eq_none (by rw [mixRow_len]; exact hj), List.getElem?_eq_none (by rw [List.length_set, mixRow_len]; exact hj)]
theorem mixRow_most (c c' : List Int) (q : Nat) (hl : c'.length = c.length) (hq : c.length < q) : mixRow c c' q = fRow c' := by
  unfold mixRow fRow
  rw [hl]
  exact List.map_congr_left fun j hj => by have := List.mem_range.1 hj; rw [if_pos (by omega)]
theorem mix_all {n k : Nat} (hn : n < 2 ^ 64) : ∀ {pre rest : List Nat} {p : Nat}, Mix n k p → IsUp n p (pre ++ rest) → Mix n k (upAt p pre) := by
  intro pre
  induction pre with
  | nil => intro _ _ h _; exact h
  | cons y r ih =>
    intro rest p h hu
    obtain ⟨rfl, -, hu⟩ := hu
    exact ih (mix_next hn h) hu
theorem set_sum (c : List Int) (k : Nat) (h : k < c.length) (d : Int) : (c.set k (c[k] + d)).sum = c.sum + d := by
  have := fPre_set c k h d c.length
  rw [if_pos h, fPre_most c (Nat.le_refl _), fPre_most _ (by simp)] at this
  exact this
end Go.Proofs.YtgbibmgedmbboaaGreat
namespace Go.Proofs.YtgbibmgedmbboaaGreat
open Go.RowKit

theorem Lies.set_ {w : World} {T S n : Nat} {l : List Int} {t : Int} (h : Lies w T S n l t) (k : Nat) (x : Int) : Lies (w.setCell ⟨S, k, none⟩ (.int .i64 x)) T S n (l.set k x) t :=
  ⟨h.tb.setOther _ _ h.ne, by have := h.sb.set_ k (.int .i64 x); rwa [zvs_set] at this⟩
theorem Lies.setTotal {w : World} {T S n : Nat} {l : List Int} {t : Int} (h : Lies w T S n l t) (x : Int) : Lies (w.setCell ⟨T, 1, none⟩ (.int .i64 x)) T S n l x :=
  ⟨by have := h.tb.set_ 1 (.int .i64 x); simpa using this, h.sb.setOther _ _ h.ne.symm⟩
set_option maxHeartbeats 2000000 in
theorem fenLift_any {w : World} {T S n : Nat} {l : List Int} {t : Int} (p : Nat) (tm x y : Int) (h : Lies w T S n l t) (hn : n ≤ 4096) (hp0 : 0 < p) (hp : p ≤ n) (htm : tm = 1 ∨ tm = -1) (hx : l[p]? = some x) (hx0 : 0 ≤ x) (hx1 : x ≤ 65536)
    (hy : p + fLow p ≤ n → l[p + fLow p]? = some y ∧ 0 ≤ y ∧ y ≤ 65536) :
    Calls Tryz.prog 105 #[.pointer (some ⟨T, 0, none⟩), .int .i64 (p : Int), .int .i64 tm] w fun e w' => (∃ v, e = .returned v) ∧ Lies w' T S n (if p + fLow p ≤ n then l.set (p + fLow p) (y + tm * x) else l) t ∧ TurnsB T S w w' := by
  have C := Lib.hid (fenLowest_any p hp0 (by omega))
  have CL := Lib.hid (fenLen_any h hn)
  have hl1 := fLow_le (i := p) hp0 (by omega)
  have hl0 := fLow_pos p
  have HL := Lib.hid h
  have hT0 := h.tb.cell 0
  have hS := h.sb.cell p
  rw [zvs_get, hx] at hS
  simp only [List.getElem?_cons_zero, Option.map_some] at hT0 hS
  obtain ⟨lo, hlo⟩ : ∃ lo, lo = fLow p := ⟨_, rfl⟩
  rw [← hlo] at hl1 hl0 hy C ⊢
  have hpb : (p : Int) < (n : Int) + 1 := by omega
  clear hx hlo
  by_cases hin : p + lo ≤ n
  · obtain ⟨hy1, hy0, hy2⟩ := hy hin
    have hA := h.sb.cell (p + lo)
    rw [zvs_get, hy1] at hA
    simp only [Option.map_some] at hA
    have hF := h.sb.frozen (p + lo)
    have hini : (p : Int) + (lo : Int) ≤ (n : Int) := by omega
    have hinx : (p : Int) + (lo : Int) < (n : Int) + 1 := by omega
    have HSET := Lib.hid (h.set_ (p + lo) (y + tm * x))
    rw [if_pos hin]
    clear hy hy1 h
    rcases htm with rfl | rfl
    · rw [Int.one_mul] at HSET ⊢
      go_enter Tryz.func105, Tryz.ntmps105
      go_wp2_with (first
        | (go_at_call 103; refine (C.out _).mono ?_; rintro e w' ⟨rfl, rfl⟩)
        | (go_at_call 79; refine CL.out.mono ?_; rintro e w' ⟨rfl, rfl⟩))
      go_region
      all_goals go_wp2
      go_end0
      exact ⟨⟨_, rfl⟩, ⟨HSET.out.tb, HSET.out.sb⟩, (TurnsB.set_ _ _).drew⟩
    · rw [Int.neg_one_mul] at HSET ⊢
      go_enter Tryz.func105, Tryz.ntmps105
      go_wp2_with (first
        | (go_at_call 103; refine (C.out _).mono ?_; rintro e w' ⟨rfl, rfl⟩)
        | (go_at_call 79; refine CL.out.mono ?_; rintro e w' ⟨rfl, rfl⟩))
      go_region
      all_goals go_wp2
      go_end0
      exact ⟨⟨_, rfl⟩, ⟨HSET.out.tb, HSET.out.sb⟩, (TurnsB.set_ _ _).drew⟩
  · rw [if_neg hin]
    have hini : ¬ ((p : Int) + (lo : Int) ≤ (n : Int)) := by omega
    clear hy h
    go_enter Tryz.func105, Tryz.ntmps105
    go_wp2_with (first
      | (go_at_call 103; refine (C.out _).mono ?_; rintro e w' ⟨rfl, rfl⟩)
      | (go_at_call 79; refine CL.out.mono ?_; rintro e w' ⟨rfl, rfl⟩))
    go_end0
    exact ⟨⟨_, rfl⟩, HL.out, TurnsB.refl _ _ _⟩
end Go.Proofs.YtgbibmgedmbboaaGreat
