/- Layer 20: the reference's things, and the least of them. -/
import Derived.Test.YtjncmfoommlldaaLensR
import Derived.Test.YtjncmfoommlldaaInts
import Derived.Shelf.Abstract
namespace Go.Proofs.Ytjncmfoommlldaa
open Go.RowKit Go.Sort Go.Shelf

/-- A thing of the reference: its weight, the letters under it (a slice), whether it is here. -/
structure Th where
  w : Nat
  u : Value
  h : Bool
instance : Inhabited Th := ⟨⟨0, .bool false, false⟩⟩
def tv (k : Nat) (t : Th) : List Value := [.int .i64 (t.w : Int), .int .i64 (k : Int), t.u, .bool t.h]
def tvs : Nat → List Th → List Value
  | _, [] => []
  | k, t :: l => tv k t ++ tvs (k + 1) l
def th (l : List Th) (i : Nat) : Th := l.getD i default
theorem tvs_len (l : List Th) : ∀ k, (tvs k l).length = l.length * 4 := by
  induction l with
  | nil => intro k; rfl
  | cons t l ih => intro k; simp only [tvs, tv, List.length_append, List.length_cons, List.length_nil, ih]; omega
theorem tvs_append (l m : List Th) : ∀ k, tvs k (l ++ m) = tvs k l ++ tvs (k + l.length) m := by
  induction l with
  | nil => intro k; simp [tvs]
  | cons t l ih => intro k; simp only [List.cons_append, tvs, ih, List.append_assoc, List.length_cons]; rw [show k + 1 + l.length = k + (l.length + 1) by omega]
theorem tvs_get (l : List Th) : ∀ (k i j : Nat), i < l.length → j < 4 → (tvs k l)[i * 4 + j]? = (tv (k + i) (th l i))[j]? := by
  induction l with
  | nil => intro k i j h; simp at h
  | cons t l ih =>
    intro k i j h hj
    cases i with
    | zero =>
      rw [Nat.zero_mul, Nat.zero_add, tvs, List.getElem?_append_left (by simpa [tv] using hj)]
      rfl
    | succ i =>
      have := ih (k + 1) i j (by simpa using h) hj
      rw [tvs, List.getElem?_append_right (by simp [tv]; omega), show (i + 1) * 4 + j - (tv k t).length = i * 4 + j by simp [tv]; omega, this]
      rw [show k + 1 + i = k + (i + 1) by omega]
      rfl
def gone (t : Th) : Th := ⟨t.w, t.u, false⟩
theorem tvs_gone (l : List Th) : ∀ (k i : Nat), i < l.length → (tvs k l).set (i * 4 + 3) (.bool false) = tvs k (l.set i (gone (th l i))) := by
  induction l with
  | nil => intro k i h; simp at h
  | cons t l ih =>
    intro k i h
    cases i with
    | zero => rfl
    | succ i =>
      have := ih (k + 1) i (by simpa using h)
      rw [tvs, List.set_append_right _ _ (by simp [tv]; omega), show (i + 1) * 4 + 3 - (tv k t).length = i * 4 + 3 by simp [tv]; omega, this]
      rfl
theorem th_set (l : List Th) (i k : Nat) (x : Th) (h : i < l.length) : th (l.set i x) k = if k = i then x else th l k := by
  unfold th
  rw [List.getD_eq_getElem?_getD, List.getD_eq_getElem?_getD, List.getElem?_set]
  by_cases e : i = k
  · subst e; simp [h]
  · rw [if_neg e, if_neg (fun x => e x.symm)]
theorem th_push (l : List Th) (x : Th) (k : Nat) : th (l ++ [x]) k = if k < l.length then th l k else if k = l.length then x else default := by
  unfold th
  rw [List.getD_eq_getElem?_getD, List.getD_eq_getElem?_getD]
  by_cases h : k < l.length
  · rw [if_pos h, List.getElem?_append_left h]
  · rw [if_neg h, List.getElem?_append_right (by omega)]
    by_cases e : k = l.length
    · subst e; simp
    · rw [if_neg e, List.getElem?_eq_none (by simp; omega)]; rfl

/-- A row of things in block g. -/
structure TRow (w : World) (g : Nat) (l : List Th) : Prop where
  c0 : ∀ i, i < l.length → w.cell? ⟨g, i * 4, none⟩ = some (.int .i64 ((th l i).w : Int))
  c1 : ∀ i, i < l.length → w.cell? ⟨g, i * 4 + 1, none⟩ = some (.int .i64 (i : Int))
  c2 : ∀ i, i < l.length → w.cell? ⟨g, i * 4 + 2, none⟩ = some ((th l i).u)
  c3 : ∀ i, i < l.length → w.cell? ⟨g, i * 4 + 3, none⟩ = some (.bool (th l i).h)
theorem TRow.of {w : World} {g : Nat} {l : List Th} (h : ∀ j u, (tvs 0 l)[j]? = some u → w.cell? ⟨g, j, none⟩ = some u) : TRow w g l :=
  ⟨fun i hi => h _ _ (by have := tvs_get l 0 i 0 hi (by decide); rw [Nat.add_zero] at this; rw [this]; rfl),
   fun i hi => h _ _ (by rw [tvs_get l 0 i 1 hi (by decide), Nat.zero_add]; rfl),
   fun i hi => h _ _ (by rw [tvs_get l 0 i 2 hi (by decide)]; rfl),
   fun i hi => h _ _ (by rw [tvs_get l 0 i 3 hi (by decide)]; rfl)⟩
theorem TRow.same {w w' : World} {g : Nat} {l : List Th} (h : TRow w g l) (e : w'.heap = w.heap) : TRow w' g l := by
  have k : ∀ a, w'.cell? a = w.cell? a := fun a => World.cell?_of_block (by rw [e])
  exact ⟨fun i hi => (k _).trans (h.c0 i hi), fun i hi => (k _).trans (h.c1 i hi), fun i hi => (k _).trans (h.c2 i hi), fun i hi => (k _).trans (h.c3 i hi)⟩
/-- Is the thing i looked at? -/
def Seen (l : List Th) (but : Int) (k i : Nat) : Prop := i < k ∧ (th l i).h = true ∧ (i : Int) ≠ but
/-- The least of the first k: none (-1), or one. -/
inductive LeastR (l : List Th) (but : Int) (k : Nat) : Int → Prop
  | none (h : ∀ i, ¬ Seen l but k i) : LeastR l but k (-1)
  | some (a : Nat) (ha : Seen l but k a) (h : ∀ i, Seen l but k i → i ≠ a → (th l a).w < (th l i).w ∨ ((th l a).w = (th l i).w ∧ a < i)) : LeastR l but k (a : Int)
theorem seen_succ {l : List Th} {but : Int} {k i : Nat} : Seen l but (k + 1) i ↔ Seen l but k i ∨ (i = k ∧ (th l k).h = true ∧ (k : Int) ≠ but) := by
  unfold Seen
  constructor
  · rintro ⟨h1, h2, h3⟩
    by_cases e : i = k
    · subst e; exact .inr ⟨rfl, h2, h3⟩
    · exact .inl ⟨by omega, h2, h3⟩
  · rintro (⟨h1, h2, h3⟩ | ⟨rfl, h2, h3⟩)
    · exact ⟨by omega, h2, h3⟩
    · exact ⟨by omega, h2, h3⟩
theorem LeastR.skip {l : List Th} {but : Int} {k : Nat} {r : Int} (h : LeastR l but k r) (hs : ¬ ((th l k).h = true ∧ (k : Int) ≠ but)) : LeastR l but (k + 1) r := by
  cases h with
  | none h => exact .none fun i hi => (seen_succ.1 hi).elim (h i) (fun e => hs e.2)
  | some a ha h => exact .some a (seen_succ.2 (.inl ha)) fun i hi hne => (seen_succ.1 hi).elim (fun e => h i e hne) (fun e => absurd e.2 hs)
theorem LeastR.first {l : List Th} {but : Int} {k : Nat} (h : LeastR l but k (-1)) (hs : (th l k).h = true ∧ (k : Int) ≠ but) : LeastR l but (k + 1) (k : Int) := by
  generalize hr : (-1 : Int) = r at h
  cases h with
  | none h => exact .some k (seen_succ.2 (.inr ⟨rfl, hs⟩)) fun i hi hne => (seen_succ.1 hi).elim (fun e => absurd e (h i)) (fun e => absurd e.1 hne)
  | some a ha h => omega
theorem LeastR.less {l : List Th} {but : Int} {k a : Nat} (h : LeastR l but k (a : Int)) (hs : (th l k).h = true ∧ (k : Int) ≠ but) (hl : (th l k).w < (th l a).w) : LeastR l but (k + 1) (k : Int) := by
  generalize hr : (a : Int) = r at h
  cases h with
  | none h => omega
  | some b hb h =>
    obtain rfl : a = b := by omega
    refine .some k (seen_succ.2 (.inr ⟨rfl, hs⟩)) fun i hi hne => ?_
    rcases seen_succ.1 hi with e | e
    · by_cases hia : i = a
      · subst hia; exact .inl hl
      · have := h i e hia
        omega
    · exact absurd e.1 hne
theorem LeastR.more {l : List Th} {but : Int} {k a : Nat} (h : LeastR l but k (a : Int)) (hl : ¬ (th l k).w < (th l a).w) : LeastR l but (k + 1) (a : Int) := by
  generalize hr : (a : Int) = r at h
  cases h with
  | none h => omega
  | some b hb h =>
    obtain rfl : a = b := by omega
    refine .some a (seen_succ.2 (.inl hb)) fun i hi hne => ?_
    rcases seen_succ.1 hi with e | e
    · exact h i e hne
    · have := hb.1
      rw [e.1]
      omega
theorem LeastR.lt {l : List Th} {but : Int} {k : Nat} {r : Int} (h : LeastR l but k r) : r = -1 ∨ ∃ a : Nat, r = (a : Int) ∧ a < k := by
  cases h with
  | none => exact .inl rfl
  | some a ha => exact .inr ⟨a, rfl, ha.1⟩
theorem drewN_two2 (w : World) (a b : Nat) : (w.drewN a).drewN b = w.drewN (a + b) := by simp [World.drewN, Nat.add_assoc]
section
variable {w : World} {g n cap : Nat} {l : List Th}
set_option maxHeartbeats 2000000 in
set_option maxRecDepth 100000 in
theorem ref_least (hr : TRow w g l) (hn : l.length = n) (hn1 : n ≤ 10000) (A : Option Addr) (hA : 0 < n → A = some ⟨g, 0, none⟩) (but : Int) (hb : -1 ≤ but ∧ but ≤ 10000) :
    Calls Try.prog 45 #[.slice A n cap, .int .i64 but] w fun e w' => ∃ r, e = .returned (.int .i64 r) ∧ LeastR l but n r ∧ ∃ q, w' = w.drewN q := by
  have HR := Lib.hid hr
  have HN := Lib.hid hn
  have HA := Lib.hid hA
  clear hr hn hA
  go_enter Try.func45, Try.ntmps45
  go_wp2
  go_loopw [5, 6] (fun a i wr => ∃ (k q : Nat) (r : Int), k ≤ n ∧ i = .int .i64 (k : Int) ∧ a = .int .i64 r ∧ LeastR l but k r ∧ wr = w.drewN q) (fun _ i _ => n - (intOf i).toNat)
  case atStart => exact ⟨0, 0, -1, Nat.zero_le _, rfl, rfl, .none fun i h => by have := h.1; omega, rfl⟩
  case round =>
    obtain ⟨k, q, r, hk, rfl, rfl, hl, rfl⟩ := hrel
    by_cases hlt : k < n
    · have hkl : k < l.length := by have := HN.out; omega
      obtain rfl := HA.out (by omega)
      have hki : (k : Int) < (n : Int) := by omega
      have hc0 := HR.out.c0 k hkl
      have hc1 := HR.out.c1 k hkl
      have hc3 := HR.out.c3 k hkl
      have HL := Lib.hid hl
      have hrl := hl.lt
      clear hl
      by_cases hs : (th l k).h = true ∧ (k : Int) ≠ but
      · obtain ⟨hs1, hs2⟩ := hs
        have HS := Lib.hid (And.intro hs1 hs2)
        rw [hs1] at hc3
        clear hs1
        rcases hrl with rfl | ⟨a, rfl, hak⟩
        · have HEND := Lib.hid (HL.out.first HS.out)
          clear HL
          go_wp2
          go_big_quiet (fail)
          go_wp2
          go_roundw
          case rel => exact ⟨k + 1, q + nq, k, by omega, by go_num, rfl, HEND.out, by simp⟩
          case measure => simp [intOf]; omega
        · have hal : a < l.length := by omega
          have ha0 := HR.out.c0 a hal
          have ha1 := HR.out.c1 a hal
          obtain ⟨x, hx⟩ : ∃ x, x = (th l k).w := ⟨_, rfl⟩
          obtain ⟨y, hy⟩ : ∃ y, y = (th l a).w := ⟨_, rfl⟩
          have han : a < n := by omega
          have hani : (a : Int) < (n : Int) := by omega
          have hneg := Lib.hid (show decide ((a : Int) < 0) = false by simp)
          by_cases hlw : (th l k).w < (th l a).w
          · have HEND := Lib.hid (HL.out.less HS.out hlw)
            rw [← hx] at hc0 hlw
            rw [← hy] at ha0 hlw
            have h1 := Lib.hid (show decide (x < y) = true by simp; omega)
            clear HL hx hy hlw
            go_wp2
            have h2 := h1.out
            have h3 := hneg.out
            go_big_quiet (fail)
            go_wp2
            go_roundw
            case rel => exact ⟨k + 1, q + nq, k, by omega, by go_num, rfl, HEND.out, by simp⟩
            case measure => simp [intOf]; omega
          · have HEND := Lib.hid (HL.out.more hlw)
            rw [← hx] at hc0 hlw
            rw [← hy] at ha0 hlw
            have h1 := Lib.hid (show decide (x < y) = false by simp; omega)
            have hka := Lib.hid (show decide (k < a) = false by simp; omega)
            by_cases he : x = y
            · subst he
              clear HL hx hy hlw
              go_wp2
              have h2 := h1.out
              have h3 := hneg.out
              have h4 := hka.out
              go_big_quiet (fail)
              go_wp2
              go_roundw
              case rel => exact ⟨k + 1, q + nq, a, by omega, by go_num, rfl, HEND.out, by simp⟩
              case measure => simp [intOf]; omega
            · have h5 := Lib.hid (show ((x : Int) == (y : Int)) = false by simp; omega)
              clear HL hx hy hlw he
              go_wp2
              have h2 := h1.out
              have h3 := hneg.out
              have h4 := h5.out
              go_big_quiet (fail)
              go_wp2
              go_roundw
              case rel => exact ⟨k + 1, q + nq, a, by omega, by go_num, rfl, HEND.out, by simp⟩
              case measure => simp [intOf]; omega
      · have HEND := Lib.hid (HL.out.skip hs)
        clear HL hc0 hc1
        by_cases hkb : (k : Int) = but
        · clear hs
          subst hkb
          go_wp2
          go_roundw
          case rel => exact ⟨k + 1, q, r, by omega, by go_num, rfl, HEND.out, rfl⟩
          case measure => simp [intOf]; omega
        · have hf : (th l k).h = false := by
            cases hq : (th l k).h with
            | false => rfl
            | true => exact absurd ⟨hq, hkb⟩ hs
          rw [hf] at hc3
          clear hs hf
          go_wp2
          go_roundw
          case rel => exact ⟨k + 1, q, r, by omega, by go_num, rfl, HEND.out, rfl⟩
          case measure => simp [intOf]; omega
    · obtain rfl : k = n := by omega
      have HL := Lib.hid hl
      clear hl
      go_wp2
      go_ret
      exact ⟨r, rfl, HL.out, q, rfl⟩
end
end Go.Proofs.Ytjncmfoommlldaa
