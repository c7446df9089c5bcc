/-
  Plain mathematics of layer 20: the tree of counts: what the depths of its letters come to. Written ahead of the code. · Plain mathematics of layer 20: the tree as a row of places above; lens of counts; halving. · Layer 21: the program's small functions.
-/
import Derived.Test.YtflcmmeoppdhdaaGreatR12
import Derived.Test.YtflcmmeoppdhdaaGreatR13
import Derived.Lib.BitFns
import Derived.BigRegion
namespace Go.Proofs.YtflcmmeoppdhdaaGreat

/-- Things: how many there have been, their weights, which are here; of each letter how many things stand above its own, and the last of these. -/
structure For where
  N : Nat
  wt : Nat → Nat
  here : Nat → Bool
  d : Nat → Nat
  root : Nat → Nat
def For.lt (f : For) (a b : Nat) : Prop := f.wt a < f.wt b ∨ (f.wt a = f.wt b ∧ a < b)
def For.least (f : For) (p : Nat → Prop) (a : Nat) : Prop := p a ∧ ∀ m, p m → m ≠ a → f.lt a m
theorem For.lt_not {f : For} {a b : Nat} (h : f.lt a b) : ¬ f.lt b a := by unfold For.lt at *; omega
theorem For.lt_le {f : For} {a b : Nat} (h : f.lt a b) : f.wt a ≤ f.wt b := by unfold For.lt at h; omega
theorem For.least_one {f : For} {p : Nat → Prop} {a b : Nat} (h : f.least p a) (h' : f.least p b) : a = b := by
  refine Classical.byContradiction fun e => ?_
  exact For.lt_not (h.2 b h'.1 (fun x => e x.symm)) (h'.2 a h.1 e)
/-- A thing that stands above both. -/
def For.both (f : For) (a b : Nat) : For where
  N := f.N + 1
  wt := fun m => if m = f.N then f.wt a + f.wt b else f.wt m
  here := fun m => if m = f.N then true else if m = a ∨ m = b then false else f.here m
  d := fun i => if f.root i = a ∨ f.root i = b then f.d i + 1 else f.d i
  root := fun i => if f.root i = a ∨ f.root i = b then f.N else f.root i
inductive Huff : For → For → Prop
  | last (f : For) (h : ∀ m m', f.here m = true → f.here m' = true → m = m') : Huff f f
  | join (f g : For) (a b : Nat) (ha : f.least (fun m => f.here m = true) a) (hb : f.least (fun m => f.here m = true ∧ m ≠ a) b) (hr : Huff (f.both a b) g) : Huff f g
theorem Huff.one {f g g' : For} (h : Huff f g) (h' : Huff f g') : g = g' := by
  induction h with
  | last f hl =>
    cases h' with
    | last => rfl
    | join _ _ a b ha hb hr => exact absurd (hl b a hb.1.1 ha.1) hb.1.2
  | join f g a b ha hb hr ih =>
    cases h' with
    | last _ hl => exact absurd (hl b a hb.1.1 ha.1) hb.1.2
    | join _ _ a2 b2 ha2 hb2 hr2 =>
      obtain rfl := For.least_one ha ha2
      obtain rfl := For.least_one hb hb2
      exact ih hr2
theorem Huff.deeper {f g : For} (h : Huff f g) (j : Nat) : f.d j ≤ g.d j := by
  induction h with
  | last => exact Nat.le_refl _
  | join f g a b ha hb hr ih =>
    refine Nat.le_trans ?_ ih
    show f.d j ≤ if f.root j = a ∨ f.root j = b then f.d j + 1 else f.d j
    split <;> omega
/-- The first things: L letters, each its own. -/
def For.start (L : Nat) (w : Nat → Nat) : For := ⟨L, w, fun m => decide (m < L), fun _ => 0, fun i => i⟩
/-- Things as they may be, of L letters. -/
structure For.Ok (f : For) (L : Nat) : Prop where
  less : ∀ m, f.here m = true → m < f.N
  root : ∀ j, j < L → f.here (f.root j) = true
  most : L ≤ f.N
theorem start_ok (L : Nat) (w : Nat → Nat) : (For.start L w).Ok L := ⟨fun m h => by simpa [For.start] using h, fun j h => by simpa [For.start] using h, Nat.le_refl _⟩
section
variable {f : For} {L a b : Nat}
theorem For.both_here (m : Nat) : (f.both a b).here m = true ↔ m = f.N ∨ (m ≠ a ∧ m ≠ b ∧ f.here m = true) := by
  show (if m = f.N then true else if m = a ∨ m = b then false else f.here m) = true ↔ _
  by_cases h1 : m = f.N
  · rw [if_pos h1]; exact ⟨fun _ => .inl h1, fun _ => rfl⟩
  · rw [if_neg h1]
    by_cases h2 : m = a ∨ m = b
    · rw [if_pos h2]
      refine Iff.intro (fun h => by cases h) (fun h => ?_)
      rcases h with h | h
      · exact absurd h h1
      · rcases h2 with e | e
        · exact absurd e h.1
        · exact absurd e h.2.1
    · rw [if_neg h2]
      refine ⟨fun h => .inr ⟨fun e => h2 (.inl e), fun e => h2 (.inr e), h⟩, fun h => ?_⟩
      rcases h with h | h
      · exact absurd h h1
      · exact h.2.2
theorem For.both_wt (m : Nat) (h : m < f.N) : (f.both a b).wt m = f.wt m := if_neg (by omega)
theorem For.both_wtN : (f.both a b).wt f.N = f.wt a + f.wt b := if_pos rfl
theorem For.both_ok (h : f.Ok L) : (f.both a b).Ok L := by
  refine ⟨fun m hm => ?_, fun j hj => ?_, by have := h.most; show L ≤ f.N + 1; omega⟩
  · show m < f.N + 1
    rcases (For.both_here m).1 hm with e | e
    · omega
    · have := h.less m e.2.2; omega
  · rw [For.both_here]
    show (if f.root j = a ∨ f.root j = b then f.N else f.root j) = f.N ∨ _
    by_cases e : f.root j = a ∨ f.root j = b
    · exact .inl (if_pos e)
    · refine .inr ?_
      rw [show (f.both a b).root j = f.root j from if_neg e]
      exact ⟨fun x => e (.inl x), fun x => e (.inr x), h.root j hj⟩
/-- A sum over the letters under a thing. -/
def under (rt : Nat → Nat) (v : Nat → Nat) (r : Nat) : Nat → Nat
  | 0 => 0
  | k + 1 => under rt v r k + if rt k = r then v k else 0
def allOf (v : Nat → Nat) : Nat → Nat
  | 0 => 0
  | k + 1 => allOf v k + v k
theorem under_all {rt v : Nat → Nat} {r : Nat} : ∀ k, (∀ j, j < k → rt j = r) → under rt v r k = allOf v k := by
  intro k
  induction k with
  | zero => intro _; rfl
  | succ k ih =>
    intro h
    simp only [under, allOf]
    rw [ih fun j hj => h j (by omega), if_pos (h k (by omega))]
theorem under_new {rt rt' v v' : Nat → Nat} {a b N c : Nat} (hrt : ∀ i, rt' i = if rt i = a ∨ rt i = b then N else rt i) (hab : a ≠ b) : ∀ k, (∀ j, j < k → rt j ≠ N) → (∀ j, j < k → (rt j = a ∨ rt j = b) → c * v' j = v j) →
    c * under rt' v' N k = under rt v a k + under rt v b k := by
  intro k
  induction k with
  | zero => intro _ _; simp [under]
  | succ k ih =>
    intro h1 h2
    have hi := ih (fun j hj => h1 j (by omega)) (fun j hj => h2 j (by omega))
    simp only [under, Nat.mul_add]
    rw [hi]
    have hN := h1 k (by omega)
    by_cases ea : rt k = a
    · have := h2 k (by omega) (Or.inl ea)
      have eb : ¬ rt k = b := fun e => hab (ea.symm.trans e)
      have e' : rt' k = N := by rw [hrt, if_pos (Or.inl ea)]
      rw [if_pos e', if_pos ea, if_neg eb]
      omega
    · by_cases eb : rt k = b
      · have := h2 k (by omega) (Or.inr eb)
        have e' : rt' k = N := by rw [hrt, if_pos (Or.inr eb)]
        rw [if_pos e', if_neg ea, if_pos eb]
        omega
      · have e' : ¬ rt' k = N := by
          rw [hrt, if_neg (fun h => h.elim ea eb)]; exact hN
        rw [if_neg e', if_neg ea, if_neg eb]
        omega
theorem under_old {rt rt' v v' : Nat → Nat} {a b N r : Nat} (hrt : ∀ i, rt' i = if rt i = a ∨ rt i = b then N else rt i) (ha : r ≠ a) (hb : r ≠ b) (hN : r ≠ N) : ∀ k, (∀ j, j < k → ¬ (rt j = a ∨ rt j = b) → v' j = v j) →
    under rt' v' r k = under rt v r k := by
  intro k
  induction k with
  | zero => intro _; rfl
  | succ k ih =>
    intro h
    simp only [under]
    rw [ih fun j hj => h j (by omega)]
    by_cases e : rt k = a ∨ rt k = b
    · have e' : rt' k = N := by rw [hrt, if_pos e]
      have h1 : ¬ rt' k = r := fun x => hN (x.symm.trans e')
      have h2 : ¬ rt k = r := fun x => e.elim (fun e => ha (x.symm.trans e)) (fun e => hb (x.symm.trans e))
      rw [if_neg h1, if_neg h2]
    · have e' : rt' k = rt k := by rw [hrt, if_neg e]
      rw [e', h k (by omega) e]
/-- Kraft's sum of the letters under each thing that is here is 1. -/
def KrOk (f : For) (L D : Nat) : Prop := ∀ r, f.here r = true → under f.root (fun j => 2 ^ (D - f.d j)) r L = 2 ^ D
theorem under_self (v : Nat → Nat) (r : Nat) : ∀ k, under (fun i => i) v r k = if r < k then v r else 0 := by
  intro k
  induction k with
  | zero => rfl
  | succ k ih =>
    simp only [under]
    rw [ih]
    by_cases e : k = r
    · subst e; rw [if_neg (by omega), if_pos rfl, if_pos (by omega), Nat.zero_add]
    · rw [if_neg e, Nat.add_zero]
      by_cases h : r < k
      · rw [if_pos h, if_pos (by omega)]
      · rw [if_neg h, if_neg (by omega)]
theorem start_kr (L D : Nat) (w : Nat → Nat) : KrOk (For.start L w) L D := fun r h => by
  have hr : r < L := by simpa [For.start] using h
  show under (fun i => i) (fun _ => 2 ^ (D - 0)) r L = 2 ^ D
  rw [under_self, if_pos hr, Nat.sub_zero]
theorem both_kr {D : Nat} (ho : f.Ok L) (h : KrOk f L D) (ha : f.here a = true) (hb : f.here b = true) (hab : a ≠ b) (hd : ∀ j, j < L → (f.both a b).d j ≤ D) : KrOk (f.both a b) L D := fun r hr => by
  have hrt : ∀ j, j < L → f.root j ≠ f.N := fun j hj => by have := ho.less _ (ho.root j hj); omega
  have hdd : ∀ j, (f.both a b).d j = if f.root j = a ∨ f.root j = b then f.d j + 1 else f.d j := fun j => rfl
  rcases (For.both_here r).1 hr with rfl | ⟨h1, h2, h3⟩
  · have := under_new (rt := f.root) (rt' := (f.both a b).root) (v := fun j => 2 ^ (D - f.d j)) (v' := fun j => 2 ^ (D - (f.both a b).d j)) (N := f.N) (c := 2) (fun _ => rfl) hab L hrt (fun j hj e => by
      have h1 := hd j hj
      rw [hdd j, if_pos e] at h1
      show 2 * 2 ^ (D - (f.both a b).d j) = 2 ^ (D - f.d j)
      rw [hdd j, if_pos e, ← Nat.pow_succ']
      congr 1
      omega)
    rw [h a ha, h b hb] at this
    omega
  · refine (under_old (rt := f.root) (rt' := (f.both a b).root) (v := fun j => 2 ^ (D - f.d j)) (N := f.N) (fun _ => rfl) h1 h2 (fun e => by have := ho.less r h3; omega) L (fun j _ e => ?_)).trans (h r h3)
    show 2 ^ (D - (f.both a b).d j) = 2 ^ (D - f.d j)
    rw [hdd j, if_neg e]
end
/-- P20.3: the lens share out all codes. -/
theorem Huff.kraft {f g : For} {L D : Nat} (h : Huff f g) : f.Ok L → KrOk f L D → 0 < L → (∀ j, j < L → g.d j ≤ D) → allOf (fun j => 2 ^ (D - g.d j)) L = 2 ^ D := by
  induction h with
  | last f hl =>
    intro ho hk h0 _
    have h1 := hk _ (ho.root 0 h0)
    rwa [under_all L fun j hj => hl _ _ (ho.root j hj) (ho.root 0 h0)] at h1
  | join f g a b ha hb hr ih =>
    intro ho hk h0 hd
    exact ih (For.both_ok ho) (both_kr ho hk ha.1 hb.1.1 (fun e => hb.1.2 e.symm) fun j hj => Nat.le_trans (hr.deeper j) (hd j hj)) h0 hd
theorem huff_kraft {L D : Nat} {w : Nat → Nat} {g : For} (h : Huff (For.start L w) g) (h0 : 0 < L) (hd : ∀ j, j < L → g.d j ≤ D) : allOf (fun j => 2 ^ (D - g.d j)) L = 2 ^ D :=
  h.kraft (start_ok L w) (start_kr L D w) h0 hd

/-- Fibonacci's numbers. -/
def fb : Nat → Nat
  | 0 => 0
  | 1 => 1
  | n + 2 => fb n + fb (n + 1)
theorem fb_mono : ∀ {m n : Nat}, m ≤ n → fb m ≤ fb n := by
  have step : ∀ n, fb n ≤ fb (n + 1) := by
    intro n
    cases n with
    | zero => decide
    | succ n => show fb (n + 1) ≤ fb n + fb (n + 1); omega
  intro m n h
  obtain ⟨e, rfl⟩ : ∃ e, n = m + e := ⟨n - m, by omega⟩
  clear h
  induction e with
  | zero => exact Nat.le_refl _
  | succ e ih => exact Nat.le_trans ih (step _)
/-- Depths, and weights: what is deep is heavy. -/
structure FibOk (f : For) (L : Nat) (w : Nat → Nat) : Prop where
  own : ∀ j, j < L → fb (f.d j + 1) ≤ f.wt (f.root j)
  other : ∀ j, j < L → ∀ s, f.here s = true → s ≠ f.root j → fb (f.d j) ≤ f.wt s
  sums : ∀ r, f.here r = true → under f.root w r L = f.wt r
theorem start_fib {L : Nat} {w : Nat → Nat} (hw : ∀ j, j < L → 1 ≤ w j) : FibOk (For.start L w) L w :=
  ⟨fun j hj => hw j hj, fun _ _ _ _ _ => Nat.zero_le _, fun r h => by
    have hr : r < L := by simpa [For.start] using h
    show under (fun i => i) w r L = w r
    rw [under_self, if_pos hr]⟩
theorem both_fib {f : For} {L a b : Nat} {w : Nat → Nat} (ho : f.Ok L) (h : FibOk f L w) (ha : f.least (fun m => f.here m = true) a) (hb : f.least (fun m => f.here m = true ∧ m ≠ a) b) : FibOk (f.both a b) L w := by
  have hdd : ∀ j, (f.both a b).d j = if f.root j = a ∨ f.root j = b then f.d j + 1 else f.d j := fun j => rfl
  have hrr : ∀ j, (f.both a b).root j = if f.root j = a ∨ f.root j = b then f.N else f.root j := fun j => rfl
  have hN : ∀ j, j < L → f.root j < f.N := fun j hj => ho.less _ (ho.root j hj)
  have hba : b ≠ a := hb.1.2
  have hab : f.wt a ≤ f.wt b := For.lt_le (ha.2 b hb.1.1 hba)
  have hrest : ∀ m, f.here m = true → m ≠ a → m ≠ b → f.wt b ≤ f.wt m := fun m hm h1 h2 => For.lt_le (hb.2 m ⟨hm, h1⟩ h2)
  refine ⟨fun j hj => ?_, fun j hj s hs hne => ?_, fun r hr => ?_⟩
  · rw [hdd j, hrr j]
    by_cases e : f.root j = a ∨ f.root j = b
    · rw [if_pos e, if_pos e, For.both_wtN]
      show fb (f.d j) + fb (f.d j + 1) ≤ _
      have h1 := h.own j hj
      rcases e with e | e
      · have h2 := h.other j hj b hb.1.1 (by rw [e]; exact hba)
        rw [e] at h1; omega
      · have h2 := h.other j hj a ha.1 (by rw [e]; exact fun x => hba x.symm)
        rw [e] at h1; omega
    · rw [if_neg e, if_neg e, For.both_wt _ (hN j hj)]
      exact h.own j hj
  · rw [hrr j] at hne
    rw [hdd j]
    by_cases e : f.root j = a ∨ f.root j = b
    · rw [if_pos e] at hne ⊢
      rcases (For.both_here s).1 hs with e2 | ⟨e1, e2, e3⟩
      · exact absurd e2 hne
      · rw [For.both_wt s (ho.less s e3)]
        have h1 := h.own j hj
        have h2 := hrest s e3 e1 e2
        rcases e with e | e
        · rw [e] at h1; omega
        · rw [e] at h1; omega
    · rw [if_neg e] at hne ⊢
      rcases (For.both_here s).1 hs with e2 | ⟨e1, e2, e3⟩
      · rw [e2, For.both_wtN]
        have := h.other j hj a ha.1 (fun x => e (.inl x.symm))
        omega
      · rw [For.both_wt s (ho.less s e3)]
        exact h.other j hj s e3 hne
  · rcases (For.both_here r).1 hr with rfl | ⟨h1, h2, h3⟩
    · have := under_new (rt := f.root) (rt' := (f.both a b).root) (v := w) (v' := w) (N := f.N) (c := 1) (fun _ => rfl) (fun e => hba e.symm) L (fun j hj => by have := hN j hj; omega) (fun j _ _ => Nat.one_mul _)
      rw [h.sums a ha.1, h.sums b hb.1.1, Nat.one_mul] at this
      rw [For.both_wtN]
      exact this
    · rw [For.both_wt r (ho.less r h3)]
      exact (under_old (rt := f.root) (rt' := (f.both a b).root) (v := w) (N := f.N) (fun _ => rfl) h1 h2 (fun e => by have := ho.less r h3; omega) L (fun _ _ _ => rfl)).trans (h.sums r h3)
theorem Huff.fib {f g : For} {L : Nat} {w : Nat → Nat} (h : Huff f g) : f.Ok L → FibOk f L w → ∀ j, j < L → fb (g.d j + 1) ≤ allOf w L := by
  induction h with
  | last f hl =>
    intro ho hf j hj
    have h1 := hf.own j hj
    rw [← hf.sums _ (ho.root j hj), under_all L fun i hi => hl _ _ (ho.root i hi) (ho.root j hj)] at h1
    exact h1
  | join f g a b ha hb hr ih => intro ho hf; exact ih (For.both_ok ho) (both_fib ho hf ha hb)
/-- What weighs little is not deep. -/
theorem huff_fib {L : Nat} {w : Nat → Nat} {g : For} (h : Huff (For.start L w) g) (hw : ∀ j, j < L → 1 ≤ w j) {j : Nat} (hj : j < L) : fb (g.d j + 1) ≤ allOf w L :=
  h.fib (start_ok L w) (start_fib hw) j hj
theorem huff_small {L : Nat} {w : Nat → Nat} {g : For} (h : Huff (For.start L w) g) (hw : ∀ j, j < L → 1 ≤ w j) (ht : allOf w L ≤ 1500) {j : Nat} (hj : j < L) : g.d j ≤ 15 := by
  refine Nat.le_of_not_lt fun hc => ?_
  have h1 := huff_fib h hw hj
  have h2 := fb_mono (m := 17) (n := g.d j + 1) (by omega)
  have h3 : fb 17 = 1597 := by decide
  omega
end Go.Proofs.YtflcmmeoppdhdaaGreat
namespace Go.Proofs.YtflcmmeoppdhdaaGreat

/-- Things that are here, as pairs. -/
def ForSet (f : For) (p : Pr) : Prop := f.here p.2 = true ∧ p.1 = f.wt p.2
theorem for_least {f : For} {p : Pr} {S : Pr → Prop} {q : Nat → Prop} (hS : ∀ x, S x → ForSet f x) (hq : ∀ m, q m → S (f.wt m, m)) (hq2 : ∀ x, S x → q x.2) (h1 : S p) (h2 : ∀ x, S x → x ≠ p → pl p x = true) : f.least q p.2 := by
  refine ⟨hq2 p h1, fun m hm hne => ?_⟩
  have h3 := h2 _ (hq m hm) (fun e => hne (by rw [← e]))
  have h4 := (hS p h1).2
  rw [pl_yes] at h3
  unfold For.lt
  rw [← h4]
  exact h3
/-- Both go, and one comes. -/
theorem for_both {f : For} {L : Nat} {pa pb : Pr} (ho : f.Ok L) (ha : ForSet f pa) (hb : ForSet f pb) :
    ∀ p, (((ForSet f p ∧ p ≠ pa) ∧ p ≠ pb) ∨ p = (pa.1 + pb.1, f.N)) ↔ ForSet (f.both pa.2 pb.2) p := by
  intro p
  have key : ∀ {x y : Pr}, ForSet f x → ForSet f y → (x ≠ y ↔ x.2 ≠ y.2) := fun {x y} hx hy => by
    refine ⟨fun h e => h (Prod.ext ?_ e), fun h e => h (by rw [e])⟩
    rw [hx.2, hy.2, e]
  unfold ForSet
  rw [For.both_here]
  constructor
  · rintro (⟨⟨h1, h2⟩, h3⟩ | rfl)
    · have g2 := (key h1 ha).1 h2
      have g3 := (key h1 hb).1 h3
      exact ⟨.inr ⟨g2, g3, h1.1⟩, by rw [For.both_wt _ (ho.less _ h1.1)]; exact h1.2⟩
    · refine ⟨.inl rfl, ?_⟩
      show pa.1 + pb.1 = (f.both pa.2 pb.2).wt f.N
      rw [For.both_wtN, ha.2, hb.2]
  · rintro ⟨h1 | ⟨h1, h2, h3⟩, h4⟩
    · right
      refine Prod.ext ?_ h1
      show p.1 = pa.1 + pb.1
      rw [h4, h1, For.both_wtN, ha.2, hb.2]
    · have hp : ForSet f p := ⟨h3, by rw [h4, For.both_wt _ (ho.less _ h3)]⟩
      exact .inl ⟨⟨hp, (key hp ha).2 h1⟩, (key hp hb).2 h2⟩
/-- The row of places above. -/
structure TreeOk (f : For) (ab : List Nat) : Prop where
  len : ab.length = f.N
  top : ∀ i, i < f.N → f.here i = true → f.root i = i ∧ f.d i = 0
  low : ∀ i, i < f.N → f.here i = false → i < ab.getD i 0 ∧ ab.getD i 0 < f.N ∧ f.root i = f.root (ab.getD i 0) ∧ f.d i = f.d (ab.getD i 0) + 1
  new : ∀ i, f.N ≤ i → f.root i = i ∧ f.d i = 0
  last : 0 < f.N → f.here (f.N - 1) = true
theorem tree_start (L : Nat) (w : Nat → Nat) : TreeOk (For.start L w) (List.replicate L 0) :=
  ⟨by simp [For.start], fun i _ _ => ⟨rfl, rfl⟩, fun i h1 h2 => by
    have h3 : decide (i < L) = false := h2
    have h4 : i < L := h1
    simp at h3; omega, fun i _ => ⟨rfl, rfl⟩, fun h => by
    show decide (L - 1 < L) = true
    have h4 : 0 < L := h
    simp; omega⟩
theorem tree_both {f : For} {ab : List Nat} {a b : Nat} (h : TreeOk f ab) (ha : f.here a = true) (hb : f.here b = true) (haN : a < f.N) (hbN : b < f.N) : TreeOk (f.both a b) ((ab.set a f.N).set b f.N ++ [0]) := by
  have hl := h.len
  have hab : ∀ i, i < f.N → ((ab.set a f.N).set b f.N ++ [0]).getD i 0 = if i = a ∨ i = b then f.N else ab.getD i 0 := fun i hi => by
    rw [List.getD_eq_getElem?_getD, List.getD_eq_getElem?_getD, List.getElem?_append_left (by simp; omega), List.getElem?_set, List.getElem?_set]
    by_cases e1 : i = b
    · rw [if_pos e1.symm, if_pos (show b < (ab.set a f.N).length by rw [List.length_set]; omega), if_pos (show i = a ∨ i = b from .inr e1)]; rfl
    · rw [if_neg (fun x => e1 x.symm)]
      by_cases e2 : i = a
      · rw [if_pos e2.symm, if_pos (show a < ab.length by omega), if_pos (show i = a ∨ i = b from .inl e2)]; rfl
      · rw [if_neg (fun x => e2 x.symm), if_neg (fun x => x.elim e2 e1)]
  have hdd : ∀ j, (f.both a b).d j = if f.root j = a ∨ f.root j = b then f.d j + 1 else f.d j := fun j => rfl
  have hrr : ∀ j, (f.both a b).root j = if f.root j = a ∨ f.root j = b then f.N else f.root j := fun j => rfl
  obtain ⟨gN1, gN2⟩ := h.new f.N (Nat.le_refl _)
  have hrN : (f.both a b).root f.N = f.N := by rw [hrr, gN1, if_neg (by omega)]
  have hdN : (f.both a b).d f.N = 0 := by rw [hdd, gN1, if_neg (by omega), gN2]
  refine ⟨?_, fun i hi hh => ?_, fun i hi hh => ?_, fun i hi => ?_, fun _ => ?_⟩
  · rw [List.length_append, List.length_set, List.length_set, hl]; rfl
  · rcases (For.both_here i).1 hh with rfl | ⟨h1, h2, h3⟩
    · exact ⟨hrN, hdN⟩
    · have h6 : i < f.N + 1 := hi
      have hiN : i < f.N ∨ i = f.N := by omega
      rcases hiN with hiN | rfl
      · obtain ⟨g1, g2⟩ := h.top i hiN h3
        rw [hdd, hrr, g1, if_neg (by omega), if_neg (by omega)]
        exact ⟨rfl, g2⟩
      · exact ⟨hrN, hdN⟩
  · have h6 : i < f.N + 1 := hi
    have hne : i ≠ f.N := fun e => by
      subst e
      rw [(For.both_here f.N).2 (.inl rfl)] at hh; cases hh
    have hiN : i < f.N := by omega
    rw [hab i hiN]
    show i < _ ∧ _ < f.N + 1 ∧ _
    by_cases e : i = a ∨ i = b
    · have hhi : f.here i = true := by rcases e with rfl | rfl <;> assumption
      obtain ⟨g1, g2⟩ := h.top i hiN hhi
      rw [if_pos e, hrN, hdN, hrr, hdd, g1, if_pos e, if_pos e, g2]
      exact ⟨hiN, Nat.lt_succ_self _, rfl, rfl⟩
    · have hhi : f.here i = false := by
        cases hx : f.here i with
        | false => rfl
        | true =>
          rw [(For.both_here i).2 (.inr ⟨fun x => e (.inl x), fun x => e (.inr x), hx⟩)] at hh; cases hh
      obtain ⟨g1, g2, g3, g4⟩ := h.low i hiN hhi
      rw [if_neg e, hrr, hrr, hdd, hdd, g3, g4]
      refine ⟨g1, by omega, rfl, ?_⟩
      split <;> rfl
  · have h6 : f.N + 1 ≤ i := hi
    obtain ⟨g1, g2⟩ := h.new i (by omega)
    rw [hrr, hdd, g1, if_neg (by omega), if_neg (by omega)]
    exact ⟨rfl, g2⟩
  · exact (For.both_here _).2 (.inl (by show f.N + 1 - 1 = f.N; omega))

/-- At the end: the last one alone is here. -/
theorem tree_end {f : For} {ab : List Nat} (h : TreeOk f ab) (hl : ∀ m m', f.here m = true → f.here m' = true → m = m') (h0 : 0 < f.N) :
    f.d (f.N - 1) = 0 ∧ ∀ i, i < f.N - 1 → i < ab.getD i 0 ∧ ab.getD i 0 < f.N ∧ f.d i = f.d (ab.getD i 0) + 1 := by
  refine ⟨(h.top _ (by omega) (h.last h0)).2, fun i hi => ?_⟩
  obtain ⟨g1, g2, -, g4⟩ := h.low i (by omega) (by
    cases hx : f.here i with
    | false => rfl
    | true => have := hl _ _ hx (h.last h0); omega)
  exact ⟨g1, g2, g4⟩
/-- A letter beside others has something above it. -/
theorem huff_deep {L : Nat} {w : Nat → Nat} {g : For} (h : Huff (For.start L w) g) (h2 : 2 ≤ L) : ∀ j, j < L → 1 ≤ g.d j := by
  have key : ∀ {f g : For}, Huff f g → f.Ok L → (∀ j, j < L → f.root j < L → f.root j = j) → (∀ j, j < L → L ≤ f.root j → 1 ≤ f.d j) → ∀ j, j < L → 1 ≤ g.d j := by
    intro f g h
    induction h with
    | last f hl =>
      intro ho h1 h3 j hj
      refine h3 j hj (Nat.le_of_not_lt fun hc => ?_)
      have e1 := h1 j hj hc
      obtain ⟨k, hk, hne⟩ : ∃ k, k < L ∧ k ≠ j := by
        by_cases e : j = 0
        · exact ⟨1, by omega, by omega⟩
        · exact ⟨0, by omega, by omega⟩
      have e2 := hl _ _ (ho.root j hj) (ho.root k hk)
      rw [e1] at e2
      have e3 := h1 k hk (by omega)
      omega
    | join f g a b ha hb hr ih =>
      intro ho h1 h3 j hj
      refine ih (For.both_ok ho) (fun j hj => ?_) (fun j hj => ?_) j hj
      · show (if f.root j = a ∨ f.root j = b then f.N else f.root j) < L → (if f.root j = a ∨ f.root j = b then f.N else f.root j) = j
        have := ho.most
        split
        · intro h; omega
        · exact h1 j hj
      · show L ≤ (if f.root j = a ∨ f.root j = b then f.N else f.root j) → 1 ≤ (if f.root j = a ∨ f.root j = b then f.d j + 1 else f.d j)
        split
        · intro _; omega
        · exact h3 j hj
  exact key h (start_ok L w) (fun j _ _ => rfl) (fun j h1 h3 => by have h5 : L ≤ j := h3; omega)

/-- The counts of the letters that are there. -/
def posL (c : List Int) : List Int := c.filter fun x => decide (0 < x)
def wtL (c : List Int) (j : Nat) : Nat := ((posL c).getD j 0).toNat
/-- Lens of letters, by their depths: d tells of those that are there. -/
def lensF (d : Nat → Nat) : List Int → Nat → List Int
  | [], _ => []
  | x :: c, j => if 0 < x then (max (d j) 1 : Nat) :: lensF d c (j + 1) else 0 :: lensF d c j
theorem lensF_len (d : Nat → Nat) : ∀ (c : List Int) (j : Nat), (lensF d c j).length = c.length
  | [], _ => rfl
  | x :: c, j => by
    unfold lensF
    split <;> simp [lensF_len d c]
/-- How many letters are there among the first k. -/
def rankL (c : List Int) (k : Nat) : Nat := (posL (c.take k)).length
theorem rankL_succ (c : List Int) (k : Nat) (h : k < c.length) : rankL c (k + 1) = rankL c k + if 0 < c[k] then 1 else 0 := by
  unfold rankL posL
  rw [List.take_add_one, List.getElem?_eq_getElem h, List.filter_append, List.length_append]
  congr 1
  by_cases e : 0 < c[k] <;> simp [e]
theorem rankL_all (c : List Int) : rankL c c.length = (posL c).length := by unfold rankL; rw [List.take_length]
theorem rankL_mono (c : List Int) : ∀ {k m : Nat}, k ≤ m → m ≤ c.length → rankL c k ≤ rankL c m := by
  intro k m h hm
  obtain ⟨e, rfl⟩ : ∃ e, m = k + e := ⟨m - k, by omega⟩
  clear h
  induction e with
  | zero => exact Nat.le_refl _
  | succ e ih =>
    have h1 := ih (by omega)
    have h2 := rankL_succ c (k + e) (by omega)
    rw [show k + (e + 1) = k + e + 1 by omega, h2]
    omega
theorem rankL_lt (c : List Int) {k : Nat} (h : k < c.length) (h0 : 0 < c[k]) : rankL c k < (posL c).length := by
  have h1 := rankL_succ c k h
  rw [if_pos h0] at h1
  have h2 := rankL_mono c (k := k + 1) (m := c.length) (by omega) (Nat.le_refl _)
  rw [rankL_all] at h2
  omega
theorem rankL_get (c : List Int) {k : Nat} (h : k < c.length) (h0 : 0 < c[k]) : (posL c)[rankL c k]? = some c[k] := by
  have e : c = c.take k ++ c[k] :: c.drop (k + 1) := by rw [← List.drop_eq_getElem_cons h, List.take_append_drop]
  have e2 : posL c = posL (c.take k) ++ c[k] :: posL (c.drop (k + 1)) := by
    conv => lhs; rw [e]
    unfold posL
    rw [List.filter_append, List.filter_cons_of_pos (by simpa using h0)]
  rw [e2, List.getElem?_append_right (by unfold rankL; omega)]
  simp [rankL]
theorem wtL_rank (c : List Int) {k : Nat} (h : k < c.length) (h0 : 0 < c[k]) : wtL c (rankL c k) = (c[k]).toNat := by
  unfold wtL
  rw [List.getD_eq_getElem?_getD, rankL_get c h h0]; rfl
theorem lensF_get (d : Nat → Nat) : ∀ (c : List Int) (j k : Nat) (h : k < c.length), (lensF d c j)[k]? = some (if 0 < c[k] then ((max (d (j + rankL c k)) 1 : Nat) : Int) else 0)
  | [], _, k, h => by simp at h
  | x :: c, j, 0, _ => by
    unfold lensF
    have e : rankL (x :: c) 0 = 0 := by simp [rankL, posL]
    rw [e]
    by_cases h0 : 0 < x
    · rw [if_pos h0]; simp [h0]
    · rw [if_neg h0]; simp [h0]
  | x :: c, j, k + 1, h => by
    have hk : k < c.length := by simpa using h
    unfold lensF
    by_cases h0 : 0 < x
    · rw [if_pos h0, List.getElem?_cons_succ, lensF_get d c (j + 1) k hk]
      have e : rankL (x :: c) (k + 1) = rankL c k + 1 := by simp [rankL, posL, h0]
      rw [e]
      simp only [List.getElem_cons_succ, Nat.add_assoc, Nat.add_comm 1]
    · rw [if_neg h0, List.getElem?_cons_succ, lensF_get d c j k hk]
      have e : rankL (x :: c) (k + 1) = rankL c k := by simp [rankL, posL, h0]
      rw [e]
      simp only [List.getElem_cons_succ]
/-- The lens of counts, however long. -/
def DeepR (c out : List Int) : Prop := ∃ g, Huff (For.start (posL c).length (wtL c)) g ∧ out = lensF g.d c 0
theorem DeepR.one {c o o' : List Int} (h : DeepR c o) (h' : DeepR c o') : o = o' := by
  obtain ⟨g, h1, rfl⟩ := h
  obtain ⟨g', h2, rfl⟩ := h'
  rw [h1.one h2]
theorem DeepR.len {c o : List Int} (h : DeepR c o) : o.length = c.length := by
  obtain ⟨g, -, rfl⟩ := h
  exact lensF_len _ _ _
/-- Half a count, rounded up. -/
def halfI (x : Int) : Int := (x + 1) / 2
def Short (o : List Int) : Prop := ∀ x ∈ o, x ≤ 15
inductive LensOfR : List Int → List Int → Prop
  | done (c o : List Int) (h : DeepR c o) (hs : Short o) : LensOfR c o
  | half (c o r : List Int) (h : DeepR c o) (hs : ¬ Short o) (hr : LensOfR (c.map halfI) r) : LensOfR c r
theorem LensOfR.one {c o o' : List Int} (h : LensOfR c o) (h' : LensOfR c o') : o = o' := by
  induction h with
  | done c o h hs =>
    cases h' with
    | done _ _ h2 hs2 => exact h.one h2
    | half _ o2 _ h2 hs2 _ => exact absurd (h.one h2 ▸ hs) hs2
  | half c o r h hs hr ih =>
    cases h' with
    | done _ _ h2 hs2 => exact absurd (h.one h2 ▸ hs2) hs
    | half _ o2 _ h2 hs2 hr2 => exact ih hr2
theorem allOf_list (l : List Int) (hl : ∀ x ∈ l, 0 ≤ x) : ∀ k, k ≤ l.length → (allOf (fun j => (l.getD j 0).toNat) k : Int) = (l.take k).sum := by
  intro k
  induction k with
  | zero => intro _; rfl
  | succ k ih =>
    intro h
    have h1 : k < l.length := by omega
    rw [List.take_add_one, List.getElem?_eq_getElem h1, List.sum_append]
    simp only [allOf]
    rw [Int.natCast_add, ih (by omega)]
    congr 1
    have h2 := hl _ (List.getElem_mem h1)
    simp [List.getD_eq_getElem?_getD, h1]
    omega
theorem posL_sum (c : List Int) (h : ∀ x ∈ c, 0 ≤ x) : (posL c).sum = c.sum := by
  induction c with
  | nil => rfl
  | cons x c ih =>
    have h1 := ih fun y hy => h y (List.mem_cons_of_mem _ hy)
    have h2 := h x List.mem_cons_self
    unfold posL at *
    by_cases h0 : 0 < x
    · rw [List.filter_cons_of_pos (by simpa using h0), List.sum_cons, List.sum_cons, h1]
    · rw [List.filter_cons_of_neg (by simpa using h0), List.sum_cons, h1]; omega
theorem posL_pos (c : List Int) : ∀ x ∈ posL c, 0 < x := fun x hx => by
  have := (List.mem_filter.1 hx).2
  simpa using this
theorem half_le {x : Int} (h : 0 ≤ x) : 0 ≤ halfI x ∧ halfI x ≤ x := by unfold halfI; omega
theorem half_sum_le (c : List Int) (h : ∀ x ∈ c, 0 ≤ x) : (c.map halfI).sum ≤ c.sum := by
  induction c with
  | nil => exact Int.le_refl _
  | cons x c ih =>
    have h1 := ih fun y hy => h y (List.mem_cons_of_mem _ hy)
    have h2 := half_le (h x List.mem_cons_self)
    rw [List.map_cons, List.sum_cons, List.sum_cons]; omega
theorem half_sum (c : List Int) (h : ∀ x ∈ c, 0 ≤ x) (h2 : ∃ x ∈ c, 2 ≤ x) : (c.map halfI).sum < c.sum := by
  induction c with
  | nil => obtain ⟨x, hx, _⟩ := h2; cases hx
  | cons x c ih =>
    have g := fun y hy => h y (List.mem_cons_of_mem _ hy)
    have g2 := half_le (h x List.mem_cons_self)
    rw [List.map_cons, List.sum_cons, List.sum_cons]
    obtain ⟨y, hy, hy2⟩ := h2
    rcases List.mem_cons.1 hy with rfl | hy
    · have := half_sum_le c g
      have : halfI y < y := by unfold halfI; omega
      omega
    · have := ih g ⟨y, hy, hy2⟩
      omega
theorem sum_small (c : List Int) (h : ∀ x ∈ c, 0 ≤ x) (h2 : ∀ x ∈ c, x < 2) : c.sum ≤ c.length := by
  induction c with
  | nil => exact Int.le_refl _
  | cons x c ih =>
    have h1 := ih (fun y hy => h y (List.mem_cons_of_mem _ hy)) (fun y hy => h2 y (List.mem_cons_of_mem _ hy))
    have := h2 x List.mem_cons_self
    rw [List.sum_cons, List.length_cons]; omega
/-- Halving ends. -/
theorem deep_less {c o : List Int} (h : DeepR c o) (hc : ∀ x ∈ c, 0 ≤ x) (hl : c.length ≤ 1500) (hs : ¬ Short o) : (c.map halfI).sum < c.sum := by
  refine half_sum c hc ?_
  refine Classical.byContradiction fun hno => hs ?_
  obtain ⟨g, hg, rfl⟩ := h
  have hsm : ∀ x ∈ c, x < 2 := fun x hx => Int.not_le.1 fun hx2 => hno ⟨x, hx, hx2⟩
  have hsum := sum_small c hc hsm
  have hp := posL_sum c hc
  have ha := allOf_list (posL c) (fun x hx => Int.le_of_lt (posL_pos c x hx)) (posL c).length (Nat.le_refl _)
  rw [List.take_length, hp] at ha
  have hw : ∀ j, j < (posL c).length → 1 ≤ wtL c j := fun j hj => by
    unfold wtL
    have := posL_pos c _ (List.getElem_mem hj)
    simp [List.getD_eq_getElem?_getD, hj]
    omega
  have hall : allOf (wtL c) (posL c).length ≤ 1500 := by
    have e : allOf (wtL c) (posL c).length = allOf (fun j => ((posL c).getD j 0).toNat) (posL c).length := rfl
    rw [e]
    omega
  intro x hx
  obtain ⟨k, hk, rfl⟩ := List.mem_iff_getElem.1 hx
  rw [lensF_len] at hk
  have h1 := lensF_get g.d c 0 k hk
  rw [List.getElem?_eq_getElem (by rw [lensF_len]; exact hk)] at h1
  rw [Option.some.inj h1]
  split
  · have := huff_small hg hw hall (rankL_lt c hk (by assumption))
    rw [Nat.zero_add]
    omega
  · decide
end Go.Proofs.YtflcmmeoppdhdaaGreat
namespace Go.Proofs.YtflcmmeoppdhdaaGreat
open Go.RowKit Go.Sort Go.Shelf

/-- A len that may not be. -/
def cBad (x : Int) : Bool := decide (x < 0) || decide (15 < x)
theorem cBad_none {l : List Int} : l.any cBad = false ↔ ∀ x ∈ l, 0 ≤ x ∧ x ≤ 15 := by
  rw [List.any_eq_false]
  constructor
  · intro h x hx
    have := h x hx
    simp [cBad] at this
    omega
  · intro h x hx
    have := h x hx
    simp [cBad]
    omega
theorem canonWrong_any (x : Int) (w : World) : Calls Tryz.prog 157 #[.int .i64 x] w fun e w' => e = .returned (.bool (cBad x)) ∧ w' = w := by
  unfold cBad
  go_enter Tryz.func157, Tryz.ntmps157
  by_cases h : x < 0
  · rw [decide_eq_true h, Bool.true_or]
    go_wp2
    go_ret
    exact ⟨rfl, rfl⟩
  · rw [decide_eq_false h, Bool.false_or]
    go_wp2
    go_ret
    exact ⟨rfl, rfl⟩
/-- Lens that are whole. -/
def WholeC (l : List Int) : Prop := kraftI l = 32768 ∨ posL l = [1]
def wholeB (l : List Int) : Bool := decide (kraftI l = 32768) || decide (posL l = [1])
theorem wholeB_iff (l : List Int) : wholeB l = true ↔ WholeC l := by simp [wholeB, WholeC]
theorem wholeB_no {l : List Int} (h : ¬ WholeC l) : wholeB l = false := by
  cases hb : wholeB l with
  | false => rfl
  | true => exact absurd ((wholeB_iff l).1 hb) h
theorem posL_take (l : List Int) {k : Nat} (h : k < l.length) : posL (l.take (k + 1)) = posL (l.take k) ++ if 0 < l[k] then [l[k]] else [] := by
  unfold posL
  rw [List.take_add_one, List.getElem?_eq_getElem h, List.filter_append]
  congr 1
  by_cases e : 0 < l[k] <;> simp [e]
section
variable {w : World} {A : Option Addr} {n m : Nat} {l : List Int}
set_option maxHeartbeats 1000000 in
set_option maxRecDepth 100000 in
theorem canon_fill {B : Nat} (hr : Rd w B A (zvs l)) (hn : l.length = n) (hn1 : n ≤ 4096) (hl : ∀ x ∈ l, 0 ≤ x ∧ x ≤ 15) :
    Calls Tryz.prog 158 #[.slice A n m] w fun e w' => e = .returned (.bool (wholeB l)) ∧ w' = w := by
  have HR := Lib.hid hr
  have HC := Lib.hid hn
  have HX := Lib.hid hl
  obtain ⟨v, hv⟩ : ∃ v, v = wholeB l := ⟨_, rfl⟩
  rw [← hv]
  have HV := Lib.hid hv
  clear hr hn hl hv
  go_enter Tryz.func158, Tryz.ntmps158
  go_wp2
  go_loopw [3, 4, 5, 7, 10] (fun many parts longest _ i wr => ∃ (k M : Nat) (g : Int), k ≤ n ∧ i = .int .i64 (k : Int) ∧ parts = .int .i64 (kraftI (l.take k) : Int) ∧ many = .int .i64 (M : Int) ∧ longest = .int .i64 g ∧ Hid (M = (posL (l.take k)).length ∧ (M = 1 → posL (l.take k) = [g]) ∧ (M = 0 → g = 0)) ∧ 0 ≤ g ∧ g ≤ 15 ∧ M ≤ k ∧ wr = w) (fun _ _ _ _ i _ => n - (intOf i).toNat)
  case atStart => exact ⟨0, 0, 0, Nat.zero_le _, rfl, rfl, rfl, rfl, Lib.hid ⟨rfl, fun h => by omega, fun _ => rfl⟩, by omega, by omega, Nat.le_refl _, rfl⟩
  case round =>
    obtain ⟨k, M, g, hk, rfl, rfl, rfl, rfl, HM, hg0, hg1, hMk, rfl⟩ := hrel
    by_cases hlt : k < n
    · have hkc : k < l.length := by have := HC.out; omega
      obtain ⟨b, off, rfl, -, hcell⟩ := cell_of_rd HR.out hkc
      have hki : (k : Int) < (n : Int) := by omega
      have ht := kraftI_take l hkc
      have hp := posL_take l hkc
      have hs := kraftI_small (l.take k)
      have hs2 : kraftI (l.take k) ≤ 100000000 := by rw [List.length_take] at hs; omega
      have hx := HX.out _ (List.getElem_mem hkc)
      obtain ⟨x, hxx⟩ : ∃ x, x = l[k]'hkc := ⟨_, rfl⟩
      rw [← hxx] at hcell ht hp hx
      obtain ⟨K, hK⟩ : ∃ K, K = kraftI (l.take k) := ⟨_, rfl⟩
      rw [← hK] at ht hs2 ⊢
      have HT := Lib.hid (And.intro ht hp)
      clear ht hp hs hxx hK
      by_cases h0 : 0 < x
      · obtain ⟨X, rfl⟩ : ∃ X : Nat, x = (X : Int) := ⟨x.toNat, by omega⟩
        obtain ⟨Q, hQ⟩ : ∃ Q, Q = 2 ^ (15 - X) := ⟨_, rfl⟩
        have hQ2 : Q ≤ 32768 := by rw [hQ]; exact (Nat.pow_le_pow_right (n := 2) (by decide) (show 15 - X ≤ 15 by omega) : 2 ^ (15 - X) ≤ 2 ^ 15)
        have e1 : (32768 : Int) / 2 ^ X = (Q : Int) := by
          rw [hQ, show (32768 : Int) = 2 ^ (15 - X) * 2 ^ X by rw [← Int.pow_add, show 15 - X + X = 15 by omega]; rfl, Int.mul_ediv_cancel _ (by exact Int.pow_ne_zero (by decide))]
          simp
        have hE : kraftI (l.take (k + 1)) = K + Q := by
          rw [HT.out.1, hQ, if_pos ⟨by omega, by omega⟩]; simp
        have hM2 : (M + 1 = (posL (l.take (k + 1))).length) ∧ (M + 1 = 1 → posL (l.take (k + 1)) = [max g (X : Int)]) ∧ (M + 1 = 0 → max g (X : Int) = 0) := by
          rw [HT.out.2, if_pos h0]
          refine ⟨by rw [List.length_append, ← HM.out.1]; rfl, fun h => ?_, fun h => by omega⟩
          have hg := HM.out.2.2 (by omega)
          have hn : posL (l.take k) = [] := List.eq_nil_of_length_eq_zero (by rw [← HM.out.1]; omega)
          rw [hn, hg]
          simp
        have HE := Lib.hid (And.intro hE hM2)
        obtain ⟨g2, hg2⟩ : ∃ g2, g2 = max g (X : Int) := ⟨_, rfl⟩
        have hg2b : 0 ≤ g2 ∧ g2 ≤ 15 := by omega
        rw [← hg2] at HE
        have hg2' : max g (X : Int) = g2 := hg2.symm
        clear hQ hE hM2 hg2 HM
        go_wp2
        refine ⟨⟨k + 1, M + 1, g2, by omega, by go_num, by rw [HE.out.1, Int.natCast_add], by go_num, rfl, Lib.hid HE.out.2, hg2b.1, hg2b.2, by omega, trivial⟩, by simp [intOf]; omega⟩
      · have hx0 : x = 0 := by omega
        have HE := Lib.hid (show kraftI (l.take (k + 1)) = K ∧ posL (l.take (k + 1)) = posL (l.take k) by
          rw [HT.out.1, if_neg (by omega), HT.out.2, if_neg h0]; simp)
        go_wp2
        go_roundw
        case rel => exact ⟨k + 1, M, g, by omega, by go_num, by rw [HE.out.1], rfl, rfl, by rw [HE.out.2]; exact HM, hg0, hg1, by omega, trivial⟩
        case measure => simp [intOf]; omega
    · obtain rfl : k = n := by omega
      rw [List.take_of_length_le (by have := HC.out; omega)] at HM ⊢
      have hs := kraftI_small l
      obtain ⟨K, hK⟩ : ∃ K, K = kraftI l := ⟨_, rfl⟩
      rw [← hK] at hs ⊢
      have HK := Lib.hid hK
      clear hs hK
      by_cases hK1 : K = 32768
      · obtain rfl : v = true := by rw [HV.out, wholeB_iff]; exact .inl (by rw [← HK.out]; exact hK1)
        subst hK1
        go_wp2
        go_ret
        exact ⟨rfl, rfl⟩
      · have hK2 : ¬ (K : Int) = 32768 := by omega
        by_cases hM1 : M = 1
        · subst hM1
          have hp := HM.out.2.1 rfl
          by_cases hg : g = 1
          · obtain rfl : v = true := by rw [HV.out, wholeB_iff]; exact .inr (by rw [hp, hg])
            subst hg
            clear hp
            go_wp2
            go_ret
            exact ⟨by simp, rfl⟩
          · obtain rfl : v = false := by
              rw [HV.out]
              refine wholeB_no fun h => ?_
              rcases h with h | h
              · rw [← HK.out] at h; exact hK1 h
              · rw [hp] at h; injection h with h; exact hg h
            clear hp
            go_wp2
            go_ret
            exact ⟨by simp [hK2, hg], rfl⟩
        · obtain rfl : v = false := by
            rw [HV.out]
            refine wholeB_no fun h => ?_
            rcases h with h | h
            · rw [← HK.out] at h; exact hK1 h
            · have := HM.out.1; rw [h] at this; exact hM1 this
          have hM2 : ¬ (M : Int) = 1 := by omega
          go_wp2
          go_ret
          exact ⟨by simp [hK2], rfl⟩
theorem size_code : (Tryz.prog.info? 216).map (·.size) = some 2 := by kernel_rfl
/-- longer: noughts behind a code. -/
theorem canon_longer (b s S : Nat) (hs : s ≤ S) (hS : S ≤ 15) (hb : b * 2 ^ (S - s) ≤ 1000000) (w : World) :
    Calls Tryz.prog 160 #[codeV (b, s), .int .i64 (S : Int)] w fun e w' => e = .returned (codeV (b * 2 ^ (S - s), S)) ∧ Below w.heap.size w w' := by
  obtain ⟨d, hd⟩ : ∃ d, d = S - s := ⟨_, rfl⟩
  rw [← hd] at hb ⊢
  unfold codeV codeVI
  simp only
  obtain ⟨Q, hQ⟩ : ∃ Q, Q = b * 2 ^ d := ⟨_, rfl⟩
  have e1 : (b : Int) * 2 ^ d = (Q : Int) := by rw [hQ]; simp
  rw [← hQ] at hb ⊢
  have e2 : (S : Int) - (s : Int) = (d : Int) := by omega
  have e3 : wrap64 (Q : Int) = (Q : Int) := by rw [IntWalk.wrap64_in _ (by omega)]
  have hd15 : d ≤ 15 := by omega
  clear hQ hd hs hS
  go_enter Tryz.func160, Tryz.ntmps160
  go_wp2
  have h2 := heap_alloc2_new w (.cells #[.int .i64 (b : Int), .int .i64 (s : Int)] 216) (.cells #[.int .i64 (Q : Int), .int .i64 (S : Int)] 216)
  exact bodyPost_ret (v := .agg #[.int .i64 (Q : Int), .int .i64 (S : Int)]) (results_cell_row Tryz.results160 _ _ (w.heap.size + 1) 216 _ (0, 0) _ rfl h2 Tryz.underlying216 rfl size_code) rfl ⟨rfl, ((Below.refl _ _).alloc (Nat.le_refl _) _).alloc (by simp) _⟩
end
end Go.Proofs.YtflcmmeoppdhdaaGreat
