/- Plain mathematics of layer 20: the tree of counts: what the depths of its letters come to. Written ahead of the code. -/
import Derived.Lib.BitFns
namespace Go.Proofs.Ytgcegdjnemlcoaa

/-- Things: how many there have been, their weights, which are here; of each letter how many things stand above its own, and the last of these. -/
structure For where
  N : Nat
  wt : Nat → Nat
  here : Nat → Bool
  d : Nat → Nat
  root : Nat → Nat
def For.lt (f : For) (a b : Nat) : Prop := f.wt a < f.wt b ∨ (f.wt a = f.wt b ∧ a < b)
def For.least (f : For) (p : Nat → Prop) (a : Nat) : Prop := p a ∧ ∀ m, p m → m ≠ a → f.lt a m
theorem For.lt_not {f : For} {a b : Nat} (h : f.lt a b) : ¬ f.lt b a := by unfold For.lt at *; omega
theorem For.lt_le {f : For} {a b : Nat} (h : f.lt a b) : f.wt a ≤ f.wt b := by unfold For.lt at h; omega
theorem For.least_one {f : For} {p : Nat → Prop} {a b : Nat} (h : f.least p a) (h' : f.least p b) : a = b := by
  refine Classical.byContradiction fun e => ?_
  exact For.lt_not (h.2 b h'.1 (fun x => e x.symm)) (h'.2 a h.1 e)
/-- A thing that stands above both. -/
def For.both (f : For) (a b : Nat) : For where
  N := f.N + 1
  wt := fun m => if m = f.N then f.wt a + f.wt b else f.wt m
  here := fun m => if m = f.N then true else if m = a ∨ m = b then false else f.here m
  d := fun i => if f.root i = a ∨ f.root i = b then f.d i + 1 else f.d i
  root := fun i => if f.root i = a ∨ f.root i = b then f.N else f.root i
inductive Huff : For → For → Prop
  | last (f : For) (h : ∀ m m', f.here m = true → f.here m' = true → m = m') : Huff f f
  | join (f g : For) (a b : Nat) (ha : f.least (fun m => f.here m = true) a) (hb : f.least (fun m => f.here m = true ∧ m ≠ a) b) (hr : Huff (f.both a b) g) : Huff f g
theorem Huff.one {f g g' : For} (h : Huff f g) (h' : Huff f g') : g = g' := by
  induction h with
  | last f hl =>
    cases h' with
    | last => rfl
    | join _ _ a b ha hb hr => exact absurd (hl b a hb.1.1 ha.1) hb.1.2
  | join f g a b ha hb hr ih =>
    cases h' with
    | last _ hl => exact absurd (hl b a hb.1.1 ha.1) hb.1.2
    | join _ _ a2 b2 ha2 hb2 hr2 =>
      obtain rfl := For.least_one ha ha2
      obtain rfl := For.least_one hb hb2
      exact ih hr2
theorem Huff.deeper {f g : For} (h : Huff f g) (j : Nat) : f.d j ≤ g.d j := by
  induction h with
  | last => exact Nat.le_refl _
  | join f g a b ha hb hr ih =>
    refine Nat.le_trans ?_ ih
    show f.d j ≤ if f.root j = a ∨ f.root j = b then f.d j + 1 else f.d j
    split <;> omega
/-- The first things: L letters, each its own. -/
def For.start (L : Nat) (w : Nat → Nat) : For := ⟨L, w, fun m => decide (m < L), fun _ => 0, fun i => i⟩
/-- Things as they may be, of L letters. -/
structure For.Ok (f : For) (L : Nat) : Prop where
  less : ∀ m, f.here m = true → m < f.N
  root : ∀ j, j < L → f.here (f.root j) = true
  most : L ≤ f.N
theorem start_ok (L : Nat) (w : Nat → Nat) : (For.start L w).Ok L := ⟨fun m h => by simpa [For.start] using h, fun j h => by simpa [For.start] using h, Nat.le_refl _⟩
section
variable {f : For} {L a b : Nat}
theorem For.both_here (m : Nat) : (f.both a b).here m = true ↔ m = f.N ∨ (m ≠ a ∧ m ≠ b ∧ f.here m = true) := by
  show (if m = f.N then true else if m = a ∨ m = b then false else f.here m) = true ↔ _
  by_cases h1 : m = f.N
  · rw [if_pos h1]; exact ⟨fun _ => .inl h1, fun _ => rfl⟩
  · rw [if_neg h1]
    by_cases h2 : m = a ∨ m = b
    · rw [if_pos h2]
      refine Iff.intro (fun h => by cases h) (fun h => ?_)
      rcases h with h | h
      · exact absurd h h1
      · rcases h2 with e | e
        · exact absurd e h.1
        · exact absurd e h.2.1
    · rw [if_neg h2]
      refine ⟨fun h => .inr ⟨fun e => h2 (.inl e), fun e => h2 (.inr e), h⟩, fun h => ?_⟩
      rcases h with h | h
      · exact absurd h h1
      · exact h.2.2
theorem For.both_wt (m : Nat) (h : m < f.N) : (f.both a b).wt m = f.wt m := if_neg (by omega)
theorem For.both_wtN : (f.both a b).wt f.N = f.wt a + f.wt b := if_pos rfl
theorem For.both_lt {x y : Nat} (hx : x < f.N) (hy : y < f.N) : (f.both a b).lt x y ↔ f.lt x y := by
  unfold For.lt
  rw [For.both_wt x hx, For.both_wt y hy]
theorem For.both_ok (h : f.Ok L) : (f.both a b).Ok L := by
  refine ⟨fun m hm => ?_, fun j hj => ?_, by have := h.most; show L ≤ f.N + 1; omega⟩
  · show m < f.N + 1
    rcases (For.both_here m).1 hm with e | e
    · omega
    · have := h.less m e.2.2; omega
  · rw [For.both_here]
    show (if f.root j = a ∨ f.root j = b then f.N else f.root j) = f.N ∨ _
    by_cases e : f.root j = a ∨ f.root j = b
    · exact .inl (if_pos e)
    · refine .inr ?_
      rw [show (f.both a b).root j = f.root j from if_neg e]
      exact ⟨fun x => e (.inl x), fun x => e (.inr x), h.root j hj⟩
/-- A sum over the letters under a thing. -/
def under (rt : Nat → Nat) (v : Nat → Nat) (r : Nat) : Nat → Nat
  | 0 => 0
  | k + 1 => under rt v r k + if rt k = r then v k else 0
def allOf (v : Nat → Nat) : Nat → Nat
  | 0 => 0
  | k + 1 => allOf v k + v k
theorem under_all {rt v : Nat → Nat} {r : Nat} : ∀ k, (∀ j, j < k → rt j = r) → under rt v r k = allOf v k := by
  intro k
  induction k with
  | zero => intro _; rfl
  | succ k ih =>
    intro h
    simp only [under, allOf]
    rw [ih fun j hj => h j (by omega), if_pos (h k (by omega))]
theorem under_new {rt rt' v v' : Nat → Nat} {a b N c : Nat} (hrt : ∀ i, rt' i = if rt i = a ∨ rt i = b then N else rt i) (hab : a ≠ b) : ∀ k, (∀ j, j < k → rt j ≠ N) → (∀ j, j < k → (rt j = a ∨ rt j = b) → c * v' j = v j) →
    c * under rt' v' N k = under rt v a k + under rt v b k := by
  intro k
  induction k with
  | zero => intro _ _; simp [under]
  | succ k ih =>
    intro h1 h2
    have hi := ih (fun j hj => h1 j (by omega)) (fun j hj => h2 j (by omega))
    simp only [under, Nat.mul_add]
    rw [hi]
    have hN := h1 k (by omega)
    by_cases ea : rt k = a
    · have := h2 k (by omega) (Or.inl ea)
      have eb : ¬ rt k = b := fun e => hab (ea.symm.trans e)
      have e' : rt' k = N := by rw [hrt, if_pos (Or.inl ea)]
      rw [if_pos e', if_pos ea, if_neg eb]
      omega
    · by_cases eb : rt k = b
      · have := h2 k (by omega) (Or.inr eb)
        have e' : rt' k = N := by rw [hrt, if_pos (Or.inr eb)]
        rw [if_pos e', if_neg ea, if_pos eb]
        omega
      · have e' : ¬ rt' k = N := by
          rw [hrt, if_neg (fun h => h.elim ea eb)]; exact hN
        rw [if_neg e', if_neg ea, if_neg eb]
        omega
theorem under_old {rt rt' v v' : Nat → Nat} {a b N r : Nat} (hrt : ∀ i, rt' i = if rt i = a ∨ rt i = b then N else rt i) (ha : r ≠ a) (hb : r ≠ b) (hN : r ≠ N) : ∀ k, (∀ j, j < k → ¬ (rt j = a ∨ rt j = b) → v' j = v j) →
    under rt' v' r k = under rt v r k := by
  intro k
  induction k with
  | zero => intro _; rfl
  | succ k ih =>
    intro h
    simp only [under]
    rw [ih fun j hj => h j (by omega)]
    by_cases e : rt k = a ∨ rt k = b
    · have e' : rt' k = N := by rw [hrt, if_pos e]
      have h1 : ¬ rt' k = r := fun x => hN (x.symm.trans e')
      have h2 : ¬ rt k = r := fun x => e.elim (fun e => ha (x.symm.trans e)) (fun e => hb (x.symm.trans e))
      rw [if_neg h1, if_neg h2]
    · have e' : rt' k = rt k := by rw [hrt, if_neg e]
      rw [e', h k (by omega) e]
/-- Kraft's sum of the letters under each thing that is here is 1. -/
def KrOk (f : For) (L D : Nat) : Prop := ∀ r, f.here r = true → under f.root (fun j => 2 ^ (D - f.d j)) r L = 2 ^ D
theorem under_self (v : Nat → Nat) (r : Nat) : ∀ k, under (fun i => i) v r k = if r < k then v r else 0 := by
  intro k
  induction k with
  | zero => rfl
  | succ k ih =>
    simp only [under]
    rw [ih]
    by_cases e : k = r
    · subst e; rw [if_neg (by omega), if_pos rfl, if_pos (by omega), Nat.zero_add]
    · rw [if_neg e, Nat.add_zero]
      by_cases h : r < k
      · rw [if_pos h, if_pos (by omega)]
      · rw [if_neg h, if_neg (by omega)]
theorem start_kr (L D : Nat) (w : Nat → Nat) : KrOk (For.start L w) L D := fun r h => by
  have hr : r < L := by simpa [For.start] using h
  show under (fun i => i) (fun _ => 2 ^ (D - 0)) r L = 2 ^ D
  rw [under_self, if_pos hr, Nat.sub_zero]
theorem both_kr {D : Nat} (ho : f.Ok L) (h : KrOk f L D) (ha : f.here a = true) (hb : f.here b = true) (hab : a ≠ b) (hd : ∀ j, j < L → (f.both a b).d j ≤ D) : KrOk (f.both a b) L D := fun r hr => by
  have hrt : ∀ j, j < L → f.root j ≠ f.N := fun j hj => by have := ho.less _ (ho.root j hj); omega
  have hdd : ∀ j, (f.both a b).d j = if f.root j = a ∨ f.root j = b then f.d j + 1 else f.d j := fun j => rfl
  rcases (For.both_here r).1 hr with rfl | ⟨h1, h2, h3⟩
  · have := under_new (rt := f.root) (rt' := (f.both a b).root) (v := fun j => 2 ^ (D - f.d j)) (v' := fun j => 2 ^ (D - (f.both a b).d j)) (N := f.N) (c := 2) (fun _ => rfl) hab L hrt (fun j hj e => by
      have h1 := hd j hj
      rw [hdd j, if_pos e] at h1
      show 2 * 2 ^ (D - (f.both a b).d j) = 2 ^ (D - f.d j)
      rw [hdd j, if_pos e, ← Nat.pow_succ']
      congr 1
      omega)
    rw [h a ha, h b hb] at this
    omega
  · refine (under_old (rt := f.root) (rt' := (f.both a b).root) (v := fun j => 2 ^ (D - f.d j)) (N := f.N) (fun _ => rfl) h1 h2 (fun e => by have := ho.less r h3; omega) L (fun j _ e => ?_)).trans (h r h3)
    show 2 ^ (D - (f.both a b).d j) = 2 ^ (D - f.d j)
    rw [hdd j, if_neg e]
end
/-- P20.3: the lens share out all codes. -/
theorem Huff.kraft {f g : For} {L D : Nat} (h : Huff f g) : f.Ok L → KrOk f L D → 0 < L → (∀ j, j < L → g.d j ≤ D) → allOf (fun j => 2 ^ (D - g.d j)) L = 2 ^ D := by
  induction h with
  | last f hl =>
    intro ho hk h0 _
    have h1 := hk _ (ho.root 0 h0)
    rwa [under_all L fun j hj => hl _ _ (ho.root j hj) (ho.root 0 h0)] at h1
  | join f g a b ha hb hr ih =>
    intro ho hk h0 hd
    exact ih (For.both_ok ho) (both_kr ho hk ha.1 hb.1.1 (fun e => hb.1.2 e.symm) fun j hj => Nat.le_trans (hr.deeper j) (hd j hj)) h0 hd
theorem huff_kraft {L D : Nat} {w : Nat → Nat} {g : For} (h : Huff (For.start L w) g) (h0 : 0 < L) (hd : ∀ j, j < L → g.d j ≤ D) : allOf (fun j => 2 ^ (D - g.d j)) L = 2 ^ D :=
  h.kraft (start_ok L w) (start_kr L D w) h0 hd

/-- What is less than another: it is never less deep. -/
structure MonoOk (f : For) (L : Nat) (w : Nat → Nat) : Prop where
  pair : ∀ i k, i < L → k < L → w k < w i → f.d i ≤ f.d k ∧ (f.d i = f.d k → f.root k = f.root i ∨ f.lt (f.root k) (f.root i))
  inner : ∀ q, L ≤ q → q < f.N → ∀ x y, f.here x = true → f.here y = true → x ≠ y → f.wt q ≤ f.wt x + f.wt y
  deep : ∀ k, k < L → 0 < f.d k → L ≤ f.root k
theorem start_mono (L : Nat) (w : Nat → Nat) : MonoOk (For.start L w) L w :=
  ⟨fun _ _ _ _ h => ⟨Nat.le_refl _, fun _ => .inr (.inl h)⟩, fun q h1 h2 => by simp only [For.start] at h2; omega, fun k _ h => by simp [For.start] at h⟩
theorem both_mono {f : For} {L a b : Nat} {w : Nat → Nat} (ho : f.Ok L) (h : MonoOk f L w) (ha : f.least (fun m => f.here m = true) a) (hb : f.least (fun m => f.here m = true ∧ m ≠ a) b) : MonoOk (f.both a b) L w := by
  have hdd : ∀ j, (f.both a b).d j = if f.root j = a ∨ f.root j = b then f.d j + 1 else f.d j := fun j => rfl
  have hrr : ∀ j, (f.both a b).root j = if f.root j = a ∨ f.root j = b then f.N else f.root j := fun j => rfl
  have hN : ∀ j, j < L → f.root j < f.N := fun j hj => ho.less _ (ho.root j hj)
  have hab : f.wt a ≤ f.wt b := For.lt_le (ha.2 b hb.1.1 hb.1.2)
  have hrest : ∀ m, f.here m = true → m ≠ a → m ≠ b → f.wt b ≤ f.wt m := fun m hm h1 h2 => For.lt_le (hb.2 m ⟨hm, h1⟩ h2)
  refine ⟨fun i k hi hk hw => ?_, fun q h1 h2 x y hx hy hxy => ?_, fun k hk hd => ?_⟩
  · obtain ⟨p1, p2⟩ := h.pair i k hi hk hw
    rw [hdd i, hdd k, hrr i, hrr k]
    by_cases ei : f.root i = a ∨ f.root i = b
    · by_cases ek : f.root k = a ∨ f.root k = b
      · rw [if_pos ei, if_pos ek, if_pos ei, if_pos ek]
        exact ⟨by omega, fun _ => .inl rfl⟩
      · rw [if_pos ei, if_neg ek, if_pos ei, if_neg ek]
        have hka : f.root k ≠ a := fun e => ek (.inl e)
        have hkb : f.root k ≠ b := fun e => ek (.inr e)
        have hne : f.d i ≠ f.d k := fun e => by
          rcases p2 e with h1 | h1
          · exact ek (h1 ▸ ei)
          · rcases ei with ei | ei
            · rw [ei] at h1
              exact For.lt_not h1 (ha.2 _ (ho.root k hk) hka)
            · rw [ei] at h1
              exact For.lt_not h1 (hb.2 _ ⟨ho.root k hk, hka⟩ hkb)
        refine ⟨by omega, fun e => .inr ?_⟩
        have hq := h.deep k hk (by omega)
        have hq2 := hN k hk
        have hw2 := h.inner _ hq hq2 a b ha.1 hb.1.1 (fun e => hb.1.2 e.symm)
        unfold For.lt
        rw [For.both_wt _ hq2, For.both_wtN]
        omega
    · by_cases ek : f.root k = a ∨ f.root k = b
      · rw [if_neg ei, if_pos ek]
        exact ⟨by omega, fun e => by omega⟩
      · rw [if_neg ei, if_neg ek, if_neg ei, if_neg ek]
        refine ⟨p1, fun e => ?_⟩
        rw [For.both_lt (hN k hk) (hN i hi)]
        exact p2 e
  · have hqN : q < f.N + 1 := h2
    have hanew : ∀ z, (f.both a b).here z = true → z ≠ f.N → f.wt b ≤ (f.both a b).wt z ∧ z < f.N ∧ f.here z = true := fun z hz hn => by
      rcases (For.both_here z).1 hz with e | ⟨e1, e2, e3⟩
      · exact absurd e hn
      · rw [For.both_wt z (ho.less z e3)]
        exact ⟨hrest z e3 e1 e2, ho.less z e3, e3⟩
    have hqp : (f.both a b).wt q ≤ f.wt a + f.wt b := by
      by_cases e : q = f.N
      · rw [e, For.both_wtN]; exact Nat.le_refl _
      · rw [For.both_wt q (by omega)]
        exact h.inner q h1 (by omega) a b ha.1 hb.1.1 (fun e => hb.1.2 e.symm)
    by_cases ex : x = f.N
    · rw [ex, For.both_wtN]; omega
    · by_cases ey : y = f.N
      · rw [ey, For.both_wtN]; omega
      · have h3 := (hanew x hx ex).1
        have h4 := (hanew y hy ey).1
        omega
  · rw [hrr k]
    rw [hdd k] at hd
    by_cases ek : f.root k = a ∨ f.root k = b
    · rw [if_pos ek]; exact ho.most
    · rw [if_neg ek]
      rw [if_neg ek] at hd
      exact h.deep k hk hd
/-- P20.4: the more often, the shorter, or as short. -/
theorem Huff.mono {f g : For} {L : Nat} {w : Nat → Nat} (h : Huff f g) : f.Ok L → MonoOk f L w → MonoOk g L w := by
  induction h with
  | last f hl => intro _ hm; exact hm
  | join f g a b ha hb hr ih => intro ho hm; exact ih (For.both_ok ho) (both_mono ho hm ha hb)
theorem huff_mono {L : Nat} {w : Nat → Nat} {g : For} (h : Huff (For.start L w) g) {i k : Nat} (hi : i < L) (hk : k < L) (hw : w k < w i) : g.d i ≤ g.d k :=
  ((h.mono (start_ok L w) (start_mono L w)).pair i k hi hk hw).1

/-- Fibonacci's numbers. -/
def fb : Nat → Nat
  | 0 => 0
  | 1 => 1
  | n + 2 => fb n + fb (n + 1)
theorem fb_mono : ∀ {m n : Nat}, m ≤ n → fb m ≤ fb n := by
  have step : ∀ n, fb n ≤ fb (n + 1) := by
    intro n
    cases n with
    | zero => decide
    | succ n => show fb (n + 1) ≤ fb n + fb (n + 1); omega
  intro m n h
  obtain ⟨e, rfl⟩ : ∃ e, n = m + e := ⟨n - m, by omega⟩
  clear h
  induction e with
  | zero => exact Nat.le_refl _
  | succ e ih => exact Nat.le_trans ih (step _)
/-- Depths, and weights: what is deep is heavy. -/
structure FibOk (f : For) (L : Nat) (w : Nat → Nat) : Prop where
  own : ∀ j, j < L → fb (f.d j + 1) ≤ f.wt (f.root j)
  other : ∀ j, j < L → ∀ s, f.here s = true → s ≠ f.root j → fb (f.d j) ≤ f.wt s
  sums : ∀ r, f.here r = true → under f.root w r L = f.wt r
theorem start_fib {L : Nat} {w : Nat → Nat} (hw : ∀ j, j < L → 1 ≤ w j) : FibOk (For.start L w) L w :=
  ⟨fun j hj => hw j hj, fun _ _ _ _ _ => Nat.zero_le _, fun r h => by
    have hr : r < L := by simpa [For.start] using h
    show under (fun i => i) w r L = w r
    rw [under_self, if_pos hr]⟩
theorem both_fib {f : For} {L a b : Nat} {w : Nat → Nat} (ho : f.Ok L) (h : FibOk f L w) (ha : f.least (fun m => f.here m = true) a) (hb : f.least (fun m => f.here m = true ∧ m ≠ a) b) : FibOk (f.both a b) L w := by
  have hdd : ∀ j, (f.both a b).d j = if f.root j = a ∨ f.root j = b then f.d j + 1 else f.d j := fun j => rfl
  have hrr : ∀ j, (f.both a b).root j = if f.root j = a ∨ f.root j = b then f.N else f.root j := fun j => rfl
  have hN : ∀ j, j < L → f.root j < f.N := fun j hj => ho.less _ (ho.root j hj)
  have hba : b ≠ a := hb.1.2
  have hab : f.wt a ≤ f.wt b := For.lt_le (ha.2 b hb.1.1 hba)
  have hrest : ∀ m, f.here m = true → m ≠ a → m ≠ b → f.wt b ≤ f.wt m := fun m hm h1 h2 => For.lt_le (hb.2 m ⟨hm, h1⟩ h2)
  refine ⟨fun j hj => ?_, fun j hj s hs hne => ?_, fun r hr => ?_⟩
  · rw [hdd j, hrr j]
    by_cases e : f.root j = a ∨ f.root j = b
    · rw [if_pos e, if_pos e, For.both_wtN]
      show fb (f.d j) + fb (f.d j + 1) ≤ _
      have h1 := h.own j hj
      rcases e with e | e
      · have h2 := h.other j hj b hb.1.1 (by rw [e]; exact hba)
        rw [e] at h1; omega
      · have h2 := h.other j hj a ha.1 (by rw [e]; exact fun x => hba x.symm)
        rw [e] at h1; omega
    · rw [if_neg e, if_neg e, For.both_wt _ (hN j hj)]
      exact h.own j hj
  · rw [hrr j] at hne
    rw [hdd j]
    by_cases e : f.root j = a ∨ f.root j = b
    · rw [if_pos e] at hne ⊢
      rcases (For.both_here s).1 hs with e2 | ⟨e1, e2, e3⟩
      · exact absurd e2 hne
      · rw [For.both_wt s (ho.less s e3)]
        have h1 := h.own j hj
        have h2 := hrest s e3 e1 e2
        rcases e with e | e
        · rw [e] at h1; omega
        · rw [e] at h1; omega
    · rw [if_neg e] at hne ⊢
      rcases (For.both_here s).1 hs with e2 | ⟨e1, e2, e3⟩
      · rw [e2, For.both_wtN]
        have := h.other j hj a ha.1 (fun x => e (.inl x.symm))
        omega
      · rw [For.both_wt s (ho.less s e3)]
        exact h.other j hj s e3 hne
  · rcases (For.both_here r).1 hr with rfl | ⟨h1, h2, h3⟩
    · have := under_new (rt := f.root) (rt' := (f.both a b).root) (v := w) (v' := w) (N := f.N) (c := 1) (fun _ => rfl) (fun e => hba e.symm) L (fun j hj => by have := hN j hj; omega) (fun j _ _ => Nat.one_mul _)
      rw [h.sums a ha.1, h.sums b hb.1.1, Nat.one_mul] at this
      rw [For.both_wtN]
      exact this
    · rw [For.both_wt r (ho.less r h3)]
      exact (under_old (rt := f.root) (rt' := (f.both a b).root) (v := w) (N := f.N) (fun _ => rfl) h1 h2 (fun e => by have := ho.less r h3; omega) L (fun _ _ _ => rfl)).trans (h.sums r h3)
theorem Huff.fib {f g : For} {L : Nat} {w : Nat → Nat} (h : Huff f g) : f.Ok L → FibOk f L w → ∀ j, j < L → fb (g.d j + 1) ≤ allOf w L := by
  induction h with
  | last f hl =>
    intro ho hf j hj
    have h1 := hf.own j hj
    rw [← hf.sums _ (ho.root j hj), under_all L fun i hi => hl _ _ (ho.root i hi) (ho.root j hj)] at h1
    exact h1
  | join f g a b ha hb hr ih => intro ho hf; exact ih (For.both_ok ho) (both_fib ho hf ha hb)
/-- What weighs little is not deep. -/
theorem huff_fib {L : Nat} {w : Nat → Nat} {g : For} (h : Huff (For.start L w) g) (hw : ∀ j, j < L → 1 ≤ w j) {j : Nat} (hj : j < L) : fb (g.d j + 1) ≤ allOf w L :=
  h.fib (start_ok L w) (start_fib hw) j hj
theorem huff_small {L : Nat} {w : Nat → Nat} {g : For} (h : Huff (For.start L w) g) (hw : ∀ j, j < L → 1 ≤ w j) (ht : allOf w L ≤ 1500) {j : Nat} (hj : j < L) : g.d j ≤ 15 := by
  refine Nat.le_of_not_lt fun hc => ?_
  have h1 := huff_fib h hw hj
  have h2 := fb_mono (m := 17) (n := g.d j + 1) (by omega)
  have h3 : fb 17 = 1597 := by decide
  omega
/-- There is always an end. -/
theorem least_some {f : For} (p : Nat → Prop) [DecidablePred p] : ∀ n, (∀ m, p m → m < n) → (∃ m, p m) → ∃ a, f.least p a := by
  have key : ∀ n, (∃ m, m < n ∧ p m) → ∃ a, a < n ∧ p a ∧ ∀ m, m < n → p m → m ≠ a → f.lt a m := by
    intro n
    induction n with
    | zero => intro h; obtain ⟨m, h, _⟩ := h; omega
    | succ n ih =>
      intro h
      by_cases hn : p n
      · by_cases hex : ∃ m, m < n ∧ p m
        · obtain ⟨a, h1, h2, h3⟩ := ih hex
          by_cases hlt : f.lt a n
          · refine ⟨a, by omega, h2, fun m hm hp hne => ?_⟩
            by_cases e : m = n
            · subst e; exact hlt
            · exact h3 m (by omega) hp hne
          · have hna : f.lt n a := by unfold For.lt at *; omega
            refine ⟨n, by omega, hn, fun m hm hp hne => ?_⟩
            by_cases e : m = a
            · subst e; exact hna
            · have := h3 m (by omega) hp e
              unfold For.lt at *
              omega
        · exact ⟨n, by omega, hn, fun m hm hp hne => absurd ⟨m, by omega, hp⟩ hex⟩
      · obtain ⟨m, hm, hp⟩ := h
        have hmn : m ≠ n := fun e => hn (e ▸ hp)
        obtain ⟨a, h1, h2, h3⟩ := ih ⟨m, by omega, hp⟩
        refine ⟨a, by omega, h2, fun m' hm' hp' hne => ?_⟩
        by_cases e : m' = n
        · exact absurd (e ▸ hp') hn
        · exact h3 m' (by omega) hp' hne
  intro n hn hex
  obtain ⟨m, hm⟩ := hex
  obtain ⟨a, -, h2, h3⟩ := key n ⟨m, hn m hm, hm⟩
  exact ⟨a, h2, fun m hp hne => h3 m (hn m hp) hp hne⟩
end Go.Proofs.Ytgcegdjnemlcoaa
