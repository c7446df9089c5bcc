/- Rows of words, and words modulo what so many bytes hold: what the contracts of words lean on. · Plain mathematics of layer 5: differences and sums of words, modulo a power of two. · Plain mathematics of layer 6: words folded. · Plain mathematics of layer 7: the bits in which words differ, modulo a power of two. · Plain mathematics of layer 8: where bytes of words go. -/
import Derived.Test.YtcenbaajojdjlaaGreatDoorWordFn
import Derived.Test.YtcenbaajojdjlaaGreatDoorBase
namespace Go.Proofs.YtcenbaajojdjlaaGreatDoor
open Go.RowKit

/-- The first k words of what comes out. -/
def rowOf (f : Nat → Nat) (k : Nat) : List Nat := (List.range k).map f
theorem rowOf_len (f : Nat → Nat) (k : Nat) : (rowOf f k).length = k := by simp [rowOf]
theorem rowOf_snoc (f : Nat → Nat) (k : Nat) : rowOf f (k + 1) = rowOf f k ++ [f k] := by simp [rowOf, List.range_succ]
theorem rowOf_get (f : Nat → Nat) (k i : Nat) (h : i < k) : (rowOf f k).getD i 0 = f i := by
  simp [rowOf, List.getD_eq_getElem?_getD, h]
theorem rowOf_ext (f : Nat → Nat) (l : List Nat) (n : Nat) (hn : l.length = n) (h : ∀ i, i < n → f i = l.getD i 0) : rowOf f n = l := by
  apply List.ext_getElem?
  intro i
  by_cases hi : i < n
  · have := h i hi
    simp [rowOf, hi, this, List.getD_eq_getElem?_getD, hn]
  · rw [List.getElem?_eq_none (by rw [rowOf_len]; omega), List.getElem?_eq_none (by omega)]
theorem rowOf_congr (f g : Nat → Nat) (n : Nat) (h : ∀ i, i < n → f i = g i) : rowOf f n = rowOf g n :=
  rowOf_ext f _ n (rowOf_len g n) fun i hi => (h i hi).trans (rowOf_get g n i hi).symm

/-- Of a width that may be none. -/
def ofW (f : Nat → List Nat → List Nat) (W : Int) (l : List Nat) : List Nat := if rightB W then f W.toNat l else []
theorem getD_lt (l : List Nat) (B : Nat) (hB : 0 < B) (h : ∀ x ∈ l, x < B) (i : Nat) : l.getD i 0 < B := by
  rw [List.getD_eq_getElem?_getD]
  cases hi : l[i]? with
  | none => exact hB
  | some x => exact h x (List.mem_of_getElem? hi)
theorem isW_pow {W : Nat} (h : IsW W) : 256 ^ W = 256 ∨ 256 ^ W = 65536 ∨ 256 ^ W = 4294967296 ∨ 256 ^ W = 18446744073709551616 := by
  rcases h with rfl | rfl | rfl | rfl
  · exact .inl rfl
  · exact .inr (.inl rfl)
  · exact .inr (.inr (.inl rfl))
  · exact .inr (.inr (.inr rfl))
theorem rowOf_lt (f : Nat → Nat) (M n : Nat) (h : ∀ i, f i < M) : ∀ x ∈ rowOf f n, x < M := by
  intro x hx
  obtain ⟨i, _, rfl⟩ := List.mem_map.1 hx
  exact h i
theorem pow_pos' {W : Nat} : 0 < 256 ^ W := Nat.pow_pos (by decide)
theorem lt_64 {W : Nat} (hW : IsW W) {l : List Nat} (h : ∀ x ∈ l, x < 256 ^ W) : ∀ x ∈ l, x < 18446744073709551616 := fun x hx => by
  have := h x hx
  rcases isW_pow hW with e | e | e | e <;> rw [e] at this <;> omega

theorem fit_self {W : Nat} {l : List Nat} (h : ∀ x ∈ l, x < 256 ^ W) : l.map (· % 256 ^ W) = l := by
  have : l.map (· % 256 ^ W) = l.map id := List.map_congr_left fun x hx => Nat.mod_eq_of_lt (h x hx)
  rw [this, List.map_id]
theorem getD_map_mod (l : List Nat) (M i : Nat) : (l.map (· % M)).getD i 0 = l.getD i 0 % M := by
  simp only [List.getD_eq_getElem?_getD, List.getElem?_map]
  cases l[i]? <;> simp

/-- A block of one number. -/
def One (w : World) (g : Nat) (a : Nat) : Prop := Blk w g 63 [.int .u64 (a : Int)]
theorem One.cell {w : World} {g a : Nat} (h : One w g a) : w.cell? ⟨g, 0, none⟩ = some (.int .u64 (a : Int)) := Blk.cell h 0
theorem One.frozen {w : World} {g a : Nat} (h : One w g a) : w.frozen? ⟨g, 0, none⟩ = false := Blk.frozen h 0
theorem One.set_ {w : World} {g a : Nat} (h : One w g a) (b : Nat) : One (w.setCell ⟨g, 0, none⟩ (.int .u64 (b : Int))) g b := Blk.set_ h 0 _
theorem one_new (w : World) (a : Nat) : One (w.alloc (.cells #[.int .u64 (a : Int)] 63)) w.heap.size a := heap_alloc_new w _
theorem mask_and' (W x : Nat) (hW : IsW W) (hx : x < 18446744073709551616) : bits .and .u64 (x : Int) (maskN (W : Int) : Int) = ((x % 256 ^ W : Nat) : Int) := by
  have hm : maskN (W : Int) = 2 ^ (8 * W) - 1 := by
    unfold maskN
    rw [← hW.right, if_pos rfl, Int.toNat_natCast, Nat.pow_mul]
  have hp : (256 : Nat) ^ W = 2 ^ (8 * W) := by rw [Nat.pow_mul]
  have hle : 2 ^ (8 * W) ≤ 2 ^ 64 := Nat.pow_le_pow_right (by decide) (by have := hW.pos; omega)
  have h64 : (2 : Nat) ^ 64 = 18446744073709551616 := by decide
  have hpos : 0 < 2 ^ (8 * W) := Nat.pow_pos (by decide)
  rw [hm, u64_and_nat x _ hx (by omega), Nat.and_two_pow_sub_one_eq_mod, hp]
theorem mod_64 {W : Nat} (hW : IsW W) (x : Nat) : x % 18446744073709551616 % 256 ^ W = x % 256 ^ W := by
  rcases isW_pow hW with e | e | e | e <;> rw [e] <;> omega
theorem ofW_of {W : Nat} (hW : IsW W) (f : Nat → List Nat → List Nat) (l : List Nat) : ofW f (W : Int) l = f W l := by
  unfold ofW
  rw [← hW.right, if_pos rfl, Int.toNat_natCast]
theorem ofW_len {f : Nat → List Nat → List Nat} (h : ∀ W l, (f W l).length = l.length) (W : Int) (l : List Nat) : (ofW f W l).length ≤ l.length := by
  unfold ofW
  split
  · rw [h]; exact Nat.le_refl _
  · exact Nat.zero_le _
theorem ofW_lt {f : Nat → List Nat → List Nat} (h : ∀ W l, ∀ x ∈ f W l, x < 256 ^ W) (W : Int) (l : List Nat) : ∀ x ∈ ofW f W l, x < 18446744073709551616 := by
  unfold ofW
  split
  · rename_i hr
    obtain ⟨V, rfl, hV⟩ := isW_of hr
    rw [Int.toNat_natCast]
    exact lt_64 hV (h V l)
  · intro x hx; cases hx
/-- What holds at the head of a round that appends: the first k words are laid. -/
def RefRow (w : World) (f : Nat → Nat) (n : Nat) (v i : Value) (wr : World) : Prop :=
  ∃ k : Nat, k ≤ n ∧ i = .int .i64 k ∧ wr.ownsRow w.heap.size 63 1 v k (wvs (rowOf f k)) ∧ Below w.heap.size w wr
theorem wvs_snoc (l : List Nat) (v : Nat) : wvs (l ++ [v]) = wvs l ++ [.int .u64 (v : Int)] := wvs_append l [v]
theorem NewW.of_own {w w' : World} {v : Value} {l : List Nat} (h : w'.ownsRow w.heap.size 63 1 v l.length (wvs l)) (hb : Below w.heap.size w w') : NewW w l (.returned v) w' := by
  obtain ⟨A, c, rfl, hc, _⟩ := own_form h
  exact ⟨_, rfl, ⟨A, c, by rw [wvs_length], by rw [wvs_length]; exact hc, Rd.of_own h⟩, hb⟩
theorem cells_new (w : World) (ws : List Nat) (t : TypeId) : IsCells (wvs ws) (.slice (some ⟨w.heap.size, 0, none⟩) ws.length ws.length) (w.alloc (.cells (wvs ws).toArray t)) :=
  ⟨_, ws.length, by rw [wvs_length], by rw [wvs_length]; exact Nat.le_refl _, Rd.new w (wvs ws).toArray t⟩

theorem cells_row {w : World} {A : Option Addr} {n c : Nat} {ws : List Nat} (hr : Rd w w.heap.size A (wvs ws)) (hn : ws.length = n) (hnc : n ≤ c) : IsCells (wvs ws) (.slice A n c) w := by
  subst hn
  exact ⟨A, c, by rw [wvs_length], by rw [wvs_length]; exact hnc, hr⟩
theorem ofW_small {f : Nat → List Nat → List Nat} (h : ∀ W l, (f W l).length = l.length) (W : Int) (l : List Nat) (n : Nat) (hn : l.length ≤ n) : (ofW f W l).length ≤ n := Nat.le_trans (ofW_len h W l) hn
theorem cells_of_own {w : World} {base e : Nat} {v : Value} {ws : List Nat} (h : w.ownsRow base e 1 v ws.length (wvs ws)) : IsCells (wvs ws) v w := by
  obtain ⟨A, c, rfl, hc, _⟩ := own_form h
  exact ⟨A, c, by rw [wvs_length], by rw [wvs_length]; exact hc, Rd.of_own h⟩
theorem mask_is (W : Nat) (hW : IsW W) : maskN (W : Int) = 256 ^ W - 1 := by
  unfold maskN
  rw [← hW.right, if_pos rfl, Int.toNat_natCast]
end Go.Proofs.YtcenbaajojdjlaaGreatDoor
namespace Go.Proofs.YtcenbaajojdjlaaGreatDoor

/-- All words ahead of place i, together. -/
def sumTo (l : List Nat) : Nat → Nat
  | 0 => 0
  | i + 1 => sumTo l i + l.getD i 0
/-- The word ahead of place i. -/
def ahead (l : List Nat) (i : Nat) : Nat := if i = 0 then 0 else l.getD (i - 1) 0
def diffAt (M : Nat) (l : List Nat) (i : Nat) : Nat := (l.getD i 0 + (18446744073709551616 - ahead l i)) % 18446744073709551616 % M
def sumAt (M : Nat) (l : List Nat) (i : Nat) : Nat := sumTo l (i + 1) % M
def diffW (W : Nat) (l : List Nat) : List Nat := rowOf (diffAt (256 ^ W) l) l.length
def sumW (W : Nat) (l : List Nat) : List Nat := rowOf (sumAt (256 ^ W) l) l.length
theorem diffW_len (W : Nat) (l : List Nat) : (diffW W l).length = l.length := rowOf_len _ _
theorem sumW_len (W : Nat) (l : List Nat) : (sumW W l).length = l.length := rowOf_len _ _

theorem ahead_lt (l : List Nat) (B : Nat) (hB : 0 < B) (h : ∀ x ∈ l, x < B) (i : Nat) : ahead l i < B := by
  unfold ahead
  split
  · exact hB
  · exact getD_lt l B hB h _
theorem diffW_lt (W : Nat) (l : List Nat) : ∀ x ∈ diffW W l, x < 256 ^ W := rowOf_lt _ _ _ fun _ => Nat.mod_lt _ pow_pos'
theorem sumW_lt (W : Nat) (l : List Nat) : ∀ x ∈ sumW W l, x < 256 ^ W := rowOf_lt _ _ _ fun _ => Nat.mod_lt _ pow_pos'
/-- The sum of the differences is the words. -/
theorem sum_diff {W : Nat} (hW : IsW W) (l : List Nat) (h : ∀ x ∈ l, x < 18446744073709551616) : sumW W (diffW W l) = l.map (· % 256 ^ W) := by
  have key : ∀ k, k ≤ l.length → sumTo (diffW W l) k % 256 ^ W = ahead l k % 256 ^ W := by
    intro k
    induction k with
    | zero => intro _; rfl
    | succ k ih =>
      intro hk
      have ih := ih (by omega)
      have h1 := getD_lt l _ (by decide) h k
      have h2 := ahead_lt l _ (by decide) h k
      show (sumTo (diffW W l) k + (diffW W l).getD k 0) % 256 ^ W = (if k + 1 = 0 then 0 else l.getD (k + 1 - 1) 0) % 256 ^ W
      rw [if_neg (by omega), Nat.add_sub_cancel, diffW, rowOf_get _ _ _ (by omega), ← diffW]
      unfold diffAt
      generalize sumTo (diffW W l) k = s at *
      generalize ahead l k = p at *
      generalize l.getD k 0 = x at *
      rcases isW_pow hW with e | e | e | e <;> rw [e] at ih ⊢ <;> omega
  unfold sumW
  rw [diffW_len]
  refine rowOf_ext _ _ _ (by simp) fun i hi => ?_
  rw [getD_map_mod]
  have := key (i + 1) (by omega)
  rw [ahead, if_neg (by omega), Nat.add_sub_cancel] at this
  exact this
/-- The differences of the sums are the words. -/
theorem diff_sum {W : Nat} (hW : IsW W) (l : List Nat) : diffW W (sumW W l) = l.map (· % 256 ^ W) := by
  unfold diffW
  rw [sumW_len]
  refine rowOf_ext _ _ _ (by simp) fun i hi => ?_
  rw [getD_map_mod]
  have ha : ahead (sumW W l) i = sumTo l i % 256 ^ W := by
    unfold ahead
    split
    · rename_i h0
      subst h0
      simp [sumTo]
    · rw [sumW, rowOf_get _ _ _ (by omega)]
      unfold sumAt
      rw [show i - 1 + 1 = i by omega]
  unfold diffAt
  rw [ha, sumW, rowOf_get _ _ _ hi]
  unfold sumAt
  rw [sumTo]
  generalize sumTo l i = s
  generalize l.getD i 0 = x
  rcases isW_pow hW with e | e | e | e <;> rw [e] <;> omega

def secondW (W : Nat) (l : List Nat) : List Nat := diffW W (diffW W l)
def twiceW (W : Nat) (l : List Nat) : List Nat := sumW W (sumW W l)
theorem twice_second {W : Nat} (hW : IsW W) (l : List Nat) (h : ∀ x ∈ l, x < 18446744073709551616) : twiceW W (secondW W l) = l.map (· % 256 ^ W) := by
  unfold twiceW secondW
  rw [sum_diff hW _ (lt_64 hW (diffW_lt W l)), fit_self (diffW_lt W l), sum_diff hW l h]
theorem second_twice {W : Nat} (hW : IsW W) (l : List Nat) : secondW W (twiceW W l) = l.map (· % 256 ^ W) := by
  unfold twiceW secondW
  rw [diff_sum hW, fit_self (sumW_lt W l), diff_sum hW]
/-- Of words that grow by the same the second differences are noughts. -/
theorem second_ramp {W : Nat} (hW : IsW W) (a s n i : Nat) (h2 : 2 ≤ i) (hi : i < n) :
    (secondW W (rowOf (fun j => (a + j * s) % 18446744073709551616) n)).getD i 0 = 0 := by
  have hr : ∀ j, j < n → (rowOf (fun j => (a + j * s) % 18446744073709551616) n).getD j 0 = (a + j * s) % 18446744073709551616 := fun j hj => rowOf_get _ _ _ hj
  have hd : ∀ j, 1 ≤ j → j < n → (diffW W (rowOf (fun j => (a + j * s) % 18446744073709551616) n)).getD j 0 = s % 256 ^ W := by
    intro j h1 hj
    unfold diffW
    rw [rowOf_len, rowOf_get _ _ _ hj]
    unfold diffAt ahead
    rw [if_neg (by omega), hr j hj, hr (j - 1) (by omega)]
    have e : a + j * s = a + (j - 1) * s + s := by
      obtain ⟨m, rfl⟩ : ∃ m, j = m + 1 := ⟨j - 1, by omega⟩
      rw [Nat.add_sub_cancel, Nat.add_mul]
      omega
    rw [e]
    generalize a + (j - 1) * s = x
    rcases isW_pow hW with e | e | e | e <;> rw [e] <;> omega
  unfold secondW
  rw [diffW, diffW_len, rowOf_len, rowOf_get _ _ _ hi]
  unfold diffAt ahead
  rw [if_neg (by omega), hd i (by omega) hi, hd (i - 1) (by omega) (by omega)]
  have hs : s % 256 ^ W < 256 ^ W := Nat.mod_lt _ pow_pos'
  rcases isW_pow hW with e | e | e | e <;> rw [e] at hs ⊢ <;> omega
end Go.Proofs.YtcenbaajojdjlaaGreatDoor
namespace Go.Proofs.YtcenbaajojdjlaaGreatDoor

def foldN (M v : Nat) : Nat := if v ≤ (M - 1) / 2 then 2 * v else 2 * (M - 1 - v) + 1
def unfoldN (M u : Nat) : Nat := if u % 2 = 0 then u / 2 else M - 1 - u / 2
def foldAt (M : Nat) (l : List Nat) (i : Nat) : Nat := foldN M (l.getD i 0 % M)
def unfoldAt (M : Nat) (l : List Nat) (i : Nat) : Nat := unfoldN M (l.getD i 0 % M)
def foldW (W : Nat) (l : List Nat) : List Nat := rowOf (foldAt (256 ^ W) l) l.length
def unfoldW (W : Nat) (l : List Nat) : List Nat := rowOf (unfoldAt (256 ^ W) l) l.length
theorem foldW_len (W : Nat) (l : List Nat) : (foldW W l).length = l.length := rowOf_len _ _
theorem unfoldW_len (W : Nat) (l : List Nat) : (unfoldW W l).length = l.length := rowOf_len _ _
theorem foldN_lt {W : Nat} (hW : IsW W) (v : Nat) (hv : v < 256 ^ W) : foldN (256 ^ W) v < 256 ^ W := by
  unfold foldN
  rcases isW_pow hW with e | e | e | e <;> rw [e] at hv ⊢ <;> split <;> omega
theorem unfoldN_lt {W : Nat} (hW : IsW W) (v : Nat) (hv : v < 256 ^ W) : unfoldN (256 ^ W) v < 256 ^ W := by
  unfold unfoldN
  rcases isW_pow hW with e | e | e | e <;> rw [e] at hv ⊢ <;> split <;> omega
theorem unfold_foldN {W : Nat} (hW : IsW W) (v : Nat) (hv : v < 256 ^ W) : unfoldN (256 ^ W) (foldN (256 ^ W) v) = v := by
  unfold unfoldN foldN
  rcases isW_pow hW with e | e | e | e <;> rw [e] at hv ⊢ <;> split <;> split <;> omega
theorem fold_unfoldN {W : Nat} (hW : IsW W) (v : Nat) (hv : v < 256 ^ W) : foldN (256 ^ W) (unfoldN (256 ^ W) v) = v := by
  unfold unfoldN foldN
  rcases isW_pow hW with e | e | e | e <;> rw [e] at hv ⊢ <;> split <;> split <;> omega
theorem foldW_lt {W : Nat} (hW : IsW W) (l : List Nat) : ∀ x ∈ foldW W l, x < 256 ^ W := rowOf_lt _ _ _ fun _ => foldN_lt hW _ (Nat.mod_lt _ pow_pos')
theorem unfoldW_lt {W : Nat} (hW : IsW W) (l : List Nat) : ∀ x ∈ unfoldW W l, x < 256 ^ W := rowOf_lt _ _ _ fun _ => unfoldN_lt hW _ (Nat.mod_lt _ pow_pos')
theorem unfold_foldW {W : Nat} (hW : IsW W) (l : List Nat) : unfoldW W (foldW W l) = l.map (· % 256 ^ W) := by
  unfold unfoldW
  rw [foldW_len]
  refine rowOf_ext _ _ _ (by simp) fun i hi => ?_
  rw [getD_map_mod]
  have hv : l.getD i 0 % 256 ^ W < 256 ^ W := Nat.mod_lt _ pow_pos'
  unfold unfoldAt
  rw [foldW, rowOf_get _ _ _ hi]
  unfold foldAt
  rw [Nat.mod_eq_of_lt (foldN_lt hW _ hv), unfold_foldN hW _ hv]
theorem fold_unfold {W : Nat} (hW : IsW W) (l : List Nat) : foldW W (unfoldW W l) = l.map (· % 256 ^ W) := by
  unfold foldW
  rw [unfoldW_len]
  refine rowOf_ext _ _ _ (by simp) fun i hi => ?_
  rw [getD_map_mod]
  have hv : l.getD i 0 % 256 ^ W < 256 ^ W := Nat.mod_lt _ pow_pos'
  unfold foldAt
  rw [unfoldW, rowOf_get _ _ _ hi]
  unfold unfoldAt
  rw [Nat.mod_eq_of_lt (unfoldN_lt hW _ hv), fold_unfoldN hW _ hv]
end Go.Proofs.YtcenbaajojdjlaaGreatDoor
namespace Go.Proofs.YtcenbaajojdjlaaGreatDoor

/-- What the words ahead of place i come to, their bits turned one by the other. -/
def xorTo (l : List Nat) : Nat → Nat
  | 0 => 0
  | i + 1 => xorTo l i ^^^ l.getD i 0
def flipAt (M : Nat) (l : List Nat) (i : Nat) : Nat := (l.getD i 0 ^^^ ahead l i) % M
def backAt (M : Nat) (l : List Nat) (i : Nat) : Nat := xorTo l (i + 1) % M
def flipW (W : Nat) (l : List Nat) : List Nat := rowOf (flipAt (256 ^ W) l) l.length
def backW (W : Nat) (l : List Nat) : List Nat := rowOf (backAt (256 ^ W) l) l.length
theorem flipW_len (W : Nat) (l : List Nat) : (flipW W l).length = l.length := rowOf_len _ _
theorem backW_len (W : Nat) (l : List Nat) : (backW W l).length = l.length := rowOf_len _ _
theorem flipW_lt (W : Nat) (l : List Nat) : ∀ x ∈ flipW W l, x < 256 ^ W := rowOf_lt _ _ _ fun _ => Nat.mod_lt _ pow_pos'
theorem backW_lt (W : Nat) (l : List Nat) : ∀ x ∈ backW W l, x < 256 ^ W := rowOf_lt _ _ _ fun _ => Nat.mod_lt _ pow_pos'

theorem xor_mod (W a b : Nat) : (a ^^^ b) % 256 ^ W = (a % 256 ^ W) ^^^ (b % 256 ^ W) := by
  rw [show 256 ^ W = 2 ^ (8 * W) by rw [Nat.pow_mul]]
  exact Nat.xor_mod_two_pow
theorem xor_lt (W a b : Nat) (ha : a < 256 ^ W) (hb : b < 256 ^ W) : a ^^^ b < 256 ^ W := by
  rw [show 256 ^ W = 2 ^ (8 * W) by rw [Nat.pow_mul]] at *
  exact Nat.xor_lt_two_pow ha hb
theorem xor_away (a b : Nat) : a ^^^ (b ^^^ a) = b := by
  rw [Nat.xor_comm b a, ← Nat.xor_assoc, Nat.xor_self, Nat.zero_xor]

/-- What was flipped comes back. -/
theorem back_flip (W : Nat) (l : List Nat) : backW W (flipW W l) = l.map (· % 256 ^ W) := by
  have key : ∀ k, k ≤ l.length → xorTo (flipW W l) k % 256 ^ W = ahead l k % 256 ^ W := by
    intro k
    induction k with
    | zero => intro _; rfl
    | succ k ih =>
      intro hk
      have ih := ih (by omega)
      show (xorTo (flipW W l) k ^^^ (flipW W l).getD k 0) % 256 ^ W = (if k + 1 = 0 then 0 else l.getD (k + 1 - 1) 0) % 256 ^ W
      rw [if_neg (by omega), Nat.add_sub_cancel, flipW, rowOf_get _ _ _ (by omega), ← flipW, xor_mod, ih]
      unfold flipAt
      rw [Nat.mod_mod, ← xor_mod, xor_away]
  unfold backW
  rw [flipW_len]
  refine rowOf_ext _ _ _ (by simp) fun i hi => ?_
  rw [getD_map_mod]
  have := key (i + 1) (by omega)
  rw [ahead, if_neg (by omega), Nat.add_sub_cancel] at this
  exact this
/-- What came back is flipped so. -/
theorem flip_back (W : Nat) (l : List Nat) : flipW W (backW W l) = l.map (· % 256 ^ W) := by
  unfold flipW
  rw [backW_len]
  refine rowOf_ext _ _ _ (by simp) fun i hi => ?_
  rw [getD_map_mod]
  have ha : ahead (backW W l) i = xorTo l i % 256 ^ W := by
    unfold ahead
    split
    · rename_i h0
      subst h0
      simp [xorTo]
    · rw [backW, rowOf_get _ _ _ (by omega)]
      unfold backAt
      rw [show i - 1 + 1 = i by omega]
  unfold flipAt
  rw [ha, backW, rowOf_get _ _ _ hi]
  unfold backAt
  rw [xorTo, ← xor_mod, Nat.mod_mod, Nat.xor_comm (xorTo l i), Nat.xor_assoc, Nat.xor_self, Nat.xor_zero]

/-! ### A row that grows by a word -/
theorem getD_snoc_lt (p : List Nat) (x i : Nat) (h : i < p.length) : (p ++ [x]).getD i 0 = p.getD i 0 := by
  simp [List.getD_eq_getElem?_getD, List.getElem?_append_left h]
theorem getD_snoc (p : List Nat) (x : Nat) : (p ++ [x]).getD p.length 0 = x := by
  simp [List.getD_eq_getElem?_getD]
theorem ahead_snoc (p : List Nat) (x i : Nat) (h : i ≤ p.length) : ahead (p ++ [x]) i = ahead p i := by
  unfold ahead
  split
  · rfl
  · exact getD_snoc_lt p x _ (by omega)
theorem ahead_last (p : List Nat) (x : Nat) : ahead (p ++ [x]) (p.length + 1) = x := by
  rw [ahead, if_neg (by omega), Nat.add_sub_cancel, getD_snoc]
theorem xorTo_snoc (p : List Nat) (x : Nat) : ∀ i, i ≤ p.length → xorTo (p ++ [x]) i = xorTo p i
  | 0, _ => rfl
  | i + 1, h => by
    rw [xorTo, xorTo, xorTo_snoc p x i (by omega), getD_snoc_lt p x i (by omega)]
theorem xorTo_last (p : List Nat) (x : Nat) : xorTo (p ++ [x]) (p.length + 1) = xorTo p p.length ^^^ x := by
  rw [xorTo, xorTo_snoc p x _ (Nat.le_refl _), getD_snoc]
theorem flip_snoc (W : Nat) (p : List Nat) (x : Nat) : flipW W (p ++ [x]) = flipW W p ++ [(x ^^^ ahead p p.length) % 256 ^ W] := by
  unfold flipW
  rw [List.length_append, List.length_singleton, rowOf_snoc, rowOf_congr _ (flipAt (256 ^ W) p) p.length, flipAt, getD_snoc, ahead_snoc p x _ (Nat.le_refl _)]
  intro i hi
  rw [flipAt, flipAt, getD_snoc_lt p x i hi, ahead_snoc p x i (by omega)]
theorem back_snoc (W : Nat) (p : List Nat) (x : Nat) : backW W (p ++ [x]) = backW W p ++ [(xorTo p p.length ^^^ x) % 256 ^ W] := by
  unfold backW
  rw [List.length_append, List.length_singleton, rowOf_snoc, rowOf_congr _ (backAt (256 ^ W) p) p.length, backAt, xorTo_last]
  intro i hi
  rw [backAt, backAt, xorTo_snoc p x _ (by omega)]

/-! ### Words that are cut first -/
theorem ahead_map (W : Nat) (l : List Nat) (i : Nat) : ahead (l.map (· % 256 ^ W)) i = ahead l i % 256 ^ W := by
  unfold ahead
  split
  · simp
  · exact getD_map_mod _ _ _
theorem xorTo_map (W : Nat) (l : List Nat) : ∀ i, xorTo (l.map (· % 256 ^ W)) i = xorTo l i % 256 ^ W
  | 0 => by simp [xorTo]
  | i + 1 => by rw [xorTo, xorTo, xorTo_map W l i, getD_map_mod, ← xor_mod]
theorem flip_fit {W : Nat} (hW : IsW W) (l : List Nat) : flipW 8 (l.map (· % 256 ^ W)) = flipW W l := by
  unfold flipW
  rw [List.length_map]
  refine rowOf_congr _ _ _ fun i _ => ?_
  unfold flipAt
  rw [getD_map_mod, ahead_map, ← xor_mod]
  have := Nat.mod_lt (l.getD i 0 ^^^ ahead l i) (pow_pos' (W := W))
  refine Nat.mod_eq_of_lt (Nat.lt_of_lt_of_le this ?_)
  rcases isW_pow hW with e | e | e | e <;> rw [e] <;> decide
theorem back_fit {W : Nat} (hW : IsW W) (l : List Nat) : backW 8 (l.map (· % 256 ^ W)) = backW W l := by
  unfold backW
  rw [List.length_map]
  refine rowOf_congr _ _ _ fun i _ => ?_
  unfold backAt
  rw [xorTo_map]
  have := Nat.mod_lt (xorTo l (i + 1)) (pow_pos' (W := W))
  refine Nat.mod_eq_of_lt (Nat.lt_of_lt_of_le this ?_)
  rcases isW_pow hW with e | e | e | e <;> rw [e] <;> decide
theorem xorTo_lt (l : List Nat) (h : ∀ x ∈ l, x < 18446744073709551616) : ∀ i, xorTo l i < 18446744073709551616
  | 0 => by show (0 : Nat) < _; decide
  | i + 1 => by
    have h1 := xorTo_lt l h i
    have h2 := getD_lt l _ (by decide) h i
    rw [xorTo]
    exact xor_lt 8 _ _ h1 h2
end Go.Proofs.YtcenbaajojdjlaaGreatDoor
namespace Go.Proofs.YtcenbaajojdjlaaGreatDoor

def toI (n W i : Nat) : Nat := if n / W * W ≤ i then i else i % W * (n / W) + i / W
def fromI (n W i : Nat) : Nat := if n / W * W ≤ i then i else i % (n / W) * W + i / (n / W)
/-- Each byte is the one at the place that its own is asked for. -/
def moveL (f : Nat → Nat) (l : List UInt8) : List UInt8 := (List.range l.length).map fun i => l.getD (f i) 0
def splitL (W : Nat) (l : List UInt8) : List UInt8 := moveL (fromI l.length W) l
def joinL (W : Nat) (l : List UInt8) : List UInt8 := moveL (toI l.length W) l
theorem moveL_len (f : Nat → Nat) (l : List UInt8) : (moveL f l).length = l.length := by simp [moveL]
theorem splitL_len (W : Nat) (l : List UInt8) : (splitL W l).length = l.length := moveL_len _ l
theorem joinL_len (W : Nat) (l : List UInt8) : (joinL W l).length = l.length := moveL_len _ l
theorem moveL_get (f : Nat → Nat) (l : List UInt8) (i : Nat) (h : i < l.length) : (moveL f l).getD i 0 = l.getD (f i) 0 := by
  simp [moveL, List.getD_eq_getElem?_getD, h]

theorem div_le' {n W : Nat} : n / W * W ≤ n := Nat.div_mul_le_self n W
theorem from_in {n W i : Nat} (h : i < n / W * W) : i % (n / W) * W + i / (n / W) < n / W * W := by
  have h0 : 0 < n / W := by
    rcases Nat.eq_zero_or_pos (n / W) with h0 | h0
    · rw [h0, Nat.zero_mul] at h; omega
    · exact h0
  have h1 : i / (n / W) < W := (Nat.div_lt_iff_lt_mul h0).2 (by rw [Nat.mul_comm]; exact h)
  have h2 : i % (n / W) + 1 ≤ n / W := Nat.mod_lt i h0
  have h3 := Nat.mul_le_mul_right W h2
  rw [Nat.add_mul, Nat.one_mul] at h3
  omega
theorem fromI_lt {n W i : Nat} (h : i < n) : fromI n W i < n := by
  unfold fromI
  split
  · exact h
  · have := from_in (n := n) (W := W) (i := i) (by omega)
    have := div_le' (n := n) (W := W)
    omega
section
variable {n W : Nat} (hW : 0 < W)
include hW
theorem to_in {i : Nat} (h : i < n / W * W) : i % W * (n / W) + i / W < n / W * W := by
  have h1 : i / W < n / W := (Nat.div_lt_iff_lt_mul hW).2 h
  have h2 : i % W + 1 ≤ W := Nat.mod_lt i hW
  have h3 := Nat.mul_le_mul_right (n / W) h2
  rw [Nat.add_mul, Nat.one_mul] at h3
  rw [Nat.mul_comm W] at h3
  omega
theorem toI_lt {i : Nat} (h : i < n) : toI n W i < n := by
  unfold toI
  split
  · exact h
  · have := to_in hW (n := n) (i := i) (by omega)
    have := div_le' (n := n) (W := W)
    omega
theorem from_to (i : Nat) : fromI n W (toI n W i) = i := by
  unfold toI
  split
  · rename_i h
    rw [fromI, if_pos h]
  · rename_i h
    have h' : i < n / W * W := by omega
    have h1 := to_in hW h'
    have h0 : i / W < n / W := (Nat.div_lt_iff_lt_mul hW).2 h'
    rw [fromI, if_neg (by omega), Nat.mul_comm (i % W), Nat.mul_add_mod, Nat.mod_eq_of_lt h0, Nat.mul_add_div (Nat.lt_of_le_of_lt (Nat.zero_le _) h0), Nat.div_eq_of_lt h0, Nat.add_zero, Nat.mul_comm]
    exact Nat.div_add_mod i W
theorem to_from (i : Nat) : toI n W (fromI n W i) = i := by
  unfold fromI
  split
  · rename_i h
    rw [toI, if_pos h]
  · rename_i h
    have h' : i < n / W * W := by omega
    have h1 := from_in h'
    have hq : 0 < n / W := by
      rcases Nat.eq_zero_or_pos (n / W) with h0 | h0
      · rw [h0, Nat.zero_mul] at h'; omega
      · exact h0
    have h0 : i / (n / W) < W := (Nat.div_lt_iff_lt_mul hq).2 (by rw [Nat.mul_comm]; exact h')
    rw [toI, if_neg (by omega), Nat.mul_comm (i % (n / W)), Nat.mul_add_mod, Nat.mod_eq_of_lt h0, Nat.mul_add_div hW, Nat.div_eq_of_lt h0, Nat.add_zero, Nat.mul_comm]
    exact Nat.div_add_mod i (n / W)
end

theorem getD_ext (l m : List UInt8) (hn : l.length = m.length) (h : ∀ i, i < m.length → l.getD i 0 = m.getD i 0) : l = m := by
  apply List.ext_getElem hn
  intro i h1 h2
  have := h i h2
  simpa [List.getD_eq_getElem?_getD, h1, h2] using this
theorem join_split {W : Nat} (hW : 0 < W) (l : List UInt8) : joinL W (splitL W l) = l := by
  refine getD_ext _ _ (by rw [joinL_len, splitL_len]) fun i hi => ?_
  rw [joinL, moveL_get _ _ _ (by rw [splitL_len]; exact hi), splitL_len, splitL, moveL_get _ _ _ (toI_lt hW hi), from_to hW]
theorem split_join {W : Nat} (hW : 0 < W) (l : List UInt8) : splitL W (joinL W l) = l := by
  refine getD_ext _ _ (by rw [splitL_len, joinL_len]) fun i hi => ?_
  rw [splitL, moveL_get _ _ _ (by rw [joinL_len]; exact hi), joinL_len, joinL, moveL_get _ _ _ (fromI_lt hi), to_from hW]

/-- The row while it is filled: the first k places have what they shall. -/
def fillL (f : Nat → Nat) (l : List UInt8) (k : Nat) : List UInt8 := (List.range l.length).map fun i => if i < k then l.getD (f i) 0 else 0
theorem fillL_len (f : Nat → Nat) (l : List UInt8) (k : Nat) : (fillL f l k).length = l.length := by simp [fillL]
theorem fillL_all (f : Nat → Nat) (l : List UInt8) : fillL f l l.length = moveL f l := by
  unfold fillL moveL
  refine List.map_congr_left fun i hi => ?_
  rw [if_pos (List.mem_range.1 hi)]
theorem fillL_none (f : Nat → Nat) (l : List UInt8) : fillL f l 0 = List.replicate l.length 0 := by
  refine List.ext_getElem (by simp [fillL]) fun i h1 h2 => ?_
  simp [fillL]
theorem fillL_set (f : Nat → Nat) (l : List UInt8) (k : Nat) : (fillL f l k).set k (l.getD (f k) 0) = fillL f l (k + 1) := by
  refine List.ext_getElem (by simp [fillL]) fun i h1 h2 => ?_
  rw [List.getElem_set]
  by_cases e : k = i
  · subst e
    simp [fillL]
  · rw [if_neg e]
    simp only [fillL, List.getElem_map, List.getElem_range]
    by_cases h : i < k
    · rw [if_pos h, if_pos (by omega)]
    · rw [if_neg h, if_neg (by omega)]
end Go.Proofs.YtcenbaajojdjlaaGreatDoor
