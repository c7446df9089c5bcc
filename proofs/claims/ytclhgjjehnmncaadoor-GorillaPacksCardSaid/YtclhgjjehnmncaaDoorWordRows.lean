/- Rows of words, and words modulo what so many bytes hold: what the contracts of words lean on. -/
import Derived.Test.YtclhgjjehnmncaaDoorWordBase
import Derived.Test.YtclhgjjehnmncaaDoorArg
namespace Go.Proofs.YtclhgjjehnmncaaDoor
open Go.RowKit

/-- The first k words of what comes out. -/
def rowOf (f : Nat → Nat) (k : Nat) : List Nat := (List.range k).map f
theorem rowOf_len (f : Nat → Nat) (k : Nat) : (rowOf f k).length = k := by simp [rowOf]
theorem rowOf_snoc (f : Nat → Nat) (k : Nat) : rowOf f (k + 1) = rowOf f k ++ [f k] := by simp [rowOf, List.range_succ]
theorem rowOf_get (f : Nat → Nat) (k i : Nat) (h : i < k) : (rowOf f k).getD i 0 = f i := by
  simp [rowOf, List.getD_eq_getElem?_getD, h]
theorem rowOf_ext (f : Nat → Nat) (l : List Nat) (n : Nat) (hn : l.length = n) (h : ∀ i, i < n → f i = l.getD i 0) : rowOf f n = l := by
  apply List.ext_getElem?
  intro i
  by_cases hi : i < n
  · have := h i hi
    simp [rowOf, hi, this, List.getD_eq_getElem?_getD, hn]
  · rw [List.getElem?_eq_none (by rw [rowOf_len]; omega), List.getElem?_eq_none (by omega)]
theorem rowOf_congr (f g : Nat → Nat) (n : Nat) (h : ∀ i, i < n → f i = g i) : rowOf f n = rowOf g n :=
  rowOf_ext f _ n (rowOf_len g n) fun i hi => (h i hi).trans (rowOf_get g n i hi).symm

/-- Of a width that may be none. -/
def ofW (f : Nat → List Nat → List Nat) (W : Int) (l : List Nat) : List Nat := if rightB W then f W.toNat l else []
theorem getD_lt (l : List Nat) (B : Nat) (hB : 0 < B) (h : ∀ x ∈ l, x < B) (i : Nat) : l.getD i 0 < B := by
  rw [List.getD_eq_getElem?_getD]
  cases hi : l[i]? with
  | none => exact hB
  | some x => exact h x (List.mem_of_getElem? hi)
theorem isW_pow {W : Nat} (h : IsW W) : 256 ^ W = 256 ∨ 256 ^ W = 65536 ∨ 256 ^ W = 4294967296 ∨ 256 ^ W = 18446744073709551616 := by
  rcases h with rfl | rfl | rfl | rfl
  · exact .inl rfl
  · exact .inr (.inl rfl)
  · exact .inr (.inr (.inl rfl))
  · exact .inr (.inr (.inr rfl))
theorem rowOf_lt (f : Nat → Nat) (M n : Nat) (h : ∀ i, f i < M) : ∀ x ∈ rowOf f n, x < M := by
  intro x hx
  obtain ⟨i, _, rfl⟩ := List.mem_map.1 hx
  exact h i
theorem pow_pos' {W : Nat} : 0 < 256 ^ W := Nat.pow_pos (by decide)
theorem lt_64 {W : Nat} (hW : IsW W) {l : List Nat} (h : ∀ x ∈ l, x < 256 ^ W) : ∀ x ∈ l, x < 18446744073709551616 := fun x hx => by
  have := h x hx
  rcases isW_pow hW with e | e | e | e <;> rw [e] at this <;> omega

theorem fit_self {W : Nat} {l : List Nat} (h : ∀ x ∈ l, x < 256 ^ W) : l.map (· % 256 ^ W) = l := by
  have : l.map (· % 256 ^ W) = l.map id := List.map_congr_left fun x hx => Nat.mod_eq_of_lt (h x hx)
  rw [this, List.map_id]
theorem getD_map_mod (l : List Nat) (M i : Nat) : (l.map (· % M)).getD i 0 = l.getD i 0 % M := by
  simp only [List.getD_eq_getElem?_getD, List.getElem?_map]
  cases l[i]? <;> simp

/-- A block of one number. -/
def One (w : World) (g : Nat) (a : Nat) : Prop := Blk w g 34 [.int .u64 (a : Int)]
theorem One.cell {w : World} {g a : Nat} (h : One w g a) : w.cell? ⟨g, 0, none⟩ = some (.int .u64 (a : Int)) := Blk.cell h 0
theorem One.frozen {w : World} {g a : Nat} (h : One w g a) : w.frozen? ⟨g, 0, none⟩ = false := Blk.frozen h 0
theorem One.set_ {w : World} {g a : Nat} (h : One w g a) (b : Nat) : One (w.setCell ⟨g, 0, none⟩ (.int .u64 (b : Int))) g b := Blk.set_ h 0 _
theorem one_new (w : World) (a : Nat) : One (w.alloc (.cells #[.int .u64 (a : Int)] 34)) w.heap.size a := heap_alloc_new w _
theorem mask_and' (W x : Nat) (hW : IsW W) (hx : x < 18446744073709551616) : bits .and .u64 (x : Int) (maskN (W : Int) : Int) = ((x % 256 ^ W : Nat) : Int) := by
  have hm : maskN (W : Int) = 2 ^ (8 * W) - 1 := by
    unfold maskN
    rw [← hW.right, if_pos rfl, Int.toNat_natCast, Nat.pow_mul]
  have hp : (256 : Nat) ^ W = 2 ^ (8 * W) := by rw [Nat.pow_mul]
  have hle : 2 ^ (8 * W) ≤ 2 ^ 64 := Nat.pow_le_pow_right (by decide) (by have := hW.pos; omega)
  have h64 : (2 : Nat) ^ 64 = 18446744073709551616 := by decide
  have hpos : 0 < 2 ^ (8 * W) := Nat.pow_pos (by decide)
  rw [hm, u64_and_nat x _ hx (by omega), Nat.and_two_pow_sub_one_eq_mod, hp]
theorem mod_64 {W : Nat} (hW : IsW W) (x : Nat) : x % 18446744073709551616 % 256 ^ W = x % 256 ^ W := by
  rcases isW_pow hW with e | e | e | e <;> rw [e] <;> omega
theorem ofW_of {W : Nat} (hW : IsW W) (f : Nat → List Nat → List Nat) (l : List Nat) : ofW f (W : Int) l = f W l := by
  unfold ofW
  rw [← hW.right, if_pos rfl, Int.toNat_natCast]
theorem ofW_len {f : Nat → List Nat → List Nat} (h : ∀ W l, (f W l).length = l.length) (W : Int) (l : List Nat) : (ofW f W l).length ≤ l.length := by
  unfold ofW
  split
  · rw [h]; exact Nat.le_refl _
  · exact Nat.zero_le _
theorem ofW_lt {f : Nat → List Nat → List Nat} (h : ∀ W l, ∀ x ∈ f W l, x < 256 ^ W) (W : Int) (l : List Nat) : ∀ x ∈ ofW f W l, x < 18446744073709551616 := by
  unfold ofW
  split
  · rename_i hr
    obtain ⟨V, rfl, hV⟩ := isW_of hr
    rw [Int.toNat_natCast]
    exact lt_64 hV (h V l)
  · intro x hx; cases hx
/-- What holds at the head of a round that appends: the first k words are laid. -/
def RefRow (w : World) (f : Nat → Nat) (n : Nat) (v i : Value) (wr : World) : Prop :=
  ∃ k : Nat, k ≤ n ∧ i = .int .i64 k ∧ wr.ownsRow w.heap.size 34 1 v k (wvs (rowOf f k)) ∧ Below w.heap.size w wr
theorem wvs_snoc (l : List Nat) (v : Nat) : wvs (l ++ [v]) = wvs l ++ [.int .u64 (v : Int)] := wvs_append l [v]
theorem NewW.of_own {w w' : World} {v : Value} {l : List Nat} (h : w'.ownsRow w.heap.size 34 1 v l.length (wvs l)) (hb : Below w.heap.size w w') : NewW w l (.returned v) w' := by
  obtain ⟨A, c, rfl, hc, _⟩ := own_form h
  exact ⟨_, rfl, ⟨A, c, by rw [wvs_length], by rw [wvs_length]; exact hc, Rd.of_own h⟩, hb⟩
theorem cells_new (w : World) (ws : List Nat) (t : TypeId) : IsCells (wvs ws) (.slice (some ⟨w.heap.size, 0, none⟩) ws.length ws.length) (w.alloc (.cells (wvs ws).toArray t)) :=
  ⟨_, ws.length, by rw [wvs_length], by rw [wvs_length]; exact Nat.le_refl _, Rd.new w (wvs ws).toArray t⟩

theorem cells_row {w : World} {A : Option Addr} {n c : Nat} {ws : List Nat} (hr : Rd w w.heap.size A (wvs ws)) (hn : ws.length = n) (hnc : n ≤ c) : IsCells (wvs ws) (.slice A n c) w := by
  subst hn
  exact ⟨A, c, by rw [wvs_length], by rw [wvs_length]; exact hnc, hr⟩
theorem ofW_small {f : Nat → List Nat → List Nat} (h : ∀ W l, (f W l).length = l.length) (W : Int) (l : List Nat) (n : Nat) (hn : l.length ≤ n) : (ofW f W l).length ≤ n := Nat.le_trans (ofW_len h W l) hn
theorem cells_of_own {w : World} {base e : Nat} {v : Value} {ws : List Nat} (h : w.ownsRow base e 1 v ws.length (wvs ws)) : IsCells (wvs ws) v w := by
  obtain ⟨A, c, rfl, hc, _⟩ := own_form h
  exact ⟨A, c, by rw [wvs_length], by rw [wvs_length]; exact hc, Rd.of_own h⟩
theorem mask_is (W : Nat) (hW : IsW W) : maskN (W : Int) = 256 ^ W - 1 := by
  unfold maskN
  rw [← hW.right, if_pos rfl, Int.toNat_natCast]
end Go.Proofs.YtclhgjjehnmncaaDoor
