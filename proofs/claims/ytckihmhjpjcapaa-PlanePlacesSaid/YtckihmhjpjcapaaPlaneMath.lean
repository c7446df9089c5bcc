/- Plain mathematics of layer 8: where bytes of words go. -/
import Derived.Test.YtckihmhjpjcapaaWordBase
namespace Go.Proofs.Ytckihmhjpjcapaa

def toI (n W i : Nat) : Nat := if n / W * W ≤ i then i else i % W * (n / W) + i / W
def fromI (n W i : Nat) : Nat := if n / W * W ≤ i then i else i % (n / W) * W + i / (n / W)
/-- Each byte is the one at the place that its own is asked for. -/
def moveL (f : Nat → Nat) (l : List UInt8) : List UInt8 := (List.range l.length).map fun i => l.getD (f i) 0
def splitL (W : Nat) (l : List UInt8) : List UInt8 := moveL (fromI l.length W) l
def joinL (W : Nat) (l : List UInt8) : List UInt8 := moveL (toI l.length W) l
theorem moveL_len (f : Nat → Nat) (l : List UInt8) : (moveL f l).length = l.length := by simp [moveL]
theorem splitL_len (W : Nat) (l : List UInt8) : (splitL W l).length = l.length := moveL_len _ l
theorem joinL_len (W : Nat) (l : List UInt8) : (joinL W l).length = l.length := moveL_len _ l
theorem moveL_get (f : Nat → Nat) (l : List UInt8) (i : Nat) (h : i < l.length) : (moveL f l).getD i 0 = l.getD (f i) 0 := by
  simp [moveL, List.getD_eq_getElem?_getD, h]

theorem div_le' {n W : Nat} : n / W * W ≤ n := Nat.div_mul_le_self n W
theorem from_in {n W i : Nat} (h : i < n / W * W) : i % (n / W) * W + i / (n / W) < n / W * W := by
  have h0 : 0 < n / W := by
    rcases Nat.eq_zero_or_pos (n / W) with h0 | h0
    · rw [h0, Nat.zero_mul] at h; omega
    · exact h0
  have h1 : i / (n / W) < W := (Nat.div_lt_iff_lt_mul h0).2 (by rw [Nat.mul_comm]; exact h)
  have h2 : i % (n / W) + 1 ≤ n / W := Nat.mod_lt i h0
  have h3 := Nat.mul_le_mul_right W h2
  rw [Nat.add_mul, Nat.one_mul] at h3
  omega
theorem fromI_lt {n W i : Nat} (h : i < n) : fromI n W i < n := by
  unfold fromI
  split
  · exact h
  · have := from_in (n := n) (W := W) (i := i) (by omega)
    have := div_le' (n := n) (W := W)
    omega
section
variable {n W : Nat} (hW : 0 < W)
include hW
theorem to_in {i : Nat} (h : i < n / W * W) : i % W * (n / W) + i / W < n / W * W := by
  have h1 : i / W < n / W := (Nat.div_lt_iff_lt_mul hW).2 h
  have h2 : i % W + 1 ≤ W := Nat.mod_lt i hW
  have h3 := Nat.mul_le_mul_right (n / W) h2
  rw [Nat.add_mul, Nat.one_mul] at h3
  rw [Nat.mul_comm W] at h3
  omega
theorem toI_lt {i : Nat} (h : i < n) : toI n W i < n := by
  unfold toI
  split
  · exact h
  · have := to_in hW (n := n) (i := i) (by omega)
    have := div_le' (n := n) (W := W)
    omega
theorem from_to (i : Nat) : fromI n W (toI n W i) = i := by
  unfold toI
  split
  · rename_i h
    rw [fromI, if_pos h]
  · rename_i h
    have h' : i < n / W * W := by omega
    have h1 := to_in hW h'
    have h0 : i / W < n / W := (Nat.div_lt_iff_lt_mul hW).2 h'
    rw [fromI, if_neg (by omega), Nat.mul_comm (i % W), Nat.mul_add_mod, Nat.mod_eq_of_lt h0, Nat.mul_add_div (Nat.lt_of_le_of_lt (Nat.zero_le _) h0), Nat.div_eq_of_lt h0, Nat.add_zero, Nat.mul_comm]
    exact Nat.div_add_mod i W
theorem to_from (i : Nat) : toI n W (fromI n W i) = i := by
  unfold fromI
  split
  · rename_i h
    rw [toI, if_pos h]
  · rename_i h
    have h' : i < n / W * W := by omega
    have h1 := from_in h'
    have hq : 0 < n / W := by
      rcases Nat.eq_zero_or_pos (n / W) with h0 | h0
      · rw [h0, Nat.zero_mul] at h'; omega
      · exact h0
    have h0 : i / (n / W) < W := (Nat.div_lt_iff_lt_mul hq).2 (by rw [Nat.mul_comm]; exact h')
    rw [toI, if_neg (by omega), Nat.mul_comm (i % (n / W)), Nat.mul_add_mod, Nat.mod_eq_of_lt h0, Nat.mul_add_div hW, Nat.div_eq_of_lt h0, Nat.add_zero, Nat.mul_comm]
    exact Nat.div_add_mod i (n / W)
end

theorem getD_ext (l m : List UInt8) (hn : l.length = m.length) (h : ∀ i, i < m.length → l.getD i 0 = m.getD i 0) : l = m := by
  apply List.ext_getElem hn
  intro i h1 h2
  have := h i h2
  simpa [List.getD_eq_getElem?_getD, h1, h2] using this
theorem join_split {W : Nat} (hW : 0 < W) (l : List UInt8) : joinL W (splitL W l) = l := by
  refine getD_ext _ _ (by rw [joinL_len, splitL_len]) fun i hi => ?_
  rw [joinL, moveL_get _ _ _ (by rw [splitL_len]; exact hi), splitL_len, splitL, moveL_get _ _ _ (toI_lt hW hi), from_to hW]
theorem split_join {W : Nat} (hW : 0 < W) (l : List UInt8) : splitL W (joinL W l) = l := by
  refine getD_ext _ _ (by rw [splitL_len, joinL_len]) fun i hi => ?_
  rw [splitL, moveL_get _ _ _ (by rw [joinL_len]; exact hi), joinL_len, joinL, moveL_get _ _ _ (fromI_lt hi), to_from hW]

/-- The row while it is filled: the first k places have what they shall. -/
def fillL (f : Nat → Nat) (l : List UInt8) (k : Nat) : List UInt8 := (List.range l.length).map fun i => if i < k then l.getD (f i) 0 else 0
theorem fillL_len (f : Nat → Nat) (l : List UInt8) (k : Nat) : (fillL f l k).length = l.length := by simp [fillL]
theorem fillL_all (f : Nat → Nat) (l : List UInt8) : fillL f l l.length = moveL f l := by
  unfold fillL moveL
  refine List.map_congr_left fun i hi => ?_
  rw [if_pos (List.mem_range.1 hi)]
theorem fillL_none (f : Nat → Nat) (l : List UInt8) : fillL f l 0 = List.replicate l.length 0 := by
  refine List.ext_getElem (by simp [fillL]) fun i h1 h2 => ?_
  simp [fillL]
theorem fillL_set (f : Nat → Nat) (l : List UInt8) (k : Nat) : (fillL f l k).set k (l.getD (f k) 0) = fillL f l (k + 1) := by
  refine List.ext_getElem (by simp [fillL]) fun i h1 h2 => ?_
  rw [List.getElem_set]
  by_cases e : k = i
  · subst e
    simp [fillL]
  · rw [if_neg e]
    simp only [fillL, List.getElem_map, List.getElem_range]
    by_cases h : i < k
    · rw [if_pos h, if_pos (by omega)]
    · rw [if_neg h, if_neg (by omega)]
end Go.Proofs.Ytckihmhjpjcapaa
