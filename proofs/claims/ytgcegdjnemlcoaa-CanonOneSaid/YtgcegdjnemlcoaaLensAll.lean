/- Layer 20: the program's Of. -/
import Derived.Test.YtgcegdjnemlcoaaLensFn
import Derived.Deep.LoopGhost
namespace Go.Proofs.Ytgcegdjnemlcoaa
open Go.RowKit Go.Sort Go.Shelf

theorem lensWrong_any (x : Int) (w : World) : Calls Try.prog 22 #[.int .i64 x] w fun e w' => e = .returned (.bool (nBad x)) ∧ w' = w := by
  unfold nBad
  go_enter Try.func22, Try.ntmps22
  by_cases h : x < 0
  · rw [decide_eq_true h, Bool.true_or]
    go_wp2
    go_ret
    exact ⟨rfl, rfl⟩
  · rw [decide_eq_false h, Bool.false_or]
    go_wp2
    go_ret
    exact ⟨rfl, rfl⟩
def longB (x : Int) : Bool := decide (15 < x)
theorem lensLong_any (x : Int) (w : World) : Calls Try.prog 24 #[.int .i64 x] w fun e w' => e = .returned (.bool (longB x)) ∧ w' = w := by
  unfold longB
  go_enter Try.func24, Try.ntmps24
  go_wp2
  go_ret
  exact ⟨rfl, rfl⟩
theorem short_iff (o : List Int) : o.any longB = false ↔ Short o := by
  unfold Short
  rw [List.any_eq_false]
  constructor
  · intro h x hx
    have := h x hx
    simp [longB] at this
    exact this
  · intro h x hx
    have := h x hx
    simp [longB]
    omega
/-- Counts that may be. -/
def Good (c : List Int) : Prop := ∀ x ∈ c, 0 ≤ x ∧ x ≤ 1099511627776
theorem good_half {c : List Int} (h : Good c) : Good (c.map halfI) := fun x hx => by
  obtain ⟨y, hy, rfl⟩ := List.mem_map.1 hx
  have := h y hy
  have := half_le this.1
  omega
theorem good_bad {c : List Int} : c.any nBad = false ↔ Good c := by
  unfold Good
  rw [List.any_eq_false]
  constructor
  · intro h x hx
    have := h x hx
    simp [nBad] at this
    omega
  · intro h x hx
    have := h x hx
    simp [nBad]
    omega
theorem good_sum {c : List Int} (h : Good c) : 0 ≤ c.sum ∧ c.sum ≤ 1099511627776 * c.length := by
  induction c with
  | nil => simp
  | cons x c ih =>
    have h1 := ih fun y hy => h y (List.mem_cons_of_mem _ hy)
    have h2 := h x List.mem_cons_self
    rw [List.sum_cons, List.length_cons]
    omega
theorem LensV.rd {B : Nat} {o : List Int} {v : Value} {w : World} (h : LensV B o v w) : ∃ A n, v = .slice A n n ∧ o.length = n ∧ Rd w w.heap.size A (zvs o) := by
  obtain ⟨g, n, rfl, hn, -, hb⟩ := h
  exact ⟨_, n, rfl, hn.symm, Rd.of_blk hb⟩
theorem LensV.grow {B : Nat} {o : List Int} {v : Value} {w w' : World} (h : LensV B o v w) (hb : Below w.heap.size w w') : LensV B o v w' := by
  obtain ⟨g, n, rfl, hn, h1, h2⟩ := h
  exact ⟨g, n, rfl, hn, h1, h2.grow hb⟩
theorem LensV.more {B B' : Nat} {o : List Int} {v : Value} {w : World} (h : LensV B o v w) (hB : B' ≤ B) : LensV B' o v w := by
  obtain ⟨g, n, rfl, hn, h1, h2⟩ := h
  exact ⟨g, n, rfl, hn, by omega, h2⟩
/-- The halves of the first k. -/
def halfK (c : List Int) (k : Nat) : List Int := (c.take k).map halfI ++ List.replicate (c.length - k) 0
theorem halfK_zero (c : List Int) : halfK c 0 = List.replicate c.length 0 := by simp [halfK]
theorem halfK_all (c : List Int) : halfK c c.length = c.map halfI := by simp [halfK]
theorem halfK_len (c : List Int) {k : Nat} (h : k ≤ c.length) : (halfK c k).length = c.length := by simp [halfK]; omega
theorem halfK_set (c : List Int) {k : Nat} (h : k < c.length) : (halfK c k).set k (halfI c[k]) = halfK c (k + 1) := by
  unfold halfK
  have hl : ((c.take k).map halfI).length = k := by simp; omega
  rw [List.set_append_right _ _ (by omega), hl, Nat.sub_self, List.take_add_one, List.getElem?_eq_getElem h]
  have e : c.length - k = (c.length - (k + 1)) + 1 := by omega
  rw [e, List.replicate_succ, List.set_cons_zero, List.map_append, List.append_assoc]
  rfl
section
variable {w : World} {A : Option Addr} {n m : Nat} {c : List Int}
set_option maxHeartbeats 1000000 in
set_option maxRecDepth 100000 in
theorem lens_halves (hr : Rd w w.heap.size A (zvs c)) (hn : c.length = n) (hn1 : n ≤ 4096) (hc : Good c) :
    Calls Try.prog 25 #[.slice A n m] w fun e w' => ∃ v, e = .returned v ∧ LensV w.heap.size (c.map halfI) v w' ∧ Below w.heap.size w w' := by
  have hmk := fun W => make_eqI n (by omega) W
  have HR := Lib.hid hr
  have HC := Lib.hid hn
  have HX := Lib.hid hc
  clear hr hn hc
  go_enter Try.func25, Try.ntmps25
  go_wp2
  go_loopw [11] (fun i wr => ∃ k : Nat, k ≤ n ∧ i = .int .i64 (k : Int) ∧ Blk wr w.heap.size 3 (zvs (halfK c k)) ∧ Below w.heap.size w wr) (fun i _ => n - (intOf i).toNat)
  case atStart => exact ⟨0, Nat.zero_le _, rfl, by
    have := heap_alloc_new w (.cells (plv (List.replicate n 0)).toArray 3)
    unfold Blk
    rw [this, halfK_zero, HC.out]
    simp [plv], (Below.refl _ _).alloc (Nat.le_refl _) _⟩
  case round =>
    clear hmk
    obtain ⟨k, hk, rfl, hblk, hb⟩ := hrel
    have HBL := Lib.hid hblk
    have HB := Lib.hid hb
    by_cases hlt : k < n
    · have hkc : k < c.length := by have := HC.out; omega
      obtain ⟨b, off, rfl, -, hcell⟩ := cell_of_rd (HR.out.below hb) hkc
      have hx := HX.out _ (List.getElem_mem hkc)
      have hki : (k : Int) < (n : Int) := by omega
      have hset := hblk.set_ k (.int .i64 (halfI c[k]))
      rw [zvs_set, halfK_set c hkc] at hset
      have hck := hblk.cell k
      rw [zvs_at _ (by rw [halfK_len _ (by omega)]; exact hkc)] at hck
      have hfk := hblk.frozen k
      have hgs := hblk.lt
      have HB5 := Lib.hid (hb.setCell (p := ⟨w.heap.size, k, none⟩) (Nat.le_refl _) (.int .i64 (halfI c[k])))
      have e1 : (c[k] + 1).tdiv 2 = halfI c[k] := by unfold halfI; rw [Int.tdiv_eq_ediv_of_nonneg (by omega)]
      obtain ⟨y, hy⟩ : ∃ y, y = (halfK c k).getD k 0 := ⟨_, rfl⟩
      rw [← hy] at hck
      obtain ⟨h, hh⟩ : ∃ h, h = halfI c[k] := ⟨_, rfl⟩
      have hh2 := half_le hx.1
      rw [← hh] at hset HB5 e1 hh2
      obtain ⟨x, hxx⟩ : ∃ x, x = c[k]'hkc := ⟨_, rfl⟩
      rw [← hxx] at hcell hx e1 hh2
      have HS := Lib.hid hset
      clear hblk hb hset hy hh hxx HBL HB
      go_wp2
      go_roundw
      case rel => exact ⟨k + 1, by omega, by go_num, HS.out, HB5.out⟩
      case measure => simp [intOf]; omega
    · obtain rfl : k = n := by omega
      have hkl : c.length = k := HC.out
      rw [← hkl, halfK_all] at hblk
      have HEND := Lib.hid (show LensV w.heap.size (c.map halfI) (.slice (some ⟨w.heap.size, 0, none⟩) k k) wr from ⟨w.heap.size, k, rfl, by simp [hkl], Nat.le_refl _, hblk⟩)
      clear hblk hb hkl HBL
      go_wp2
      go_ret
      exact ⟨_, rfl, HEND.out, HB.out⟩
end
end Go.Proofs.Ytgcegdjnemlcoaa
