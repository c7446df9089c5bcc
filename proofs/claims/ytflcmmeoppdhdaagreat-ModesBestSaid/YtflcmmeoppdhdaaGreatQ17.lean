/-
  Layer 20, plain: of lens their Kraft sum, and which are noughts. · Layer 21: of bits: whose code is ahead. · Layer 14: Count, of both. · Layer 20: the program's Of and Cost. · Plain mathematics of layer 20: the reference's rounds. · Layer 20: the reference's things, and the least of them.
-/
import Derived.Test.YtflcmmeoppdhdaaGreatQ03
import Derived.Test.YtflcmmeoppdhdaaGreatQ10
import Derived.Test.YtflcmmeoppdhdaaGreatQ11
import Derived.Test.YtflcmmeoppdhdaaGreatQ12
import Derived.Test.YtflcmmeoppdhdaaGreatQ15
import Derived.Test.YtflcmmeoppdhdaaGreatQ16
import Derived.Shelf.Abstract
namespace Go.Proofs.YtflcmmeoppdhdaaGreat

theorem LensOfR.len {c o : List Int} (h : LensOfR c o) : o.length = c.length := by
  induction h with
  | done c o h hs => exact h.len
  | half c o r h hs hr ih => rw [ih, List.length_map]
def posBL (x : Int) : Bool := decide (0 < x)
theorem posL_many (c : List Int) : (posL c).length = (c.map posBL).countP id := by
  unfold posL posBL
  induction c with
  | nil => rfl
  | cons x c ih =>
    rw [List.map_cons, List.countP_cons, ← ih]
    by_cases h : 0 < x <;> simp [h]
theorem lens_end {c o : List Int} (h : LensOfR c o) : (∀ x ∈ c, 0 ≤ x) → ∃ c', DeepR c' o ∧ Short o ∧ (∀ x ∈ c', 0 ≤ x) ∧ c'.map posBL = c.map posBL := by
  induction h with
  | done c o h hs => exact fun hc => ⟨c, h, hs, hc, rfl⟩
  | half c o r h hs hr ih =>
    intro hc
    obtain ⟨c', h1, h2, h3, h4⟩ := ih fun x hx => by
      obtain ⟨y, hy, rfl⟩ := List.mem_map.1 hx
      exact (half_le (hc y hy)).1
    refine ⟨c', h1, h2, h3, ?_⟩
    rw [h4, List.map_map]
    refine List.map_congr_left fun x hx => ?_
    have := hc x hx
    show posBL (halfI x) = posBL x
    unfold posBL
    exact decide_eq_decide.2 (by unfold halfI; omega)
theorem deep_at {c o : List Int} (h : DeepR c o) {k : Nat} (hk : k < o.length) : ∃ d : Nat, o[k] = (d : Int) ∧ (d = 0 ↔ (c.map posBL)[k]? = some false) := by
  have hl := h.len
  obtain ⟨g, -, rfl⟩ := h
  have hk' : k < c.length := by omega
  have h1 := lensF_get g.d c 0 k hk'
  rw [List.getElem?_eq_getElem hk] at h1
  injection h1 with h1
  rw [h1, List.getElem?_map, List.getElem?_eq_getElem hk']
  by_cases e : 0 < c[k]
  · exact ⟨_, if_pos e, by simp [posBL, e]⟩
  · exact ⟨0, if_neg e, by simp [posBL, e]⟩
/-- Of lens: none too long, and 0 just where there is nothing. -/
theorem lens_at {c o : List Int} (h : LensOfR c o) (hc : ∀ x ∈ c, 0 ≤ x) {k : Nat} (hk : k < o.length) (hk' : k < c.length) : 0 ≤ o[k] ∧ o[k] ≤ 15 ∧ (o[k] = 0 ↔ c[k] = 0) := by
  obtain ⟨c', h1, h2, -, h4⟩ := lens_end h hc
  obtain ⟨d, hd, hz⟩ := deep_at h1 hk
  have h5 := h2 _ (List.getElem_mem hk)
  have h6 := hc _ (List.getElem_mem hk')
  rw [h4, List.getElem?_map, List.getElem?_eq_getElem hk'] at hz
  simp only [Option.map_some, Option.some.injEq, posBL, decide_eq_false_iff_not] at hz
  omega
def bitK (d : Nat) : Nat := if 1 ≤ max d 1 ∧ max d 1 ≤ 15 then 2 ^ (15 - max d 1) else 0
theorem allOf_head (v : Nat → Nat) : ∀ k, allOf v (k + 1) = v 0 + allOf (fun i => v (i + 1)) k
  | 0 => by simp [allOf]
  | k + 1 => by
    rw [allOf, allOf_head v k, allOf]
    omega
theorem kraft_lensF (d : Nat → Nat) : ∀ (c : List Int) (j : Nat), kraftI (lensF d c j) = allOf (fun i => bitK (d (j + i))) (posL c).length
  | [], _ => rfl
  | x :: c, j => by
    unfold lensF posL
    by_cases h : 0 < x
    · rw [if_pos h, List.filter_cons_of_pos (by simpa using h), List.length_cons, allOf_head]
      have ih := kraft_lensF d c (j + 1)
      unfold kraftI kraftL posL at *
      rw [List.map_cons, List.map_cons, List.sum_cons, ih, Int.toNat_natCast]
      simp only [Nat.add_assoc, Nat.add_comm 1]
      rfl
    · rw [if_neg h, List.filter_cons_of_neg (by simpa using h)]
      have ih := kraft_lensF d c j
      unfold kraftI kraftL posL at *
      rw [List.map_cons, List.map_cons, List.sum_cons, ih]
      simp
theorem allOf_congr {u v : Nat → Nat} : ∀ k, (∀ i, i < k → u i = v i) → allOf u k = allOf v k
  | 0, _ => rfl
  | k + 1, h => by rw [allOf, allOf, allOf_congr k fun i hi => h i (by omega), h k (by omega)]
theorem one_deep {w : Nat → Nat} {g : For} (h : Huff (For.start 1 w) g) : g.d 0 = 0 := by
  cases h with
  | last => rfl
  | join _ _ a b ha hb hr =>
    have h1 := (start_ok 1 w).less a ha.1
    have h2 := (start_ok 1 w).less b hb.1.1
    have h3 : (For.start 1 w).N = 1 := rfl
    exact absurd (show b = a by omega) hb.1.2
theorem deep_small {c : List Int} {d : Nat → Nat} (hs : Short (lensF d c 0)) {i : Nat} (hi : i < (posL c).length) : max (d i) 1 ≤ 15 := by
  have key : ∀ (c : List Int) (j i : Nat), i < (posL c).length → ((max (d (j + i)) 1 : Nat) : Int) ∈ lensF d c j := by
    intro c
    induction c with
    | nil => intro j i h; simp [posL] at h
    | cons x c ih =>
      intro j i h
      unfold lensF
      unfold posL at h ih
      by_cases hx : 0 < x
      · rw [if_pos hx]
        rw [List.filter_cons_of_pos (by simpa using hx), List.length_cons] at h
        cases i with
        | zero => exact List.mem_cons_self
        | succ i =>
          have := ih (j + 1) i (by omega)
          rw [show j + 1 + i = j + (i + 1) by omega] at this
          exact List.mem_cons_of_mem _ this
      · rw [if_neg hx]
        rw [List.filter_cons_of_neg (by simpa using hx)] at h
        exact List.mem_cons_of_mem _ (ih j i h)
  have := hs _ (key c 0 i hi)
  rw [Nat.zero_add] at this
  omega
/-- The sum of lens: none, half of all codes, all codes. -/
theorem lens_kraft {c o : List Int} (h : LensOfR c o) (hc : ∀ x ∈ c, 0 ≤ x) :
    ((posL c).length = 0 → kraftI o = 0) ∧ ((posL c).length = 1 → kraftI o = 16384) ∧ (2 ≤ (posL c).length → kraftI o = 32768) := by
  obtain ⟨c', h1, h2, -, h4⟩ := lens_end h hc
  rw [posL_many, ← h4, ← posL_many]
  obtain ⟨g, hg, rfl⟩ := h1
  rw [kraft_lensF]
  refine ⟨fun e => by rw [e]; rfl, fun e => ?_, fun e => ?_⟩
  · rw [e] at hg ⊢
    have := one_deep hg
    simp only [allOf, Nat.zero_add, this]
    decide
  · have hd := huff_deep hg e
    have h15 : ∀ j, j < (posL c').length → g.d j ≤ 15 := fun j hj => by have := deep_small h2 hj; omega
    have := huff_kraft hg (by omega) h15
    rw [← (by decide : 2 ^ 15 = 32768), ← this]
    refine allOf_congr _ fun i hi => ?_
    have q1 := hd i hi
    have q2 := h15 i hi
    unfold bitK
    rw [Nat.zero_add, show max (g.d i) 1 = g.d i by omega, if_pos ⟨q1, q2⟩]
end Go.Proofs.YtflcmmeoppdhdaaGreat
namespace Go.Proofs.YtflcmmeoppdhdaaGreat
open Go.RowKit Go.Sort Go.Shelf

/-- Lens are whole where there is a letter. -/
theorem lens_whole {c o : List Int} (h : LensOfR c o) (hc : ∀ x ∈ c, 0 ≤ x) (h1 : 1 ≤ (posL c).length) : WholeC o := by
  obtain ⟨c', q1, q2, -, q4⟩ := lens_end h hc
  by_cases h2 : 2 ≤ (posL c).length
  · exact .inl ((lens_kraft h hc).2.2 h2)
  · right
    have e : (posL c').length = 1 := by rw [posL_many, q4, ← posL_many]; omega
    obtain ⟨g, hg, rfl⟩ := q1
    rw [e] at hg
    have hd := one_deep hg
    have key : ∀ (c : List Int) (j : Nat), posL (lensF g.d c j) = (List.range (posL c).length).map fun i => ((max (g.d (j + i)) 1 : Nat) : Int) := by
      intro c
      induction c with
      | nil => intro j; rfl
      | cons x c ih =>
        intro j
        unfold lensF
        by_cases hx : 0 < x
        · rw [if_pos hx]
          unfold posL at ih ⊢
          rw [List.filter_cons_of_pos (by simp; omega), List.filter_cons_of_pos (by simpa using hx), ih, List.length_cons, List.range_succ_eq_map, List.map_cons, List.map_map]
          congr 1
          refine List.map_congr_left fun i _ => ?_
          simp only [Function.comp]
          rw [show j + 1 + i = j + (i + 1) by omega]
        · rw [if_neg hx]
          unfold posL at ih ⊢
          rw [List.filter_cons_of_neg (by decide), List.filter_cons_of_neg (by simpa using hx), ih]
    rw [key, e]
    simp [List.range_succ, hd]
theorem lens_ok {c o : List Int} (h : LensOfR c o) (hc : ∀ x ∈ c, 0 ≤ x) : o.any cBad = false := by
  rw [cBad_none]
  intro x hx
  obtain ⟨i, hi, rfl⟩ := List.getElem_of_mem hx
  have := lens_at h hc hi (by rw [← h.len]; exact hi)
  exact ⟨this.1, this.2.1⟩
end Go.Proofs.YtflcmmeoppdhdaaGreat
namespace Go.Proofs.YtflcmmeoppdhdaaGreat
open Go.RowKit Go.Sort Go.Shelf

section
variable {w : World} {A : Option Addr} {n m : Nat} {l : List UInt8}
set_option maxHeartbeats 1000000 in
set_option maxRecDepth 100000 in
theorem normCount_any (hr : Rd w w.heap.size A (bvs l)) (hn : l.length = n) (hn1 : n ≤ 1000000) :
    Calls Tryz.prog 77 #[.slice A n m] w fun e w' => ∃ g, e = .returned (.slice (some ⟨g, 0, none⟩) (256 : Nat) 256) ∧ w.heap.size ≤ g ∧ Blk w' g 3 (zvs (cntL l)) ∧ Below w.heap.size w w' := by
  obtain ⟨i0, hi, hz0, hz1, hz2⟩ := info_parts info_int12
  have HR := Lib.hid hr
  have HC := Lib.hid hn
  clear hr hn
  go_enter Tryz.func77, Tryz.ntmps77
  go_wp2_with (at_make; go_must (refine wpList_mk rfl (.const (.int .i64 256)) (.const (.int .i64 256)) 53 rfl w.heap.size 3 i0 (.int .i64 0) 8 Tryz.underlying53 hi hz0 rfl hz1 hz2 .i64 .i64 _ _ rfl rfl 256 256 rfl rfl (Nat.le_refl _) (by omega) (by simp only [maxLen]; omega) (Nat.le_refl _) ?_; intro w1 hg1 hown1 hgr1; have hb : Below w.heap.size w w1 := (Below.refl _ _).grown hgr1 (Nat.le_refl _) (by simp)))
  have hk1 : Blk w1 w.heap.size 3 (zvs (cntL (l.take 0))) := by
    unfold Blk; rw [hg1, List.take_zero]; simp [zvs, cntL]
  have HK1 := Lib.hid hk1
  have HB1 := Lib.hid hb
  obtain ⟨g, hg⟩ : ∃ g, g = w.heap.size := ⟨_, rfl⟩
  rw [← hg] at HK1
  simp only [← hg]
  have HG := Lib.hid hg
  clear hk1 hb hg hown1 hgr1 hg1
  go_loopw [9] (fun i wr => ∃ k : Nat, k ≤ n ∧ i = .int .i64 (k : Int) ∧ Blk wr g 3 (zvs (cntL (l.take k))) ∧ Below w.heap.size w wr) (fun i _ => n - (intOf i).toNat)
  case atStart => exact ⟨0, Nat.zero_le _, rfl, HK1.out, HB1.out⟩
  case round =>
    clear HK1 HB1
    obtain ⟨k, hk, rfl, hblk, hb⟩ := hrel
    have HB := Lib.hid hb
    clear hb
    by_cases hlt : k < n
    · have hkl : k < l.length := by have := HC.out; omega
      obtain ⟨ab, ao, rfl, hab, hcell0⟩ := HR.out k _ (bvs_get l k hkl)
      have hcell := (HB.out.cell (p := ⟨ab, ao + k, none⟩) hab).trans hcell0
      have hst := cntL_take l hkl
      have hx1 : l[k].toNat < 256 := l[k].toNat_lt
      have hlc := cntL_len (l.take k)
      have hle := cntL_le (l.take k)
      obtain ⟨C, hC⟩ : ∃ C, C = cntL (l.take k) := ⟨_, rfl⟩
      rw [← hC] at hblk hst hlc hle
      unfold cntStep at hst
      obtain ⟨x, hx⟩ : ∃ x, x = l[k].toNat := ⟨_, rfl⟩
      rw [← hx] at hcell hst hx1
      have hxc : x < C.length := by omega
      have e : C.getD x 0 = C[x] := by simp [List.getD_eq_getElem?_getD, hxc]
      rw [e] at hst
      have hy := hle _ (List.getElem_mem hxc)
      have hgc := hblk.cell x
      have hgf := hblk.frozen x
      rw [zvs_get, List.getElem?_eq_getElem hxc] at hgc
      obtain ⟨y, hyy⟩ : ∃ y, y = C[x]'hxc := ⟨_, rfl⟩
      rw [← hyy] at hgc hst hy
      simp only [Option.map_some] at hgc
      rw [List.length_take] at hy
      obtain ⟨hy0, hy1⟩ := hy
      have hy2 : y ≤ 1000000 := by omega
      have hki : (k : Int) < (n : Int) := by omega
      have hxi : (x : Int) < 256 := by omega
      have hset := hblk.set_ x (.int .i64 (y + 1))
      rw [zvs_set, ← hst] at hset
      have HSET := Lib.hid hset
      have HB2 := Lib.hid (HB.out.setCell (p := ⟨g, x, none⟩) (by rw [HG.out]; exact Nat.le_refl _) (.int .i64 (y + 1)))
      clear hcell0 hst hlc hle hC hx e hyy hy1 hset hblk hxc
      go_wp2
      go_roundw
      case rel => exact ⟨k + 1, by omega, by go_num, HSET.out, HB2.out⟩
      case measure => simp [intOf]; omega
    · obtain rfl : k = n := by omega
      rw [List.take_of_length_le (by have := HC.out; omega)] at hblk
      have HBL := Lib.hid hblk
      clear hblk
      go_wp2
      go_ret
      exact ⟨g, rfl, by rw [HG.out]; exact Nat.le_refl _, HBL.out, HB.out⟩
set_option maxHeartbeats 1000000 in
set_option maxRecDepth 100000 in
theorem rnCount_any (hr : Rd w w.heap.size A (bvs l)) (hn : l.length = n) (hn1 : n ≤ 1000000) :
    Calls Tryz.prog 30 #[.slice A n m] w fun e w' => ∃ g, e = .returned (.slice (some ⟨g, 0, none⟩) (256 : Nat) 256) ∧ w.heap.size ≤ g ∧ Blk w' g 3 (zvs (cntL l)) ∧ Below w.heap.size w w' := by
  obtain ⟨i0, hi, hz0, hz1, hz2⟩ := info_parts info_int12
  have HR := Lib.hid hr
  have HC := Lib.hid hn
  clear hr hn
  go_enter Tryz.func30, Tryz.ntmps30
  go_wp2_with (at_make; go_must (refine wpList_mk rfl (.const (.int .i64 256)) (.const (.int .i64 256)) 53 rfl w.heap.size 3 i0 (.int .i64 0) 8 Tryz.underlying53 hi hz0 rfl hz1 hz2 .i64 .i64 _ _ rfl rfl 256 256 rfl rfl (Nat.le_refl _) (by omega) (by simp only [maxLen]; omega) (Nat.le_refl _) ?_; intro w1 hg1 hown1 hgr1; have hb : Below w.heap.size w w1 := (Below.refl _ _).grown hgr1 (Nat.le_refl _) (by simp)))
  have hk1 : Blk w1 w.heap.size 3 (zvs (cntL (l.take 0))) := by
    unfold Blk; rw [hg1, List.take_zero]; simp [zvs, cntL]
  have HK1 := Lib.hid hk1
  have HB1 := Lib.hid hb
  obtain ⟨g, hg⟩ : ∃ g, g = w.heap.size := ⟨_, rfl⟩
  rw [← hg] at HK1
  simp only [← hg]
  have HG := Lib.hid hg
  clear hk1 hb hg hown1 hgr1 hg1
  go_loopw [4] (fun i wr => ∃ k : Nat, k ≤ n ∧ i = .int .i64 (k : Int) ∧ Blk wr g 3 (zvs (cntL (l.take k))) ∧ Below w.heap.size w wr) (fun i _ => n - (intOf i).toNat)
  case atStart => exact ⟨0, Nat.zero_le _, rfl, HK1.out, HB1.out⟩
  case round =>
    clear HK1 HB1
    obtain ⟨k, hk, rfl, hblk, hb⟩ := hrel
    have HB := Lib.hid hb
    clear hb
    by_cases hlt : k < n
    · have hkl : k < l.length := by have := HC.out; omega
      obtain ⟨ab, ao, rfl, hab, hcell0⟩ := HR.out k _ (bvs_get l k hkl)
      have hcell := (HB.out.cell (p := ⟨ab, ao + k, none⟩) hab).trans hcell0
      have hst := cntL_take l hkl
      have hx1 : l[k].toNat < 256 := l[k].toNat_lt
      have hlc := cntL_len (l.take k)
      have hle := cntL_le (l.take k)
      obtain ⟨C, hC⟩ : ∃ C, C = cntL (l.take k) := ⟨_, rfl⟩
      rw [← hC] at hblk hst hlc hle
      unfold cntStep at hst
      obtain ⟨x, hx⟩ : ∃ x, x = l[k].toNat := ⟨_, rfl⟩
      rw [← hx] at hcell hst hx1
      have hxc : x < C.length := by omega
      have e : C.getD x 0 = C[x] := by simp [List.getD_eq_getElem?_getD, hxc]
      rw [e] at hst
      have hy := hle _ (List.getElem_mem hxc)
      have hgc := hblk.cell x
      have hgf := hblk.frozen x
      rw [zvs_get, List.getElem?_eq_getElem hxc] at hgc
      obtain ⟨y, hyy⟩ : ∃ y, y = C[x]'hxc := ⟨_, rfl⟩
      rw [← hyy] at hgc hst hy
      simp only [Option.map_some] at hgc
      rw [List.length_take] at hy
      obtain ⟨hy0, hy1⟩ := hy
      have hy2 : y ≤ 1000000 := by omega
      have hki : (k : Int) < (n : Int) := by omega
      have hxi : (x : Int) < 256 := by omega
      have hset := hblk.set_ x (.int .i64 (y + 1))
      rw [zvs_set, ← hst] at hset
      have HSET := Lib.hid (hset.same (w' := (wr.setCell ⟨g, x, none⟩ (.int .i64 (y + 1))).drew) rfl)
      have HB2 := Lib.hid (HB.out.setCell (p := ⟨g, x, none⟩) (by rw [HG.out]; exact Nat.le_refl _) (.int .i64 (y + 1))).drew
      clear hcell0 hst hlc hle hC hx e hyy hy1 hset hblk hxc
      go_wp2
      refine wp_region_still_tail 14 (by kernel_rfl) (by kernel_rfl) ?_
      simp only [List.take_succ_cons, List.take_zero, List.drop_succ_cons, List.drop_zero]
      repeat still_step
      refine wpStill_nil ?_
      change wpList _ _ _ _ _ wr.drew
      go_wp2
      go_roundw
      case rel => exact ⟨k + 1, by omega, by go_num, HSET.out, HB2.out⟩
      case measure => simp [intOf]; omega
    · obtain rfl : k = n := by omega
      rw [List.take_of_length_le (by have := HC.out; omega)] at hblk
      have HBL := Lib.hid hblk
      clear hblk
      go_wp2
      go_ret
      exact ⟨g, rfl, by rw [HG.out]; exact Nat.le_refl _, HBL.out, HB.out⟩
end
end Go.Proofs.YtflcmmeoppdhdaaGreat
namespace Go.Proofs.YtflcmmeoppdhdaaGreat
open Go.RowKit Go.Sort Go.Shelf

section
variable {w : World} {A : Option Addr} {n m : Nat} {c : List Int}
set_option maxHeartbeats 2000000 in
set_option maxRecDepth 100000 in
theorem lens_Of (hr : Rd w w.heap.size A (zvs c)) (hn : c.length = n) (hn1 : n ≤ 1500) (hc : Good c) :
    Calls Tryz.prog 96 #[.slice A n m] w fun e w' => ∃ v out, e = .returned v ∧ LensOfR c out ∧ LensV w.heap.size out v w' ∧ Below w.heap.size w w' := by
  have hsum : ∀ {c' : List Int}, Good c' → c'.length = n → c'.sum ≤ 9007199254740992 := fun {c'} h1 h2 => by have := good_sum h1; omega
  have C := Lib.hid (contains_any (m := m) (w := w) 153 nBad (enters_of Tryz.func153 (by kernel_rfl) rfl) (fun x W => lensWrong_any x W) hr hn (by omega))
  rw [good_bad.2 hc] at C
  have D := Lib.hid (fun (W : World) (A' : Option Addr) (m' : Nat) (c' : List Int) (h1 : Rd W W.heap.size A' (zvs c')) (h2 : c'.length = n) (h3 : Good c') => lens_lensOf (m := m') (w := W) h1 h2 (by omega) h3 (hsum h3 h2))
  have E := Lib.hid (fun (W : World) (A' : Option Addr) (m' n' : Nat) (o : List Int) (h1 : Rd W W.heap.size A' (zvs o)) (h2 : o.length = n') (h3 : n' ≤ 4096) => contains_any (m := m') (w := W) 155 longB (enters_of Tryz.func155 (by kernel_rfl) rfl) (fun x W => lensLong_any x W) h1 h2 h3)
  have F := Lib.hid (fun (W : World) (A' : Option Addr) (m' : Nat) (c' : List Int) (h1 : Rd W W.heap.size A' (zvs c')) (h2 : c'.length = n) (h3 : Good c') => lens_halves (m := m') (w := W) h1 h2 (by omega) h3)
  have HR := Lib.hid hr
  have HC := Lib.hid (And.intro hn hc)
  have hn4 : n ≤ 4096 := by omega
  clear hr hn hc hsum
  go_enter Tryz.func96, Tryz.ntmps96
  go_wp2_with fail
  refine C.out.mono ?_
  rintro _ w1 ⟨rfl, hw⟩
  subst w1
  clear C
  go_wp2_with fail
  refine (D.out w A m c HR.out HC.out.1 HC.out.2).mono ?_
  rintro _ w2 ⟨v2, o2, rfl, hd2, hl2, hb2⟩
  have HST := Lib.hid (And.intro hd2 (And.intro hl2 hb2))
  clear hd2 hl2 hb2
  go_wp2
  go_loopg [0, 3] (c.sum.toNat) (fun gg s0 s3 wr => ∃ (A' : Option Addr) (m' : Nat) (c' o : List Int), s0 = .slice A' n m' ∧ Rd wr wr.heap.size A' (zvs c') ∧ c'.length = n ∧ Good c' ∧ DeepR c' o ∧ LensV w.heap.size o s3 wr ∧ (∀ r, LensOfR c' r → LensOfR c r) ∧ Below w.heap.size w wr ∧ c'.sum.toNat = gg)
  case atStart => exact ⟨A, m, c, o2, rfl, (HR.out.below HST.out.2.2).more HST.out.2.2.size, HC.out.1, HC.out.2, HST.out.1, HST.out.2.1, fun _ h => h, HST.out.2.2, rfl⟩
  case round =>
    clear HST
    obtain ⟨A', m', c', o, rfl, hr', hn', hg', hd', hl', hway, hb', hgg⟩ := hrel
    obtain ⟨A3, n3, rfl, hn3, hr3⟩ := hl'.rd
    have hn34 : n3 ≤ 4096 := by rw [← hn3, hd'.len, hn']; exact hn4
    have E1 := Lib.hid (E.out wr A3 n3 n3 o hr3 hn3 hn34)
    have F1 := Lib.hid (F.out wr A' m' c' hr' hn' hg')
    have HREL := Lib.hid (And.intro hn' (And.intro hg' (And.intro hd' (And.intro hl' (And.intro hway (And.intro hb' hgg))))))
    obtain ⟨b, hb⟩ : ∃ b, b = o.any longB := ⟨_, rfl⟩
    rw [← hb] at E1
    have HBB := Lib.hid hb
    clear hr' hn' hg' hd' hl' hway hb' hgg hr3 hn3 hb
    cases b with
    | false =>
      have HEND := Lib.hid (HREL.out.2.2.2.2.1 o (.done c' o HREL.out.2.2.1 ((short_iff o).1 HBB.out.symm)))
      go_wp2_with fail
      refine E1.out.mono ?_
      rintro _ w1 ⟨rfl, hw⟩
      subst w1
      go_wp2
      go_ret
      exact ⟨_, o, rfl, HEND.out, HREL.out.2.2.2.1, HREL.out.2.2.2.2.2.1⟩
    | true =>
      have hns : ¬ Short o := fun hs => by
        have := (short_iff o).2 hs
        rw [← HBB.out] at this; cases this
      have HNS := Lib.hid (And.intro hns (deep_less HREL.out.2.2.1 (fun x hx => (HREL.out.2.1 x hx).1) (by rw [HREL.out.1]; exact hn1) hns))
      clear hns
      go_wp2_with fail
      refine E1.out.mono ?_
      rintro _ w1 ⟨rfl, hw⟩
      subst w1
      clear E1
      go_wp2_with fail
      refine F1.out.mono ?_
      rintro _ w4 ⟨v4, rfl, hl4, hb4⟩
      obtain ⟨A4, n4, rfl, hn4', hr4⟩ := hl4.rd
      have hlen4 : (c'.map halfI).length = n := by rw [List.length_map]; exact HREL.out.1
      obtain rfl : n = n4 := by omega
      have G := Lib.hid (D.out w4 A4 n (c'.map halfI) hr4 hlen4 (good_half HREL.out.2.1))
      have HB4 := Lib.hid (HREL.out.2.2.2.2.2.1.trans (hb4.mono HREL.out.2.2.2.2.2.1.size))
      have HR4 := Lib.hid hr4
      have HL4 := Lib.hid hlen4
      clear hl4 hb4 hn4' hr4 F1 hlen4
      go_wp2_with fail
      refine G.out.mono ?_
      rintro _ w5 ⟨v5, o5, rfl, hd5, hl5, hb5⟩
      have HEND := Lib.hid (And.intro (hl5.more (HB4.out.size)) (And.intro hd5 (And.intro (HB4.out.trans (hb5.mono HB4.out.size)) ((HR4.out.below hb5).more hb5.size))))
      clear hd5 hl5 hb5
      go_wp2
      go_roundg ((c'.map halfI).sum.toNat)
      case measure =>
        have h1 := HNS.out.2
        have h2 := (good_sum (good_half HREL.out.2.1)).1
        have h3 := HREL.out.2.2.2.2.2.2
        omega
      case rel => exact ⟨A4, n, c'.map halfI, o5, rfl, HEND.out.2.2.2, HL4.out, good_half HREL.out.2.1, HEND.out.2.1, HEND.out.1, fun r hr => HREL.out.2.2.2.2.1 r (.half c' o r HREL.out.2.2.1 HNS.out.1 hr), HEND.out.2.2.1, rfl⟩
end
end Go.Proofs.YtflcmmeoppdhdaaGreat
namespace Go.Proofs.YtflcmmeoppdhdaaGreat

/-- The depths of letters, noughts of those that are not there. -/
def outF (d : Nat → Nat) (c : List Int) : List Int := (List.range c.length).map fun i => if 0 < c.getD i 0 then (d (rankL c i) : Int) else 0
theorem outF_len (d : Nat → Nat) (c : List Int) : (outF d c).length = c.length := by simp [outF]
theorem getD_ltL {c : List Int} {i : Nat} (h : i < c.length) : c.getD i 0 = c[i] := by simp [List.getD_eq_getElem?_getD, h]
theorem outF_get (d : Nat → Nat) (c : List Int) {i : Nat} (h : i < c.length) : (outF d c)[i]? = some (if 0 < c[i] then (d (rankL c i) : Int) else 0) := by
  simp [outF, h]
theorem outF_zero (c : List Int) : outF (fun _ => 0) c = List.replicate c.length 0 := by
  apply List.ext_getElem (by simp [outF])
  intro i h1 h2
  simp [outF]
/-- Is the letter at place i under thing k? -/
def Under (c : List Int) (f : For) (k i : Nat) : Prop := i < c.length ∧ 0 < c.getD i 0 ∧ f.root (rankL c i) = k
/-- Ones more at the places bs. -/
def incF (o : List Int) (bs : List Nat) : List Int := (List.range o.length).map fun i => o.getD i 0 + if i ∈ bs then 1 else 0
theorem incF_len (o : List Int) (bs : List Nat) : (incF o bs).length = o.length := by simp [incF]
theorem incF_nil (o : List Int) : incF o [] = o := by
  apply List.ext_getElem (by simp [incF])
  intro i h1 h2
  simp only [incF, List.getElem_map, List.getElem_range, List.not_mem_nil, if_false, Int.add_zero]
  exact getD_ltL h2
theorem incF_get (o : List Int) (bs : List Nat) {i : Nat} (h : i < o.length) : (incF o bs).getD i 0 = o.getD i 0 + if i ∈ bs then 1 else 0 := by
  simp [incF, List.getD_eq_getElem?_getD, h]
theorem incF_step (o : List Int) (bs : List Nat) (hb : bs.Nodup) {k : Nat} (hk : k < bs.length) (hi : bs[k] < o.length) :
    (incF o (bs.take k)).getD (bs[k]) 0 = o.getD (bs[k]) 0 ∧ (incF o (bs.take k)).set (bs[k]) (o.getD (bs[k]) 0 + 1) = incF o (bs.take (k + 1)) := by
  have hn : bs[k] ∉ bs.take k := fun h => by
    obtain ⟨j, hj, e⟩ := List.mem_iff_getElem.1 h
    rw [List.length_take] at hj
    rw [List.getElem_take] at e
    have := (List.getElem_inj hb).1 e
    omega
  refine ⟨by rw [incF_get _ _ hi, if_neg hn, Int.add_zero], ?_⟩
  apply List.ext_getElem (by simp [incF])
  intro i h1 h2
  rw [List.getElem_set]
  have hio : i < o.length := by simpa [incF] using h2
  simp only [incF, List.getElem_map, List.getElem_range]
  have hm : i ∈ bs.take (k + 1) ↔ i ∈ bs.take k ∨ i = bs[k] := by
    rw [List.take_add_one, List.getElem?_eq_getElem hk, List.mem_append]; simp
  by_cases e : bs[k] = i
  · subst e
    rw [if_pos rfl, if_pos (hm.2 (.inr rfl))]
  · rw [if_neg e]
    congr 1
    by_cases h : i ∈ bs.take k
    · rw [if_pos h, if_pos (hm.2 (.inl h))]
    · rw [if_neg h, if_neg (fun x => (hm.1 x).elim h (fun y => e y.symm))]
theorem inc_both {c : List Int} {f : For} {a b : Nat} {bs : List Nat} (hm : ∀ i, i ∈ bs ↔ Under c f a i ∨ Under c f b i) : incF (outF f.d c) bs = outF (f.both a b).d c := by
  apply List.ext_getElem (by simp [incF, outF])
  intro i h1 h2
  have hi : i < c.length := by simpa [outF] using h2
  have e1 := incF_get (outF f.d c) bs (i := i) (by rw [outF_len]; exact hi)
  rw [getD_ltL h1] at e1
  rw [e1]
  have e2 : (outF f.d c).getD i 0 = if 0 < c[i] then (f.d (rankL c i) : Int) else 0 := by
    rw [List.getD_eq_getElem?_getD, outF_get _ _ hi]; rfl
  have e3 := outF_get (f.both a b).d c hi
  rw [List.getElem?_eq_getElem h2] at e3
  rw [e2, Option.some.inj e3]
  have hdd : (f.both a b).d (rankL c i) = if f.root (rankL c i) = a ∨ f.root (rankL c i) = b then f.d (rankL c i) + 1 else f.d (rankL c i) := rfl
  rw [hdd]
  have hu : i ∈ bs ↔ 0 < c[i] ∧ (f.root (rankL c i) = a ∨ f.root (rankL c i) = b) := by
    rw [hm]
    unfold Under
    rw [getD_ltL hi]
    constructor
    · rintro (⟨_, h1, h2⟩ | ⟨_, h1, h2⟩)
      · exact ⟨h1, .inl h2⟩
      · exact ⟨h1, .inr h2⟩
    · rintro ⟨h1, h2 | h2⟩
      · exact .inl ⟨hi, h1, h2⟩
      · exact .inr ⟨hi, h1, h2⟩
  by_cases h0 : 0 < c[i]
  · rw [if_pos h0, if_pos h0]
    by_cases hr : f.root (rankL c i) = a ∨ f.root (rankL c i) = b
    · rw [if_pos hr, if_pos (hu.2 ⟨h0, hr⟩)]; omega
    · rw [if_neg hr, if_neg (fun x => hr (hu.1 x).2)]; omega
  · rw [if_neg h0, if_neg h0, if_neg (fun x => h0 (hu.1 x).1)]; omega
theorem under_N {c : List Int} {f : For} {a b i : Nat} (ho : f.Ok (posL c).length) : Under c (f.both a b) f.N i ↔ Under c f a i ∨ Under c f b i := by
  unfold Under
  have hrr : (f.both a b).root (rankL c i) = if f.root (rankL c i) = a ∨ f.root (rankL c i) = b then f.N else f.root (rankL c i) := rfl
  rw [hrr]
  constructor
  · rintro ⟨h1, h2, h3⟩
    have hl : f.root (rankL c i) < f.N := ho.less _ (ho.root _ (rankL_lt c h1 (by rw [← getD_ltL h1]; exact h2)))
    by_cases h : f.root (rankL c i) = a ∨ f.root (rankL c i) = b
    · rcases h with e | e
      · exact .inl ⟨h1, h2, e⟩
      · exact .inr ⟨h1, h2, e⟩
    · rw [if_neg h] at h3; omega
  · rintro (⟨h1, h2, h3⟩ | ⟨h1, h2, h3⟩)
    · exact ⟨h1, h2, if_pos (.inl h3)⟩
    · exact ⟨h1, h2, if_pos (.inr h3)⟩
theorem under_old2 {c : List Int} {f : For} {a b k i : Nat} (hk : k < f.N) (ha : k ≠ a) (hb : k ≠ b) : Under c (f.both a b) k i ↔ Under c f k i := by
  unfold Under
  have hrr : (f.both a b).root (rankL c i) = if f.root (rankL c i) = a ∨ f.root (rankL c i) = b then f.N else f.root (rankL c i) := rfl
  rw [hrr]
  by_cases h : f.root (rankL c i) = a ∨ f.root (rankL c i) = b
  · rw [if_pos h]
    constructor
    · rintro ⟨_, _, h3⟩; omega
    · rintro ⟨_, _, h3⟩; omega
  · rw [if_neg h]
theorem under_apart {c : List Int} {f : For} {a b i : Nat} (hab : a ≠ b) (h1 : Under c f a i) : ¬ Under c f b i := fun h2 => hab (h1.2.2.symm.trans h2.2.2)
theorem rank_inj {c : List Int} {i j : Nat} (hi : i < c.length) (hj : j < c.length) (hi0 : 0 < c[i]) (hj0 : 0 < c[j]) (h : rankL c i = rankL c j) : i = j := by
  have key : ∀ {i j : Nat} (hi : i < c.length) (hj : j < c.length), 0 < c[i] → i < j → rankL c i < rankL c j := fun {i j} hi hj h0 hij => by
    have h1 := rankL_succ c i hi
    rw [if_pos h0] at h1
    have h2 := rankL_mono c (k := i + 1) (m := j) (by omega) (by omega)
    omega
  rcases Nat.lt_trichotomy i j with e | e | e
  · have := key hi hj hi0 e; omega
  · exact e
  · have := key hj hi hj0 e; omega
theorem nodup_len : ∀ (n : Nat) (us : List Nat), us.Nodup → (∀ i ∈ us, i < n) → us.length ≤ n := by
  intro n
  induction n with
  | zero =>
    intro us _ h
    cases us with
    | nil => exact Nat.le_refl _
    | cons a l => have := h a List.mem_cons_self; omega
  | succ n ih =>
    intro us hn h
    have h1 := ih (us.erase n) (hn.erase n) (fun i hi => by
      rw [hn.mem_erase_iff] at hi
      have := h i hi.2
      omega)
    by_cases hm : n ∈ us
    · rw [List.length_erase_of_mem hm] at h1; omega
    · rw [List.erase_of_not_mem hm] at h1; omega
/-- What the rounds keep. -/
structure RWay (c : List Int) (f : For) (hs : List Nat) : Prop where
  nodup : hs.Nodup
  mem : ∀ m, m ∈ hs ↔ f.here m = true
  most : f.N + hs.length = 2 * (posL c).length
  sum : (hs.map f.wt).sum = allOf (wtL c) (posL c).length
  ok : f.Ok (posL c).length
  way : ∀ g, Huff f g → Huff (For.start (posL c).length (wtL c)) g
  small : ∀ i, f.d i ≤ f.N
theorem allOf_range (v : Nat → Nat) : ∀ L, ((List.range L).map v).sum = allOf v L := by
  intro L
  induction L with
  | zero => rfl
  | succ L ih => rw [List.range_succ, List.map_append, List.sum_append, ih]; simp [allOf]
theorem RWay.start (c : List Int) : RWay c (For.start (posL c).length (wtL c)) (List.range (posL c).length) :=
  ⟨List.nodup_range, fun m => by simp [For.start], by show (posL c).length + _ = _; rw [List.length_range]; omega, allOf_range _ _, start_ok _ _, fun _ h => h, fun _ => Nat.zero_le _⟩
theorem RWay.step {c : List Int} {f : For} {hs : List Nat} {a b : Nat} (h : RWay c f hs) (ha : f.least (fun m => f.here m = true) a) (hb : f.least (fun m => f.here m = true ∧ m ≠ a) b) :
    (∃ hs', RWay c (f.both a b) hs') ∧ f.wt a + f.wt b ≤ allOf (wtL c) (posL c).length ∧ f.N + 2 ≤ 2 * (posL c).length := by
  have hma := (h.mem a).2 ha.1
  have hmb : b ∈ hs.erase a := by rw [h.nodup.mem_erase_iff]; exact ⟨hb.1.2, (h.mem b).2 hb.1.1⟩
  have hnd := h.nodup.erase a
  have p1 := List.perm_cons_erase hma
  have p2 := List.perm_cons_erase hmb
  have l1 := p1.length_eq
  have l2 := p2.length_eq
  simp only [List.length_cons] at l1 l2
  have s1 := (p1.map f.wt).sum_nat
  have s2 := (p2.map f.wt).sum_nat
  simp only [List.map_cons, List.sum_cons] at s1 s2
  have hsum := h.sum
  have hmost := h.most
  have hmem : ∀ m, m ∈ (hs.erase a).erase b ↔ m ≠ b ∧ m ≠ a ∧ f.here m = true := fun m => by
    rw [hnd.mem_erase_iff, h.nodup.mem_erase_iff, h.mem]
  have hlt : ∀ m, m ∈ (hs.erase a).erase b → m < f.N := fun m hm => h.ok.less m ((hmem m).1 hm).2.2
  refine ⟨⟨(hs.erase a).erase b ++ [f.N], ?_, fun m => ?_, ?_, ?_, For.both_ok h.ok, fun g hg => h.way g (.join f g a b ha hb hg), fun i => ?_⟩, by omega, by omega⟩
  · rw [List.nodup_append]
    refine ⟨hnd.erase b, by simp, fun x hx y hy e => ?_⟩
    rw [List.mem_singleton] at hy
    have := hlt x hx
    omega
  · rw [For.both_here, List.mem_append, List.mem_singleton, hmem]
    constructor
    · rintro (⟨h1, h2, h3⟩ | rfl)
      · exact .inr ⟨h2, h1, h3⟩
      · exact .inl rfl
    · rintro (rfl | ⟨h1, h2, h3⟩)
      · exact .inr rfl
      · exact .inl ⟨h2, h1, h3⟩
  · show f.N + 1 + _ = _
    rw [List.length_append, List.length_singleton]; omega
  · rw [List.map_append, List.sum_append]
    have e : ((hs.erase a).erase b).map (f.both a b).wt = ((hs.erase a).erase b).map f.wt := List.map_congr_left fun m hm => For.both_wt m (hlt m hm)
    rw [e]
    simp only [List.map_cons, List.map_nil, List.sum_cons, List.sum_nil, For.both_wtN]
    omega
  · show (if f.root i = a ∨ f.root i = b then f.d i + 1 else f.d i) ≤ f.N + 1
    have := h.small i
    split <;> omega
/-- In the end both sides have the same lens. -/
theorem out_lens {c : List Int} {g : For} (hg : Huff (For.start (posL c).length (wtL c)) g) (h : (posL c).length ≠ 1) : outF g.d c = lensF g.d c 0 := by
  apply List.ext_getElem? 
  intro i
  by_cases hi : i < c.length
  · rw [outF_get _ _ hi, lensF_get _ _ _ _ hi, Nat.zero_add]
    by_cases h0 : 0 < c[i]
    · rw [if_pos h0, if_pos h0]
      have hr := rankL_lt c hi h0
      have := huff_deep hg (by omega) _ hr
      congr 1
      omega
    · rw [if_neg h0, if_neg h0]
  · rw [List.getElem?_eq_none (by rw [outF_len]; omega), List.getElem?_eq_none (by rw [lensF_len]; omega)]
/-- A letter alone. -/
theorem one_lens {c : List Int} {i : Nat} (h : (posL c).length = 1) (hi : i < c.length) (h0 : 0 < c[i]) : DeepR c ((List.replicate c.length 0).set i 1) := by
  refine ⟨_, .last _ fun m m' hm hm' => ?_, ?_⟩
  · have h1 : decide (m < (posL c).length) = true := hm
    have h2 : decide (m' < (posL c).length) = true := hm'
    simp at h1 h2; omega
  · apply List.ext_getElem?
    intro j
    by_cases hj : j < c.length
    · rw [lensF_get _ _ _ _ hj, List.getElem?_set]
      by_cases e : i = j
      · subst e
        rw [if_pos rfl, if_pos (by simpa using hi), if_pos h0]; rfl
      · rw [if_neg e]
        by_cases h1 : 0 < c[j]
        · have r1 := rankL_lt c hi h0
          have r2 := rankL_lt c hj h1
          exact absurd (rank_inj hi hj h0 h1 (by omega)) e
        · rw [if_neg h1]; simp [hj]
    · rw [List.getElem?_eq_none (by simp; omega), List.getElem?_eq_none (by rw [lensF_len]; omega)]
end Go.Proofs.YtflcmmeoppdhdaaGreat
namespace Go.Proofs.YtflcmmeoppdhdaaGreat
open Go.RowKit Go.Sort Go.Shelf

/-- A thing of the reference: its weight, the letters under it (a slice), whether it is here. -/
structure Th where
  w : Nat
  u : Value
  h : Bool
instance : Inhabited Th := ⟨⟨0, .bool false, false⟩⟩
def tv (k : Nat) (t : Th) : List Value := [.int .i64 (t.w : Int), .int .i64 (k : Int), t.u, .bool t.h]
def tvs : Nat → List Th → List Value
  | _, [] => []
  | k, t :: l => tv k t ++ tvs (k + 1) l
def th (l : List Th) (i : Nat) : Th := l.getD i default
theorem tvs_append (l m : List Th) : ∀ k, tvs k (l ++ m) = tvs k l ++ tvs (k + l.length) m := by
  induction l with
  | nil => intro k; simp [tvs]
  | cons t l ih => intro k; simp only [List.cons_append, tvs, ih, List.append_assoc, List.length_cons]; rw [show k + 1 + l.length = k + (l.length + 1) by omega]
theorem tvs_get (l : List Th) : ∀ (k i j : Nat), i < l.length → j < 4 → (tvs k l)[i * 4 + j]? = (tv (k + i) (th l i))[j]? := by
  induction l with
  | nil => intro k i j h; simp at h
  | cons t l ih =>
    intro k i j h hj
    cases i with
    | zero =>
      rw [Nat.zero_mul, Nat.zero_add, tvs, List.getElem?_append_left (by simpa [tv] using hj)]
      rfl
    | succ i =>
      have := ih (k + 1) i j (by simpa using h) hj
      rw [tvs, List.getElem?_append_right (by simp [tv]; omega), show (i + 1) * 4 + j - (tv k t).length = i * 4 + j by simp [tv]; omega, this]
      rw [show k + 1 + i = k + (i + 1) by omega]
      rfl
def gone (t : Th) : Th := ⟨t.w, t.u, false⟩
theorem tvs_gone (l : List Th) : ∀ (k i : Nat), i < l.length → (tvs k l).set (i * 4 + 3) (.bool false) = tvs k (l.set i (gone (th l i))) := by
  induction l with
  | nil => intro k i h; simp at h
  | cons t l ih =>
    intro k i h
    cases i with
    | zero => rfl
    | succ i =>
      have := ih (k + 1) i (by simpa using h)
      rw [tvs, List.set_append_right _ _ (by simp [tv]; omega), show (i + 1) * 4 + 3 - (tv k t).length = i * 4 + 3 by simp [tv]; omega, this]
      rfl
theorem th_set (l : List Th) (i k : Nat) (x : Th) (h : i < l.length) : th (l.set i x) k = if k = i then x else th l k := by
  unfold th
  rw [List.getD_eq_getElem?_getD, List.getD_eq_getElem?_getD, List.getElem?_set]
  by_cases e : i = k
  · subst e; simp [h]
  · rw [if_neg e, if_neg (fun x => e x.symm)]
theorem th_push (l : List Th) (x : Th) (k : Nat) : th (l ++ [x]) k = if k < l.length then th l k else if k = l.length then x else default := by
  unfold th
  rw [List.getD_eq_getElem?_getD, List.getD_eq_getElem?_getD]
  by_cases h : k < l.length
  · rw [if_pos h, List.getElem?_append_left h]
  · rw [if_neg h, List.getElem?_append_right (by omega)]
    by_cases e : k = l.length
    · subst e; simp
    · rw [if_neg e, List.getElem?_eq_none (by simp; omega)]; rfl

/-- A row of things in block g. -/
structure TRow (w : World) (g : Nat) (l : List Th) : Prop where
  c0 : ∀ i, i < l.length → w.cell? ⟨g, i * 4, none⟩ = some (.int .i64 ((th l i).w : Int))
  c1 : ∀ i, i < l.length → w.cell? ⟨g, i * 4 + 1, none⟩ = some (.int .i64 (i : Int))
  c2 : ∀ i, i < l.length → w.cell? ⟨g, i * 4 + 2, none⟩ = some ((th l i).u)
  c3 : ∀ i, i < l.length → w.cell? ⟨g, i * 4 + 3, none⟩ = some (.bool (th l i).h)
theorem TRow.of {w : World} {g : Nat} {l : List Th} (h : ∀ j u, (tvs 0 l)[j]? = some u → w.cell? ⟨g, j, none⟩ = some u) : TRow w g l :=
  ⟨fun i hi => h _ _ (by have := tvs_get l 0 i 0 hi (by decide); rw [Nat.add_zero] at this; rw [this]; rfl),
   fun i hi => h _ _ (by rw [tvs_get l 0 i 1 hi (by decide), Nat.zero_add]; rfl),
   fun i hi => h _ _ (by rw [tvs_get l 0 i 2 hi (by decide)]; rfl),
   fun i hi => h _ _ (by rw [tvs_get l 0 i 3 hi (by decide)]; rfl)⟩
theorem TRow.same {w w' : World} {g : Nat} {l : List Th} (h : TRow w g l) (e : w'.heap = w.heap) : TRow w' g l := by
  have k : ∀ a, w'.cell? a = w.cell? a := fun a => World.cell?_of_block (by rw [e])
  exact ⟨fun i hi => (k _).trans (h.c0 i hi), fun i hi => (k _).trans (h.c1 i hi), fun i hi => (k _).trans (h.c2 i hi), fun i hi => (k _).trans (h.c3 i hi)⟩
/-- Is the thing i looked at? -/
def Seen (l : List Th) (but : Int) (k i : Nat) : Prop := i < k ∧ (th l i).h = true ∧ (i : Int) ≠ but
/-- The least of the first k: none (-1), or one. -/
inductive LeastR (l : List Th) (but : Int) (k : Nat) : Int → Prop
  | none (h : ∀ i, ¬ Seen l but k i) : LeastR l but k (-1)
  | some (a : Nat) (ha : Seen l but k a) (h : ∀ i, Seen l but k i → i ≠ a → (th l a).w < (th l i).w ∨ ((th l a).w = (th l i).w ∧ a < i)) : LeastR l but k (a : Int)
theorem seen_succ {l : List Th} {but : Int} {k i : Nat} : Seen l but (k + 1) i ↔ Seen l but k i ∨ (i = k ∧ (th l k).h = true ∧ (k : Int) ≠ but) := by
  unfold Seen
  constructor
  · rintro ⟨h1, h2, h3⟩
    by_cases e : i = k
    · subst e; exact .inr ⟨rfl, h2, h3⟩
    · exact .inl ⟨by omega, h2, h3⟩
  · rintro (⟨h1, h2, h3⟩ | ⟨rfl, h2, h3⟩)
    · exact ⟨by omega, h2, h3⟩
    · exact ⟨by omega, h2, h3⟩
theorem LeastR.skip {l : List Th} {but : Int} {k : Nat} {r : Int} (h : LeastR l but k r) (hs : ¬ ((th l k).h = true ∧ (k : Int) ≠ but)) : LeastR l but (k + 1) r := by
  cases h with
  | none h => exact .none fun i hi => (seen_succ.1 hi).elim (h i) (fun e => hs e.2)
  | some a ha h => exact .some a (seen_succ.2 (.inl ha)) fun i hi hne => (seen_succ.1 hi).elim (fun e => h i e hne) (fun e => absurd e.2 hs)
theorem LeastR.first {l : List Th} {but : Int} {k : Nat} (h : LeastR l but k (-1)) (hs : (th l k).h = true ∧ (k : Int) ≠ but) : LeastR l but (k + 1) (k : Int) := by
  generalize hr : (-1 : Int) = r at h
  cases h with
  | none h => exact .some k (seen_succ.2 (.inr ⟨rfl, hs⟩)) fun i hi hne => (seen_succ.1 hi).elim (fun e => absurd e (h i)) (fun e => absurd e.1 hne)
  | some a ha h => omega
theorem LeastR.less {l : List Th} {but : Int} {k a : Nat} (h : LeastR l but k (a : Int)) (hs : (th l k).h = true ∧ (k : Int) ≠ but) (hl : (th l k).w < (th l a).w) : LeastR l but (k + 1) (k : Int) := by
  generalize hr : (a : Int) = r at h
  cases h with
  | none h => omega
  | some b hb h =>
    obtain rfl : a = b := by omega
    refine .some k (seen_succ.2 (.inr ⟨rfl, hs⟩)) fun i hi hne => ?_
    rcases seen_succ.1 hi with e | e
    · by_cases hia : i = a
      · subst hia; exact .inl hl
      · have := h i e hia
        omega
    · exact absurd e.1 hne
theorem LeastR.more {l : List Th} {but : Int} {k a : Nat} (h : LeastR l but k (a : Int)) (hl : ¬ (th l k).w < (th l a).w) : LeastR l but (k + 1) (a : Int) := by
  generalize hr : (a : Int) = r at h
  cases h with
  | none h => omega
  | some b hb h =>
    obtain rfl : a = b := by omega
    refine .some a (seen_succ.2 (.inl hb)) fun i hi hne => ?_
    rcases seen_succ.1 hi with e | e
    · exact h i e hne
    · have := hb.1
      rw [e.1]
      omega
theorem LeastR.lt {l : List Th} {but : Int} {k : Nat} {r : Int} (h : LeastR l but k r) : r = -1 ∨ ∃ a : Nat, r = (a : Int) ∧ a < k := by
  cases h with
  | none => exact .inl rfl
  | some a ha => exact .inr ⟨a, rfl, ha.1⟩
section
variable {w : World} {g n cap : Nat} {l : List Th}
set_option maxHeartbeats 2000000 in
set_option maxRecDepth 100000 in
theorem ref_least (hr : TRow w g l) (hn : l.length = n) (hn1 : n ≤ 10000) (A : Option Addr) (hA : 0 < n → A = some ⟨g, 0, none⟩) (but : Int) (hb : -1 ≤ but ∧ but ≤ 10000) :
    Calls Tryz.prog 170 #[.slice A n cap, .int .i64 but] w fun e w' => ∃ r, e = .returned (.int .i64 r) ∧ LeastR l but n r ∧ ∃ q, w' = w.drewN q := by
  have HR := Lib.hid hr
  have HN := Lib.hid hn
  have HA := Lib.hid hA
  clear hr hn hA
  go_enter Tryz.func170, Tryz.ntmps170
  go_wp2
  go_loopw [5, 6] (fun a i wr => ∃ (k q : Nat) (r : Int), k ≤ n ∧ i = .int .i64 (k : Int) ∧ a = .int .i64 r ∧ LeastR l but k r ∧ wr = w.drewN q) (fun _ i _ => n - (intOf i).toNat)
  case atStart => exact ⟨0, 0, -1, Nat.zero_le _, rfl, rfl, .none fun i h => by have := h.1; omega, rfl⟩
  case round =>
    obtain ⟨k, q, r, hk, rfl, rfl, hl, rfl⟩ := hrel
    by_cases hlt : k < n
    · have hkl : k < l.length := by have := HN.out; omega
      obtain rfl := HA.out (by omega)
      have hki : (k : Int) < (n : Int) := by omega
      have hc0 := HR.out.c0 k hkl
      have hc1 := HR.out.c1 k hkl
      have hc3 := HR.out.c3 k hkl
      have HL := Lib.hid hl
      have hrl := hl.lt
      clear hl
      by_cases hs : (th l k).h = true ∧ (k : Int) ≠ but
      · obtain ⟨hs1, hs2⟩ := hs
        have HS := Lib.hid (And.intro hs1 hs2)
        rw [hs1] at hc3
        clear hs1
        rcases hrl with rfl | ⟨a, rfl, hak⟩
        · have HEND := Lib.hid (HL.out.first HS.out)
          clear HL
          go_wp2
          go_big_quiet (fail)
          go_wp2
          go_roundw
          case rel => exact ⟨k + 1, q + nq, k, by omega, by go_num, rfl, HEND.out, by simp⟩
          case measure => simp [intOf]; omega
        · have hal : a < l.length := by omega
          have ha0 := HR.out.c0 a hal
          have ha1 := HR.out.c1 a hal
          obtain ⟨x, hx⟩ : ∃ x, x = (th l k).w := ⟨_, rfl⟩
          obtain ⟨y, hy⟩ : ∃ y, y = (th l a).w := ⟨_, rfl⟩
          have han : a < n := by omega
          have hani : (a : Int) < (n : Int) := by omega
          have hneg := Lib.hid (show decide ((a : Int) < 0) = false by simp)
          by_cases hlw : (th l k).w < (th l a).w
          · have HEND := Lib.hid (HL.out.less HS.out hlw)
            rw [← hx] at hc0 hlw
            rw [← hy] at ha0 hlw
            have h1 := Lib.hid (show decide (x < y) = true by simp; omega)
            clear HL hx hy hlw
            go_wp2
            have h2 := h1.out
            have h3 := hneg.out
            go_big_quiet (fail)
            go_wp2
            go_roundw
            case rel => exact ⟨k + 1, q + nq, k, by omega, by go_num, rfl, HEND.out, by simp⟩
            case measure => simp [intOf]; omega
          · have HEND := Lib.hid (HL.out.more hlw)
            rw [← hx] at hc0 hlw
            rw [← hy] at ha0 hlw
            have h1 := Lib.hid (show decide (x < y) = false by simp; omega)
            have hka := Lib.hid (show decide (k < a) = false by simp; omega)
            by_cases he : x = y
            · subst he
              clear HL hx hy hlw
              go_wp2
              have h2 := h1.out
              have h3 := hneg.out
              have h4 := hka.out
              go_big_quiet (fail)
              go_wp2
              go_roundw
              case rel => exact ⟨k + 1, q + nq, a, by omega, by go_num, rfl, HEND.out, by simp⟩
              case measure => simp [intOf]; omega
            · have h5 := Lib.hid (show ((x : Int) == (y : Int)) = false by simp; omega)
              clear HL hx hy hlw he
              go_wp2
              have h2 := h1.out
              have h3 := hneg.out
              have h4 := h5.out
              go_big_quiet (fail)
              go_wp2
              go_roundw
              case rel => exact ⟨k + 1, q + nq, a, by omega, by go_num, rfl, HEND.out, by simp⟩
              case measure => simp [intOf]; omega
      · have HEND := Lib.hid (HL.out.skip hs)
        clear HL hc0 hc1
        by_cases hkb : (k : Int) = but
        · clear hs
          subst hkb
          go_wp2
          go_roundw
          case rel => exact ⟨k + 1, q, r, by omega, by go_num, rfl, HEND.out, rfl⟩
          case measure => simp [intOf]; omega
        · have hf : (th l k).h = false := by
            cases hq : (th l k).h with
            | false => rfl
            | true => exact absurd ⟨hq, hkb⟩ hs
          rw [hf] at hc3
          clear hs hf
          go_wp2
          go_roundw
          case rel => exact ⟨k + 1, q, r, by omega, by go_num, rfl, HEND.out, rfl⟩
          case measure => simp [intOf]; omega
    · obtain rfl : k = n := by omega
      have HL := Lib.hid hl
      clear hl
      go_wp2
      go_ret
      exact ⟨r, rfl, HL.out, q, rfl⟩
end
end Go.Proofs.YtflcmmeoppdhdaaGreat
