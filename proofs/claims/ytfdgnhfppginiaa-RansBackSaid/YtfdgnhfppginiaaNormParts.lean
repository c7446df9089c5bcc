/- Contracts of layer 14: parts; the closures of Norm. -/
import Derived.Test.YtfdgnhfppginiaaNormFn
namespace Go.Proofs.Ytfdgnhfppginiaa
open Go.RowKit Go.Sort Go.Shelf

section
variable {P : Program} {o : Oper} {ev : Operand → Value} {w : World} {post : Value → World → Prop}
/-- 'make' of n cells of size one. -/
theorem says_mk {t : TypeId} {lo co : Operand} (hop : o.op = .makeSlice t lo co) (e : TypeId) (i : TypeInfo) (z : Value) (ht : P.underlying t = some (.slice e)) (hi : P.info? e = some i) (hz : i.zero = some z) (hzs : z.cells = #[z])
    (hsize : i.size = 1) (hby : i.bytes ≤ 8) (n : Nat) (hl : ev lo = .int .i64 (n : Int)) (hc : ev co = .int .i64 (n : Int)) (hn : n ≤ 1000000)
    (hp : post (.slice (some ⟨w.heap.size, 0, none⟩) n n) (w.alloc (.cells (List.replicate n z).toArray e))) : OpSays P o ev w post := by
  have hbn : ((i.bytes * n : Nat) : Int) ≤ 281474976710656 := by have := Nat.mul_le_mul_right n hby; omega
  rw [Int.natCast_mul] at hbn
  have hrun := run_make (P := P) w t e i z ht hi hz .i64 .i64 n n (by omega) (Int.le_refl _) hbn (by omega)
  simp only [Int.toNat_natCast, hsize, Nat.mul_one, hzs] at hrun
  have hcells : madeCells #[z] n = (List.replicate n z).toArray := by
    apply Array.ext'; rw [toList_madeCells_one]
  rw [hcells] at hrun
  have e : (execOp ev o).run P w = .ok (.value (.slice (some ⟨w.heap.size, 0, none⟩) n n)) (w.alloc (.cells (List.replicate n z).toArray e)) := by
    simp only [execOp, hop, hl, hc, Sem.run_bind, Sem.run_pure, Result.andThen_ok, hrun]
  unfold OpSays
  rw [e]
  exact hp
end

/-- A new row of n noughts. -/
def NewRow (B n : Nat) (v : Value) (w : World) : Prop := ∃ g, v = .slice (some ⟨g, 0, none⟩) n n ∧ B ≤ g ∧ Blk w g 3 (zvs (List.replicate n 0))
theorem NewRow.grow (B n : Nat) (v : Value) (w w' : World) (h : NewRow B n v w) (hb : Below w.heap.size w w') : NewRow B n v w' := by
  obtain ⟨g, h1, h2, h3⟩ := h
  exact ⟨g, h1, h2, h3.grow hb⟩

/-- The shares of the first k counts. -/
def partRow (c : List Int) (t : Int) (k : Nat) : List Int := (c.take k).map (nShare t c.sum) ++ List.replicate (c.length - k) 0
theorem partRow_zero (c : List Int) (t : Int) : partRow c t 0 = List.replicate c.length 0 := by simp [partRow]
theorem partRow_all (c : List Int) (t : Int) : partRow c t c.length = c.map (nShare t c.sum) := by simp [partRow]
theorem partRow_set (c : List Int) (t : Int) {k : Nat} (h : k < c.length) : (partRow c t k).set k (nShare t c.sum c[k]) = partRow c t (k + 1) := by
  unfold partRow
  have hl : ((c.take k).map (nShare t c.sum)).length = k := by simp; omega
  rw [List.set_append_right _ _ (by omega), hl, Nat.sub_self, List.take_add_one, List.getElem?_eq_getElem h]
  have e : c.length - k = (c.length - (k + 1)) + 1 := by omega
  rw [e, List.replicate_succ, List.set_cons_zero, List.map_append, List.append_assoc]
  rfl
theorem partRow_skip (c : List Int) (t : Int) {k : Nat} (h : k < c.length) (h0 : c[k] = 0) : partRow c t k = partRow c t (k + 1) := by
  rw [← partRow_set c t h]
  have hl : ((c.take k).map (nShare t c.sum)).length = k := by simp; omega
  unfold partRow
  rw [List.set_append_right _ _ (by omega), hl, Nat.sub_self]
  have e : c.length - k = (c.length - (k + 1)) + 1 := by omega
  rw [e, List.replicate_succ, List.set_cons_zero, h0]
  simp [nShare]
theorem partRow_len (c : List Int) (t : Int) {k : Nat} (h : k ≤ c.length) : (partRow c t k).length = c.length := by unfold partRow; simp; omega

/-- The quotient, made good. -/
theorem nShare_max {t s x : Int} (hx : 0 < x) (ht : 0 ≤ t) (hs : 0 < s) : nShare t s x = if t * x / s < 1 then 1 else t * x / s := by
  unfold nShare
  rw [Int.mul_comm x t]
  have h0 : 0 ≤ t * x / s := Int.ediv_nonneg (Int.mul_nonneg ht (by omega)) (by omega)
  by_cases h : t * x / s = 0
  · rw [if_pos ⟨hx, h⟩, if_pos (by omega)]
  · rw [if_neg (fun hh => h hh.2), if_neg (by omega)]
theorem prod_le {t x : Int} (ht0 : 0 ≤ t) (ht : t ≤ 65536) (hx0 : 0 ≤ x) (hx : x ≤ 1099511627776) : 0 ≤ t * x ∧ t * x ≤ 72057594037927936 := by
  refine ⟨Int.mul_nonneg ht0 hx0, ?_⟩
  have h1 : t * x ≤ 65536 * x := Int.mul_le_mul_of_nonneg_right ht hx0
  omega
theorem quo_le {a s : Int} (ha : 0 ≤ a) (hs : 0 < s) : 0 ≤ a / s ∧ a / s ≤ a := ⟨Int.ediv_nonneg ha (by omega), Int.ediv_le_self _ ha⟩

theorem nShare_val {t s x : Int} (ht0 : 0 ≤ t) (ht : t ≤ 65536) (hx0 : 0 < x) (hx : x ≤ 1099511627776) (hs : 0 < s) : max (wrap64 ((wrap64 (t * x)).tdiv s)) 1 = nShare t s x := by
  have hp := prod_le ht0 ht (by omega) hx
  have hq := quo_le hp.1 hs
  rw [nShare_max hx0 ht0 hs, IntWalk.wrap64_in (t * x) (by omega), Int.tdiv_eq_ediv_of_nonneg hp.1, IntWalk.wrap64_in (t * x / s) (by omega)]
  generalize t * x / s = q at *
  split <;> omega

section
variable {w : World} {B : Nat} {A : Option Addr} {n m : Nat} {c : List Int}
set_option maxRecDepth 100000 in
set_option maxHeartbeats 2000000 in
theorem normParts_any (t : Int) (hr : Rd w w.heap.size A (zvs c)) (hn : c.length = n) (hn1 : n ≤ 4096) (hnn : ∀ x ∈ c, 0 ≤ x ∧ x ≤ 1099511627776) (hb : c.sum ≤ 9007199254740992) (hs0 : 0 < c.sum) (ht0 : 0 ≤ t) (ht : t ≤ 65536) :
    Calls Try.prog 62 #[.slice A n m, .int .i64 t] w fun e w' => ∃ g, e = .returned (.slice (some ⟨g, 0, none⟩) n n) ∧ w.heap.size ≤ g ∧ Blk w' g 3 (zvs (c.map (nShare t c.sum))) ∧ Below w.heap.size w w' := by
  obtain ⟨i0, hi, hz0, hz1, hz2⟩ := info_parts info_int12
  have C1 := Lib.hid (fun (W : World) (h : Below w.heap.size w W) => normSum_any (m := m) (hr.below h) hn hn1 (fun x hx => (hnn x hx).1) hb)
  have HR := Lib.hid hr
  have HC := Lib.hid hn
  have HN := Lib.hid hnn
  obtain ⟨s, hs⟩ : ∃ s, s = c.sum := ⟨_, rfl⟩
  rw [← hs] at hb hs0 C1
  have HS := Lib.hid hs
  clear hr hn hnn hs
  go_enter Try.func62, Try.ntmps62
  go_wp2
  refine wp_region_grow [⟨9, [], .is (.slice A n m)⟩,
    ⟨10, [0], .is (.int .i64 (n : Int))⟩,
    ⟨11, [1], .such (NewRow w.heap.size n) (NewRow.grow w.heap.size n)⟩,
    ⟨12, [], .is (.slice A n m)⟩,
    ⟨13, [3], .is (.int .i64 s)⟩,
    ⟨5, [2], .such (NewRow w.heap.size n) (NewRow.grow w.heap.size n)⟩,
    ⟨6, [4], .is (.int .i64 s)⟩]
    [(0, .slice A n m)] (by kernel_rfl) (by kernel_rfl) (by kernel_rfl) (by kernel_rfl) (by kernel_rfl) ⟨rfl, trivial⟩ ?_ ?_
  · repeat' (first | exact OblGAll.nil | refine OblGAll.cons ?_ ?_)
    all_goals (intro ev yi w1 hB hc hf ho hn; simp only [OutsSay, NeedSay, rowAt, Fact.says, and_true] at ho hn)
    all_goals (try ((simp [OpSays, execOp, Region.wanted, Fact.says, go_sem, ho, hn, Below.refl]; done)))
    · rw [if_pos (by simp [Region.wanted])]
      exact says_mk rfl 3 i0 (.int .i64 0) Try.underlying37 hi hz0 rfl hz1 (by rw [hz2]; decide) n hn.1 hn.1 (by omega) ⟨⟨w1.heap.size, rfl, hB.size, by
        have h := heap_alloc_new w1 (.cells (List.replicate n (Value.int .i64 0)).toArray 3)
        unfold Blk
        rw [h]
        simp [zvs]⟩, (Below.refl _ _).alloc (Nat.le_refl _) _⟩
    · rw [if_pos (by simp [Region.wanted])]
      exact says_call Try.call63 rfl hf (by simp only [List.map_toArray, List.map_cons, List.map_nil, hn]) ((C1.out w1 hB).mono fun _ _ h => ⟨_, h.1, rfl, h.2 ▸ Below.refl _ _⟩)
  · intro x w1 hb1 hx
    obtain ⟨g, h5, hg, hblk⟩ : NewRow w.heap.size n (x 5) w1 := hx 5 (by decide)
    have h6 : x 6 = .int .i64 s := hx 6 (by decide)
    clear hx
    simp only [layAll, List.setIfInBounds_toArray, List.set_cons_succ, List.set_cons_zero, h5, h6]
    have HB1 := Lib.hid hb1
    have HBL := Lib.hid hblk
    have HG := Lib.hid hg
    clear hb1 hblk hg h5 h6 C1
    go_wp2
    go_loopw [16] (fun i wr => ∃ k : Nat, k ≤ n ∧ i = .int .i64 (k : Int) ∧ Blk wr g 3 (zvs (partRow c t k)) ∧ Below w.heap.size w wr) (fun i _ => n - (intOf i).toNat)
    case atStart => exact ⟨0, Nat.zero_le _, rfl, by rw [partRow_zero, HC.out]; exact HBL.out, HB1.out⟩
    case round =>
      clear HBL HB1
      obtain ⟨k, hk, rfl, hblk, hb⟩ := hrel
      have HB := Lib.hid hb
      clear hb
      by_cases hlt : k < n
      · have hkc : k < c.length := by have := HC.out; omega
        obtain ⟨b, off, rfl, hbl, hcell0⟩ := cell_of_rd HR.out hkc
        have hcell := (HB.out.cell (p := ⟨b, off + k, none⟩) hbl).trans hcell0
        have hx0 := HN.out _ (List.getElem_mem hkc)
        have hset := partRow_set c t hkc
        have hskip := partRow_skip c t hkc
        have hgl := partRow_len c t (k := k) (by omega)
        obtain ⟨x, hx⟩ : ∃ x, x = c[k]'hkc := ⟨_, rfl⟩
        rw [← hx] at hcell hx0 hset hskip
        obtain ⟨R, hR⟩ : ∃ R, R = partRow c t k := ⟨_, rfl⟩
        rw [← hR] at hset hskip hgl hblk
        have hgc := hblk.cell k
        have hgf := hblk.frozen k
        rw [zvs_get, List.getElem?_eq_getElem (by omega)] at hgc
        obtain ⟨y, hy⟩ : ∃ y, y = R[k]'(by omega) := ⟨_, rfl⟩
        rw [← hy] at hgc
        simp only [Option.map_some] at hgc
        have hki : (k : Int) < (n : Int) := by omega
        have HSET := Lib.hid hset
        have HSKIP := Lib.hid hskip
        have HBL := Lib.hid hblk
        clear hcell0 hset hskip hx hR hblk hy hgl
        obtain ⟨hx0, hx1⟩ := hx0
        by_cases h0 : 0 < x
        · have HV := Lib.hid (nShare_val ht0 ht h0 hx1 hs0)
          clear hx1 hx0
          go_wp2
          rw [HV.out]
          have HBL2 := Lib.hid (HBL.out.set_ k (.int .i64 (nShare t s x)))
          have HB2 := Lib.hid (HB.out.setCell (p := ⟨g, k, none⟩) HG.out (.int .i64 (nShare t s x)))
          go_roundw
          case rel =>
            refine ⟨k + 1, by omega, by go_num, ?_, HB2.out⟩
            have h := HBL2.out
            rw [zvs_set, HS.out, HSET.out] at h
            rw [HS.out]
            exact h
          case measure => simp [intOf]; omega
        · have hz : x = 0 := by omega
          have HK := Lib.hid (HSKIP.out hz)
          clear hgc hgf
          go_wp2
          go_roundw
          case rel => exact ⟨k + 1, by omega, by go_num, by rw [← HK.out]; exact HBL.out, HB.out⟩
          case measure => simp [intOf]; omega
      · obtain rfl : k = n := by omega
        have he : partRow c t k = c.map (nShare t c.sum) := by rw [← HC.out]; exact partRow_all c t
        rw [he] at hblk
        have HBL := Lib.hid hblk
        clear hblk he
        go_wp2
        go_ret
        exact ⟨g, rfl, HG.out, HBL.out, HB.out⟩
end
end Go.Proofs.Ytfdgnhfppginiaa
