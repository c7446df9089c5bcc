/-
  Layer 16: the reference's May and Put. · Contracts of layer 14: parts; the closures of Norm. · Contracts of layer 14: Norm. · Contracts of layer 14: Norm, where counts may be. · Layer 14's reference: Check, first, Same, Count.
-/
import Derived.Test.YtflcmmeoppdhdaaGreatQ10
import Derived.Test.YtflcmmeoppdhdaaGreatQ21
namespace Go.Proofs.YtflcmmeoppdhdaaGreat
open Go.RowKit Go.Sort Go.Shelf

section
variable {w : World} {B : Nat} {A : Option Addr} {n m : Nat} {c : List Int}
/-- What holds at the head of a round of the reference's Put. -/
def RLayRel (w : World) (c : List Int) (L : List UInt8) (v z i : Value) (wr : World) : Prop :=
  ∃ (k y : Nat) (out : List UInt8), k ≤ c.length ∧ y ≤ k ∧ z = .int .i64 (y : Int) ∧ i = .int .i64 (k : Int) ∧ wr.ownsRow w.heap.size 5 1 v out.length (bvs out) ∧ Hid (out ++ hPutF y (c.drop k) = L) ∧ Below w.heap.size w wr
set_option maxHeartbeats 1000000 in
set_option maxRecDepth 100000 in
theorem rhPut_any (hr : Rd w w.heap.size A (zvs c)) (hn : c.length = n) (hn1 : n ≤ 4096) (hx : ∀ x ∈ c, 0 ≤ x ∧ x ≤ 65536) :
    Calls Tryz.prog 32 #[.slice A n m] w (NewB w (hPut c)) := by
  obtain ⟨i0, hi, hz0, hz1, hz2⟩ := info_parts info_u8
  have hbound := hPutF_len c 0 hx (by omega)
  obtain ⟨L, hL⟩ : ∃ L, L = hPut c := ⟨_, rfl⟩
  have hLl : L.length ≤ 90000 := by have : L.length = (hPutF 0 c).length := by rw [hL]; rfl
                                    omega
  rw [← hL]
  have HX := Lib.hid hx
  have HR := Lib.hid hr
  have HL := Lib.hid hL
  have HN := Lib.hid hn
  clear hL hbound hx hr hn
  go_enter Tryz.func32, Tryz.ntmps32
  go_wp2
  go_loopw [3, 4, 5] (RLayRel w c L) (fun _ _ i _ => n - (intOf i).toNat)
  case atStart => exact ⟨0, 0, [], Nat.zero_le _, Nat.le_refl _, rfl, rfl, World.ownsRow_nil _ _ _ _, HL.out.symm, Below.refl _ _⟩
  case round =>
    obtain ⟨k, y, out, hk, hy, rfl, rfl, hown, HO, hb⟩ := hrel
    have hbs := hb.size
    have hol : out.length ≤ 90000 := by have := congrArg List.length HO.out; rw [List.length_append] at this; omega
    obtain ⟨A1, c1, rfl, -, -, -⟩ := own_form hown
    have HOWN := Lib.hid hown
    have HB := Lib.hid hb
    have hy2 : y ≤ 4096 := by have := HN.out; omega
    have hk2 : k ≤ 4096 := by have := HN.out; omega
    have C1 := Lib.hid (fun W => refPut_any (y : Int) W (by omega) (by omega))
    have hyl := lput_le y (by omega)
    clear hown hb
    by_cases hlt : k < n
    · have hkc : k < c.length := by have := HN.out; omega
      have hd : c.drop k = c[k] :: c.drop (k + 1) := List.drop_eq_getElem_cons hkc
      have hx := HX.out _ (List.getElem_mem hkc)
      obtain ⟨ab, ao, rfl, hab, hcell0⟩ := cell_of_rd HR.out hkc
      have hcell := (HB.out.cell (p := ⟨ab, ao + k, none⟩) hab).trans hcell0
      obtain ⟨x, hxx⟩ : ∃ x, x = c[k]'hkc := ⟨_, rfl⟩
      rw [← hxx] at hcell hcell0 hd hx
      rw [hd] at HO
      have hji : (k : Int) < (n : Int) := by omega
      clear hd hxx
      by_cases h0 : x = 0
      · subst h0
        rw [hPutF_zero] at HO
        clear C1 hcell0
        go_wp2
        go_roundw
        case rel => exact ⟨k + 1, y + 1, out, by omega, by omega, by go_num, by go_num, HOWN.out, HO, HB.out⟩
        case measure => simp [intOf]; omega
      · rw [hPutF_some y _ h0] at HO
        have hxf : (x == 0) = false := beq_eq_false_iff_ne.2 h0
        have hx1 := hx.1
        have hx2 := hx.2
        have C2 := Lib.hid (fun W => refPut_any (x - 1) W (by omega) (by omega))
        have hxl := lput_le (x - 1).toNat (by omega)
        have HC0 := Lib.hid hcell0
        clear hcell0 hx
        go_wp2_with fail
        refine (C1.out _).mono ?_
        rintro e w1 ⟨u, rfl, hown1, hb1⟩
        rw [Int.toNat_natCast] at hown1
        obtain ⟨A2, c2, rfl, -, -, -⟩ := own_form hown1
        have HO1 := Lib.hid (own_kept HOWN.out hb1)
        have HR1 := Lib.hid (Rd.of_own hown1)
        have HB1 := Lib.hid (HB.out.trans (hb1.mono hbs))
        have hbs1 : w.heap.size ≤ w1.heap.size := Nat.le_trans hbs hb1.size
        have HZ1 := Lib.hid (show (bvs (lput y)).length = (lput y).length * 1 by rw [bvs_length, Nat.mul_one])
        have hA1 : out.length + (lput y).length ≤ maxLen := by simp only [maxLen]; omega
        have hA2 : (out.length + (lput y).length) * 1 ≤ 140737488355328 := by omega
        obtain ⟨p, hp⟩ : ∃ p, p = out.length := ⟨_, rfl⟩
        obtain ⟨q, hq⟩ : ∃ q, q = (lput y).length := ⟨_, rfl⟩
        rw [← hp] at hA1 hA2 HO1 hol
        rw [← hq] at hA1 hA2 HZ1 hyl
        simp only [← hp, ← hq]
        have HP := Lib.hid hp
        have HQ := Lib.hid hq
        clear hown1 hb1 C1 HOWN HB hp hq
        go_wp2_with ((with_reducible show wpList _ _ _ (({ dst := some 23, op := _, type := _, pos := _, after := _, guard := _ } : Oper) :: _) _ _); go_must (refine wpList_app rfl (.tmp 19) (.tmp 22) 22 rfl w.heap.size 5 i0 (.int .u8 0) 1 1 Tryz.underlying22 hi hz0 hz1 hz2 rfl (by decide) _ _ _ rfl HO1.out w1.heap.size A2 _ _ (bvs (lput y)) rfl HR1.out HZ1.out (bvs_one _) hA1 hA2 hbs1 ?_; intro v2 w2 hown2 hg2; have hb2 := HB1.out.grown hg2 hbs1 (own_block HO1.out); have hcell2 := (hb2.cell (p := ⟨ab, ao + k, none⟩) hab).trans HC0.out; clear hg2))
        rw [← bvs_append] at hown2
        have hbs2 : w.heap.size ≤ w2.heap.size := hb2.size
        obtain ⟨A3, c3, rfl, -, -, -⟩ := own_form hown2
        have HO2 := Lib.hid hown2
        have HB2 := Lib.hid hb2
        clear hown2 hb2 HO1 HR1 HB1 hbs1 HZ1 hA1 hA2 hcell hcell2
        refine (C2.out _).mono ?_
        rintro e w3 ⟨u, rfl, hown3, hb3⟩
        obtain ⟨A4, c4, rfl, -, -, -⟩ := own_form hown3
        have HO3 := Lib.hid (own_kept HO2.out hb3)
        have HR3 := Lib.hid (Rd.of_own hown3)
        have HB3 := Lib.hid (HB2.out.trans (hb3.mono hbs2))
        have hbs3 : w.heap.size ≤ w3.heap.size := Nat.le_trans hbs2 hb3.size
        have HZ3 := Lib.hid (show (bvs (lput (x - 1).toNat)).length = (lput (x - 1).toNat).length * 1 by rw [bvs_length, Nat.mul_one])
        obtain ⟨r, hr⟩ : ∃ r, r = (lput (x - 1).toNat).length := ⟨_, rfl⟩
        rw [← hr] at HZ3 hxl
        simp only [← hr]
        have HRR := Lib.hid hr
        have hA1 : p + q + r ≤ maxLen := by simp only [maxLen]; omega
        have hA2 : (p + q + r) * 1 ≤ 140737488355328 := by omega
        clear hown3 hb3 C2 HO2 HB2 hr
        go_wp2_with ((with_reducible show wpList _ _ _ (({ dst := some 32, op := _, type := _, pos := _, after := _, guard := _ } : Oper) :: _) _ _); go_must (refine wpList_app rfl (.tmp 24) (.tmp 31) 22 rfl w.heap.size 5 i0 (.int .u8 0) 1 1 Tryz.underlying22 hi hz0 hz1 hz2 rfl (by decide) _ _ _ rfl HO3.out w3.heap.size A4 _ _ (bvs (lput (x - 1).toNat)) rfl HR3.out HZ3.out (bvs_one _) hA1 hA2 hbs3 ?_; intro v4 w4 hown4 hg4; have hb4 := HB3.out.grown hg4 hbs3 (own_block HO3.out); clear hg4))
        rw [← bvs_append] at hown4
        go_roundw
        case rel => exact ⟨k + 1, 0, out ++ lput y ++ lput (x - 1).toNat, by omega, by omega, by go_num, by go_num, by rw [List.length_append, List.length_append, ← HP.out, ← HQ.out, ← HRR.out]; exact hown4, Lib.hid (by rw [← HO.out]; simp only [List.append_assoc]), hb4⟩
        case measure => simp [intOf]; omega
    · obtain rfl : k = n := by have := HN.out; omega
      have hO := HO.out
      rw [List.drop_of_length_le (by have := HN.out; omega), hPutF_nil] at hO
      go_wp2_with fail
      refine (C1.out _).mono ?_
      rintro e w1 ⟨u, rfl, hown1, hb1⟩
      rw [Int.toNat_natCast] at hown1
      obtain ⟨A2, c2, rfl, -, -, -⟩ := own_form hown1
      have HO1 := Lib.hid (own_kept HOWN.out hb1)
      have HR1 := Lib.hid (Rd.of_own hown1)
      have HB1 := Lib.hid (HB.out.trans (hb1.mono hbs))
      have hbs1 : w.heap.size ≤ w1.heap.size := Nat.le_trans hbs hb1.size
      have HZ1 := Lib.hid (show (bvs (lput y)).length = (lput y).length * 1 by rw [bvs_length, Nat.mul_one])
      have hA1 : out.length + (lput y).length ≤ maxLen := by simp only [maxLen]; omega
      have hA2 : (out.length + (lput y).length) * 1 ≤ 140737488355328 := by omega
      obtain ⟨p, hp⟩ : ∃ p, p = out.length := ⟨_, rfl⟩
      obtain ⟨q, hq⟩ : ∃ q, q = (lput y).length := ⟨_, rfl⟩
      rw [← hp] at hA1 hA2 HO1 hol
      rw [← hq] at hA1 hA2 HZ1 hyl
      simp only [← hp, ← hq]
      have HP := Lib.hid hp
      have HQ := Lib.hid hq
      have HOO := Lib.hid hO
      clear hown1 hb1 C1 HOWN HB hp hq hO HO
      go_wp2_with ((with_reducible show wpList _ _ _ (({ dst := some 37, op := _, type := _, pos := _, after := _, guard := _ } : Oper) :: _) _ _); go_must (refine wpList_app rfl (.tmp 33) (.tmp 36) 22 rfl w.heap.size 5 i0 (.int .u8 0) 1 1 Tryz.underlying22 hi hz0 hz1 hz2 rfl (by decide) _ _ _ rfl HO1.out w1.heap.size A2 _ _ (bvs (lput y)) rfl HR1.out HZ1.out (bvs_one _) hA1 hA2 hbs1 ?_; intro v2 w2 hown2 hg2; have hb2 := HB1.out.grown hg2 hbs1 (own_block HO1.out); clear hg2))
      rw [← bvs_append] at hown2
      go_ret
      exact ⟨v2, rfl, by rw [← HOO.out, List.length_append, ← HP.out, ← HQ.out]; exact hown2, hb2⟩
end
end Go.Proofs.YtflcmmeoppdhdaaGreat
namespace Go.Proofs.YtflcmmeoppdhdaaGreat
open Go.RowKit Go.Sort Go.Shelf

section
variable {P : Program} {o : Oper} {ev : Operand → Value} {w : World} {post : Value → World → Prop}
/-- 'make' of n cells of size one. -/
theorem says_mk {t : TypeId} {lo co : Operand} (hop : o.op = .makeSlice t lo co) (e : TypeId) (i : TypeInfo) (z : Value) (ht : P.underlying t = some (.slice e)) (hi : P.info? e = some i) (hz : i.zero = some z) (hzs : z.cells = #[z])
    (hsize : i.size = 1) (hby : i.bytes ≤ 8) (n : Nat) (hl : ev lo = .int .i64 (n : Int)) (hc : ev co = .int .i64 (n : Int)) (hn : n ≤ 1000000)
    (hp : post (.slice (some ⟨w.heap.size, 0, none⟩) n n) (w.alloc (.cells (List.replicate n z).toArray e))) : OpSays P o ev w post := by
  have hbn : ((i.bytes * n : Nat) : Int) ≤ 281474976710656 := by have := Nat.mul_le_mul_right n hby; omega
  rw [Int.natCast_mul] at hbn
  have hrun := run_make (P := P) w t e i z ht hi hz .i64 .i64 n n (by omega) (Int.le_refl _) hbn (by omega)
  simp only [Int.toNat_natCast, hsize, Nat.mul_one, hzs] at hrun
  have hcells : madeCells #[z] n = (List.replicate n z).toArray := by
    apply Array.ext'; rw [toList_madeCells_one]
  rw [hcells] at hrun
  have e : (execOp ev o).run P w = .ok (.value (.slice (some ⟨w.heap.size, 0, none⟩) n n)) (w.alloc (.cells (List.replicate n z).toArray e)) := by
    simp only [execOp, hop, hl, hc, Sem.run_bind, Sem.run_pure, Result.andThen_ok, hrun]
  unfold OpSays
  rw [e]
  exact hp
end

/-- A new row of n noughts. -/
def NewRow (B n : Nat) (v : Value) (w : World) : Prop := ∃ g, v = .slice (some ⟨g, 0, none⟩) n n ∧ B ≤ g ∧ Blk w g 3 (zvs (List.replicate n 0))
theorem NewRow.grow (B n : Nat) (v : Value) (w w' : World) (h : NewRow B n v w) (hb : Below w.heap.size w w') : NewRow B n v w' := by
  obtain ⟨g, h1, h2, h3⟩ := h
  exact ⟨g, h1, h2, h3.grow hb⟩

/-- The shares of the first k counts. -/
def partRow (c : List Int) (t : Int) (k : Nat) : List Int := (c.take k).map (nShare t c.sum) ++ List.replicate (c.length - k) 0
theorem partRow_zero (c : List Int) (t : Int) : partRow c t 0 = List.replicate c.length 0 := by simp [partRow]
theorem partRow_all (c : List Int) (t : Int) : partRow c t c.length = c.map (nShare t c.sum) := by simp [partRow]
theorem partRow_set (c : List Int) (t : Int) {k : Nat} (h : k < c.length) : (partRow c t k).set k (nShare t c.sum c[k]) = partRow c t (k + 1) := by
  unfold partRow
  have hl : ((c.take k).map (nShare t c.sum)).length = k := by simp; omega
  rw [List.set_append_right _ _ (by omega), hl, Nat.sub_self, List.take_add_one, List.getElem?_eq_getElem h]
  have e : c.length - k = (c.length - (k + 1)) + 1 := by omega
  rw [e, List.replicate_succ, List.set_cons_zero, List.map_append, List.append_assoc]
  rfl
theorem partRow_skip (c : List Int) (t : Int) {k : Nat} (h : k < c.length) (h0 : c[k] = 0) : partRow c t k = partRow c t (k + 1) := by
  rw [← partRow_set c t h]
  have hl : ((c.take k).map (nShare t c.sum)).length = k := by simp; omega
  unfold partRow
  rw [List.set_append_right _ _ (by omega), hl, Nat.sub_self]
  have e : c.length - k = (c.length - (k + 1)) + 1 := by omega
  rw [e, List.replicate_succ, List.set_cons_zero, h0]
  simp [nShare]
theorem partRow_len (c : List Int) (t : Int) {k : Nat} (h : k ≤ c.length) : (partRow c t k).length = c.length := by unfold partRow; simp; omega

/-- The quotient, made good. -/
theorem nShare_max {t s x : Int} (hx : 0 < x) (ht : 0 ≤ t) (hs : 0 < s) : nShare t s x = if t * x / s < 1 then 1 else t * x / s := by
  unfold nShare
  rw [Int.mul_comm x t]
  have h0 : 0 ≤ t * x / s := Int.ediv_nonneg (Int.mul_nonneg ht (by omega)) (by omega)
  by_cases h : t * x / s = 0
  · rw [if_pos ⟨hx, h⟩, if_pos (by omega)]
  · rw [if_neg (fun hh => h hh.2), if_neg (by omega)]
theorem prod_le {t x : Int} (ht0 : 0 ≤ t) (ht : t ≤ 65536) (hx0 : 0 ≤ x) (hx : x ≤ 1099511627776) : 0 ≤ t * x ∧ t * x ≤ 72057594037927936 := by
  refine ⟨Int.mul_nonneg ht0 hx0, ?_⟩
  have h1 : t * x ≤ 65536 * x := Int.mul_le_mul_of_nonneg_right ht hx0
  omega
theorem quo_le {a s : Int} (ha : 0 ≤ a) (hs : 0 < s) : 0 ≤ a / s ∧ a / s ≤ a := ⟨Int.ediv_nonneg ha (by omega), Int.ediv_le_self _ ha⟩

theorem nShare_val {t s x : Int} (ht0 : 0 ≤ t) (ht : t ≤ 65536) (hx0 : 0 < x) (hx : x ≤ 1099511627776) (hs : 0 < s) : max (wrap64 ((wrap64 (t * x)).tdiv s)) 1 = nShare t s x := by
  have hp := prod_le ht0 ht (by omega) hx
  have hq := quo_le hp.1 hs
  rw [nShare_max hx0 ht0 hs, IntWalk.wrap64_in (t * x) (by omega), Int.tdiv_eq_ediv_of_nonneg hp.1, IntWalk.wrap64_in (t * x / s) (by omega)]
  generalize t * x / s = q at *
  split <;> omega

section
variable {w : World} {B : Nat} {A : Option Addr} {n m : Nat} {c : List Int}
set_option maxRecDepth 100000 in
set_option maxHeartbeats 2000000 in
theorem normParts_any (t : Int) (hr : Rd w w.heap.size A (zvs c)) (hn : c.length = n) (hn1 : n ≤ 4096) (hnn : ∀ x ∈ c, 0 ≤ x ∧ x ≤ 1099511627776) (hb : c.sum ≤ 9007199254740992) (hs0 : 0 < c.sum) (ht0 : 0 ≤ t) (ht : t ≤ 65536) :
    Calls Tryz.prog 115 #[.slice A n m, .int .i64 t] w fun e w' => ∃ g, e = .returned (.slice (some ⟨g, 0, none⟩) n n) ∧ w.heap.size ≤ g ∧ Blk w' g 3 (zvs (c.map (nShare t c.sum))) ∧ Below w.heap.size w w' := by
  obtain ⟨i0, hi, hz0, hz1, hz2⟩ := info_parts info_int12
  have C1 := Lib.hid (fun (W : World) (h : Below w.heap.size w W) => normSum_any (m := m) (hr.below h) hn hn1 (fun x hx => (hnn x hx).1) hb)
  have HR := Lib.hid hr
  have HC := Lib.hid hn
  have HN := Lib.hid hnn
  obtain ⟨s, hs⟩ : ∃ s, s = c.sum := ⟨_, rfl⟩
  rw [← hs] at hb hs0 C1
  have HS := Lib.hid hs
  clear hr hn hnn hs
  go_enter Tryz.func115, Tryz.ntmps115
  go_wp2
  refine wp_region_grow [⟨9, [], .is (.slice A n m)⟩,
    ⟨10, [0], .is (.int .i64 (n : Int))⟩,
    ⟨11, [1], .such (NewRow w.heap.size n) (NewRow.grow w.heap.size n)⟩,
    ⟨12, [], .is (.slice A n m)⟩,
    ⟨13, [3], .is (.int .i64 s)⟩,
    ⟨5, [2], .such (NewRow w.heap.size n) (NewRow.grow w.heap.size n)⟩,
    ⟨6, [4], .is (.int .i64 s)⟩]
    [(0, .slice A n m)] (by kernel_rfl) (by kernel_rfl) (by kernel_rfl) (by kernel_rfl) (by kernel_rfl) ⟨rfl, trivial⟩ ?_ ?_
  · repeat' (first | exact OblGAll.nil | refine OblGAll.cons ?_ ?_)
    all_goals (intro ev yi w1 hB hc hf ho hn; simp only [OutsSay, NeedSay, rowAt, Fact.says, and_true] at ho hn)
    all_goals (try ((simp [OpSays, execOp, Region.wanted, Fact.says, go_sem, ho, hn, Below.refl]; done)))
    · rw [if_pos (by simp [Region.wanted])]
      exact says_mk rfl 3 i0 (.int .i64 0) Tryz.underlying53 hi hz0 rfl hz1 (by rw [hz2]; decide) n hn.1 hn.1 (by omega) ⟨⟨w1.heap.size, rfl, hB.size, by
        have h := heap_alloc_new w1 (.cells (List.replicate n (Value.int .i64 0)).toArray 3)
        unfold Blk
        rw [h]
        simp [zvs]⟩, (Below.refl _ _).alloc (Nat.le_refl _) _⟩
    · rw [if_pos (by simp [Region.wanted])]
      exact says_call Tryz.call116 rfl hf (by simp only [List.map_toArray, List.map_cons, List.map_nil, hn]) ((C1.out w1 hB).mono fun _ _ h => ⟨_, h.1, rfl, h.2 ▸ Below.refl _ _⟩)
  · intro x w1 hb1 hx
    obtain ⟨g, h5, hg, hblk⟩ : NewRow w.heap.size n (x 5) w1 := hx 5 (by decide)
    have h6 : x 6 = .int .i64 s := hx 6 (by decide)
    clear hx
    simp only [layAll, List.setIfInBounds_toArray, List.set_cons_succ, List.set_cons_zero, h5, h6]
    have HB1 := Lib.hid hb1
    have HBL := Lib.hid hblk
    have HG := Lib.hid hg
    clear hb1 hblk hg h5 h6 C1
    go_wp2
    go_loopw [16] (fun i wr => ∃ k : Nat, k ≤ n ∧ i = .int .i64 (k : Int) ∧ Blk wr g 3 (zvs (partRow c t k)) ∧ Below w.heap.size w wr) (fun i _ => n - (intOf i).toNat)
    case atStart => exact ⟨0, Nat.zero_le _, rfl, by rw [partRow_zero, HC.out]; exact HBL.out, HB1.out⟩
    case round =>
      clear HBL HB1
      obtain ⟨k, hk, rfl, hblk, hb⟩ := hrel
      have HB := Lib.hid hb
      clear hb
      by_cases hlt : k < n
      · have hkc : k < c.length := by have := HC.out; omega
        obtain ⟨b, off, rfl, hbl, hcell0⟩ := cell_of_rd HR.out hkc
        have hcell := (HB.out.cell (p := ⟨b, off + k, none⟩) hbl).trans hcell0
        have hx0 := HN.out _ (List.getElem_mem hkc)
        have hset := partRow_set c t hkc
        have hskip := partRow_skip c t hkc
        have hgl := partRow_len c t (k := k) (by omega)
        obtain ⟨x, hx⟩ : ∃ x, x = c[k]'hkc := ⟨_, rfl⟩
        rw [← hx] at hcell hx0 hset hskip
        obtain ⟨R, hR⟩ : ∃ R, R = partRow c t k := ⟨_, rfl⟩
        rw [← hR] at hset hskip hgl hblk
        have hgc := hblk.cell k
        have hgf := hblk.frozen k
        rw [zvs_get, List.getElem?_eq_getElem (by omega)] at hgc
        obtain ⟨y, hy⟩ : ∃ y, y = R[k]'(by omega) := ⟨_, rfl⟩
        rw [← hy] at hgc
        simp only [Option.map_some] at hgc
        have hki : (k : Int) < (n : Int) := by omega
        have HSET := Lib.hid hset
        have HSKIP := Lib.hid hskip
        have HBL := Lib.hid hblk
        clear hcell0 hset hskip hx hR hblk hy hgl
        obtain ⟨hx0, hx1⟩ := hx0
        by_cases h0 : 0 < x
        · have HV := Lib.hid (nShare_val ht0 ht h0 hx1 hs0)
          clear hx1 hx0
          go_wp2
          rw [HV.out]
          have HBL2 := Lib.hid (HBL.out.set_ k (.int .i64 (nShare t s x)))
          have HB2 := Lib.hid (HB.out.setCell (p := ⟨g, k, none⟩) HG.out (.int .i64 (nShare t s x)))
          go_roundw
          case rel =>
            refine ⟨k + 1, by omega, by go_num, ?_, HB2.out⟩
            have h := HBL2.out
            rw [zvs_set, HS.out, HSET.out] at h
            rw [HS.out]
            exact h
          case measure => simp [intOf]; omega
        · have hz : x = 0 := by omega
          have HK := Lib.hid (HSKIP.out hz)
          clear hgc hgf
          go_wp2
          go_roundw
          case rel => exact ⟨k + 1, by omega, by go_num, by rw [← HK.out]; exact HBL.out, HB.out⟩
          case measure => simp [intOf]; omega
      · obtain rfl : k = n := by omega
        have he : partRow c t k = c.map (nShare t c.sum) := by rw [← HC.out]; exact partRow_all c t
        rw [he] at hblk
        have HBL := Lib.hid hblk
        clear hblk he
        go_wp2
        go_ret
        exact ⟨g, rfl, HG.out, HBL.out, HB.out⟩
end
end Go.Proofs.YtflcmmeoppdhdaaGreat
namespace Go.Proofs.YtflcmmeoppdhdaaGreat
open Go.RowKit Go.Sort Go.Shelf

section
variable {w : World} {B : Nat} {A : Option Addr} {n m : Nat} {c : List Int}
set_option maxRecDepth 100000 in
/-- The closures: a place of a row whose slice lies in a box. -/
theorem normOf1_any {b : Nat} (hb : w.cell? ⟨b, 0, none⟩ = some (.slice A n m)) (hr : Rd w B A (zvs c)) (hn : c.length = n) (j : Nat) (hj : j < n) :
    Calls Tryz.prog 118 #[.int .i64 (j : Int), .pointer (some ⟨b, 0, none⟩)] w fun e w' => e = .returned (.int .i64 (c.getD j 0)) ∧ w' = w := by
  obtain ⟨g, off, rfl, -, hcell⟩ := cell_of_rd hr (show j < c.length by omega)
  have e : c.getD j 0 = c[j]'(by omega) := by simp [List.getD_eq_getElem?_getD, show j < c.length by omega]
  rw [e]
  have hji : (j : Int) < (n : Int) := by omega
  clear hr e
  go_enter Tryz.func118, Tryz.ntmps118
  go_wp2
  go_ret
  exact ⟨rfl, rfl⟩
set_option maxRecDepth 100000 in
theorem normOf2_any {b : Nat} (hb : w.cell? ⟨b, 0, none⟩ = some (.slice A n m)) (hr : Rd w B A (zvs c)) (hn : c.length = n) (j : Nat) (hj : j < n) :
    Calls Tryz.prog 119 #[.int .i64 (j : Int), .pointer (some ⟨b, 0, none⟩)] w fun e w' => e = .returned (.int .i64 (c.getD j 0)) ∧ w' = w := by
  obtain ⟨g, off, rfl, -, hcell⟩ := cell_of_rd hr (show j < c.length by omega)
  have e : c.getD j 0 = c[j]'(by omega) := by simp [List.getD_eq_getElem?_getD, show j < c.length by omega]
  rw [e]
  have hji : (j : Int) < (n : Int) := by omega
  clear hr e
  go_enter Tryz.func119, Tryz.ntmps119
  go_wp2
  go_ret
  exact ⟨rfl, rfl⟩
/-- What Norm tells of none. -/
def NoShares (err : Int) : Ending := .returned (.tuple #[.slice none 0 0, .int .i64 err])
end
end Go.Proofs.YtflcmmeoppdhdaaGreat
namespace Go.Proofs.YtflcmmeoppdhdaaGreat
open Go.RowKit Go.Sort Go.Shelf

theorem nBad_not {c : List Int} (h : c.any nBad = false) : ∀ x ∈ c, 0 ≤ x ∧ x ≤ 1099511627776 := by
  intro x hx
  have := List.any_eq_false.1 h x hx
  simp [nBad] at this
  exact this
/-- What the last loop of Norm keeps: so many are still too many. -/
structure Trims (w : World) (c : List Int) (n g bs T d : Nat) (cur : List Int) (wr : World) : Prop where
  row : Blk wr g 3 (zvs cur)
  len : cur.length = n
  alike : Alike c cur
  sum : cur.sum = (T : Int) + (d : Int)
  box : Blk wr bs 53 [.slice (some ⟨g, 0, none⟩) n n]
  below : Below w.heap.size w wr
theorem Trims.next {w wr : World} {c : List Int} {n g bs T d k : Nat} {cur : List Int} (h : Trims w c n g bs T (d + 1) cur wr) (hc : ∀ x ∈ c, 0 ≤ x) (ht : many c ≤ (T : Int)) (hg : bs ≠ g) (hw : w.heap.size ≤ g) (hk : IsFirst cur k) :
    Trims w c n g bs T d (cur.set k (cur.getD k 0 - 1)) (wr.setCell ⟨g, k, none⟩ (.int .i64 (cur.getD k 0 - 1))).drew := by
  have hset := h.row.set_ k (.int .i64 (cur.getD k 0 - 1))
  rw [zvs_set] at hset
  have h2 := first_two h.alike hc ht (by have := h.sum; omega) hk
  refine ⟨hset.same rfl, by rw [List.length_set]; exact h.len, ⟨by rw [List.length_set]; exact h.alike.1, fun j hj => ?_⟩, by rw [set_sum14 cur k _ hk.1, h.sum]; omega, (h.box.setOther _ _ hg).same rfl, (h.below.setCell (p := ⟨g, k, none⟩) hw _).drew⟩
  rw [getD_set14 cur k j _ hk.1]
  have := h.alike.2 j hj
  split
  · rename_i e; subst e; constructor
    · omega
    · constructor
      · intro; omega
      · intro hz; have := this.2.2 hz; omega
  · exact this
section
variable {w : World} {B : Nat} {A : Option Addr} {n m : Nat} {c : List Int}
set_option maxRecDepth 100000 in
set_option maxHeartbeats 4000000 in
theorem normNorm_ok (b T : Nat) (hb1 : 1 ≤ b) (hb2 : b ≤ 16) (hT : T = 2 ^ b) (hbad : c.any nBad = false) (hr : Rd w w.heap.size A (zvs c)) (hn : c.length = n) (hn1 : n ≤ 4096) (h0 : many c ≠ 0) (hmT : many c ≤ (T : Int)) :
    Calls Tryz.prog 76 #[.slice A n m, .int .i64 (b : Int)] w fun e w' => ∃ g r, e = .returned (.tuple #[.slice (some ⟨g, 0, none⟩) n n, .int .i64 0]) ∧ w.heap.size ≤ g ∧ NormR c (T : Int) r ∧ Blk w' g 3 (zvs r) ∧ Below w.heap.size w w' := by
  obtain ⟨w1, hw1⟩ : ∃ w1, w1 = w.alloc (.cells #[.slice A n m] 53) := ⟨_, rfl⟩
  have hb : Below w.heap.size w w1 := by rw [hw1]; exact (Below.refl _ _).alloc (Nat.le_refl _) _
  have hk1 : Blk w1 w.heap.size 53 [.slice A n m] := by rw [hw1]; exact heap_alloc_new w _
  have hr1 : Rd w1 w1.heap.size A (zvs c) := (hr.below hb).more hb.size
  have b0 := hk1.cell 0
  simp only [List.getElem?_cons_zero] at b0
  have hnn := nBad_not hbad
  have hn0 : ∀ x ∈ c, 0 ≤ x := fun x hx => (hnn x hx).1
  have hsum : c.sum ≤ 9007199254740992 := by
    have h1 := sum_most 1099511627776 (l := c) (fun x hx => (hnn x hx).2)
    have h2 : c.length * 1099511627776 ≤ 4096 * 1099511627776 := Nat.mul_le_mul_right _ (by omega)
    omega
  have hpos : 0 < c.sum := by have := many_pos hn0; omega
  have hT1 : T ≤ 65536 := by rw [hT]; exact Nat.pow_le_pow_right (n := 2) (by decide) hb2
  have hT0 : 1 ≤ T := by rw [hT]; exact Nat.one_le_two_pow
  have hpow : (2 : Int) ^ b = (T : Int) := by rw [hT]; simp
  have c1 := normBad_any (m := m) hr1 hn hn1
  rw [hbad] at c1
  have C1 := Lib.hid c1
  have C2 := Lib.hid (normThere_any (m := m) hr1 hn hn1)
  have C3 := Lib.hid (normParts_any (m := m) (T : Int) hr1 hn hn1 hnn hsum hpos (by omega) (by omega))
  have HR := Lib.hid hr1
  have HB := Lib.hid hb
  have HK := Lib.hid hk1
  have ha := alike_shares hn0 (t := (T : Int)) (by omega) hpos
  have hsh : ∀ x ∈ c.map (nShare (T : Int) c.sum), 0 ≤ x ∧ x ≤ 65536 := fun x hx => by
    obtain ⟨y, hy, rfl⟩ := List.mem_map.1 hx
    have hy0 := hn0 y hy
    refine ⟨(nShare_nn hy0 (by omega) hpos).1, Int.le_trans (nShare_le ?_ (by omega) hpos) (by omega)⟩
    obtain ⟨i, hi, rfl⟩ := List.getElem_of_mem hy
    exact le_sum12 hn0 hi
  obtain ⟨S, hS⟩ : ∃ S, S = c.map (nShare (T : Int) c.sum) := ⟨_, rfl⟩
  have hNR : ∀ r, (if S.sum < (T : Int) then ∃ k, IsFirst c k ∧ r = S.set k (S.getD k 0 + ((T : Int) - S.sum)) else Trim (S.sum - (T : Int)).toNat S r) → NormR c (T : Int) r := fun r h => by
    unfold NormR; rw [← hS]; exact h
  rw [← hS] at ha hsh C3
  have hSl : S.length = n := by rw [hS, List.length_map, hn]
  have hSs : S.sum ≤ 268435456 := by
    have h1 := sum_most 65536 (l := S) (fun x hx => (hsh x hx).2)
    have h2 : S.length * 65536 ≤ 4096 * 65536 := Nat.mul_le_mul_right _ (by omega)
    omega
  have hSn : 0 ≤ S.sum := sum_nn12 (fun x hx => (hsh x hx).1)
  have HNR := Lib.hid hNR
  have HSH := Lib.hid hsh
  have HSL := Lib.hid hSl
  have HA := Lib.hid ha
  have HW1 := Lib.hid hw1
  have HN := Lib.hid hn
  have HM := Lib.hid (And.intro h0 hmT)
  have HNN := Lib.hid hn0
  have HLEN := Lib.hid (show 0 < c.length from Nat.pos_of_ne_zero fun e => h0 (by rw [List.eq_nil_of_length_eq_zero e]; rfl))
  obtain ⟨M, hM⟩ : ∃ M, M = many c := ⟨_, rfl⟩
  rw [← hM] at C2 h0 hmT
  have hM0 : (M == 0) = false := beq_eq_false_iff_ne.2 h0
  clear hr hr1 hb hk1 hn hnn hn0 hsum hpos c1 ha hsh hS hNR hSl hw1 hM hbad hT h0
  go_enter Tryz.func76, Tryz.ntmps76
  go_wp2_with fail
  rw [← HW1.out]
  refine C1.out.mono ?_
  rintro e w' ⟨rfl, hw⟩
  obtain rfl : _ = w' := hw.symm
  go_wp2_with fail
  refine C2.out.mono ?_
  rintro e w' ⟨rfl, hw⟩
  obtain rfl : _ = w' := hw.symm
  go_wp2_with fail
  refine C3.out.mono ?_
  rintro e w2 ⟨g, rfl, hg, hbg, hb2⟩
  have HB2 := Lib.hid (HB.out.trans (hb2.mono HB.out.size))
  have HK2 := Lib.hid (HK.out.grow hb2)
  have HR2 := Lib.hid ((HR.out.below hb2).more hb2.size)
  have HG := Lib.hid (show w.heap.size < g by have := HK.out.lt; omega)
  have hw3 : ∃ w3, w3 = w2.alloc (.cells #[.slice (some ⟨g, 0, none⟩) n n] 53) := ⟨_, rfl⟩
  obtain ⟨w3, hw3⟩ := hw3
  have hb3 : Below w2.heap.size w2 w3 := by rw [hw3]; exact (Below.refl _ _).alloc (Nat.le_refl _) _
  obtain ⟨bs, hbs⟩ : ∃ bs, bs = w2.heap.size := ⟨_, rfl⟩
  have hk3 : Blk w3 bs 53 [.slice (some ⟨g, 0, none⟩) n n] := by rw [hw3, hbs]; exact heap_alloc_new w2 _
  have d0 := hk3.cell 0
  have HB3 := Lib.hid (HB2.out.trans (hb3.mono HB2.out.size))
  have HK3 := Lib.hid (HK2.out.grow hb3)
  have HR3 := Lib.hid ((HR2.out.below hb3).more hb3.size)
  have HS3 := Lib.hid (hbg.grow hb3)
  have HBS := Lib.hid (show w.heap.size < bs ∧ g < bs from ⟨by rw [hbs]; exact HK2.out.lt, by rw [hbs]; exact hbg.lt⟩)
  have HKS := Lib.hid hk3
  have HW3 := Lib.hid hw3
  have e0 := HK3.out.cell 0
  simp only [List.getElem?_cons_zero] at d0 e0
  have c4 := normSum_any (m := n) (Rd.of_blk HS3.out) HSL.out hn1 (fun x hx => (HSH.out x hx).1) (by omega)
  have C4 := Lib.hid c4
  obtain ⟨s, hs⟩ : ∃ s, s = S.sum := ⟨_, rfl⟩
  rw [← hs] at C4 HNR hSs hSn
  have HS := Lib.hid hs
  clear b0 hg hbg hb2 hw3 hb3 hk3 c4 hs C1 C2 C3 HB HK HR HW1
  go_wp2_with fail
  rw [← HW3.out, ← hbs]
  refine C4.out.mono ?_
  rintro e w' ⟨rfl, hw⟩
  obtain rfl : _ = w' := hw.symm
  clear hbs C4
  by_cases hlt : s < (T : Int)
  · obtain ⟨k, hk⟩ := first_some c HLEN.out
    have CG := Lib.hid (fun (W : World) (h : W.heap = w3.heap) => normGreatest_at 118 #[.pointer (some ⟨w.heap.size, 0, none⟩)] (enters_of Tryz.func118 (by kernel_rfl) rfl) c HN.out hn1 k hk W
      (fun j hj => normOf1_any (m := m) (by have := (HK3.out.same h).cell 0; simpa only [List.getElem?_cons_zero] using this) (rd_same HR3.out h) HN.out j hj))
    have hkn : k < n := by have := hk.1; rw [HN.out] at this; exact this
    have hgc := HS3.out.cell k
    have hgf := HS3.out.frozen k
    have hkS : k < S.length := by rw [HSL.out]; exact hkn
    rw [zvs_get, List.getElem?_eq_getElem hkS] at hgc
    simp only [Option.map_some] at hgc
    have hyb := HSH.out _ (List.getElem_mem hkS)
    have hnr := HNR.out (S.set k (S.getD k 0 + ((T : Int) - s)))
    rw [if_pos hlt] at hnr
    have HRES := Lib.hid (hnr ⟨k, hk, rfl⟩)
    have hyd : S.getD k 0 = S[k]'hkS := by simp [List.getD_eq_getElem?_getD, hkS]
    rw [hyd] at HRES
    obtain ⟨y, hy⟩ : ∃ y, y = S[k]'hkS := ⟨_, rfl⟩
    rw [← hy] at hgc hyb HRES
    obtain ⟨hy0, hy1⟩ := hyb
    have hkni : (k : Int) < (n : Int) := by omega
    have hset := HS3.out.set_ k (.int .i64 (y + ((T : Int) - s)))
    rw [zvs_set] at hset
    have HSET := Lib.hid (hset.same (w' := (w3.setCell ⟨g, k, none⟩ (.int .i64 (y + ((T : Int) - s)))).drew) rfl)
    have HB4 := Lib.hid (HB3.out.setCell (p := ⟨g, k, none⟩) (Nat.le_of_lt HG.out) (.int .i64 (y + ((T : Int) - s)))).drew
    have HKS4 := Lib.hid ((HKS.out.setOther ⟨g, k, none⟩ (.int .i64 (y + ((T : Int) - s))) (by have := HBS.out.2; simp only; omega)).same (w' := (w3.setCell ⟨g, k, none⟩ (.int .i64 (y + ((T : Int) - s)))).drew) rfl)
    clear hk hnr hyd hy hset hkS
    go_wp2
    refine wp_region_still_tail 10 (by kernel_rfl) (by kernel_rfl) ?_
    simp only [List.take_succ_cons, List.take_zero, List.drop_succ_cons, List.drop_zero]
    iterate 4 still_step
    still_call (CG.out w3.drew rfl)
    repeat still_step
    refine wpStill_nil ?_
    change wpList _ _ _ _ _ w3.drew
    clear d0 e0 CG
    go_wp2
    clear hgc hgf
    obtain ⟨w4, hw4⟩ : ∃ w4, w4 = (w3.setCell ⟨g, k, none⟩ (.int .i64 (y + ((T : Int) - s)))).drew := ⟨_, rfl⟩
    rw [← hw4] at HSET HB4 HKS4 ⊢
    obtain ⟨r, hr⟩ : ∃ r, r = S.set k (y + ((T : Int) - s)) := ⟨_, rfl⟩
    rw [← hr] at HSET HRES
    clear hw4 hr
    go_loopw [9] (fun l wr => l = .int .i64 ((T : Int) - s) ∧ Blk wr g 3 (zvs r) ∧ Blk wr bs 53 [.slice (some ⟨g, 0, none⟩) n n] ∧ Below w.heap.size w wr) (fun _ _ => 0)
    case atStart => exact ⟨rfl, HSET.out, HKS4.out, HB4.out⟩
    case round =>
      clear HSET HKS4 HB4
      obtain ⟨rfl, hs, hk, hb⟩ := hrel
      have HSET := Lib.hid hs
      have HB4 := Lib.hid hb
      have d1 := hk.cell 0
      simp only [List.getElem?_cons_zero] at d1
      clear hs hk hb
      go_wp2
      go_ret2
      exact ⟨g, r, rfl, Nat.le_of_lt HG.out, HRES.out, HSET.out, HB4.out⟩
  · have hd0 := HNR.out
    simp only [if_neg hlt] at hd0
    obtain ⟨d0', hd0'⟩ : ∃ d : Nat, s = (T : Int) + (d : Int) := ⟨(s - T).toNat, by omega⟩
    rw [show (s - (T : Int)).toNat = d0' by omega] at hd0
    have HT := Lib.hid hd0
    have hd1 : d0' ≤ 268435456 := by omega
    have hSd := HS.out
    rw [hd0'] at hSd
    have HSD := Lib.hid hSd
    have hls : wrap64 ((T : Int) - s) = -(d0' : Int) := by rw [IntWalk.wrap64_in _ (by omega)]; omega
    clear hd0 hSd HNR hlt hSs hSn d0 e0 HS hd0'
    go_wp2
    simp only [hls]
    clear hls
    have HT3 := Lib.hid (show Trims w c n g bs T d0' S w3 from ⟨HS3.out, HSL.out, HA.out, HSD.out.symm, HKS.out, HB3.out⟩)
    go_loopw [9] (fun l wr => ∃ (d : Nat) (cur : List Int), l = .int .i64 (-(d : Int)) ∧ d ≤ d0' ∧ Trims w c n g bs T d cur wr ∧ (∀ r, Trim d cur r → NormR c (T : Int) r)) (fun l _ => (-(intOf l)).toNat)
    case atStart => exact ⟨d0', S, rfl, Nat.le_refl _, HT3.out, HT.out⟩
    case round =>
      clear HT HT3 HSD HS3 HKS HB3 HK3 HR3
      obtain ⟨d, cur, rfl, hd, htr, hall⟩ := hrel
      have HTR := Lib.hid htr
      have HALL := Lib.hid hall
      have d1 := htr.box.cell 0
      simp only [List.getElem?_cons_zero] at d1
      clear htr hall
      cases d with
      | zero =>
        have HRES := Lib.hid (HALL.out cur (.done cur))
        go_wp2
        go_ret2
        exact ⟨g, cur, rfl, Nat.le_of_lt HG.out, HRES.out, HTR.out.row, HTR.out.below⟩
      | succ d =>
        obtain ⟨k, hk⟩ := first_some cur (by have h1 := HTR.out.len; have h2 := HLEN.out; have h3 := HN.out; omega)
        have CG := Lib.hid (fun (W : World) (h : W.heap = wr.heap) => normGreatest_at 119 #[.pointer (some ⟨bs, 0, none⟩)] (enters_of Tryz.func119 (by kernel_rfl) rfl) cur HTR.out.len hn1 k hk W
          (fun j hj => normOf2_any (m := n) (by have := (HTR.out.box.same h).cell 0; simpa only [List.getElem?_cons_zero] using this) (Rd.of_blk (HTR.out.row.same h)) HTR.out.len j hj))
        have hkn : k < n := by have := hk.1; rw [HTR.out.len] at this; exact this
        have hgc := HTR.out.row.cell k
        have hgf := HTR.out.row.frozen k
        have hkS : k < cur.length := by rw [HTR.out.len]; exact hkn
        rw [zvs_get, List.getElem?_eq_getElem hkS] at hgc
        simp only [Option.map_some] at hgc
        have hyd : cur.getD k 0 = cur[k]'hkS := by simp [List.getD_eq_getElem?_getD, hkS]
        have hnn := all_nn14 HTR.out.alike
        have hy1 := le_sum12 hnn hkS
        have hy0 := hnn _ (List.getElem_mem hkS)
        rw [HTR.out.sum] at hy1
        have HNEXT := Lib.hid (HTR.out.next HNN.out HM.out.2 (by have := HBS.out.2; omega) (Nat.le_of_lt HG.out) hk)
        have HALL2 := Lib.hid (show ∀ r, Trim d (cur.set k (cur.getD k 0 - 1)) r → NormR c (T : Int) r from fun r hr => HALL.out r (.more d k cur r hk hr))
        rw [hyd] at HNEXT HALL2
        obtain ⟨y, hy⟩ : ∃ y, y = cur[k]'hkS := ⟨_, rfl⟩
        rw [← hy] at hgc hy0 hy1 HNEXT HALL2
        have hkni : (k : Int) < (n : Int) := by omega
        have hyT : y ≤ 536870912 := by omega
        clear hk hyd hy hkS hnn hy1
        go_wp2
        refine wp_region_still_tail 9 (by kernel_rfl) (by kernel_rfl) ?_
        simp only [List.take_succ_cons, List.take_zero, List.drop_succ_cons, List.drop_zero]
        iterate 4 still_step
        still_call (CG.out wr.drew rfl)
        repeat still_step
        refine wpStill_nil ?_
        change wpList _ _ _ _ _ wr.drew
        clear d1 CG
        go_wp2
        go_roundw
        case rel => exact ⟨d, cur.set k (y - 1), by go_num, by omega, HNEXT.out, HALL2.out⟩
        case measure => simp [intOf]; omega
end
end Go.Proofs.YtflcmmeoppdhdaaGreat
namespace Go.Proofs.YtflcmmeoppdhdaaGreat
open Go.RowKit Go.Sort Go.Shelf

/-- What is told of counts. -/
def NErr (c : List Int) (T : Nat) (err : Int) : Prop :=
  (c.any nBad = true ∧ err = 2) ∨ (c.any nBad = false ∧ ((many c = 0 ∨ (T : Int) < many c) ∧ err = 3 ∨ (many c ≠ 0 ∧ many c ≤ (T : Int)) ∧ err = 0))
section
variable {w : World} {B : Nat} {A : Option Addr} {n m : Nat} {c : List Int}
theorem many_pre {k : Nat} (h : k ≤ n) (hn1 : n ≤ 4096) : 0 ≤ many (c.take k) ∧ many (c.take k) ≤ 4096 := by
  have h1 := many_nn (c.take k)
  have h2 := many_le (c.take k)
  rw [List.length_take] at h2
  omega
set_option maxRecDepth 100000 in
set_option maxHeartbeats 1000000 in
theorem rnCheck_any (b T : Nat) (hb1 : 1 ≤ b) (hb2 : b ≤ 16) (hT : T = 2 ^ b) (hr : Rd w B A (zvs c)) (hn : c.length = n) (hn1 : n ≤ 4096) (err : Int) (herr : NErr c T err) :
    Calls Tryz.prog 58 #[.slice A n m, .int .i64 (b : Int)] w fun e w' => e = .returned (.int .i64 err) ∧ w' = w := by
  have HR := Lib.hid hr
  have HC := Lib.hid hn
  have HE := Lib.hid herr
  have HT := Lib.hid hT
  clear hr hn herr hT
  go_enter Tryz.func58, Tryz.ntmps58
  go_wp2
  go_loop [5, 6] (fun t i => ∃ k : Nat, k ≤ b ∧ i = .int .i64 (k : Int) ∧ t = .int .i64 ((2 ^ k : Nat) : Int)) (fun _ i => b - (intOf i).toNat)
  case atStart => exact ⟨0, Nat.zero_le _, rfl, rfl⟩
  case round =>
    obtain ⟨k, hk, rfl, rfl⟩ := hrel
    by_cases hlt : k < b
    · have hp : 2 ^ (k + 1) ≤ 65536 := Nat.pow_le_pow_right (n := 2) (by decide) (show k + 1 ≤ 16 by omega)
      have hp2 : 2 ^ (k + 1) = 2 * 2 ^ k := by rw [Nat.pow_succ]; omega
      obtain ⟨P, hP⟩ : ∃ P, P = 2 ^ k := ⟨_, rfl⟩
      rw [← hP] at hp2 ⊢
      rw [hp2] at hp
      have HP := Lib.hid hp2
      have hki : (k : Int) < (b : Int) := by omega
      clear hp2 hP
      go_wp2
      go_round
      case rel => exact ⟨k + 1, by omega, by go_num, by rw [HP.out]; simp⟩
      case measure => simp [intOf]; omega
    · obtain rfl : k = b := by omega
      have hTb : T ≤ 65536 := by rw [HT.out]; exact Nat.pow_le_pow_right (n := 2) (by decide) hb2
      rw [← HT.out]
      clear HT hlt hk
      go_wp2
      go_loop [7, 8] (fun s i => ∃ j : Nat, j ≤ n ∧ i = .int .i64 (j : Int) ∧ s = .int .i64 (many (c.take j)) ∧ (c.take j).any nBad = false) (fun _ i => n - (intOf i).toNat)
      case atStart => exact ⟨0, Nat.zero_le _, rfl, by simp [many], by simp⟩
      case round =>
        obtain ⟨j, hj, rfl, rfl, hnb⟩ := hrel
        by_cases hjn : j < n
        · have hjc : j < c.length := by have := HC.out; omega
          obtain ⟨ab, ao, rfl, -, hcell⟩ := cell_of_rd HR.out hjc
          have hs := many_take c j hjc
          have ht : (c.take (j + 1)).any nBad = nBad c[j] := by
            rw [List.take_add_one, List.getElem?_eq_getElem hjc, List.any_append, hnb]; simp
          have hmem : c[j] ∈ c := List.getElem_mem hjc
          obtain ⟨g0, g1⟩ := many_pre (c := c) hj hn1
          obtain ⟨x, hx⟩ : ∃ x, x = c[j]'hjc := ⟨_, rfl⟩
          rw [← hx] at hcell hs ht hmem
          obtain ⟨s, hss⟩ : ∃ s, s = many (c.take j) := ⟨_, rfl⟩
          rw [← hss] at hs g0 g1 ⊢
          have HS := Lib.hid hs
          have HTB := Lib.hid ht
          have HM := Lib.hid hmem
          have hji : (j : Int) < (n : Int) := by omega
          clear hs ht hmem hx hss hnb
          have herr2 : nBad x = true → err = 2 := fun h => by
            rcases HE.out with ⟨-, h2⟩ | ⟨h1, -⟩
            · exact h2
            · have := List.any_eq_false.1 h1 x HM.out
              exact absurd h this
          have HE2 := Lib.hid herr2
          clear herr2
          by_cases hx0 : x < 0
          · have h2 := HE2.out (by unfold nBad; rw [decide_eq_true hx0]; rfl)
            subst h2
            clear HE
            go_wp2
            go_ret
            exact ⟨rfl, rfl⟩
          by_cases hx1 : 1099511627776 < x
          · have h2 := HE2.out (by unfold nBad; rw [decide_eq_true hx1, Bool.or_true])
            subst h2
            clear HE
            go_wp2
            go_ret
            exact ⟨rfl, rfl⟩
          · have hmin : min x 1 = if 0 < x then 1 else 0 := by
              split <;> omega
            have hnb2 : nBad x = false := by unfold nBad; rw [decide_eq_false hx0, decide_eq_false hx1]; rfl
            have h01 : 0 ≤ min x 1 ∧ min x 1 ≤ 1 := by omega
            have HM1 := Lib.hid hmin
            have HNB := Lib.hid hnb2
            obtain ⟨h01, h02⟩ := h01
            clear hmin hnb2
            go_wp2
            go_round
            case rel => exact ⟨j + 1, by omega, by go_num, by rw [HS.out, HM1.out], by rw [HTB.out, HNB.out]⟩
            case measure => simp [intOf]; omega
        · obtain rfl : j = n := by omega
          rw [List.take_of_length_le (by have := HC.out; omega)] at hnb ⊢
          obtain ⟨M, hM⟩ : ∃ M, M = many c := ⟨_, rfl⟩
          have HE3 := Lib.hid (show ((M = 0 ∨ (T : Int) < M) ∧ err = 3 ∨ (M ≠ 0 ∧ M ≤ (T : Int)) ∧ err = 0) by
            rw [hM]
            rcases HE.out with ⟨h1, -⟩ | ⟨-, h2⟩
            · rw [hnb] at h1; cases h1
            · exact h2)
          rw [← hM]
          clear hnb HE hM
          by_cases h0 : M = 0
          · have h3 : err = 3 := by
              rcases HE3.out with ⟨-, h⟩ | ⟨h, -⟩
              · exact h
              · exact absurd h0 h.1
            subst h0 h3
            clear HE3
            go_wp2
            go_ret
            exact ⟨rfl, rfl⟩
          have hbe : (M == 0) = false := beq_eq_false_iff_ne.2 h0
          by_cases h1 : (T : Int) < M
          · have h3 : err = 3 := by
              rcases HE3.out with ⟨-, h⟩ | ⟨h, -⟩
              · exact h
              · have := h.2; omega
            subst h3
            clear HE3
            go_wp2
            go_ret
            exact ⟨rfl, rfl⟩
          · have h3 : err = 0 := by
              rcases HE3.out with ⟨h, -⟩ | ⟨-, h⟩
              · omega
              · exact h
            subst h3
            clear HE3
            go_wp2
            go_ret
            exact ⟨rfl, rfl⟩

set_option maxRecDepth 100000 in
theorem rnFirst_at (hr : Rd w B A (zvs c)) (hn : c.length = n) (hn1 : n ≤ 4096) (k : Nat) (hk : IsFirst c k) :
    Calls Tryz.prog 60 #[.slice A n m] w fun e w' => e = .returned (.int .i64 (k : Int)) ∧ w'.heap = w.heap ∧ Below w.heap.size w w' := by
  have HR := Lib.hid hr
  have HC := Lib.hid hn
  have HK := Lib.hid hk
  have hn0 : 0 < n := by have := hk.1; omega
  clear hr hn hk
  go_enter Tryz.func60, Tryz.ntmps60
  go_wp2
  go_loopw [3, 4] (fun f i wr => ∃ (j a : Nat), 1 ≤ j ∧ j ≤ n ∧ i = .int .i64 (j : Int) ∧ f = .int .i64 (a : Int) ∧ a < n ∧ IsFirst (c.take j) a ∧ wr.heap = w.heap ∧ Below w.heap.size w wr) (fun _ i _ => n - (intOf i).toNat)
  case atStart => exact ⟨1, 0, Nat.le_refl _, hn0, rfl, rfl, hn0, first_start c (by have := HC.out; omega), rfl, Below.refl _ _⟩
  case round =>
    obtain ⟨j, a, hj1, hj, rfl, rfl, ha, hf, hh, hb⟩ := hrel
    have HF := Lib.hid hf
    have HH := Lib.hid hh
    have HB := Lib.hid hb
    clear hf hb hh
    by_cases hlt : j < n
    · have hjc : j < c.length := by have := HC.out; omega
      have hac : a < c.length := by have := HC.out; omega
      obtain ⟨ab, ao, rfl, -, hc1⟩ := cell_of_rd (rd_same HR.out HH.out) hjc
      obtain ⟨ab', ao', he, -, hc2⟩ := cell_of_rd (rd_same HR.out HH.out) hac
      injection he with he
      injection he with he1 he2
      subst he1 he2
      have hji : (j : Int) < (n : Int) := by omega
      have hai : (a : Int) < (n : Int) := by omega
      have hnext := first_next c HF.out hjc
      have e1 : c.getD j 0 = c[j]'hjc := by simp [List.getD_eq_getElem?_getD, hjc]
      have e2 : c.getD a 0 = c[a]'hac := by simp [List.getD_eq_getElem?_getD, hac]
      rw [e1, e2] at hnext
      obtain ⟨x, hx⟩ : ∃ x, x = c[j]'hjc := ⟨_, rfl⟩
      obtain ⟨y, hy⟩ : ∃ y, y = c[a]'hac := ⟨_, rfl⟩
      rw [← hx] at hc1 hnext
      rw [← hy] at hc2 hnext
      have HX := Lib.hid hnext
      clear hnext hx hy e1 e2
      by_cases hg : y < x
      · have hx2 := HX.out
        rw [if_pos hg] at hx2
        have HX2 := Lib.hid hx2
        clear hx2
        go_wp2
        go_region
        go_wp2
        go_roundw
        case rel => exact ⟨j + 1, j, by omega, by omega, by go_num, rfl, hlt, HX2.out, HH.out, HB.out.drew⟩
        case measure => simp [intOf]; omega
      · have hx2 := HX.out
        rw [if_neg hg] at hx2
        have HX2 := Lib.hid hx2
        clear hx2
        go_wp2
        go_region
        go_wp2
        go_roundw
        case rel => exact ⟨j + 1, a, by omega, by omega, by go_num, rfl, ha, HX2.out, HH.out, HB.out.drew⟩
        case measure => simp [intOf]; omega
    · obtain rfl : j = n := by omega
      have h := HF.out
      rw [List.take_of_length_le (by have := HC.out; omega)] at h
      obtain rfl := h.one HK.out
      clear h
      go_wp2
      go_ret
      exact ⟨rfl, HH.out, HB.out⟩
end
end Go.Proofs.YtflcmmeoppdhdaaGreat
