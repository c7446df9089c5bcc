/-
  Layer 22: lens of a text. · Layer 22: the program's Code. · Layer 22: the program takes lens. · Layer 22: the program takes letters. · Layer 22: the program's Decode, of what was coded and bits behind it. · Layer 22: what bytes are coded as, as one relation; both sides and the way back told by it.
-/
import Derived.Test.YtflcmmeoppdhdaaGreatR02
import Derived.Test.YtflcmmeoppdhdaaGreatR03
import Derived.Test.YtflcmmeoppdhdaaGreatR06
import Derived.Test.YtflcmmeoppdhdaaGreatR07
import Derived.Test.YtflcmmeoppdhdaaGreatR11
import Derived.Test.YtflcmmeoppdhdaaGreatR14
import Derived.Test.YtflcmmeoppdhdaaGreatR16
import Derived.Test.YtflcmmeoppdhdaaGreatR17
import Derived.Test.YtflcmmeoppdhdaaGreatR19
import Derived.Deep.LoopGhost
import Derived.Deep.RegionHeld3
import Derived.Deep.AppendLies
import Derived.Deep.DeepCutAuto
import Derived.Shelf.Abstract
import Derived.Maps.AppendAt
import Derived.Lib.QuietBelow
import Derived.BigQuiet
import Derived.Deep.RegionWith
namespace Go.Proofs.YtflcmmeoppdhdaaGreat
open Go.RowKit Go.Sort Go.Shelf

theorem intL_natL {o : List Int} (h : ∀ x ∈ o, 0 ≤ x) : intL (natL o) = o := by
  unfold intL natL
  rw [List.map_map]
  conv => rhs; rw [← List.map_id o]
  refine List.map_congr_left fun x hx => ?_
  have := h x hx
  simp only [Function.comp, id]
  omega
theorem cntL_good {l : List UInt8} (h : l.length ≤ 1500) : Good (cntL l) := fun x hx => by have := cntL_le l x hx; omega
theorem cntL_nn (l : List UInt8) : ∀ x ∈ cntL l, 0 ≤ x := fun x hx => (cntL_le l x hx).1
/-- Lens of a text: none too long, whole, and each of its letters has one. -/
structure LensT (l : List UInt8) (o : List Nat) : Prop where
  len : o.length = 256
  le : ∀ x ∈ o, x ≤ 15
  kraft : ends (lenC o) 15 ≤ 32768
  some : ∀ b ∈ l, 1 ≤ o.getD b.toNat 0
theorem posL_some {l : List UInt8} (h : l ≠ []) : 1 ≤ (posL (cntL l)).length := by
  obtain ⟨b, t, rfl⟩ := List.exists_cons_of_ne_nil h
  have h2 := cntL_mem (l := b :: t) (b := b) List.mem_cons_self
  have hlt : b.toNat < (cntL (b :: t)).length := by rw [cntL_len]; exact b.toNat_lt
  have : (cntL (b :: t))[b.toNat] ∈ posL (cntL (b :: t)) := by
    unfold posL
    rw [List.mem_filter]
    refine ⟨List.getElem_mem hlt, ?_⟩
    have e : (cntL (b :: t)).getD b.toNat 0 = (cntL (b :: t))[b.toNat] := by simp [List.getD_eq_getElem?_getD, hlt]
    rw [e] at h2
    simpa using h2
  exact List.length_pos_of_mem this
theorem lensT_of {l : List UInt8} {o : List Int} (hl : l ≠ []) (h : LensOfR (cntL l) o) : LensT l (natL o) := by
  have hnn := cntL_nn l
  have hok := cBad_none.1 (lens_ok h hnn)
  have hlen := h.len.trans (cntL_len l)
  have hw := whole_most (lens_whole h hnn (posL_some hl))
  refine ⟨by rw [natL_len]; exact hlen, fun x hx => ?_, ?_, fun b hb => ?_⟩
  · obtain ⟨y, hy, rfl⟩ := List.mem_map.1 hx
    have := hok y hy
    omega
  · rw [← kraft_ends]; exact hw
  · have h2 := cntL_mem hb
    have hlt : b.toNat < (cntL l).length := by rw [cntL_len]; exact b.toNat_lt
    have hlo : b.toNat < o.length := by rw [hlen]; exact b.toNat_lt
    have h3 := lens_at h hnn hlo hlt
    have e : (cntL l).getD b.toNat 0 = (cntL l)[b.toNat] := by simp [List.getD_eq_getElem?_getD, hlt]
    rw [natL_get o hlo]
    omega
end Go.Proofs.YtflcmmeoppdhdaaGreat
namespace Go.Proofs.YtflcmmeoppdhdaaGreat
open Go.RowKit Go.Sort Go.Shelf

section
variable {w : World} {A : Option Addr} {n m : Nat} {l : List UInt8}
set_option maxHeartbeats 1000000 in
theorem huffCode_nil (w : World) (A : Option Addr) (m : Nat) : Calls Tryz.prog 49 #[.slice A 0 m] w fun e w' => e = .returned (.slice none 0 0) ∧ w' = w := by
  go_enter Tryz.func49, Tryz.ntmps49
  go_wp2
  go_ret
  exact ⟨rfl, rfl⟩
set_option maxHeartbeats 4000000 in
set_option maxRecDepth 100000 in
theorem huffCode_any (hr : Rd w w.heap.size A (bvs l)) (hn : l.length = n) (h1 : 1 ≤ n) (hn1 : n ≤ 1500) :
    Calls Tryz.prog 49 #[.slice A n m] w fun e w' => ∃ o bs, LensOfR (cntL l) o ∧ Packs bs (huffB (natL o) l) ∧ NewBy w bs e w' := by
  have hne : l ≠ [] := fun e => by rw [e] at hn; simp at hn; omega
  have C1 := Lib.hid (normCount_any (m := m) hr hn (by omega))
  have HR := Lib.hid hr
  have HN := Lib.hid (And.intro hn hne)
  have hni : ¬ (n : Int) = 0 := by omega
  clear hr hn hne
  go_enter Tryz.func49, Tryz.ntmps49
  go_wp2_with fail
  refine C1.out.mono ?_
  rintro e w1 ⟨g1, rfl, -, hk1, hb1⟩
  have C2 := Lib.hid (lens_Of (m := 256) (Rd.of_blk hk1) (cntL_len l) (by decide) (cntL_good (by have := HN.out.1; omega)))
  have HB1 := Lib.hid hb1
  clear hk1 hb1 C1
  go_wp2_with fail
  refine C2.out.mono ?_
  rintro e w2 ⟨v2, o, rfl, ho, hv, hb2⟩
  have hnn := cntL_nn l
  have hol := ho.len.trans (cntL_len l)
  obtain ⟨g2, n2, rfl, hn2, -, hblk⟩ := hv
  obtain rfl : n2 = 256 := by omega
  have hok := lens_ok ho hnn
  have C3 := Lib.hid (canonMake_ok (m := 256) (Rd.of_blk hblk) hol (by decide) hok (lens_whole ho hnn (posL_some HN.out.2)))
  have hT := lensT_of HN.out.2 ho
  rw [← intL_natL (fun x hx => (cBad_none.1 hok x hx).1)] at hblk
  have HO := Lib.hid ho
  obtain ⟨on, hon⟩ : ∃ on, on = natL o := ⟨_, rfl⟩
  rw [← hon] at C3 hT hblk
  have HT := Lib.hid hT
  have HON := Lib.hid hon
  have HK2 := Lib.hid hblk
  have HB2 := Lib.hid (HB1.out.trans (hb2.mono HB1.out.size))
  clear hb2 hnn hol hn2 hok ho hblk hT hon C2 HB1
  go_wp2_with fail
  refine C3.out.mono ?_
  rintro e w3 ⟨E, g', M, S, rfl, hord, hca, hb3⟩
  obtain ⟨w4, hw4⟩ : ∃ w4, w4 = w3.alloc (.cells #[.slice none 0 0, .int .i64 0] 159) := ⟨_, rfl⟩
  have hg4 : Blk w4 w3.heap.size 159 [.slice none 0 0, .int .i64 0] := by rw [hw4]; exact heap_alloc_new w3 _
  have hb4 : Below w3.heap.size w3 w4 := by rw [hw4]; exact (Below.refl _ _).alloc (Nat.le_refl _) _
  have HCA := Lib.hid hca
  have HORD := Lib.hid hord
  have HK3 := Lib.hid (HK2.out.grow hb3)
  have HB3 := Lib.hid (HB2.out.trans (hb3.mono HB2.out.size))
  have HW4 := Lib.hid hw4
  have HWR4 := Lib.hid (WrO.new (B := w4.heap.size) hg4 (Nat.le_refl _))
  have HB4 := Lib.hid hb4
  have HK4 := Lib.hid (HK3.out.grow hb4)
  have hlt4 : w3.heap.size < w4.heap.size := hg4.lt
  clear hb3 hca hord hg4 hb4 hw4 C3 HK2 HB2
  go_wp2_with fail
  rw [← HW4.out]
  have hrg := HK3.out.lt
  obtain ⟨G, hG⟩ : ∃ G, G = w3.heap.size := ⟨_, rfl⟩
  have HG := Lib.hid hG
  rw [← hG] at HWR4 hlt4 hrg ⊢
  refine (layLens_any (m := 256) w4 HWR4.out HK4.out (by omega) HT.out.len (by decide) HT.out.le (by simp)).mono ?_
  rintro e w5 ⟨rfl, hw5, ho5⟩
  have HW5 := Lib.hid (show WrO w5 w4.heap.size G (lensB on ++ lettersB on (l.take 0)) by rw [List.take_zero, show lettersB on [] = [] from rfl, List.append_nil]; exact hw5)
  have HB5 := Lib.hid (show Below w3.heap.size w3 w5 from HB4.out.trans (ho5.below (by omega) (by omega) (by omega)))
  obtain ⟨S4, hS4⟩ : ∃ S4, S4 = w4.heap.size := ⟨_, rfl⟩
  rw [← hS4] at HW5 hlt4
  have HS4 := Lib.hid hS4
  clear hw5 ho5 HB4 HK4 HWR4 HW4 hG hS4
  go_wp2
  go_loopw [29] (fun i wr => ∃ k : Nat, k ≤ n ∧ i = .int .i64 (k : Int) ∧ WrO wr S4 G (lensB on ++ lettersB on (l.take k)) ∧ Below w3.heap.size w3 wr) (fun i _ => n - (intOf i).toNat)
  case atStart => exact ⟨0, Nat.zero_le _, rfl, HW5.out, HB5.out⟩
  case round =>
    clear HW5 HB5
    obtain ⟨k, hk, rfl, hwr, hb⟩ := hrel
    have HWR := Lib.hid hwr
    have HB := Lib.hid hb
    have hll : (lensB on ++ lettersB on (l.take k)).length ≤ 30000 := by
      have h1 := lensB_len on
      have h2 := lettersB_len HT.out.le (l.take k)
      have h3 := HT.out.len
      rw [List.length_append]
      rw [List.length_take] at h2
      omega
    have HLL := Lib.hid hll
    by_cases hlt : k < n
    · have hkl : k < l.length := by have := HN.out.1; omega
      have hri := ((HR.out.below HB3.out).more HB3.out.size).below hb
      obtain ⟨ab, ao, rfl, hab, hcell⟩ := hri k _ (bvs_get l k hkl)
      have hsm := HT.out.some _ (List.getElem_mem hkl)
      have hnx := lettersB_next on l hkl
      unfold letB at hnx
      have hblt := (l[k]'hkl).toNat_lt
      obtain ⟨b, hbe⟩ : ∃ b, b = (l[k]'hkl).toNat := ⟨_, rfl⟩
      rw [← hbe] at hcell hsm hnx hblt
      have hbl : b < on.length := by have := HT.out.len; omega
      have hs15 : on.getD b 0 ≤ 15 := by
        rw [List.getD_eq_getElem?_getD, List.getElem?_eq_getElem hbl]
        exact HT.out.le _ (List.getElem_mem hbl)
      have hcp := codeL_pow HT.out.kraft hbl hsm hs15
      have hc2 : codeL on b < 9223372036854775808 := Nat.lt_of_lt_of_le hcp (Nat.le_trans (Nat.pow_le_pow_right (n := 2) (by decide) hs15) (by decide))
      have C4 := codesOf_in (HCA.out.grow hb) b (by omega)
      rw [pat_code HORD.out hbl, if_pos (by omega)] at C4
      unfold codeP at C4
      simp only at C4
      obtain ⟨c, hc⟩ : ∃ c, c = codeL on b := ⟨_, rfl⟩
      obtain ⟨s, hs⟩ : ∃ s, s = on.getD b 0 := ⟨_, rfl⟩
      rw [← hc, ← hs] at C4 hnx
      rw [← hc] at hc2
      rw [← hs] at hs15
      have C4 := Lib.hid C4
      have HNX := Lib.hid hnx
      have hki : (k : Int) < (n : Int) := by omega
      have hbw := Lib.hid (show IntKind.i64.wrap (b : Int) = (b : Int) by rw [IntKind.wrap_i64]; omega)
      clear hwr hb hri hsm hnx hbe hbl hcp hc hs hll
      go_wp2_with fail
      first | rw [hbw.out] | skip
      refine C4.out.mono ?_
      rintro e w6 ⟨rfl, q, rfl⟩
      have HWD := Lib.hid (HWR.out.kept (below_drawn wr q))
      have HBD := Lib.hid (below_drewN HB.out q)
      clear C4 HWR HB hcell
      go_wp2_with fail
      refine (layCode_any G S4 _ c s _ HWD.out (by have := HLL.out; omega) hc2 (by omega)).mono ?_
      rintro e w7 ⟨rfl, hw7, ho7⟩
      have HW7 := Lib.hid (show WrO w7 S4 G (lensB on ++ lettersB on (l.take (k + 1))) by rw [HNX.out, ← List.append_assoc]; exact hw7)
      have HB7 := Lib.hid (HBD.out.trans (ho7.below (by have := HG.out; omega) (by have := HG.out; omega) HBD.out.size))
      clear hw7 ho7 HWD HBD
      go_wp2
      go_roundw
      case rel => exact ⟨k + 1, by omega, by go_num, HW7.out, HB7.out⟩
      case measure => simp [intOf]; omega
    · obtain rfl : k = n := by omega
      rw [List.take_of_length_le (Nat.le_of_eq HN.out.1)] at hwr hll
      have C5 := Lib.hid (oBytes_any G S4 _ wr hwr (by omega))
      have HBW := Lib.hid (HB3.out.trans (HB.out.mono HB3.out.size))
      clear hwr hb hll HWR HLL
      go_wp2_with fail
      refine C5.out.mono ?_
      rintro e w6 ⟨bs, hp, v6, rfl, hown, hb6⟩
      have HE := Lib.hid (And.intro hp (And.intro (own_more hown HBW.out.size) (HBW.out.trans (hb6.mono HBW.out.size))))
      clear hp hown hb6 C5
      go_wp2
      go_ret
      exact ⟨o, bs, HO.out, by rw [← HON.out]; exact HE.out.1, _, rfl, HE.out.2.1, HE.out.2.2⟩
end
end Go.Proofs.YtflcmmeoppdhdaaGreat
namespace Go.Proofs.YtflcmmeoppdhdaaGreat
open Go.RowKit Go.Sort Go.Shelf

theorem getV_app (a L : List Bool) {n : Nat} (h : a.length = n) : getV (a ++ L, 0) n = valOf a ∧ getS (a ++ L, 0) n = (L, 0) := by
  subst h
  unfold getV getS
  rw [if_pos ⟨rfl, by simp⟩, if_pos rfl, if_pos (by simp)]
  simp
theorem getV_bit (b : Bool) (L : List Bool) : getV (b :: L, 0) 1 = b.toNat ∧ getS (b :: L, 0) 1 = (L, 0) := by
  have := getV_app [b] L (n := 1) rfl
  simpa [valOf] using this
theorem onlyT_new {B : Nat} {ts : List TypeId} {w w' : World} (h : OnlyT B ts w w') {p : Addr} (hp : w.heap.size ≤ p.block) (u : Value) : OnlyT B ts w (w'.setCell p u) :=
  ⟨h.os, h.tape, h.output, by simpa [World.setCell] using h.size, fun k hk hn => (Below.heap_setCell w' p u k (by omega)).trans (h.block k hk hn)⟩
/-- The lens that have been taken, and noughts. -/
def lenK (on : List Nat) (k : Nat) : List Int := intL (on.take k) ++ List.replicate (on.length - k) 0
theorem lenK_zero (on : List Nat) : lenK on 0 = List.replicate on.length 0 := by unfold lenK; simp [intL]
theorem lenK_all (on : List Nat) : lenK on on.length = intL on := by unfold lenK; simp
theorem lenK_len (on : List Nat) {k : Nat} (h : k ≤ on.length) : (lenK on k).length = on.length := by
  unfold lenK; rw [List.length_append, intL_len, List.length_take, List.length_replicate]; omega
theorem lenK_set (on : List Nat) {k : Nat} (h : k < on.length) : (lenK on k).set k ((on[k] : Nat) : Int) = lenK on (k + 1) := by
  unfold lenK
  have hl : (intL (on.take k)).length = k := by rw [intL_len, List.length_take]; omega
  rw [List.set_append_right _ _ (by omega), hl, Nat.sub_self]
  obtain ⟨m, hm⟩ : ∃ m, on.length - k = m + 1 := ⟨on.length - k - 1, by omega⟩
  have hm2 : on.length - (k + 1) = m := by omega
  rw [hm, hm2, List.replicate_succ, List.set_cons_zero]
  unfold intL
  rw [List.take_add_one, List.getElem?_eq_getElem h, List.map_append, List.append_assoc]
  rfl
theorem lenK_get (on : List Nat) {k : Nat} (h : k < on.length) : (zvs (lenK on k))[k]? = some (.int .i64 0) := by
  unfold lenK
  have hl : (intL (on.take k)).length = k := by rw [intL_len, List.length_take]; omega
  rw [zvs_get, List.getElem?_append_right (by omega), hl, Nat.sub_self, List.getElem?_replicate, if_pos (by omega)]
  rfl
theorem lenK_skip (on : List Nat) {k : Nat} (h : k < on.length) (h0 : on[k] = 0) : lenK on (k + 1) = lenK on k := by
  have hlt : k < (lenK on k).length := by rw [lenK_len on (by omega)]; exact h
  have h1 := lenK_get on h
  rw [zvs_get, List.getElem?_eq_getElem hlt] at h1
  injection h1 with h1
  injection h1 with _ h1
  have h2 := List.set_getElem_self hlt
  rw [h1] at h2
  rw [← lenK_set on h, h0]
  exact h2
set_option maxHeartbeats 4000000 in
set_option maxRecDepth 100000 in
theorem takeLens_any {g : Nat} {on : List Nat} {R : List Bool} (w : World) (hn : on.length = 256) (h15 : ∀ x ∈ on, x ≤ 15) (h : RdrIs w g (lensB on ++ R) 0) :
    Calls Tryz.prog 103 #[.pointer (some ⟨g, 0, none⟩)] w fun e w' => ∃ r, e = .returned (.tuple #[.slice (some ⟨r, 0, none⟩) 256 256, .bool true]) ∧ w.heap.size ≤ r ∧ Blk w' r 3 (zvs (intL on)) ∧ RdrIs w' g R 0 ∧ OnlyT g [222] w w' := by
  have HN := Lib.hid (And.intro hn h15)
  obtain ⟨W0, hW0⟩ : ∃ W, W = w.alloc (.cells (plv (List.replicate 256 0)).toArray 3) := ⟨_, rfl⟩
  have hmk : (Instr.makeSlice 53 (.int .i64 256) (.int .i64 256)).run Tryz.prog w = .ok (.slice (some ⟨w.heap.size, 0, none⟩) 256 256) W0 := by rw [hW0]; exact make_eqI 256 (by decide) w
  have b0 : Below w.heap.size w W0 := by rw [hW0]; exact (Below.refl _ _).alloc (Nat.le_refl _) _
  have k0 : Blk W0 w.heap.size 3 (zvs (lenK on 0)) := by
    have := heap_alloc_new w (.cells (plv (List.replicate 256 0)).toArray 3)
    rw [lenK_zero, hn, hW0]
    unfold Blk
    rw [this]
    simp [zvs, plv]
  have hg : g < w.heap.size := by obtain ⟨_, _, _, _, hk, -⟩ := h; exact hk.lt
  obtain ⟨r, hr⟩ : ∃ r, r = w.heap.size := ⟨_, rfl⟩
  rw [← hr] at hmk k0 hg
  have H0 := Lib.hid (And.intro k0 (And.intro (h.only (OnlyT.of_below (B := w.heap.size) (ts := []) b0) (by simp) (by simp)) (OnlyT.of_below (B := g) (ts := [222]) b0)))
  have HRR := Lib.hid hr
  clear hn h15 b0 k0 hW0 h hr
  go_enter Tryz.func103, Tryz.ntmps103
  go_wp2
  clear hmk
  go_loopw [9] (fun i wr => ∃ k : Nat, k ≤ 256 ∧ i = .int .i64 (k : Int) ∧ Blk wr r 3 (zvs (lenK on k)) ∧ RdrIs wr g (lensB (on.drop k) ++ R) 0 ∧ OnlyT g [222] w wr) (fun i _ => 256 - (intOf i).toNat)
  case atStart => exact ⟨0, Nat.zero_le _, rfl, H0.out.1, H0.out.2.1, H0.out.2.2⟩
  case round =>
    clear H0
    obtain ⟨k, hk, rfl, hbl, hrd, ho⟩ := hrel
    by_cases hlt : k < 256
    · have hko : k < on.length := by rw [HN.out.1]; exact hlt
      rw [lensB_drop on hko] at hrd
      have hx15 := HN.out.2 _ (List.getElem_mem hko)
      have hst := lenK_set on hko
      have hsk := lenK_skip on hko
      obtain ⟨x, hx⟩ : ∃ x, x = on[k] := ⟨_, rfl⟩
      rw [← hx] at hrd hx15 hst hsk
      obtain ⟨L, hL⟩ : ∃ L, L = lensB (on.drop (k + 1)) ++ R := ⟨_, rfl⟩
      rw [List.append_assoc, ← hL] at hrd
      have HL := Lib.hid hL
      have HST := Lib.hid hst
      have HSK := Lib.hid hsk
      have HO := Lib.hid ho
      have HBL := Lib.hid hbl
      have hki : (k : Int) < 256 := by omega
      have hgt := lenK_get on hko
      have HGT := Lib.hid hgt
      have HKL := Lib.hid (show k < (zvs (lenK on k)).length by rw [zvs_length, lenK_len on (by omega)]; exact hko)
      clear hx hL hst hsk ho hbl hko hgt
      by_cases hx0 : x = 0
      · subst hx0
        have C1 := rGet_st g 1 (lenB 0 ++ L, 0) wr hrd (by decide)
        rw [show lenB 0 ++ L = false :: L from rfl, (getV_bit false L).1, (getV_bit false L).2] at C1
        have C1 := Lib.hid C1
        clear hrd
        go_wp2_with fail
        refine C1.out.mono ?_
        rintro _ w1 ⟨rfl, hrd1, ho1⟩
        have HE := Lib.hid (And.intro (HBL.out.only ho1 (by decide)) (And.intro hrd1 (HO.out.trans ho1)))
        clear hrd1 ho1 C1
        go_wp2
        go_roundw
        case rel => exact ⟨k + 1, by omega, by go_num, by rw [HSK.out (by trivial)]; exact HE.out.1, by rw [← HL.out]; exact HE.out.2.1, HE.out.2.2⟩
        case measure => simp [intOf]; omega
      · have hlb : lenB x = true :: bitsOf x 4 := by unfold lenB; rw [if_neg hx0]
        have C1 := rGet_st g 1 (lenB x ++ L, 0) wr hrd (by decide)
        rw [hlb, List.cons_append, (getV_bit true _).1, (getV_bit true _).2] at C1
        have C1 := Lib.hid C1
        have C2 := fun W h => rGet_st g 4 (bitsOf x 4 ++ L, 0) W h (by decide)
        rw [(getV_app (bitsOf x 4) L (bitsOf_length x 4)).1, (getV_app (bitsOf x 4) L (bitsOf_length x 4)).2, valOf_bitsOf, Nat.mod_eq_of_lt (show x < 2 ^ 4 by omega)] at C2
        have C2 := Lib.hid C2
        have hxw := Lib.hid (show IntKind.i64.wrap (x : Int) = (x : Int) by rw [IntKind.wrap_i64]; omega)
        have hxi : ¬ (x : Int) = 0 := by omega
        clear hrd hlb
        go_wp2_with fail
        refine C1.out.mono ?_
        rintro _ w1 ⟨rfl, hrd1, ho1⟩
        have HE := Lib.hid (And.intro (HBL.out.only ho1 (by decide)) (And.intro hrd1 (HO.out.trans ho1)))
        clear hrd1 ho1 C1
        go_wp2_with fail
        refine (C2.out w1 HE.out.2.1).mono ?_
        rintro _ w2 ⟨rfl, hrd2, ho2⟩
        have hb2 := HE.out.1.only ho2 (by decide)
        have hc2 := hb2.cell k
        rw [HGT.out] at hc2
        have hf2 := hb2.frozen k
        have HB2 := Lib.hid hb2
        have HD2 := Lib.hid (And.intro hrd2 (HE.out.2.2.trans ho2))
        clear hb2 hrd2 ho2 C2 HE
        go_wp2
        go_roundw
        case rel => exact ⟨k + 1, by omega, by go_num, by rw [← HST.out, ← zvs_set]; exact HB2.out.set_ k _, by rw [← HL.out]; exact HD2.out.1.only (OnlyT.set_ (B := 0) (ts := [3]) HB2.out (Nat.zero_le _) _ (by simp)) (by decide) (by decide), onlyT_new HD2.out.2 (by rw [← HRR.out]; exact Nat.le_refl _) _⟩
        case measure => simp [intOf]; omega
    · obtain rfl : k = 256 := by omega
      rw [List.drop_of_length_le (Nat.le_of_eq HN.out.1), show lensB [] = [] from rfl, List.nil_append] at hrd
      rw [show lenK on 256 = intL on by rw [← HN.out.1]; exact lenK_all on] at hbl
      have HE := Lib.hid (And.intro hbl (And.intro hrd ho))
      clear hbl hrd ho
      go_wp2
      go_ret2
      exact ⟨r, rfl, by rw [HRR.out]; exact Nat.le_refl _, HE.out.1, HE.out.2.1, HE.out.2.2⟩
end Go.Proofs.YtflcmmeoppdhdaaGreat
namespace Go.Proofs.YtflcmmeoppdhdaaGreat
open Go.RowKit Go.Sort Go.Shelf

/-- make of n noughts, as an equation. -/
theorem make_eqB {P : Program} {t e : TypeId} {i : TypeInfo} {z : Value} (ht : P.underlying t = some (.slice e)) (hi : P.info? e = some i) (hz : i.zero = some z) (hzs : z.cells = #[z]) (hsize : i.size = 1) (hby : i.bytes ≤ 8) (n : Nat) (hn : n ≤ 1000000) (w : World) :
    (Instr.makeSlice t (.int .i64 (n : Int)) (.int .i64 (n : Int))).run P w = .ok (.slice (some ⟨w.heap.size, 0, none⟩) n n) (w.alloc (.cells (List.replicate n z).toArray e)) := by
  have hbn : ((i.bytes * n : Nat) : Int) ≤ 281474976710656 := by have := Nat.mul_le_mul_right n hby; omega
  rw [Int.natCast_mul] at hbn
  have hrun := run_make (P := P) w t e i z ht hi hz .i64 .i64 n n (by omega) (Int.le_refl _) hbn (by omega)
  simp only [Int.toNat_natCast, hsize, Nat.mul_one, hzs] at hrun
  have hcells : madeCells #[z] n = (List.replicate n z).toArray := by
    apply Array.ext'; rw [toList_madeCells_one]
  rw [hcells] at hrun
  exact hrun
theorem CAt.only {w w' : World} {B E g M n : Nat} {cs : List Pr} {es : List (Pr × Nat)} (h : CAt w E g M n cs es) (ho : OnlyT B [222] w w') : CAt w' E g M n cs es :=
  ⟨h.box.only ho (by decide), h.row.only ho (by decide), h.len, (ho.block M h.map.lt (.inr fun t ht hof => by
    obtain ⟨cs', fr, hof⟩ := hof
    have hm := h.map
    unfold MapC at hm
    rw [hm] at hof
    cases hof)).trans h.map⟩
/-- The letters that have been taken, and noughts. -/
def letK (l : List UInt8) (k : Nat) : List UInt8 := l.take k ++ List.replicate (l.length - k) 0
theorem letK_zero (l : List UInt8) : letK l 0 = List.replicate l.length 0 := by unfold letK; simp
theorem letK_all (l : List UInt8) : letK l l.length = l := by unfold letK; simp
theorem letK_get (l : List UInt8) {k : Nat} (h : k < l.length) : (bvs (letK l k))[k]? = some (.int .u8 0) := by
  unfold letK bvs
  have hl : (l.take k).length = k := by rw [List.length_take]; omega
  rw [List.getElem?_map, List.getElem?_append_right (by omega), hl, Nat.sub_self, List.getElem?_replicate, if_pos (by omega)]
  rfl
theorem letK_set (l : List UInt8) {k : Nat} (h : k < l.length) : (bvs (letK l k)).set k (.int .u8 ((l[k].toNat : Nat) : Int)) = bvs (letK l (k + 1)) := by
  have e : (bvs (letK l k)).set k (.int .u8 ((l[k].toNat : Nat) : Int)) = bvs ((letK l k).set k l[k]) := by simp [bvs, List.map_set]
  rw [e]
  unfold letK
  have hl : (l.take k).length = k := by rw [List.length_take]; omega
  rw [List.set_append_right _ _ (by omega), hl, Nat.sub_self]
  obtain ⟨m, hm⟩ : ∃ m, l.length - k = m + 1 := ⟨l.length - k - 1, by omega⟩
  have hm2 : l.length - (k + 1) = m := by omega
  rw [hm, hm2, List.replicate_succ, List.set_cons_zero, List.take_add_one, List.getElem?_eq_getElem h, List.append_assoc]
  rfl
theorem codeB_drop (c s t : Nat) (h : t < s) : (codeB c s).drop t = c.testBit (s - 1 - t) :: (codeB c s).drop (t + 1) := by
  have hl : t < (codeB c s).length := by rw [codeB_len]; exact h
  have h1 := codeB_get c s t h
  rw [List.getElem?_eq_getElem hl] at h1
  injection h1 with h1
  rw [List.drop_eq_getElem_cons hl, h1]
set_option maxHeartbeats 4000000 in
set_option maxRecDepth 100000 in
theorem takeLetters_any {g E gg M n : Nat} {on S : List Nat} {l : List UInt8} {R : List Bool} (w : World) (hT : LensT l on) (hord : OrdL on S) (hca : CAt w E gg M 256 (codesS on S) (entsS on S))
    (hrd : RdrIs w g (lettersB on l ++ R) 0) (hn : l.length = n) (hn1 : n ≤ 1500) :
    Calls Tryz.prog 104 #[.pointer (some ⟨g, 0, none⟩), .pointer (some ⟨E, 0, none⟩), .int .i64 (n : Int)] w fun e w' => ∃ r, e = .returned (.tuple #[.slice (some ⟨r, 0, none⟩) n n, .bool true]) ∧ w.heap.size ≤ r ∧ Blk w' r 5 (bvs l) ∧ RdrIs w' g R 0 ∧ OnlyT g [222] w w' := by
  obtain ⟨i0, hi, hz0, hz1, hz2⟩ := info_parts info_u8'
  have C1 := Lib.hid (rLeft_is hrd)
  obtain ⟨A, c0, bs, hra⟩ := hrd.at_
  have hrow := hra.row
  have hll : n ≤ (lettersB on l ++ R).length := by
    have := lettersB_least l hT.some
    rw [List.length_append]
    omega
  obtain ⟨N, hN⟩ : ∃ N, N = (lettersB on l ++ R).length := ⟨_, rfl⟩
  rw [← hN] at C1 hll
  have hNi : ¬ (N : Int) < (n : Int) := by omega
  obtain ⟨W0, hW0⟩ : ∃ W, W = w.drew.alloc (.cells (List.replicate n (Value.int .u8 0)).toArray 5) := ⟨_, rfl⟩
  have hmk : (Instr.makeSlice 22 (.int .i64 (n : Int)) (.int .i64 (n : Int))).run Tryz.prog w.drew = .ok (.slice (some ⟨w.heap.size, 0, none⟩) n n) W0 := by
    rw [hW0]
    exact make_eqB Tryz.underlying22 hi hz0 rfl hz1 (by rw [hz2]; decide) n (by omega) w.drew
  have b0 : Below w.heap.size w W0 := by rw [hW0]; exact (Below.refl _ _).drew.alloc (Nat.le_refl _) _
  have k0 : Blk W0 w.heap.size 5 (bvs (letK l 0)) := by
    have := heap_alloc_new w.drew (.cells (List.replicate n (Value.int .u8 0)).toArray 5)
    rw [letK_zero, hn, hW0]
    unfold Blk
    rw [show w.heap.size = w.drew.heap.size from rfl, this]
    simp [bvs]
  have hgl : g < w.heap.size := by obtain ⟨_, hk, -⟩ := hra; exact hk.lt
  obtain ⟨r, hr⟩ : ∃ r, r = w.heap.size := ⟨_, rfl⟩
  have hrow2 : bs = [] ∨ ∃ b off, A = some ⟨b, off, none⟩ ∧ b ≠ r := by
    rcases hrow with h | ⟨b, off, h1, h2⟩
    · exact .inl h
    · exact .inr ⟨b, off, h1, by omega⟩
  rw [← hr] at hmk k0 hgl
  have HRW := Lib.hid (And.intro hrow2 (And.intro hgl hr))
  have H0 := Lib.hid (And.intro k0 (And.intro (hra.only (OnlyT.of_below (B := w.heap.size) (ts := []) b0) (by simp) (by simp)) (OnlyT.of_below (B := g) (ts := [222]) b0)))
  have HT := Lib.hid hT
  have HORD := Lib.hid hord
  have HCA := Lib.hid hca
  have HN := Lib.hid hn
  clear hT hord hca hrd hn hra hrow hrow2 hN hll hW0 b0 k0 hr hgl
  go_enter Tryz.func104, Tryz.ntmps104
  go_wp2_with fail
  go_step3
  go_wp2_with fail
  refine C1.out.mono ?_
  rintro e w1 ⟨rfl, hw⟩
  subst hw
  go_wp2
  rename ¬ N < n => hq
  clear hmk C1 hNi hq
  go_step3
  go_wp2
  go_loopw [22] (fun i wr => ∃ k : Nat, k ≤ n ∧ i = .int .i64 (k : Int) ∧ Blk wr r 5 (bvs (letK l k)) ∧ RdrA wr g A c0 bs (lettersB on (l.drop k) ++ R) 0 ∧ OnlyT g [222] w wr) (fun i _ => n - (intOf i).toNat)
  case atStart => exact ⟨0, Nat.zero_le _, rfl, H0.out.1, H0.out.2.1, H0.out.2.2⟩
  case round =>
    clear H0
    obtain ⟨k, hk, rfl, hbl, hrd, ho⟩ := hrel
    by_cases hlt : k < n
    · have hkl : k < l.length := by have := HN.out; omega
      rw [lettersB_drop on l hkl] at hrd
      unfold letB at hrd
      have hsm := HT.out.some _ (List.getElem_mem hkl)
      have hst := letK_set l hkl
      have hblt := (l[k]'hkl).toNat_lt
      obtain ⟨b, hbe⟩ : ∃ b, b = (l[k]'hkl).toNat := ⟨_, rfl⟩
      rw [← hbe] at hrd hsm hst hblt
      have hbl2 : b < on.length := by have := HT.out.len; omega
      have hs15 : on.getD b 0 ≤ 15 := by
        rw [List.getD_eq_getElem?_getD, List.getElem?_eq_getElem hbl2]
        exact HT.out.le _ (List.getElem_mem hbl2)
      have hcp := codeL_pow HT.out.kraft hbl2 hsm hs15
      have hfind : ∀ x y : Int, x = (codeL on b : Int) → y = (on.getD b 0 : Int) → ∃ q, findC x y (entsS on S) 0 = some (q, .int .i64 (b : Int)) := fun x y hx hy => find_letter HORD.out hbl2 (by omega) hx hy
      have hnone : ∀ t, t + 1 < on.getD b 0 → findC ((codeL on b / 2 ^ (on.getD b 0 - (t + 1)) : Nat) : Int) ((t : Int) + 1) (entsS on S) 0 = none := fun t ht => find_none HORD.out fun i hi h0 ⟨e1, e2⟩ => pre_none hbl2 hs15 (n := t + 1) (by omega) ht hi (by omega) (Int.ofNat_inj.1 e1).symm
      obtain ⟨c, hc⟩ : ∃ c, c = codeL on b := ⟨_, rfl⟩
      obtain ⟨s, hs⟩ : ∃ s, s = on.getD b 0 := ⟨_, rfl⟩
      rw [← hc, ← hs] at hcp hrd
      rw [← hs] at hs15 hsm
      simp only [← hc, ← hs] at hfind hnone
      obtain ⟨L, hL⟩ : ∃ L, L = lettersB on (l.drop (k + 1)) ++ R := ⟨_, rfl⟩
      rw [List.append_assoc, ← hL] at hrd
      have HL := Lib.hid hL
      have HST := Lib.hid hst
      have HFIND := Lib.hid hfind
      have HNONE := Lib.hid hnone
      have HCP := Lib.hid hcp
      have hgt := letK_get l hkl
      have HGT := Lib.hid hgt
      have HS0 := Lib.hid (And.intro hbl (And.intro (show RdrA wr g A c0 bs ((codeB c s).drop 0 ++ L) 0 from hrd) ho))
      have hki : (k : Int) < (n : Int) := by omega
      have hbw := Lib.hid (show IntKind.u8.wrap (b : Int) = (b : Int) by rw [IntKind.wrap_u8]; omega)
      have hz := pre_start hcp
      have HZ := Lib.hid hz
      clear hbl hrd ho hkl hbe hbl2 hcp hfind hnone hc hs hL hst hgt hz
      go_wp2
      go_loopw [10, 11] (fun cv sv wr' => ∃ t : Nat, t < s ∧ sv = .int .i64 ((t : Int) + 1) ∧ cv = .int .i64 ((c / 2 ^ (s - t) : Nat) : Int) ∧ Blk wr' r 5 (bvs (letK l k)) ∧ RdrA wr' g A c0 bs ((codeB c s).drop t ++ L) 0 ∧ OnlyT g [222] w wr') (fun _ sv _ => 16 - (intOf sv).toNat)
      case atStart => exact ⟨0, by omega, rfl, by rw [HZ.out]; rfl, HS0.out.1, HS0.out.2.1, HS0.out.2.2⟩
      case round =>
        clear HS0 HZ
        obtain ⟨t, ht, rfl, rfl, hbl, hrd, ho⟩ := hrel
        rw [codeB_drop c s t ht, List.cons_append] at hrd
        have hQ := pre_next c ht
        have hq1 : c / 2 ^ (s - t) ≤ 32768 := by
          have h1 : c / 2 ^ (s - t) ≤ c := Nat.div_le_self _ _
          have h2 := Nat.lt_of_lt_of_le HCP.out (Nat.pow_le_pow_right (n := 2) (by decide) hs15)
          omega
        obtain ⟨q, hqe⟩ : ∃ q, q = c / 2 ^ (s - t) := ⟨_, rfl⟩
        rw [← hqe] at hQ hq1 ⊢
        obtain ⟨bt, hbt⟩ : ∃ bt, bt = c.testBit (s - 1 - t) := ⟨_, rfl⟩
        rw [← hbt] at hrd hQ
        obtain ⟨Q, hQe⟩ : ∃ Q, Q = c / 2 ^ (s - (t + 1)) := ⟨_, rfl⟩
        rw [← hQe] at hQ
        obtain ⟨L2, hL2⟩ : ∃ L2, L2 = (codeB c s).drop (t + 1) ++ L := ⟨_, rfl⟩
        rw [← hL2] at hrd
        have C2 := aGet_st g 1 (bt :: L2, 0) wr hrd (by decide)
        rw [(getV_bit bt L2).1, (getV_bit bt L2).2] at C2
        obtain ⟨bn, hbn⟩ : ∃ bn, bn = bt.toNat := ⟨_, rfl⟩
        have hbn1 : bn ≤ 1 := by rw [hbn]; cases bt <;> simp
        rw [← hbn] at C2 hQ
        have C2 := Lib.hid C2
        have HQ := Lib.hid (And.intro hQe hL2)
        have HBL := Lib.hid hbl
        have HO := Lib.hid ho
        have hv := Lib.hid (show (q : Int) * 2 + (bn : Int) = (Q : Int) by omega)
        have hti : (t : Int) + 1 ≤ 15 := by omega
        clear hrd hqe hbt hQe hL2 hbn hbl ho hQ
        go_wp2_with fail
        refine C2.out.mono ?_
        rintro e w2 ⟨rfl, hrd2, ho2⟩
        have HE := Lib.hid (And.intro (HBL.out.only ho2 (by decide)) (And.intro hrd2 (HO.out.trans ho2)))
        clear hrd2 ho2 C2 HBL HO
        go_wp2_with fail
        simp only [hv.out]
        have C3 := codesLetter (HCA.out.only HE.out.2.2) (Q : Int) ((t : Int) + 1)
        by_cases hlast : t + 1 = s
        · obtain ⟨z, hz⟩ := HFIND.out (Q : Int) ((t : Int) + 1) (by rw [HQ.out.1, hlast, Nat.sub_self]; simp) (by omega)
          rw [hz] at C3
          unfold letV at C3
          simp only at C3
          have C3 := Lib.hid C3
          have hL2 := HQ.out.2
          rw [hlast, List.drop_of_length_le (Nat.le_of_eq (codeB_len c s)), List.nil_append] at hL2
          have HL2 := Lib.hid hL2
          have hcell := HE.out.1.cell k
          rw [HGT.out] at hcell
          have hfr := HE.out.1.frozen k
          clear hz hL2 hlast hv
          go_wp2_with fail
          refine C3.out.mono ?_
          rintro e w3 ⟨rfl, hw⟩
          subst hw
          go_wp2
          go_roundw
          case rel =>
            have hb2 := HE.out.1.set_ k (.int .u8 (b : Int))
            rw [HST.out] at hb2
            exact ⟨k + 1, by omega, by go_num, hb2, by rw [← HL.out, ← HL2.out]; exact HE.out.2.1.setOther HRW.out.1 (by have := HRW.out.2.1; omega) _, onlyT_new HE.out.2.2 (by rw [← HRW.out.2.2]; exact Nat.le_refl _) _⟩
          case measure => simp [intOf]; omega
        · have hz := HNONE.out t (by omega)
          rw [← HQ.out.1] at hz
          rw [hz] at C3
          unfold letV at C3
          simp only at C3
          have C3 := Lib.hid C3
          clear hz hv
          go_wp2_with fail
          refine C3.out.mono ?_
          rintro e w3 ⟨rfl, hw⟩
          subst hw
          go_wp2
          go_roundw
          case rel => exact ⟨t + 1, by omega, by go_num, by rw [HQ.out.1], HE.out.1, by rw [← HQ.out.2]; exact HE.out.2.1, HE.out.2.2⟩
          case measure => simp [intOf]; omega
    · obtain rfl : k = n := by omega
      rw [List.drop_of_length_le (Nat.le_of_eq HN.out), show lettersB on [] = [] from rfl, List.nil_append] at hrd
      rw [show letK l k = l by rw [← HN.out]; exact letK_all l] at hbl
      have HE := Lib.hid (And.intro hbl (And.intro hrd ho))
      clear hbl hrd ho
      go_wp2
      simp only [Exit.noGoto]
      go_ret2
      exact ⟨r, rfl, by rw [← HRW.out.2.2]; exact Nat.le_refl _, HE.out.1, HE.out.2.1.is, HE.out.2.2⟩
end Go.Proofs.YtflcmmeoppdhdaaGreat
namespace Go.Proofs.YtflcmmeoppdhdaaGreat
open Go.RowKit Go.Sort Go.Shelf

theorem bytes_none (w : World) : IsBytes [] (.slice none 0 0) w := ⟨none, 0, rfl, Nat.le_refl _, Rd.nil_ _ _ _⟩
theorem onlyT_lower {B g : Nat} {ts : List TypeId} {w w' : World} (h : OnlyT g ts w w') (hg : B ≤ g) (hB : B ≤ w.heap.size) : Below B w w' := (h.base hg).below hB
theorem natL_intL (on : List Nat) : natL (intL on) = on := by
  unfold natL intL
  rw [List.map_map]
  conv => rhs; rw [← List.map_id on]
  refine List.map_congr_left fun x _ => ?_
  simp
section
variable {w : World} {A : Option Addr} {n m N : Nat} {pl l : List UInt8} {o : List Int} {R : List Bool}
set_option maxHeartbeats 4000000 in
set_option maxRecDepth 100000 in
theorem huffDec_any (hr : Rd w w.heap.size A (bvs pl)) (hpl : pl.length = N) (hN : N ≤ 100000) (hne : l ≠ []) (hn : l.length = n) (hn1 : n ≤ 1500) (ho : LensOfR (cntL l) o) (hbits : allBits pl = huffB (natL o) l ++ R) :
    Calls Tryz.prog 50 #[.slice A N m, .int .i64 (n : Int)] w fun e w' => ∃ v, e = .returned (.tuple #[v, .int .i64 (if doneE (R, 0) = 0 then 0 else 16)]) ∧ IsBytes (if doneE (R, 0) = 0 then l else []) v w' ∧ Below w.heap.size w w' := by
  have hn0 : 1 ≤ n := by rw [← hn]; exact List.length_pos_iff.2 hne
  have hnn := cntL_nn l
  have hok := lens_ok ho hnn
  have hol := ho.len.trans (cntL_len l)
  have hwh := lens_whole ho hnn (posL_some hne)
  have hT := lensT_of hne ho
  have hio := intL_natL (fun x hx => (cBad_none.1 hok x hx).1)
  have hRl : R.length ≤ 800000 := by
    have := congrArg List.length hbits
    rw [allBits_length, List.length_append] at this
    omega
  have C1 := read_all A N m pl w hr hpl (by omega)
  rw [hbits] at C1
  obtain ⟨on, hon⟩ : ∃ on, on = natL o := ⟨_, rfl⟩
  rw [← hon] at C1 hT hio
  unfold huffB at C1
  rw [List.append_assoc] at C1
  have C1 := Lib.hid C1
  have HO := Lib.hid (And.intro hok (And.intro hol (And.intro hwh (And.intro hio hon))))
  have HT := Lib.hid hT
  have HN := Lib.hid (And.intro hn hRl)
  obtain ⟨E, hE⟩ : ∃ E, E = doneE (R, 0) := ⟨_, rfl⟩
  rw [← hE]
  have HE := Lib.hid hE
  have hni : (n : Int) ≤ 1500 := by omega
  have hni0 : ¬ (n : Int) < 0 := by omega
  have hni1 : ¬ (n : Int) = 0 := by omega
  clear hr hpl hne hn ho hbits hnn hok hol hwh hT hio hRl hon hE
  go_enter Tryz.func50, Tryz.ntmps50
  go_wp2_with fail
  refine C1.out.mono ?_
  rintro e w1 ⟨g, rfl, hg, hrd, hb1⟩
  have hgl : g < w1.heap.size := by obtain ⟨_, _, _, _, hk, -⟩ := hrd; exact hk.lt
  have C2 := Lib.hid (takeLens_any w1 HT.out.len HT.out.le hrd)
  have HB1 := Lib.hid (And.intro hb1 (And.intro hg hgl))
  clear hrd hb1 hg hgl C1
  go_wp2_with fail
  refine C2.out.mono ?_
  rintro e w2 ⟨r, rfl, hr2, hbl, hrd, ho2⟩
  have C3 := canonMake_ok (w := w2) (A := some ⟨r, 0, none⟩) (n := 256) (m := 256) (l := intL on) (Rd.of_blk hbl) (by rw [intL_len]; exact HT.out.len) (by decide) (by rw [HO.out.2.2.2.1]; exact HO.out.1) (by rw [HO.out.2.2.2.1]; exact HO.out.2.2.1)
  rw [natL_intL] at C3
  have C3 := Lib.hid C3
  have HB2 := Lib.hid (HB1.out.1.trans (onlyT_lower ho2 HB1.out.2.1 HB1.out.1.size))
  have HR2 := Lib.hid (And.intro hrd (Nat.lt_of_lt_of_le HB1.out.2.2 ho2.size))
  clear hr2 hbl hrd ho2 C2
  go_wp2_with fail
  refine C3.out.mono ?_
  rintro e w3 ⟨Eb, gg, M, S, rfl, hord, hca, hb3⟩
  have C4 := Lib.hid (takeLetters_any w3 HT.out hord hca (HR2.out.1.only (OnlyT.of_below (B := w2.heap.size) (ts := []) hb3) (by simp) (by simp)) HN.out.1 hn1)
  have HB3 := Lib.hid (And.intro (HB2.out.trans (hb3.mono HB2.out.size)) (Nat.lt_of_lt_of_le HR2.out.2 hb3.size))
  clear hord hca hb3 C3 HB2 HR2
  go_wp2_with fail
  refine C4.out.mono ?_
  rintro e w4 ⟨r4, rfl, hr4, hbl4, hrd4, ho4⟩
  have C5 := Lib.hid (rDone_st g (R, 0) w4 hrd4 (by have := HN.out.2; show R.length ≤ _; omega))
  have HB4 := Lib.hid (HB3.out.1.trans (onlyT_lower ho4 HB1.out.2.1 HB3.out.1.size))
  have HBL := Lib.hid hbl4
  rw [← HE.out] at C5
  clear hr4 hbl4 hrd4 ho4 C4 HB3
  by_cases hE0 : E = 0
  · subst hE0
    go_wp2_with fail
    refine C5.out.mono ?_
    rintro e w5 ⟨rfl, ho5⟩
    have HB5 := Lib.hid (HB4.out.trans (onlyT_lower ho5 HB1.out.2.1 HB4.out.size))
    have HBL5 := Lib.hid (HBL.out.only ho5 (by decide))
    clear ho5 C5
    go_wp2
    go_ret2
    exact ⟨_, rfl, ⟨_, n, by rw [HN.out.1]; rfl, by rw [HN.out.1]; exact Nat.le_refl _, Rd.of_blk HBL5.out⟩, HB5.out⟩
  · have hEi : ¬ (E : Int) = 0 := by omega
    go_wp2_with fail
    refine C5.out.mono ?_
    rintro e w5 ⟨rfl, ho5⟩
    have HB5 := Lib.hid (HB4.out.trans (onlyT_lower ho5 HB1.out.2.1 HB4.out.size))
    clear ho5 C5
    go_wp2
    go_ret2
    exact ⟨_, rfl, bytes_none _, HB5.out⟩
end
end Go.Proofs.YtflcmmeoppdhdaaGreat
namespace Go.Proofs.YtflcmmeoppdhdaaGreat
open Go.RowKit Go.Sort Go.Shelf

theorem calls_someH {P : Program} {f : FuncId} {args : Array Value} {w : World} {R : Ending → World → Prop} (h : Calls P f args w R) : ∃ e w', R e w' :=
  let ⟨e, w', _, r, _⟩ := h []
  ⟨e, w', r⟩
def NewH (w : World) (Q : List UInt8) (e : Ending) (w' : World) : Prop := ∃ v, e = .returned v ∧ IsBytes Q v w' ∧ Below w.heap.size w w'
def HuffQ (l Q : List UInt8) : Prop := (l = [] ∧ Q = []) ∨ (l ≠ [] ∧ ∃ o, LensOfR (cntL l) o ∧ Packs Q (huffB (natL o) l))
theorem huffCode_q {l Q : List UInt8} (hQ : HuffQ l Q) (hl : l.length ≤ 1500) (v : Value) (w : World) (h : IsBytes l v w) : Calls Tryz.prog 49 #[v] w (NewH w Q) := by
  obtain ⟨A, c, rfl, hc, hr⟩ := h
  rcases hQ with ⟨rfl, rfl⟩ | ⟨h1, o, h2, h3⟩
  · refine (huffCode_nil w A c).mono ?_
    rintro e w' ⟨rfl, rfl⟩
    exact ⟨_, rfl, bytes_none _, Below.refl _ _⟩
  · refine (huffCode_any hr rfl (List.length_pos_iff.2 h1) hl).mono ?_
    rintro e w' ⟨o', B, ho', hp, v, rfl, hown, hb⟩
    obtain rfl := ho'.one h2
    obtain rfl := hp.unique h3
    exact ⟨v, rfl, IsBytes.of_own hown, hb⟩
theorem huffQ_some {l : List UInt8} (hl : l.length ≤ 1500) {A : Option Addr} {w : World} (hr : Rd w w.heap.size A (bvs l)) : ∃ Q, HuffQ l Q := by
  by_cases h : l = []
  · exact ⟨[], .inl ⟨h, rfl⟩⟩
  · obtain ⟨e, w', o, B, ho, hp, -⟩ := calls_someH (huffCode_any (m := 0) hr rfl (List.length_pos_iff.2 h) hl)
    exact ⟨B, .inr ⟨h, o, ho, hp⟩⟩
theorem huffB_len {l : List UInt8} {on : List Nat} (hT : LensT l on) (hl : l.length ≤ 1500) : (huffB on l).length ≤ 24000 := by
  have h1 := lensB_len on
  have h2 := lettersB_len hT.le l
  have h3 := hT.len
  unfold huffB
  rw [List.length_append]
  omega
/-- What Decode says. -/
def SaysH (l : List UInt8) (E : Int) (w : World) (e : Ending) (w' : World) : Prop := ∃ v, e = .returned (.tuple #[v, .int .i64 E]) ∧ IsBytes l v w' ∧ Below w.heap.size w w'
theorem done_zero {k : Nat} (h : k < 8) : doneE (List.replicate k false, 0) = 0 := by
  unfold doneE
  rw [if_neg (by simp), if_neg (by simp; omega), if_neg (by simp)]
theorem done_more {R : List Bool} (h : 8 ≤ R.length) : doneE (R, 0) ≠ 0 := by
  unfold doneE
  rw [if_neg (by simp), if_pos h]
  decide
/-- **P22.3**: what was coded is decoded; with a byte more it is none. -/
theorem huffBack_q {l Q : List UInt8} (hQ : HuffQ l Q) (hne : l ≠ []) (hl : l.length ≤ 1500) (v : Value) (w : World) :
    (IsBytes Q v w → Calls Tryz.prog 50 #[v, .int .i64 (l.length : Int)] w (SaysH l 0 w)) ∧
    (IsBytes (Q ++ [0]) v w → Calls Tryz.prog 50 #[v, .int .i64 (l.length : Int)] w (SaysH [] 16 w)) := by
  rcases hQ with ⟨h, -⟩ | ⟨-, o, ho, hp⟩
  · exact absurd h hne
  have hT := lensT_of hne ho
  have hL := huffB_len hT hl
  have hq := hp.1
  have hall := hp.all
  refine ⟨fun h => ?_, fun h => ?_⟩
  · obtain ⟨A, c, rfl, hc, hr⟩ := h
    refine (huffDec_any hr rfl (by omega) hne rfl hl ho hall).mono ?_
    rintro e w' ⟨v, rfl, hv, hb⟩
    rw [done_zero (by omega), if_pos rfl] at hv
    rw [done_zero (by omega), if_pos rfl]
    exact ⟨v, rfl, hv, hb⟩
  · obtain ⟨A, c, rfl, hc, hr⟩ := h
    have hall2 : allBits (Q ++ [0]) = huffB (natL o) l ++ (List.replicate (8 * Q.length - (huffB (natL o) l).length) false ++ bitsOf (0 : UInt8).toNat 8) := by
      rw [allBits_snoc, hall, List.append_assoc]
    have hd := done_more (R := List.replicate (8 * Q.length - (huffB (natL o) l).length) false ++ bitsOf (0 : UInt8).toNat 8) (by rw [List.length_append, bitsOf_length]; omega)
    refine (huffDec_any hr rfl (by rw [List.length_append, List.length_singleton]; omega) hne rfl hl ho hall2).mono ?_
    rintro e w' ⟨v, rfl, hv, hb⟩
    rw [if_neg hd] at hv
    rw [if_neg hd]
    exact ⟨v, rfl, hv, hb⟩
/- the fixed calls -/
end Go.Proofs.YtflcmmeoppdhdaaGreat
