/- Layer 22: lens of a text. · Layer 22: the program's Code. -/
import Derived.Test.YtjncmfoommlldaaHuffPut
import Derived.Test.YtjncmfoommlldaaCanonHit
import Derived.Test.YtjncmfoommlldaaCntFn
import Derived.Test.YtjncmfoommlldaaLensPr
import Derived.Test.YtjncmfoommlldaaLRefOf
namespace Go.Proofs.Ytjncmfoommlldaa
open Go.RowKit Go.Sort Go.Shelf

theorem intL_natL {o : List Int} (h : ∀ x ∈ o, 0 ≤ x) : intL (natL o) = o := by
  unfold intL natL
  rw [List.map_map]
  conv => rhs; rw [← List.map_id o]
  refine List.map_congr_left fun x hx => ?_
  have := h x hx
  simp only [Function.comp, id]
  omega
theorem cntL_good {l : List UInt8} (h : l.length ≤ 1500) : Good (cntL l) := fun x hx => by have := cntL_le l x hx; omega
theorem cntL_nn (l : List UInt8) : ∀ x ∈ cntL l, 0 ≤ x := fun x hx => (cntL_le l x hx).1
/-- Lens of a text: none too long, whole, and each of its letters has one. -/
structure LensT (l : List UInt8) (o : List Nat) : Prop where
  len : o.length = 256
  le : ∀ x ∈ o, x ≤ 15
  kraft : ends (lenC o) 15 ≤ 32768
  some : ∀ b ∈ l, 1 ≤ o.getD b.toNat 0
theorem posL_some {l : List UInt8} (h : l ≠ []) : 1 ≤ (posL (cntL l)).length := by
  obtain ⟨b, t, rfl⟩ := List.exists_cons_of_ne_nil h
  have h2 := cntL_mem (l := b :: t) (b := b) List.mem_cons_self
  have hlt : b.toNat < (cntL (b :: t)).length := by rw [cntL_len]; exact b.toNat_lt
  have : (cntL (b :: t))[b.toNat] ∈ posL (cntL (b :: t)) := by
    unfold posL
    rw [List.mem_filter]
    refine ⟨List.getElem_mem hlt, ?_⟩
    have e : (cntL (b :: t)).getD b.toNat 0 = (cntL (b :: t))[b.toNat] := by simp [List.getD_eq_getElem?_getD, hlt]
    rw [e] at h2
    simpa using h2
  exact List.length_pos_of_mem this
theorem lensT_of {l : List UInt8} {o : List Int} (hl : l ≠ []) (h : LensOfR (cntL l) o) : LensT l (natL o) := by
  have hnn := cntL_nn l
  have hok := cBad_none.1 (lens_ok h hnn)
  have hlen := h.len.trans (cntL_len l)
  have hw := whole_most (lens_whole h hnn (posL_some hl))
  refine ⟨by rw [natL_len]; exact hlen, fun x hx => ?_, ?_, fun b hb => ?_⟩
  · obtain ⟨y, hy, rfl⟩ := List.mem_map.1 hx
    have := hok y hy
    omega
  · rw [← kraft_ends]; exact hw
  · have h2 := cntL_mem hb
    have hlt : b.toNat < (cntL l).length := by rw [cntL_len]; exact b.toNat_lt
    have hlo : b.toNat < o.length := by rw [hlen]; exact b.toNat_lt
    have h3 := lens_at h hnn hlo hlt
    have e : (cntL l).getD b.toNat 0 = (cntL l)[b.toNat] := by simp [List.getD_eq_getElem?_getD, hlt]
    rw [natL_get o hlo]
    omega
end Go.Proofs.Ytjncmfoommlldaa
namespace Go.Proofs.Ytjncmfoommlldaa
open Go.RowKit Go.Sort Go.Shelf

section
variable {w : World} {A : Option Addr} {n m : Nat} {l : List UInt8}
set_option maxHeartbeats 1000000 in
theorem huffCode_nil (w : World) (A : Option Addr) (m : Nat) : Calls Try.prog 5 #[.slice A 0 m] w fun e w' => e = .returned (.slice none 0 0) ∧ w' = w := by
  go_enter Try.func5, Try.ntmps5
  go_wp2
  go_ret
  exact ⟨rfl, rfl⟩
set_option maxHeartbeats 4000000 in
set_option maxRecDepth 100000 in
theorem huffCode_any (hr : Rd w w.heap.size A (bvs l)) (hn : l.length = n) (h1 : 1 ≤ n) (hn1 : n ≤ 1500) :
    Calls Try.prog 5 #[.slice A n m] w fun e w' => ∃ o bs, LensOfR (cntL l) o ∧ Packs bs (huffB (natL o) l) ∧ NewBy w bs e w' := by
  have hne : l ≠ [] := fun e => by rw [e] at hn; simp at hn; omega
  have C1 := Lib.hid (normCount_any (m := m) hr hn (by omega))
  have HR := Lib.hid hr
  have HN := Lib.hid (And.intro hn hne)
  have hni : ¬ (n : Int) = 0 := by omega
  clear hr hn hne
  go_enter Try.func5, Try.ntmps5
  go_wp2_with fail
  refine C1.out.mono ?_
  rintro e w1 ⟨g1, rfl, -, hk1, hb1⟩
  have C2 := Lib.hid (lens_Of (m := 256) (Rd.of_blk hk1) (cntL_len l) (by decide) (cntL_good (by have := HN.out.1; omega)))
  have HB1 := Lib.hid hb1
  clear hk1 hb1 C1
  go_wp2_with fail
  refine C2.out.mono ?_
  rintro e w2 ⟨v2, o, rfl, ho, hv, hb2⟩
  have hnn := cntL_nn l
  have hol := ho.len.trans (cntL_len l)
  obtain ⟨g2, n2, rfl, hn2, -, hblk⟩ := hv
  obtain rfl : n2 = 256 := by omega
  have hok := lens_ok ho hnn
  have C3 := Lib.hid (canonMake_ok (m := 256) (Rd.of_blk hblk) hol (by decide) hok (lens_whole ho hnn (posL_some HN.out.2)))
  have hT := lensT_of HN.out.2 ho
  rw [← intL_natL (fun x hx => (cBad_none.1 hok x hx).1)] at hblk
  have HO := Lib.hid ho
  obtain ⟨on, hon⟩ : ∃ on, on = natL o := ⟨_, rfl⟩
  rw [← hon] at C3 hT hblk
  have HT := Lib.hid hT
  have HON := Lib.hid hon
  have HK2 := Lib.hid hblk
  have HB2 := Lib.hid (HB1.out.trans (hb2.mono HB1.out.size))
  clear hb2 hnn hol hn2 hok ho hblk hT hon C2 HB1
  go_wp2_with fail
  refine C3.out.mono ?_
  rintro e w3 ⟨E, g', M, S, rfl, hord, hca, hb3⟩
  obtain ⟨w4, hw4⟩ : ∃ w4, w4 = w3.alloc (.cells #[.slice none 0 0, .int .i64 0] 37) := ⟨_, rfl⟩
  have hg4 : Blk w4 w3.heap.size 37 [.slice none 0 0, .int .i64 0] := by rw [hw4]; exact heap_alloc_new w3 _
  have hb4 : Below w3.heap.size w3 w4 := by rw [hw4]; exact (Below.refl _ _).alloc (Nat.le_refl _) _
  have HCA := Lib.hid hca
  have HORD := Lib.hid hord
  have HK3 := Lib.hid (HK2.out.grow hb3)
  have HB3 := Lib.hid (HB2.out.trans (hb3.mono HB2.out.size))
  have HW4 := Lib.hid hw4
  have HWR4 := Lib.hid (WrO.new (B := w4.heap.size) hg4 (Nat.le_refl _))
  have HB4 := Lib.hid hb4
  have HK4 := Lib.hid (HK3.out.grow hb4)
  have hlt4 : w3.heap.size < w4.heap.size := hg4.lt
  clear hb3 hca hord hg4 hb4 hw4 C3 HK2 HB2
  go_wp2_with fail
  rw [← HW4.out]
  have hrg := HK3.out.lt
  obtain ⟨G, hG⟩ : ∃ G, G = w3.heap.size := ⟨_, rfl⟩
  have HG := Lib.hid hG
  rw [← hG] at HWR4 hlt4 hrg ⊢
  refine (layLens_any (m := 256) w4 HWR4.out HK4.out (by omega) HT.out.len (by decide) HT.out.le (by simp)).mono ?_
  rintro e w5 ⟨rfl, hw5, ho5⟩
  have HW5 := Lib.hid (show WrO w5 w4.heap.size G (lensB on ++ lettersB on (l.take 0)) by rw [List.take_zero, show lettersB on [] = [] from rfl, List.append_nil]; exact hw5)
  have HB5 := Lib.hid (show Below w3.heap.size w3 w5 from HB4.out.trans (ho5.below (by omega) (by omega) (by omega)))
  obtain ⟨S4, hS4⟩ : ∃ S4, S4 = w4.heap.size := ⟨_, rfl⟩
  rw [← hS4] at HW5 hlt4
  have HS4 := Lib.hid hS4
  clear hw5 ho5 HB4 HK4 HWR4 HW4 hG hS4
  go_wp2
  go_loopw [29] (fun i wr => ∃ k : Nat, k ≤ n ∧ i = .int .i64 (k : Int) ∧ WrO wr S4 G (lensB on ++ lettersB on (l.take k)) ∧ Below w3.heap.size w3 wr) (fun i _ => n - (intOf i).toNat)
  case atStart => exact ⟨0, Nat.zero_le _, rfl, HW5.out, HB5.out⟩
  case round =>
    clear HW5 HB5
    obtain ⟨k, hk, rfl, hwr, hb⟩ := hrel
    have HWR := Lib.hid hwr
    have HB := Lib.hid hb
    have hll : (lensB on ++ lettersB on (l.take k)).length ≤ 30000 := by
      have h1 := lensB_len on
      have h2 := lettersB_len HT.out.le (l.take k)
      have h3 := HT.out.len
      rw [List.length_append]
      rw [List.length_take] at h2
      omega
    have HLL := Lib.hid hll
    by_cases hlt : k < n
    · have hkl : k < l.length := by have := HN.out.1; omega
      have hri := ((HR.out.below HB3.out).more HB3.out.size).below hb
      obtain ⟨ab, ao, rfl, hab, hcell⟩ := hri k _ (bvs_get l k hkl)
      have hsm := HT.out.some _ (List.getElem_mem hkl)
      have hnx := lettersB_next on l hkl
      unfold letB at hnx
      have hblt := (l[k]'hkl).toNat_lt
      obtain ⟨b, hbe⟩ : ∃ b, b = (l[k]'hkl).toNat := ⟨_, rfl⟩
      rw [← hbe] at hcell hsm hnx hblt
      have hbl : b < on.length := by have := HT.out.len; omega
      have hs15 : on.getD b 0 ≤ 15 := by
        rw [List.getD_eq_getElem?_getD, List.getElem?_eq_getElem hbl]
        exact HT.out.le _ (List.getElem_mem hbl)
      have hcp := codeL_pow HT.out.kraft hbl hsm hs15
      have hc2 : codeL on b < 9223372036854775808 := Nat.lt_of_lt_of_le hcp (Nat.le_trans (Nat.pow_le_pow_right (n := 2) (by decide) hs15) (by decide))
      have C4 := codesOf_in (HCA.out.grow hb) b (by omega)
      rw [pat_code HORD.out hbl, if_pos (by omega)] at C4
      unfold codeP at C4
      simp only at C4
      obtain ⟨c, hc⟩ : ∃ c, c = codeL on b := ⟨_, rfl⟩
      obtain ⟨s, hs⟩ : ∃ s, s = on.getD b 0 := ⟨_, rfl⟩
      rw [← hc, ← hs] at C4 hnx
      rw [← hc] at hc2
      rw [← hs] at hs15
      have C4 := Lib.hid C4
      have HNX := Lib.hid hnx
      have hki : (k : Int) < (n : Int) := by omega
      have hbw := Lib.hid (show IntKind.i64.wrap (b : Int) = (b : Int) by rw [IntKind.wrap_i64]; omega)
      clear hwr hb hri hsm hnx hbe hbl hcp hc hs hll
      go_wp2_with fail
      first | rw [hbw.out] | skip
      refine C4.out.mono ?_
      rintro e w6 ⟨rfl, q, rfl⟩
      have HWD := Lib.hid (HWR.out.kept (below_drawn wr q))
      have HBD := Lib.hid (below_drewN HB.out q)
      clear C4 HWR HB hcell
      go_wp2_with fail
      refine (layCode_any G S4 _ c s _ HWD.out (by have := HLL.out; omega) hc2 (by omega)).mono ?_
      rintro e w7 ⟨rfl, hw7, ho7⟩
      have HW7 := Lib.hid (show WrO w7 S4 G (lensB on ++ lettersB on (l.take (k + 1))) by rw [HNX.out, ← List.append_assoc]; exact hw7)
      have HB7 := Lib.hid (HBD.out.trans (ho7.below (by have := HG.out; omega) (by have := HG.out; omega) HBD.out.size))
      clear hw7 ho7 HWD HBD
      go_wp2
      go_roundw
      case rel => exact ⟨k + 1, by omega, by go_num, HW7.out, HB7.out⟩
      case measure => simp [intOf]; omega
    · obtain rfl : k = n := by omega
      rw [List.take_of_length_le (Nat.le_of_eq HN.out.1)] at hwr hll
      have C5 := Lib.hid (oBytes_any G S4 _ wr hwr (by omega))
      have HBW := Lib.hid (HB3.out.trans (HB.out.mono HB3.out.size))
      clear hwr hb hll HWR HLL
      go_wp2_with fail
      refine C5.out.mono ?_
      rintro e w6 ⟨bs, hp, v6, rfl, hown, hb6⟩
      have HE := Lib.hid (And.intro hp (And.intro (own_more hown HBW.out.size) (HBW.out.trans (hb6.mono HBW.out.size))))
      clear hp hown hb6 C5
      go_wp2
      go_ret
      exact ⟨o, bs, HO.out, by rw [← HON.out]; exact HE.out.1, _, rfl, HE.out.2.1, HE.out.2.2⟩
end
end Go.Proofs.Ytjncmfoommlldaa
