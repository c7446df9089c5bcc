/- Layer 14: the law NormKeeps. -/
import Derived.Test.YtomgbkakefjilaaNormLaws
namespace Go.Proofs.Ytomgbkakefjilaa
open Go.RowKit Go.Sort Go.Shelf

/-- A slice of short numbers that came in reads as a list of such. -/
theorem shorts_of_row {w : World} {a : Option Addr} {len cap : Nat} {zs : List Int}
    (h : (a = none ∧ len = 0 ∧ cap = 0 ∧ zs = []) ∨ ∃ x, a = some x ∧ len ≤ cap ∧ cap ≤ maxLen ∧ zs.length = cap ∧ (∀ i, i < zs.length → w.cell? (x.add i) = some (.int .u16 (zs.getD i 0))) ∧ ∀ n ∈ zs, (Lit.int .u16 n).wf = true) :
    ∃ l : List Nat, l.length = len ∧ len ≤ 9223372036854775807 ∧ (∀ x ∈ l, x < 65536) ∧ Rd w w.heap.size a (hvs l) := by
  rcases h with ⟨rfl, rfl, rfl, rfl⟩ | ⟨x, rfl, hlc, hcm, hz, hcell, hwf⟩
  · exact ⟨[], rfl, by decide, by simp, Rd.nil_ _ _ _⟩
  · have hr : ∀ y ∈ zs, 0 ≤ y ∧ y ≤ 65535 := fun y hy => by
      have := hwf y hy
      simpa [Lit.wf, IntKind.min, IntKind.max, IntKind.signed, IntKind.bits] using this
    simp only [maxLen] at hcm
    refine ⟨(zs.take len).map Int.toNat, by simp; omega, by omega, fun y hy => ?_, fun k u hu => ?_⟩
    · obtain ⟨z, hz, rfl⟩ := List.mem_map.1 hy
      have := hr z (List.mem_of_mem_take hz)
      omega
    · have hk : k < len := by
        have := (List.getElem?_eq_some_iff.1 hu).1
        simp [hvs] at this
        omega
      obtain ⟨b, off, rfl, hc⟩ := ints_at hcell (by omega)
      have hck := hc k (by omega)
      have hg := hr _ (List.getElem_mem (show k < zs.length by omega))
      have he : u = .int .u16 (zs.getD k 0) := by
        have hd : zs.getD k 0 = zs[k]'(by omega) := by simp [List.getD_eq_getElem?_getD, show k < zs.length by omega]
        rw [hd]
        have hlk : k < ((zs.take len).map Int.toNat).length := by simp; omega
        rw [hvs_get _ _ hlk] at hu
        injection hu with hu
        rw [← hu]
        simp
        omega
      subst he
      exact ⟨b, off, rfl, World.block_lt_of_cell? w _ hck, hck⟩
/-- Numbers as they are, of either sign. -/
def natsI (l : List Nat) : List Int := l.map fun (x : Nat) => (x : Int)
theorem natsI_take (l : List Nat) {k : Nat} (h : k < l.length) : natsI (l.take (k + 1)) = natsI (l.take k) ++ [(l[k] : Int)] := by
  unfold natsI; rw [List.take_add_one, List.getElem?_eq_getElem h, List.map_append]; rfl
theorem natsI_nn (l : List Nat) : ∀ x ∈ natsI l, 0 ≤ x := fun x hx => by obtain ⟨y, -, rfl⟩ := List.mem_map.1 hx; omega
theorem many_zero {c : List Int} (hc : ∀ x ∈ c, 0 ≤ x) (h : many c = 0) : c.sum = 0 := by
  induction c with
  | nil => rfl
  | cons a c ih =>
    have h1 := many_nn c
    have h2 := hc a List.mem_cons_self
    have h3 : many (a :: c) = (if 0 < a then 1 else 0) + many c := by simp [many]
    rw [h3] at h
    by_cases h0 : 0 < a
    · rw [if_pos h0] at h; omega
    · rw [if_neg h0] at h
      have := ih (fun x hx => hc x (List.mem_cons_of_mem _ hx)) (by omega)
      simp [this]; omega
/-- Few short counts may be, of 9 bits or more; the shares are none just if all are 0. -/
theorem short_norm {l : List Nat} (hl : ∀ x ∈ l, x < 65536) (hn : l.length ≤ 256) {b : Nat} (h1 : 9 ≤ b) (h2 : b ≤ 16) :
    ((natsI l).sum = 0 ∧ ∀ (W : World) (A : Option Addr) (n m : Nat), Rd W W.heap.size A (zvs (natsI l)) → l.length = n → Calls Try.prog 9 #[.slice A n m, .int .i64 (b : Int)] W fun e w' => e = NoShares 3 ∧ Below W.heap.size W w') ∨
    ((natsI l).sum ≠ 0 ∧ SomeOf (natsI l) b (2 ^ b)) := by
  have hbad : (natsI l).any nBad = false := by
    rw [List.any_eq_false]
    intro x hx
    obtain ⟨y, hy, rfl⟩ := List.mem_map.1 hx
    have := hl y hy
    simp [nBad]
    omega
  have hlen : (natsI l).length = l.length := List.length_map ..
  by_cases hm : many (natsI l) = 0
  · refine .inl ⟨many_zero (natsI_nn l) hm, fun W A n m hr hl' => normNorm_range b _ (by omega) h2 rfl hbad hr (by rw [hlen]; exact hl') (by omega) (.inl hm)⟩
  · refine .inr ⟨fun h => ?_, by omega, h2, rfl, hbad, hm, ?_⟩
    · have := many_pos (natsI_nn l)
      omega
    · have h3 := many_le (natsI l)
      have h4 : 2 ^ 9 ≤ 2 ^ b := Nat.pow_le_pow_right (by decide) h1
      omega
theorem natsI_sum {l : List Nat} (hl : ∀ x ∈ l, x < 65536) (hn : l.length ≤ 4096) : (natsI l).sum ≤ 9007199254740992 := by
  have h1 := sum_most 65536 (l := natsI l) (fun x hx => by obtain ⟨y, hy, rfl⟩ := List.mem_map.1 hx; have := hl y hy; omega)
  have h3 : (natsI l).length = l.length := List.length_map ..
  have h2 : (natsI l).length * 65536 ≤ 4096 * 65536 := Nat.mul_le_mul_right _ (by omega)
  omega
set_option maxHeartbeats 4000000 in
theorem normKeeps_law (A : Option Addr) (L m : Nat) (n : Nat) (l : List Nat) (w : World) (hr : Rd w w.heap.size A (hvs l)) (hL : l.length = L) (hL63 : L ≤ 9223372036854775807) (hl : ∀ x ∈ l, x < 65536) (hn : n ≤ 255) :
    Calls Try.prog 4 #[.slice A L m, .int .u8 (n : Int)] w (Yes w) := by
  have CK := Lib.hid normKnown_any
  obtain ⟨i0, hi, hz0, hz1, hz2⟩ := info_parts info_int12
  obtain ⟨b, hb⟩ : ∃ b, b = 9 + n % 8 := ⟨_, rfl⟩
  have hb1 : 9 ≤ b := by omega
  have hb2 : b ≤ 16 := by omega
  have hbi : (9 : Int) + (n : Int) % 8 = (b : Int) := by omega
  by_cases h256 : 256 < L
  · have h2 : (256 : Int) < (L : Int) := by omega
    clear hr hL hl hb
    go_enter Try.func4, Try.ntmps4
    go_wp2_with fail
    refine (CK.out _).mono ?_
    rintro e w' ⟨rfl, hb⟩
    go_wp2
    go_ret
    exact ⟨rfl, hb⟩
  · have h2 : ¬ ((256 : Int) < (L : Int)) := by omega
    have HR := Lib.hid hr
    have HL := Lib.hid hL
    have HX := Lib.hid hl
    clear hr hL hl hb
    go_enter Try.func4, Try.ntmps4
    go_wp2
    clear hbi hn
    go_loopw [6, 7] (fun v i wr => ∃ k : Nat, k ≤ L ∧ i = .int .i64 (k : Int) ∧ wr.ownsRow w.heap.size 3 1 v k (zvs (natsI (l.take k))) ∧ Below w.heap.size w wr) (fun _ i _ => L - (intOf i).toNat)
    case atStart => exact ⟨0, Nat.zero_le _, rfl, World.ownsRow_nil _ _ _ _, Below.refl _ _⟩
    case round =>
      obtain ⟨k, hk, rfl, hown, hb⟩ := hrel
      have hbs := hb.size
      by_cases hlt : k < L
      · have hkl : k < l.length := by have := HL.out; omega
        obtain ⟨ab, ao, rfl, hab, hcell0⟩ := HR.out k _ (hvs_get l k hkl)
        have hcell := (hb.cell (p := ⟨ab, ao + k, none⟩) hab).trans hcell0
        have hx0 := HX.out _ (List.getElem_mem hkl)
        have hsn := natsI_take l hkl
        obtain ⟨x, hx⟩ : ∃ x, x = l[k]'hkl := ⟨_, rfl⟩
        rw [← hx] at hcell hx0 hsn
        obtain ⟨Av, cv, rfl, -, -, -⟩ := own_form hown
        have HSN := Lib.hid hsn
        have HB := Lib.hid hb
        have HOWN := Lib.hid hown
        have hkj : (k : Int) < (L : Int) := by omega
        clear hsn hx hcell0 hab hb hown
        go_wp2_with (at_builtin; go_must (refine wpList_app rfl (.tmp 25) (.tmp 31) 22 rfl w.heap.size 3 i0 (.int .i64 0) 1 8 Try.underlying22 hi hz0 hz1 hz2 rfl (by decide) _ _ _ rfl (HOWN.out.alloc _) _ _ 1 1 _ rfl (Rd.new _ _ _) rfl (by intro u hu; simp at hu; subst hu; rfl) (by simp only [maxLen]; omega) (by omega) (by simp; omega) ?_; intro v1 w2 hown1 hg1; have hb1 : Below w.heap.size w w2 := (HB.out.alloc hbs _).grown hg1 (by simp; omega) (own_block HOWN.out); clear hg1))
        go_roundw
        case rel => exact ⟨k + 1, by omega, by go_num, by rw [HSN.out]; simpa [zvs] using hown1, hb1⟩
        case measure => simp [intOf]; omega
      · obtain rfl : k = L := by omega
        rw [List.take_of_length_le (by have := HL.out; omega)] at hown
        obtain ⟨Av, cv, rfl, -, -, -⟩ := own_form hown
        have HO := Lib.hid (Rd.of_own hown)
        have HB := Lib.hid hb
        have C2 := Lib.hid (fun (W : World) (h : Rd W W.heap.size Av (zvs (natsI l))) => rnSum_any (w := W) (n := k) (m := cv) h ((show (natsI l).length = l.length from List.length_map ..).trans HL.out) (by omega) (natsI_nn l) (natsI_sum HX.out (by have := HL.out; omega)))
        rcases short_norm HX.out (by have := HL.out; omega) hb1 hb2 with ⟨hz, hnone⟩ | ⟨hz, hs1, hs2, hs3, hs4, hs5, hs6⟩
        · have C1 := Lib.hid (hnone wr Av k cv HO.out HL.out)
          rw [hz] at C2
          clear hnone hz hown hb HR
          go_wp2_with fail
          refine C1.out.mono ?_
          rintro e w2 ⟨rfl, hb2⟩
          have HB2 := Lib.hid (HB.out.trans (hb2.mono HB.out.size))
          have HO2 := Lib.hid ((HO.out.below hb2).more hb2.size)
          clear hb2 C1
          unfold NoShares
          go_wp2_with fail
          refine (C2.out w2 HO2.out).mono ?_
          rintro e w' ⟨rfl, hw⟩
          obtain rfl : _ = w' := hw.symm
          go_wp2_with fail
          refine (CK.out _).mono ?_
          rintro e w3 ⟨rfl, hb3⟩
          have HB3 := Lib.hid (HB2.out.trans (hb3.mono HB2.out.size))
          clear hb3
          go_wp2
          go_ret
          exact ⟨rfl, HB3.out⟩
        · have hcl : (natsI l).length = k := (show (natsI l).length = l.length from List.length_map ..).trans HL.out
          have C1 := Lib.hid (normNorm_ok (m := cv) b (2 ^ b) hs1 hs2 hs3 hs4 HO.out hcl (by omega) hs5 hs6)
          have hkeep := fun r (h : NormR (natsI l) ((2 ^ b : Nat) : Int) r) => h.keeps (natsI_nn l) (Int.natCast_nonneg _) (by have := many_pos (natsI_nn l); omega) hs6
          have hT1 : 2 ^ b ≤ 65536 := Nat.pow_le_pow_right (n := 2) (by decide) hb2
          obtain ⟨T, hT⟩ : ∃ T, T = 2 ^ b := ⟨_, rfl⟩
          have hpow : (2 : Int) ^ b = (T : Int) := by rw [hT]; simp
          rw [← hT] at C1 hkeep hT1
          have HKEEP := Lib.hid hkeep
          have HCL := Lib.hid hcl
          obtain ⟨z, hzz⟩ : ∃ z, z = (natsI l).sum := ⟨_, rfl⟩
          rw [← hzz] at hz C2
          have hwr : IntKind.i64.wrap (T : Int) = (T : Int) := by rw [IntKind.wrap_i64]; omega
          have hzb : (z == 0) = false := beq_eq_false_iff_ne.2 hz
          clear hown hb HR hkeep hcl hs1 hs2 hs3 hs4 hs5 hs6 hT hz hzz
          go_wp2_with fail
          refine C1.out.mono ?_
          rintro e w2 ⟨g, r, rfl, -, hnr, hk2, hb2⟩
          obtain ⟨hal, hsum⟩ := HKEEP.out r hnr
          have HB2 := Lib.hid (HB.out.trans (hb2.mono HB.out.size))
          have HO2 := Lib.hid ((HO.out.below hb2).more hb2.size)
          have HK2 := Lib.hid hk2
          have HAL := Lib.hid hal
          have C3 := Lib.hid (fun (W : World) (h : W.heap = w2.heap) => rnSum_any (w := W) (n := k) (m := k) (Rd.of_blk (hk2.same h)) (hal.1.trans HCL.out) (by omega) (all_nn14 hal) (by rw [hsum]; omega))
          rw [hsum] at C3
          clear hb2 C1 hnr hk2 hal hsum
          go_wp2_with fail
          refine (C2.out w2 HO2.out).mono ?_
          rintro e w' ⟨rfl, hw⟩
          obtain rfl : _ = w' := hw.symm
          go_wp2
          refine wp_region_still_lit (by kernel_rfl) (by kernel_rfl) ?_
          iterate 11 still_step
          still_call (C3.out _ rfl)
          repeat still_step
          refine wpStill_nil ?_
          change Exit.then _ _ _ _ w2.drew
          clear hwr hpow C2 C3 HB HO HX
          have HB3 := Lib.hid HB2.out.drew
          have HK3 := Lib.hid (HK2.out.same (w' := w2.drew) rfl)
          have HO3 := Lib.hid (HO2.out.drew)
          clear HB2 HK2 HO2
          go_wp2
          go_loopw [10] (fun i wq => ∃ j : Nat, j ≤ k ∧ i = .int .i64 (j : Int) ∧ Blk wq g 3 (zvs r) ∧ Rd wq wq.heap.size Av (zvs (natsI l)) ∧ Below w.heap.size w wq) (fun i _ => k - (intOf i).toNat)
          case atStart => exact ⟨0, Nat.zero_le _, rfl, HK3.out, HO3.out, HB3.out⟩
          case round =>
            clear HK3 HB3 HO3
            obtain ⟨j, hj, rfl, hblk, hrd, hb⟩ := hrel
            have HBL := Lib.hid hblk
            have HRD := Lib.hid hrd
            have HB := Lib.hid hb
            clear hblk hrd hb
            by_cases hjk : j < k
            · have hjc : j < (natsI l).length := by have := HCL.out; omega
              have hjr : j < r.length := by have := HAL.out.1; omega
              have hc1 := HBL.out.cell j
              rw [zvs_get, List.getElem?_eq_getElem hjr] at hc1
              simp only [Option.map_some] at hc1
              obtain ⟨ab, ao, rfl, -, hc2⟩ := cell_of_rd HRD.out hjc
              have hal := HAL.out.2 j hjc
              have d1 : r.getD j 0 = r[j] := by simp [List.getD_eq_getElem?_getD, hjr]
              have d2 : (natsI l).getD j 0 = (natsI l)[j] := by simp [List.getD_eq_getElem?_getD, hjc]
              rw [d1, d2] at hal
              obtain ⟨x, hx⟩ : ∃ x, x = r[j]'hjr := ⟨_, rfl⟩
              obtain ⟨y, hy⟩ : ∃ y, y = (natsI l)[j]'hjc := ⟨_, rfl⟩
              rw [← hx] at hc1 hal
              rw [← hy] at hc2 hal
              have hji : (j : Int) < (k : Int) := by omega
              clear d1 d2 hx hy
              obtain ⟨hx0, hxy⟩ := hal
              have hxe : (x == 0) = (y == 0) := by
                by_cases h : x = 0
                · rw [h, hxy.1 h]
                · have h2 : ¬ y = 0 := fun e => h (hxy.2 e)
                  rw [beq_eq_false_iff_ne.2 h, beq_eq_false_iff_ne.2 h2]
              have hxn : decide (x < 0) = false := decide_eq_false (by omega)
              clear hxy
              go_wp2
              refine wp_region_still_lit (by kernel_rfl) (by kernel_rfl) ?_
              repeat still_step
              refine wpStill_nil ?_
              change Exit.then _ _ _ _ wr.drew
              clear hc1 hc2
              go_wp2
              go_roundw
              case rel => exact ⟨j + 1, by omega, by go_num, HBL.out.same rfl, HRD.out.drew, HB.out.drew⟩
              case measure => simp [intOf]; omega
            · obtain rfl : j = k := by omega
              go_wp2_with fail
              refine (CK.out _).mono ?_
              rintro e w3 ⟨rfl, hb3⟩
              have HB3 := Lib.hid (HB.out.trans (hb3.mono HB.out.size))
              clear hb3
              go_wp2
              go_ret
              exact ⟨rfl, HB3.out⟩
end Go.Proofs.Ytomgbkakefjilaa
