/- Layer 15: the law SlotEach. -/
import Derived.Test.YtomgbkakefjilaaSlotOf
import Derived.Test.YtomgbkakefjilaaNormKeepL
namespace Go.Proofs.Ytomgbkakefjilaa
open Go.RowKit Go.Sort Go.Shelf

/-- Bytes as numbers. -/
def byN (l : List UInt8) : List Nat := l.map UInt8.toNat
theorem byN_len (l : List UInt8) : (byN l).length = l.length := List.length_map ..
theorem byN_lt (l : List UInt8) : ∀ x ∈ byN l, x < 65536 := fun x hx => by
  obtain ⟨y, -, rfl⟩ := List.mem_map.1 hx
  have := y.toNat_lt
  omega
theorem byN_take (l : List UInt8) {k : Nat} (h : k < l.length) : natsI (byN (l.take (k + 1))) = natsI (byN (l.take k)) ++ [(l[k].toNat : Int)] := by
  unfold natsI byN; rw [List.take_add_one, List.getElem?_eq_getElem h, List.map_append, List.map_append]; rfl
/-- Few counts of bytes may be, of 5 bits or more, unless all are 0. -/
theorem byte_norm {l : List Nat} (hl : ∀ x ∈ l, x < 65536) (hn : l.length ≤ 32) {b : Nat} (h1 : 5 ≤ b) (h2 : b ≤ 16) :
    (∀ (W : World) (A : Option Addr) (n m : Nat), Rd W W.heap.size A (zvs (natsI l)) → l.length = n → Calls Try.prog 10 #[.slice A n m, .int .i64 (b : Int)] W fun e w' => e = NoShares 3 ∧ w' = W) ∨
    SomeOf (natsI l) b (2 ^ b) := by
  have hbad : (natsI l).any nBad = false := by
    rw [List.any_eq_false]
    intro x hx
    obtain ⟨y, hy, rfl⟩ := List.mem_map.1 hx
    have := hl y hy
    simp [nBad]
    omega
  have hlen : (natsI l).length = l.length := List.length_map ..
  by_cases hm : many (natsI l) = 0
  · exact .inl fun W A n m hr hl' => rnNorm_arg b 3 (.inr rfl) (rnCheck_any b _ (by omega) h2 rfl hr (hlen.trans hl') (by omega) 3 (.inr ⟨hbad, .inl ⟨.inl hm, rfl⟩⟩))
  · refine .inr ⟨by omega, h2, rfl, hbad, hm, ?_⟩
    have h3 := many_le (natsI l)
    have h4 : 2 ^ 5 ≤ 2 ^ b := Nat.pow_le_pow_right (by decide) h1
    omega
set_option maxHeartbeats 4000000 in
theorem slotEach_law (A : Option Addr) (L m : Nat) (n : Nat) (l : List UInt8) (w : World) (hr : Rd w w.heap.size A (bvs l)) (hL : l.length = L) (hL63 : L ≤ 9223372036854775807) (hn : n ≤ 255) :
    Calls Try.prog 7 #[.slice A L m, .int .u8 (n : Int)] w (Yes w) := by
  have CK := Lib.hid slotKnown_any
  obtain ⟨i0, hi, hz0, hz1, hz2⟩ := info_parts info_int12
  obtain ⟨b, hb⟩ : ∃ b, b = 5 + n % 6 := ⟨_, rfl⟩
  have hb1 : 5 ≤ b := by omega
  have hb2 : b ≤ 16 := by omega
  have hbi : (5 : Int) + (n : Int) % 6 = (b : Int) := by omega
  by_cases h32 : 32 < L
  · have h2 : (32 : Int) < (L : Int) := by omega
    clear hr hL hb
    go_enter Try.func7, Try.ntmps7
    go_wp2_with fail
    refine (CK.out _).mono ?_
    rintro e w' ⟨rfl, hb⟩
    go_wp2
    go_ret
    exact ⟨rfl, hb⟩
  · have h2 : ¬ ((32 : Int) < (L : Int)) := by omega
    have HR := Lib.hid hr
    have HL := Lib.hid hL
    clear hr hL hb
    go_enter Try.func7, Try.ntmps7
    go_wp2
    clear hbi hn
    go_loopw [6, 7] (fun v i wr => ∃ k : Nat, k ≤ L ∧ i = .int .i64 (k : Int) ∧ wr.ownsRow w.heap.size 3 1 v k (zvs (natsI (byN (l.take k)))) ∧ Below w.heap.size w wr) (fun _ i _ => L - (intOf i).toNat)
    case atStart => exact ⟨0, Nat.zero_le _, rfl, World.ownsRow_nil _ _ _ _, Below.refl _ _⟩
    case round =>
      obtain ⟨k, hk, rfl, hown, hb⟩ := hrel
      have hbs := hb.size
      by_cases hlt : k < L
      · have hkl : k < l.length := by have := HL.out; omega
        obtain ⟨ab, ao, rfl, hab, hcell0⟩ := HR.out k _ (bvs_get l k hkl)
        have hcell := (hb.cell (p := ⟨ab, ao + k, none⟩) hab).trans hcell0
        have hx0 : l[k].toNat < 256 := l[k].toNat_lt
        have hsn := byN_take l hkl
        obtain ⟨x, hx⟩ : ∃ x, x = (l[k]'hkl).toNat := ⟨_, rfl⟩
        rw [← hx] at hcell hx0 hsn
        obtain ⟨Av, cv, rfl, -, -, -⟩ := own_form hown
        have HSN := Lib.hid hsn
        have HB := Lib.hid hb
        have HOWN := Lib.hid hown
        have hkj : (k : Int) < (L : Int) := by omega
        clear hsn hx hcell0 hab hb hown
        go_wp2_with (at_builtin; go_must (refine wpList_app rfl (.tmp 31) (.tmp 37) 22 rfl w.heap.size 3 i0 (.int .i64 0) 1 8 Try.underlying22 hi hz0 hz1 hz2 rfl (by decide) _ _ _ rfl (HOWN.out.alloc _) _ _ 1 1 _ rfl (Rd.new _ _ _) rfl (by intro u hu; simp at hu; subst hu; rfl) (by simp only [maxLen]; omega) (by omega) (by simp; omega) ?_; intro v1 w2 hown1 hg1; have hb1 : Below w.heap.size w w2 := (HB.out.alloc hbs _).grown hg1 (by simp; omega) (own_block HOWN.out); clear hg1))
        go_roundw
        case rel => exact ⟨k + 1, by omega, by go_num, by rw [HSN.out]; simpa [zvs] using hown1, hb1⟩
        case measure => simp [intOf]; omega
      · obtain rfl : k = L := by omega
        rw [List.take_of_length_le (by have := HL.out; omega)] at hown
        obtain ⟨Av, cv, rfl, -, -, -⟩ := own_form hown
        have HO := Lib.hid (Rd.of_own hown)
        have HB := Lib.hid hb
        have hlb : (byN l).length = k := (byN_len l).trans HL.out
        have hcl : (natsI (byN l)).length = k := (show (natsI (byN l)).length = (byN l).length from List.length_map ..).trans hlb
        rcases byte_norm (byN_lt l) (by omega) hb1 hb2 with hnone | ⟨hs1, hs2, hs3, hs4, hs5, hs6⟩
        · have C1 := Lib.hid (hnone wr Av k cv HO.out hlb)
          clear hnone hown hb HR hlb hcl
          go_wp2_with fail
          refine C1.out.mono ?_
          rintro e w' ⟨rfl, hw⟩
          obtain rfl : _ = w' := hw.symm
          unfold NoShares
          go_wp2_with fail
          refine (CK.out _).mono ?_
          rintro e w3 ⟨rfl, hb3⟩
          have HB3 := Lib.hid (HB.out.trans (hb3.mono HB.out.size))
          clear hb3
          go_wp2
          go_ret
          exact ⟨rfl, HB3.out⟩
        · have hT1 : 2 ^ b ≤ 65536 := Nat.pow_le_pow_right (n := 2) (by decide) hb2
          have hT2 : 1 ≤ 2 ^ b := Nat.one_le_two_pow
          have C1 := Lib.hid (rnNorm_ok (m := cv) b (2 ^ b) hs1 hs2 hs3 hs4 HO.out hcl (by omega) hs5 hs6)
          have hkeep := fun r (h : NormR (natsI (byN l)) ((2 ^ b : Nat) : Int) r) => h.keeps (natsI_nn (byN l)) (Int.natCast_nonneg _) (by have := many_pos (natsI_nn (byN l)); omega) hs6
          obtain ⟨T, hT⟩ : ∃ T, T = 2 ^ b := ⟨_, rfl⟩
          have hpow : (2 : Int) ^ b = (T : Int) := by rw [hT]; simp
          rw [← hT] at C1 hkeep hT1 hT2
          have HKEEP := Lib.hid hkeep
          have HCL := Lib.hid hcl
          have HT := Lib.hid hT
          clear hown hb HR hkeep hcl hlb hs1 hs2 hs3 hs4 hs5 hs6 hT HO
          go_wp2_with fail
          refine C1.out.mono ?_
          rintro e w2 ⟨g, cap, r, rfl, hnr, hown2, hb2'⟩
          obtain ⟨hal, hsum⟩ := HKEEP.out r hnr
          have hnn := all_nn14 hal
          have hrl : r.length = k := hal.1.trans HCL.out
          have HB2 := Lib.hid (HB.out.trans (hb2'.mono HB.out.size))
          have hsb : r.any sBad = false := by
            rw [List.any_eq_false]
            intro x hx
            have := hnn x hx
            simp [sBad]
            omega
          have C2 := Lib.hid (slotMake_ok (m := cap) b T (by omega) hb2 HT.out (Rd.of_own hown2) hrl (by omega) hsb hsum)
          have HNN := Lib.hid hnn
          have HSUM := Lib.hid hsum
          clear hb2' C1 hnr hown2 hal hsum hnn hrl hsb HB HT HKEEP HCL
          go_wp2_with fail
          refine C2.out.mono ?_
          rintro e w3 ⟨P, rfl, hs3, hb3⟩
          have HS3 := Lib.hid hs3
          have HB3 := Lib.hid (HB2.out.trans (hb3.mono HB2.out.size))
          clear hb3 C2 HB2 hs3
          go_wp2
          go_loopw [12] (fun i wq => ∃ v : Nat, v ≤ T ∧ i = .int .i64 (v : Int) ∧ IsSlots wq P r b T ∧ Below w.heap.size w wq) (fun i _ => T - (intOf i).toNat)
          case atStart => exact ⟨0, Nat.zero_le _, rfl, HS3.out, HB3.out⟩
          case round =>
            clear HS3 HB3
            obtain ⟨v, hv, rfl, hsl, hbl⟩ := hrel
            have HSL := Lib.hid hsl
            have HB := Lib.hid hbl
            clear hsl hbl
            by_cases hvt : v < T
            · obtain ⟨i, hfi, hil, h3, h4⟩ := fFind_all HNN.out (v := (v : Int)) (by omega) (by have := HSUM.out; omega)
              have C3 := Lib.hid (slotLetter_any (v : Int) HSL.out)
              rw [hfi] at C3
              have hsn := fPre_succ r i hil
              have g1 := fPre_le HNN.out (i + 1)
              have g0 := fPre_nn HNN.out i
              rw [HSUM.out] at g1
              have C4 := Lib.hid (fun (W : World) (h : IsSlots W P r b T) => slotOf_at i h hil)
              obtain ⟨p, hp⟩ : ∃ p, p = fPre r i := ⟨_, rfl⟩
              obtain ⟨y, hy⟩ : ∃ y, y = r[i]'hil := ⟨_, rfl⟩
              rw [← hp, ← hy] at hsn C4
              rw [← hp] at h3 g0
              rw [hsn] at h4 g1
              have hvi : (v : Int) < (T : Int) := by omega
              have hvp : ¬ ((v : Int) < p) := by omega
              have hvq : ¬ (p + y ≤ (v : Int)) := by omega
              have hpy : 0 ≤ p + y ∧ p + y ≤ 65536 := by omega
              obtain ⟨hpy0, hpy1⟩ := hpy
              clear hfi hsn hp hy h3 h4 g1 hil
              go_wp2_with fail
              refine C3.out.mono ?_
              rintro e w' ⟨rfl, hw⟩
              obtain rfl : _ = w' := hw.symm
              unfold findV
              go_wp2_with fail
              refine (C4.out _ HSL.out).mono ?_
              rintro e w4 ⟨rfl, hb4⟩
              have HS4 := Lib.hid (HSL.out.grow hb4)
              have HB4 := Lib.hid (HB.out.trans (hb4.mono HB.out.size))
              clear hb4 C3 C4
              go_wp2
              go_roundw
              case rel => exact ⟨v + 1, by omega, by go_num, HS4.out, HB4.out⟩
              case measure => simp [intOf]; omega
            · obtain rfl : v = T := by omega
              go_wp2_with fail
              refine (CK.out _).mono ?_
              rintro e w5 ⟨rfl, hb5⟩
              have HB5 := Lib.hid (HB.out.trans (hb5.mono HB.out.size))
              clear hb5
              go_wp2
              go_ret
              exact ⟨rfl, HB5.out⟩
end Go.Proofs.Ytomgbkakefjilaa
