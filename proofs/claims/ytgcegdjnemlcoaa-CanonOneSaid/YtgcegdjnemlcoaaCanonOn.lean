/- Layer 21: the law CanonOne. -/
import Derived.Test.YtgcegdjnemlcoaaCanonHit
namespace Go.Proofs.Ytgcegdjnemlcoaa
open Go.RowKit Go.Sort Go.Shelf

/-- Bytes as numbers. -/
def byU (l : List UInt8) : List Nat := l.map UInt8.toNat
theorem byU_len (l : List UInt8) : (byU l).length = l.length := List.length_map ..
theorem byU_get (l : List UInt8) {k : Nat} (h : k < (byU l).length) : (byU l)[k] = (l[k]'(by rw [byU_len] at h; exact h)).toNat := List.getElem_map _
theorem byU_lt (l : List UInt8) : ∀ x ∈ byU l, x < 4294967296 := fun x hx => by
  obtain ⟨y, -, rfl⟩ := List.mem_map.1 hx
  have := y.toNat_lt
  omega
set_option maxHeartbeats 4000000 in
set_option maxRecDepth 100000 in
theorem canonOne_law (A : Option Addr) (L m : Nat) (l : List UInt8) (bits : Nat) (hbits : bits ≤ 65535) (w : World) (hr : Rd w w.heap.size A (bvs l)) (hL : l.length = L) (hLm : L ≤ m) :
    Calls Try.prog 7 #[.slice A L m, .int .u16 (bits : Int)] w (Yes w) := by
  have CK := Lib.hid canonKnown_any
  obtain ⟨i0, hi, hz0, hz1, hz2⟩ := info_parts info_int12
  by_cases h256 : 60 < L
  · have h2 : (60 : Int) < (L : Int) := by omega
    clear hr hL
    go_enter Try.func7, Try.ntmps7
    go_wp2_with fail
    refine (CK.out _).mono ?_
    rintro e w' ⟨rfl, hb⟩
    go_wp2
    go_ret
    exact ⟨rfl, hb⟩
  · have h2 : ¬ ((60 : Int) < (L : Int)) := by omega
    have HR := Lib.hid hr
    have HL := Lib.hid hL
    clear hr hL
    go_enter Try.func7, Try.ntmps7
    go_wp2
    go_loopw [5, 6, 7] (fun v t i wr => ∃ k : Nat, k ≤ L ∧ i = .int .i64 (k : Int) ∧ t = .int .i64 (rankL (natsJ (byU l)) k : Int) ∧ wr.ownsRow w.heap.size 3 1 v k (zvs (natsJ ((byU l).take k))) ∧ Below w.heap.size w wr) (fun _ _ i _ => L - (intOf i).toNat)
    case atStart => exact ⟨0, Nat.zero_le _, rfl, rfl, World.ownsRow_nil _ _ _ _, Below.refl _ _⟩
    case round =>
      obtain ⟨k, hk, rfl, rfl, hown, hb⟩ := hrel
      have hbs := hb.size
      by_cases hlt : k < L
      · have hkl : k < l.length := by have := HL.out; omega
        have hkb : k < (byU l).length := by rw [byU_len]; exact hkl
        obtain ⟨ab, ao, rfl, hab, hcell0⟩ := HR.out k _ (bvs_get l k hkl)
        have hcell := (hb.cell (p := ⟨ab, ao + k, none⟩) hab).trans hcell0
        have hsn := natsJ_take (byU l) hkb
        obtain ⟨p, hp, hmin, hrk⟩ := rank_step (byU l) hkb
        rw [byU_get l hkb] at hsn hmin
        have hx0 := (l[k]'hkl).toNat_lt
        obtain ⟨x, hx⟩ : ∃ x, x = (l[k]'hkl).toNat := ⟨_, rfl⟩
        rw [← hx] at hcell hcell0 hsn hmin hx0
        have hR := rank_le (natsJ (byU l)) k
        obtain ⟨R, hRR⟩ : ∃ R, R = rankL (natsJ (byU l)) k := ⟨_, rfl⟩
        rw [← hRR] at hR hrk ⊢
        obtain ⟨Av, cv, rfl, -, -, -⟩ := own_form hown
        have HSN := Lib.hid hsn
        have HB := Lib.hid hb
        have HOWN := Lib.hid hown
        have HRK := Lib.hid hrk
        have H0 := Lib.hid (And.intro hab hcell0)
        have hkj : (k : Int) < (L : Int) := by omega
        clear hsn hx hcell0 hab hb hown hrk hRR
        go_wp2_with ((with_reducible show wpList _ _ _ (({ dst := some 31, op := _, type := _, pos := _, after := _, guard := _ } : Oper) :: _) _ _); go_must (refine wpList_app rfl (.tmp 24) (.tmp 30) 22 rfl w.heap.size 3 i0 (.int .i64 0) 1 8 Try.underlying22 hi hz0 hz1 hz2 rfl (by decide) _ _ _ rfl (HOWN.out.alloc _) _ _ 1 1 _ rfl (Rd.new _ _ _) rfl (by intro u hu; simp at hu; subst hu; rfl) (by simp only [maxLen]; omega) (by omega) (by simp; omega) ?_; intro v1 w2 hown1 hg1; have hb1 : Below w.heap.size w w2 := (HB.out.alloc hbs _).grown hg1 (by simp; omega) (own_block HOWN.out); have hcell2 := (hb1.cell (p := ⟨ab, ao + k, none⟩) H0.out.1).trans H0.out.2; have HO1 := Lib.hid (And.intro hown1 hb1); clear hg1 hown1 hb1))
        go_roundw
        case rel => exact ⟨k + 1, by omega, by go_num, by rw [HRK.out]; go_num, by rw [HSN.out]; simpa [zvs] using HO1.out.1, HO1.out.2⟩
        case measure => simp [intOf]; omega
      · obtain rfl : k = L := by omega
        have hgo := natsJ_good (byU_lt l)
        have hnj : (natsJ (byU l)).length = k := by rw [natsJ_len, byU_len]; exact HL.out
        rw [List.take_of_length_le (by rw [byU_len]; have := HL.out; omega)] at hown
        rw [← hnj, rankL_all, hnj]
        obtain ⟨c, hc⟩ : ∃ c, c = natsJ (byU l) := ⟨_, rfl⟩
        have hnn := natsJ_nn (byU l)
        rw [← hc] at hown hgo hnj hnn ⊢
        obtain ⟨Av, cv, rfl, -, -, -⟩ := own_form hown
        have HO := Lib.hid (Rd.of_own hown)
        have HB := Lib.hid hb
        have C1 := Lib.hid (ref_Of (m := cv) HO.out hnj (by omega))
        have HN := Lib.hid (And.intro hnj (And.intro hnn (good_bad.2 hgo)))
        obtain ⟨T, hT⟩ : ∃ T, T = (posL c).length := ⟨_, rfl⟩
        have hTk : T ≤ k := by rw [hT]; unfold posL; exact Nat.le_trans (List.length_filter_le _ _) (by omega)
        rw [← hT]
        have HT := Lib.hid hT
        clear hown hb hgo hnj hnn hc hT HR
        go_wp2_with fail
        refine C1.out.mono ?_
        rintro e w2 ⟨he, hb2⟩
        obtain ⟨v2, o, rfl, ho, hv⟩ : ∃ v o, e = .returned v ∧ LensOfR c o ∧ LensV wr.heap.size o v w2 := by
          rcases he with ⟨-, h⟩ | ⟨v, out, h1, -, h2, h3⟩
          · rw [HN.out.2.2] at h; cases h
          · exact ⟨v, out, h1, h2, h3⟩
        have hol := ho.len.trans HN.out.1
        obtain ⟨g, n2, rfl, hn2, -, hblk⟩ := hv
        obtain rfl : k = n2 := by omega
        have HB2 := Lib.hid (HB.out.trans (hb2.mono HB.out.size))
        have hro := Rd.of_blk hblk
        have hok := lens_ok ho HN.out.2.1
        have hnl : (natL o).length = k := by rw [natL_len]; exact hol
        clear he hn2 hb2 C1 HO HB hblk
        by_cases hT0 : T = 0
        · have C2 := Lib.hid (canonMake_range (m := k) hro hol (by omega) hok (lens_none ho HN.out.2.1 (by rw [← HT.out]; exact hT0)))
          subst hT0
          clear ho hol hro hok hnl
          go_wp2_with fail
          refine C2.out.mono ?_
          rintro e w3 ⟨rfl, hw⟩
          subst hw
          go_wp2_with fail
          refine (CK.out _).mono ?_
          rintro e w6 ⟨rfl, hb6⟩
          have HB6 := Lib.hid (HB2.out.trans (hb6.mono HB2.out.size))
          clear hb6
          go_wp2
          go_ret
          exact ⟨rfl, HB6.out⟩
        · have C2 := Lib.hid (canonMake_ok (m := k) hro hol (by omega) hok (lens_whole ho HN.out.2.1 (by rw [← HT.out]; omega)))
          obtain ⟨K, hK⟩ : ∃ K, K = kraftL (natL o) := ⟨_, rfl⟩
          have hk3 := lens_kraft ho HN.out.2.1
          rw [← HT.out, show kraftI o = K from hK.symm] at hk3
          have HKK := Lib.hid (And.intro hK hk3)
          have hTi : ¬ (T : Int) = 0 := by omega
          clear ho hol hro hok hnl hk3 hK
          go_wp2_with fail
          refine C2.out.mono ?_
          rintro e w3 ⟨E, g', M, S, rfl, hord, hca, hb3⟩
          have HB3 := Lib.hid (HB2.out.trans (hb3.mono HB2.out.size))
          obtain ⟨v, hv⟩ : ∃ v, v = bits % 32768 := ⟨_, rfl⟩
          have hvi : (bits : Int) % 32768 = (v : Int) := by omega
          have hv2 : v < 32768 := by omega
          have H3 := Lib.hid (And.intro hord hca)
          clear hord hca hb3 C2 hv
          go_wp2
          have HTQ := Lib.hid (show (((T : Nat) : Int) == 0) = false from beq_eq_false_iff_ne.2 (by omega))
          have HT0 := Lib.hid hT0
          clear hTi hT0
          go_loopw [10, 11] (fun f i wr' => ∃ (N F : Nat), 1 ≤ N ∧ N ≤ 16 ∧ i = .int .i64 (N : Int) ∧ f = .int .i64 (F : Int) ∧ Hid (HitQ (natL o) v N F) ∧ F ≤ 1 ∧ wr' = w3) (fun _ i _ => 16 - (intOf i).toNat)
          case atStart => exact ⟨1, 0, by decide, by decide, rfl, rfl, Lib.hid (hitQ_start _ _), by decide, rfl⟩
          case round =>
            obtain ⟨N, F, hN1, hN16, rfl, rfl, HQ, hF1, hw⟩ := hrel
            subst hw
            by_cases hN : N ≤ 15
            · have hNi : (N : Int) ≤ 15 := by omega
              have HL := letter_hit H3.out.1 v N hN1
              rw [show ((v / 2 ^ (15 - N) : Nat) : Int) = (v : Int) / 2 ^ (15 - N) by simp] at HL
              have C3 := codesLetter H3.out.2 ((v : Int) / 2 ^ (15 - N)) (N : Int)
              rcases HL with ⟨hh, r, i, hf⟩ | ⟨hh, hf⟩
              · rw [hf] at C3
                obtain ⟨rfl, hq⟩ := hitQ_yes HQ.out hN1 hN hh
                have HQ2 := Lib.hid hq
                unfold letV at C3
                have C3 := Lib.hid C3
                clear hh hf hq HQ
                go_wp2_with fail
                refine C3.out.mono ?_
                rintro e w5 ⟨rfl, hw⟩
                subst hw
                clear C3
                go_wp2
                go_roundw
                case rel =>
                  simp only [HTQ.out]
                  refine ⟨_, _, _, _, _, _, _, _, _, _, _, _, _, _, _, _, _, _, _, _, _, _, _, ?_, rfl⟩
                  exact ⟨N + 1, 0 + 1, by omega, by omega, by go_num, by first | rfl | go_num, Lib.hid HQ2.out, by decide, by first | trivial | rfl⟩
                case measure => simp [intOf]; omega
              · rw [hf] at C3
                have HQ2 := Lib.hid (hitQ_no HQ.out hh)
                unfold letV at C3
                have C3 := Lib.hid C3
                clear hh hf HQ
                go_wp2_with fail
                refine C3.out.mono ?_
                rintro e w5 ⟨rfl, hw⟩
                subst hw
                clear C3
                go_wp2
                go_roundw
                case rel =>
                  simp only [HTQ.out]
                  refine ⟨_, _, _, _, _, _, _, _, _, _, _, _, _, _, _, _, _, _, _, _, _, _, _, ?_, rfl⟩
                  exact ⟨N + 1, F, by omega, by omega, by go_num, rfl, Lib.hid HQ2.out, hF1, by first | trivial | rfl⟩
                case measure => simp [intOf]; omega
            · obtain rfl : N = 16 := by omega
              have hend := hitQ_end HQ.out HKK.out.1.symm
              have hT0 := HT0.out
              by_cases hT1 : T = 1
              · rw [HKK.out.2.2.1 hT1] at hend
                subst hT1
                clear hT0
                by_cases hv3 : v < 16384
                · rw [if_pos hv3] at hend
                  subst hend
                  have hv4 : (v : Int) < 16384 := by omega
                  go_wp2_with fail
                  refine (CK.out _).mono ?_
                  rintro e w6 ⟨rfl, hb6⟩
                  have HB6 := Lib.hid (HB3.out.trans (hb6.mono HB3.out.size))
                  clear hb6
                  go_wp2
                  go_ret
                  exact ⟨rfl, HB6.out⟩
                · rw [if_neg hv3] at hend
                  subst hend
                  have hv4 : ¬ (v : Int) < 16384 := by omega
                  go_wp2_with fail
                  refine (CK.out _).mono ?_
                  rintro e w6 ⟨rfl, hb6⟩
                  have HB6 := Lib.hid (HB3.out.trans (hb6.mono HB3.out.size))
                  clear hb6
                  go_wp2
                  go_ret
                  exact ⟨rfl, HB6.out⟩
              · rw [HKK.out.2.2.2 (by omega), if_pos hv2] at hend
                subst hend
                have hTj : ¬ (T : Int) = 1 := by omega
                go_wp2_with fail
                refine (CK.out _).mono ?_
                rintro e w6 ⟨rfl, hb6⟩
                have HB6 := Lib.hid (HB3.out.trans (hb6.mono HB3.out.size))
                clear hb6
                go_wp2
                go_ret
                exact ⟨rfl, HB6.out⟩
end Go.Proofs.Ytgcegdjnemlcoaa
