/- Layer 20: the law LensShorter. -/
import Derived.Test.YtgcegdjnemlcoaaLensIn
namespace Go.Proofs.Ytgcegdjnemlcoaa
open Go.RowKit Go.Sort Go.Shelf

theorem natsJ_good16 {l : List Nat} (h : ∀ x ∈ l, x < 65536) : Good (natsJ l) := natsJ_good fun x hx => by have := h x hx; omega
set_option maxHeartbeats 4000000 in
set_option maxRecDepth 100000 in
theorem lensShorter_law (A : Option Addr) (L m : Nat) (l : List Nat) (w : World) (hr : Rd w w.heap.size A (hvs l)) (hL : l.length = L) (hL63 : L ≤ 9223372036854775807) (hl : ∀ x ∈ l, x < 65536) :
    Calls Try.prog 5 #[.slice A L m] w (Yes w) := by
  have CK := Lib.hid lensKnown_any
  obtain ⟨i0, hi, hz0, hz1, hz2⟩ := info_parts info_int12
  by_cases h256 : 200 < L
  · have h2 : (200 : Int) < (L : Int) := by omega
    clear hr hL hl
    go_enter Try.func5, Try.ntmps5
    go_wp2_with fail
    refine (CK.out _).mono ?_
    rintro e w' ⟨rfl, hb⟩
    go_wp2
    go_ret
    exact ⟨rfl, hb⟩
  · have h2 : ¬ ((200 : Int) < (L : Int)) := by omega
    have HR := Lib.hid hr
    have HL := Lib.hid hL
    have HX := Lib.hid hl
    clear hr hL hl
    go_enter Try.func5, Try.ntmps5
    go_wp2
    go_loopw [3, 4] (fun v i wr => ∃ k : Nat, k ≤ L ∧ i = .int .i64 (k : Int) ∧ wr.ownsRow w.heap.size 3 1 v k (zvs (natsJ (l.take k))) ∧ Below w.heap.size w wr) (fun _ i _ => L - (intOf i).toNat)
    case atStart => exact ⟨0, Nat.zero_le _, rfl, World.ownsRow_nil _ _ _ _, Below.refl _ _⟩
    case round =>
      obtain ⟨k, hk, rfl, hown, hb⟩ := hrel
      have hbs := hb.size
      by_cases hlt : k < L
      · have hkl : k < l.length := by have := HL.out; omega
        obtain ⟨ab, ao, rfl, hab, hcell0⟩ := HR.out k _ (hvs_get l k hkl)
        have hcell := (hb.cell (p := ⟨ab, ao + k, none⟩) hab).trans hcell0
        have hx0 := HX.out _ (List.getElem_mem hkl)
        have hsn := natsJ_take l hkl
        obtain ⟨x, hx⟩ : ∃ x, x = l[k]'hkl := ⟨_, rfl⟩
        rw [← hx] at hcell hx0 hsn
        obtain ⟨Av, cv, rfl, -, -, -⟩ := own_form hown
        have HSN := Lib.hid hsn
        have HB := Lib.hid hb
        have HOWN := Lib.hid hown
        have hkj : (k : Int) < (L : Int) := by omega
        clear hsn hx hcell0 hab hb hown
        go_wp2_with ((with_reducible show wpList _ _ _ (({ dst := some 27, op := _, type := _, pos := _, after := _, guard := _ } : Oper) :: _) _ _); go_must (refine wpList_app rfl (.tmp 20) (.tmp 26) 22 rfl w.heap.size 3 i0 (.int .i64 0) 1 8 Try.underlying22 hi hz0 hz1 hz2 rfl (by decide) _ _ _ rfl (HOWN.out.alloc _) _ _ 1 1 _ rfl (Rd.new _ _ _) rfl (by intro u hu; simp at hu; subst hu; rfl) (by simp only [maxLen]; omega) (by omega) (by simp; omega) ?_; intro v1 w2 hown1 hg1; have hb1 : Below w.heap.size w w2 := (HB.out.alloc hbs _).grown hg1 (by simp; omega) (own_block HOWN.out); have HO1 := Lib.hid (And.intro hown1 hb1); clear hg1 hown1 hb1))
        go_roundw
        case rel => exact ⟨k + 1, by omega, by go_num, by rw [HSN.out]; simpa [zvs] using HO1.out.1, HO1.out.2⟩
        case measure => simp [intOf]; omega
      · obtain rfl : k = L := by omega
        have hgo := natsJ_good16 HX.out
        have hnj : (natsJ l).length = k := by rw [natsJ_len]; exact HL.out
        rw [List.take_of_length_le (by have := HL.out; omega)] at hown
        obtain ⟨c, hc⟩ : ∃ c, c = natsJ l := ⟨_, rfl⟩
        rw [← hc] at hown hgo hnj
        obtain ⟨Av, cv, rfl, -, -, -⟩ := own_form hown
        have HO := Lib.hid (Rd.of_own hown)
        have HB := Lib.hid hb
        have C1 := Lib.hid (lens_Of (m := cv) HO.out hnj (by omega) hgo)
        have HN := Lib.hid (And.intro hnj hgo)
        clear hown hb hgo hnj hc HR
        go_wp2_with fail
        refine C1.out.mono ?_
        rintro e w2 ⟨v2, o, rfl, ho, hv, hb2⟩
        have hol := ho.len.trans HN.out.1
        obtain ⟨g, n2, rfl, hn2, -, hblk⟩ := hv
        obtain rfl : k = n2 := by omega
        have HB2 := Lib.hid (HB.out.trans (hb2.mono HB.out.size))
        have HO2 := Lib.hid ((HO.out.below hb2).more hb2.size)
        have HK2 := Lib.hid hblk
        have HP := Lib.hid (And.intro hol ho)
        have C2 := Lib.hid (ref_depths (m := cv) HO2.out HN.out.1 (by omega) HN.out.2)
        clear hol ho hn2 hblk hb2 C1 HO HB
        go_wp2_with fail
        refine C2.out.mono ?_
        rintro e w3 ⟨v3, dl, rfl, hd, hv3, hb3⟩
        have hdl := hd.len.trans HN.out.1
        obtain ⟨g3, n3, rfl, hn3, -, hblk3⟩ := hv3
        obtain rfl : k = n3 := by omega
        have HB3 := Lib.hid (HB2.out.trans (hb3.mono HB2.out.size))
        have HO3 := Lib.hid ((HO2.out.below hb3).more hb3.size)
        have HK3 := Lib.hid (HK2.out.grow hb3)
        have HD3 := Lib.hid hblk3
        have HD := Lib.hid (And.intro hdl hd)
        clear hdl hd hn3 hblk3 hb3 C2 HO2 HB2 HK2
        go_wp2
        go_loopw [7] (fun i wr => ∃ j : Nat, j ≤ k ∧ i = .int .i64 (j : Int) ∧ (∀ x ∈ dl.take j, x ≤ 15) ∧ wr = w3) (fun i _ => k - (intOf i).toNat)
        case atStart => exact ⟨0, Nat.zero_le _, rfl, fun x hx => by simp at hx, rfl⟩
        case round =>
          obtain ⟨j, hj, rfl, hsm, hw⟩ := hrel
          subst hw
          have HSM := Lib.hid hsm
          clear hsm
          by_cases hjk : j < k
          · have hjd : j < dl.length := by rw [HD.out.1]; exact hjk
            have hcell := HD3.out.cell j
            rw [zvs_get' dl (List.getElem?_eq_getElem hjd)] at hcell
            have hji : (j : Int) < (k : Int) := by omega
            by_cases hbig : 15 < dl[j]
            · obtain ⟨x, hx⟩ : ∃ x, x = dl[j]'hjd := ⟨_, rfl⟩
              rw [← hx] at hcell hbig
              clear hx
              go_wp2_with fail
              refine (CK.out _).mono ?_
              rintro e w6 ⟨rfl, hb6⟩
              have HB6 := Lib.hid (HB3.out.trans (hb6.mono HB3.out.size))
              clear hb6
              go_wp2
              go_ret
              exact ⟨rfl, HB6.out⟩
            · have HSN := Lib.hid (show ∀ x ∈ dl.take (j + 1), x ≤ 15 from fun x hx => by
                rw [List.take_add_one, List.getElem?_eq_getElem hjd] at hx
                rcases List.mem_append.1 hx with h | h
                · exact HSM.out x h
                · rw [show x = dl[j] from by simpa using h]; omega)
              obtain ⟨x, hx⟩ : ∃ x, x = dl[j]'hjd := ⟨_, rfl⟩
              rw [← hx] at hcell hbig
              clear hx
              go_wp2
              go_roundw
              case rel => exact ⟨j + 1, by omega, by go_num, HSN.out, by first | trivial | rfl⟩
              case measure => simp [intOf]; omega
          · obtain rfl : k = j := by omega
            have hshort : Short dl := fun x hx => HSM.out x (by rw [List.take_of_length_le (by have := HD.out.1; omega)]; exact hx)
            obtain rfl := lens_deep HP.out.2 HD.out.2 hshort
            clear hshort HSM
            obtain ⟨W3, rfl⟩ : ∃ W, W = wr := ⟨_, rfl⟩
            go_wp2
            go_loopw [8, 9] (fun i _ wq => ∃ a : Nat, a ≤ k ∧ i = .int .i64 (a : Int) ∧ wq.heap = W3.heap ∧ Below w.heap.size w wq) (fun i _ _ => k - (intOf i).toNat)
            case atStart => exact ⟨0, Nat.zero_le _, rfl, rfl, HB3.out⟩
            case round =>
              obtain ⟨a, ha, rfl, hh, hb⟩ := hrel
              have HHa := Lib.hid hh
              have HBa := Lib.hid hb
              clear hh hb
              by_cases hak : a < k
              · have hai : (a : Int) < (k : Int) := by omega
                have hac : a < c.length := by rw [HN.out.1]; exact hak
                have hao : a < o.length := by rw [HP.out.1]; exact hak
                go_wp2
                go_loopw [9] (fun i wz => ∃ b : Nat, b ≤ k ∧ i = .int .i64 (b : Int) ∧ wz.heap = W3.heap ∧ Below w.heap.size w wz) (fun i _ => k - (intOf i).toNat)
                case atStart => exact ⟨0, Nat.zero_le _, rfl, HHa.out, HBa.out⟩
                case round =>
                  clear HHa HBa
                  obtain ⟨b, hb, rfl, hh, hbe⟩ := hrel
                  have HH := Lib.hid hh
                  have HBb := Lib.hid hbe
                  clear hh hbe
                  by_cases hbk : b < k
                  · have hbi : (b : Int) < (k : Int) := by omega
                    have hbc : b < c.length := by rw [HN.out.1]; exact hbk
                    have hbo : b < o.length := by rw [HP.out.1]; exact hbk
                    obtain ⟨ab, ao, rfl, -, hc1⟩ := cell_of_rd (rd_same HO3.out HH.out) hac
                    obtain ⟨ab', ao', he, -, hc2⟩ := cell_of_rd (rd_same HO3.out HH.out) hbc
                    obtain ⟨rfl, rfl⟩ : ab = ab' ∧ ao = ao' := by injection he with e; injection e with e1 e2; exact ⟨e1, e2⟩
                    obtain ⟨ga, oa, hea, -, hc3⟩ := cell_of_rd (rd_same (Rd.of_blk HK3.out) HH.out) hao
                    obtain ⟨rfl, rfl⟩ : g = ga ∧ oa = 0 := by injection hea with e; injection e with e1 e2; exact ⟨e1, e2.symm⟩
                    obtain ⟨gb, ob, heb, -, hc4⟩ := cell_of_rd (rd_same (Rd.of_blk HK3.out) HH.out) hbo
                    obtain ⟨rfl, rfl⟩ : g = gb ∧ ob = 0 := by injection heb with e; injection e with e1 e2; exact ⟨e1, e2.symm⟩
                    have hmono := fun h0 h1 => deep_mono HD.out.2 hao hbo hac hbc h0 h1
                    obtain ⟨xa, hxa⟩ : ∃ x, x = c[a]'hac := ⟨_, rfl⟩
                    obtain ⟨xb, hxb⟩ : ∃ x, x = c[b]'hbc := ⟨_, rfl⟩
                    obtain ⟨ya, hya⟩ : ∃ x, x = o[a]'hao := ⟨_, rfl⟩
                    obtain ⟨yb, hyb⟩ : ∃ x, x = o[b]'hbo := ⟨_, rfl⟩
                    rw [← hxa] at hc1 hmono
                    rw [← hxb] at hc2 hmono
                    rw [← hya] at hc3 hmono
                    rw [← hyb] at hc4 hmono
                    rw [Nat.zero_add] at hc3 hc4
                    have HM := Lib.hid hmono
                    clear hxa hxb hya hyb hmono he hea heb
                    by_cases h1 : xb < xa
                    · have d1 : decide (xb < xa) = true := decide_eq_true h1
                      by_cases h2 : 0 < xb
                      · have d2 : decide (0 < xb) = true := decide_eq_true h2
                        have d3 : decide (yb < ya) = false := decide_eq_false (by have := HM.out h2 h1; omega)
                        clear h1 h2
                        go_wp2
                        go_quiet (fail)
                        go_wp2
                        go_roundw
                        case rel => exact ⟨b + 1, by omega, by go_num, HH.out, below_drewN HBb.out nq⟩
                        case measure => simp [intOf]; omega
                      · have d2 : decide (0 < xb) = false := decide_eq_false h2
                        clear h1 h2
                        go_wp2
                        go_quiet (fail)
                        go_wp2
                        go_roundw
                        case rel => exact ⟨b + 1, by omega, by go_num, HH.out, below_drewN HBb.out nq⟩
                        case measure => simp [intOf]; omega
                    · have d1 : decide (xb < xa) = false := decide_eq_false h1
                      clear h1
                      go_wp2
                      go_quiet (fail)
                      go_wp2
                      go_roundw
                      case rel => exact ⟨b + 1, by omega, by go_num, HH.out, below_drewN HBb.out nq⟩
                      case measure => simp [intOf]; omega
                  · obtain rfl : k = b := by omega
                    go_wp2
                    go_roundw
                    case rel => exact ⟨a + 1, by omega, by go_num, HH.out, HBb.out⟩
                    case measure => simp [intOf]; omega
              · obtain rfl : k = a := by omega
                go_wp2_with fail
                refine (CK.out _).mono ?_
                rintro e w6 ⟨rfl, hb6⟩
                have HB6 := Lib.hid (HBa.out.trans (hb6.mono HBa.out.size))
                clear hb6
                go_wp2
                go_ret
                exact ⟨rfl, HB6.out⟩
end Go.Proofs.Ytgcegdjnemlcoaa
