/- Layer 16: the reference's May and Put. -/
import Derived.Test.YtfdgnhfppginiaaHistPut
namespace Go.Proofs.Ytfdgnhfppginiaa
open Go.RowKit Go.Sort Go.Shelf

section
variable {w : World} {B : Nat} {A : Option Addr} {n m : Nat} {c : List Int}
/-- Whether shares may be laid. -/
def mayB (c : List Int) : Bool := !(c.any hBad) && decide (c.length = 256)
theorem mayB_yes (h : mayB c = true) : HistMay c := by
  simp only [mayB, Bool.and_eq_true, Bool.not_eq_true', decide_eq_true_eq] at h
  exact ⟨h.2, hBad_all h.1⟩
theorem mayB_no (h : mayB c = false) : ¬ HistMay c := fun g => by
  have : mayB c = true := by simp only [mayB, Bool.and_eq_true, Bool.not_eq_true', decide_eq_true_eq]; exact ⟨hBad_none g.2, g.1⟩
  rw [h] at this
  cases this
/-- What holds at the head of a round of the reference's Put. -/
def RLayRel (w : World) (c : List Int) (L : List UInt8) (v z i : Value) (wr : World) : Prop :=
  ∃ (k y : Nat) (out : List UInt8), k ≤ c.length ∧ y ≤ k ∧ z = .int .i64 (y : Int) ∧ i = .int .i64 (k : Int) ∧ wr.ownsRow w.heap.size 5 1 v out.length (bvs out) ∧ Hid (out ++ hPutF y (c.drop k) = L) ∧ Below w.heap.size w wr
set_option maxHeartbeats 1000000 in
set_option maxRecDepth 100000 in
theorem rhPut_any (hr : Rd w w.heap.size A (zvs c)) (hn : c.length = n) (hn1 : n ≤ 4096) (hx : ∀ x ∈ c, 0 ≤ x ∧ x ≤ 65536) :
    Calls Try.prog 30 #[.slice A n m] w (NewB w (hPut c)) := by
  obtain ⟨i0, hi, hz0, hz1, hz2⟩ := info_parts info_u8
  have hbound := hPutF_len c 0 hx (by omega)
  obtain ⟨L, hL⟩ : ∃ L, L = hPut c := ⟨_, rfl⟩
  have hLl : L.length ≤ 90000 := by have : L.length = (hPutF 0 c).length := by rw [hL]; rfl
                                    omega
  rw [← hL]
  have HX := Lib.hid hx
  have HR := Lib.hid hr
  have HL := Lib.hid hL
  have HN := Lib.hid hn
  clear hL hbound hx hr hn
  go_enter Try.func30, Try.ntmps30
  go_wp2
  go_loopw [3, 4, 5] (RLayRel w c L) (fun _ _ i _ => n - (intOf i).toNat)
  case atStart => exact ⟨0, 0, [], Nat.zero_le _, Nat.le_refl _, rfl, rfl, World.ownsRow_nil _ _ _ _, HL.out.symm, Below.refl _ _⟩
  case round =>
    obtain ⟨k, y, out, hk, hy, rfl, rfl, hown, HO, hb⟩ := hrel
    have hbs := hb.size
    have hol : out.length ≤ 90000 := by have := congrArg List.length HO.out; rw [List.length_append] at this; omega
    obtain ⟨A1, c1, rfl, -, -, -⟩ := own_form hown
    have HOWN := Lib.hid hown
    have HB := Lib.hid hb
    have hy2 : y ≤ 4096 := by have := HN.out; omega
    have hk2 : k ≤ 4096 := by have := HN.out; omega
    have C1 := Lib.hid (fun W => refPut_any (y : Int) W (by omega) (by omega))
    have hyl := lput_le y (by omega)
    clear hown hb
    by_cases hlt : k < n
    · have hkc : k < c.length := by have := HN.out; omega
      have hd : c.drop k = c[k] :: c.drop (k + 1) := List.drop_eq_getElem_cons hkc
      have hx := HX.out _ (List.getElem_mem hkc)
      obtain ⟨ab, ao, rfl, hab, hcell0⟩ := cell_of_rd HR.out hkc
      have hcell := (HB.out.cell (p := ⟨ab, ao + k, none⟩) hab).trans hcell0
      obtain ⟨x, hxx⟩ : ∃ x, x = c[k]'hkc := ⟨_, rfl⟩
      rw [← hxx] at hcell hcell0 hd hx
      rw [hd] at HO
      have hji : (k : Int) < (n : Int) := by omega
      clear hd hxx
      by_cases h0 : x = 0
      · subst h0
        rw [hPutF_zero] at HO
        clear C1 hcell0
        go_wp2
        go_roundw
        case rel => exact ⟨k + 1, y + 1, out, by omega, by omega, by go_num, by go_num, HOWN.out, HO, HB.out⟩
        case measure => simp [intOf]; omega
      · rw [hPutF_some y _ h0] at HO
        have hxf : (x == 0) = false := beq_eq_false_iff_ne.2 h0
        have hx1 := hx.1
        have hx2 := hx.2
        have C2 := Lib.hid (fun W => refPut_any (x - 1) W (by omega) (by omega))
        have hxl := lput_le (x - 1).toNat (by omega)
        have HC0 := Lib.hid hcell0
        clear hcell0 hx
        go_wp2_with fail
        refine (C1.out _).mono ?_
        rintro e w1 ⟨u, rfl, hown1, hb1⟩
        rw [Int.toNat_natCast] at hown1
        obtain ⟨A2, c2, rfl, -, -, -⟩ := own_form hown1
        have HO1 := Lib.hid (own_kept HOWN.out hb1)
        have HR1 := Lib.hid (Rd.of_own hown1)
        have HB1 := Lib.hid (HB.out.trans (hb1.mono hbs))
        have hbs1 : w.heap.size ≤ w1.heap.size := Nat.le_trans hbs hb1.size
        have HZ1 := Lib.hid (show (bvs (lput y)).length = (lput y).length * 1 by rw [bvs_length, Nat.mul_one])
        have hA1 : out.length + (lput y).length ≤ maxLen := by simp only [maxLen]; omega
        have hA2 : (out.length + (lput y).length) * 1 ≤ 140737488355328 := by omega
        obtain ⟨p, hp⟩ : ∃ p, p = out.length := ⟨_, rfl⟩
        obtain ⟨q, hq⟩ : ∃ q, q = (lput y).length := ⟨_, rfl⟩
        rw [← hp] at hA1 hA2 HO1 hol
        rw [← hq] at hA1 hA2 HZ1 hyl
        simp only [← hp, ← hq]
        have HP := Lib.hid hp
        have HQ := Lib.hid hq
        clear hown1 hb1 C1 HOWN HB hp hq
        go_wp2_with ((with_reducible show wpList _ _ _ (({ dst := some 23, op := _, type := _, pos := _, after := _, guard := _ } : Oper) :: _) _ _); go_must (refine wpList_app rfl (.tmp 19) (.tmp 22) 22 rfl w.heap.size 5 i0 (.int .u8 0) 1 1 Try.underlying22 hi hz0 hz1 hz2 rfl (by decide) _ _ _ rfl HO1.out w1.heap.size A2 _ _ (bvs (lput y)) rfl HR1.out HZ1.out (bvs_one _) hA1 hA2 hbs1 ?_; intro v2 w2 hown2 hg2; have hb2 := HB1.out.grown hg2 hbs1 (own_block HO1.out); have hcell2 := (hb2.cell (p := ⟨ab, ao + k, none⟩) hab).trans HC0.out; clear hg2))
        rw [← bvs_append] at hown2
        have hbs2 : w.heap.size ≤ w2.heap.size := hb2.size
        obtain ⟨A3, c3, rfl, -, -, -⟩ := own_form hown2
        have HO2 := Lib.hid hown2
        have HB2 := Lib.hid hb2
        clear hown2 hb2 HO1 HR1 HB1 hbs1 HZ1 hA1 hA2 hcell hcell2
        refine (C2.out _).mono ?_
        rintro e w3 ⟨u, rfl, hown3, hb3⟩
        obtain ⟨A4, c4, rfl, -, -, -⟩ := own_form hown3
        have HO3 := Lib.hid (own_kept HO2.out hb3)
        have HR3 := Lib.hid (Rd.of_own hown3)
        have HB3 := Lib.hid (HB2.out.trans (hb3.mono hbs2))
        have hbs3 : w.heap.size ≤ w3.heap.size := Nat.le_trans hbs2 hb3.size
        have HZ3 := Lib.hid (show (bvs (lput (x - 1).toNat)).length = (lput (x - 1).toNat).length * 1 by rw [bvs_length, Nat.mul_one])
        obtain ⟨r, hr⟩ : ∃ r, r = (lput (x - 1).toNat).length := ⟨_, rfl⟩
        rw [← hr] at HZ3 hxl
        simp only [← hr]
        have HRR := Lib.hid hr
        have hA1 : p + q + r ≤ maxLen := by simp only [maxLen]; omega
        have hA2 : (p + q + r) * 1 ≤ 140737488355328 := by omega
        clear hown3 hb3 C2 HO2 HB2 hr
        go_wp2_with ((with_reducible show wpList _ _ _ (({ dst := some 32, op := _, type := _, pos := _, after := _, guard := _ } : Oper) :: _) _ _); go_must (refine wpList_app rfl (.tmp 24) (.tmp 31) 22 rfl w.heap.size 5 i0 (.int .u8 0) 1 1 Try.underlying22 hi hz0 hz1 hz2 rfl (by decide) _ _ _ rfl HO3.out w3.heap.size A4 _ _ (bvs (lput (x - 1).toNat)) rfl HR3.out HZ3.out (bvs_one _) hA1 hA2 hbs3 ?_; intro v4 w4 hown4 hg4; have hb4 := HB3.out.grown hg4 hbs3 (own_block HO3.out); clear hg4))
        rw [← bvs_append] at hown4
        go_roundw
        case rel => exact ⟨k + 1, 0, out ++ lput y ++ lput (x - 1).toNat, by omega, by omega, by go_num, by go_num, by rw [List.length_append, List.length_append, ← HP.out, ← HQ.out, ← HRR.out]; exact hown4, Lib.hid (by rw [← HO.out]; simp only [List.append_assoc]), hb4⟩
        case measure => simp [intOf]; omega
    · obtain rfl : k = n := by have := HN.out; omega
      have hO := HO.out
      rw [List.drop_of_length_le (by have := HN.out; omega), hPutF_nil] at hO
      go_wp2_with fail
      refine (C1.out _).mono ?_
      rintro e w1 ⟨u, rfl, hown1, hb1⟩
      rw [Int.toNat_natCast] at hown1
      obtain ⟨A2, c2, rfl, -, -, -⟩ := own_form hown1
      have HO1 := Lib.hid (own_kept HOWN.out hb1)
      have HR1 := Lib.hid (Rd.of_own hown1)
      have HB1 := Lib.hid (HB.out.trans (hb1.mono hbs))
      have hbs1 : w.heap.size ≤ w1.heap.size := Nat.le_trans hbs hb1.size
      have HZ1 := Lib.hid (show (bvs (lput y)).length = (lput y).length * 1 by rw [bvs_length, Nat.mul_one])
      have hA1 : out.length + (lput y).length ≤ maxLen := by simp only [maxLen]; omega
      have hA2 : (out.length + (lput y).length) * 1 ≤ 140737488355328 := by omega
      obtain ⟨p, hp⟩ : ∃ p, p = out.length := ⟨_, rfl⟩
      obtain ⟨q, hq⟩ : ∃ q, q = (lput y).length := ⟨_, rfl⟩
      rw [← hp] at hA1 hA2 HO1 hol
      rw [← hq] at hA1 hA2 HZ1 hyl
      simp only [← hp, ← hq]
      have HP := Lib.hid hp
      have HQ := Lib.hid hq
      have HOO := Lib.hid hO
      clear hown1 hb1 C1 HOWN HB hp hq hO HO
      go_wp2_with ((with_reducible show wpList _ _ _ (({ dst := some 37, op := _, type := _, pos := _, after := _, guard := _ } : Oper) :: _) _ _); go_must (refine wpList_app rfl (.tmp 33) (.tmp 36) 22 rfl w.heap.size 5 i0 (.int .u8 0) 1 1 Try.underlying22 hi hz0 hz1 hz2 rfl (by decide) _ _ _ rfl HO1.out w1.heap.size A2 _ _ (bvs (lput y)) rfl HR1.out HZ1.out (bvs_one _) hA1 hA2 hbs1 ?_; intro v2 w2 hown2 hg2; have hb2 := HB1.out.grown hg2 hbs1 (own_block HO1.out); clear hg2))
      rw [← bvs_append] at hown2
      go_ret
      exact ⟨v2, rfl, by rw [← HOO.out, List.length_append, ← HP.out, ← HQ.out]; exact hown2, hb2⟩
end
end Go.Proofs.Ytfdgnhfppginiaa
