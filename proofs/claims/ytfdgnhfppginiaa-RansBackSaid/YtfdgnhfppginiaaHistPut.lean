/- Layer 16: Put: the bytes of shares. -/
import Derived.Test.YtfdgnhfppginiaaHistMath
import Derived.Test.YtfdgnhfppginiaaLebPut
import Derived.Test.YtfdgnhfppginiaaNormFn
namespace Go.Proofs.Ytfdgnhfppginiaa
open Go.RowKit Go.Sort Go.Shelf

/-- A share that may not be. -/
def hBad (x : Int) : Bool := decide (x < 0) || decide (65536 < x)
/-- Shares that may be laid. -/
def HistMay (l : List Int) : Prop := l.length = 256 ∧ ∀ x ∈ l, 0 ≤ x ∧ x ≤ 65536
theorem hBad_all {l : List Int} (h : l.any hBad = false) : ∀ x ∈ l, 0 ≤ x ∧ x ≤ 65536 := fun x hx => by
  have := (List.any_eq_false.1 h) x hx
  simp [hBad] at this
  omega
theorem hBad_none {l : List Int} (h : ∀ x ∈ l, 0 ≤ x ∧ x ≤ 65536) : l.any hBad = false := by
  rw [List.any_eq_false]
  intro x hx
  have := h x hx
  simp [hBad]
  omega
theorem hPutF_len : ∀ (l : List Int) (z : Nat), (∀ x ∈ l, 0 ≤ x ∧ x ≤ 65536) → z + l.length ≤ 4096 → (hPutF z l).length ≤ 20 * l.length + 10
  | [], z, _, h => by rw [hPutF_nil]; have := lput_le z (by simp at h; omega); simp; omega
  | x :: l, z, hx, h => by
    have hl := fun y hy => hx y (List.mem_cons_of_mem _ hy)
    simp only [List.length_cons] at h ⊢
    by_cases h0 : x = 0
    · subst h0
      rw [hPutF_zero]
      have := hPutF_len l (z + 1) hl (by omega)
      omega
    · rw [hPutF_some z l h0]
      have h1 := hPutF_len l 0 hl (by omega)
      have h2 := lput_le z (by omega)
      have h3 := hx x List.mem_cons_self
      have h4 := lput_le (x - 1).toNat (by omega)
      simp only [List.length_append]
      omega
section
variable {w : World} {B : Nat} {A : Option Addr} {n m : Nat} {c : List Int}
set_option maxRecDepth 100000 in
theorem histWrong_any (x : Int) (w : World) : Calls Try.prog 67 #[.int .i64 x] w fun e w' => e = .returned (.bool (hBad x)) ∧ w' = w := by
  unfold hBad
  go_enter Try.func67, Try.ntmps67
  by_cases h : x < 0
  · rw [decide_eq_true h, Bool.true_or]
    go_wp2
    go_ret
    exact ⟨rfl, rfl⟩
  · rw [decide_eq_false h, Bool.false_or]
    go_wp2
    go_ret
    exact ⟨rfl, rfl⟩
theorem histBad_any (hr : Rd w B A (zvs c)) (hn : c.length = n) (hn1 : n ≤ 4096) :
    Calls Try.prog 59 #[.slice A n m, .func (.func 67) #[] #[]] w fun e w' => e = .returned (.bool (c.any hBad)) ∧ w' = w :=
  contains_any 67 hBad (enters_of Try.func67 (by kernel_rfl) rfl) (fun x W => histWrong_any x W) hr hn hn1

set_option maxHeartbeats 1000000 in
set_option maxRecDepth 100000 in
/-- put: a number's bytes, behind those that nobody else has. -/
theorem histAdd_any {k : Nat} {v : Value} (out : List UInt8) (hB : B ≤ w.heap.size) (hown : w.ownsRow B 5 1 v out.length (bvs out)) (ho : out.length ≤ 100000) (hk : k ≤ 65536) :
    Calls Try.prog 96 #[v, .int .i64 (k : Int)] w fun e w' => ∃ v', e = .returned v' ∧ w'.ownsRow B 5 1 v' (out ++ lput k).length (bvs (out ++ lput k)) ∧ Below B w w' := by
  obtain ⟨i0, hi, hz0, hz1, hz2⟩ := info_parts info_u8
  have C := Lib.hid (fun W => lebPut_any none 0 0 [] (k : Int) W (Rd.nil_ _ _ _) rfl (by decide) (by omega) (by omega))
  have hle := lput_le k (by omega)
  have HO := Lib.hid hown
  clear hown
  go_enter Try.func96, Try.ntmps96
  go_wp2_with fail
  refine (C.out w).mono ?_
  rintro e w1 ⟨u, rfl, hown1, hb1⟩
  rw [List.nil_append, Int.toNat_natCast] at hown1
  obtain ⟨A1, c1, rfl, -, -, -⟩ := own_form hown1
  have HR1 := Lib.hid (Rd.of_own hown1)
  have HO1 := Lib.hid (own_kept HO.out hb1)
  have HB1 := Lib.hid (hb1.mono hB)
  have hBw1 : B ≤ w1.heap.size := Nat.le_trans hB hb1.size
  have HZL := Lib.hid (show (bvs (lput k)).length = (lput k).length * 1 by rw [bvs_length, Nat.mul_one])
  have hA1 : out.length + (lput k).length ≤ maxLen := by simp only [maxLen]; omega
  have hA2 : (out.length + (lput k).length) * 1 ≤ 140737488355328 := by omega
  obtain ⟨q, hq⟩ : ∃ q, q = (lput k).length := ⟨_, rfl⟩
  rw [← hq] at hA1 hA2 HZL ⊢
  obtain ⟨p, hp⟩ : ∃ p, p = out.length := ⟨_, rfl⟩
  rw [← hp] at hA1 hA2 HO1 ho
  have HQ := Lib.hid hq
  have HP := Lib.hid hp
  clear C hown1 hb1 HO hB hq hp hle ho
  go_wp2_with (at_builtin; go_must (refine wpList_app rfl (.tmp 5) (.tmp 8) 22 rfl B 5 i0 (.int .u8 0) 1 1 Try.underlying22 hi hz0 hz1 hz2 rfl (by decide) _ _ _ rfl HO1.out w1.heap.size A1 _ _ (bvs (lput k)) rfl HR1.out HZL.out (bvs_one _) hA1 hA2 hBw1 ?_; intro v2 w2 hown2 hg2; have hb2 := HB1.out.grown hg2 hBw1 (own_block HO1.out); clear hg2))
  rw [← bvs_append] at hown2
  go_ret
  exact ⟨v2, rfl, by rw [List.length_append, ← HP.out, ← HQ.out]; exact hown2, hb2⟩

theorem size_int16 : (Try.prog.info? 3).map (·.size) = some 1 := by kernel_rfl
/-- How long a slice is. -/
def lenH : Value → Nat
  | .slice _ n _ => n
  | _ => 0
/-- What holds at the label. -/
def LayRel (w : World) (c : List Int) (L : List UInt8) (s v : Value) (wr : World) : Prop :=
  ∃ (k : Nat) (A : Option Addr) (n m : Nat) (out : List UInt8), n + k = 256 ∧ n ≤ m ∧ s = .slice A n m ∧ Rd wr w.heap.size A (zvs (c.drop k)) ∧ wr.ownsRow w.heap.size 5 1 v out.length (bvs out) ∧ Hid (out ++ hPut (c.drop k) = L) ∧ Below w.heap.size w wr
set_option maxHeartbeats 1000000 in
set_option maxRecDepth 100000 in
theorem histLay_any (hr : Rd w w.heap.size A (zvs c)) (hc : HistMay c) (hcap : 256 ≤ m) :
    Calls Try.prog 68 #[.slice A (256 : Nat) m] w (NewB w (hPut c)) := by
  have hbound := hPutF_len c 0 hc.2 (by have := hc.1; omega)
  rw [hc.1] at hbound
  obtain ⟨L, hL⟩ : ∃ L, L = hPut c := ⟨_, rfl⟩
  have hLl : L.length ≤ 5130 := by rw [hL]; exact hbound
  rw [← hL]
  have HC := Lib.hid hc
  have HR := Lib.hid hr
  have HL := Lib.hid hL
  clear hL hbound hc hr
  go_enter Try.func68, Try.ntmps68
  go_wp2
  go_step3
  go_wp2
  go_step3
  go_wp2
  go_loopw [0, 3] (LayRel w c L) (fun s _ _ => lenH s)
  case atStart => exact ⟨0, A, 256, m, [], rfl, hcap, rfl, HR.out, World.ownsRow_nil _ _ _ _, HL.out.symm, Below.refl _ _⟩
  case round =>
    obtain ⟨k, A', n, m', out, hk, hnm, rfl, hrd, hown, HO, hb⟩ := hrel
    obtain ⟨A1, c1, rfl, -, -, -⟩ := own_form hown
    have hbs := hb.size
    have hn2 : n ≤ 256 := by omega
    have hcl : (c.drop k).length = n := by rw [List.length_drop, HC.out.1]; omega
    have hol : out.length ≤ 5130 := by have := congrArg List.length HO.out; rw [List.length_append] at this; omega
    have HRD := Lib.hid hrd
    have HOWN := Lib.hid hown
    have HB := Lib.hid hb
    have HCL := Lib.hid hcl
    have HK := Lib.hid hk
    clear hrd hown hb hcl hk HR
    go_wp2
    go_loopw [0, 3, 8] (fun s v i wq => ∃ j : Nat, j ≤ n ∧ s = .slice A' n m' ∧ v = .slice A1 out.length c1 ∧ i = .int .i64 (j : Int) ∧ wq = wr ∧ Hid (out ++ hPutF j (c.drop (k + j)) = L)) (fun _ _ i _ => n - (intOf i).toNat)
    case atStart => exact ⟨0, Nat.zero_le _, rfl, rfl, rfl, rfl, HO.out⟩
    case round =>
      clear HO
      obtain ⟨j, hj, rfl, rfl, rfl, rfl, HO⟩ := hrel
      by_cases hlt : j < n
      · have hkc : k + j < c.length := by have := HC.out.1; have := HK.out; omega
        have hkd : j < (c.drop k).length := by have := HCL.out; omega
        have hd : c.drop (k + j) = c[k + j] :: c.drop (k + j + 1) := List.drop_eq_getElem_cons hkc
        have hx := HC.out.2 _ (List.getElem_mem hkc)
        obtain ⟨ab, ao, rfl, hab, hcell⟩ := cell_of_rd HRD.out hkd
        rw [List.getElem_drop] at hcell
        obtain ⟨x, hxx⟩ : ∃ x, x = c[k + j]'hkc := ⟨_, rfl⟩
        rw [← hxx] at hcell hd hx
        rw [hd] at HO
        have hji : (j : Int) < (n : Int) := by omega
        clear hd hxx
        by_cases h0 : 0 < x
        · rw [hPutF_some j _ (by omega)] at HO
          have C1 := Lib.hid (histAdd_any (w := wr) (B := w.heap.size) (k := j) out hbs HOWN.out (by omega) (by have := HK.out; omega))
          have C2 := Lib.hid (fun (W : World) (v' : Value) (h : w.heap.size ≤ W.heap.size) (ho : W.ownsRow w.heap.size 5 1 v' (out ++ lput j).length (bvs (out ++ lput j))) => histAdd_any (w := W) (B := w.heap.size) (k := (x - 1).toNat) (out ++ lput j) h ho (by have := lput_le j (by have := HK.out; omega); rw [List.length_append]; omega) (by omega))
          rw [show (((x - 1).toNat : Nat) : Int) = x - 1 by omega] at C2
          go_wp2_with fail
          refine C1.out.mono ?_
          rintro e w1 ⟨v1, rfl, hown1, hb1⟩
          have C3 := Lib.hid (C2.out w1 v1 (Nat.le_trans hbs hb1.size) hown1)
          have HB1 := Lib.hid (HB.out.trans hb1)
          have HR1 := Lib.hid (HRD.out.below hb1)
          have HZL := Lib.hid (show (zvs (c.drop k)).length = n by rw [zvs_length]; exact HCL.out)
          have hjn : j + 1 ≤ n := by omega
          clear C1 C2 hown1 hb1 hcell
          go_wp2_with fail
          refine C3.out.mono ?_
          rintro e w2 ⟨v2, rfl, hown2, hb2⟩
          have HB2 := Lib.hid (HB1.out.trans hb2)
          have HR2 := Lib.hid (HR1.out.below hb2)
          have HO2 := Lib.hid hown2
          clear C3 hown2 hb2 HB1 HR1
          go_wp2_with ((with_reducible show wpList _ _ _ (({ dst := some 24, op := _, type := _, pos := _, after := _, guard := _ } : Oper) :: _) _ _); go_must (refine wpList_from rfl (.tmp 21) (.tmp 23) rfl Try.underlying37 size_int16 w.heap.size _ n m' (j + 1) (zvs (c.drop k)) rfl rfl HR2.out HZL.out hnm hjn ?_; intro A2 c2 hc2 hr2))
          go_roundw
          case rel =>
            refine ⟨k + j + 1, A2, n - (j + 1), c2, out ++ lput j ++ lput (x - 1).toNat, by have := HK.out; omega, hc2, rfl, ?_, HO2.out, Lib.hid ?_, HB2.out⟩
            · rw [show List.drop (j + 1) (zvs (c.drop k)) = zvs (c.drop (k + j + 1)) by simp [zvs, List.drop_drop, Nat.add_assoc]] at hr2
              exact hr2
            · rw [← HO.out]; simp only [List.append_assoc]; rfl
          case measure => simp only [lenH]; omega
        · obtain rfl : x = 0 := by omega
          rw [hPutF_zero] at HO
          go_wp2
          go_roundw
          case rel => exact ⟨j + 1, by omega, rfl, rfl, by go_num, trivial, HO⟩
          case measure => simp [intOf]; omega
      · obtain rfl : j = n := by omega
        have hO := HO.out
        rw [List.drop_of_length_le (by have := HC.out.1; have := HK.out; omega), hPutF_nil] at hO
        have C1 := Lib.hid (histAdd_any (w := wr) (B := w.heap.size) (k := j) out hbs HOWN.out (by omega) (by have := HK.out; omega))
        rw [hO] at C1
        clear hO HO
        go_wp2_with fail
        refine C1.out.mono ?_
        rintro e w1 ⟨v1, rfl, hown1, hb1⟩
        go_wp2
        go_ret
        exact ⟨v1, rfl, hown1, HB.out.trans hb1⟩
set_option maxRecDepth 100000 in
/-- Put: what is laid, or may not be. -/
theorem histPut_not (hr : Rd w B A (zvs c)) (hn : c.length = n) (hm : ¬ HistMay c) :
    Calls Try.prog 21 #[.slice A n m] w fun e w' => e = .returned (.tuple #[.slice none 0 0, .int .i64 2]) ∧ w' = w := by
  have HR := Lib.hid hr
  have HN := Lib.hid hn
  go_enter Try.func21, Try.ntmps21
  by_cases h : n = 256
  · subst h
    have hb : c.any hBad = true := by
      cases h2 : c.any hBad with
      | true => rfl
      | false => exact absurd ⟨hn, hBad_all h2⟩ hm
    have C := Lib.hid (histBad_any (m := m) HR.out HN.out (by decide))
    rw [hb] at C
    clear hr hn hm hb
    go_wp2_with fail
    refine C.out.mono ?_
    rintro e w' ⟨rfl, hw⟩
    obtain rfl : _ = w' := hw.symm
    go_wp2
    go_ret2
    exact ⟨rfl, rfl⟩
  · have h2 : ((n : Int) == 256) = false := by rw [beq_eq_false_iff_ne]; omega
    have h3 : (n : Int) ≠ 256 := by omega
    clear hr hn hm h
    go_wp2
    go_ret2
    exact ⟨rfl, rfl⟩
set_option maxRecDepth 100000 in
theorem histPut_ok (hr : Rd w w.heap.size A (zvs c)) (hn : c.length = n) (hc : HistMay c) (hcap : n ≤ m) :
    Calls Try.prog 21 #[.slice A n m] w fun e w' => ∃ v, e = .returned (.tuple #[v, .int .i64 0]) ∧ w'.ownsRow w.heap.size 5 1 v (hPut c).length (bvs (hPut c)) ∧ Below w.heap.size w w' := by
  obtain rfl : n = 256 := by rw [← hn, hc.1]
  have C := Lib.hid (histBad_any (m := m) hr hn (by decide))
  rw [hBad_none hc.2] at C
  have C2 := Lib.hid (histLay_any hr hc hcap)
  clear hr hn hc
  go_enter Try.func21, Try.ntmps21
  go_wp2_with fail
  refine C.out.mono ?_
  rintro e w' ⟨rfl, hw⟩
  obtain rfl : _ = w' := hw.symm
  go_wp2_with fail
  refine C2.out.mono ?_
  rintro e w1 ⟨v, rfl, hown, hb⟩
  go_wp2
  go_ret2
  exact ⟨v, rfl, hown, hb⟩
end
end Go.Proofs.Ytfdgnhfppginiaa
