/- Contracts of layer 1's reference: its Reader, where bits are taken. -/
import Derived.Test.YtgchomeipmjifaaRefRdr
namespace Go.Proofs.Ytgchomeipmjifaa
open Go.RowKit

theorem RdT.bit {w : World} {A : Option Addr} {L : List Bool} (h : RdT w 3 A (ivs L)) {k : Nat} {b : Bool} (hb : L[k]? = some b) :
    ∃ bl off, A = some ⟨bl, off, none⟩ ∧ w.cell? ⟨bl, off + k, none⟩ = some (.int .i64 (b.toNat : Int)) := by
  obtain ⟨bl, off, h1, _, h3⟩ := h k _ (ivs_get hb)
  exact ⟨bl, off, h1, h3⟩
def RfGetRel (L : List Bool) (n : Nat) (v i : Value) : Prop := ∃ k q : Nat, k ≤ n ∧ i = .int .i64 ((k : Int) - 1) ∧ v = .int .u64 q ∧ q = valOf ((L.take n).drop k)
theorem valOf_drop (L : List Bool) (n k : Nat) (b : Bool) (hk : k < n) (hn : n ≤ 64) (hb : L[k]? = some b) :
    valOf ((L.take n).drop k) = b.toNat + 2 * valOf ((L.take n).drop (k + 1)) ∧ b.toNat + 2 * valOf ((L.take n).drop (k + 1)) < 18446744073709551616 := by
  have hb' : (L.take n)[k]? = some b := by rw [List.getElem?_take, if_pos hk]; exact hb
  obtain ⟨hl, he⟩ := List.getElem?_eq_some_iff.1 hb'
  have e : (L.take n).drop k = b :: (L.take n).drop (k + 1) := by rw [List.drop_eq_getElem_cons hl, he]
  have e2 : valOf ((L.take n).drop k) = b.toNat + 2 * valOf ((L.take n).drop (k + 1)) := by rw [e]; rfl
  refine ⟨e2, ?_⟩
  rw [← e2]
  have h1 := valOf_lt ((L.take n).drop k)
  have h2 : ((L.take n).drop k).length ≤ 64 := by rw [List.length_drop, List.length_take]; omega
  have h3 := Nat.pow_le_pow_right (n := 2) (by decide) h2
  omega

/-- What a taking of n leaves. -/
theorem rf_end {w : World} {g : Nat} {L : List Bool} {A A' : Option Addr} {c c' n m : Nat} (hb : Hid (Blk w g 47 [.slice A L.length c, .int .i64 0])) (hr : Hid (RdT w 3 A (ivs L))) (hn : n ≤ L.length) (hc : L.length ≤ c) (hl : L.length ≤ 900000000)
    (hA : A' = A.map (·.add n) ∨ c = n) (hm : m = L.length - n) (hc' : c' = c - n) :
    RfrIs (w.setCell ⟨g, 0, none⟩ (.slice A' m c')) g (L.drop n) 0 ∧ OnlyT g [47] w (w.setCell ⟨g, 0, none⟩ (.slice A' m c')) := by
  subst hm hc'
  have ho : OnlyT g [47] w (w.setCell ⟨g, 0, none⟩ (.slice A' (L.length - n) (c - n))) := OnlyT.set_ hb.out (Nat.le_refl _) _ (by simp)
  refine ⟨⟨A', c - n, ?_, ?_, by rw [List.length_drop]; omega, by rw [List.length_drop]; omega⟩, ho⟩
  · rw [List.length_drop]
    exact hb.out.set_ 0 _
  · refine RdT.only ?_ ho (by decide)
    rcases hA with rfl | rfl
    · rw [← ivs_drop]; exact hr.out.drop n
    · rw [List.drop_of_length_le hc]
      intro k u hu
      simp [ivs] at hu

section
variable {w : World} {g : Nat} {L : List Bool}
set_option maxHeartbeats 2000000 in
set_option maxRecDepth 100000 in
theorem rfGet_ok (n : Nat) (h : RfrIs w g L 0) (hn : n ≤ 64) (hL1 : n ≤ L.length) :
    Calls Try.prog 23 #[.pointer (some ⟨g, 0, none⟩), .int .i64 n] w fun e' w' => e' = .returned (.int .u64 (valOf (L.take n))) ∧ RfrIs w' g (L.drop n) 0 ∧ OnlyT g [47] w w' := by
  obtain ⟨A, c, hb, hr, hc, hl⟩ := h
  have hc0 := hb.cell 0
  have hc1 := hb.cell 1
  simp only [List.getElem?_cons_zero, List.getElem?_cons_succ] at hc0 hc1
  have hf0 := hb.frozen 0
  have HB := Lib.hid hb
  have HR := Lib.hid hr
  have h0 : ¬ (n : Int) < 0 := by omega
  have h1 : (n : Int) ≤ 64 := by omega
  have h2 : (n : Int) ≤ (L.length : Int) := by omega
  clear hb hr
  go_enter Try.func23, Try.ntmps23
  go_wp2
  go_loop [5, 6] (RfGetRel L n) (fun _ i => (intOf i + 1).toNat)
  case atStart => exact ⟨n, 0, Nat.le_refl _, rfl, rfl, by rw [List.drop_of_length_le (by rw [List.length_take]; omega)]; rfl⟩
  case round =>
    obtain ⟨k, q, hk, rfl, rfl, hq⟩ := hrel
    have HQ := Lib.hid hq
    clear hq
    cases k with
    | succ k =>
      obtain ⟨b, hlb⟩ : ∃ b, L[k]? = some b := ⟨L[k]'(by omega), by simp⟩
      obtain ⟨ab, ao, rfl, hcl⟩ := HR.out.bit hlb
      have hv := valOf_drop L n k b (by omega) hn hlb
      rw [← HQ.out] at hv
      have hv1 : 2 * (q : Int) + (b.toNat : Int) ≤ 18446744073709551615 := by omega
      have hb1 : (b.toNat : Int) ≤ 1 := by cases b <;> simp
      have hb0 : (0 : Int) ≤ (b.toNat : Int) := by omega
      have hk1 : ((k + 1 : Nat) : Int) - 1 = (k : Int) := by omega
      have hkl : (k : Int) < (L.length : Int) := by omega
      have HV := Lib.hid hv.1
      clear hv hlb
      rw [hk1]
      clear hk1
      go_wp2
      go_round
      case rel => exact ⟨k, 2 * q + b.toNat, by omega, rfl, by go_num, by rw [HV.out]; omega⟩
      case measure => simp [intOf]
    | zero =>
      have hqv : q = valOf (L.take n) := by rw [HQ.out]; rfl
      have HQV := Lib.hid hqv
      clear hqv
      by_cases hcn : c = n
      · go_wp2
        go_ret
        exact ⟨by rw [HQV.out]; rfl, rf_end HB HR hL1 hc hl (.inr hcn) (by omega) (by omega)⟩
      · go_wp2
        go_ret
        exact ⟨by rw [HQV.out]; rfl, rf_end HB HR hL1 hc hl (.inl rfl) rfl rfl⟩

theorem ones_get {n : Nat} {R : List Bool} {k : Nat} (h : k < n) : (List.replicate n true ++ R)[k]? = some true := by
  rw [List.getElem?_append_left (by simpa using h), List.getElem?_replicate, if_pos h]
def RfOnesRel (n : Nat) (i : Value) : Prop := ∃ k : Nat, k ≤ n ∧ i = .int .i64 k
set_option maxHeartbeats 2000000 in
set_option maxRecDepth 100000 in
theorem rfOnes_full (m : Nat) (R : List Bool) (h : RfrIs w g L 0) (hm : m ≤ 256) (hL0 : L = List.replicate m true ++ R) :
    Calls Try.prog 25 #[.pointer (some ⟨g, 0, none⟩), .int .i64 m] w fun e' w' => e' = .returned (.int .i64 m) ∧ RfrIs w' g R 0 ∧ OnlyT g [47] w w' := by
  obtain ⟨A, c, hb, hr, hc, hl⟩ := h
  have hc0 := hb.cell 0
  have hc1 := hb.cell 1
  simp only [List.getElem?_cons_zero, List.getElem?_cons_succ] at hc0 hc1
  have hf0 := hb.frozen 0
  have HB := Lib.hid hb
  have HR := Lib.hid hr
  have HL0 := Lib.hid hL0
  have hL1 : m ≤ L.length := by rw [hL0]; simp
  have hdr : L.drop m = R := by rw [hL0, List.drop_left' (by simp)]
  have HDR := Lib.hid hdr
  have h0 : ¬ (m : Int) < 0 := by omega
  have h1 : (m : Int) ≤ 256 := by omega
  have h2 : (m : Int) ≤ (L.length : Int) := by omega
  clear hb hr hL0 hdr
  go_enter Try.func25, Try.ntmps25
  go_wp2
  go_loop [5] (RfOnesRel m) (fun i => m - (intOf i).toNat)
  case atStart => exact ⟨0, Nat.zero_le _, rfl⟩
  case round =>
    obtain ⟨k, hk, rfl⟩ := hrel
    by_cases hlt : k < m
    · have hlb : L[k]? = some true := by rw [HL0.out]; exact ones_get hlt
      obtain ⟨ab, ao, rfl, hcl⟩ := HR.out.bit hlb
      have hkl : (k : Int) < (L.length : Int) := by omega
      rw [show (((true : Bool).toNat : Nat) : Int) = 1 from rfl] at hcl
      clear hlb
      go_wp2
      go_round
      case rel => exact ⟨k + 1, by omega, by go_num⟩
      case measure => simp [intOf]; omega
    · obtain rfl : k = m := by omega
      by_cases hcn : c = k
      · go_wp2
        go_ret
        refine ⟨rfl, ?_⟩
        rw [← HDR.out]
        exact rf_end HB HR hL1 hc hl (.inr hcn) (by omega) (by omega)
      · go_wp2
        go_ret
        refine ⟨rfl, ?_⟩
        rw [← HDR.out]
        exact rf_end HB HR hL1 hc hl (.inl rfl) rfl rfl
set_option maxHeartbeats 2000000 in
set_option maxRecDepth 100000 in
theorem rfOnes_stop (m n : Nat) (R : List Bool) (h : RfrIs w g L 0) (hm : m ≤ 256) (hn : n < m) (hL0 : L = List.replicate n true ++ false :: R) :
    Calls Try.prog 25 #[.pointer (some ⟨g, 0, none⟩), .int .i64 m] w fun e' w' => e' = .returned (.int .i64 n) ∧ RfrIs w' g R 0 ∧ OnlyT g [47] w w' := by
  obtain ⟨A, c, hb, hr, hc, hl⟩ := h
  have hc0 := hb.cell 0
  have hc1 := hb.cell 1
  simp only [List.getElem?_cons_zero, List.getElem?_cons_succ] at hc0 hc1
  have hf0 := hb.frozen 0
  have HB := Lib.hid hb
  have HR := Lib.hid hr
  have HL0 := Lib.hid hL0
  have hL1 : n + 1 ≤ L.length := by rw [hL0]; simp
  have hdr : L.drop (n + 1) = R := by rw [hL0, show List.replicate n true ++ false :: R = (List.replicate n true ++ [false]) ++ R by simp, List.drop_left' (by simp)]
  have HDR := Lib.hid hdr
  have h0 : ¬ (m : Int) < 0 := by omega
  have h1 : (m : Int) ≤ 256 := by omega
  clear hb hr hL0 hdr
  go_enter Try.func25, Try.ntmps25
  go_wp2
  go_loop [5] (RfOnesRel n) (fun i => n - (intOf i).toNat)
  case atStart => exact ⟨0, Nat.zero_le _, rfl⟩
  case round =>
    obtain ⟨k, hk, rfl⟩ := hrel
    have hkl : (k : Int) < (L.length : Int) := by omega
    have hkm : (k : Int) < (m : Int) := by omega
    by_cases hlt : k < n
    · have hlb : L[k]? = some true := by rw [HL0.out]; exact ones_get hlt
      obtain ⟨ab, ao, rfl, hcl⟩ := HR.out.bit hlb
      rw [show (((true : Bool).toNat : Nat) : Int) = 1 from rfl] at hcl
      clear hlb
      go_wp2
      go_round
      case rel => exact ⟨k + 1, by omega, by go_num⟩
      case measure => simp [intOf]; omega
    · obtain rfl : k = n := by omega
      have hlb : L[k]? = some false := by rw [HL0.out, List.getElem?_append_right (by simp)]; simp
      obtain ⟨ab, ao, hA, hcl⟩ := HR.out.bit hlb
      subst hA
      rw [show (((false : Bool).toNat : Nat) : Int) = 0 from rfl] at hcl
      clear hlb
      have hne1 : ((k : Int) == (L.length : Int)) = false := by rw [beq_eq_false_iff_ne]; omega
      have hne2 : ((k : Int) == (m : Int)) = false := by rw [beq_eq_false_iff_ne]; omega
      have hk2 : ((k : Int) + 1) ≤ (L.length : Int) := by omega
      by_cases hcn : c = k + 1
      · go_wp2
        go_ret
        refine ⟨rfl, ?_⟩
        rw [← HDR.out]
        exact rf_end HB HR hL1 hc hl (.inr hcn) (by omega) (by omega)
      · go_wp2
        go_ret
        refine ⟨rfl, ?_⟩
        rw [← HDR.out]
        exact rf_end HB HR hL1 hc hl (.inl rfl) (by omega) (by omega)
set_option maxHeartbeats 2000000 in
set_option maxRecDepth 100000 in
theorem rfOnes_trunc (m n : Nat) (h : RfrIs w g L 0) (hm : m ≤ 256) (hn : n < m) (hL0 : L = List.replicate n true) :
    Calls Try.prog 25 #[.pointer (some ⟨g, 0, none⟩), .int .i64 m] w fun e' w' => e' = .returned (.int .i64 0) ∧ RfrIs w' g L 11 ∧ OnlyT g [47] w w' := by
  obtain ⟨A, c, hb, hr, hc, hl⟩ := h
  have hc0 := hb.cell 0
  have hc1 := hb.cell 1
  simp only [List.getElem?_cons_zero, List.getElem?_cons_succ] at hc0 hc1
  have hf1 := hb.frozen 1
  have HB := Lib.hid hb
  have HR := Lib.hid hr
  have HL0 := Lib.hid hL0
  have hL1 : L.length = n := by rw [hL0]; simp
  have ho : OnlyT g [47] w (w.setCell ⟨g, 1, none⟩ (.int .i64 11)) := OnlyT.set_ HB.out (Nat.le_refl _) _ (by simp)
  have HO := Lib.hid ho
  have HL1 := Lib.hid hL1
  have h0 : ¬ (m : Int) < 0 := by omega
  have h1 : (m : Int) ≤ 256 := by omega
  have hmn : (n : Int) < (m : Int) := by omega
  rw [hL1] at hc0
  clear hb hr hL0 ho hL1
  go_enter Try.func25, Try.ntmps25
  go_wp2
  go_loop [5] (RfOnesRel n) (fun i => n - (intOf i).toNat)
  case atStart => exact ⟨0, Nat.zero_le _, rfl⟩
  case round =>
    obtain ⟨k, hk, rfl⟩ := hrel
    have hkm : (k : Int) < (m : Int) := by omega
    by_cases hlt : k < n
    · have hlb : L[k]? = some true := by rw [HL0.out, List.getElem?_replicate, if_pos hlt]
      obtain ⟨ab, ao, rfl, hcl⟩ := HR.out.bit hlb
      rw [show (((true : Bool).toNat : Nat) : Int) = 1 from rfl] at hcl
      clear hlb
      go_wp2
      go_round
      case rel => exact ⟨k + 1, by omega, by go_num⟩
      case measure => simp [intOf]; omega
    · obtain rfl : k = n := by omega
      go_wp2
      go_ret
      exact ⟨rfl, ⟨A, c, HB.out.set_ 1 _, HR.out.only HO.out (by decide), hc, hl⟩, HO.out⟩
set_option maxHeartbeats 2000000 in
set_option maxRecDepth 100000 in
theorem rfDone_ok (n : Nat) (h : RfrIs w g L 0) (hn : n < 8) (hL0 : L = List.replicate n false) :
    Calls Try.prog 30 #[.pointer (some ⟨g, 0, none⟩)] w fun e' w' => e' = .returned (.int .i64 0) ∧ w = w' := by
  obtain ⟨A, c, hb, hr, hc, hl⟩ := h
  have hc0 := hb.cell 0
  have hc1 := hb.cell 1
  simp only [List.getElem?_cons_zero, List.getElem?_cons_succ] at hc0 hc1
  have HR := Lib.hid hr
  have HL0 := Lib.hid hL0
  have hL1 : L.length = n := by rw [hL0]; simp
  rw [hL1] at hc0
  have hn8 : (n : Int) < 8 := by omega
  clear hb hr hL0 hL1
  go_enter Try.func30, Try.ntmps30
  go_wp2
  go_loop [3] (RfOnesRel n) (fun i => n - (intOf i).toNat)
  case atStart => exact ⟨0, Nat.zero_le _, rfl⟩
  case round =>
    obtain ⟨k, hk, rfl⟩ := hrel
    by_cases hlt : k < n
    · have hlb : L[k]? = some false := by rw [HL0.out, List.getElem?_replicate, if_pos hlt]
      obtain ⟨ab, ao, rfl, hcl⟩ := HR.out.bit hlb
      rw [show (((false : Bool).toNat : Nat) : Int) = 0 from rfl] at hcl
      clear hlb
      go_wp2
      go_round
      case rel => exact ⟨k + 1, by omega, by go_num⟩
      case measure => simp [intOf]; omega
    · obtain rfl : k = n := by omega
      go_wp2
      go_ret
      exact ⟨rfl, rfl⟩
set_option maxHeartbeats 2000000 in
set_option maxRecDepth 100000 in
theorem rfDone_pay (n : Nat) (R : List Bool) (h : RfrIs w g L 0) (hn : n + 1 + R.length < 8) (hL0 : L = List.replicate n false ++ true :: R) :
    Calls Try.prog 30 #[.pointer (some ⟨g, 0, none⟩)] w fun e' w' => e' = .returned (.int .i64 16) ∧ w = w' := by
  obtain ⟨A, c, hb, hr, hc, hl⟩ := h
  have hc0 := hb.cell 0
  have hc1 := hb.cell 1
  simp only [List.getElem?_cons_zero, List.getElem?_cons_succ] at hc0 hc1
  have HR := Lib.hid hr
  have HL0 := Lib.hid hL0
  obtain ⟨N, hL1⟩ : ∃ N, L.length = N := ⟨_, rfl⟩
  have hL2 : n + 1 + R.length = N := by rw [← hL1, hL0]; simp; omega
  rw [hL1] at hc0
  have hn8 : (N : Int) < 8 := by omega
  clear hb hr hL0 hL1
  go_enter Try.func30, Try.ntmps30
  go_wp2
  go_loop [3] (RfOnesRel n) (fun i => n - (intOf i).toNat)
  case atStart => exact ⟨0, Nat.zero_le _, rfl⟩
  case round =>
    obtain ⟨k, hk, rfl⟩ := hrel
    have hkN : (k : Int) < (N : Int) := by omega
    by_cases hlt : k < n
    · have hlb : L[k]? = some false := by rw [HL0.out, List.getElem?_append_left (by simpa using hlt), List.getElem?_replicate, if_pos hlt]
      obtain ⟨ab, ao, rfl, hcl⟩ := HR.out.bit hlb
      rw [show (((false : Bool).toNat : Nat) : Int) = 0 from rfl] at hcl
      clear hlb hL2 hn
      go_wp2
      go_round
      case rel => exact ⟨k + 1, by omega, by go_num⟩
      case measure => simp [intOf]; omega
    · obtain rfl : k = n := by omega
      have hlb : L[k]? = some true := by rw [HL0.out, List.getElem?_append_right (by simp)]; simp
      obtain ⟨ab, ao, hA, hcl⟩ := HR.out.bit hlb
      subst hA
      rw [show (((true : Bool).toNat : Nat) : Int) = 1 from rfl] at hcl
      clear hlb hL2 hn
      go_wp2
      go_ret
      exact ⟨rfl, rfl⟩
end
end Go.Proofs.Ytgchomeipmjifaa
