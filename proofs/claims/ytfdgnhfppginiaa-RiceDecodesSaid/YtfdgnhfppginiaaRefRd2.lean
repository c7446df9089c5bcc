/- Contracts of layer 1's reference: its Reader. · Contracts of layer 1's reference: its Reader, where bits are taken. -/
import Derived.Test.YtfdgnhfppginiaaRefByt
namespace Go.Proofs.Ytfdgnhfppginiaa
open Go.RowKit

/-- At block g lies the reference's Reader of which the bits L are left, with the error e. -/
def RfrIs (w : World) (g : Nat) (L : List Bool) (e : Nat) : Prop :=
  ∃ (A : Option Addr) (c : Nat), Blk w g 87 [.slice A L.length c, .int .i64 e] ∧ RdT w 3 A (ivs L) ∧ L.length ≤ c ∧ L.length ≤ 900000000
theorem RfrIs.only {B : Nat} {ts : List TypeId} {w w' : World} {g : Nat} {L : List Bool} {e : Nat} (h : RfrIs w g L e) (ho : OnlyT B ts w w') (h1 : 87 ∉ ts) (h2 : 3 ∉ ts) : RfrIs w' g L e := by
  obtain ⟨A, c, hb, hr, rest⟩ := h
  exact ⟨A, c, hb.only ho h1, hr.only ho h2, rest⟩

/-- What holds at the head of a round of ref.All. -/
def RAllRel (w : World) (bs : List UInt8) (v i : Value) (wr : World) : Prop :=
  ∃ k : Nat, k ≤ bs.length ∧ i = .int .i64 k ∧ wr.ownsRow w.heap.size 3 1 v (8 * k) (ivs (allBits (bs.take k))) ∧ OnlyT w.heap.size [3] w wr
theorem allBits_snoc (bs : List UInt8) (b : UInt8) : allBits (bs ++ [b]) = allBits bs ++ bitsOf b.toNat 8 := by
  apply List.ext_getElem?
  intro i
  rw [List.getElem?_append, allBits_length]
  split
  · rename_i h
    rw [allBits_get bs i h, allBits_get _ i (by simp; omega)]
    simp only [bitAt, List.getD_eq_getElem?_getD]
    rw [List.getElem?_append_left (by omega)]
  · rename_i h
    rcases Nat.lt_or_ge i (8 * bs.length + 8) with g | g
    · rw [allBits_get _ i (by simp; omega)]
      simp only [bitAt, bitsOf, List.getD_eq_getElem?_getD]
      rw [List.getElem?_append_right (by omega), show i / 8 - bs.length = 0 by omega, show i % 8 = i - 8 * bs.length by omega]
      simp [show i - 8 * bs.length < 8 by omega]
    · rw [List.getElem?_eq_none (by rw [allBits_length]; simp; omega), List.getElem?_eq_none (by rw [bitsOf_length]; omega)]

set_option maxHeartbeats 1000000 in
set_option maxRecDepth 100000 in
theorem rfAll_any (A : Option Addr) (n c : Nat) (l : List UInt8) (w : World) (hr : Rd w w.heap.size A (bvs l)) (hn : l.length = n) (hn1 : n ≤ 1000) :
    Calls Try.prog 50 #[.slice A n c] w (NewI w (allBits l)) := by
  obtain ⟨i0, hi, hz0, hz1, hz2⟩ := info_parts info_int
  have HN := Lib.hid hn
  have HR := Lib.hid hr
  clear hn hr
  go_enter Try.func50, Try.ntmps50
  go_wp2
  go_loopw [3, 4] (RAllRel w l) (fun _ i _ => n - (intOf i).toNat)
  case atStart => exact ⟨0, Nat.zero_le _, rfl, World.ownsRow_nil _ _ _ _, OnlyT.refl _ _ _⟩
  case round =>
    obtain ⟨k, hk, rfl, hown, ho⟩ := hrel
    have hbs := ho.size
    have hbelow := ho.below (Nat.le_refl _)
    have HO := Lib.hid ho
    have HOWN := Lib.hid hown
    clear hown ho
    by_cases hlt : k < n
    · obtain ⟨x, hx⟩ : ∃ x, l[k]? = some x := ⟨l[k]'(by have := HN.out; omega), by simp⟩
      obtain ⟨ab, ao, rfl, hab, hcl⟩ := (HR.out.below hbelow) k (.int .u8 x.toNat) (by simp [bvs, hx])
      have HX := Lib.hid hx
      have hx8 := x.toNat_lt
      clear hx hbelow
      go_wp2_with (first
        | (go_at_call 90; go_must (refine (rfBits_any x.toNat 8 _ (by omega) (by decide)).mono ?_; rintro e w2 ⟨vb, rfl, hownb, hob⟩; rw [bitsOf_length] at hownb; obtain ⟨Ab, cb, rfl, -, -, -⟩ := own_form hownb; have HRB := Lib.hid (Rd.of_own hownb); have hbb := hob.below (Nat.le_refl _); have HOWN2 := Lib.hid (own_kept HOWN.out hbb); have HO2 := Lib.hid (HO.out.trans (hob.base hbs)); clear hownb hob hbb))
        | (at_builtin; go_must (refine wpList_app rfl (.tmp 11) (.tmp 17) 37 rfl w.heap.size 3 i0 (.int .i64 0) 1 8 Try.underlying37 hi hz0 hz1 hz2 rfl (by decide) _ _ _ rfl HOWN2.out _ _ _ _ _ rfl HRB.out (by rw [ivs_length, bitsOf_length]) (ivs_one _) (by simp only [maxLen]; omega) (by omega) HO2.out.size ?_; intro v3 w3 hown3 hg3; have HO3 := Lib.hid (HO2.out.trans (OnlyT.grown hg3 (own_type HOWN2.out) (by simp))); have HOWN3 := Lib.hid hown3; clear hown3 hg3)))
      have hrelN : RAllRel w l v3 (.int .i64 ((k : Int) + 1)) w3 := by
        refine ⟨k + 1, by have := HN.out; omega, by go_num, ?_, HO3.out⟩
        rw [List.take_add_one, HX.out, show (some x).toList = [x] from rfl, allBits_snoc, ivs_append]
        exact HOWN3.out
      have HRELN := Lib.hid hrelN
      clear hrelN
      go_roundw
      case rel => exact HRELN.out
      case measure => simp [intOf]; omega
    · obtain rfl : k = n := by have := HN.out; omega
      go_wp2
      go_ret
      refine ⟨_, rfl, ?_, HO.out⟩
      have := HOWN.out
      rw [← HN.out, List.take_length] at this
      rw [allBits_length]
      exact this

section
variable {w : World} {g : Nat} {L : List Bool}
set_option maxRecDepth 100000 in
set_option maxHeartbeats 1000000 in
theorem rfGet_err (n : Int) (e : Nat) (h : RfrIs w g L e) (he : e ≠ 0) : Calls Try.prog 54 #[.pointer (some ⟨g, 0, none⟩), .int .i64 n] w fun e' w' => e' = .returned (.int .u64 0) ∧ w = w' := by
  obtain ⟨A, c, hb, hr, hc, hl⟩ := h
  have hc1 := hb.cell 1
  simp only [List.getElem?_cons_zero, List.getElem?_cons_succ] at hc1
  have hne : (((e : Nat) : Int) != 0) = true := by rw [bne_iff_ne]; omega
  clear hb hr he
  go_enter Try.func54, Try.ntmps54
  go_wp2
  go_ret
  exact ⟨rfl, rfl⟩
set_option maxRecDepth 100000 in
set_option maxHeartbeats 1000000 in
theorem rfOnes_err (n : Int) (e : Nat) (h : RfrIs w g L e) (he : e ≠ 0) : Calls Try.prog 53 #[.pointer (some ⟨g, 0, none⟩), .int .i64 n] w fun e' w' => e' = .returned (.int .i64 0) ∧ w = w' := by
  obtain ⟨A, c, hb, hr, hc, hl⟩ := h
  have hc1 := hb.cell 1
  simp only [List.getElem?_cons_zero, List.getElem?_cons_succ] at hc1
  have hne : (((e : Nat) : Int) != 0) = true := by rw [bne_iff_ne]; omega
  clear hb hr he
  go_enter Try.func53, Try.ntmps53
  go_wp2
  go_ret
  exact ⟨rfl, rfl⟩
set_option maxRecDepth 100000 in
set_option maxHeartbeats 1000000 in
theorem rfDone_err (e : Nat) (h : RfrIs w g L e) (he : e ≠ 0) : Calls Try.prog 57 #[.pointer (some ⟨g, 0, none⟩)] w fun e' w' => e' = .returned (.int .i64 e) ∧ w = w' := by
  obtain ⟨A, c, hb, hr, hc, hl⟩ := h
  have hc1 := hb.cell 1
  simp only [List.getElem?_cons_zero, List.getElem?_cons_succ] at hc1
  have hne : (((e : Nat) : Int) != 0) = true := by rw [bne_iff_ne]; omega
  clear hb hr he
  go_enter Try.func57, Try.ntmps57
  go_wp2
  go_ret
  exact ⟨rfl, rfl⟩
set_option maxRecDepth 100000 in
set_option maxHeartbeats 1000000 in
theorem rfDone_more (h : RfrIs w g L 0) (hl : 8 ≤ L.length) : Calls Try.prog 57 #[.pointer (some ⟨g, 0, none⟩)] w fun e' w' => e' = .returned (.int .i64 22) ∧ w = w' := by
  obtain ⟨A, c, hb, hr, hc, hl9⟩ := h
  have hc0 := hb.cell 0
  have hc1 := hb.cell 1
  simp only [List.getElem?_cons_zero, List.getElem?_cons_succ] at hc0 hc1
  have hi : (8 : Int) ≤ (L.length : Int) := by omega
  clear hb hr
  go_enter Try.func57, Try.ntmps57
  go_wp2
  go_ret
  exact ⟨rfl, rfl⟩
set_option maxRecDepth 100000 in
set_option maxHeartbeats 1000000 in
theorem rfGet_arg (n : Int) (h : RfrIs w g L 0) (hn : n < 0 ∨ 64 < n) :
    Calls Try.prog 54 #[.pointer (some ⟨g, 0, none⟩), .int .i64 n] w fun e' w' => e' = .returned (.int .u64 0) ∧ RfrIs w' g L 2 ∧ OnlyT g [87] w w' := by
  obtain ⟨A, c, hb, hr, hc, hl⟩ := h
  have hc1 := hb.cell 1
  simp only [List.getElem?_cons_zero, List.getElem?_cons_succ] at hc1
  have hf1 := hb.frozen 1
  have HB := Lib.hid hb
  have HR := Lib.hid hr
  have ho : OnlyT g [87] w (w.setCell ⟨g, 1, none⟩ (.int .i64 2)) := OnlyT.set_ HB.out (Nat.le_refl _) _ (by simp)
  have HO := Lib.hid ho
  clear hb hr ho
  by_cases h0 : n < 0
  · go_enter Try.func54, Try.ntmps54
    go_wp2
    go_ret
    exact ⟨rfl, ⟨A, c, HB.out.set_ 1 _, HR.out.only HO.out (by decide), hc, hl⟩, HO.out⟩
  · have h1 : 64 < n := by omega
    go_enter Try.func54, Try.ntmps54
    go_wp2
    go_ret
    exact ⟨rfl, ⟨A, c, HB.out.set_ 1 _, HR.out.only HO.out (by decide), hc, hl⟩, HO.out⟩
set_option maxRecDepth 100000 in
set_option maxHeartbeats 1000000 in
theorem rfOnes_arg (n : Int) (h : RfrIs w g L 0) (hn : n < 0 ∨ 256 < n) :
    Calls Try.prog 53 #[.pointer (some ⟨g, 0, none⟩), .int .i64 n] w fun e' w' => e' = .returned (.int .i64 0) ∧ RfrIs w' g L 2 ∧ OnlyT g [87] w w' := by
  obtain ⟨A, c, hb, hr, hc, hl⟩ := h
  have hc1 := hb.cell 1
  simp only [List.getElem?_cons_zero, List.getElem?_cons_succ] at hc1
  have hf1 := hb.frozen 1
  have HB := Lib.hid hb
  have HR := Lib.hid hr
  have ho : OnlyT g [87] w (w.setCell ⟨g, 1, none⟩ (.int .i64 2)) := OnlyT.set_ HB.out (Nat.le_refl _) _ (by simp)
  have HO := Lib.hid ho
  clear hb hr ho
  by_cases h0 : n < 0
  · go_enter Try.func53, Try.ntmps53
    go_wp2
    go_ret
    exact ⟨rfl, ⟨A, c, HB.out.set_ 1 _, HR.out.only HO.out (by decide), hc, hl⟩, HO.out⟩
  · have h1 : 256 < n := by omega
    go_enter Try.func53, Try.ntmps53
    go_wp2
    go_ret
    exact ⟨rfl, ⟨A, c, HB.out.set_ 1 _, HR.out.only HO.out (by decide), hc, hl⟩, HO.out⟩
set_option maxRecDepth 100000 in
set_option maxHeartbeats 1000000 in
theorem rfGet_trunc (n : Nat) (h : RfrIs w g L 0) (hn : n ≤ 64) (hL1 : L.length < n) :
    Calls Try.prog 54 #[.pointer (some ⟨g, 0, none⟩), .int .i64 n] w fun e' w' => e' = .returned (.int .u64 0) ∧ RfrIs w' g L 11 ∧ OnlyT g [87] w w' := by
  obtain ⟨A, c, hb, hr, hc, hl⟩ := h
  have hc0 := hb.cell 0
  have hc1 := hb.cell 1
  simp only [List.getElem?_cons_zero, List.getElem?_cons_succ] at hc0 hc1
  have hf1 := hb.frozen 1
  have HB := Lib.hid hb
  have HR := Lib.hid hr
  have ho : OnlyT g [87] w (w.setCell ⟨g, 1, none⟩ (.int .i64 11)) := OnlyT.set_ HB.out (Nat.le_refl _) _ (by simp)
  have HO := Lib.hid ho
  have h0 : ¬ (n : Int) < 0 := by omega
  have h1 : (n : Int) ≤ 64 := by omega
  have h2 : (L.length : Int) < (n : Int) := by omega
  clear hb hr ho
  go_enter Try.func54, Try.ntmps54
  go_wp2
  go_ret
  exact ⟨rfl, ⟨A, c, HB.out.set_ 1 _, HR.out.only HO.out (by decide), hc, hl⟩, HO.out⟩
end
end Go.Proofs.Ytfdgnhfppginiaa
namespace Go.Proofs.Ytfdgnhfppginiaa
open Go.RowKit

theorem RdT.bit {w : World} {A : Option Addr} {L : List Bool} (h : RdT w 3 A (ivs L)) {k : Nat} {b : Bool} (hb : L[k]? = some b) :
    ∃ bl off, A = some ⟨bl, off, none⟩ ∧ w.cell? ⟨bl, off + k, none⟩ = some (.int .i64 (b.toNat : Int)) := by
  obtain ⟨bl, off, h1, _, h3⟩ := h k _ (ivs_get hb)
  exact ⟨bl, off, h1, h3⟩
def RfGetRel (L : List Bool) (n : Nat) (v i : Value) : Prop := ∃ k q : Nat, k ≤ n ∧ i = .int .i64 ((k : Int) - 1) ∧ v = .int .u64 q ∧ q = valOf ((L.take n).drop k)
theorem valOf_drop (L : List Bool) (n k : Nat) (b : Bool) (hk : k < n) (hn : n ≤ 64) (hb : L[k]? = some b) :
    valOf ((L.take n).drop k) = b.toNat + 2 * valOf ((L.take n).drop (k + 1)) ∧ b.toNat + 2 * valOf ((L.take n).drop (k + 1)) < 18446744073709551616 := by
  have hb' : (L.take n)[k]? = some b := by rw [List.getElem?_take, if_pos hk]; exact hb
  obtain ⟨hl, he⟩ := List.getElem?_eq_some_iff.1 hb'
  have e : (L.take n).drop k = b :: (L.take n).drop (k + 1) := by rw [List.drop_eq_getElem_cons hl, he]
  have e2 : valOf ((L.take n).drop k) = b.toNat + 2 * valOf ((L.take n).drop (k + 1)) := by rw [e]; rfl
  refine ⟨e2, ?_⟩
  rw [← e2]
  have h1 := valOf_lt ((L.take n).drop k)
  have h2 : ((L.take n).drop k).length ≤ 64 := by rw [List.length_drop, List.length_take]; omega
  have h3 := Nat.pow_le_pow_right (n := 2) (by decide) h2
  omega

/-- What a taking of n leaves. -/
theorem rf_end {w : World} {g : Nat} {L : List Bool} {A A' : Option Addr} {c c' n m : Nat} (hb : Hid (Blk w g 87 [.slice A L.length c, .int .i64 0])) (hr : Hid (RdT w 3 A (ivs L))) (hn : n ≤ L.length) (hc : L.length ≤ c) (hl : L.length ≤ 900000000)
    (hA : A' = A.map (·.add n) ∨ c = n) (hm : m = L.length - n) (hc' : c' = c - n) :
    RfrIs (w.setCell ⟨g, 0, none⟩ (.slice A' m c')) g (L.drop n) 0 ∧ OnlyT g [87] w (w.setCell ⟨g, 0, none⟩ (.slice A' m c')) := by
  subst hm hc'
  have ho : OnlyT g [87] w (w.setCell ⟨g, 0, none⟩ (.slice A' (L.length - n) (c - n))) := OnlyT.set_ hb.out (Nat.le_refl _) _ (by simp)
  refine ⟨⟨A', c - n, ?_, ?_, by rw [List.length_drop]; omega, by rw [List.length_drop]; omega⟩, ho⟩
  · rw [List.length_drop]
    exact hb.out.set_ 0 _
  · refine RdT.only ?_ ho (by decide)
    rcases hA with rfl | rfl
    · rw [← ivs_drop]; exact hr.out.drop n
    · rw [List.drop_of_length_le hc]
      intro k u hu
      simp [ivs] at hu

section
variable {w : World} {g : Nat} {L : List Bool}
set_option maxHeartbeats 2000000 in
set_option maxRecDepth 100000 in
theorem rfGet_ok (n : Nat) (h : RfrIs w g L 0) (hn : n ≤ 64) (hL1 : n ≤ L.length) :
    Calls Try.prog 54 #[.pointer (some ⟨g, 0, none⟩), .int .i64 n] w fun e' w' => e' = .returned (.int .u64 (valOf (L.take n))) ∧ RfrIs w' g (L.drop n) 0 ∧ OnlyT g [87] w w' := by
  obtain ⟨A, c, hb, hr, hc, hl⟩ := h
  have hc0 := hb.cell 0
  have hc1 := hb.cell 1
  simp only [List.getElem?_cons_zero, List.getElem?_cons_succ] at hc0 hc1
  have hf0 := hb.frozen 0
  have HB := Lib.hid hb
  have HR := Lib.hid hr
  have h0 : ¬ (n : Int) < 0 := by omega
  have h1 : (n : Int) ≤ 64 := by omega
  have h2 : (n : Int) ≤ (L.length : Int) := by omega
  clear hb hr
  go_enter Try.func54, Try.ntmps54
  go_wp2
  go_loop [5, 6] (RfGetRel L n) (fun _ i => (intOf i + 1).toNat)
  case atStart => exact ⟨n, 0, Nat.le_refl _, rfl, rfl, by rw [List.drop_of_length_le (by rw [List.length_take]; omega)]; rfl⟩
  case round =>
    obtain ⟨k, q, hk, rfl, rfl, hq⟩ := hrel
    have HQ := Lib.hid hq
    clear hq
    cases k with
    | succ k =>
      obtain ⟨b, hlb⟩ : ∃ b, L[k]? = some b := ⟨L[k]'(by omega), by simp⟩
      obtain ⟨ab, ao, rfl, hcl⟩ := HR.out.bit hlb
      have hv := valOf_drop L n k b (by omega) hn hlb
      rw [← HQ.out] at hv
      have hv1 : 2 * (q : Int) + (b.toNat : Int) ≤ 18446744073709551615 := by omega
      have hb1 : (b.toNat : Int) ≤ 1 := by cases b <;> simp
      have hb0 : (0 : Int) ≤ (b.toNat : Int) := by omega
      have hk1 : ((k + 1 : Nat) : Int) - 1 = (k : Int) := by omega
      have hkl : (k : Int) < (L.length : Int) := by omega
      have HV := Lib.hid hv.1
      clear hv hlb
      rw [hk1]
      clear hk1
      go_wp2
      go_round
      case rel => exact ⟨k, 2 * q + b.toNat, by omega, rfl, by go_num, by rw [HV.out]; omega⟩
      case measure => simp [intOf]
    | zero =>
      have hqv : q = valOf (L.take n) := by rw [HQ.out]; rfl
      have HQV := Lib.hid hqv
      clear hqv
      by_cases hcn : c = n
      · go_wp2
        go_ret
        exact ⟨by rw [HQV.out]; rfl, rf_end HB HR hL1 hc hl (.inr hcn) (by omega) (by omega)⟩
      · go_wp2
        go_ret
        exact ⟨by rw [HQV.out]; rfl, rf_end HB HR hL1 hc hl (.inl rfl) rfl rfl⟩

theorem ones_get {n : Nat} {R : List Bool} {k : Nat} (h : k < n) : (List.replicate n true ++ R)[k]? = some true := by
  rw [List.getElem?_append_left (by simpa using h), List.getElem?_replicate, if_pos h]
def RfOnesRel (n : Nat) (i : Value) : Prop := ∃ k : Nat, k ≤ n ∧ i = .int .i64 k
set_option maxHeartbeats 2000000 in
set_option maxRecDepth 100000 in
theorem rfOnes_full (m : Nat) (R : List Bool) (h : RfrIs w g L 0) (hm : m ≤ 256) (hL0 : L = List.replicate m true ++ R) :
    Calls Try.prog 53 #[.pointer (some ⟨g, 0, none⟩), .int .i64 m] w fun e' w' => e' = .returned (.int .i64 m) ∧ RfrIs w' g R 0 ∧ OnlyT g [87] w w' := by
  obtain ⟨A, c, hb, hr, hc, hl⟩ := h
  have hc0 := hb.cell 0
  have hc1 := hb.cell 1
  simp only [List.getElem?_cons_zero, List.getElem?_cons_succ] at hc0 hc1
  have hf0 := hb.frozen 0
  have HB := Lib.hid hb
  have HR := Lib.hid hr
  have HL0 := Lib.hid hL0
  have hL1 : m ≤ L.length := by rw [hL0]; simp
  have hdr : L.drop m = R := by rw [hL0, List.drop_left' (by simp)]
  have HDR := Lib.hid hdr
  have h0 : ¬ (m : Int) < 0 := by omega
  have h1 : (m : Int) ≤ 256 := by omega
  have h2 : (m : Int) ≤ (L.length : Int) := by omega
  clear hb hr hL0 hdr
  go_enter Try.func53, Try.ntmps53
  go_wp2
  go_loop [5] (RfOnesRel m) (fun i => m - (intOf i).toNat)
  case atStart => exact ⟨0, Nat.zero_le _, rfl⟩
  case round =>
    obtain ⟨k, hk, rfl⟩ := hrel
    by_cases hlt : k < m
    · have hlb : L[k]? = some true := by rw [HL0.out]; exact ones_get hlt
      obtain ⟨ab, ao, rfl, hcl⟩ := HR.out.bit hlb
      have hkl : (k : Int) < (L.length : Int) := by omega
      rw [show (((true : Bool).toNat : Nat) : Int) = 1 from rfl] at hcl
      clear hlb
      go_wp2
      go_round
      case rel => exact ⟨k + 1, by omega, by go_num⟩
      case measure => simp [intOf]; omega
    · obtain rfl : k = m := by omega
      by_cases hcn : c = k
      · go_wp2
        go_ret
        refine ⟨rfl, ?_⟩
        rw [← HDR.out]
        exact rf_end HB HR hL1 hc hl (.inr hcn) (by omega) (by omega)
      · go_wp2
        go_ret
        refine ⟨rfl, ?_⟩
        rw [← HDR.out]
        exact rf_end HB HR hL1 hc hl (.inl rfl) rfl rfl
set_option maxHeartbeats 2000000 in
set_option maxRecDepth 100000 in
theorem rfOnes_stop (m n : Nat) (R : List Bool) (h : RfrIs w g L 0) (hm : m ≤ 256) (hn : n < m) (hL0 : L = List.replicate n true ++ false :: R) :
    Calls Try.prog 53 #[.pointer (some ⟨g, 0, none⟩), .int .i64 m] w fun e' w' => e' = .returned (.int .i64 n) ∧ RfrIs w' g R 0 ∧ OnlyT g [87] w w' := by
  obtain ⟨A, c, hb, hr, hc, hl⟩ := h
  have hc0 := hb.cell 0
  have hc1 := hb.cell 1
  simp only [List.getElem?_cons_zero, List.getElem?_cons_succ] at hc0 hc1
  have hf0 := hb.frozen 0
  have HB := Lib.hid hb
  have HR := Lib.hid hr
  have HL0 := Lib.hid hL0
  have hL1 : n + 1 ≤ L.length := by rw [hL0]; simp
  have hdr : L.drop (n + 1) = R := by rw [hL0, show List.replicate n true ++ false :: R = (List.replicate n true ++ [false]) ++ R by simp, List.drop_left' (by simp)]
  have HDR := Lib.hid hdr
  have h0 : ¬ (m : Int) < 0 := by omega
  have h1 : (m : Int) ≤ 256 := by omega
  clear hb hr hL0 hdr
  go_enter Try.func53, Try.ntmps53
  go_wp2
  go_loop [5] (RfOnesRel n) (fun i => n - (intOf i).toNat)
  case atStart => exact ⟨0, Nat.zero_le _, rfl⟩
  case round =>
    obtain ⟨k, hk, rfl⟩ := hrel
    have hkl : (k : Int) < (L.length : Int) := by omega
    have hkm : (k : Int) < (m : Int) := by omega
    by_cases hlt : k < n
    · have hlb : L[k]? = some true := by rw [HL0.out]; exact ones_get hlt
      obtain ⟨ab, ao, rfl, hcl⟩ := HR.out.bit hlb
      rw [show (((true : Bool).toNat : Nat) : Int) = 1 from rfl] at hcl
      clear hlb
      go_wp2
      go_round
      case rel => exact ⟨k + 1, by omega, by go_num⟩
      case measure => simp [intOf]; omega
    · obtain rfl : k = n := by omega
      have hlb : L[k]? = some false := by rw [HL0.out, List.getElem?_append_right (by simp)]; simp
      obtain ⟨ab, ao, hA, hcl⟩ := HR.out.bit hlb
      subst hA
      rw [show (((false : Bool).toNat : Nat) : Int) = 0 from rfl] at hcl
      clear hlb
      have hne1 : ((k : Int) == (L.length : Int)) = false := by rw [beq_eq_false_iff_ne]; omega
      have hne2 : ((k : Int) == (m : Int)) = false := by rw [beq_eq_false_iff_ne]; omega
      have hk2 : ((k : Int) + 1) ≤ (L.length : Int) := by omega
      by_cases hcn : c = k + 1
      · go_wp2
        go_ret
        refine ⟨rfl, ?_⟩
        rw [← HDR.out]
        exact rf_end HB HR hL1 hc hl (.inr hcn) (by omega) (by omega)
      · go_wp2
        go_ret
        refine ⟨rfl, ?_⟩
        rw [← HDR.out]
        exact rf_end HB HR hL1 hc hl (.inl rfl) (by omega) (by omega)
set_option maxHeartbeats 2000000 in
set_option maxRecDepth 100000 in
theorem rfOnes_trunc (m n : Nat) (h : RfrIs w g L 0) (hm : m ≤ 256) (hn : n < m) (hL0 : L = List.replicate n true) :
    Calls Try.prog 53 #[.pointer (some ⟨g, 0, none⟩), .int .i64 m] w fun e' w' => e' = .returned (.int .i64 0) ∧ RfrIs w' g L 11 ∧ OnlyT g [87] w w' := by
  obtain ⟨A, c, hb, hr, hc, hl⟩ := h
  have hc0 := hb.cell 0
  have hc1 := hb.cell 1
  simp only [List.getElem?_cons_zero, List.getElem?_cons_succ] at hc0 hc1
  have hf1 := hb.frozen 1
  have HB := Lib.hid hb
  have HR := Lib.hid hr
  have HL0 := Lib.hid hL0
  have hL1 : L.length = n := by rw [hL0]; simp
  have ho : OnlyT g [87] w (w.setCell ⟨g, 1, none⟩ (.int .i64 11)) := OnlyT.set_ HB.out (Nat.le_refl _) _ (by simp)
  have HO := Lib.hid ho
  have HL1 := Lib.hid hL1
  have h0 : ¬ (m : Int) < 0 := by omega
  have h1 : (m : Int) ≤ 256 := by omega
  have hmn : (n : Int) < (m : Int) := by omega
  rw [hL1] at hc0
  clear hb hr hL0 ho hL1
  go_enter Try.func53, Try.ntmps53
  go_wp2
  go_loop [5] (RfOnesRel n) (fun i => n - (intOf i).toNat)
  case atStart => exact ⟨0, Nat.zero_le _, rfl⟩
  case round =>
    obtain ⟨k, hk, rfl⟩ := hrel
    have hkm : (k : Int) < (m : Int) := by omega
    by_cases hlt : k < n
    · have hlb : L[k]? = some true := by rw [HL0.out, List.getElem?_replicate, if_pos hlt]
      obtain ⟨ab, ao, rfl, hcl⟩ := HR.out.bit hlb
      rw [show (((true : Bool).toNat : Nat) : Int) = 1 from rfl] at hcl
      clear hlb
      go_wp2
      go_round
      case rel => exact ⟨k + 1, by omega, by go_num⟩
      case measure => simp [intOf]; omega
    · obtain rfl : k = n := by omega
      go_wp2
      go_ret
      exact ⟨rfl, ⟨A, c, HB.out.set_ 1 _, HR.out.only HO.out (by decide), hc, hl⟩, HO.out⟩
set_option maxHeartbeats 2000000 in
set_option maxRecDepth 100000 in
theorem rfDone_ok (n : Nat) (h : RfrIs w g L 0) (hn : n < 8) (hL0 : L = List.replicate n false) :
    Calls Try.prog 57 #[.pointer (some ⟨g, 0, none⟩)] w fun e' w' => e' = .returned (.int .i64 0) ∧ w = w' := by
  obtain ⟨A, c, hb, hr, hc, hl⟩ := h
  have hc0 := hb.cell 0
  have hc1 := hb.cell 1
  simp only [List.getElem?_cons_zero, List.getElem?_cons_succ] at hc0 hc1
  have HR := Lib.hid hr
  have HL0 := Lib.hid hL0
  have hL1 : L.length = n := by rw [hL0]; simp
  rw [hL1] at hc0
  have hn8 : (n : Int) < 8 := by omega
  clear hb hr hL0 hL1
  go_enter Try.func57, Try.ntmps57
  go_wp2
  go_loop [3] (RfOnesRel n) (fun i => n - (intOf i).toNat)
  case atStart => exact ⟨0, Nat.zero_le _, rfl⟩
  case round =>
    obtain ⟨k, hk, rfl⟩ := hrel
    by_cases hlt : k < n
    · have hlb : L[k]? = some false := by rw [HL0.out, List.getElem?_replicate, if_pos hlt]
      obtain ⟨ab, ao, rfl, hcl⟩ := HR.out.bit hlb
      rw [show (((false : Bool).toNat : Nat) : Int) = 0 from rfl] at hcl
      clear hlb
      go_wp2
      go_round
      case rel => exact ⟨k + 1, by omega, by go_num⟩
      case measure => simp [intOf]; omega
    · obtain rfl : k = n := by omega
      go_wp2
      go_ret
      exact ⟨rfl, rfl⟩
set_option maxHeartbeats 2000000 in
set_option maxRecDepth 100000 in
theorem rfDone_pay (n : Nat) (R : List Bool) (h : RfrIs w g L 0) (hn : n + 1 + R.length < 8) (hL0 : L = List.replicate n false ++ true :: R) :
    Calls Try.prog 57 #[.pointer (some ⟨g, 0, none⟩)] w fun e' w' => e' = .returned (.int .i64 16) ∧ w = w' := by
  obtain ⟨A, c, hb, hr, hc, hl⟩ := h
  have hc0 := hb.cell 0
  have hc1 := hb.cell 1
  simp only [List.getElem?_cons_zero, List.getElem?_cons_succ] at hc0 hc1
  have HR := Lib.hid hr
  have HL0 := Lib.hid hL0
  obtain ⟨N, hL1⟩ : ∃ N, L.length = N := ⟨_, rfl⟩
  have hL2 : n + 1 + R.length = N := by rw [← hL1, hL0]; simp; omega
  rw [hL1] at hc0
  have hn8 : (N : Int) < 8 := by omega
  clear hb hr hL0 hL1
  go_enter Try.func57, Try.ntmps57
  go_wp2
  go_loop [3] (RfOnesRel n) (fun i => n - (intOf i).toNat)
  case atStart => exact ⟨0, Nat.zero_le _, rfl⟩
  case round =>
    obtain ⟨k, hk, rfl⟩ := hrel
    have hkN : (k : Int) < (N : Int) := by omega
    by_cases hlt : k < n
    · have hlb : L[k]? = some false := by rw [HL0.out, List.getElem?_append_left (by simpa using hlt), List.getElem?_replicate, if_pos hlt]
      obtain ⟨ab, ao, rfl, hcl⟩ := HR.out.bit hlb
      rw [show (((false : Bool).toNat : Nat) : Int) = 0 from rfl] at hcl
      clear hlb hL2 hn
      go_wp2
      go_round
      case rel => exact ⟨k + 1, by omega, by go_num⟩
      case measure => simp [intOf]; omega
    · obtain rfl : k = n := by omega
      have hlb : L[k]? = some true := by rw [HL0.out, List.getElem?_append_right (by simp)]; simp
      obtain ⟨ab, ao, hA, hcl⟩ := HR.out.bit hlb
      subst hA
      rw [show (((true : Bool).toNat : Nat) : Int) = 1 from rfl] at hcl
      clear hlb hL2 hn
      go_wp2
      go_ret
      exact ⟨rfl, rfl⟩
end
end Go.Proofs.Ytfdgnhfppginiaa
