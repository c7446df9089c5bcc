/- Contracts of layer 1's reference: its Reader. -/
import Derived.Test.YtgchomeipmjifaaRefBit
namespace Go.Proofs.Ytgchomeipmjifaa
open Go.RowKit

/-- At block g lies the reference's Reader of which the bits L are left, with the error e. -/
def RfrIs (w : World) (g : Nat) (L : List Bool) (e : Nat) : Prop :=
  ∃ (A : Option Addr) (c : Nat), Blk w g 47 [.slice A L.length c, .int .i64 e] ∧ RdT w 3 A (ivs L) ∧ L.length ≤ c ∧ L.length ≤ 900000000
theorem RfrIs.only {B : Nat} {ts : List TypeId} {w w' : World} {g : Nat} {L : List Bool} {e : Nat} (h : RfrIs w g L e) (ho : OnlyT B ts w w') (h1 : 47 ∉ ts) (h2 : 3 ∉ ts) : RfrIs w' g L e := by
  obtain ⟨A, c, hb, hr, rest⟩ := h
  exact ⟨A, c, hb.only ho h1, hr.only ho h2, rest⟩

/-- What holds at the head of a round of ref.All. -/
def RAllRel (w : World) (bs : List UInt8) (v i : Value) (wr : World) : Prop :=
  ∃ k : Nat, k ≤ bs.length ∧ i = .int .i64 k ∧ wr.ownsRow w.heap.size 3 1 v (8 * k) (ivs (allBits (bs.take k))) ∧ OnlyT w.heap.size [3] w wr
theorem allBits_snoc (bs : List UInt8) (b : UInt8) : allBits (bs ++ [b]) = allBits bs ++ bitsOf b.toNat 8 := by
  apply List.ext_getElem?
  intro i
  rw [List.getElem?_append, allBits_length]
  split
  · rename_i h
    rw [allBits_get bs i h, allBits_get _ i (by simp; omega)]
    simp only [bitAt, List.getD_eq_getElem?_getD]
    rw [List.getElem?_append_left (by omega)]
  · rename_i h
    rcases Nat.lt_or_ge i (8 * bs.length + 8) with g | g
    · rw [allBits_get _ i (by simp; omega)]
      simp only [bitAt, bitsOf, List.getD_eq_getElem?_getD]
      rw [List.getElem?_append_right (by omega), show i / 8 - bs.length = 0 by omega, show i % 8 = i - 8 * bs.length by omega]
      simp [show i - 8 * bs.length < 8 by omega]
    · rw [List.getElem?_eq_none (by rw [allBits_length]; simp; omega), List.getElem?_eq_none (by rw [bitsOf_length]; omega)]

set_option maxHeartbeats 1000000 in
set_option maxRecDepth 100000 in
theorem rfAll_any (A : Option Addr) (n c : Nat) (l : List UInt8) (w : World) (hr : Rd w w.heap.size A (bvs l)) (hn : l.length = n) (hn1 : n ≤ 1000) :
    Calls Try.prog 21 #[.slice A n c] w (NewI w (allBits l)) := by
  obtain ⟨i0, hi, hz0, hz1, hz2⟩ := info_parts info_int
  have HN := Lib.hid hn
  have HR := Lib.hid hr
  clear hn hr
  go_enter Try.func21, Try.ntmps21
  go_wp2
  go_loopw [3, 4] (RAllRel w l) (fun _ i _ => n - (intOf i).toNat)
  case atStart => exact ⟨0, Nat.zero_le _, rfl, World.ownsRow_nil _ _ _ _, OnlyT.refl _ _ _⟩
  case round =>
    obtain ⟨k, hk, rfl, hown, ho⟩ := hrel
    have hbs := ho.size
    have hbelow := ho.below (Nat.le_refl _)
    have HO := Lib.hid ho
    have HOWN := Lib.hid hown
    clear hown ho
    by_cases hlt : k < n
    · obtain ⟨x, hx⟩ : ∃ x, l[k]? = some x := ⟨l[k]'(by have := HN.out; omega), by simp⟩
      obtain ⟨ab, ao, rfl, hab, hcl⟩ := (HR.out.below hbelow) k (.int .u8 x.toNat) (by simp [bvs, hx])
      have HX := Lib.hid hx
      have hx8 := x.toNat_lt
      clear hx hbelow
      go_wp2_with (first
        | (go_at_call 13; go_must (refine (rfBits_any x.toNat 8 _ (by omega) (by decide)).mono ?_; rintro e w2 ⟨vb, rfl, hownb, hob⟩; rw [bitsOf_length] at hownb; obtain ⟨Ab, cb, rfl, -, -, -⟩ := own_form hownb; have HRB := Lib.hid (Rd.of_own hownb); have hbb := hob.below (Nat.le_refl _); have HOWN2 := Lib.hid (own_kept HOWN.out hbb); have HO2 := Lib.hid (HO.out.trans (hob.base hbs)); clear hownb hob hbb))
        | (at_builtin; go_must (refine wpList_app rfl (.tmp 11) (.tmp 17) 28 rfl w.heap.size 3 i0 (.int .i64 0) 1 8 Try.underlying28 hi hz0 hz1 hz2 rfl (by decide) _ _ _ rfl HOWN2.out _ _ _ _ _ rfl HRB.out (by rw [ivs_length, bitsOf_length]) (ivs_one _) (by simp only [maxLen]; omega) (by omega) HO2.out.size ?_; intro v3 w3 hown3 hg3; have HO3 := Lib.hid (HO2.out.trans (OnlyT.grown hg3 (own_type HOWN2.out) (by simp))); have HOWN3 := Lib.hid hown3; clear hown3 hg3)))
      have hrelN : RAllRel w l v3 (.int .i64 ((k : Int) + 1)) w3 := by
        refine ⟨k + 1, by have := HN.out; omega, by go_num, ?_, HO3.out⟩
        rw [List.take_add_one, HX.out, show (some x).toList = [x] from rfl, allBits_snoc, ivs_append]
        exact HOWN3.out
      have HRELN := Lib.hid hrelN
      clear hrelN
      go_roundw
      case rel => exact HRELN.out
      case measure => simp [intOf]; omega
    · obtain rfl : k = n := by have := HN.out; omega
      go_wp2
      go_ret
      refine ⟨_, rfl, ?_, HO.out⟩
      have := HOWN.out
      rw [← HN.out, List.take_length] at this
      rw [allBits_length]
      exact this

section
variable {w : World} {g : Nat} {L : List Bool}
set_option maxHeartbeats 1000000 in
theorem rfGet_err (n : Int) (e : Nat) (h : RfrIs w g L e) (he : e ≠ 0) : Calls Try.prog 23 #[.pointer (some ⟨g, 0, none⟩), .int .i64 n] w fun e' w' => e' = .returned (.int .u64 0) ∧ w = w' := by
  obtain ⟨A, c, hb, hr, hc, hl⟩ := h
  have hc1 := hb.cell 1
  simp only [List.getElem?_cons_zero, List.getElem?_cons_succ] at hc1
  have hne : (((e : Nat) : Int) != 0) = true := by rw [bne_iff_ne]; omega
  clear hb hr he
  go_enter Try.func23, Try.ntmps23
  go_wp2
  go_ret
  exact ⟨rfl, rfl⟩
set_option maxHeartbeats 1000000 in
theorem rfOnes_err (n : Int) (e : Nat) (h : RfrIs w g L e) (he : e ≠ 0) : Calls Try.prog 25 #[.pointer (some ⟨g, 0, none⟩), .int .i64 n] w fun e' w' => e' = .returned (.int .i64 0) ∧ w = w' := by
  obtain ⟨A, c, hb, hr, hc, hl⟩ := h
  have hc1 := hb.cell 1
  simp only [List.getElem?_cons_zero, List.getElem?_cons_succ] at hc1
  have hne : (((e : Nat) : Int) != 0) = true := by rw [bne_iff_ne]; omega
  clear hb hr he
  go_enter Try.func25, Try.ntmps25
  go_wp2
  go_ret
  exact ⟨rfl, rfl⟩
set_option maxHeartbeats 1000000 in
theorem rfLeft_err (e : Nat) (h : RfrIs w g L e) (he : e ≠ 0) : Calls Try.prog 28 #[.pointer (some ⟨g, 0, none⟩)] w fun e' w' => e' = .returned (.int .i64 0) ∧ w = w' := by
  obtain ⟨A, c, hb, hr, hc, hl⟩ := h
  have hc1 := hb.cell 1
  simp only [List.getElem?_cons_zero, List.getElem?_cons_succ] at hc1
  have hne : (((e : Nat) : Int) != 0) = true := by rw [bne_iff_ne]; omega
  clear hb hr he
  go_enter Try.func28, Try.ntmps28
  go_wp2
  go_ret
  exact ⟨rfl, rfl⟩
set_option maxHeartbeats 1000000 in
theorem rfLeft_ok (h : RfrIs w g L 0) : Calls Try.prog 28 #[.pointer (some ⟨g, 0, none⟩)] w fun e' w' => e' = .returned (.int .i64 (L.length : Nat)) ∧ w = w' := by
  obtain ⟨A, c, hb, hr, hc, hl⟩ := h
  have hc0 := hb.cell 0
  have hc1 := hb.cell 1
  simp only [List.getElem?_cons_zero, List.getElem?_cons_succ] at hc0 hc1
  clear hb hr
  go_enter Try.func28, Try.ntmps28
  go_wp2
  go_ret
  exact ⟨rfl, rfl⟩
set_option maxHeartbeats 1000000 in
theorem rfDone_err (e : Nat) (h : RfrIs w g L e) (he : e ≠ 0) : Calls Try.prog 30 #[.pointer (some ⟨g, 0, none⟩)] w fun e' w' => e' = .returned (.int .i64 e) ∧ w = w' := by
  obtain ⟨A, c, hb, hr, hc, hl⟩ := h
  have hc1 := hb.cell 1
  simp only [List.getElem?_cons_zero, List.getElem?_cons_succ] at hc1
  have hne : (((e : Nat) : Int) != 0) = true := by rw [bne_iff_ne]; omega
  clear hb hr he
  go_enter Try.func30, Try.ntmps30
  go_wp2
  go_ret
  exact ⟨rfl, rfl⟩
set_option maxHeartbeats 1000000 in
theorem rfDone_more (h : RfrIs w g L 0) (hl : 8 ≤ L.length) : Calls Try.prog 30 #[.pointer (some ⟨g, 0, none⟩)] w fun e' w' => e' = .returned (.int .i64 22) ∧ w = w' := by
  obtain ⟨A, c, hb, hr, hc, hl9⟩ := h
  have hc0 := hb.cell 0
  have hc1 := hb.cell 1
  simp only [List.getElem?_cons_zero, List.getElem?_cons_succ] at hc0 hc1
  have hi : (8 : Int) ≤ (L.length : Int) := by omega
  clear hb hr
  go_enter Try.func30, Try.ntmps30
  go_wp2
  go_ret
  exact ⟨rfl, rfl⟩
set_option maxHeartbeats 1000000 in
theorem rfGet_arg (n : Int) (h : RfrIs w g L 0) (hn : n < 0 ∨ 64 < n) :
    Calls Try.prog 23 #[.pointer (some ⟨g, 0, none⟩), .int .i64 n] w fun e' w' => e' = .returned (.int .u64 0) ∧ RfrIs w' g L 2 ∧ OnlyT g [47] w w' := by
  obtain ⟨A, c, hb, hr, hc, hl⟩ := h
  have hc1 := hb.cell 1
  simp only [List.getElem?_cons_zero, List.getElem?_cons_succ] at hc1
  have hf1 := hb.frozen 1
  have HB := Lib.hid hb
  have HR := Lib.hid hr
  have ho : OnlyT g [47] w (w.setCell ⟨g, 1, none⟩ (.int .i64 2)) := OnlyT.set_ HB.out (Nat.le_refl _) _ (by simp)
  have HO := Lib.hid ho
  clear hb hr ho
  by_cases h0 : n < 0
  · go_enter Try.func23, Try.ntmps23
    go_wp2
    go_ret
    exact ⟨rfl, ⟨A, c, HB.out.set_ 1 _, HR.out.only HO.out (by decide), hc, hl⟩, HO.out⟩
  · have h1 : 64 < n := by omega
    go_enter Try.func23, Try.ntmps23
    go_wp2
    go_ret
    exact ⟨rfl, ⟨A, c, HB.out.set_ 1 _, HR.out.only HO.out (by decide), hc, hl⟩, HO.out⟩
set_option maxHeartbeats 1000000 in
theorem rfOnes_arg (n : Int) (h : RfrIs w g L 0) (hn : n < 0 ∨ 256 < n) :
    Calls Try.prog 25 #[.pointer (some ⟨g, 0, none⟩), .int .i64 n] w fun e' w' => e' = .returned (.int .i64 0) ∧ RfrIs w' g L 2 ∧ OnlyT g [47] w w' := by
  obtain ⟨A, c, hb, hr, hc, hl⟩ := h
  have hc1 := hb.cell 1
  simp only [List.getElem?_cons_zero, List.getElem?_cons_succ] at hc1
  have hf1 := hb.frozen 1
  have HB := Lib.hid hb
  have HR := Lib.hid hr
  have ho : OnlyT g [47] w (w.setCell ⟨g, 1, none⟩ (.int .i64 2)) := OnlyT.set_ HB.out (Nat.le_refl _) _ (by simp)
  have HO := Lib.hid ho
  clear hb hr ho
  by_cases h0 : n < 0
  · go_enter Try.func25, Try.ntmps25
    go_wp2
    go_ret
    exact ⟨rfl, ⟨A, c, HB.out.set_ 1 _, HR.out.only HO.out (by decide), hc, hl⟩, HO.out⟩
  · have h1 : 256 < n := by omega
    go_enter Try.func25, Try.ntmps25
    go_wp2
    go_ret
    exact ⟨rfl, ⟨A, c, HB.out.set_ 1 _, HR.out.only HO.out (by decide), hc, hl⟩, HO.out⟩
set_option maxHeartbeats 1000000 in
theorem rfGet_trunc (n : Nat) (h : RfrIs w g L 0) (hn : n ≤ 64) (hL1 : L.length < n) :
    Calls Try.prog 23 #[.pointer (some ⟨g, 0, none⟩), .int .i64 n] w fun e' w' => e' = .returned (.int .u64 0) ∧ RfrIs w' g L 11 ∧ OnlyT g [47] w w' := by
  obtain ⟨A, c, hb, hr, hc, hl⟩ := h
  have hc0 := hb.cell 0
  have hc1 := hb.cell 1
  simp only [List.getElem?_cons_zero, List.getElem?_cons_succ] at hc0 hc1
  have hf1 := hb.frozen 1
  have HB := Lib.hid hb
  have HR := Lib.hid hr
  have ho : OnlyT g [47] w (w.setCell ⟨g, 1, none⟩ (.int .i64 11)) := OnlyT.set_ HB.out (Nat.le_refl _) _ (by simp)
  have HO := Lib.hid ho
  have h0 : ¬ (n : Int) < 0 := by omega
  have h1 : (n : Int) ≤ 64 := by omega
  have h2 : (L.length : Int) < (n : Int) := by omega
  clear hb hr ho
  go_enter Try.func23, Try.ntmps23
  go_wp2
  go_ret
  exact ⟨rfl, ⟨A, c, HB.out.set_ 1 _, HR.out.only HO.out (by decide), hc, hl⟩, HO.out⟩
end
end Go.Proofs.Ytgchomeipmjifaa
