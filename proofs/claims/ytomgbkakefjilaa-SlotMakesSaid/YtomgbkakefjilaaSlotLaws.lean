/- Layer 15: the law SlotMakes. -/
import Derived.Test.YtomgbkakefjilaaSlotOf
namespace Go.Proofs.Ytomgbkakefjilaa
open Go.RowKit Go.Sort Go.Shelf

/-- Of such shares, and bits, both tell none. -/
def NoSlotsOf (l : List Int) (bits err : Int) : Prop :=
  (∀ (W : World) (A : Option Addr) (n m : Nat), Rd W W.heap.size A (zvs l) → l.length = n → n ≤ 4096 → Calls Try.prog 16 #[.slice A n m, .int .i64 bits] W fun e w' => e = NoSlots err ∧ w' = W) ∧
  ∀ (W : World) (A : Option Addr) (n m : Nat), Rd W W.heap.size A (zvs l) → l.length = n → n ≤ 4096 → Calls Try.prog 17 #[.slice A n m, .int .i64 bits] W fun e w' => e = .returned (.int .i64 err) ∧ w' = W
theorem slot_either (l : List Int) (bits : Int) : (∃ err, (err = 2 ∨ err = 3) ∧ NoSlotsOf l bits err) ∨ ∃ b T : Nat, bits = (b : Int) ∧ 1 ≤ b ∧ b ≤ 16 ∧ T = 2 ^ b ∧ l.any sBad = false ∧ l.sum = (T : Int) := by
  by_cases hb : bits < 1 ∨ 16 < bits
  · exact .inl ⟨2, .inl rfl, fun W A n m _ _ _ => slotMake_bits bits hb, fun W A n m _ _ _ => rsCheck_bits bits hb⟩
  · obtain ⟨b, rfl⟩ := Int.eq_ofNat_of_zero_le (show 0 ≤ bits by omega)
    have h1 : 1 ≤ b := by omega
    have h2 : b ≤ 16 := by omega
    cases hbad : l.any sBad with
    | true =>
      exact .inl ⟨2, .inl rfl, fun W A n m hr hn hn1 => slotMake_err b _ h1 h2 rfl hr hn hn1 2 (.inl ⟨hbad, rfl⟩) (by decide), fun W A n m hr hn hn1 => rsCheck_any b _ h1 h2 rfl hr hn hn1 2 (.inl ⟨hbad, rfl⟩)⟩
    | false =>
      by_cases hm : l.sum = ((2 ^ b : Nat) : Int)
      · exact .inr ⟨b, _, rfl, h1, h2, rfl, rfl, hm⟩
      · exact .inl ⟨3, .inr rfl, fun W A n m hr hn hn1 => slotMake_err b _ h1 h2 rfl hr hn hn1 3 (.inr ⟨hbad, .inl ⟨hm, rfl⟩⟩) (by decide), fun W A n m hr hn hn1 => rsCheck_any b _ h1 h2 rfl hr hn hn1 3 (.inr ⟨hbad, .inl ⟨hm, rfl⟩⟩)⟩
/-- Of: the same of both, of a letter or none. -/
def ofR (c : List Int) (i : Int) : Int × Int := if 0 ≤ i ∧ i < (c.length : Int) then (fPre c i.toNat, c.getD i.toNat 0) else (0, 0)
theorem slotOf_any {w : World} {P b T : Nat} {c : List Int} (i : Int) (h : IsSlots w P c b T) : Calls Try.prog 18 #[.pointer (some ⟨P, 0, none⟩), .int .i64 i] w fun e w' => e = .returned (.tuple #[.int .i64 (ofR c i).1, .int .i64 (ofR c i).2]) ∧ Below w.heap.size w w' := by
  unfold ofR
  by_cases hi : 0 ≤ i ∧ i < (c.length : Int)
  · rw [if_pos hi]
    obtain ⟨k, rfl⟩ := Int.eq_ofNat_of_zero_le hi.1
    have hk : k < c.length := by omega
    rw [Int.toNat_natCast, show c.getD k 0 = c[k] by simp [List.getD_eq_getElem?_getD, hk]]
    exact slotOf_at k h hk
  · rw [if_neg hi]
    exact (slotOf_none i h hi).mono fun e w' hh => ⟨hh.1, hh.2 ▸ Below.refl _ _⟩
theorem rsOf_any {w : World} {B : Nat} {A : Option Addr} {n m : Nat} {c : List Int} (i : Int) (hr : Rd w B A (zvs c)) (hn : c.length = n) (hn1 : n ≤ 4096) (hnn : ∀ x ∈ c, 0 ≤ x) (hs : c.sum ≤ 65536) :
    Calls Try.prog 21 #[.slice A n m, .int .i64 i] w fun e w' => e = .returned (.tuple #[.int .i64 (ofR c i).1, .int .i64 (ofR c i).2]) ∧ Below w.heap.size w w' := by
  unfold ofR
  by_cases hi : 0 ≤ i ∧ i < (c.length : Int)
  · rw [if_pos hi]
    obtain ⟨k, rfl⟩ := Int.eq_ofNat_of_zero_le hi.1
    have hk : k < c.length := by omega
    rw [Int.toNat_natCast, show c.getD k 0 = c[k] by simp [List.getD_eq_getElem?_getD, hk]]
    exact rsOf_at k hr hn hn1 hnn hs hk
  · rw [if_neg hi]
    exact (rsOf_none i hn hi).mono fun e w' hh => ⟨hh.1, hh.2 ▸ Below.refl _ _⟩
theorem findV_form (o : Option Nat) : ∃ (x : Int) (y : Bool), findV o = .tuple #[.int .i64 x, .bool y] := by
  cases o with
  | none => exact ⟨0, false, rfl⟩
  | some r => exact ⟨r, true, rfl⟩
set_option maxHeartbeats 4000000 in
theorem slotMakes_law (bits i v : Int) (A : Option Addr) (L m : Nat) (l : List Int) (w : World) (hr : Rd w w.heap.size A (zvs l)) (hL : l.length = L) (hL63 : L ≤ 9223372036854775807) :
    Calls Try.prog 6 #[.slice A L m, .int .i64 bits, .int .i64 i, .int .i64 v] w (Yes w) := by
  have CK := Lib.hid slotKnown_any
  by_cases h300 : 300 < L
  · have h2 : (300 : Int) < (L : Int) := by omega
    clear hr hL
    go_enter Try.func6, Try.ntmps6
    go_wp2_with fail
    refine (CK.out _).mono ?_
    rintro e w' ⟨rfl, hb⟩
    go_wp2
    go_ret
    exact ⟨rfl, hb⟩
  have h2 : ¬ ((300 : Int) < (L : Int)) := by omega
  rcases slot_either l bits with ⟨err, he, h1, h3⟩ | ⟨b, T, rfl, h1, h3, h4, h5, h6⟩
  · have C1 := Lib.hid (h1 w A L m hr hL (by omega))
    have C2 := Lib.hid (h3 w A L m hr hL (by omega))
    have he0 : (err != 0) = true := bne_iff_ne.2 (by omega)
    clear h1 h3 hr hL he
    go_enter Try.func6, Try.ntmps6
    go_wp2_with fail
    refine C1.out.mono ?_
    rintro e w' ⟨rfl, hw⟩
    obtain rfl : _ = w' := hw.symm
    unfold NoSlots
    go_wp2_with fail
    refine C2.out.mono ?_
    rintro e w' ⟨rfl, hw⟩
    obtain rfl : _ = w' := hw.symm
    go_wp2_with fail
    refine (slotOf_nil i _).mono ?_
    rintro e w' ⟨rfl, hw⟩
    obtain rfl : _ = w' := hw.symm
    go_wp2_with fail
    refine (slotLetter_nil v _).mono ?_
    rintro e w' ⟨rfl, hw⟩
    obtain rfl : _ = w' := hw.symm
    go_wp2_with fail
    refine (slotBits_nil _).mono ?_
    rintro e w' ⟨rfl, hw⟩
    obtain rfl : _ = w' := hw.symm
    go_wp2_with fail
    refine (CK.out _).mono ?_
    rintro e w1 ⟨rfl, hb1⟩
    go_wp2
    go_ret
    exact ⟨rfl, hb1⟩
  · have hT1 : T ≤ 65536 := by rw [h4]; exact Nat.pow_le_pow_right (n := 2) (by decide) h3
    have C1 := Lib.hid (slotMake_ok (m := m) b T h1 h3 h4 hr hL (by omega) h5 h6)
    have C2 := Lib.hid (fun (W : World) (h : Rd W W.heap.size A (zvs l)) => rsCheck_any (m := m) b T h1 h3 h4 h hL (by omega) 0 (.inr ⟨h5, .inr ⟨h6, rfl⟩⟩))
    have C5 := Lib.hid (fun (W : World) (h : Rd W W.heap.size A (zvs l)) => rsOf_any (m := m) i h hL (by omega) (sBad_not h5) (by omega))
    have C6 := Lib.hid (fun (W : World) (h : Rd W W.heap.size A (zvs l)) => rsLetter_any (m := m) v h hL (by omega) (sBad_not h5) (by omega))
    have C3 := Lib.hid (fun (W : World) (P : Nat) (h : IsSlots W P l b T) => slotOf_any i h)
    have C4 := Lib.hid (fun (W : World) (P : Nat) (h : IsSlots W P l b T) => slotLetter_any v h)
    obtain ⟨o, ho⟩ : ∃ o, o = ofR l i := ⟨_, rfl⟩
    obtain ⟨fv, hfv⟩ : ∃ fv, fv = findV (fFind l v) := ⟨_, rfl⟩
    rw [← ho] at C5 C3
    rw [← hfv] at C6 C4
    have hform := findV_form (fFind l v)
    rw [← hfv] at hform
    obtain ⟨x, y, rfl⟩ := hform
    obtain ⟨o1, o2⟩ := o
    simp only at C5 C3
    have HR := Lib.hid hr
    clear hr hL ho hfv h1 h3 h4 h5 h6 hT1
    go_enter Try.func6, Try.ntmps6
    go_wp2_with fail
    refine C1.out.mono ?_
    rintro e w1 ⟨P, rfl, hs1, hb1⟩
    have HS1 := Lib.hid hs1
    have HB1 := Lib.hid hb1
    have HR1 := Lib.hid ((HR.out.below hb1).more hb1.size)
    clear hs1 hb1 C1 HR
    go_wp2_with fail
    refine (C2.out w1 HR1.out).mono ?_
    rintro e w' ⟨rfl, hw⟩
    obtain rfl : _ = w' := hw.symm
    go_wp2_with fail
    refine (C3.out w1 P HS1.out).mono ?_
    rintro e w2 ⟨rfl, hb2⟩
    have HS2 := Lib.hid (HS1.out.grow hb2)
    have HB2 := Lib.hid (HB1.out.trans (hb2.mono HB1.out.size))
    have HR2 := Lib.hid ((HR1.out.below hb2).more hb2.size)
    clear hb2 HS1 HB1 HR1 C2 C3
    go_wp2_with fail
    refine (C4.out w2 P HS2.out).mono ?_
    rintro e w' ⟨rfl, hw⟩
    obtain rfl : _ = w' := hw.symm
    go_wp2_with fail
    refine (C5.out w2 HR2.out).mono ?_
    rintro e w3 ⟨rfl, hb3⟩
    have HS3 := Lib.hid (HS2.out.grow hb3)
    have HB3 := Lib.hid (HB2.out.trans (hb3.mono HB2.out.size))
    have HR3 := Lib.hid ((HR2.out.below hb3).more hb3.size)
    clear hb3 HS2 HB2 HR2 C4 C5
    go_wp2_with fail
    refine (C6.out w3 HR3.out).mono ?_
    rintro e w' ⟨rfl, hw⟩
    obtain rfl : _ = w' := hw.symm
    go_wp2_with fail
    refine (slotBits_any HS3.out).mono ?_
    rintro e w' ⟨rfl, hw⟩
    obtain rfl : _ = w' := hw.symm
    go_wp2_with fail
    refine (CK.out _).mono ?_
    rintro e w4 ⟨rfl, hb4⟩
    have HB4 := Lib.hid (HB3.out.trans (hb4.mono HB3.out.size))
    clear hb4
    go_wp2
    go_ret
    exact ⟨rfl, HB4.out⟩
end Go.Proofs.Ytomgbkakefjilaa
