/- Laws of layer 11: any bytes are undone as the reference says. · Laws of layer 11: of any bytes any recipe makes what the reference says. -/
import Derived.Test.YtcenbaajojdjlaaGreatDoorRecRf4
namespace Go.Proofs.YtcenbaajojdjlaaGreatDoor
open Go.RowKit Go.Shelf

/-- Bytes and an error's number. -/
def Ans (w : World) (S : List UInt8) (E : Int) (e : Ending) (w' : World) : Prop :=
  ∃ A n c, e = .returned (.tuple #[.slice A n c, .int .i64 E]) ∧ Below w.heap.size w w' ∧ IsBytes S (.slice A n c) w'
set_option maxHeartbeats 2000000 in
set_option maxRecDepth 100000 in
theorem recBacks_core (A : Option Addr) (c : Nat) (l : List UInt8) (W n raw : Int) (w : World) (hs : (l.length : Int) ≤ 300) (ht : TabA w) (S : List UInt8) (E : Int)
    (h1 : Calls Tryz.prog 11 #[.slice A l.length c, .int .i64 W, .int .i64 n, .int .i64 raw] w (Ans w S E))
    (h2 : ∀ w', Below w.heap.size w w' → Calls Tryz.prog 12 #[.slice A l.length c, .int .i64 W, .int .i64 n, .int .i64 raw] w' (Ans w' S E)) :
    Calls Tryz.prog 4 #[.slice A l.length c, .int .i64 W, .int .i64 n, .int .i64 raw] w (Yes w) := by
  have C1 := Lib.hid h1
  have C2 := Lib.hid h2
  obtain ⟨mv, hmv⟩ : ∃ mv, mv = mostR raw := ⟨_, rfl⟩
  have c3 := fun (w' : World) => recMost_any raw w'
  rw [← hmv] at c3
  have C3 := Lib.hid c3
  have HMV := Lib.hid hmv
  have HT := Lib.hid ht
  have tail : ∀ (hcase : (0 ≤ raw ∧ raw ≤ 16777216 ∧ mv = 3 * raw + 64) ∨ (raw < 0 ∧ mv = 0) ∨ (0 ≤ raw ∧ 16777216 < raw ∧ mv = 0)), Calls Tryz.prog 4 #[.slice A l.length c, .int .i64 W, .int .i64 n, .int .i64 raw] w (Yes w) := by
    intro hcase
    have HC := Lib.hid hcase
    clear hcase h1 h2 c3 hmv ht
    go_enter Tryz.func4, Tryz.ntmps4
    go_wp2_with fail
    refine C1.out.mono ?_
    rintro e w1 ⟨A1, n1, c1, rfl, hb1, hx⟩
    have HB1 := Lib.hid hb1
    have HX1 := Lib.hid hx
    have C4 := Lib.hid (C2.out w1 hb1)
    clear hb1 hx C1 C2
    go_wp2_with fail
    refine C4.out.mono ?_
    rintro e w2 ⟨A2, n2, c2, rfl, hb2, hy⟩
    have HB2 := Lib.hid (HB1.out.trans (hb2.mono HB1.out.size))
    have HT2 := Lib.hid (HT.out.grow HB2.out)
    have hs1 := str_run S _ _ (HX1.out.grow hb2)
    have hs2 := str_run S _ _ hy
    obtain ⟨Z, hZ⟩ : ∃ Z : ByteArray, Z = ⟨S.toArray⟩ := ⟨_, rfl⟩
    rw [← hZ] at hs1 hs2
    have HS1 := Lib.hid hs1
    have HS2 := Lib.hid hs2
    clear hb2 hy hs1 hs2 hZ C4 HX1
    go_wp2_with fail
    refine (C3.out _).mono ?_
    rintro e w3 ⟨rfl, rfl⟩
    have hs1 := HS1.out
    have hs2 := HS2.out
    rcases HC.out with ⟨h0, h1, h2⟩ | ⟨h0, h2⟩ | ⟨h0, h1, h2⟩
    · subst h2
      go_wp2_with fail
      refine (recKnown_any _ HT2.out).mono ?_
      rintro e w4 ⟨rfl, hb4⟩
      have HB4 := Lib.hid (HB2.out.trans (hb4.mono HB2.out.size))
      clear hb4 hs1 hs2
      go_wp2
      go_ret
      exact ⟨rfl, HB4.out⟩
    · subst h2
      go_wp2_with fail
      refine (recKnown_any _ HT2.out).mono ?_
      rintro e w4 ⟨rfl, hb4⟩
      have HB4 := Lib.hid (HB2.out.trans (hb4.mono HB2.out.size))
      clear hb4 hs1 hs2
      go_wp2
      go_ret
      exact ⟨rfl, HB4.out⟩
    · subst h2
      go_wp2_with fail
      refine (recKnown_any _ HT2.out).mono ?_
      rintro e w4 ⟨rfl, hb4⟩
      have HB4 := Lib.hid (HB2.out.trans (hb4.mono HB2.out.size))
      clear hb4 hs1 hs2
      go_wp2
      go_ret
      exact ⟨rfl, HB4.out⟩
  refine tail ?_
  rw [hmv]
  unfold mostR sizedB
  rcases Int.lt_or_le raw 0 with g | g
  · right; left
    exact ⟨g, by rw [if_neg (by simp; omega)]⟩
  · rcases Int.lt_or_le 16777216 raw with g2 | g2
    · right; right
      exact ⟨g, g2, by rw [if_neg (by simp; omega)]⟩
    · left
      exact ⟨g, g2, by rw [if_pos (by simp; omega)]⟩
theorem may_parts {W n raw : Int} (h : mayB W n raw = true) : ∃ (V m r : Nat), W = (V : Int) ∧ n = (m : Int) ∧ raw = (r : Int) ∧ IsW V ∧ m ≤ 10 ∧ r ≤ 16777216 := by
  unfold mayB sizedB at h
  simp only [Bool.and_eq_true, decide_eq_true_eq] at h
  obtain ⟨⟨⟨h1, h2⟩, h3⟩, h4, h5⟩ := h
  obtain ⟨V, rfl, hV⟩ := isW_of h1
  obtain ⟨m, rfl⟩ := Int.eq_ofNat_of_zero_le h2
  obtain ⟨r, rfl⟩ := Int.eq_ofNat_of_zero_le h4
  exact ⟨V, m, r, rfl, rfl, rfl, hV, by omega, by omega⟩
theorem recBacks_law (A : Option Addr) (n0 c : Nat) (l : List UInt8) (W n raw : Int) (w : World) (hr : Rd w w.heap.size A (bvs l)) (hn : l.length = n0) (hnc : n0 ≤ c) (ht : TabA w) :
    Calls Tryz.prog 4 #[.slice A n0 c, .int .i64 W, .int .i64 n, .int .i64 raw] w (Yes w) := by
  subst hn
  have hb : IsBytes l (.slice A l.length c) w := ⟨A, c, rfl, hnc, hr⟩
  by_cases hs : (l.length : Int) ≤ 300
  · cases hm : mayB W n raw with
    | true =>
      obtain ⟨V, m, r, rfl, rfl, rfl, hV, hm10, hr24⟩ := may_parts hm
      exact recBacks_core A c l _ _ _ w hs ht _ _ (back_right hV m hm10 r hr24 l _ w hb (.inr (by omega))) (fun w' hb' => rBack_right hV m hm10 r hr24 l _ w' (hb.grow hb') (by omega))
    | false =>
      refine recBacks_core A c l _ _ _ w hs ht [] 2 ((back_not W n raw l _ w hb hm).mono ?_) (fun w' hb' => (rBack_not W n raw _ w' hm).mono ?_)
      · rintro e w' ⟨rfl, hb'⟩
        exact ⟨_, _, _, rfl, hb', nil_bytes _⟩
      · rintro e w'' ⟨rfl, rfl⟩
        exact ⟨_, _, _, rfl, Below.refl _ _, nil_bytes _⟩
  · have HT := Lib.hid ht
    clear hr ht hb
    go_enter Tryz.func4, Tryz.ntmps4
    go_wp2_with (go_at_call 5; go_must (refine (recKnown_any _ HT.out).mono ?_; rintro e w' ⟨rfl, hb⟩))
    go_ret
    exact ⟨rfl, hb⟩
end Go.Proofs.YtcenbaajojdjlaaGreatDoor
namespace Go.Proofs.YtcenbaajojdjlaaGreatDoor
open Go.RowKit Go.Shelf

def GoesRel (w : World) (n : Nat) (i : Value) (wr : World) : Prop := ∃ k q : Nat, k ≤ n ∧ i = .int .i64 k ∧ wr = w.drewN q
/-- Bytes of which P speaks, and an error's number. -/
def AnsP (w : World) (P : List UInt8 → Prop) (E : Int) (e : Ending) (w' : World) : Prop :=
  ∃ S A n c, P S ∧ e = .returned (.tuple #[.slice A n c, .int .i64 E]) ∧ Below w.heap.size w w' ∧ IsBytes S (.slice A n c) w'
set_option maxHeartbeats 4000000 in
set_option maxRecDepth 100000 in
theorem recGoes_core (A : Option Addr) (c : Nat) (l : List UInt8) (W n : Int) (w : World) (hs : (l.length : Int) ≤ 300) (ht : TabA w) (P : List UInt8 → Prop) (E : Int)
    (hu : ∀ S S', P S → P S' → S = S') (hl : ∀ S, P S → S.length ≤ 3 * l.length + 64)
    (h1 : Calls Tryz.prog 6 #[.slice A l.length c, .int .i64 W, .int .i64 n] w (AnsP w P E))
    (h2 : ∀ w', Below w.heap.size w w' → Calls Tryz.prog 7 #[.slice A l.length c, .int .i64 W, .int .i64 n] w' (AnsP w' P E)) :
    Calls Tryz.prog 3 #[.slice A l.length c, .int .i64 W, .int .i64 n] w (Yes w) := by
  have C1 := Lib.hid h1
  have C2 := Lib.hid h2
  have C3 := Lib.hid (fun (w' : World) => steps_any n w')
  have C4 := Lib.hid (fun (w' : World) => rSteps_any n w')
  have hmv : mostR (l.length : Int) = 3 * (l.length : Int) + 64 := by
    unfold mostR sizedB
    rw [if_pos (by simp; omega)]
  have c5 := fun (w' : World) => recMost_any (l.length : Int) w'
  rw [hmv] at c5
  have C5 := Lib.hid c5
  have HT := Lib.hid ht
  have HU := Lib.hid hu
  have HLE := Lib.hid hl
  obtain ⟨L, hL⟩ : ∃ L, L = stepsI n := ⟨_, rfl⟩
  have hl4 : L.length ≤ 4 := by
    rw [hL]
    unfold stepsI
    split
    · exact steps_len _
    · simp
  rw [← hL] at C3 C4
  clear h1 h2 hmv c5 ht hu hl hL
  go_enter Tryz.func3, Tryz.ntmps3
  go_wp2_with fail
  refine C1.out.mono ?_
  rintro e w1 ⟨S, A1, n1, c1, hp, rfl, hb1, hx⟩
  have HB1 := Lib.hid hb1
  have HX1 := Lib.hid hx
  have HP := Lib.hid hp
  have C6 := Lib.hid (C2.out w1 hb1)
  clear hb1 hx hp C1 C2
  go_wp2_with fail
  refine C6.out.mono ?_
  rintro e w2 ⟨S', A2, n2, c2, hp, rfl, hb2, hy⟩
  obtain rfl := HU.out S S' HP.out hp
  have HB2 := Lib.hid (HB1.out.trans (hb2.mono HB1.out.size))
  have HX2 := Lib.hid (HX1.out.grow hb2)
  have HY2 := Lib.hid hy
  clear hb2 hy hp C6 HX1 HB1 HU
  go_wp2_with fail
  refine (C3.out _).mono ?_
  rintro e w3 ⟨v3, rfl, h3, hb3⟩
  have HB3 := Lib.hid (HB2.out.trans (hb3.mono HB2.out.size))
  have HX3 := Lib.hid (HX2.out.grow hb3)
  have HY3 := Lib.hid (HY2.out.grow hb3)
  have HL3 := Lib.hid h3
  obtain ⟨A3, c3, rfl, -, -⟩ := h3
  clear hb3 C3 HB2 HX2 HY2
  go_wp2_with fail
  refine (C4.out _).mono ?_
  rintro e w4 ⟨v4, rfl, h4, hb4⟩
  have HB4 := Lib.hid (HB3.out.trans (hb4.mono HB3.out.size))
  have HX4 := Lib.hid (HX3.out.grow hb4)
  have HY4 := Lib.hid (HY3.out.grow hb4)
  have HL4 := Lib.hid (HL3.out.grow hb4)
  obtain ⟨A5, c5, he5, -, hr5⟩ := HL4.out
  injection he5 with e1 e2 e3
  subst e1 e3
  obtain ⟨A4, c4, rfl, -, hr4⟩ := h4
  rw [nvs_length]
  clear e2 hb4 C4 HB3 HX3 HY3 HL3 HL4
  go_wp2
  go_loopw [13] (GoesRel w4 L.length) (fun i _ => L.length - (intOf i).toNat)
  case atStart => exact ⟨0, 0, Nat.zero_le _, rfl, rfl⟩
  case round =>
    obtain ⟨k, q, hk, rfl, rfl⟩ := hrel
    by_cases hlt : k < L.length
    · obtain ⟨s, hsk⟩ : ∃ s, L[k]? = some s := ⟨L[k], List.getElem?_eq_getElem hlt⟩
      obtain ⟨ab, ao, rfl, _, hcell⟩ := hr5 k _ (nvs_get L k s hsk)
      obtain ⟨bb, bo, rfl, _, hcell2⟩ := hr4 k _ (nvs_get L k s hsk)
      have hk1 : (k : Int) < (L.length : Int) := by omega
      clear hsk hr5 hr4
      go_wp2
      go_quiet (fail)
      go_wp2
      go_roundw
      case rel => exact ⟨k + 1, q + nq, by omega, by go_num, rfl⟩
      case measure => simp [intOf]; omega
    · obtain rfl : k = L.length := by omega
      have hbq : Below w.heap.size w (w4.drewN q) := below_drewN HB4.out q
      have HBQ := Lib.hid hbq
      have hbd : Below w4.heap.size w4 (w4.drewN q) := below_drewN (Below.refl _ _) q
      have hs1 := str_run S _ _ (HX4.out.grow hbd)
      have hs2 := str_run S _ _ (HY4.out.grow hbd)
      obtain ⟨Z, hZ⟩ : ∃ Z : ByteArray, Z = ⟨S.toArray⟩ := ⟨_, rfl⟩
      rw [← hZ] at hs1 hs2
      have HTQ := Lib.hid (HT.out.grow hbq)
      obtain ⟨A6, c6, he6, -, -⟩ := HX4.out
      injection he6 with e1 e2 e3
      subst e1 e2 e3
      have hle := HLE.out S HP.out
      have hlei : (S.length : Int) ≤ 3 * (l.length : Int) + 64 := by omega
      clear hbq hbd hZ hr4 hr5 hle HX4 HY4 HT HLE HP
      go_wp2_with fail
      refine (C5.out _).mono ?_
      rintro e w5 ⟨rfl, rfl⟩
      clear hs1 hs2
      go_wp2_with fail
      refine (recKnown_any _ HTQ.out).mono ?_
      rintro e w6 ⟨rfl, hb6⟩
      have HB6 := Lib.hid (HBQ.out.trans (hb6.mono HBQ.out.size))
      clear hb6
      go_wp2
      go_ret
      exact ⟨rfl, HB6.out⟩
theorem recGoes_law (A : Option Addr) (n0 c : Nat) (l : List UInt8) (W n : Int) (w : World) (hr : Rd w w.heap.size A (bvs l)) (hn : l.length = n0) (hnc : n0 ≤ c) (ht : TabA w) :
    Calls Tryz.prog 3 #[.slice A n0 c, .int .i64 W, .int .i64 n] w (Yes w) := by
  subst hn
  have hb : IsBytes l (.slice A l.length c) w := ⟨A, c, rfl, hnc, hr⟩
  by_cases hs : (l.length : Int) ≤ 300
  · cases hm : mayB W n (l.length : Int) with
    | true =>
      obtain ⟨V, m, r, rfl, rfl, -, hV, hm10, -⟩ := may_parts hm
      refine recGoes_core A c l _ _ w hs ht (fun S => goR V (stepsL m) l S) 0 (fun S S' h h' => goR_unique h h') (fun S h => goR_few hV _ _ _ (steps_all m) (steps_drop m) h)
        ((go_right hV m hm10 l _ w hb (by omega) ht).mono ?_) (fun w' hb' => (rGo_right hV m hm10 l _ w' (hb.grow hb') (by omega)).mono ?_)
      · rintro e w' ⟨S, u, hg, rfl, hu, hb'⟩
        have hu2 := hu
        obtain ⟨A1, c1, rfl, -, -⟩ := hu
        exact ⟨S, _, _, _, hg, rfl, hb', hu2⟩
      · rintro e w'' ⟨S, u, hg, rfl, hu, hb''⟩
        have hu2 := hu
        obtain ⟨A1, c1, rfl, -, -⟩ := hu
        exact ⟨S, _, _, _, hg, rfl, hb'', hu2⟩
    | false =>
      have hk : knownB W n = false := by rw [← may_known W n (l.length : Int) ⟨by omega, by omega⟩]; exact hm
      refine recGoes_core A c l _ _ w hs ht (fun S => S = []) 2 (fun S S' h h' => h.trans h'.symm) (fun S h => by rw [h]; simp)
        ((go_not W n l _ w hb hm).mono ?_) (fun w' hb' => (rGo_not W n _ w' hk).mono ?_)
      · rintro e w' ⟨rfl, rfl⟩
        exact ⟨[], _, _, _, rfl, rfl, Below.refl _ _, nil_bytes _⟩
      · rintro e w'' ⟨rfl, rfl⟩
        exact ⟨[], _, _, _, rfl, rfl, Below.refl _ _, nil_bytes _⟩
  · have HT := Lib.hid ht
    clear hr ht hb
    go_enter Tryz.func3, Tryz.ntmps3
    go_wp2_with (go_at_call 5; go_must (refine (recKnown_any _ HT.out).mono ?_; rintro e w' ⟨rfl, hb⟩))
    go_ret
    exact ⟨rfl, hb⟩
end Go.Proofs.YtcenbaajojdjlaaGreatDoor
