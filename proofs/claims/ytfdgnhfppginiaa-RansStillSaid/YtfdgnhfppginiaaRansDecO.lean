/- Layer 18: the program's decoder: out. -/
import Derived.Test.YtfdgnhfppginiaaRansDecP
namespace Go.Proofs.Ytfdgnhfppginiaa
open Go.RowKit Go.Sort

theorem fill_range : ∀ (S : List UInt8) (x x' : Nat) (S' : List UInt8), fill x S = some (x', S') → 8388608 ≤ x' ∧ (x < 2147483648 → x' < 2147483648)
  | [], x, x', S', h => by
    unfold fill at h
    split at h
    · injection h with h; injection h with h1 h2; subst h1; exact ⟨by assumption, id⟩
    · cases h
  | b :: S, x, x', S', h => by
    by_cases hx : 8388608 ≤ x
    · rw [fill_stop _ hx] at h
      injection h with h; injection h with h1 h2; subst h1; exact ⟨hx, id⟩
    · rw [fill_next b S (by omega)] at h
      obtain ⟨h1, h2⟩ := fill_range S _ _ _ h
      exact ⟨h1, fun _ => h2 (by have := b.toNat_lt; omega)⟩
/-- How many takes are left, as the world has it. -/
def decM (w : World) (D : Nat) : Nat := match w.cell? ⟨D, 1, none⟩, w.cell? ⟨D, 2, none⟩ with
  | some (.slice _ n _), some (.bool sh) => n + if sh then 0 else 1
  | _, _ => 0
theorem DecS.m {w : World} {D K x : Nat} {S : List UInt8} {sh : Bool} (h : DecS w D K x S sh) : decM w D = S.length + if sh then 0 else 1 := by
  obtain ⟨A, n, m, hb, -, hn, -⟩ := h
  have h1 := hb.cell 1
  have h2 := hb.cell 2
  simp only [List.getElem?_cons_zero, List.getElem?_cons_succ] at h1 h2
  unfold decM
  rw [h1, h2, hn]
theorem blk_ne18 {w : World} {g g' : Nat} {t t' : TypeId} {cs cs' : List Value} (h : Blk w g t cs) (h' : Blk w g' t' cs') (hne : t ≠ t') : g ≠ g' := fun e => by
  subst e
  exact h.ofType.ne hne h'.ofType
theorem IsSlots.turn {w w' : World} {P b T D K x : Nat} {c : List Int} {S : List UInt8} {sh : Bool} (h : IsSlots w P c b T) (hd : DecS w D K x S sh) (ht : TurnsB D D w w') : IsSlots w' P c b T := by
  obtain ⟨⟨F, H, h1⟩, h2⟩ := h
  obtain ⟨A, n, m, hb, -⟩ := hd
  have k1 := blk_ne18 h1.pb hb (by decide)
  have k2 := blk_ne18 h1.fb hb (by decide)
  have k3 := blk_ne18 h1.hb hb (by decide)
  exact ⟨⟨F, H, ht.blk h1.pb k1 k1, ht.blk h1.fb k2 k2, ht.blk h1.hb k3 k3⟩, h2⟩
/-- What out leaves of the decoder. -/
def OutD (w : World) (D K : Nat) : Option (Nat × List UInt8) → Prop
  | some p => DecS w D K p.1 p.2 false
  | none => ∃ x S, DecS w D K x S true
/-- What holds at the head of a round of out. -/
def OuRel (w : World) (D K : Nat) (R : Option (Nat × List UInt8)) (wr : World) : Prop :=
  ∃ (x1 : Nat) (S1 : List UInt8) (sh : Bool), ((sh = false ∧ fill x1 S1 = R) ∨ (sh = true ∧ R = none ∧ x1 < 8388608)) ∧ x1 < 2147483648 ∧ DecS wr D K x1 S1 sh ∧ TurnsB D D w wr
/-- The letter that comes out. -/
theorem letOf_is {w : World} {P : Nat} {r : List Int} (h : IsSlots w P r 12 4096) (x : Nat) : fFind r ((x % 4096 : Nat) : Int) = some (letOf r x) ∧ letOf r x < r.length ∧ fPre r (letOf r x) ≤ ((x % 4096 : Nat) : Int) := by
  obtain ⟨-, hnn, hs, -, -⟩ := h
  obtain ⟨k, h1, h2, h3, -⟩ := fFind_all hnn (v := ((x % 4096 : Nat) : Int)) (by omega) (by rw [hs]; omega)
  have e : letOf r x = k := by unfold letOf; rw [h1]; rfl
  rw [e]
  exact ⟨h1, h2, h3⟩
set_option maxHeartbeats 4000000 in
set_option maxRecDepth 100000 in
theorem ransOut_any {w : World} {D K x P : Nat} {S : List UInt8} {r : List Int} (h : DecS w D K x S false) (hx : x < 2147483648) (hs : IsSlots w P r 12 4096) (hl : r.length = 256) :
    Calls Try.prog 81 #[.pointer (some ⟨D, 0, none⟩), .pointer (some ⟨P, 0, none⟩)] w fun e w' => e = .returned (.int .u8 (letOf r x : Int)) ∧ OutD w' D K (fill (outY r x) S) ∧ TurnsB D D w w' ∧ outY r x < 2147483648 := by
  obtain ⟨l1, l2, l3⟩ := letOf_is hs x
  have hnn := hs.2.1
  have hsum := hs.2.2.1
  have C1 := Lib.hid (slotLetter_any ((x % 4096 : Nat) : Int) hs)
  rw [l1] at C1
  have C2 := Lib.hid (slotOf_at (letOf r x) hs l2)
  have hp0 := fPre_nn hnn (letOf r x)
  have hg0 : 0 ≤ r[letOf r x] := hnn _ (List.getElem_mem l2)
  have hgm : r[letOf r x] ≤ 4096 := by have := le_sum12 hnn l2; omega
  have hrb : r.getD (letOf r x) 0 = r[letOf r x] := by simp [List.getD_eq_getElem?_getD, l2]
  have hoy : outY r x = (r.getD (letOf r x) 0).toNat * (x / 4096) + x % 4096 - (fPre r (letOf r x)).toNat := rfl
  obtain ⟨k, hk⟩ : ∃ k, k = letOf r x := ⟨_, rfl⟩
  obtain ⟨f, hf⟩ : ∃ f, f = (fPre r k).toNat := ⟨_, rfl⟩
  obtain ⟨s, hsv⟩ : ∃ s, s = (r.getD k 0).toNat := ⟨_, rfl⟩
  obtain ⟨v, hv⟩ : ∃ v, v = x % 4096 := ⟨_, rfl⟩
  obtain ⟨q, hq⟩ : ∃ q, q = x / 4096 := ⟨_, rfl⟩
  obtain ⟨Y, hY⟩ : ∃ Y, Y = outY r x := ⟨_, rfl⟩
  simp only [← hk] at C1 C2 hp0 hg0 hgm hrb hoy l2 l3 ⊢
  have hfi : fPre r k = (f : Int) := by omega
  have hsi : r[k] = (s : Int) := by rw [hsv, hrb]; omega
  rw [hfi, hsi] at C2
  rw [← hsv, ← hf, ← hv, ← hq] at hoy
  rw [← hv] at C1 l3
  have hfv : f ≤ v := by omega
  have hq5 : q < 524288 := by omega
  have hs4 : s ≤ 4096 := by omega
  have hqs : s * q ≤ 4096 * 524287 := Nat.mul_le_mul hs4 (by omega)
  obtain ⟨a, ha⟩ : ∃ a, a = s * q := ⟨_, rfl⟩
  rw [← ha] at hqs hoy
  have hYe : Y = a + v - f := by rw [hY, hoy]
  have hY31 : Y < 2147483648 := by omega
  have hk256 : k < 256 := by omega
  have e1 : (x : Int) % 4096 = (v : Int) := by omega
  have e1t : (x : Int).tmod 4096 = (v : Int) := by rw [Int.tmod_eq_emod_of_nonneg (by omega)]; exact e1
  have e2 : (x : Int) / 4096 = (q : Int) := by omega
  have e3 : IntKind.i64.wrap ((q : Int) * (s : Int)) = (a : Int) := by
    have e : (q : Int) * (s : Int) = (a : Int) := by rw [ha, Int.natCast_mul, Int.mul_comm]
    rw [e, IntKind.wrap_i64]; omega
  have e4 : IntKind.i64.wrap ((a : Int) + (v : Int)) = (a : Int) + (v : Int) := by rw [IntKind.wrap_i64]; omega
  have e5 : wrap64 ((a : Int) + (v : Int) - (f : Int)) = (Y : Int) := by rw [IntWalk.wrap64_in _ (by omega)]; omega
  have e6 : IntKind.u8.wrap (k : Int) = (k : Int) := by rw [IntKind.wrap_u8]; omega
  have eq0 : IntKind.i64.wrap (q : Int) = (q : Int) := by rw [IntKind.wrap_i64]; omega
  rw [← hY]
  obtain ⟨R, hR⟩ : ∃ R, R = fill Y S := ⟨_, rfl⟩
  rw [← hR]
  have HH := Lib.hid h
  have HR := Lib.hid (And.intro hR (And.intro hY31 (show TurnsB D D w w from TurnsB.refl _ _ _)))
  have HE := Lib.hid (And.intro e2 (And.intro e3 (And.intro e4 (And.intro e5 eq0))))
  have HE6 := Lib.hid e6
  obtain ⟨A, n, m, hb, -⟩ := h
  have hc0 := hb.cell 0
  have hDs := hb.lt
  simp only [List.getElem?_cons_zero] at hc0
  unfold findV at C1
  simp only at C1
  clear hs l1 l2 l3 hnn hsum hp0 hg0 hgm hrb hoy hk hf hsv hv hq hY hfi hsi hfv hq5 hs4 hqs ha hYe hb e2 e3 e4 e5 e6 eq0 hR hY31
  go_enter Try.func81, Try.ntmps81
  go_wp2_with fail
  refine C1.out.mono ?_
  rintro _ w0 ⟨rfl, hw0⟩
  subst w0
  go_wp2_with fail
  refine C2.out.mono ?_
  rintro _ w2 ⟨rfl, hb2⟩
  have hd2 := HH.out.below hb2
  obtain ⟨A2, n2, m2, hbl2, -⟩ := id hd2
  have hc0 := hbl2.cell 0
  have hf0 := hbl2.frozen 0
  have hDs2 := hbl2.lt
  simp only [List.getElem?_cons_zero] at hc0
  obtain ⟨g2, g3, g4, g5, g0⟩ := HE.out
  obtain ⟨hd3, ht3⟩ := hd2.setX Y
  have HREL := Lib.hid (show OuRel w D K R (w2.setCell ⟨D, 0, none⟩ (.int .i64 (Y : Int))) from ⟨Y, S, false, .inl ⟨rfl, HR.out.1.symm⟩, HR.out.2.1, hd3, (TurnsB.of_below hb2).trans ht3⟩)
  clear hd2 hbl2 hb2 hd3 ht3 C1 C2 HH HE
  go_wp2
  clear g2 g3 g4 g5 g0 hc0 hf0 e1 e1t
  go_loopw [] (OuRel w D K R) (fun wr => decM wr D)
  case atStart => exact HREL.out
  case round =>
    clear HREL
    obtain ⟨x1, S1, sh, hcase, hx1, hd, ht⟩ := hrel
    have hm := hd.m
    obtain ⟨A3, n3, m3, hbl3, -⟩ := id hd
    have hc0 := hbl3.cell 0
    have hc2 := hbl3.cell 2
    have hDs3 := hbl3.lt
    simp only [List.getElem?_cons_zero, List.getElem?_cons_succ] at hc0 hc2
    have HT := Lib.hid ht
    have HM := Lib.hid hm
    have HD := Lib.hid hd
    clear hbl3 hm ht
    by_cases hlt : x1 < 8388608
    · have hli : (x1 : Int) < 8388608 := by omega
      cases sh with
      | false =>
        have hfl : fill x1 S1 = R := by
          rcases hcase with ⟨-, h⟩ | ⟨h, -⟩
          · exact h
          · cases h
        have C := Lib.hid (ransTake_any hd (by omega))
        have HF := Lib.hid hfl
        clear hcase hfl hd
        go_wp2_with fail
        refine C.out.mono ?_
        rintro _ w5 ⟨rfl, hd5, ht5⟩
        have hm5 := hd5.m
        have HT5 := Lib.hid (HT.out.trans ht5)
        clear C ht5 hc0 hc2
        cases S1 with
        | nil =>
          have hR : R = none := by rw [← HF.out]; exact fill_none hlt
          have HD5 := Lib.hid hd5
          have HM5 := Lib.hid hm5
          clear hd5 hm5
          go_wp2
          go_roundw
          case rel => exact ⟨x1, [], true, .inr ⟨rfl, hR, hlt⟩, hx1, HD5.out, HT5.out⟩
          case measure => rw [HM5.out, HM.out]; simp [tkS]
        | cons b T =>
          have hR : fill (256 * x1 + b.toNat) T = R := by rw [← HF.out]; exact (fill_next b T hlt).symm
          have hb8 := b.toNat_lt
          have HD5 := Lib.hid hd5
          have HM5 := Lib.hid hm5
          have hx2 : 256 * x1 + b.toNat < 2147483648 := by omega
          clear hd5 hm5
          go_wp2
          go_roundw
          case rel => exact ⟨256 * x1 + b.toNat, T, false, .inl ⟨rfl, hR⟩, hx2, HD5.out, HT5.out⟩
          case measure => rw [HM5.out, HM.out]; simp [tkS]
      | true =>
        have hRn : R = none := by
          rcases hcase with ⟨h, -⟩ | ⟨-, h, -⟩
          · cases h
          · exact h
        clear hcase hd
        have e6 := HE6.out
        go_wp2
        go_ret
        exact ⟨rfl, ⟨_, _, HD.out⟩, HT.out, HR.out.2.1⟩
    · have hli : ¬ (x1 : Int) < 8388608 := by omega
      have hlib : decide ((x1 : Int) < 8388608) = false := by simp; omega
      have hfl : sh = false ∧ fill x1 S1 = R := by
        rcases hcase with h | ⟨-, -, h⟩
        · exact h
        · exact absurd h hlt
      obtain ⟨rfl, hfl⟩ := hfl
      have hRs : R = some (x1, S1) := by rw [← hfl]; exact fill_stop _ (by omega)
      clear hcase hd hfl
      have e6 := HE6.out
      go_wp2
      go_ret
      exact ⟨rfl, HD.out, HT.out, HR.out.2.1⟩
end Go.Proofs.Ytfdgnhfppginiaa
