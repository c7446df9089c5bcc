/- Contracts of bit.Reader, its state told by plain functions: Get, Ones, Done. · Layer 1: Get of a Reader whose row of bytes is known: a store into another row keeps it. Written by gen_rdra.py out of BitD's text. -/
import Derived.Test.YtjncmfoommlldaaBitD
import Derived.Test.YtjncmfoommlldaaBitSt
namespace Go.Proofs.Ytjncmfoommlldaa
open Go.RowKit

theorem rGet_st (g n : Nat) (s : List Bool × Nat) (w : World) (h : RdrIs w g s.1 s.2) (hn : n ≤ 64) :
    Calls Try.prog 40 #[.pointer (some ⟨g, 0, none⟩), .int .i64 (n : Int)] w fun e' w' => e' = .returned (.int .u64 (getV s n : Nat)) ∧ RdrIs w' g (getS s n).1 (getS s n).2 ∧ OnlyT g [67] w w' := by
  obtain ⟨L, e⟩ := s
  unfold getV getS
  simp only at h ⊢
  by_cases he : e = 0
  · subst he
    by_cases hl : n ≤ L.length
    · rw [if_pos ⟨rfl, hl⟩, if_pos rfl, if_pos hl]
      exact rGet_ok n h hn hl
    · rw [if_neg (fun q => hl q.2), if_pos rfl, if_neg hl]
      exact rGet_trunc n h hn (Nat.lt_of_not_le hl)
  · rw [if_neg (fun q => he q.1), if_neg he]
    refine (rGet_err (n : Int) e h he).mono ?_
    rintro e' w' ⟨rfl, rfl⟩
    exact ⟨rfl, h, OnlyT.refl _ _ _⟩
theorem rDone_st (g : Nat) (s : List Bool × Nat) (w : World) (h : RdrIs w g s.1 s.2) (hl : s.1.length ≤ 9000000000000000) :
    Calls Try.prog 23 #[.pointer (some ⟨g, 0, none⟩)] w fun e' w' => e' = .returned (.int .i64 (doneE s : Nat)) ∧ OnlyT g [67] w w' := by
  obtain ⟨L, e⟩ := s
  unfold doneE
  simp only at h hl ⊢
  by_cases he : e = 0
  · subst he
    rw [if_neg (by simp)]
    by_cases h8 : 8 ≤ L.length
    · rw [if_pos h8]
      refine (rDone_more h h8 hl).mono ?_
      rintro e' w' ⟨rfl, rfl⟩
      exact ⟨rfl, (OnlyT.refl _ _ _).drew⟩
    · rw [if_neg h8]
      by_cases ha : L.any id = true
      · rw [if_pos ha]
        obtain ⟨n, R, hL⟩ := any_split L ha
        have hlen := congrArg List.length hL
        simp at hlen
        refine (rDone_pay n R h (by omega) hL).mono ?_
        rintro e' w' ⟨rfl, rfl⟩
        exact ⟨rfl, (OnlyT.refl _ _ _).drew⟩
      · rw [if_neg ha]
        refine (rDone_ok L.length h (by omega) (any_none L ha)).mono ?_
        rintro e' w' ⟨rfl, rfl⟩
        exact ⟨rfl, (OnlyT.refl _ _ _).drew⟩
  · rw [if_pos he]
    refine (rDone_err e h he).mono ?_
    rintro e' w' ⟨rfl, rfl⟩
    exact ⟨rfl, OnlyT.refl _ _ _⟩
end Go.Proofs.Ytjncmfoommlldaa
namespace Go.Proofs.Ytjncmfoommlldaa
open Go.RowKit

/-- A Reader at g that reads just the row A of the bytes bs. -/
def RdrA (w : World) (g : Nat) (A : Option Addr) (c : Nat) (bs : List UInt8) (L : List Bool) (e : Nat) : Prop :=
  ∃ at_ : Nat, Blk w g 67 [.slice A bs.length c, .int .i64 at_, .int .i64 e] ∧ RdT w 5 A (bvs bs) ∧ at_ ≤ 8 * bs.length ∧ bs.length ≤ 140737488355000 ∧ bs.length ≤ c ∧ L = (allBits bs).drop at_
theorem RdrA.is {w : World} {g : Nat} {A : Option Addr} {c : Nat} {bs : List UInt8} {L : List Bool} {e : Nat} (h : RdrA w g A c bs L e) : RdrIs w g L e := by
  obtain ⟨at_, h⟩ := h
  exact ⟨bs, at_, A, c, h⟩
theorem RdrIs.at_ {w : World} {g : Nat} {L : List Bool} {e : Nat} (h : RdrIs w g L e) : ∃ A c bs, RdrA w g A c bs L e := by
  obtain ⟨bs, at_, A, c, h⟩ := h
  exact ⟨A, c, bs, at_, h⟩
theorem RdrA.only {B : Nat} {ts : List TypeId} {w w' : World} {g : Nat} {A : Option Addr} {c : Nat} {bs : List UInt8} {L : List Bool} {e : Nat} (h : RdrA w g A c bs L e) (ho : OnlyT B ts w w') (h1 : 67 ∉ ts) (h2 : 5 ∉ ts) : RdrA w' g A c bs L e := by
  obtain ⟨at_, hb, hr, rest⟩ := h
  exact ⟨at_, hb.only ho h1, hr.only ho h2, rest⟩
/-- The row's place, if there is a byte: below the blocks of now. -/
theorem RdrA.row {w : World} {g : Nat} {A : Option Addr} {c : Nat} {bs : List UInt8} {L : List Bool} {e : Nat} (h : RdrA w g A c bs L e) : bs = [] ∨ ∃ b off, A = some ⟨b, off, none⟩ ∧ b < w.heap.size := by
  obtain ⟨at_, hb, hr, rest⟩ := h
  cases bs with
  | nil => exact .inl rfl
  | cons x t =>
    obtain ⟨b, off, e1, e2, e3⟩ := hr 0 (.int .u8 (x.toNat : Int)) (by simp [bvs])
    exact .inr ⟨b, off, e1, e2.lt⟩
/-- A store into another row of bytes. -/
theorem RdrA.setOther {w : World} {g r i : Nat} {A : Option Addr} {c : Nat} {bs : List UInt8} {L : List Bool} {e : Nat} (h : RdrA w g A c bs L e) (hr : bs = [] ∨ ∃ b off, A = some ⟨b, off, none⟩ ∧ b ≠ r) (hg : g ≠ r) (u : Value) : RdrA (w.setCell ⟨r, i, none⟩ u) g A c bs L e := by
  obtain ⟨at_, hb, hrd, rest⟩ := h
  refine ⟨at_, hb.setOther ⟨r, i, none⟩ u (by simpa using hg), ?_, rest⟩
  rcases hr with rfl | ⟨b, off, rfl, hb2⟩
  · intro k u hu; simp [bvs] at hu
  · intro k v hv
    obtain ⟨b', off', e1, e2, e3⟩ := hrd k v hv
    injection e1 with e1
    injection e1 with e1 e4
    subst e1 e4
    have hh := Below.heap_setCell w ⟨r, i, none⟩ u b (by simpa using hb2)
    refine ⟨b, off, rfl, ?_, (World.cell?_of_block (w := w) (a := ⟨b, off + k, none⟩) hh).trans e3⟩
    obtain ⟨cs', fr, h2⟩ := e2
    exact ⟨cs', fr, hh.trans h2⟩
section
variable {w : World} {g c : Nat} {A : Option Addr} {bs : List UInt8} {L : List Bool}
set_option maxHeartbeats 1000000 in
theorem aGet_err (n : Int) (e : Nat) (h : RdrA w g A c bs L e) (he : e ≠ 0) : Calls Try.prog 40 #[.pointer (some ⟨g, 0, none⟩), .int .i64 n] w fun e' w' => e' = .returned (.int .u64 0) ∧ w = w' := by
  obtain ⟨at_, hb, hr, ha, hl, hlc, rfl⟩ := h
  have HB := Lib.hid hb
  have hne : (((e : Nat) : Int) != 0) = true := by rw [bne_iff_ne]; omega
  clear hb hr he
  go_enter Try.func40, Try.ntmps40
  go_wp2_with (go_at_call 43; go_must (refine (rErr_any _ _ _ HB.out).mono ?_; rintro e w' ⟨rfl, rfl⟩))
  go_ret
  exact ⟨rfl, rfl⟩
set_option maxHeartbeats 1000000 in
theorem aGet_trunc (n : Nat) (h : RdrA w g A c bs L 0) (hn : n ≤ 64) (hL1 : L.length < n) :
    Calls Try.prog 40 #[.pointer (some ⟨g, 0, none⟩), .int .i64 n] w fun e' w' => e' = .returned (.int .u64 0) ∧ RdrA w' g A c bs L 11 ∧ OnlyT g [67] w w' := by
  obtain ⟨at_, hb, hr, ha, hl, hlc, hL⟩ := h
  have hL2 : 8 * bs.length - at_ < n := by rw [hL, drop_len] at hL1; exact hL1
  have HB := Lib.hid hb
  have HR := Lib.hid hr
  have HL := Lib.hid hL
  have HL2 := Lib.hid hL2
  clear hb hr hL hL1 hL2
  go_enter Try.func40, Try.ntmps40
  go_wp2_with (first
    | (go_at_call 43; go_must (refine (rErr_any _ _ _ HB.out).mono ?_; rintro e w' ⟨rfl, rfl⟩))
    | (go_at_call 41; go_must (refine (rLeft_ok HB.out hl ha).mono ?_; rintro e w' ⟨rfl, rfl⟩))
    | (go_at_call 54; refine (within_ok _ _ _ _ _ (by omega) (by omega)).mono ?_; rintro e w' ⟨rfl, rfl⟩)
    | (go_at_call 54; go_must (refine (within_bad (w := w.drew) _ _ _ _ _ HB.out (by have := HL2.out; omega)).mono ?_; rintro e w' ⟨rfl, rfl⟩)))
  go_ret
  have ho : OnlyT g [67] w (w.setCell ⟨g, 2, none⟩ (.int .i64 11)) := OnlyT.set_ HB.out (Nat.le_refl _) _ (by simp)
  exact ⟨rfl, ⟨at_, HB.out.set_ 2 _, HR.out.only ho.drew (by decide), ha, hl, hlc, HL.out⟩, ho.drew⟩

set_option maxHeartbeats 1000000 in
set_option maxRecDepth 100000 in
theorem aGet_ok (n : Nat) (h : RdrA w g A c bs L 0) (hn : n ≤ 64) (hL1 : n ≤ L.length) :
    Calls Try.prog 40 #[.pointer (some ⟨g, 0, none⟩), .int .i64 n] w fun e' w' => e' = .returned (.int .u64 (valOf (L.take n))) ∧ RdrA w' g A c bs (L.drop n) 0 ∧ OnlyT g [67] w w' := by
  obtain ⟨at_, hb, hr, ha, hl, hlc, hL⟩ := h
  have hL2 : n ≤ 8 * bs.length - at_ := by rw [hL, drop_len] at hL1; exact hL1
  have hc1 := hb.cell 1
  simp only [List.getElem?_cons_zero, List.getElem?_cons_succ] at hc1
  have hf1 := hb.frozen 1
  have HB := Lib.hid hb
  have HR := Lib.hid hr
  have HL := Lib.hid hL
  have HL2 := Lib.hid hL2
  have hai : (at_ : Int) ≤ 1125899907000000 := by omega
  have hni : (n : Int) ≤ 64 := by omega
  clear hb hr hL hL2
  go_enter Try.func40, Try.ntmps40
  go_wp2_with (first
    | (go_at_call 43; go_must (refine (rErr_any _ _ _ HB.out).mono ?_; rintro e w' ⟨rfl, rfl⟩))
    | (go_at_call 41; go_must (refine (rLeft_ok HB.out hl ha).mono ?_; rintro e w' ⟨rfl, rfl⟩))
    | (go_at_call 54; refine (within_ok _ _ _ _ _ (by omega) (by have := HL2.out; omega)).mono ?_; rintro e w' ⟨rfl, rfl⟩))
  go_loop [5, 25] (GetRelR L n) (fun _ i => n - (intOf i).toNat)
  case atStart => exact ⟨0, Nat.zero_le _, rfl, by simp [valOf]⟩
  case round =>
    obtain ⟨k, hk, rfl, rfl⟩ := hrel
    by_cases hlt : k < n
    · have hb0 : L[k]? = some (bitAt bs (at_ + k)) := by
        rw [HL.out, List.getElem?_drop, allBits_get bs _ (by have := HL2.out; omega)]
      have hstep := get_bit L k _ hb0 (by omega)
      have HS := Lib.hid hstep
      clear hb0 hstep
      go_wp2_with (go_at_call 44; go_must (refine (rNext_any k _ (w := w.drew) HB.out HR.out hl (by have := HL2.out; omega)).mono ?_; rintro e w' ⟨rfl, rfl⟩))
      go_round
      case rel => exact ⟨k + 1, by omega, by go_num, by rw [HS.out]⟩
      case measure => simp [intOf]; omega
    · obtain rfl : k = n := by omega
      go_wp2
      go_ret
      have ho : OnlyT g [67] w (w.setCell ⟨g, 1, none⟩ (.int .i64 ((at_ : Int) + (k : Int)))) := OnlyT.set_ HB.out (Nat.le_refl _) _ (by simp)
      refine ⟨rfl, ⟨at_ + k, ?_, HR.out.only ho.drew (by decide), by have := HL2.out; omega, hl, hlc, by rw [HL.out, List.drop_drop]⟩, ho.drew⟩
      rw [show ((at_ + k : Nat) : Int) = (at_ : Int) + (k : Int) from rfl]
      exact HB.out.set_ 1 _

end
theorem aGet_st {A : Option Addr} {c : Nat} {bs : List UInt8} (g n : Nat) (s : List Bool × Nat) (w : World) (h : RdrA w g A c bs s.1 s.2) (hn : n ≤ 64) :
    Calls Try.prog 40 #[.pointer (some ⟨g, 0, none⟩), .int .i64 (n : Int)] w fun e' w' => e' = .returned (.int .u64 (getV s n : Nat)) ∧ RdrA w' g A c bs (getS s n).1 (getS s n).2 ∧ OnlyT g [67] w w' := by
  obtain ⟨L, e⟩ := s
  unfold getV getS
  simp only at h ⊢
  by_cases he : e = 0
  · subst he
    by_cases hl : n ≤ L.length
    · rw [if_pos ⟨rfl, hl⟩, if_pos rfl, if_pos hl]
      exact aGet_ok n h hn hl
    · rw [if_neg (fun q => hl q.2), if_pos rfl, if_neg hl]
      exact aGet_trunc n h hn (Nat.lt_of_not_le hl)
  · rw [if_neg (fun q => he q.1), if_neg he]
    refine (aGet_err (n : Int) e h he).mono ?_
    rintro e' w' ⟨rfl, rfl⟩
    exact ⟨rfl, h, OnlyT.refl _ _ _⟩
end Go.Proofs.Ytjncmfoommlldaa
