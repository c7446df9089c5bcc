/- Layer 25: what a model learns of bytes that are always the same. Pure. -/
import Derived.Test.YtnghcfogigglmaaModMath
namespace Go.Proofs.Ytnghcfogigglmaa
open Go.RowKit

/-- From below: what a chance is at least behind t bits 1; from above: at most behind t bits 0. -/
def loD : Nat → Nat
  | 0 => 32
  | t + 1 => afterC (loD t) 1
def hiD : Nat → Nat
  | 0 => 65504
  | t + 1 => afterC (hiD t) 0
theorem afterC_mono {p q : Nat} (h : p ≤ q) (hq : q ≤ 65504) (b : Int) : afterC p b ≤ afterC q b := by
  unfold afterC heldC rawC
  split <;> omega
theorem afterC_up {p : Nat} (h : ChC p) : p ≤ afterC p 1 := by
  unfold ChC at h
  unfold afterC heldC rawC
  rw [if_neg (by decide)]
  omega
theorem afterC_down {p : Nat} (h : ChC p) : afterC p 0 ≤ p := by
  unfold ChC at h
  unfold afterC heldC rawC
  rw [if_pos rfl]
  omega
theorem afterC_bit (p b : Nat) (h : b < 2) : (b = 0 → afterC p (b : Int) = afterC p 0) ∧ (b ≠ 0 → afterC p (b : Int) = afterC p 1) :=
  ⟨fun e => by subst e; rfl, fun e => by obtain rfl : b = 1 := by omega
                                         rfl⟩
theorem loD_ok : ∀ t, ChC (loD t)
  | 0 => by unfold ChC loD; omega
  | t + 1 => afterC_ok _ _
theorem hiD_ok : ∀ t, ChC (hiD t)
  | 0 => by unfold ChC hiD; omega
  | t + 1 => afterC_ok _ _
theorem loD_28 : 40000 ≤ loD 28 := by decide +kernel
theorem hiD_28 : hiD 28 ≤ 25536 := by decide +kernel
/-- A chance that has followed a bit b for t times, or 28. -/
structure GoodD (t b p : Nat) : Prop where
  ch : ChC p
  hi : b = 0 → p ≤ hiD (min t 28)
  lo : b ≠ 0 → loD (min t 28) ≤ p
theorem GoodD.zero {b p : Nat} (h : ChC p) : GoodD 0 b p := ⟨h, fun _ => h.2, fun _ => h.1⟩
theorem GoodD.next {t b p : Nat} (h : GoodD t b p) (hb : b < 2) : GoodD (t + 1) b (afterC p (b : Int)) := by
  have he := afterC_bit p b hb
  refine ⟨afterC_ok _ _, fun h0 => ?_, fun h0 => ?_⟩
  · rw [he.1 h0]
    by_cases ht : t < 28
    · rw [show min (t + 1) 28 = min t 28 + 1 by omega]
      exact afterC_mono (h.hi h0) (hiD_ok _).2 0
    · rw [show min (t + 1) 28 = min t 28 by omega]
      exact Nat.le_trans (afterC_down h.ch) (h.hi h0)
  · rw [he.2 h0]
    by_cases ht : t < 28
    · rw [show min (t + 1) 28 = min t 28 + 1 by omega]
      exact afterC_mono (h.lo h0) h.ch.2 1
    · rw [show min (t + 1) 28 = min t 28 by omega]
      exact Nat.le_trans (h.lo h0) (afterC_up h.ch)
/-- A row behind t bytes c whole, and k bits of the next: the cells of c's way have followed. -/
structure LearnR (n : Nat) (way : Nat → Nat) (c t k : Nat) (R : List Nat) : Prop where
  row : RowC n R
  good : ∀ j < 8, GoodD (t + if j < k then 1 else 0) (bitD c j) (R.getD (way j) 0)
theorem LearnR.start {n : Nat} {way : Nat → Nat} {c : Nat} {R : List Nat} (h : RowC n R) (hw : ∀ j < 8, way j < n) : LearnR n way c 0 0 R :=
  ⟨h, fun j hj => by rw [if_neg (by omega)]; exact GoodD.zero (h.get (hw j hj))⟩
theorem LearnR.wrap {n : Nat} {way : Nat → Nat} {c t : Nat} {R : List Nat} (h : LearnR n way c t 8 R) : LearnR n way c (t + 1) 0 R :=
  ⟨h.row, fun j hj => by have := h.good j hj; rw [if_pos hj] at this; rw [if_neg (by omega)]; exact this⟩
theorem LearnR.next {n : Nat} {way : Nat → Nat} {c t k : Nat} {R : List Nat} (h : LearnR n way c t k R) (hk : k < 8) (hw : ∀ j < 8, way j < n) (hne : ∀ j < 8, ∀ i < 8, way i = way j → i = j) :
    LearnR n way c t (k + 1) (seenC R (way k) ((bitD c k : Nat) : Int)) := by
  refine ⟨h.row.seen _ _, fun j hj => ?_⟩
  by_cases e : k = j
  · subst e
    rw [seenC_same h.row (hw k hk), if_pos (by omega)]
    have := h.good k hk
    rw [if_neg (by omega)] at this
    exact this.next (Nat.mod_lt _ (by decide))
  · rw [seenC_other _ (fun e2 => e (hne j hj k hk e2))]
    have := h.good j hj
    rw [show (if j < k + 1 then 1 else 0) = if j < k then 1 else 0 by split <;> split <;> omega]
    exact this
/-- The cells on the way of a byte c behind itself twice. -/
def wayA (c k : Nat) : Nat := placeC (nodeK c k) 9
def wayB (c k : Nat) : Nat := placeC (65536 + 256 * c + nodeK c k) 11
def wayC (c k : Nat) : Nat := placeC (16777216 + 65536 * c + 256 * c + nodeK c k) 13
theorem wayA_lt (c : Nat) : ∀ j < 8, wayA c j < 512 := fun _ _ => placeC_lt (bits := 9) _ (by decide)
theorem wayB_lt (c : Nat) : ∀ j < 8, wayB c j < 2048 := fun _ _ => placeC_lt (bits := 11) _ (by decide)
theorem wayC_lt (c : Nat) : ∀ j < 8, wayC c j < 8192 := fun _ _ => placeC_lt (bits := 13) _ (by decide)
theorem way_one : ∀ c < 256, ∀ j < 8, ∀ i < 8, (wayA c i = wayA c j → i = j) ∧ (wayB c i = wayB c j → i = j) ∧ (wayC c i = wayC c j → i = j) := by decide +kernel

/-- What a model is behind i bytes c, and k bits of the next. -/
structure LearnD (c i k : Nat) (s : ModD) : Prop where
  ok : s.ok
  node : s.p.node = nodeK c k
  last : 1 ≤ i → s.p.last = c
  ahead : 2 ≤ i → s.p.ahead = c
  la : 2 ≤ i → LearnR 512 (wayA c) c (i - 2) k s.A
  lb : 2 ≤ i → LearnR 2048 (wayB c) c (i - 2) k s.B
  lc : 2 ≤ i → LearnR 8192 (wayC c) c (i - 2) k s.C
theorem LearnD.first (c : Nat) (hc : c < 256) : LearnD c 0 0 newD := ⟨newD_ok, (nodeK_zero hc).symm, by omega, by omega, by omega, by omega, by omega⟩
theorem LearnD.places {c i k : Nat} {s : ModD} (h : LearnD c i k s) (hi : 2 ≤ i) : s.i1 = wayA c k ∧ s.i2 = wayB c k ∧ s.i3 = wayC c k := by
  unfold ModD.i1 ModD.i2 ModD.i3 PosD.k1 PosD.k2 PosD.k3 wayA wayB wayC
  rw [h.node, h.last (by omega), h.ahead hi]
  exact ⟨rfl, rfl, rfl⟩
theorem LearnD.next {c i k : Nat} {s : ModD} (h : LearnD c i k s) (hc : c < 256) (hk : k < 7) : LearnD c i (k + 1) (s.seen ((bitD c k : Nat) : Int)) := by
  have hn := nodeK_next hc (show k < 8 by omega)
  have hl := nodeK_lt hc (show k + 1 < 8 by omega)
  have hp : (s.seen ((bitD c k : Nat) : Int)).p = ⟨nodeK c (k + 1), s.p.last, s.p.ahead⟩ := by
    show s.p.step _ = _
    unfold PosD.step
    rw [h.node, hn, if_neg (by omega)]
  have hw := way_one c hc
  refine ⟨h.ok.seen _, by rw [hp], fun hi => by rw [hp]; exact h.last hi, fun hi => by rw [hp]; exact h.ahead hi, fun hi => ?_, fun hi => ?_, fun hi => ?_⟩
  · show LearnR _ _ _ _ _ (seenC s.A s.i1 _)
    rw [(h.places hi).1]
    exact (h.la hi).next (by omega) (wayA_lt c) fun j hj i hi => (hw j hj i hi).1
  · show LearnR _ _ _ _ _ (seenC s.B s.i2 _)
    rw [(h.places hi).2.1]
    exact (h.lb hi).next (by omega) (wayB_lt c) fun j hj i hi => (hw j hj i hi).2.1
  · show LearnR _ _ _ _ _ (seenC s.C s.i3 _)
    rw [(h.places hi).2.2]
    exact (h.lc hi).next (by omega) (wayC_lt c) fun j hj i hi => (hw j hj i hi).2.2
theorem LearnD.over {c i : Nat} {s : ModD} (h : LearnD c i 7 s) (hc : c < 256) : LearnD c (i + 1) 0 (s.seen ((bitD c 7 : Nat) : Int)) := by
  have hn := nodeK_next hc (show 7 < 8 by omega)
  rw [show (7 : Nat) + 1 = 8 from rfl, nodeK_eight] at hn
  have hp : (s.seen ((bitD c 7 : Nat) : Int)).p = ⟨1, c, s.p.last⟩ := by
    show s.p.step _ = _
    unfold PosD.step
    rw [h.node, hn, if_pos (by omega), Nat.add_sub_cancel_left]
  have hok := h.ok.seen ((bitD c 7 : Nat) : Int)
  have hw := way_one c hc
  refine ⟨hok, by rw [hp]; exact (nodeK_zero hc).symm, fun hi => by rw [hp], fun hi => by rw [hp]; exact h.last (by omega), fun hi => ?_, fun hi => ?_, fun hi => ?_⟩
  · by_cases h2 : 2 ≤ i
    · rw [show i + 1 - 2 = i - 2 + 1 by omega]
      refine LearnR.wrap ?_
      show LearnR _ _ _ _ _ (seenC s.A s.i1 _)
      rw [(h.places h2).1]
      exact (h.la h2).next (by omega) (wayA_lt c) fun j hj i hi => (hw j hj i hi).1
    · rw [show i + 1 - 2 = 0 by omega]
      exact LearnR.start hok.a (wayA_lt c)
  · by_cases h2 : 2 ≤ i
    · rw [show i + 1 - 2 = i - 2 + 1 by omega]
      refine LearnR.wrap ?_
      show LearnR _ _ _ _ _ (seenC s.B s.i2 _)
      rw [(h.places h2).2.1]
      exact (h.lb h2).next (by omega) (wayB_lt c) fun j hj i hi => (hw j hj i hi).2.1
    · rw [show i + 1 - 2 = 0 by omega]
      exact LearnR.start hok.b (wayB_lt c)
  · by_cases h2 : 2 ≤ i
    · rw [show i + 1 - 2 = i - 2 + 1 by omega]
      refine LearnR.wrap ?_
      show LearnR _ _ _ _ _ (seenC s.C s.i3 _)
      rw [(h.places h2).2.2]
      exact (h.lc h2).next (by omega) (wayC_lt c) fun j hj i hi => (hw j hj i hi).2.2
    · rw [show i + 1 - 2 = 0 by omega]
      exact LearnR.start hok.c (wayC_lt c)
theorem clM_nat {p : Nat} (h : ChC p) : clM (p : Int) = p := by unfold ChC at h; unfold clM; omega
/-- From the 31st byte on each bit is clearly more likely than not. -/
theorem LearnD.sure {c i k : Nat} {s : ModD} (h : LearnD c i k s) (hi : 30 ≤ i) (hk : k < 8) : (bitD c k ≠ 0 → 40000 ≤ s.chance) ∧ (bitD c k = 0 → s.chance ≤ 25536) := by
  have hp := h.places (by omega)
  have ga := (h.la (by omega)).good k hk
  have gb := (h.lb (by omega)).good k hk
  have gc := (h.lc (by omega)).good k hk
  rw [if_neg (by omega), Nat.add_zero] at ga gb gc
  rw [← hp.1] at ga
  rw [← hp.2.1] at gb
  rw [← hp.2.2] at gc
  have ht : min (i - 2) 28 = 28 := by omega
  constructor
  · intro hb
    have h1 := ga.lo hb
    have h2 := gb.lo hb
    have h3 := gc.lo hb
    rw [ht] at h1 h2 h3
    have h28 := loD_28
    have := (mixM_within h.ok.w s.ch_len (by decide) (lo := 40000) (hi := 65536) fun p hp => by
      simp only [ModD.ch, List.mem_cons, List.not_mem_nil, or_false] at hp
      rcases hp with rfl | rfl | rfl
      · rw [clM_nat ga.ch]; have := ga.ch.2; omega
      · rw [clM_nat gb.ch]; have := gb.ch.2; omega
      · rw [clM_nat gc.ch]; have := gc.ch.2; omega).1
    show 40000 ≤ mixM s.W s.ch
    omega
  · intro hb
    have h1 := ga.hi hb
    have h2 := gb.hi hb
    have h3 := gc.hi hb
    rw [ht] at h1 h2 h3
    have h28 := hiD_28
    have := (mixM_within h.ok.w s.ch_len (by decide) (lo := 0) (hi := 25536) fun p hp => by
      simp only [ModD.ch, List.mem_cons, List.not_mem_nil, or_false] at hp
      rcases hp with rfl | rfl | rfl
      · rw [clM_nat ga.ch]; omega
      · rw [clM_nat gb.ch]; omega
      · rw [clM_nat gc.ch]; omega).2
    show mixM s.W s.ch ≤ 25536
    omega
end Go.Proofs.Ytnghcfogigglmaa
