/- Layer 25: the law ModelDoes. -/
import Derived.Test.YtnghcfogigglmaaModBit
import Derived.Test.YtnghcfogigglmaaModRef2
namespace Go.Proofs.Ytnghcfogigglmaa
open Go.RowKit Go.Sort

/-- Numbers of eight bits as cells. -/
def i8vs (l : List Int) : List Value := l.map (Value.int .i8)
theorem i8vs_get (l : List Int) (k : Nat) (h : k < l.length) : (i8vs l)[k]? = some (Value.int .i8 l[k]) := by simp [i8vs, h]
/-- A slice of such that came in reads as a list of them. -/
theorem bits8_of_row {w : World} {a : Option Addr} {len cap : Nat} {zs : List Int}
    (h : (a = none ∧ len = 0 ∧ cap = 0 ∧ zs = []) ∨ ∃ x, a = some x ∧ len ≤ cap ∧ cap ≤ maxLen ∧ zs.length = cap ∧ (∀ i, i < zs.length → w.cell? (x.add i) = some (.int .i8 (zs.getD i 0))) ∧ ∀ n ∈ zs, (Lit.int .i8 n).wf = true) :
    ∃ l : List Int, l.length = len ∧ len ≤ 9223372036854775807 ∧ Rd w w.heap.size a (i8vs l) ∧ ∀ x ∈ l, -128 ≤ x ∧ x ≤ 127 := by
  rcases h with ⟨rfl, rfl, rfl, rfl⟩ | ⟨x, rfl, hlc, hcm, hz, hcell, hwf⟩
  · exact ⟨[], rfl, by decide, Rd.nil_ _ _ _, by simp⟩
  · have hr : ∀ y ∈ zs, -128 ≤ y ∧ y ≤ 127 := fun y hy => by
      have := hwf y hy
      simpa [Lit.wf, IntKind.min, IntKind.max, IntKind.signed, IntKind.bits] using this
    simp only [maxLen] at hcm
    refine ⟨zs.take len, by simp; omega, by omega, fun k u hu => ?_, fun y hy => hr y (List.mem_of_mem_take hy)⟩
    have hk : k < len := by
      have := (List.getElem?_eq_some_iff.1 hu).1
      simp [i8vs] at this
      omega
    obtain ⟨b, off, rfl, hc⟩ := ints_at hcell (by omega)
    have hck := hc k (by omega)
    have he : u = .int .i8 (zs.getD k 0) := by
      have hd : zs.getD k 0 = zs[k]'(by omega) := by simp [List.getD_eq_getElem?_getD, show k < zs.length by omega]
      rw [hd]
      rw [i8vs_get _ _ (by simp; omega)] at hu
      injection hu with hu
      rw [← hu, List.getElem_take]
    subst he
    exact ⟨b, off, rfl, World.block_lt_of_cell? w _ hck, hck⟩

/-- A model and a plain one beside one another. -/
structure MRef (w wr : World) (B : Nat) (a : ModA) (r : RefA) (gw mw : Nat) (s t : ModD) : Prop where
  f : IsModel wr a s
  g : IsRef wr r gw mw t
  la : ∀ k ∈ a.every, w.heap.size ≤ k ∧ k < B
  lr : ∀ k ∈ r.every, B ≤ k
  lw : B ≤ gw
  lB : w.heap.size ≤ B ∧ B ≤ wr.heap.size
  below : Below w.heap.size w wr
theorem RefA.all_every {r : RefA} : ∀ k ∈ r.all, k ∈ r.every := fun k hk => by
  simp only [RefA.all, RefA.every, List.mem_cons, List.not_mem_nil, or_false] at hk ⊢
  omega
section
variable {w wr w' : World} {B gw mw gw' mw' : Nat} {a : ModA} {r : RefA} {s t s' : ModD}
theorem MRef.grow (h : MRef w wr B a r gw mw s t) (hb : Below wr.heap.size wr w') : MRef w w' B a r gw mw s t :=
  ⟨h.f.grow hb, h.g.grow hb, h.la, h.lr, h.lw, ⟨h.lB.1, Nat.le_trans h.lB.2 hb.size⟩, h.below.trans (hb.mono h.below.size)⟩
theorem MRef.one (h : MRef w wr B a r gw mw s t) (hm : IsModel w' a s') (hu : OnlyS a.all wr w') : MRef w w' B a r gw mw s' t :=
  ⟨hm, h.g.only hu (fun k hk hk' => by have := h.lr k hk; have := h.la k (ModA.all_every k hk'); omega) (fun hk' => by have := h.lw; have := h.la gw (ModA.all_every gw hk'); omega), h.la, h.lr, h.lw, ⟨h.lB.1, Nat.le_trans h.lB.2 hu.size⟩,
    h.below.trans (hu.below (fun k hk => (h.la k (ModA.all_every k hk)).1) h.below.size)⟩
theorem MRef.two (h : MRef w wr B a r gw mw s t) (hm : IsRef w' r gw' mw' s') (hw : wr.heap.size ≤ gw') (hu : OnlyS r.all wr w') : MRef w w' B a r gw' mw' s s' :=
  ⟨h.f.only hu (fun k hk hk' => by have := h.la k hk; have := h.lr k (RefA.all_every k hk'); omega), hm, h.la, h.lr, Nat.le_trans h.lB.2 hw, ⟨h.lB.1, Nat.le_trans h.lB.2 hu.size⟩,
    h.below.trans (hu.below (fun k hk => Nat.le_trans h.lB.1 (h.lr k (RefA.all_every k hk))) h.below.size)⟩
theorem MRef.drewN (h : MRef w wr B a r gw mw s t) (j : Nat) : MRef w (wr.drewN j) B a r gw mw s t := h.grow (below_drawn wr j)
end
set_option maxHeartbeats 4000000 in
set_option maxRecDepth 100000 in
theorem modDoes_law (A : Option Addr) (L m : Nat) (l : List Int) (w : World) (hr : Rd w w.heap.size A (i8vs l)) (hL : l.length = L) (hL63 : L ≤ 9223372036854775807) (hok : ∀ x ∈ l, -128 ≤ x ∧ x ≤ 127) :
    Calls Try.prog 3 #[.slice A L m] w (Yes w) := by
  have CK := Lib.hid modKnown_any
  by_cases h400 : 400 < L
  · have h2 : (400 : Int) < (L : Int) := by omega
    clear hr hL hok
    go_enter Try.func3, Try.ntmps3
    go_wp2_with fail
    refine (CK.out _).mono ?_
    rintro e w' ⟨rfl, hb⟩
    go_wp2
    go_ret
    exact ⟨rfl, hb⟩
  have h2 : ¬ ((400 : Int) < (L : Int)) := by omega
  have CN := Lib.hid modNew_any
  have CR := Lib.hid refNew_any
  have S0 := Lib.hid (modSeen_nil 1)
  have W0 := Lib.hid modWhere_nil
  have P0 := Lib.hid modP_nil
  have HR := Lib.hid hr
  have HL := Lib.hid hL
  have HOK := Lib.hid hok
  clear hr hL hok
  go_enter Try.func3, Try.ntmps3
  go_wp2_with fail
  refine (CN.out _).mono ?_
  rintro e w1 ⟨a, rfl, hm1, hlo1, hb1⟩
  have H1 := Lib.hid (And.intro hm1 (And.intro hlo1 hb1))
  clear hm1 hlo1 hb1
  go_wp2_with fail
  refine (CR.out _).mono ?_
  rintro e w2 ⟨r, gw, mw, rfl, hm2, hlo2, hgw, hb2⟩
  have HT2 := Lib.hid (⟨H1.out.1.grow hb2, hm2, fun k hk => ⟨H1.out.2.1 k hk, H1.out.1.lt k hk⟩, hlo2, hgw, ⟨H1.out.2.2.size, hb2.size⟩, H1.out.2.2.trans (hb2.mono H1.out.2.2.size)⟩ : MRef w w2 w1.heap.size a r gw mw newD newD)
  obtain ⟨B, hB⟩ : ∃ B, B = w1.heap.size := ⟨_, rfl⟩
  rw [← hB] at HT2
  clear hm2 hlo2 hgw hb2 H1 hB
  go_wp2
  go_loopw [5] (fun ii wr => ∃ (i gw mw : Nat) (s : ModD), i ≤ L ∧ ii = .int .i64 (i : Int) ∧ MRef w wr B a r gw mw s s) (fun ii _ => L - (intOf ii).toNat)
  case atStart => exact ⟨0, gw, mw, newD, Nat.zero_le _, rfl, HT2.out⟩
  case round =>
    clear HT2
    obtain ⟨i, gw', mw', s, hi, rfl, ht⟩ := hrel
    have HT := Lib.hid ht
    by_cases hlt : i < L
    · have hil : i < l.length := by rw [HL.out]; exact hlt
      obtain ⟨ab, ao, rfl, hab, hcell⟩ := HR.out i _ (i8vs_get l i hil)
      have hx8 := HOK.out _ (List.getElem_mem hil)
      obtain ⟨x, hx⟩ : ∃ x, x = l[i] := ⟨_, rfl⟩
      rw [← hx] at hcell hx8
      have HCELL := Lib.hid (fun (W : World) (h : Below w.heap.size w W) => (h.cell (p := ⟨ab, ao + i, none⟩) hab).trans hcell)
      have CS := Lib.hid (modSeen_any x ht.f)
      have hcell1 := HCELL.out wr ht.below
      have HX := Lib.hid hx8
      obtain ⟨x1, x2⟩ := hx8
      have hii : (i : Int) < (L : Int) := by omega
      clear hcell hab hx hil ht
      go_wp2_with fail
      refine CS.out.mono ?_
      rintro e w3 ⟨⟨u, rfl⟩, hm, hu⟩
      have ht3 := HT.out.one hm hu
      have HT3 := Lib.hid ht3
      have CS2 := Lib.hid (refSeen_any x HX.out ht3.g)
      clear hcell1
      have hcell1 := HCELL.out w3 ht3.below
      clear hm hu ht3
      go_wp2_with fail
      refine CS2.out.mono ?_
      rintro e w4 ⟨⟨u', rfl⟩, gw4, mw4, hm, hw4, hu⟩
      have ht4 := HT3.out.two hm hw4 hu
      have HT4 := Lib.hid ht4
      have CW := Lib.hid (modWhere_any ht4.f.mb)
      clear hm hw4 hu ht4 hcell1
      go_wp2_with fail
      refine CW.out.mono ?_
      rintro e w5 ⟨rfl, j, hw⟩
      have ht5 : MRef w w5 B a r gw4 mw4 (s.seen x) (s.seen x) := by rw [hw]; exact HT4.out.drewN j
      have HT5 := Lib.hid ht5
      have CP := Lib.hid (modP_any ht5.f)
      clear hw ht5
      go_wp2_with fail
      refine CP.out.mono ?_
      rintro e w6 ⟨rfl, hb6⟩
      have ht6 := HT5.out.grow hb6
      have HT6 := Lib.hid ht6
      have CQ := Lib.hid (refP_any ht6.g)
      clear hb6 ht6
      go_wp2_with fail
      refine CQ.out.mono ?_
      rintro e w7 ⟨rfl, hb7⟩
      have ht7 := HT6.out.grow hb7
      have HT7 := Lib.hid ht7
      have c0 := ht7.g.mb.cell 0
      have c1 := ht7.g.mb.cell 1
      have c2 := ht7.g.mb.cell 2
      simp only [refC, List.getElem?_cons_zero, List.getElem?_cons_succ] at c0 c1 c2
      clear hb7 ht7
      go_wp2
      go_roundw
      case rel => exact ⟨i + 1, gw4, mw4, _, by omega, by go_num, HT7.out⟩
      case measure => simp [intOf]; omega
    · obtain rfl : i = L := by omega
      clear ht
      go_wp2_with fail
      refine (S0.out _).mono ?_
      rintro e w' ⟨⟨u, rfl⟩, hw⟩
      obtain rfl : _ = w' := hw.symm
      go_wp2_with fail
      refine (W0.out _).mono ?_
      rintro e w' ⟨rfl, hw⟩
      obtain rfl : _ = w' := hw.symm
      go_wp2_with fail
      refine (P0.out _).mono ?_
      rintro e w' ⟨rfl, hw⟩
      obtain rfl : _ = w' := hw.symm
      go_wp2_with fail
      refine (CK.out _).mono ?_
      rintro e w7 hy
      obtain ⟨rfl, hb7⟩ : Yes w e w7 := ⟨hy.1, HT.out.below.trans (hy.2.mono HT.out.below.size)⟩
      go_wp2
      go_ret
      exact ⟨rfl, hb7⟩
end Go.Proofs.Ytnghcfogigglmaa
