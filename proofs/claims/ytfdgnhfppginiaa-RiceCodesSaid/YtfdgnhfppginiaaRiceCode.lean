/- Layer 19: the program's Code. -/
import Derived.Test.YtfdgnhfppginiaaRiceLay
import Derived.Test.YtfdgnhfppginiaaWordTake
namespace Go.Proofs.Ytfdgnhfppginiaa
open Go.RowKit Go.Sort

theorem TurnsB.onlyO {g C S : Nat} {w w1 w2 : World} (h : TurnsB g C w w1) (ho : OnlyO S g w1 w2) (hS : w.heap.size ≤ S) : TurnsB g C w w2 :=
  ⟨ho.os.trans h.os, ho.tape.trans h.tape, ho.output.trans h.output, Nat.le_trans h.size ho.size, fun k hk h1 h2 => (ho.block k (Nat.lt_of_lt_of_le hk h.size) h1 (.inl (by omega))).trans (h.block k hk h1 h2)⟩
theorem TurnsB.rd {g C B : Nat} {w w1 : World} {A : Option Addr} {xs : List Value} (h : TurnsB g C w w1) (hr : Rd w B A xs) (hB : B ≤ w.heap.size) (hA : ∀ p, A = some p → p.block ≠ g ∧ p.block ≠ C) : Rd w1 B A xs := fun k u hu => by
  obtain ⟨b, off, rfl, hb, hc⟩ := hr k u hu
  obtain ⟨h1, h2⟩ := hA _ rfl
  exact ⟨b, off, rfl, hb, (World.cell?_of_block (h.block b (by omega) h1 h2)).trans hc⟩
/-- What holds at the head of a round of the first loop. -/
def RC1 (w3 : World) (S g CB D : Nat) (ws : List Nat) (L : List Bool) (i : Value) (wr : World) : Prop :=
  ∃ (k A N : Nat) (o R : List Bool), k ≤ ws.length ∧ i = .int .i64 (k : Int) ∧ RiceB D A N (ws.drop k) R ∧ o ++ R = L ∧ CountsOk D A N ∧ WrO wr S g o ∧ Blk wr CB 68 [.int .u64 (A : Int), .int .u64 (N : Int)] ∧ TurnsB g CB w3 wr
/-- .. of the second. -/
def RC2 (w3 : World) (S g CB : Nat) (rs : List UInt8) (L : List Bool) (i : Value) (wr : World) : Prop :=
  ∃ k : Nat, k ≤ rs.length ∧ i = .int .i64 (k : Int) ∧ WrO wr S g (L ++ allBits (rs.take k)) ∧ TurnsB g CB w3 wr
theorem allBits_next (rs : List UInt8) (k : Nat) (h : k < rs.length) : allBits (rs.take (k + 1)) = allBits (rs.take k) ++ bitsOf rs[k].toNat 8 := by
  rw [← allBits_snoc, List.take_add_one, List.getElem?_eq_getElem h]; rfl
set_option maxHeartbeats 2000000 in
set_option maxRecDepth 100000 in
theorem riceCode_gen {w : World} {A : Option Addr} {n c : Nat} {W : Int} {D : Nat} {ws : List Nat} {rs : List UInt8} {L : List Bool}
    (hT : ∀ W', Below w.heap.size w W' → Calls Try.prog 36 #[.slice A n c, .int .i64 W] W' (NewTakeF W' ws rs)) (hlay : ws ≠ [] → ∃ V, IsW V ∧ W = (V : Int) ∧ D = 8 * V) (hv : ∀ x ∈ ws, x < 2 ^ D) (hD : 8 ≤ D)
    (hL : RiceB D 16 1 ws L) (hLl : L.length ≤ 700000) (hwl : ws.length ≤ 100000) (hrl : rs.length ≤ 8) :
    Calls Try.prog 14 #[.slice A n c, .int .i64 W] w fun e w' => ∃ bs, Packs bs (L ++ allBits rs) ∧ NewBy w bs e w' := by
  have CT := Lib.hid hT
  have HLAY := Lib.hid (fun (hne : ws ≠ []) (A N K v g B : Nat) (l : List Bool) (w' : World) (hc : CountsOk D A N) (hK : IsK A N K) (hv : v < 2 ^ D) (hw : WrO w' B g l) (hl : l.length ≤ 800000) =>
    show Calls Try.prog 37 #[cntV A N, .pointer (some ⟨g, 0, none⟩), .int .u64 (v : Int), .int .i64 W] w' fun e w'' => e = .returned (cntV (behindA A N v) (behindN N)) ∧ WrO w'' B g (l ++ riceW D K v) ∧ OnlyO B g w' w'' by
      obtain ⟨V, hV, rfl, rfl⟩ := hlay hne
      exact riceLay_any hV hc hK hv w' hw hl)
  have HV := Lib.hid hv
  have HD := Lib.hid hD
  have HL := Lib.hid hL
  have HLL := Lib.hid hLl
  have HWL := Lib.hid hwl
  have HRL := Lib.hid hrl
  have C0 := Lib.hid (fun W' => riceFirst_any W')
  clear hT hlay hv hD hL hLl hwl hrl
  go_enter Try.func14, Try.ntmps14
  go_wp2_with fail
  obtain ⟨w1, hw1⟩ : ∃ w1, w1 = w.alloc (.cells #[.slice none 0 0, .int .i64 0] 65) := ⟨_, rfl⟩
  have hg1 : Blk w1 w.heap.size 65 [.slice none 0 0, .int .i64 0] := by rw [hw1]; exact heap_alloc_new w _
  have hb1 : Below w.heap.size w w1 := by rw [hw1]; exact (Below.refl _ _).alloc (Nat.le_refl _) _
  rw [← hw1]
  clear hw1
  refine (C0.out _).mono ?_
  rintro _ w2 ⟨rfl, hb2⟩
  unfold cntV
  have hg2 := hg1.grow hb2
  have hbb2 := hb1.trans (hb2.mono hb1.size)
  clear hb2 C0 hg1 hb1
  go_wp2_with fail
  obtain ⟨w3, hw3⟩ : ∃ w3, w3 = w2.alloc (.cells #[.int .u64 16, .int .u64 1] 68) := ⟨_, rfl⟩
  have hc3 : Blk w3 w2.heap.size 68 [.int .u64 16, .int .u64 1] := by rw [hw3]; exact heap_alloc_new w2 _
  have hb3 : Below w2.heap.size w2 w3 := by rw [hw3]; exact (Below.refl _ _).alloc (Nat.le_refl _) _
  have hgw : w.heap.size ≤ w2.heap.size := hbb2.size
  have hgc : w.heap.size ≠ w2.heap.size := by have := hg2.lt; omega
  rw [← hw3]
  have hg3 := hg2.grow hb3
  have hbb3 := hbb2.trans (hb3.mono hbb2.size)
  obtain ⟨CB, hCB⟩ : ∃ CB, CB = w2.heap.size := ⟨_, rfl⟩
  rw [← hCB] at hc3 hgw hgc ⊢
  clear hw3 hb3 hbb2 hg2 hCB
  refine (CT.out w3 hbb3).mono ?_
  rintro _ w4 ⟨v1, v2, rfl, h1, h2, hb4⟩
  obtain ⟨⟨A1, c1, rfl, hc1, hr1⟩, hf1⟩ := h1
  obtain ⟨⟨A2, c2, rfl, hc2, hr2⟩, hf2⟩ := h2
  have hcl : CB < w3.heap.size := hc3.lt
  have hgl : w.heap.size < w3.heap.size := hg3.lt
  have HR1 := Lib.hid hr1
  have HR2 := Lib.hid hr2
  have HF1 := Lib.hid (fun p (e : A1 = some p) => show p.block ≠ w.heap.size ∧ p.block ≠ CB by have := hf1 p _ _ (by rw [e]); exact ⟨by omega, by omega⟩)
  have HF2 := Lib.hid (fun p (e : A2 = some p) => show p.block ≠ w.heap.size ∧ p.block ≠ CB by have := hf2 p _ _ (by rw [e]); exact ⟨by omega, by omega⟩)
  have HB4 := Lib.hid (hbb3.trans (hb4.mono hbb3.size))
  have HC4 := Lib.hid (hc3.grow hb4)
  have HG4 := Lib.hid (WrO.new (B := w4.heap.size) (hg3.grow hb4) (Nat.le_refl _))
  rw [wvs_length]
  have HREL := Lib.hid (show RC1 w4 w4.heap.size w.heap.size CB D ws L (.int .i64 ((0 : Nat) : Int)) w4 from ⟨0, 16, 1, [], L, Nat.zero_le _, rfl, HL.out, rfl, counts_start HD.out, HG4.out, HC4.out, TurnsB.refl _ _ _⟩)
  have hws := HWL.out
  clear hb4 hc3 hg3 hbb3 hr1 hr2 hf1 hf2 hcl hgl hc1 hc2 CT
  go_wp2
  go_loopw [24] (RC1 w4 w4.heap.size w.heap.size CB D ws L) (fun i _ => ws.length - (intOf i).toNat)
  case atStart => exact HREL.out
  case round =>
    clear HREL
    obtain ⟨k, A0, N0, o, R, hk, rfl, hric, hoR, hcok, hwr, hblk, htr⟩ := hrel
    have HTR := Lib.hid htr
    have HBL := Lib.hid hblk
    have HWR := Lib.hid hwr
    by_cases hlt : k < ws.length
    · obtain ⟨K, R2, hK, rfl, hric2⟩ := riceB_next hric hlt
      obtain ⟨ab, ao, rfl, hab, hcell⟩ := (HTR.out.rd HR1.out (Nat.le_refl _) HF1.out) k _ (wvs_get ws k hlt)
      have hol := congrArg List.length hoR
      rw [List.length_append] at hol
      have CL := Lib.hid (HLAY.out (fun e => by rw [e] at hlt; simp at hlt) A0 N0 K ws[k] w.heap.size w4.heap.size o wr hcok hK (HV.out _ (List.getElem_mem hlt)) HWR.out (by have := HLL.out; omega))
      have HK := Lib.hid (And.intro (show o ++ riceW D K ws[k] ++ R2 = L by rw [List.append_assoc]; exact hoR) (And.intro hric2 (counts_behind hcok (HV.out _ (List.getElem_mem hlt)))))
      have hc0 := hblk.cell 0
      have hc1 := hblk.cell 1
      simp only [List.getElem?_cons_zero, List.getElem?_cons_succ] at hc0 hc1
      obtain ⟨v, hv⟩ : ∃ v, v = ws[k] := ⟨_, rfl⟩
      rw [← hv] at CL HK hcell
      have hki : (k : Int) < (ws.length : Int) := by omega
      unfold cntV at CL
      clear hric hoR hcok hwr hblk htr hric2 hK hol hv
      go_wp2_with fail
      refine CL.out.mono ?_
      rintro _ w5 ⟨rfl, hw5, ho5⟩
      have hb5 := ho5.blkT HBL.out (by decide) (Ne.symm hgc)
      have hd0 := hb5.cell 0
      have hd1 := hb5.cell 1
      have hf0 := hb5.frozen 0
      have hf1 := hb5.frozen 1
      simp only [List.getElem?_cons_zero, List.getElem?_cons_succ] at hd0 hd1
      have HB5 := Lib.hid hb5
      have HW5 := Lib.hid hw5
      have HT5 := Lib.hid (HTR.out.onlyO ho5 (Nat.le_refl _))
      clear hc0 hc1 hb5 hw5 ho5 CL hcell
      go_wp2
      go_roundw
      case rel => exact ⟨k + 1, behindA A0 N0 v, behindN N0, _, R2, by omega, by go_num, HK.out.2.1, HK.out.1, HK.out.2.2, (HW5.out.set_ HB5.out (Ne.symm hgc) (by decide) _).set_ (HB5.out.set_ 0 _) (Ne.symm hgc) (by decide) _, (HB5.out.set_ 0 _).set_ 1 _, (HT5.out.trans (TurnsB.set_ 0 _)).trans (TurnsB.set_ 1 _)⟩
      case measure => simp [intOf]; omega
    · obtain rfl : k = ws.length := by omega
      obtain ⟨Wr, hWr⟩ : ∃ Wr, Wr = wr := ⟨_, rfl⟩
      subst hWr
      rw [List.drop_length] at hric
      obtain rfl : R = [] := by cases hric; rfl
      rw [List.append_nil] at hoR
      subst hoR
      have HREL2 := Lib.hid (show RC2 w4 w4.heap.size w.heap.size CB rs o (.int .i64 ((0 : Nat) : Int)) Wr from ⟨0, Nat.zero_le _, rfl, by rw [List.take_zero, show allBits [] = [] from rfl, List.append_nil]; exact hwr, htr⟩)
      clear hric hcok hwr hblk htr hlt hk
      go_wp2
      go_loopw [36] (RC2 w4 w4.heap.size w.heap.size CB rs o) (fun i _ => rs.length - (intOf i).toNat)
      case atStart => exact HREL2.out
      case round =>
        clear HREL2 HTR HBL HWR
        obtain ⟨k, hk, rfl, hwr, htr⟩ := hrel
        have hrl := HRL.out
        have hll := HLL.out
        have HTR := Lib.hid htr
        have HWR := Lib.hid hwr
        have hab8 : (allBits (rs.take k)).length ≤ 64 := by rw [allBits_length, List.length_take]; omega
        by_cases hlt : k < rs.length
        · obtain ⟨ab, ao, rfl, hab, hcell⟩ := (HTR.out.rd HR2.out (Nat.le_refl _) HF2.out) k _ (bvs_get rs k hlt)
          obtain ⟨v, hv⟩ : ∃ v, v = (rs[k]'hlt).toNat := ⟨_, rfl⟩
          have hv256 : v < 256 := by rw [hv]; exact (rs[k]'hlt).toNat_lt
          have CP := Lib.hid (oPut_any w.heap.size w4.heap.size _ v 8 wr HWR.out (by rw [List.length_append]; omega) (by omega) (by decide))
          rw [List.append_assoc, hv, ← allBits_next rs k hlt, ← hv] at CP
          rw [← hv] at hcell
          have hki : (k : Int) < (rs.length : Int) := by omega
          have hvw : IntKind.u64.wrap (v : Int) = (v : Int) := by rw [IntKind.wrap_u64]; omega
          clear hwr htr hv hab8
          go_wp2_with fail
          refine CP.out.mono ?_
          rintro _ w5 ⟨rfl, hw5, ho5⟩
          have HW5 := Lib.hid hw5
          have HT5 := Lib.hid (HTR.out.onlyO ho5 (Nat.le_refl _))
          clear hw5 ho5 CP hcell
          go_wp2
          go_roundw
          case rel => exact ⟨k + 1, by omega, by go_num, HW5.out, HT5.out⟩
          case measure => simp [intOf]; omega
        · obtain rfl : k = rs.length := by omega
          rw [List.take_length] at hwr hab8
          have CB2 := Lib.hid (oBytes_any w.heap.size w4.heap.size _ wr hwr (by rw [List.length_append]; omega))
          have HBW := Lib.hid (HB4.out.trans (HTR.out.below (Nat.le_refl _) hgw HB4.out.size))
          clear hwr htr hab8 HWR
          go_wp2_with fail
          refine CB2.out.mono ?_
          rintro _ w6 ⟨bs, hp, v6, rfl, hown, hb6⟩
          have HE := Lib.hid (And.intro hp (And.intro (own_more hown HBW.out.size) (HBW.out.trans (hb6.mono HBW.out.size))))
          clear hp hown hb6 CB2
          go_wp2
          go_ret
          exact ⟨bs, HE.out.1, _, rfl, HE.out.2.1, HE.out.2.2⟩
end Go.Proofs.Ytfdgnhfppginiaa
