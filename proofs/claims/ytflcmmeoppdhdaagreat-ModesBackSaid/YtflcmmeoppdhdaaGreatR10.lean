/-
  Layer 19: the program's Code. · Layer 19: what Code says of any bytes; that it is told; how long it is. · Plain mathematics of layer 21: codes in order. Written ahead of the code. · Plain mathematics of layer 21: letters in order, and what their codes come to.
-/
import Derived.Test.YtflcmmeoppdhdaaGreatR04
import Derived.Test.YtflcmmeoppdhdaaGreatR06
import Derived.Test.YtflcmmeoppdhdaaGreatR09
import Derived.Lib.BitFns
namespace Go.Proofs.YtflcmmeoppdhdaaGreat
open Go.RowKit Go.Sort

theorem TurnsB.onlyO {g C S : Nat} {w w1 w2 : World} (h : TurnsB g C w w1) (ho : OnlyO S g w1 w2) (hS : w.heap.size ≤ S) : TurnsB g C w w2 :=
  ⟨ho.os.trans h.os, ho.tape.trans h.tape, ho.output.trans h.output, Nat.le_trans h.size ho.size, fun k hk h1 h2 => (ho.block k (Nat.lt_of_lt_of_le hk h.size) h1 (.inl (by omega))).trans (h.block k hk h1 h2)⟩
theorem TurnsB.rd {g C B : Nat} {w w1 : World} {A : Option Addr} {xs : List Value} (h : TurnsB g C w w1) (hr : Rd w B A xs) (hB : B ≤ w.heap.size) (hA : ∀ p, A = some p → p.block ≠ g ∧ p.block ≠ C) : Rd w1 B A xs := fun k u hu => by
  obtain ⟨b, off, rfl, hb, hc⟩ := hr k u hu
  obtain ⟨h1, h2⟩ := hA _ rfl
  exact ⟨b, off, rfl, hb, (World.cell?_of_block (h.block b (by omega) h1 h2)).trans hc⟩
/-- What holds at the head of a round of the first loop. -/
def RC1 (w3 : World) (S g CB D : Nat) (ws : List Nat) (L : List Bool) (i : Value) (wr : World) : Prop :=
  ∃ (k A N : Nat) (o R : List Bool), k ≤ ws.length ∧ i = .int .i64 (k : Int) ∧ RiceB D A N (ws.drop k) R ∧ o ++ R = L ∧ CountsOk D A N ∧ WrO wr S g o ∧ Blk wr CB 325 [.int .u64 (A : Int), .int .u64 (N : Int)] ∧ TurnsB g CB w3 wr
/-- .. of the second. -/
def RC2 (w3 : World) (S g CB : Nat) (rs : List UInt8) (L : List Bool) (i : Value) (wr : World) : Prop :=
  ∃ k : Nat, k ≤ rs.length ∧ i = .int .i64 (k : Int) ∧ WrO wr S g (L ++ allBits (rs.take k)) ∧ TurnsB g CB w3 wr
theorem allBits_next (rs : List UInt8) (k : Nat) (h : k < rs.length) : allBits (rs.take (k + 1)) = allBits (rs.take k) ++ bitsOf rs[k].toNat 8 := by
  rw [← allBits_snoc, List.take_add_one, List.getElem?_eq_getElem h]; rfl
set_option maxHeartbeats 2000000 in
set_option maxRecDepth 100000 in
theorem riceCode_gen {w : World} {A : Option Addr} {n c : Nat} {W : Int} {D : Nat} {ws : List Nat} {rs : List UInt8} {L : List Bool}
    (hT : ∀ W', Below w.heap.size w W' → Calls Tryz.prog 282 #[.slice A n c, .int .i64 W] W' (NewTakeF W' ws rs)) (hlay : ws ≠ [] → ∃ V, IsW V ∧ W = (V : Int) ∧ D = 8 * V) (hv : ∀ x ∈ ws, x < 2 ^ D) (hD : 8 ≤ D)
    (hL : RiceB D 16 1 ws L) (hLl : L.length ≤ 700000) (hwl : ws.length ≤ 100000) (hrl : rs.length ≤ 8) :
    Calls Tryz.prog 278 #[.slice A n c, .int .i64 W] w fun e w' => ∃ bs, Packs bs (L ++ allBits rs) ∧ NewBy w bs e w' := by
  have CT := Lib.hid hT
  have HLAY := Lib.hid (fun (hne : ws ≠ []) (A N K v g B : Nat) (l : List Bool) (w' : World) (hc : CountsOk D A N) (hK : IsK A N K) (hv : v < 2 ^ D) (hw : WrO w' B g l) (hl : l.length ≤ 800000) =>
    show Calls Tryz.prog 283 #[cntV A N, .pointer (some ⟨g, 0, none⟩), .int .u64 (v : Int), .int .i64 W] w' fun e w'' => e = .returned (cntV (behindA A N v) (behindN N)) ∧ WrO w'' B g (l ++ riceW D K v) ∧ OnlyO B g w' w'' by
      obtain ⟨V, hV, rfl, rfl⟩ := hlay hne
      exact riceLay_any hV hc hK hv w' hw hl)
  have HV := Lib.hid hv
  have HD := Lib.hid hD
  have HL := Lib.hid hL
  have HLL := Lib.hid hLl
  have HWL := Lib.hid hwl
  have HRL := Lib.hid hrl
  have C0 := Lib.hid (fun W' => riceFirst_any W')
  clear hT hlay hv hD hL hLl hwl hrl
  go_enter Tryz.func278, Tryz.ntmps278
  go_wp2_with fail
  obtain ⟨w1, hw1⟩ : ∃ w1, w1 = w.alloc (.cells #[.slice none 0 0, .int .i64 0] 159) := ⟨_, rfl⟩
  have hg1 : Blk w1 w.heap.size 159 [.slice none 0 0, .int .i64 0] := by rw [hw1]; exact heap_alloc_new w _
  have hb1 : Below w.heap.size w w1 := by rw [hw1]; exact (Below.refl _ _).alloc (Nat.le_refl _) _
  rw [← hw1]
  clear hw1
  refine (C0.out _).mono ?_
  rintro _ w2 ⟨rfl, hb2⟩
  unfold cntV
  have hg2 := hg1.grow hb2
  have hbb2 := hb1.trans (hb2.mono hb1.size)
  clear hb2 C0 hg1 hb1
  go_wp2_with fail
  obtain ⟨w3, hw3⟩ : ∃ w3, w3 = w2.alloc (.cells #[.int .u64 16, .int .u64 1] 325) := ⟨_, rfl⟩
  have hc3 : Blk w3 w2.heap.size 325 [.int .u64 16, .int .u64 1] := by rw [hw3]; exact heap_alloc_new w2 _
  have hb3 : Below w2.heap.size w2 w3 := by rw [hw3]; exact (Below.refl _ _).alloc (Nat.le_refl _) _
  have hgw : w.heap.size ≤ w2.heap.size := hbb2.size
  have hgc : w.heap.size ≠ w2.heap.size := by have := hg2.lt; omega
  rw [← hw3]
  have hg3 := hg2.grow hb3
  have hbb3 := hbb2.trans (hb3.mono hbb2.size)
  obtain ⟨CB, hCB⟩ : ∃ CB, CB = w2.heap.size := ⟨_, rfl⟩
  rw [← hCB] at hc3 hgw hgc ⊢
  clear hw3 hb3 hbb2 hg2 hCB
  refine (CT.out w3 hbb3).mono ?_
  rintro _ w4 ⟨v1, v2, rfl, h1, h2, hb4⟩
  obtain ⟨⟨A1, c1, rfl, hc1, hr1⟩, hf1⟩ := h1
  obtain ⟨⟨A2, c2, rfl, hc2, hr2⟩, hf2⟩ := h2
  have hcl : CB < w3.heap.size := hc3.lt
  have hgl : w.heap.size < w3.heap.size := hg3.lt
  have HR1 := Lib.hid hr1
  have HR2 := Lib.hid hr2
  have HF1 := Lib.hid (fun p (e : A1 = some p) => show p.block ≠ w.heap.size ∧ p.block ≠ CB by have := hf1 p _ _ (by rw [e]); exact ⟨by omega, by omega⟩)
  have HF2 := Lib.hid (fun p (e : A2 = some p) => show p.block ≠ w.heap.size ∧ p.block ≠ CB by have := hf2 p _ _ (by rw [e]); exact ⟨by omega, by omega⟩)
  have HB4 := Lib.hid (hbb3.trans (hb4.mono hbb3.size))
  have HC4 := Lib.hid (hc3.grow hb4)
  have HG4 := Lib.hid (WrO.new (B := w4.heap.size) (hg3.grow hb4) (Nat.le_refl _))
  rw [wvs_length]
  have HREL := Lib.hid (show RC1 w4 w4.heap.size w.heap.size CB D ws L (.int .i64 ((0 : Nat) : Int)) w4 from ⟨0, 16, 1, [], L, Nat.zero_le _, rfl, HL.out, rfl, counts_start HD.out, HG4.out, HC4.out, TurnsB.refl _ _ _⟩)
  have hws := HWL.out
  clear hb4 hc3 hg3 hbb3 hr1 hr2 hf1 hf2 hcl hgl hc1 hc2 CT
  go_wp2
  go_loopw [24] (RC1 w4 w4.heap.size w.heap.size CB D ws L) (fun i _ => ws.length - (intOf i).toNat)
  case atStart => exact HREL.out
  case round =>
    clear HREL
    obtain ⟨k, A0, N0, o, R, hk, rfl, hric, hoR, hcok, hwr, hblk, htr⟩ := hrel
    have HTR := Lib.hid htr
    have HBL := Lib.hid hblk
    have HWR := Lib.hid hwr
    by_cases hlt : k < ws.length
    · obtain ⟨K, R2, hK, rfl, hric2⟩ := riceB_next hric hlt
      obtain ⟨ab, ao, rfl, hab, hcell⟩ := (HTR.out.rd HR1.out (Nat.le_refl _) HF1.out) k _ (wvs_get ws k hlt)
      have hol := congrArg List.length hoR
      rw [List.length_append] at hol
      have CL := Lib.hid (HLAY.out (fun e => by rw [e] at hlt; simp at hlt) A0 N0 K ws[k] w.heap.size w4.heap.size o wr hcok hK (HV.out _ (List.getElem_mem hlt)) HWR.out (by have := HLL.out; omega))
      have HK := Lib.hid (And.intro (show o ++ riceW D K ws[k] ++ R2 = L by rw [List.append_assoc]; exact hoR) (And.intro hric2 (counts_behind hcok (HV.out _ (List.getElem_mem hlt)))))
      have hc0 := hblk.cell 0
      have hc1 := hblk.cell 1
      simp only [List.getElem?_cons_zero, List.getElem?_cons_succ] at hc0 hc1
      obtain ⟨v, hv⟩ : ∃ v, v = ws[k] := ⟨_, rfl⟩
      rw [← hv] at CL HK hcell
      have hki : (k : Int) < (ws.length : Int) := by omega
      unfold cntV at CL
      clear hric hoR hcok hwr hblk htr hric2 hK hol hv
      go_wp2_with fail
      refine CL.out.mono ?_
      rintro _ w5 ⟨rfl, hw5, ho5⟩
      have hb5 := ho5.blkT HBL.out (by decide) (Ne.symm hgc)
      have hd0 := hb5.cell 0
      have hd1 := hb5.cell 1
      have hf0 := hb5.frozen 0
      have hf1 := hb5.frozen 1
      simp only [List.getElem?_cons_zero, List.getElem?_cons_succ] at hd0 hd1
      have HB5 := Lib.hid hb5
      have HW5 := Lib.hid hw5
      have HT5 := Lib.hid (HTR.out.onlyO ho5 (Nat.le_refl _))
      clear hc0 hc1 hb5 hw5 ho5 CL hcell
      go_wp2
      go_roundw
      case rel => exact ⟨k + 1, behindA A0 N0 v, behindN N0, _, R2, by omega, by go_num, HK.out.2.1, HK.out.1, HK.out.2.2, (HW5.out.set_ HB5.out (Ne.symm hgc) (by decide) _).set_ (HB5.out.set_ 0 _) (Ne.symm hgc) (by decide) _, (HB5.out.set_ 0 _).set_ 1 _, (HT5.out.trans (TurnsB.set_ 0 _)).trans (TurnsB.set_ 1 _)⟩
      case measure => simp [intOf]; omega
    · obtain rfl : k = ws.length := by omega
      obtain ⟨Wr, hWr⟩ : ∃ Wr, Wr = wr := ⟨_, rfl⟩
      subst hWr
      rw [List.drop_length] at hric
      obtain rfl : R = [] := by cases hric; rfl
      rw [List.append_nil] at hoR
      subst hoR
      have HREL2 := Lib.hid (show RC2 w4 w4.heap.size w.heap.size CB rs o (.int .i64 ((0 : Nat) : Int)) Wr from ⟨0, Nat.zero_le _, rfl, by rw [List.take_zero, show allBits [] = [] from rfl, List.append_nil]; exact hwr, htr⟩)
      clear hric hcok hwr hblk htr hlt hk
      go_wp2
      go_loopw [36] (RC2 w4 w4.heap.size w.heap.size CB rs o) (fun i _ => rs.length - (intOf i).toNat)
      case atStart => exact HREL2.out
      case round =>
        clear HREL2 HTR HBL HWR
        obtain ⟨k, hk, rfl, hwr, htr⟩ := hrel
        have hrl := HRL.out
        have hll := HLL.out
        have HTR := Lib.hid htr
        have HWR := Lib.hid hwr
        have hab8 : (allBits (rs.take k)).length ≤ 64 := by rw [allBits_length, List.length_take]; omega
        by_cases hlt : k < rs.length
        · obtain ⟨ab, ao, rfl, hab, hcell⟩ := (HTR.out.rd HR2.out (Nat.le_refl _) HF2.out) k _ (bvs_get rs k hlt)
          obtain ⟨v, hv⟩ : ∃ v, v = (rs[k]'hlt).toNat := ⟨_, rfl⟩
          have hv256 : v < 256 := by rw [hv]; exact (rs[k]'hlt).toNat_lt
          have CP := Lib.hid (oPut_any w.heap.size w4.heap.size _ v 8 wr HWR.out (by rw [List.length_append]; omega) (by omega) (by decide))
          rw [List.append_assoc, hv, ← allBits_next rs k hlt, ← hv] at CP
          rw [← hv] at hcell
          have hki : (k : Int) < (rs.length : Int) := by omega
          have hvw : IntKind.u64.wrap (v : Int) = (v : Int) := by rw [IntKind.wrap_u64]; omega
          clear hwr htr hv hab8
          go_wp2_with fail
          refine CP.out.mono ?_
          rintro _ w5 ⟨rfl, hw5, ho5⟩
          have HW5 := Lib.hid hw5
          have HT5 := Lib.hid (HTR.out.onlyO ho5 (Nat.le_refl _))
          clear hw5 ho5 CP hcell
          go_wp2
          go_roundw
          case rel => exact ⟨k + 1, by omega, by go_num, HW5.out, HT5.out⟩
          case measure => simp [intOf]; omega
        · obtain rfl : k = rs.length := by omega
          rw [List.take_length] at hwr hab8
          have CB2 := Lib.hid (oBytes_any w.heap.size w4.heap.size _ wr hwr (by rw [List.length_append]; omega))
          have HBW := Lib.hid (HB4.out.trans (HTR.out.below (Nat.le_refl _) hgw HB4.out.size))
          clear hwr htr hab8 HWR
          go_wp2_with fail
          refine CB2.out.mono ?_
          rintro _ w6 ⟨bs, hp, v6, rfl, hown, hb6⟩
          have HE := Lib.hid (And.intro hp (And.intro (own_more hown HBW.out.size) (HBW.out.trans (hb6.mono HBW.out.size))))
          clear hp hown hb6 CB2
          go_wp2
          go_ret
          exact ⟨bs, HE.out.1, _, rfl, HE.out.2.1, HE.out.2.2⟩
end Go.Proofs.YtflcmmeoppdhdaaGreat
namespace Go.Proofs.YtflcmmeoppdhdaaGreat
open Go.RowKit Go.Sort

theorem packs_some : ∀ (n : Nat) (L : List Bool), L.length = n → ∃ bs, Packs bs L
  | 0, L, h => by
    obtain rfl := List.length_eq_zero_iff.1 h
    exact ⟨[], Packs.nil⟩
  | n + 1, L, h => by
    have hne : L ≠ [] := fun e => by rw [e] at h; simp at h
    have e := List.dropLast_concat_getLast hne
    obtain ⟨bs, hb⟩ := packs_some n L.dropLast (by rw [List.length_dropLast]; omega)
    obtain ⟨b, hbb⟩ : ∃ b, b = L.getLast hne := ⟨_, rfl⟩
    rw [← hbb] at e
    rw [← e]
    obtain ⟨M, hM⟩ : ∃ M, M = L.dropLast := ⟨_, rfl⟩
    rw [← hM] at hb ⊢
    obtain ⟨c, hc⟩ : ∃ c : UInt8, c.toNat = ((if M.length % 8 = 0 then bs ++ [0] else bs).getD (M.length / 8) 0).toNat ||| b.toNat <<< (M.length % 8) := by
      refine ⟨UInt8.ofNat (((if M.length % 8 = 0 then bs ++ [0] else bs).getD (M.length / 8) 0).toNat ||| b.toNat <<< (M.length % 8)), ?_⟩
      rw [UInt8.toNat_ofNat', Nat.mod_eq_of_lt]
      have h1 := ((if M.length % 8 = 0 then bs ++ [0] else bs).getD (M.length / 8) 0).toNat_lt
      refine Nat.or_lt_two_pow (n := 8) h1 ?_
      have hr : M.length % 8 < 8 := Nat.mod_lt _ (by decide)
      obtain ⟨r, hr2⟩ : ∃ r, r = M.length % 8 := ⟨_, rfl⟩
      rw [← hr2] at hr ⊢
      have h2 : b.toNat ≤ 1 := by cases b <;> simp
      rw [Nat.shiftLeft_eq]
      have h3 : 2 ^ r ≤ 2 ^ 7 := Nat.pow_le_pow_right (by decide) (by omega)
      have h4 := Nat.mul_le_mul h2 h3
      omega
    exact ⟨_, hb.snoc b _ rfl c hc⟩
/-- What Code tells of bytes, by any width. -/
def RiceSays (W : Int) (l bs : List UInt8) : Prop :=
  (rightB W = false ∧ bs = []) ∨ ∃ (V : Nat) (L : List Bool), IsW V ∧ W = (V : Int) ∧ RiceB (8 * V) 16 1 (wordsOf V l) L ∧ Packs bs (L ++ allBits (restOf V l))
theorem RiceSays.one {W : Int} {l bs bs' : List UInt8} (h : RiceSays W l bs) (h' : RiceSays W l bs') : bs = bs' := by
  rcases h with ⟨h1, rfl⟩ | ⟨V, L, h1, h2, h3, h4⟩ <;> rcases h' with ⟨g1, rfl⟩ | ⟨V', L', g1, g2, g3, g4⟩
  · rfl
  · have := g1.right; rw [← g2, h1] at this; cases this
  · have := h1.right; rw [← h2, g1] at this; cases this
  · obtain rfl : V = V' := by omega
    obtain rfl := h3.one g3
    exact h4.unique g4
theorem riceWords_lt {V : Nat} (hV : IsW V) (l : List UInt8) : ∀ x ∈ wordsOf V l, x < 2 ^ (8 * V) := fun x hx => by
  rw [show 2 ^ (8 * V) = 256 ^ V by rw [Nat.pow_mul]]
  exact wordsOf_lt (W := V) (by have := hV.pos; omega) l x hx
/-- Words' bits by a right width. -/
theorem riceL_some {V : Nat} (hV : IsW V) (l : List UInt8) : ∃ L, RiceB (8 * V) 16 1 (wordsOf V l) L ∧ L.length ≤ (24 + 8 * V) * (l.length / V) := by
  obtain ⟨L, h1, h2⟩ := riceB_some (D := 8 * V) (wordsOf V l) 16 1 (counts_start (D_le hV).1) (riceWords_lt hV l)
  rw [wordsOf_len] at h2
  exact ⟨L, h1, h2⟩
theorem riceL_len {V n q : Nat} (hV : IsW V) (h : n ≤ (24 + 8 * V) * (q / V)) (hq : q ≤ 4000) : n ≤ 200000 := by
  rcases hV with rfl | rfl | rfl | rfl <;> omega
theorem riceSays_some (W : Int) (l : List UInt8) : ∃ bs, RiceSays W l bs := by
  by_cases hW : rightB W = true
  · obtain ⟨V, rfl, hV⟩ := isW_of hW
    obtain ⟨L, h1, -⟩ := riceL_some hV l
    obtain ⟨bs, hb⟩ := packs_some _ (L ++ allBits (restOf V l)) rfl
    exact ⟨bs, .inr ⟨V, L, hV, rfl, h1, hb⟩⟩
  · exact ⟨[], .inl ⟨by simpa using hW, rfl⟩⟩
theorem allBits_cons : ∀ (n : Nat) (x : UInt8) (t : List UInt8), t.length = n → allBits (x :: t) = bitsOf x.toNat 8 ++ allBits t
  | 0, x, t, h => by
    obtain rfl := List.length_eq_zero_iff.1 h
    have := allBits_snoc [] x
    rw [List.nil_append] at this
    rw [this, show allBits [] = [] from rfl, List.nil_append, List.append_nil]
  | n + 1, x, t, h => by
    have hne : t ≠ [] := fun e => by rw [e] at h; simp at h
    have e := List.dropLast_concat_getLast hne
    have ih := allBits_cons n x t.dropLast (by rw [List.length_dropLast]; omega)
    rw [← e, ← List.cons_append, allBits_snoc, ih, allBits_snoc, List.append_assoc]
theorem restF_all : ∀ (rs : List UInt8) (R : List Bool), restF rs.length (allBits rs ++ R, 0) = (rs, (R, 0))
  | [], R => by simp [restF, show allBits [] = [] from rfl]
  | x :: t, R => by
    have hx := x.toNat_lt
    obtain ⟨g1, g2⟩ := getV_bits x.toNat 8 (allBits t ++ R)
    rw [← List.append_assoc, ← allBits_cons _ x t rfl] at g1 g2
    rw [List.length_cons, restF, g1, g2, restF_all t R, Nat.mod_eq_of_lt (by omega)]
    simp
theorem any_zeros (k : Nat) : (List.replicate k false).any id = false := by
  rw [List.any_eq_false]
  intro x hx
  simp [(List.mem_replicate.1 hx).2]
/-- **P19.3**, for both: what Code laid, with so many noughts behind. -/
theorem rice_back {V : Nat} (hV : IsW V) {l bs : List UInt8} (h : RiceSays (V : Int) l bs) :
    (∃ o, RiceR (8 * V) (l.length / V) 16 1 (allBits bs, 0) o ∧ riceOut V l.length o = (l, 0)) ∧ ∃ o, RiceR (8 * V) (l.length / V) 16 1 (allBits (bs ++ [0]), 0) o ∧ riceOut V l.length o = ([], 16) := by
  rcases h with ⟨h1, -⟩ | ⟨V', L, h1, h2, h3, h4⟩
  · have := hV.right; rw [h1] at this; cases this
  · obtain rfl : V = V' := by omega
    have hp : 0 < V := by have := hV.pos; omega
    have hall := h4.all
    have hlen := h4.1
    obtain ⟨p, hpp⟩ : ∃ p, p = 8 * bs.length - (L ++ allBits (restOf V l)).length := ⟨_, rfl⟩
    rw [← hpp] at hall
    have hp8 : p < 8 := by omega
    have hrl : l.length % V = (restOf V l).length := by
      rw [restOf_len]
      have := Nat.div_add_mod l.length V
      rw [Nat.mul_comm] at this
      omega
    have hgo : ∀ q, RiceR (8 * V) (l.length / V) 16 1 (L ++ allBits (restOf V l) ++ List.replicate q false, 0) (some (wordsOf V l, (allBits (restOf V l) ++ List.replicate q false, 0))) := fun q => by
      have := h3.told (riceWords_lt hV l) (allBits (restOf V l) ++ List.replicate q false)
      rw [wordsOf_len, ← List.append_assoc] at this
      exact this
    have hout : ∀ q, riceOut V l.length (some (wordsOf V l, (allBits (restOf V l) ++ List.replicate q false, 0))) = if doneE (List.replicate q false, 0) = 0 then (l, 0) else ([], 16) := fun q => by
      unfold riceOut
      simp only
      rw [hrl, restF_all, lay_words]
    refine ⟨⟨_, by rw [hall]; exact hgo p, ?_⟩, ⟨_, by rw [allBits_snoc, hall, List.append_assoc, show bitsOf (0 : UInt8).toNat 8 = List.replicate 8 false from rfl, List.replicate_append_replicate]; exact hgo (p + 8), ?_⟩⟩
    · rw [hout, if_pos]
      unfold doneE
      rw [if_neg (by simp), if_neg (by simp; omega), if_neg (by rw [any_zeros]; simp)]
    · rw [hout, if_neg]
      unfold doneE
      rw [if_neg (by simp), if_pos (by simp)]
      decide
/-- The program's Code, by any width. -/
theorem riceCode_says (W : Int) {v : Value} {l : List UInt8} {w : World} (h : IsBytes l v w) (hl : l.length ≤ 4000) {Q : List UInt8} (hQ : RiceSays W l Q) :
    Calls Tryz.prog 278 #[v, .int .i64 W] w (NewBy w Q) := by
  obtain ⟨A, c, rfl, hc, hr⟩ := h
  by_cases hW : rightB W = true
  · obtain ⟨V, rfl, hV⟩ := isW_of hW
    obtain ⟨L, h1, h2⟩ := riceL_some hV l
    have h3 := riceL_len hV h2 hl
    refine (riceCode_gen (ws := wordsOf V l) (rs := restOf V l) (fun W' hb => wordTakeF_any V hV A l.length c l W' ((hr.below hb).more hb.size) rfl hc (by omega)) (fun _ => ⟨V, hV, rfl, rfl⟩) (riceWords_lt hV l) (D_le hV).1 h1 (by omega) (by rw [wordsOf_len]; have := Nat.div_le_self l.length V; omega) (by have := rest_lt (W := V) (by have := hV.pos; omega) l; have := hV.pos; omega)).mono ?_
    rintro e w' ⟨bs, hp, hn⟩
    obtain rfl := hQ.one (.inr ⟨V, L, hV, rfl, h1, hp⟩)
    exact hn
  · have hW2 : rightB W = false := by simpa using hW
    refine (riceCode_gen (D := 8) (ws := []) (rs := []) (fun W' hb => wordTakeF_wrong A l.length c W W' hW2) (fun h => absurd rfl h) (by simp) (Nat.le_refl _) (.none 16 1) (by simp) (by simp) (by simp)).mono ?_
    rintro e w' ⟨bs, hp, hn⟩
    obtain rfl : bs = [] := hp.unique Packs.nil
    obtain rfl := hQ.one (.inl ⟨hW2, rfl⟩)
    exact hn
end Go.Proofs.YtflcmmeoppdhdaaGreat
namespace Go.Proofs.YtflcmmeoppdhdaaGreat

/-- The number behind the last code of so many bits, where c tells how many codes have so many bits. -/
def ends (c : Nat → Nat) : Nat → Nat
  | 0 => 0
  | n + 1 => 2 * ends c n + c (n + 1)
/-- Where the codes of n bits end, among numbers of 15 bits. -/
def bound (c : Nat → Nat) (n : Nat) : Nat := ends c n * 2 ^ (15 - n)
theorem bound_step (c : Nat → Nat) {n : Nat} (h : n < 15) : bound c (n + 1) = bound c n + c (n + 1) * 2 ^ (15 - (n + 1)) ∧ bound c n = 2 * ends c n * 2 ^ (15 - (n + 1)) := by
  unfold bound
  have e : 15 - n = (15 - (n + 1)) + 1 := by omega
  have e2 : ends c n * 2 ^ (15 - n) = 2 * ends c n * 2 ^ (15 - (n + 1)) := by rw [e, Nat.pow_succ, Nat.mul_comm (2 ^ _) 2, ← Nat.mul_assoc, Nat.mul_comm (ends c n) 2]
  refine ⟨?_, e2⟩
  rw [e2]
  show (2 * ends c n + c (n + 1)) * 2 ^ (15 - (n + 1)) = _
  rw [Nat.add_mul]
theorem bound_mono (c : Nat → Nat) {m n : Nat} (h : m ≤ n) (hn : n ≤ 15) : bound c m ≤ bound c n := by
  obtain ⟨d, rfl⟩ : ∃ d, n = m + d := ⟨n - m, by omega⟩
  clear h
  induction d with
  | zero => exact Nat.le_refl _
  | succ d ih =>
    have h1 := ih (by omega)
    have h2 := (bound_step c (n := m + d) (by omega)).1
    have h3 : m + (d + 1) = m + d + 1 := by omega
    rw [h3, h2]
    omega
/-- Do a number's first n bits (of 15) make one of the codes of n bits? -/
def hit (c : Nat → Nat) (v n : Nat) : Prop := 2 * ends c (n - 1) ≤ v / 2 ^ (15 - n) ∧ v / 2 ^ (15 - n) < ends c n
theorem hit_bound (c : Nat → Nat) (v : Nat) {n : Nat} (h1 : 1 ≤ n) (h2 : n ≤ 15) : hit c v n ↔ bound c (n - 1) ≤ v ∧ v < bound c n := by
  obtain ⟨m, rfl⟩ : ∃ m, n = m + 1 := ⟨n - 1, by omega⟩
  have hp : 0 < 2 ^ (15 - (m + 1)) := Nat.two_pow_pos _
  unfold hit
  rw [Nat.add_sub_cancel, (bound_step c (n := m) (by omega)).2, Nat.le_div_iff_mul_le hp, Nat.div_lt_iff_lt_mul hp]
  rfl
theorem hit_one (c : Nat → Nat) (v : Nat) {m n : Nat} (hm : 1 ≤ m) (hn : n ≤ 15) (hmn : m < n) (h : hit c v m) : ¬ hit c v n := fun h' => by
  have h1 := ((hit_bound c v hm (by omega)).1 h).2
  have h2 := ((hit_bound c v (by omega) hn).1 h').1
  have h3 := bound_mono c (m := m) (n := n - 1) (by omega) (by omega)
  omega
theorem ends_add (c d : Nat → Nat) : ∀ m, ends (fun n => c n + d n) m = ends c m + ends d m := by
  intro m
  induction m with
  | zero => rfl
  | succ m ih => simp only [ends]; rw [ih]; omega
theorem ends_only (x : Nat) : ∀ m, ends (fun n => if n = x then 1 else 0) m = if 1 ≤ x ∧ x ≤ m then 2 ^ (m - x) else 0 := by
  intro m
  induction m with
  | zero =>
    show 0 = _
    rw [if_neg (by omega)]
  | succ m ih =>
    simp only [ends]
    rw [ih]
    by_cases h1 : 1 ≤ x ∧ x ≤ m
    · have e : m + 1 - x = (m - x) + 1 := by omega
      rw [if_pos h1, if_neg (by omega), if_pos (by omega), e, Nat.pow_succ]; omega
    · rw [if_neg h1]
      by_cases h2 : m + 1 = x
      · rw [if_pos h2, if_pos (by omega), show m + 1 - x = 0 by omega]
      · rw [if_neg h2, if_neg (by omega)]
/-- How many lens are n. -/
def lenC (l : List Nat) (n : Nat) : Nat := l.count n
/-- Kraft's sum of lens. -/
def kraftL (l : List Nat) : Nat := (l.map fun x => if 1 ≤ x ∧ x ≤ 15 then 2 ^ (15 - x) else 0).sum
theorem kraft_ends (l : List Nat) : kraftL l = ends (lenC l) 15 := by
  induction l with
  | nil =>
    have h : ∀ m, ends (lenC []) m = 0 := by
      intro m
      induction m with
      | zero => rfl
      | succ m ih => simp only [ends]; rw [ih]; simp [lenC]
    rw [h]
    rfl
  | cons x l ih =>
    have e : lenC (x :: l) = fun n => lenC l n + if n = x then 1 else 0 := by
      funext n
      unfold lenC
      rw [List.count_cons]
      congr 1
      by_cases h : n = x
      · subst h; simp
      · rw [if_neg h, if_neg (by simpa using fun e => h e.symm)]
    rw [e, ends_add, ends_only, ← ih]
    simp only [kraftL, List.map_cons, List.sum_cons]
    omega
theorem bound_all (c : Nat → Nat) : bound c 15 = ends c 15 := by simp [bound]
/-- A letter's code. -/
def codeL (l : List Nat) (i : Nat) : Nat := 2 * ends (lenC l) (l.getD i 0 - 1) + (l.take i).count (l.getD i 0)
theorem count_take_lt (l : List Nat) {i : Nat} (h : i < l.length) : (l.take i).count (l.getD i 0) < l.count (l.getD i 0) := by
  have e : l.getD i 0 = l[i] := by simp [List.getD_eq_getElem?_getD, h]
  rw [e]
  have h1 : (l.take (i + 1)).count l[i] = (l.take i).count l[i] + 1 := by
    rw [List.take_add_one, List.getElem?_eq_getElem h, List.count_append]; simp
  have h2 := List.Sublist.count_le l[i] (List.take_sublist (i + 1) l)
  omega
/-- A code of n bits lies among those of n bits. -/
theorem codeL_in (l : List Nat) {i : Nat} (h : i < l.length) (h0 : 1 ≤ l.getD i 0) : 2 * ends (lenC l) (l.getD i 0 - 1) ≤ codeL l i ∧ codeL l i < ends (lenC l) (l.getD i 0) := by
  have h1 := count_take_lt l h
  unfold codeL
  refine ⟨by omega, ?_⟩
  obtain ⟨m, hm⟩ : ∃ m, l.getD i 0 = m + 1 := ⟨l.getD i 0 - 1, by omega⟩
  rw [hm] at h1 ⊢
  rw [Nat.add_sub_cancel]
  show _ < 2 * ends (lenC l) m + l.count (m + 1)
  omega
theorem codeL_one (l : List Nat) {i j : Nat} (hi : i < l.length) (hj : j < l.length) (hn : l.getD i 0 = l.getD j 0) (hc : codeL l i = codeL l j) : i = j := by
  have key : ∀ {i j : Nat}, i < j → j < l.length → l.getD i 0 = l.getD j 0 → (l.take i).count (l.getD i 0) < (l.take j).count (l.getD i 0) := fun {i j} hij hj hn => by
    have e : l.getD i 0 = l[i]'(by omega) := by simp [List.getD_eq_getElem?_getD, show i < l.length by omega]
    rw [e]
    have h1 : (l.take (i + 1)).count l[i] = (l.take i).count l[i] + 1 := by
      rw [List.take_add_one, List.getElem?_eq_getElem (show i < l.length by omega), List.count_append]; simp
    have h2 : (l.take (i + 1)).count l[i] ≤ (l.take j).count l[i] := by
      have : l.take (i + 1) = (l.take j).take (i + 1) := by rw [List.take_take, Nat.min_eq_left (by omega)]
      rw [this]
      exact List.Sublist.count_le _ (List.take_sublist _ _)
    omega
  unfold codeL at hc
  rw [← hn] at hc
  rcases Nat.lt_trichotomy i j with e | e | e
  · have := key e hj hn; omega
  · exact e
  · have := key e hi hn.symm
    rw [← hn] at this
    omega
end Go.Proofs.YtflcmmeoppdhdaaGreat
namespace Go.Proofs.YtflcmmeoppdhdaaGreat

/-- Is a letter ahead of another: its len is less, or the same and its number is less. -/
def lexB (l : List Nat) (i j : Nat) : Bool := decide (l.getD i 0 < l.getD j 0 ∨ (l.getD i 0 = l.getD j 0 ∧ i < j))
theorem lexB_irrefl (l : List Nat) (i : Nat) : lexB l i i = false := by unfold lexB; exact decide_eq_false (by omega)
theorem lexB_asymm {l : List Nat} {i j : Nat} (h : lexB l i j = true) : lexB l j i = false := by unfold lexB at *; simp only [decide_eq_true_eq] at h; exact decide_eq_false (by omega)
/-- The letters that are there, by their numbers. -/
def hereL (l : List Nat) : List Nat := (List.range l.length).filter fun i => decide (0 < l.getD i 0)
/-- In order. -/
structure OrdL (l S : List Nat) : Prop where
  perm : S.Perm (hereL l)
  up : S.Pairwise fun i j => lexB l i j = true
theorem hereL_mem {l : List Nat} {i : Nat} : i ∈ hereL l ↔ i < l.length ∧ 0 < l.getD i 0 := by unfold hereL; simp
theorem hereL_nodup (l : List Nat) : (hereL l).Nodup := List.Pairwise.filter _ List.nodup_range
theorem OrdL.mem {l S : List Nat} (h : OrdL l S) {i : Nat} : i ∈ S ↔ i < l.length ∧ 0 < l.getD i 0 := by rw [h.perm.mem_iff, hereL_mem]
theorem take_lex {l S : List Nat} (h : S.Pairwise fun i j => lexB l i j = true) {t : Nat} (ht : t < S.length) : S.filter (fun x => lexB l x S[t]) = S.take t := by
  have e : S = S.take t ++ S[t] :: S.drop (t + 1) := by rw [← List.drop_eq_getElem_cons ht, List.take_append_drop]
  obtain ⟨p, hp⟩ : ∃ p, p = S[t] := ⟨_, rfl⟩
  rw [← hp] at e ⊢
  obtain ⟨u, hu⟩ : ∃ u, u = S.take t := ⟨_, rfl⟩
  obtain ⟨v, hv⟩ : ∃ v, v = S.drop (t + 1) := ⟨_, rfl⟩
  rw [← hu, ← hv] at e
  rw [← hu, e] 
  rw [e, List.pairwise_append] at h
  obtain ⟨-, h2, h3⟩ := h
  rw [List.pairwise_cons] at h2
  rw [List.filter_append, List.filter_cons_of_neg (by rw [lexB_irrefl]; decide)]
  rw [List.filter_eq_self.2 fun x hx => h3 x hx p List.mem_cons_self]
  rw [List.filter_eq_nil_iff.2 fun x hx => by rw [lexB_asymm (h2.1 x hx)]; decide]
  rw [List.append_nil]
/-- What a code of so many bits takes of all. -/
def wK (l : List Nat) (i : Nat) : Nat := 2 ^ (15 - l.getD i 0)
def sumK (l S : List Nat) : Nat := (S.map (wK l)).sum
theorem sumK_perm {l S S' : List Nat} (h : S.Perm S') : sumK l S = sumK l S' := (h.map _).sum_nat
/-- The sum of those of fewer than m bits. -/
def lowK (m : Nat) (l : List Nat) : Nat := (l.map fun x => if 1 ≤ x ∧ x + 1 ≤ m then 2 ^ (15 - x) else 0).sum
theorem sum_ends (l : List Nat) (M : Nat) : ends (lenC l) M = (l.map fun x => if 1 ≤ x ∧ x ≤ M then 2 ^ (M - x) else 0).sum := by
  induction l with
  | nil =>
    have h : ∀ m, ends (lenC []) m = 0 := by
      intro m
      induction m with
      | zero => rfl
      | succ m ih => simp only [ends]; rw [ih]; simp [lenC]
    rw [h]
    rfl
  | cons x l ih =>
    have e : lenC (x :: l) = fun n => lenC l n + if n = x then 1 else 0 := by
      funext n
      unfold lenC
      rw [List.count_cons]
      congr 1
      by_cases h : n = x
      · subst h; simp
      · rw [if_neg h, if_neg (by simpa using fun e => h e.symm)]
    rw [e, ends_add, ends_only, ih]
    simp only [List.map_cons, List.sum_cons]
    omega
theorem lowK_ends (l : List Nat) {m : Nat} (h1 : 1 ≤ m) (h2 : m ≤ 15) : lowK m l = 2 * ends (lenC l) (m - 1) * 2 ^ (15 - m) := by
  rw [sum_ends]
  unfold lowK
  induction l with
  | nil => simp
  | cons x l ih =>
    simp only [List.map_cons, List.sum_cons]
    rw [ih, Nat.mul_add, Nat.add_mul]
    congr 1
    by_cases h : 1 ≤ x ∧ x + 1 ≤ m
    · rw [if_pos h, if_pos (by omega)]
      rw [show 15 - x = (m - 1 - x) + 1 + (15 - m) by omega, Nat.pow_add, Nat.pow_succ, Nat.mul_comm (2 ^ (m - 1 - x)) 2]
    · rw [if_neg h, if_neg (by omega)]; simp
theorem ahead_low (l : List Nat) {i : Nat} (hm1 : 1 ≤ l.getD i 0) : ∀ k, k ≤ l.length →
    sumK l (((List.range k).filter fun x => decide (0 < l.getD x 0)).filter fun x => lexB l x i) = lowK (l.getD i 0) (l.take k) + (l.take (min i k)).count (l.getD i 0) * 2 ^ (15 - l.getD i 0) := by
  intro k
  induction k with
  | zero => intro _; simp [sumK, lowK]
  | succ k ih =>
    intro hk
    have hkl : k < l.length := by omega
    have e : l.getD k 0 = l[k] := by simp [List.getD_eq_getElem?_getD, hkl]
    rw [List.range_succ, List.filter_append, List.filter_append]
    unfold sumK at *
    rw [List.map_append, List.sum_append, ih (by omega)]
    have t1 : l.take (k + 1) = l.take k ++ [l.getD k 0] := by rw [List.take_add_one, List.getElem?_eq_getElem hkl, e]; rfl
    have t2 : lowK (l.getD i 0) (l.take (k + 1)) = lowK (l.getD i 0) (l.take k) + if 1 ≤ l.getD k 0 ∧ l.getD k 0 + 1 ≤ l.getD i 0 then 2 ^ (15 - l.getD k 0) else 0 := by
      rw [t1]; unfold lowK; simp
    rw [t2]
    have t3 : (l.take (min i (k + 1))).count (l.getD i 0) = (l.take (min i k)).count (l.getD i 0) + if k < i ∧ l.getD k 0 = l.getD i 0 then 1 else 0 := by
      by_cases h : k < i
      · rw [show min i (k + 1) = k + 1 by omega, show min i k = k by omega, t1, List.count_append]
        congr 1
        by_cases h2 : l.getD k 0 = l.getD i 0
        · rw [h2, if_pos ⟨h, rfl⟩]; simp
        · rw [if_neg (fun x => h2 x.2), List.count_singleton, if_neg (by simpa using h2)]
      · rw [show min i (k + 1) = i by omega, show min i k = i by omega, if_neg (fun x => h x.1)]; rfl
    rw [t3, Nat.add_mul]
    have t5 : lexB l k i = true ↔ (l.getD k 0 < l.getD i 0 ∨ (l.getD k 0 = l.getD i 0 ∧ k < i)) := by unfold lexB; simp
    have t4 : ((([k].filter fun x => decide (0 < l.getD x 0)).filter fun x => lexB l x i).map (wK l)).sum = if 0 < l.getD k 0 ∧ (l.getD k 0 < l.getD i 0 ∨ (l.getD k 0 = l.getD i 0 ∧ k < i)) then 2 ^ (15 - l.getD k 0) else 0 := by
      by_cases h1 : 0 < l.getD k 0
      · rw [List.filter_cons_of_pos (by simpa using h1), List.filter_nil]
        by_cases h2 : lexB l k i = true
        · rw [if_pos ⟨h1, t5.1 h2⟩]; simp only [List.filter_cons, List.filter_nil, h2, if_true, List.map_cons, List.map_nil, List.sum_cons, List.sum_nil, wK]; rfl
        · rw [if_neg (fun x => h2 (t5.2 x.2))]; simp only [List.filter_cons, List.filter_nil, h2]; rfl
      · rw [List.filter_cons_of_neg (by simpa using h1), if_neg (fun x => h1 x.1)]; simp
    rw [t4]
    obtain ⟨x, hx⟩ : ∃ x, x = l.getD k 0 := ⟨_, rfl⟩
    obtain ⟨m, hm⟩ : ∃ m, m = l.getD i 0 := ⟨_, rfl⟩
    rw [← hm] at hm1
    rw [← hx, ← hm]
    by_cases h0 : 0 < x
    · by_cases h1 : x < m
      · rw [if_pos ⟨h0, .inl h1⟩, if_pos (by omega), if_neg (by omega)]; omega
      · by_cases h2 : x = m ∧ k < i
        · rw [if_pos ⟨h0, .inr h2⟩, if_neg (by omega), if_pos ⟨h2.2, h2.1⟩, h2.1]; omega
        · rw [if_neg (by omega), if_neg (by omega), if_neg (by omega)]; omega
    · rw [if_neg (by omega), if_neg (by omega), if_neg (by omega)]; omega
/-- What the codes ahead of a letter's take is its own code, of so many bits. -/
theorem ahead_code {l S : List Nat} (h : OrdL l S) {t : Nat} (ht : t < S.length) (h15 : l.getD S[t] 0 ≤ 15) : sumK l (S.take t) = codeL l S[t] * 2 ^ (15 - l.getD S[t] 0) := by
  have hm := h.mem.1 (List.getElem_mem ht)
  rw [← take_lex h.up ht, sumK_perm (h.perm.filter _)]
  unfold hereL
  rw [ahead_low l hm.2 l.length (Nat.le_refl _), List.take_length, lowK_ends l hm.2 h15, show min S[t] l.length = S[t] by omega]
  unfold codeL
  rw [Nat.add_mul]
theorem sumK_take {l S : List Nat} {t : Nat} (ht : t < S.length) : sumK l (S.take (t + 1)) = sumK l (S.take t) + 2 ^ (15 - l.getD S[t] 0) := by
  unfold sumK
  rw [List.take_add_one, List.getElem?_eq_getElem ht, List.map_append, List.sum_append]
  simp [wK]
/-- The code that a longer one begins with: next times so much. -/
theorem next_code {l S : List Nat} (h : OrdL l S) {t b s : Nat} (ht : t < S.length) (h15 : l.getD S[t] 0 ≤ 15) (hs : s ≤ l.getD S[t] 0) (hb : b * 2 ^ (15 - s) = sumK l (S.take t)) : b * 2 ^ (l.getD S[t] 0 - s) = codeL l S[t] := by
  have h1 := ahead_code h ht h15
  rw [← hb] at h1
  have e : 15 - s = (l.getD S[t] 0 - s) + (15 - l.getD S[t] 0) := by omega
  rw [e, Nat.pow_add, ← Nat.mul_assoc] at h1
  exact Nat.eq_of_mul_eq_mul_right (Nat.two_pow_pos _) h1
theorem next_sum {l S : List Nat} (h : OrdL l S) {t : Nat} (ht : t < S.length) (h15 : l.getD S[t] 0 ≤ 15) : (codeL l S[t] + 1) * 2 ^ (15 - l.getD S[t] 0) = sumK l (S.take (t + 1)) := by
  rw [sumK_take ht, ahead_code h ht h15, Nat.add_mul, Nat.one_mul]
theorem ord_up {l S : List Nat} (h : OrdL l S) {t : Nat} (ht : t + 1 < S.length) : l.getD S[t] 0 ≤ l.getD S[t + 1] 0 := by
  have := List.pairwise_iff_getElem.1 h.up t (t + 1) (by omega) ht (by omega)
  unfold lexB at this
  simp only [decide_eq_true_eq] at this
  omega
theorem codeL_most {l : List Nat} {i : Nat} (hi : i < l.length) (h1 : 1 ≤ l.getD i 0) (h2 : l.getD i 0 ≤ 15) : codeL l i < kraftL l := by
  have h := (codeL_in l hi h1).2
  have h3 := bound_mono (lenC l) h2 (Nat.le_refl 15)
  rw [bound_all, ← kraft_ends] at h3
  unfold bound at h3
  have : ends (lenC l) (l.getD i 0) * 1 ≤ ends (lenC l) (l.getD i 0) * 2 ^ (15 - l.getD i 0) := Nat.mul_le_mul_left _ (Nat.two_pow_pos _)
  omega
end Go.Proofs.YtflcmmeoppdhdaaGreat
