/- Layer 22: what bytes are coded as, as one relation; both sides and the way back told by it. -/
import Derived.Test.YtjncmfoommlldaaHuffRef
import Derived.Test.YtjncmfoommlldaaHuffCode
import Derived.Test.YtjncmfoommlldaaHuffDec
namespace Go.Proofs.Ytjncmfoommlldaa
open Go.RowKit Go.Sort Go.Shelf

theorem calls_someH {P : Program} {f : FuncId} {args : Array Value} {w : World} {R : Ending → World → Prop} (h : Calls P f args w R) : ∃ e w', R e w' :=
  let ⟨e, w', _, r, _⟩ := h []
  ⟨e, w', r⟩
def NewH (w : World) (Q : List UInt8) (e : Ending) (w' : World) : Prop := ∃ v, e = .returned v ∧ IsBytes Q v w' ∧ Below w.heap.size w w'
def HuffQ (l Q : List UInt8) : Prop := (l = [] ∧ Q = []) ∨ (l ≠ [] ∧ ∃ o, LensOfR (cntL l) o ∧ Packs Q (huffB (natL o) l))
theorem huffCode_q {l Q : List UInt8} (hQ : HuffQ l Q) (hl : l.length ≤ 1500) (v : Value) (w : World) (h : IsBytes l v w) : Calls Try.prog 5 #[v] w (NewH w Q) := by
  obtain ⟨A, c, rfl, hc, hr⟩ := h
  rcases hQ with ⟨rfl, rfl⟩ | ⟨h1, o, h2, h3⟩
  · refine (huffCode_nil w A c).mono ?_
    rintro e w' ⟨rfl, rfl⟩
    exact ⟨_, rfl, bytes_none _, Below.refl _ _⟩
  · refine (huffCode_any hr rfl (List.length_pos_iff.2 h1) hl).mono ?_
    rintro e w' ⟨o', B, ho', hp, v, rfl, hown, hb⟩
    obtain rfl := ho'.one h2
    obtain rfl := hp.unique h3
    exact ⟨v, rfl, IsBytes.of_own hown, hb⟩
theorem huffRef_q {l Q : List UInt8} (hQ : HuffQ l Q) (hl : l.length ≤ 400) (v : Value) (w : World) (h : IsBytes l v w) : Calls Try.prog 6 #[v] w (NewH w Q) := by
  obtain ⟨A, c, rfl, hc, hr⟩ := h
  rcases hQ with ⟨rfl, rfl⟩ | ⟨h1, o, h2, h3⟩
  · refine (refCode_nil w A c).mono ?_
    rintro e w' ⟨rfl, rfl⟩
    exact ⟨_, rfl, bytes_none _, Below.refl _ _⟩
  · refine (refCode_any hr rfl (List.length_pos_iff.2 h1) hl).mono ?_
    rintro e w' ⟨o', B, ho', hp, v, rfl, hown, hb⟩
    obtain rfl := ho'.one h2
    obtain rfl := hp.unique h3
    exact ⟨v, rfl, IsBytes.of_own hown, hb⟩
theorem huffQ_some {l : List UInt8} (hl : l.length ≤ 1500) {A : Option Addr} {w : World} (hr : Rd w w.heap.size A (bvs l)) : ∃ Q, HuffQ l Q := by
  by_cases h : l = []
  · exact ⟨[], .inl ⟨h, rfl⟩⟩
  · obtain ⟨e, w', o, B, ho, hp, -⟩ := calls_someH (huffCode_any (m := 0) hr rfl (List.length_pos_iff.2 h) hl)
    exact ⟨B, .inr ⟨h, o, ho, hp⟩⟩
theorem huffB_len {l : List UInt8} {on : List Nat} (hT : LensT l on) (hl : l.length ≤ 1500) : (huffB on l).length ≤ 24000 := by
  have h1 := lensB_len on
  have h2 := lettersB_len hT.le l
  have h3 := hT.len
  unfold huffB
  rw [List.length_append]
  omega
/-- What Decode says. -/
def SaysH (l : List UInt8) (E : Int) (w : World) (e : Ending) (w' : World) : Prop := ∃ v, e = .returned (.tuple #[v, .int .i64 E]) ∧ IsBytes l v w' ∧ Below w.heap.size w w'
theorem done_zero {k : Nat} (h : k < 8) : doneE (List.replicate k false, 0) = 0 := by
  unfold doneE
  rw [if_neg (by simp), if_neg (by simp; omega), if_neg (by simp)]
theorem done_more {R : List Bool} (h : 8 ≤ R.length) : doneE (R, 0) ≠ 0 := by
  unfold doneE
  rw [if_neg (by simp), if_pos h]
  decide
/-- **P22.3**: what was coded is decoded; with a byte more it is none. -/
theorem huffBack_q {l Q : List UInt8} (hQ : HuffQ l Q) (hne : l ≠ []) (hl : l.length ≤ 1500) (v : Value) (w : World) :
    (IsBytes Q v w → Calls Try.prog 8 #[v, .int .i64 (l.length : Int)] w (SaysH l 0 w)) ∧
    (IsBytes (Q ++ [0]) v w → Calls Try.prog 8 #[v, .int .i64 (l.length : Int)] w (SaysH [] 16 w)) := by
  rcases hQ with ⟨h, -⟩ | ⟨-, o, ho, hp⟩
  · exact absurd h hne
  have hT := lensT_of hne ho
  have hL := huffB_len hT hl
  have hq := hp.1
  have hall := hp.all
  refine ⟨fun h => ?_, fun h => ?_⟩
  · obtain ⟨A, c, rfl, hc, hr⟩ := h
    refine (huffDec_any hr rfl (by omega) hne rfl hl ho hall).mono ?_
    rintro e w' ⟨v, rfl, hv, hb⟩
    rw [done_zero (by omega), if_pos rfl] at hv
    rw [done_zero (by omega), if_pos rfl]
    exact ⟨v, rfl, hv, hb⟩
  · obtain ⟨A, c, rfl, hc, hr⟩ := h
    have hall2 : allBits (Q ++ [0]) = huffB (natL o) l ++ (List.replicate (8 * Q.length - (huffB (natL o) l).length) false ++ bitsOf (0 : UInt8).toNat 8) := by
      rw [allBits_snoc, hall, List.append_assoc]
    have hd := done_more (R := List.replicate (8 * Q.length - (huffB (natL o) l).length) false ++ bitsOf (0 : UInt8).toNat 8) (by rw [List.length_append, bitsOf_length]; omega)
    refine (huffDec_any hr rfl (by rw [List.length_append, List.length_singleton]; omega) hne rfl hl ho hall2).mono ?_
    rintro e w' ⟨v, rfl, hv, hb⟩
    rw [if_neg hd] at hv
    rw [if_neg hd]
    exact ⟨v, rfl, hv, hb⟩
/- the fixed calls -/
theorem packs_of {bs : List UInt8} {L : List Bool} (h : bs.length = (L.length + 7) / 8) (hd : ∀ i, i < 8 * bs.length → bitAt bs i = L.getD i false) : Packs bs L := by
  refine ⟨h, fun i => ?_⟩
  by_cases hi : i < 8 * bs.length
  · exact hd i hi
  · unfold bitAt
    rw [List.getD_eq_getElem?_getD, List.getD_eq_getElem?_getD, List.getElem?_eq_none (l := bs) (by omega), List.getElem?_eq_none (l := L) (by omega)]
    simp
/-- The lens of one letter, 0. -/
def oneH : List Int := 1 :: List.replicate 255 0
def codH : List UInt8 := 3 :: List.replicate 32 0
set_option maxRecDepth 100000 in
theorem lens_oneH : LensOfR (cntL [0]) oneH := by
  have e : posL (cntL [0]) = [1] := by decide +kernel
  refine .done _ _ ⟨For.start 1 (wtL (cntL [0])), ?_, ?_⟩ (by unfold Short oneH; decide +kernel)
  · rw [e]
    refine .last _ fun m m' hm hm' => ?_
    have h1 := (start_ok 1 (wtL (cntL [0]))).less m hm
    have h2 := (start_ok 1 (wtL (cntL [0]))).less m' hm'
    have h3 : (For.start 1 (wtL (cntL [0]))).N = 1 := rfl
    omega
  · show oneH = lensF (fun _ => 0) (cntL [0]) 0
    decide +kernel
set_option maxRecDepth 100000 in
theorem k_huff : HuffQ [0] codH := by
  refine .inr ⟨by decide, oneH, lens_oneH, packs_of (by decide +kernel) ?_⟩
  have h : ∀ i : Fin 264, bitAt codH i.val = (huffB (natL oneH) [0]).getD i.val false := by decide +kernel
  exact fun i hi => h ⟨i, hi⟩
end Go.Proofs.Ytjncmfoommlldaa
