/-
  Layer 27: what the ways' methods do; Code and Decode, by what the coders do. · Layer 27: what becomes of bytes by a mode, and how many it is at least. · Layer 27: what the program's Code and Decode tell, by any mode. · Layer 25: a byte's bits, of the reference; the fixed calls. · Layer 23: the reference's bank. · Layer 24: the reference's weights. · Layer 24: the reference's New and Seen.
-/
import Derived.Test.YtflcmmeoppdhdaaGreatQ03
import Derived.Test.YtflcmmeoppdhdaaGreatQ08
import Derived.Test.YtflcmmeoppdhdaaGreatQ20
import Derived.Test.YtflcmmeoppdhdaaGreatQ25
import Derived.Test.YtflcmmeoppdhdaaGreatQ26
import Derived.Test.YtflcmmeoppdhdaaGreatQ27
import Derived.Test.YtflcmmeoppdhdaaGreatQ28
import Derived.Test.YtflcmmeoppdhdaaGreatQ29
import Derived.Test.YtflcmmeoppdhdaaGreatQ30
import Derived.Test.YtflcmmeoppdhdaaGreatQ34
import Derived.Shelf.Abstract
import Derived.BigRegionIn
import Derived.OwnWalkIn
import Derived.StillTailTactics
import Derived.Deep.DeepMust
namespace Go.Proofs.YtflcmmeoppdhdaaGreat
open Go.RowKit Go.Sort Go.Shelf

/-- New memory that holds these bytes. -/
def NewM (w : World) (Q : List UInt8) (e : Ending) (w' : World) : Prop := ∃ v, e = .returned v ∧ IsBytes Q v w' ∧ Below w.heap.size w w'
/-- Bytes, and an error. -/
def SaysM (w : World) (l : List UInt8) (E : Int) (e : Ending) (w' : World) : Prop := ∃ v, e = .returned (.tuple #[v, .int .i64 E]) ∧ IsBytes l v w' ∧ Below w.heap.size w w'
theorem clone_m {l : List UInt8} {v : Value} {W : World} (h : IsBytes l v W) (hl : l.length ≤ 1000000) : Calls Tryz.prog 274 #[v] W (NewM W l) := by
  obtain ⟨A, c, rfl, hc, hr⟩ := h
  refine (bcloneB_any A l.length c l W hr rfl (by omega)).mono ?_
  rintro e w' ⟨v, rfl, hown, hb⟩
  exact ⟨v, rfl, IsBytes.of_own hown, hb⟩
set_option maxRecDepth 100000 in
theorem theyCode_any {l : List UInt8} {v : Value} {W : World} (V : Int) (h : IsBytes l v W) (hl : l.length ≤ 1000000) : Calls Tryz.prog 271 #[.agg #[], v, .int .i64 V] W (NewM W l) := by
  have C := Lib.hid (fun W' (hb : Below W.heap.size W W') => clone_m (h.grow hb) hl)
  have hb1 := (Below.refl W.heap.size W).alloc (Nat.le_refl _) (.cells #[] 74)
  have C1 := Lib.hid (C.out _ hb1)
  have HB := Lib.hid hb1
  clear h hl C hb1
  go_enter Tryz.func271, Tryz.ntmps271
  go_wp2_with fail
  refine C1.out.mono ?_
  rintro e w1 ⟨v', rfl, hv, hb⟩
  have HV := Lib.hid (And.intro hv (HB.out.trans (hb.mono HB.out.size)))
  clear hv hb
  go_wp2
  go_ret
  exact ⟨v', rfl, HV.out⟩
set_option maxRecDepth 100000 in
theorem wordsCode_any {Q : List UInt8} {v : Value} {W : World} {V : Int} (C : ∀ W', Below W.heap.size W W' → Calls Tryz.prog 278 #[v, .int .i64 V] W' (NewM W' Q)) : Calls Tryz.prog 275 #[.agg #[], v, .int .i64 V] W (NewM W Q) := by
  have hb1 := (Below.refl W.heap.size W).alloc (Nat.le_refl _) (.cells #[] 75)
  have C1 := Lib.hid (C _ hb1)
  have HB := Lib.hid hb1
  clear C hb1
  go_enter Tryz.func275, Tryz.ntmps275
  go_wp2_with fail
  refine C1.out.mono ?_
  rintro e w1 ⟨v', rfl, hv, hb⟩
  have HV := Lib.hid (And.intro hv (HB.out.trans (hb.mono HB.out.size)))
  clear hv hb
  go_wp2
  go_ret
  exact ⟨v', rfl, HV.out⟩
set_option maxRecDepth 100000 in
theorem lettersCode_any {Q : List UInt8} {v u : Value} {W : World} {V : Int} {K : Nat} (hE : Enters Tryz.prog K) (C : ∀ W', Below W.heap.size W W' → Calls Tryz.prog K #[v] W' (NewM W' Q)) : Calls Tryz.prog 302 #[.agg #[.func (.func K) #[] #[], u], v, .int .i64 V] W (NewM W Q) := by
  have hb1 := (Below.refl W.heap.size W).alloc (Nat.le_refl _) (.cells #[.func (.func K) #[] #[], u] 78)
  have hk : Blk (W.alloc (.cells #[.func (.func K) #[] #[], u] 78)) W.heap.size 78 [.func (.func K) #[] #[], u] := heap_alloc_new W _
  have c0 := hk.cell 0
  simp only [List.getElem?_cons_zero] at c0
  have C1 := Lib.hid (C _ hb1)
  have HB := Lib.hid hb1
  have HE := Lib.hid hE
  clear C hb1 hE hk
  go_enter Tryz.func302, Tryz.ntmps302
  go_wp2_with fail
  rw [HE.out]
  refine C1.out.mono ?_
  rintro e w1 ⟨v', rfl, hv, hb⟩
  have HV := Lib.hid (And.intro hv (HB.out.trans (hb.mono HB.out.size)))
  clear hv hb
  go_wp2
  go_ret
  exact ⟨v', rfl, HV.out⟩
theorem enters_code {k : Nat} (hk : k ≤ 5) : Enters Tryz.prog (codeK k) := by
  rcases (show k = 0 ∨ k = 1 ∨ k = 2 ∨ k = 3 ∨ k = 4 ∨ k = 5 by omega) with rfl | rfl | rfl | rfl | rfl | rfl
  · exact enters_of Tryz.func271 (by kernel_rfl) rfl
  · exact enters_of Tryz.func275 (by kernel_rfl) rfl
  all_goals exact enters_of Tryz.func302 (by kernel_rfl) rfl
set_option maxRecDepth 100000 in
set_option maxHeartbeats 1000000 in
/-- Code, by what the way's own code does. -/
theorem mdsCode_any {k : Nat} (hk : k ≤ 5) {V : Nat} (hV : IsW V) {Q : List UInt8} {v : Value} {w : World} (C : ∀ W', Below w.heap.size w W' → Calls Tryz.prog (codeK k) #[wayX k, v, .int .i64 (V : Int)] W' (NewM W' Q)) : Calls Tryz.prog 8 #[.int .i64 (k : Int), v, .int .i64 (V : Int)] w (SaysM w Q 0) := by
  have CW := Lib.hid (wayOf_any hk)
  have CR := Lib.hid (wordRight_any (V : Int) true hV.right)
  have HE := Lib.hid (enters_code hk)
  have hm := fun W => meth_code hk W
  simp only [Tryz.types_size, Nat.reduceAdd] at hm
  obtain ⟨T, hT⟩ : ∃ T, T = wayT k := ⟨_, rfl⟩
  obtain ⟨X, hX⟩ : ∃ X, X = wayX k := ⟨_, rfl⟩
  obtain ⟨K, hK⟩ : ∃ K, K = codeK k := ⟨_, rfl⟩
  have CC := Lib.hid C
  rw [← hT, ← hX, ← hK] at hm
  unfold wayV at CW
  rw [← hT, ← hX] at CW
  rw [← hX, ← hK] at CC
  rw [← hK] at HE
  clear C hT hX hK hk hV
  go_enter Tryz.func8, Tryz.ntmps8
  go_wp2_with fail
  refine (CW.out _).mono ?_
  rintro e w1 ⟨rfl, hb1⟩
  have C1 := Lib.hid (CC.out _ hb1)
  have HB := Lib.hid hb1
  clear hb1
  go_wp2_with fail
  refine (CR.out _).mono ?_
  rintro e w2 ⟨rfl, hw⟩
  subst hw
  have hm1 := hm w1
  go_wp2_with fail
  rw [HE.out]
  refine C1.out.mono ?_
  rintro e w2 ⟨v', rfl, hv, hb⟩
  have HV := Lib.hid (And.intro hv (HB.out.trans (hb.mono HB.out.size)))
  clear hv hb
  go_wp2
  go_ret2
  exact ⟨v', rfl, HV.out⟩
theorem none_bytes (w : World) : IsBytes [] (.slice none 0 0) w := ⟨none, 0, rfl, Nat.le_refl _, Rd.nil_ _ _ _⟩
/-- How many bytes a payload has at least. -/
def leastM (k V n : Nat) : Nat :=
  match k with
  | 0 => n
  | 1 => (n / V + n % V * 8 + 7) / 8
  | 2 => 0
  | 3 => 0
  | 4 => 0
  | _ => if n = 0 then 0 else (260 + n + 7) / 8
theorem enters_lea {k : Nat} (hk : k = 0 ∨ k = 1 ∨ k = 5) : Enters Tryz.prog (leaK k) := by
  rcases hk with rfl | rfl | rfl
  · exact enters_of Tryz.func273 (by kernel_rfl) rfl
  · exact enters_of Tryz.func277 (by kernel_rfl) rfl
  · exact enters_of Tryz.func304 (by kernel_rfl) rfl
def IntM (w : World) (n : Nat) (e : Ending) (w' : World) : Prop := e = .returned (.int .i64 (n : Int)) ∧ Below w.heap.size w w'
theorem wayLea_any {k : Nat} (hk : k = 0 ∨ k = 1 ∨ k = 5) {V : Nat} (hV : IsW V) {n : Nat} (hn : n ≤ 100000000) (W : World) : Calls Tryz.prog (leaK k) #[wayX k, .int .i64 (V : Int), .int .i64 (n : Int)] W (IntM W (leastM k V n)) := by
  rcases hk with rfl | rfl | rfl
  · exact theyLeast_any _ _ _
  · exact wordsLeast_any hV n hn _
  · exact codesLeast_any _ n hn _ _
set_option maxRecDepth 100000 in
set_option maxHeartbeats 1000000 in
theorem least_any {k : Nat} (hk : k ≤ 5) {V : Nat} (hV : IsW V) {n : Nat} (hn : n ≤ 100000000) (w : World) : Calls Tryz.prog 26 #[wayV k, .int .i64 (V : Int), .int .i64 (n : Int)] w (IntM w (leastM k V n)) := by
  by_cases h : k = 0 ∨ k = 1 ∨ k = 5
  · have ha := asserts_yes h
    have hm := meth_least h
    simp only [Tryz.types_size, Nat.reduceAdd] at hm
    have HE := Lib.hid (enters_lea h)
    have CL := Lib.hid (wayLea_any h hV hn)
    obtain ⟨T, hT⟩ : ∃ T, T = wayT k := ⟨_, rfl⟩
    obtain ⟨X, hX⟩ : ∃ X, X = wayX k := ⟨_, rfl⟩
    obtain ⟨K, hK⟩ : ∃ K, K = leaK k := ⟨_, rfl⟩
    obtain ⟨M, hM⟩ : ∃ M, M = leastM k V n := ⟨_, rfl⟩
    unfold wayV at *
    rw [← hT, ← hX] at ha ⊢
    rw [← hT, ← hX, ← hK] at hm
    rw [← hK] at HE
    rw [← hK, ← hX, ← hM] at CL
    rw [← hM]
    clear hT hX hK hM h hk hV hn
    go_enter Tryz.func26, Tryz.ntmps26
    go_wp2_with fail
    rw [HE.out]
    refine (CL.out _).mono ?_
    rintro e w2 ⟨rfl, hb⟩
    go_wp2
    go_ret
    exact ⟨rfl, hb⟩
  · have ha := asserts_not (show k = 2 ∨ k = 3 ∨ k = 4 by omega)
    have hz : leastM k V n = 0 := by
      rcases (show k = 2 ∨ k = 3 ∨ k = 4 by omega) with rfl | rfl | rfl <;> rfl
    rw [hz]
    obtain ⟨T, hT⟩ : ∃ T, T = wayT k := ⟨_, rfl⟩
    obtain ⟨X, hX⟩ : ∃ X, X = wayX k := ⟨_, rfl⟩
    unfold wayV at *
    rw [← hT, ← hX] at ha ⊢
    clear hT hX h hk hV hn hz
    go_enter Tryz.func26, Tryz.ntmps26
    go_wp2
    go_ret
    exact ⟨rfl, Below.refl _ _⟩
end Go.Proofs.YtflcmmeoppdhdaaGreat
namespace Go.Proofs.YtflcmmeoppdhdaaGreat
open Go.RowKit Go.Sort

/-- Bytes, coded by mode k. -/
def ModeQ (k V : Nat) (l Q : List UInt8) : Prop :=
  match k with
  | 0 => Q = l
  | 1 => RiceSays (V : Int) l Q
  | 2 => RansQ l Q
  | 3 => BldQ letWay noneF l Q
  | 4 => BldQ bitWay newD l Q
  | _ => HuffQ l Q
theorem onesOf_some (n m : Nat) (h : 0 < m) : 1 ≤ (onesOf n m).length ∨ n = 0 ∧ ¬ n < m := by
  unfold onesOf
  by_cases h1 : n < m
  · rw [if_pos h1]; left; simp
  · rw [if_neg h1]; left; simp; omega
theorem riceW_some (D k v : Nat) : 1 ≤ (riceW D k v).length := by
  unfold riceW
  split
  · have := onesOf_some (v / 2 ^ k) 24 (by decide)
    rw [List.length_append]; omega
  · have : (onesOf 24 24).length = 24 := (onesOf_len 24 24).2 rfl
    rw [List.length_append]; omega
theorem riceB_least {D A N : Nat} {l : List Nat} {L : List Bool} (h : RiceB D A N l L) : l.length ≤ L.length := by
  induction h with
  | none => exact Nat.le_refl _
  | word A N k v l L hk hr ih =>
    have := riceW_some D k v
    rw [List.length_append, List.length_cons]; omega
theorem allBits_len (l : List UInt8) : (allBits l).length = 8 * l.length := by simp [allBits]
theorem lensB_ge : ∀ o : List Nat, o.length ≤ (lensB o).length
  | [] => Nat.le_refl _
  | x :: o => by
    have ih := lensB_ge o
    unfold lensB at *
    rw [List.flatMap_cons, List.length_append, lenB_len, List.length_cons]; omega
theorem lensB_one : ∀ (o : List Nat) (k : Nat), 1 ≤ o.getD k 0 → o.length + 4 ≤ (lensB o).length
  | [], k, h => by simp at h
  | x :: o, 0, h => by
    have ih := lensB_ge o
    have hx : 1 ≤ x := by simpa using h
    unfold lensB at *
    rw [List.flatMap_cons, List.length_append, lenB_len, List.length_cons]; omega
  | x :: o, k + 1, h => by
    have ih := lensB_one o k (by simpa using h)
    unfold lensB at *
    rw [List.flatMap_cons, List.length_append, lenB_len, List.length_cons]; omega
theorem huffB_least {l : List UInt8} {o : List Nat} (hl : l ≠ []) (hT : LensT l o) : 260 + l.length ≤ (huffB o l).length := by
  obtain ⟨b, t, rfl⟩ := List.exists_cons_of_ne_nil hl
  have h1 := lensB_one o b.toNat (hT.some b List.mem_cons_self)
  have h2 := lettersB_least (o := o) (b :: t) hT.some
  have h3 := hT.len
  unfold huffB
  rw [List.length_append]; omega
theorem leastM_le {k V : Nat} (hV : IsW V) {l Q : List UInt8} (h : ModeQ k V l Q) : leastM k V l.length ≤ Q.length := by
  match k with
  | 0 =>
    have h : Q = l := h
    rw [h]; exact Nat.le_refl _
  | 1 =>
    have h : RiceSays (V : Int) l Q := h
    show (l.length / V + l.length % V * 8 + 7) / 8 ≤ _
    rcases h with ⟨h1, -⟩ | ⟨V', L, h1, h2, h3, h4⟩
    · have := hV.right; rw [h1] at this; cases this
    · obtain rfl : V = V' := by omega
      have h5 := riceB_least h3
      have h6 := h4.1
      have h7 := wordsOf_len V l
      have h8 := restOf_len V l
      rw [List.length_append, allBits_len] at h6
      have hrl : (restOf V l).length = l.length % V := by
        rw [h8]
        have := Nat.div_add_mod l.length V
        rw [Nat.mul_comm] at this
        omega
      rw [hrl] at h6
      rw [h7] at h5
      generalize l.length / V = q at *
      generalize l.length % V = r at *
      omega
  | 2 => exact Nat.zero_le _
  | 3 => exact Nat.zero_le _
  | 4 => exact Nat.zero_le _
  | k + 5 =>
    have h : HuffQ l Q := h
    show (if l.length = 0 then 0 else (260 + l.length + 7) / 8) ≤ _
    rcases h with ⟨rfl, rfl⟩ | ⟨h1, o, h2, h3⟩
    · exact Nat.le_refl _
    · have h4 := huffB_least h1 (lensT_of h1 h2)
      have h5 := h3.1
      have h6 := List.length_pos_iff.2 h1
      rw [if_neg (by omega)]
      omega
theorem newBy_m {w : World} {l : List UInt8} {e : Ending} {w' : World} (h : NewBy w l e w') : NewM w l e w' := by
  obtain ⟨v, he, hown, hb⟩ := h
  exact ⟨v, he, IsBytes.of_own hown, hb⟩
end Go.Proofs.YtflcmmeoppdhdaaGreat
namespace Go.Proofs.YtflcmmeoppdhdaaGreat
open Go.RowKit Go.Sort Go.Shelf

section
variable {k V : Nat} {l Q : List UInt8}
theorem wayCode_any (hk : k ≤ 5) (hQ : ModeQ k V l Q) (hl : l.length ≤ 1000) {v : Value} {W : World} (h : IsBytes l v W) : Calls Tryz.prog (codeK k) #[wayX k, v, .int .i64 (V : Int)] W (NewM W Q) := by
  rcases (show k = 0 ∨ k = 1 ∨ k = 2 ∨ k = 3 ∨ k = 4 ∨ k = 5 by omega) with rfl | rfl | rfl | rfl | rfl | rfl
  · rw [show Q = l from hQ]
    exact theyCode_any _ h (by omega)
  · exact wordsCode_any fun W' hb => (riceCode_says (V : Int) (h.grow hb) (by omega) hQ).mono fun _ _ => newBy_m
  · exact lettersCode_any (enters_of Tryz.func43 (by kernel_rfl) rfl) fun W' hb => ransCode_q hQ (by omega) v W' (h.grow hb)
  · exact lettersCode_any (enters_of Tryz.func45 (by kernel_rfl) rfl) fun W' hb => blendAdapt_q hQ hl v (h.grow hb)
  · exact lettersCode_any (enters_of Tryz.func47 (by kernel_rfl) rfl) fun W' hb => blendCode_q hQ hl v (h.grow hb)
  · exact lettersCode_any (enters_of Tryz.func49 (by kernel_rfl) rfl) fun W' hb => huffCode_q hQ (by omega) v W' (h.grow hb)
theorem modeQ_some (k : Nat) {V : Nat} (l : List UInt8) (hl : l.length ≤ 1000) {A : Option Addr} {w : World} (hr : Rd w w.heap.size A (bvs l)) : ∃ Q, ModeQ k V l Q := by
  match k with
  | 0 => exact ⟨l, rfl⟩
  | 1 => exact riceSays_some _ l
  | 2 => exact ransQ_some (by omega) hr
  | 3 => exact bldQ_some letWay noneF_inv l hl
  | 4 => exact bldQ_some bitWay newD_ok l hl
  | k + 5 => exact huffQ_some (by omega) hr
end
end Go.Proofs.YtflcmmeoppdhdaaGreat
namespace Go.Proofs.YtflcmmeoppdhdaaGreat
open Go.RowKit Go.Sort

theorem refBit_any (c k : Nat) (w : World) (hc : c < 256) (hk : k < 8) : Calls Tryz.prog 38 #[.int .u8 (c : Int), .int .i64 (k : Int)] w fun e w' => e = .returned (.int .i64 (bitD c k : Nat)) ∧ w' = w := by
  unfold bitD
  go_enter Tryz.func38, Tryz.ntmps38
  go_wp2
  go_loopw [5, 6] (fun yy ii wr => ∃ i y : Nat, k ≤ i ∧ i ≤ 7 ∧ y = c / 2 ^ (i - k) ∧ yy = .int .i64 (y : Int) ∧ ii = .int .i64 (i : Int) ∧ wr = w) (fun _ ii _ => 7 - (intOf ii).toNat)
  case atStart => exact ⟨k, c, Nat.le_refl _, by omega, by simp, rfl, rfl, rfl⟩
  case round =>
    obtain ⟨i, y, hi0, hi1, hy, rfl, rfl, rfl⟩ := hrel
    have hyx : y ≤ c := by rw [hy]; exact Nat.div_le_self _ _
    have HY := Lib.hid hy
    have hy4 : y < 256 := by omega
    clear hy hyx
    by_cases hlt : i < 7
    · have hii : (i : Int) < 7 := by omega
      obtain ⟨z, hz⟩ : ∃ z, z = y / 2 := ⟨_, rfl⟩
      have hzi : (y : Int) / 2 = (z : Int) := by omega
      have HZ := Lib.hid hz
      clear hz
      go_wp2
      go_roundw
      case rel => exact ⟨i + 1, z, by omega, by omega, by rw [HZ.out, HY.out, Nat.div_div_eq_div_mul, ← Nat.pow_succ, show i + 1 - k = (i - k).succ by omega], by go_num, by go_num, by simp⟩
      case measure => simp [intOf]; omega
    · obtain rfl : i = 7 := by omega
      go_wp2
      go_ret
      exact ⟨ret_int (by rw [← HY.out]; omega), rfl⟩
section
variable {w wr w' : World} {a : ModA} {s t : ModD}
end
end Go.Proofs.YtflcmmeoppdhdaaGreat
namespace Go.Proofs.YtflcmmeoppdhdaaGreat
open Go.RowKit Go.Sort

set_option maxRecDepth 100000 in
theorem cPlace_any (key bits : Nat) (w : World) (hk : key < 4294967296) (h : 1 ≤ bits ∧ bits ≤ 16) : Calls Tryz.prog 109 #[.int .u32 (key : Int), .int .i64 (bits : Int)] w fun e w' => e = .returned (.int .i64 (placeC key bits : Nat)) ∧ w' = w := by
  obtain ⟨h1, h2⟩ := h
  have a1 : ¬ ((bits : Int) < 1) := by omega
  have a2 : ¬ (16 < (bits : Int)) := by omega
  have hp := placeC_lt key (show bits ≤ 32 by omega)
  have hp2 : 2 ^ bits ≤ 2 ^ 16 := Nat.pow_le_pow_right (by decide) h2
  have HP := Lib.hid (show placeC key bits < 65536 by omega)
  obtain ⟨x, hx⟩ : ∃ x, x = key * 2654435761 % 4294967296 := ⟨_, rfl⟩
  have hxi : (key : Int) * 2654435761 % 4294967296 = (x : Int) := by rw [hx]; simp
  have hpx : placeC key bits = x / 2 ^ (32 - bits) := by unfold placeC; rw [hx]
  have HX := Lib.hid (And.intro hxi hpx)
  have hx4 : x < 4294967296 := by omega
  clear hx hp hp2 hxi hpx
  go_enter Tryz.func109, Tryz.ntmps109
  go_wp2
  rw [HX.out.1]
  clear hk
  go_loopw [5, 6] (fun yy ii wr => ∃ i y : Nat, bits ≤ i ∧ i ≤ 32 ∧ y = x / 2 ^ (i - bits) ∧ yy = .int .u64 (y : Int) ∧ ii = .int .i64 (i : Int) ∧ wr = w) (fun _ ii _ => 32 - (intOf ii).toNat)
  case atStart => exact ⟨bits, x, Nat.le_refl _, by omega, by simp, rfl, rfl, rfl⟩
  case round =>
    obtain ⟨i, y, hi0, hi1, hy, rfl, rfl, rfl⟩ := hrel
    have hyx : y ≤ x := by rw [hy]; exact Nat.div_le_self _ _
    have HY := Lib.hid hy
    have hy4 : y < 4294967296 := by omega
    clear hy hyx
    by_cases hlt : i < 32
    · have hii : (i : Int) < 32 := by omega
      have hw2 : IntKind.u64.wrap ((y : Int) / 2) = ((y / 2 : Nat) : Int) := by rw [IntKind.wrap_u64]; omega
      obtain ⟨z, hz⟩ : ∃ z, z = y / 2 := ⟨_, rfl⟩
      rw [← hz] at hw2
      have HZ := Lib.hid hz
      clear hz
      go_wp2
      go_roundw
      case rel => exact ⟨i + 1, z, by omega, by omega, by rw [HZ.out, HY.out, Nat.div_div_eq_div_mul, ← Nat.pow_succ, show i + 1 - bits = (i - bits).succ by omega], by simp, by go_num, by simp⟩
      case measure => simp [intOf]; omega
    · obtain rfl : i = 32 := by omega
      have hv : y = placeC key bits := by rw [HX.out.2, HY.out]
      have hy5 : y < 65536 := by rw [hv]; exact HP.out
      have HV := Lib.hid hv
      clear hv
      go_wp2
      go_ret
      exact ⟨by rw [← HV.out]; simp, rfl⟩
set_option maxRecDepth 100000 in
theorem cAfter_any (p : Nat) (bit : Int) (w : World) (h : ChC p) : Calls Tryz.prog 110 #[.int .i64 (p : Int), .int .i64 bit] w fun e w' => e = .returned (.int .i64 (afterC p bit : Nat)) ∧ w' = w := by
  obtain ⟨h1, h2⟩ := h
  unfold afterC rawC heldC
  by_cases hb : bit = 0
  · subst hb
    rw [if_pos rfl]
    go_enter Tryz.func110, Tryz.ntmps110
    go_wp2
    go_ret
    exact ⟨ret_int (by omega), rfl⟩
  · rw [if_neg hb]
    have hbb : (bit == 0) = false := by simp [hb]
    go_enter Tryz.func110, Tryz.ntmps110
    go_wp2
    go_ret
    exact ⟨ret_int (by omega), rfl⟩

/-- At M lies a plain bank of n = 2^bits chances R, whose row lies from block B on. -/
structure RBank (w : World) (B M bits n : Nat) (v : Value) (R : List Nat) : Prop where
  mb : Blk w M 169 [.int .i64 (bits : Int), v]
  own : w.ownsRow B 3 1 v n (ivsN R)
  row : RowC n R
  pow : n = 2 ^ bits
  lo : 1 ≤ bits ∧ bits ≤ 16
  low : B ≤ M
section
variable {w w' : World} {B M bits n : Nat} {v : Value} {R : List Nat}
theorem RBank.same (h : RBank w B M bits n v R) (e : w'.heap = w.heap) : RBank w' B M bits n v R :=
  ⟨h.mb.same e, ⟨h.own.1, by have := h.own.2; rw [← e] at this; exact this⟩, h.row, h.pow, h.lo, h.low⟩
theorem RBank.place (h : RBank w B M bits n v R) (key : Nat) : placeC key bits < n := by rw [h.pow]; exact placeC_lt key (by have := h.lo; omega)
theorem RBank.at_ (h : RBank w B M bits n v R) : ∃ g m, v = .slice (some ⟨g, 0, none⟩) n m ∧ B ≤ g ∧ g < w.heap.size ∧ M ≠ g := by
  obtain ⟨A, m, rfl, -, -, hform⟩ := own_form h.own
  have hn : 0 < n := by rw [h.pow]; exact Nat.two_pow_pos _
  rcases hform with h0 | ⟨g, rfl, hg, hl⟩
  · omega
  · exact ⟨g, m, rfl, hg, hl, fun e => own_ne h.mb h.own (by decide) g rfl e.symm⟩
set_option maxRecDepth 100000 in
theorem cP_any (key : Nat) (h : RBank w B M bits n v R) (hk : key < 4294967296) :
    Calls Tryz.prog 107 #[.pointer (some ⟨M, 0, none⟩), .int .u32 (key : Int)] w fun e w' => e = .returned (.int .i64 (R.getD (placeC key bits) 0 : Nat)) ∧ ∃ j, w' = w.drewN j := by
  obtain ⟨g, m, rfl, hgB, hgl, hMg⟩ := h.at_
  have c0 := h.mb.cell 0
  have c1 := h.mb.cell 1
  simp only [List.getElem?_cons_zero, List.getElem?_cons_succ] at c0 c1
  have CP := Lib.hid (fun W => cPlace_any key bits W hk h.lo)
  have hp := h.place key
  obtain ⟨k, hkk⟩ : ∃ k, k = placeC key bits := ⟨_, rfl⟩
  rw [← hkk] at CP hp ⊢
  have hpi : (k : Int) < (n : Int) := by omega
  have c2 : w.cell? ⟨g, k, none⟩ = some (.int .i64 (R.getD k 0 : Nat)) := by rw [h.own.cellAt k (by omega)]; exact ivs_at h.row hp
  obtain ⟨x, hx⟩ : ∃ x, x = R.getD k 0 := ⟨_, rfl⟩
  rw [← hx] at c2 ⊢
  clear h hkk hk hx
  go_enter Tryz.func107, Tryz.ntmps107
  go_wp2
  go_quiet ((go_at_call 109; exact quietOf fun W _ => CP.out W))
  go_wp2
  go_ret
  exact ⟨rfl, _, rfl⟩
set_option maxRecDepth 100000 in
theorem cSeen_any (key : Nat) (bit : Int) (h : RBank w B M bits n v R) (hk : key < 4294967296) :
    Calls Tryz.prog 73 #[.pointer (some ⟨M, 0, none⟩), .int .u32 (key : Int), .int .i64 bit] w fun e w' => (∃ u, e = .returned u) ∧ RBank w' B M bits n v (seenC R (placeC key bits) bit) ∧ Below B w w' ∧ ∀ g n' m', v = .slice (some ⟨g, 0, none⟩) n' m' → TurnsB g g w w' := by
  obtain ⟨g, m, rfl, hgB, hgl, hMg⟩ := h.at_
  have c0 := h.mb.cell 0
  have c1 := h.mb.cell 1
  simp only [List.getElem?_cons_zero, List.getElem?_cons_succ] at c0 c1
  have CP := Lib.hid (fun W => cPlace_any key bits W hk h.lo)
  have hp := h.place key
  obtain ⟨k, hkk⟩ : ∃ k, k = placeC key bits := ⟨_, rfl⟩
  rw [← hkk] at CP hp ⊢
  have H := Lib.hid h
  have hpi : (k : Int) < (n : Int) := by omega
  have c2 : w.cell? ⟨g, k, none⟩ = some (.int .i64 (R.getD k 0 : Nat)) := by rw [h.own.cellAt k (by omega)]; exact ivs_at h.row hp
  have hfr := h.own.frozenAt k
  have hset := h.own.stored k (.int .i64 (afterC (R.getD k 0) bit : Nat))
  rw [ivs_set] at hset
  have CA := Lib.hid (fun W => cAfter_any (R.getD k 0) bit W (h.row.get hp))
  have HO := Lib.hid (afterC_ok (R.getD k 0) bit)
  unfold seenC
  obtain ⟨y, hy⟩ : ∃ y, y = afterC (R.getD k 0) bit := ⟨_, rfl⟩
  rw [← hy] at hset CA HO ⊢
  obtain ⟨x, hx⟩ : ∃ x, x = R.getD k 0 := ⟨_, rfl⟩
  rw [← hx] at c2 CA
  have HS := Lib.hid hset
  have HB := Lib.hid ((Below.refl B w).setCell (p := ⟨g, k, none⟩) hgB (.int .i64 (y : Int)))
  have HG := Lib.hid hMg
  clear h hkk hk hx hy hset hMg
  go_enter Tryz.func73, Tryz.ntmps73
  go_wp2_with fail
  refine (CP.out _).mono ?_
  rintro e w' ⟨rfl, hw⟩
  obtain rfl : _ = w' := hw.symm
  go_wp2
  refine wp_region_still_tail 15 (by kernel_rfl) (by kernel_rfl) ?_
  simp only [List.take_succ_cons, List.take_zero, List.drop_succ_cons, List.drop_zero]
  iterate 13 still_step
  still_call (CA.out w.drew)
  repeat still_step
  refine wpStill_nil ?_
  change wpList _ _ _ _ _ w.drew
  go_wp2
  go_end0
  exact ⟨⟨_, rfl⟩, (⟨H.out.mb.setOther ⟨g, k, none⟩ _ HG.out, HS.out.1, H.out.row.set k HO.out, H.out.pow, H.out.lo, H.out.low⟩ : RBank (w.setCell ⟨g, k, none⟩ (.int .i64 (y : Int))) B M bits n _ _).same rfl, HB.out.drew, fun g' n' m' e => by
    injection e with e _ _
    injection e with e
    injection e with e _ _
    subst e
    exact (TurnsB.set_ k _).drew⟩
end
set_option maxRecDepth 100000 in
set_option maxHeartbeats 2000000 in
theorem cNew_any (bits n : Nat) (w : World) (h : 1 ≤ bits ∧ bits ≤ 16) (hn : n = 2 ^ bits) :
    Calls Tryz.prog 67 #[.int .i64 (bits : Int)] w fun e w' => ∃ M, e = .returned (.pointer (some ⟨M, 0, none⟩)) ∧ (∃ v, RBank w' w.heap.size M bits n v (List.replicate n 32768)) ∧ Below w.heap.size w w' := by
  obtain ⟨i0, hi, hz0, hz1, hz2⟩ := info_parts info_int12
  have hmany : n ≤ 65536 := by rw [hn]; exact Nat.pow_le_pow_right (n := 2) (by decide) h.2
  have H := Lib.hid (And.intro h hn)
  have hb16 : bits ≤ 16 := h.2
  have hw1 : ∃ w1, w1 = w.alloc (.cells #[.int .i64 (bits : Int), .slice none 0 0] 169) := ⟨_, rfl⟩
  obtain ⟨w1, hw1⟩ := hw1
  have hmb : Blk w1 w.heap.size 169 [.int .i64 (bits : Int), .slice none 0 0] := by rw [hw1]; exact heap_alloc_new w _
  have HMB0 := Lib.hid hmb
  have HB := Lib.hid (show Below w.heap.size w w1 by rw [hw1]; exact (Below.refl _ _).alloc (Nat.le_refl _) _)
  have HW1 := Lib.hid hw1
  clear hmb hw1 h hn
  go_enter Tryz.func67, Tryz.ntmps67
  go_wp2
  rw [← HW1.out]
  go_loopw [4, 5] (fun yy ii wr => ∃ i y : Nat, i ≤ bits ∧ y = 2 ^ i ∧ yy = .int .i64 (y : Int) ∧ ii = .int .i64 (i : Int) ∧ wr = w1) (fun _ ii _ => bits - (intOf ii).toNat)
  case atStart => exact ⟨0, 1, Nat.zero_le _, rfl, rfl, rfl, rfl⟩
  case round =>
    obtain ⟨i, y, hib, hy, rfl, rfl, rfl⟩ := hrel
    have hyn : y ≤ n := by rw [hy, H.out.2]; exact Nat.pow_le_pow_right (by decide) hib
    have HY := Lib.hid hy
    clear hy
    by_cases hlt : i < bits
    · have hii : (i : Int) < (bits : Int) := by omega
      go_wp2
      go_roundw
      case rel => exact ⟨i + 1, 2 * y, by omega, by rw [HY.out, Nat.pow_succ, Nat.mul_comm], by go_num, by go_num, by simp⟩
      case measure => simp [intOf]; omega
    · obtain rfl : i = bits := by omega
      obtain rfl : y = n := by rw [HY.out, H.out.2]
      clear hyn hlt
      go_wp2
      go_loopw [6] (fun ii wr2 => ∃ (k : Nat) (v : Value), k ≤ y ∧ ii = .int .i64 (k : Int) ∧ Blk wr2 w.heap.size 169 [.int .i64 (i : Int), v] ∧ wr2.ownsRow w.heap.size 3 1 v k (ivsN (List.replicate k 32768)) ∧ Below w.heap.size w wr2) (fun ii _ => y - (intOf ii).toNat)
      case atStart => exact ⟨0, _, Nat.zero_le _, rfl, HMB0.out, World.ownsRow_nil _ _ _ _, HB.out⟩
      case round =>
        clear HMB0 HB HW1
        obtain ⟨k, v, hk, rfl, hmb, hown, hb⟩ := hrel
        obtain ⟨Av, cv, rfl, -, -, -⟩ := own_form hown
        have HM := Lib.hid hmb
        have HO := Lib.hid hown
        have HB := Lib.hid hb
        have c1 := hmb.cell 1
        simp only [List.getElem?_cons_zero, List.getElem?_cons_succ] at c1
        have hbs := hb.size
        clear hmb hown hb
        by_cases hlt : k < y
        · have hki : (k : Int) < (y : Int) := by omega
          go_wp2_with (at_builtin; go_must (refine wpList_app rfl (.tmp 26) (.tmp 27) 53 rfl w.heap.size 3 i0 (.int .i64 0) 1 8 Tryz.underlying53 hi hz0 hz1 hz2 rfl (by decide) _ _ _ rfl (HO.out.alloc _) _ _ 1 1 _ rfl (Rd.new _ _ _) rfl (by intro u hu; simp at hu; subst hu; rfl) (by simp only [maxLen]; omega) (by omega) (by simp; omega) ?_; intro v1 w2 hown1 hg1; have hmb := blk_row (HM.out.alloc_ _) hg1 (own_ne HM.out HO.out (by decide)); have HG := Lib.hid hg1; have HO1 := Lib.hid hown1; have HMB := Lib.hid hmb; have d0 := hmb.cell 1; have d1 := hmb.frozen 1; simp only [List.getElem?_cons_zero, List.getElem?_cons_succ] at d0; obtain ⟨A1, c1, rfl, -, -, -⟩ := own_form hown1; clear hown1 hg1 hmb))
          have hset := HMB.out.set_ 1 (.slice A1 (k + 1) c1)
          simp only [List.set_cons_zero, List.set_cons_succ] at hset
          have hown2 := HO1.out.kept (grownBy_set w2 ⟨w.heap.size, 1, none⟩ (.slice A1 (k + 1) c1)) (.inr (fun e => own_ne HMB.out HO1.out (by decide) _ e rfl))
          have hb2 := ((HB.out.alloc hbs _).grown HG.out (by simp; omega) (own_block HO.out)).setCell (p := ⟨w.heap.size, 1, none⟩) (Nat.le_refl _) (.slice A1 (k + 1) c1)
          have hown3 : (w2.setCell ⟨w.heap.size, 1, none⟩ (.slice A1 (k + 1) c1)).ownsRow w.heap.size 3 1 (.slice A1 (k + 1) c1) (k + 1) (ivsN (List.replicate (k + 1) 32768)) := by
            rw [List.replicate_succ']
            simpa [ivsN] using hown2
          refine ⟨⟨k + 1, _, by omega, by go_num, hset, hown3, hb2⟩, ?_⟩
          simp [intOf]
          omega
        · obtain rfl : k = y := by omega
          go_wp2
          go_ret
          exact ⟨w.heap.size, rfl, ⟨_, HM.out, HO.out, RowC.even _, H.out.2, H.out.1, Nat.le_refl _⟩, HB.out⟩
end Go.Proofs.YtflcmmeoppdhdaaGreat
namespace Go.Proofs.YtflcmmeoppdhdaaGreat
open Go.RowKit Go.Sort

set_option maxRecDepth 100000 in
theorem xHeld_any (p : Int) (w : World) : Calls Tryz.prog 106 #[.int .i64 p] w fun e w' => e = .returned (.int .i64 (clM p)) ∧ w' = w := by
  by_cases h : p < 0
  · have e : clM p = 0 := by unfold clM; omega
    rw [e]
    go_enter Tryz.func106, Tryz.ntmps106
    go_wp2
    go_ret
    exact ⟨rfl, rfl⟩
  · have e : clM p = min p 65536 := by unfold clM; omega
    rw [e]
    go_enter Tryz.func106, Tryz.ntmps106
    go_wp2
    go_ret
    exact ⟨rfl, rfl⟩
set_option maxRecDepth 100000 in
theorem xAway_any (p bit : Int) (w : World) (h : 0 ≤ p ∧ p ≤ 65536) : Calls Tryz.prog 108 #[.int .i64 p, .int .i64 bit] w fun e w' => e = .returned (.int .i64 (farM p bit)) ∧ w' = w := by
  obtain ⟨h1, h2⟩ := h
  unfold farM
  by_cases hb : bit = 0
  · subst hb
    rw [if_pos rfl]
    go_enter Tryz.func108, Tryz.ntmps108
    go_wp2
    go_ret
    exact ⟨rfl, rfl⟩
  · rw [if_neg hb]
    have hbb : (bit == 0) = false := by simp [hb]
    go_enter Tryz.func108, Tryz.ntmps108
    go_wp2
    go_ret
    exact ⟨rfl, rfl⟩
section
variable {w : World} {B B' n m m' : Nat} {A A' : Option Addr} {W l : List Int}
set_option maxRecDepth 100000 in
set_option maxHeartbeats 1000000 in
theorem xP_any (hw : WtsM n W) (h1 : 1 ≤ n ∧ n ≤ 8) (hr : Rd w B A (zvs W)) (hr' : Rd w B' A' (zvs l)) (hl : l.length = n) :
    Calls Tryz.prog 69 #[.slice A n m, .slice A' n m'] w fun e w' => e = .returned (.int .i64 (mixM W l)) ∧ ∃ j, w' = w.drewN j := by
  have HW := Lib.hid hw
  have HR := Lib.hid hr
  have HR' := Lib.hid hr'
  have HL := Lib.hid hl
  have CH := Lib.hid (fun p w => xHeld_any p w)
  clear hr hr' hl hw
  go_enter Tryz.func69, Tryz.ntmps69
  go_wp2
  go_loopw [5, 6, 7] (fun ss tt ii wr => ∃ k : Nat, k ≤ n ∧ ss = .int .i64 (dotM (W.take k) (l.take k)) ∧ tt = .int .i64 (W.take k).sum ∧ ii = .int .i64 (k : Int) ∧ ∃ j, wr = w.drewN j) (fun _ _ ii _ => n - (intOf ii).toNat)
  case atStart => exact ⟨0, Nat.zero_le _, by simp [dotM], by simp, rfl, 0, rfl⟩
  case round =>
    obtain ⟨k, hk, rfl, rfl, rfl, j, hwj⟩ := hrel
    have hh : wr.heap = w.heap := by rw [hwj]; rfl
    have HWJ := Lib.hid (show ∃ j, wr = w.drewN j from ⟨j, hwj⟩)
    clear hwj
    have hpart := dotM_part HW.out HL.out hk
    obtain ⟨S, hS⟩ : ∃ S, S = dotM (W.take k) (l.take k) := ⟨_, rfl⟩
    obtain ⟨T, hT⟩ : ∃ T, T = (W.take k).sum := ⟨_, rfl⟩
    rw [← hS, ← hT] at hpart ⊢
    have HST := Lib.hid (And.intro hS hT)
    clear hS hT
    by_cases hlt : k < n
    · have hkl : k < l.length := by rw [HL.out]; exact hlt
      have hkw : k < W.length := by rw [HW.out.len]; exact hlt
      obtain ⟨ab, ao, rfl, -, hc1⟩ := cell_of_rd (rd_same HR'.out hh) hkl
      obtain ⟨bb, bo, rfl, -, hc2⟩ := cell_of_rd (rd_same HR.out hh) hkw
      have hwk := HW.out.ok _ (List.getElem_mem hkw)
      have hsn := dotM_snoc hkw hkl
      have htn := sumM_snoc hkw
      rw [← HST.out.1] at hsn
      rw [← HST.out.2] at htn
      obtain ⟨x, hx⟩ : ∃ x, x = W[k]'hkw := ⟨_, rfl⟩
      obtain ⟨p, hp⟩ : ∃ p, p = l[k]'hkl := ⟨_, rfl⟩
      rw [← hx] at hc2 hwk hsn htn
      rw [← hp] at hc1 hsn
      have hpc := clM_ok p
      have hm0 := Int.mul_nonneg (show 0 ≤ x by omega) hpc.1
      have hm1 := Int.mul_le_mul hwk.2 hpc.2 hpc.1 (show (0 : Int) ≤ 255 by decide)
      have CP := Lib.hid (CH.out p)
      obtain ⟨c, hc⟩ : ∃ c, c = clM p := ⟨_, rfl⟩
      rw [← hc] at CP hm0 hm1 hsn
      obtain ⟨y, hy⟩ : ∃ y, y = x * c := ⟨_, rfl⟩
      have hw1 : IntKind.i64.wrap (x * c) = y := by rw [hy, IntKind.wrap_i64]; omega
      rw [← hy] at hm0 hm1 hsn
      have hw2 : IntKind.i64.wrap (S + y) = S + y := by rw [IntKind.wrap_i64]; omega
      have HSN := Lib.hid (And.intro hsn htn)
      have hki : (k : Int) < (n : Int) := by omega
      clear hx hp hc hy hkl hkw hpc hsn htn hh
      go_wp2
      go_quiet ((go_at_call 106; exact quietOf fun W _ => CP.out W))
      go_wp2
      refine ⟨⟨k + 1, by omega, by rw [HSN.out.1], by rw [HSN.out.2], by go_num, ?_⟩, by simp [intOf]; omega⟩
      obtain ⟨j, hj⟩ := HWJ.out
      exact ⟨j + nq, by rw [hj, World.drewN_drewN]⟩
    · obtain rfl : k = n := by omega
      have hS : S = dotM W l := by rw [HST.out.1, List.take_of_length_le (by rw [HW.out.len]; exact Nat.le_refl _), List.take_of_length_le (by rw [HL.out]; exact Nat.le_refl _)]
      have hT : T = W.sum := by rw [HST.out.2, List.take_of_length_le (by rw [HW.out.len]; exact Nat.le_refl _)]
      have hM : mixM W l = min (max (S / T) 32) 65504 := by rw [hS, hT]; rfl
      have hT1 : 0 < T := by omega
      have hq0 : 0 ≤ S / T := Int.ediv_nonneg hpart.1 (by omega)
      have hq1 : S / T ≤ 65536 := Int.ediv_le_of_le_mul hT1 hpart.2.1
      have HM := Lib.hid hM
      obtain ⟨q, hq⟩ : ∃ q, q = S / T := ⟨_, rfl⟩
      have hdiv : S.tdiv T = q := by rw [Int.tdiv_eq_ediv_of_nonneg hpart.1, hq]
      rw [← hq] at hq0 hq1 HM
      have hT0 : ¬ (T = 0) := by omega
      have hS0 := hpart.1
      clear hS hT hM hq hpart
      go_wp2
      go_ret
      exact ⟨ret_int HM.out.symm, HWJ.out⟩
end
end Go.Proofs.YtflcmmeoppdhdaaGreat
namespace Go.Proofs.YtflcmmeoppdhdaaGreat
open Go.RowKit Go.Sort

set_option maxRecDepth 100000 in
set_option maxHeartbeats 1000000 in
theorem xNew_any (n : Nat) (w : World) (h8 : n ≤ 8) :
    Calls Tryz.prog 68 #[.int .i64 (n : Int)] w fun e w' => ∃ v, e = .returned v ∧ w'.ownsRow w.heap.size 3 1 v n (zvs (List.replicate n 64)) ∧ Below w.heap.size w w' := by
  obtain ⟨i0, hi, hz0, hz1, hz2⟩ := info_parts info_int12
  go_enter Tryz.func68, Tryz.ntmps68
  go_wp2
  go_loopw [3, 4] (fun vv ii wr => ∃ k : Nat, k ≤ n ∧ ii = .int .i64 (k : Int) ∧ wr.ownsRow w.heap.size 3 1 vv k (zvs (List.replicate k 64)) ∧ Below w.heap.size w wr) (fun _ ii _ => n - (intOf ii).toNat)
  case atStart => exact ⟨0, Nat.zero_le _, rfl, World.ownsRow_nil _ _ _ _, Below.refl _ _⟩
  case round =>
    rename_i vv _
    obtain ⟨k, hk, rfl, hown, hb⟩ := hrel
    obtain ⟨Av, cv, rfl, -, -, -⟩ := own_form hown
    have HO := Lib.hid hown
    have HB := Lib.hid hb
    have hbs := hb.size
    clear hown hb
    by_cases hlt : k < n
    · have hki : (k : Int) < (n : Int) := by omega
      go_wp2_with (at_builtin; go_must (refine wpList_app rfl (.tmp 10) (.tmp 11) 53 rfl w.heap.size 3 i0 (.int .i64 0) 1 8 Tryz.underlying53 hi hz0 hz1 hz2 rfl (by decide) _ _ _ rfl (HO.out.alloc _) _ _ 1 1 _ rfl (Rd.new _ _ _) rfl (by intro u hu; simp at hu; subst hu; rfl) (by simp only [maxLen]; omega) (by omega) (by simp; omega) ?_; intro v1 w2 hown1 hg1; have HG := Lib.hid hg1; have HO1 := Lib.hid hown1; clear hown1 hg1))
      have hown3 : w2.ownsRow w.heap.size 3 1 v1 (k + 1) (zvs (List.replicate (k + 1) 64)) := by
        rw [List.replicate_succ']
        simpa [zvs] using HO1.out
      have hb2 := (HB.out.alloc hbs _).grown HG.out (by simp; omega) (own_block HO.out)
      refine ⟨⟨k + 1, by omega, by go_num, hown3, hb2⟩, by simp [intOf]; omega⟩
    · obtain rfl : k = n := by omega
      go_wp2
      go_ret
      exact ⟨_, rfl, HO.out, HB.out⟩

set_option maxRecDepth 100000 in
set_option maxHeartbeats 4000000 in
theorem xSeen_any {w : World} {n m m' : Nat} {A A' : Option Addr} {W l : List Int} (bit : Int) (hw : WtsM n W) (h1 : 1 ≤ n ∧ n ≤ 8) (hr : Rd w w.heap.size A (zvs W)) (hr' : Rd w w.heap.size A' (zvs l)) (hl : l.length = n) :
    Calls Tryz.prog 72 #[.slice A n m, .slice A' n m', .int .i64 bit] w fun e w' => ∃ v, e = .returned v ∧ w'.ownsRow w.heap.size 3 1 v n (zvs (seenM W l bit)) ∧ Below w.heap.size w w' := by
  obtain ⟨i0, hi, hz0, hz1, hz2⟩ := info_parts info_int12
  have CQ := Lib.hid (xP_any (m := m) (m' := m') hw h1 hr hr' hl)
  have HW := Lib.hid hw
  have HR := Lib.hid hr
  have HR' := Lib.hid hr'
  have HL := Lib.hid hl
  have CH := Lib.hid (fun p w => xHeld_any p w)
  have hmx : 0 ≤ mixM W l ∧ mixM W l ≤ 65536 := by have := heldM_ok (dotM W l / W.sum); unfold mixM; omega
  have CW := Lib.hid (fun w => xAway_any (mixM W l) bit w hmx)
  obtain ⟨pm, hpm⟩ : ∃ pm, pm = mixM W l := ⟨_, rfl⟩
  obtain ⟨mx, hmxe⟩ : ∃ mx, mx = farM (mixM W l) bit := ⟨_, rfl⟩
  have HMX := Lib.hid hmxe
  rw [← hmxe] at CW
  rw [← hpm] at CQ CW
  clear hr hr' hl hmx hpm hmxe hw
  go_enter Tryz.func72, Tryz.ntmps72
  go_wp2_with fail
  refine CQ.out.mono ?_
  rintro e w1 ⟨rfl, j, hwj⟩
  have HB0 := Lib.hid (show Below w.heap.size w w1 by rw [hwj]; exact below_drawn w j)
  clear hwj
  go_wp2
  go_loopw [8, 9] (fun vv ii wr => ∃ k : Nat, k ≤ n ∧ ii = .int .i64 (k : Int) ∧ wr.ownsRow w.heap.size 3 1 vv k (zvs ((seenM W l bit).take k)) ∧ Below w.heap.size w wr) (fun _ ii _ => n - (intOf ii).toNat)
  case atStart => exact ⟨0, Nat.zero_le _, rfl, World.ownsRow_nil _ _ _ _, HB0.out⟩
  case round =>
    clear HB0
    obtain ⟨k, hk, rfl, hown, hb⟩ := hrel
    obtain ⟨Av, cv, rfl, -, -, -⟩ := own_form hown
    have HO := Lib.hid hown
    have HB := Lib.hid hb
    have hbs := hb.size
    clear hown
    by_cases hlt : k < n
    · have hkl : k < l.length := by rw [HL.out]; exact hlt
      have hkw : k < W.length := by rw [HW.out.len]; exact hlt
      have hat := seenM_get HW.out HL.out bit hlt
      obtain ⟨ab, ao, rfl, -, hc1⟩ := cell_of_rd (HR'.out.below hb) hkl
      obtain ⟨bb, bo, rfl, -, hc2⟩ := cell_of_rd (HR.out.below hb) hkw
      have hwk := HW.out.ok _ (List.getElem_mem hkw)
      obtain ⟨x, hx⟩ : ∃ x, x = W[k]'hkw := ⟨_, rfl⟩
      obtain ⟨p, hp⟩ : ∃ p, p = l[k]'hkl := ⟨_, rfl⟩
      rw [← HMX.out] at hat
      rw [← hx] at hc2 hwk hat
      rw [← hp] at hc1 hat
      have CP := Lib.hid (CH.out p)
      have CV := Lib.hid (fun w => xAway_any (clM p) bit w (clM_ok p))
      obtain ⟨own, hown⟩ : ∃ own, own = farM (clM p) bit := ⟨_, rfl⟩
      rw [← hown] at CV hat
      obtain ⟨c, hc⟩ : ∃ c, c = clM p := ⟨_, rfl⟩
      rw [← hc] at CP CV
      have hki : (k : Int) < (n : Int) := by omega
      have HAT := Lib.hid hat
      clear hx hp hown hc hkl hkw hat hb
      rcases Int.lt_trichotomy own mx with h2 | h2 | h2
      · have HN := Lib.hid (show nextM x own mx = min (x + 1) 255 by unfold nextM; rw [if_pos h2])
        have h3 : ¬ (mx < own) := by omega
        go_wp2_with fail
        refine (CP.out _).mono ?_
        rintro e w' ⟨rfl, hw⟩
        obtain rfl : _ = w' := hw.symm
        go_wp2_with fail
        refine (CV.out _).mono ?_
        rintro e w' ⟨rfl, hw⟩
        obtain rfl : _ = w' := hw.symm
        go_wp2_with fail
        refine (CW.out _).mono ?_
        rintro e w' ⟨rfl, hw⟩
        obtain rfl : _ = w' := hw.symm
        go_wp2_with fail
        refine (CP.out _).mono ?_
        rintro e w' ⟨rfl, hw⟩
        obtain rfl : _ = w' := hw.symm
        go_wp2_with fail
        refine (CV.out _).mono ?_
        rintro e w' ⟨rfl, hw⟩
        obtain rfl : _ = w' := hw.symm
        go_wp2_with fail
        refine (CW.out _).mono ?_
        rintro e w' ⟨rfl, hw⟩
        obtain rfl : _ = w' := hw.symm
        go_wp2_with (at_builtin; go_must (refine wpList_app rfl (.tmp 52) (.tmp 54) 53 rfl w.heap.size 3 i0 (.int .i64 0) 1 8 Tryz.underlying53 hi hz0 hz1 hz2 rfl (by decide) _ _ _ rfl (HO.out.alloc _) _ _ 1 1 _ rfl (Rd.new _ _ _) rfl (by intro u hu; simp at hu; subst hu; rfl) (by simp only [maxLen]; omega) (by omega) (by simp; omega) ?_; intro v1 w2 hown1 hg1; have HG := Lib.hid hg1; have HO1 := Lib.hid hown1; clear hown1 hg1))
        have hown3 : w2.ownsRow w.heap.size 3 1 v1 (k + 1) (zvs ((seenM W l bit).take (k + 1))) := by
          rw [List.take_add_one, HAT.out, HN.out]
          simpa [zvs] using HO1.out
        have hb2 := (HB.out.alloc hbs _).grown HG.out (by simp; omega) (own_block HO.out)
        refine ⟨⟨k + 1, by omega, by go_num, hown3, hb2⟩, by simp [intOf]; omega⟩
      · have HN := Lib.hid (show nextM x own mx = x by unfold nextM; rw [if_neg (by omega), if_neg (by omega)])
        subst h2
        go_wp2_with fail
        refine (CP.out _).mono ?_
        rintro e w' ⟨rfl, hw⟩
        obtain rfl : _ = w' := hw.symm
        go_wp2_with fail
        refine (CV.out _).mono ?_
        rintro e w' ⟨rfl, hw⟩
        obtain rfl : _ = w' := hw.symm
        go_wp2_with fail
        refine (CW.out _).mono ?_
        rintro e w' ⟨rfl, hw⟩
        obtain rfl : _ = w' := hw.symm
        go_wp2_with fail
        refine (CP.out _).mono ?_
        rintro e w' ⟨rfl, hw⟩
        obtain rfl : _ = w' := hw.symm
        go_wp2_with fail
        refine (CV.out _).mono ?_
        rintro e w' ⟨rfl, hw⟩
        obtain rfl : _ = w' := hw.symm
        go_wp2_with fail
        refine (CW.out _).mono ?_
        rintro e w' ⟨rfl, hw⟩
        obtain rfl : _ = w' := hw.symm
        go_wp2_with (at_builtin; go_must (refine wpList_app rfl (.tmp 52) (.tmp 54) 53 rfl w.heap.size 3 i0 (.int .i64 0) 1 8 Tryz.underlying53 hi hz0 hz1 hz2 rfl (by decide) _ _ _ rfl (HO.out.alloc _) _ _ 1 1 _ rfl (Rd.new _ _ _) rfl (by intro u hu; simp at hu; subst hu; rfl) (by simp only [maxLen]; omega) (by omega) (by simp; omega) ?_; intro v1 w2 hown1 hg1; have HG := Lib.hid hg1; have HO1 := Lib.hid hown1; clear hown1 hg1))
        have hown3 : w2.ownsRow w.heap.size 3 1 v1 (k + 1) (zvs ((seenM W l bit).take (k + 1))) := by
          rw [List.take_add_one, HAT.out, HN.out]
          simpa [zvs] using HO1.out
        have hb2 := (HB.out.alloc hbs _).grown HG.out (by simp; omega) (own_block HO.out)
        refine ⟨⟨k + 1, by omega, by go_num, hown3, hb2⟩, by simp [intOf]; omega⟩
      · have HN := Lib.hid (show nextM x own mx = max (x - 1) 1 by unfold nextM; rw [if_neg (by omega), if_pos h2])
        have h3 : ¬ (own < mx) := by omega
        go_wp2_with fail
        refine (CP.out _).mono ?_
        rintro e w' ⟨rfl, hw⟩
        obtain rfl : _ = w' := hw.symm
        go_wp2_with fail
        refine (CV.out _).mono ?_
        rintro e w' ⟨rfl, hw⟩
        obtain rfl : _ = w' := hw.symm
        go_wp2_with fail
        refine (CW.out _).mono ?_
        rintro e w' ⟨rfl, hw⟩
        obtain rfl : _ = w' := hw.symm
        go_wp2_with fail
        refine (CP.out _).mono ?_
        rintro e w' ⟨rfl, hw⟩
        obtain rfl : _ = w' := hw.symm
        go_wp2_with fail
        refine (CV.out _).mono ?_
        rintro e w' ⟨rfl, hw⟩
        obtain rfl : _ = w' := hw.symm
        go_wp2_with fail
        refine (CW.out _).mono ?_
        rintro e w' ⟨rfl, hw⟩
        obtain rfl : _ = w' := hw.symm
        go_wp2_with (at_builtin; go_must (refine wpList_app rfl (.tmp 52) (.tmp 54) 53 rfl w.heap.size 3 i0 (.int .i64 0) 1 8 Tryz.underlying53 hi hz0 hz1 hz2 rfl (by decide) _ _ _ rfl (HO.out.alloc _) _ _ 1 1 _ rfl (Rd.new _ _ _) rfl (by intro u hu; simp at hu; subst hu; rfl) (by simp only [maxLen]; omega) (by omega) (by simp; omega) ?_; intro v1 w2 hown1 hg1; have HG := Lib.hid hg1; have HO1 := Lib.hid hown1; clear hown1 hg1))
        have hown3 : w2.ownsRow w.heap.size 3 1 v1 (k + 1) (zvs ((seenM W l bit).take (k + 1))) := by
          rw [List.take_add_one, HAT.out, HN.out]
          simpa [zvs] using HO1.out
        have hb2 := (HB.out.alloc hbs _).grown HG.out (by simp; omega) (own_block HO.out)
        refine ⟨⟨k + 1, by omega, by go_num, hown3, hb2⟩, by simp [intOf]; omega⟩
    · obtain rfl : k = n := by omega
      have ho := HO.out
      rw [List.take_of_length_le (by rw [(HW.out.seen HL.out bit).len]; exact Nat.le_refl _)] at ho
      have HO2 := Lib.hid ho
      clear ho hb
      go_wp2
      go_ret
      exact ⟨_, rfl, HO2.out, HB.out⟩
end Go.Proofs.YtflcmmeoppdhdaaGreat
