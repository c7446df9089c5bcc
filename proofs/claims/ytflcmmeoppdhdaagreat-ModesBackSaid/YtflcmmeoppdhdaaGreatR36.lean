/-
  Layer 27: what the ways' methods do; Code and Decode, by what the coders do. · Layer 27: what becomes of bytes by a mode, and how many it is at least. · Layer 17: the program's decoder: Read, next, Find, Take, Err, Done. · Layer 17: the program's decoder: Find, Take, Read. · Layer 26: what may lie beside a decoder; a part found, and taken, where bytes may follow; ways to take a byte.
-/
import Derived.Test.YtflcmmeoppdhdaaGreatR10
import Derived.Test.YtflcmmeoppdhdaaGreatR20
import Derived.Test.YtflcmmeoppdhdaaGreatR27
import Derived.Test.YtflcmmeoppdhdaaGreatR29
import Derived.Test.YtflcmmeoppdhdaaGreatR35
import Derived.Shelf.Abstract
namespace Go.Proofs.YtflcmmeoppdhdaaGreat
open Go.RowKit Go.Sort Go.Shelf

/-- New memory that holds these bytes. -/
def NewM (w : World) (Q : List UInt8) (e : Ending) (w' : World) : Prop := ∃ v, e = .returned v ∧ IsBytes Q v w' ∧ Below w.heap.size w w'
/-- Bytes, and an error. -/
def SaysM (w : World) (l : List UInt8) (E : Int) (e : Ending) (w' : World) : Prop := ∃ v, e = .returned (.tuple #[v, .int .i64 E]) ∧ IsBytes l v w' ∧ Below w.heap.size w w'
theorem clone_m {l : List UInt8} {v : Value} {W : World} (h : IsBytes l v W) (hl : l.length ≤ 1000000) : Calls Tryz.prog 274 #[v] W (NewM W l) := by
  obtain ⟨A, c, rfl, hc, hr⟩ := h
  refine (bcloneB_any A l.length c l W hr rfl (by omega)).mono ?_
  rintro e w' ⟨v, rfl, hown, hb⟩
  exact ⟨v, rfl, IsBytes.of_own hown, hb⟩
set_option maxRecDepth 100000 in
theorem theyCode_any {l : List UInt8} {v : Value} {W : World} (V : Int) (h : IsBytes l v W) (hl : l.length ≤ 1000000) : Calls Tryz.prog 271 #[.agg #[], v, .int .i64 V] W (NewM W l) := by
  have C := Lib.hid (fun W' (hb : Below W.heap.size W W') => clone_m (h.grow hb) hl)
  have hb1 := (Below.refl W.heap.size W).alloc (Nat.le_refl _) (.cells #[] 74)
  have C1 := Lib.hid (C.out _ hb1)
  have HB := Lib.hid hb1
  clear h hl C hb1
  go_enter Tryz.func271, Tryz.ntmps271
  go_wp2_with fail
  refine C1.out.mono ?_
  rintro e w1 ⟨v', rfl, hv, hb⟩
  have HV := Lib.hid (And.intro hv (HB.out.trans (hb.mono HB.out.size)))
  clear hv hb
  go_wp2
  go_ret
  exact ⟨v', rfl, HV.out⟩
set_option maxRecDepth 100000 in
theorem wordsCode_any {Q : List UInt8} {v : Value} {W : World} {V : Int} (C : ∀ W', Below W.heap.size W W' → Calls Tryz.prog 278 #[v, .int .i64 V] W' (NewM W' Q)) : Calls Tryz.prog 275 #[.agg #[], v, .int .i64 V] W (NewM W Q) := by
  have hb1 := (Below.refl W.heap.size W).alloc (Nat.le_refl _) (.cells #[] 75)
  have C1 := Lib.hid (C _ hb1)
  have HB := Lib.hid hb1
  clear C hb1
  go_enter Tryz.func275, Tryz.ntmps275
  go_wp2_with fail
  refine C1.out.mono ?_
  rintro e w1 ⟨v', rfl, hv, hb⟩
  have HV := Lib.hid (And.intro hv (HB.out.trans (hb.mono HB.out.size)))
  clear hv hb
  go_wp2
  go_ret
  exact ⟨v', rfl, HV.out⟩
set_option maxRecDepth 100000 in
theorem lettersCode_any {Q : List UInt8} {v u : Value} {W : World} {V : Int} {K : Nat} (hE : Enters Tryz.prog K) (C : ∀ W', Below W.heap.size W W' → Calls Tryz.prog K #[v] W' (NewM W' Q)) : Calls Tryz.prog 302 #[.agg #[.func (.func K) #[] #[], u], v, .int .i64 V] W (NewM W Q) := by
  have hb1 := (Below.refl W.heap.size W).alloc (Nat.le_refl _) (.cells #[.func (.func K) #[] #[], u] 78)
  have hk : Blk (W.alloc (.cells #[.func (.func K) #[] #[], u] 78)) W.heap.size 78 [.func (.func K) #[] #[], u] := heap_alloc_new W _
  have c0 := hk.cell 0
  simp only [List.getElem?_cons_zero] at c0
  have C1 := Lib.hid (C _ hb1)
  have HB := Lib.hid hb1
  have HE := Lib.hid hE
  clear C hb1 hE hk
  go_enter Tryz.func302, Tryz.ntmps302
  go_wp2_with fail
  rw [HE.out]
  refine C1.out.mono ?_
  rintro e w1 ⟨v', rfl, hv, hb⟩
  have HV := Lib.hid (And.intro hv (HB.out.trans (hb.mono HB.out.size)))
  clear hv hb
  go_wp2
  go_ret
  exact ⟨v', rfl, HV.out⟩
set_option maxRecDepth 100000 in
theorem theyDec_any {l : List UInt8} {v : Value} {W : World} (V : Int) (h : IsBytes l v W) (hl : l.length ≤ 1000000) : Calls Tryz.prog 272 #[.agg #[], v, .int .i64 V, .int .i64 (l.length : Int)] W (SaysM W l 0) := by
  have hb1 := (Below.refl W.heap.size W).alloc (Nat.le_refl _) (.cells #[] 74)
  have C1 := Lib.hid (clone_m (h.grow hb1) hl)
  have HB := Lib.hid hb1
  obtain ⟨A, c, rfl, hc, hr⟩ := h
  obtain ⟨N, hN⟩ : ∃ N : Nat, N = l.length := ⟨_, rfl⟩
  rw [← hN] at C1 ⊢
  have hne : ((N : Int) != (N : Int)) = false := by simp
  clear hb1 hr hc hN hl
  go_enter Tryz.func272, Tryz.ntmps272
  go_wp2_with fail
  refine C1.out.mono ?_
  rintro e w1 ⟨v', rfl, hv, hb⟩
  have HV := Lib.hid (And.intro hv (HB.out.trans (hb.mono HB.out.size)))
  clear hv hb
  go_wp2
  go_ret2
  exact ⟨v', rfl, HV.out⟩
set_option maxRecDepth 100000 in
theorem wordsDec_any {l : List UInt8} {v : Value} {W : World} {V n E : Int} (C : ∀ W', Below W.heap.size W W' → Calls Tryz.prog 279 #[v, .int .i64 V, .int .i64 n] W' (SaysM W' l E)) : Calls Tryz.prog 276 #[.agg #[], v, .int .i64 V, .int .i64 n] W (SaysM W l E) := by
  have hb1 := (Below.refl W.heap.size W).alloc (Nat.le_refl _) (.cells #[] 75)
  have C1 := Lib.hid (C _ hb1)
  have HB := Lib.hid hb1
  clear C hb1
  go_enter Tryz.func276, Tryz.ntmps276
  go_wp2_with fail
  refine C1.out.mono ?_
  rintro e w1 ⟨v', rfl, hv, hb⟩
  have HV := Lib.hid (And.intro hv (HB.out.trans (hb.mono HB.out.size)))
  clear hv hb
  go_wp2
  go_ret2
  exact ⟨v', rfl, HV.out⟩
set_option maxRecDepth 100000 in
theorem lettersDec_any {l : List UInt8} {v u : Value} {W : World} {V n E : Int} {K : Nat} (hE : Enters Tryz.prog K) (C : ∀ W', Below W.heap.size W W' → Calls Tryz.prog K #[v, .int .i64 n] W' (SaysM W' l E)) : Calls Tryz.prog 303 #[.agg #[u, .func (.func K) #[] #[]], v, .int .i64 V, .int .i64 n] W (SaysM W l E) := by
  have hb1 := (Below.refl W.heap.size W).alloc (Nat.le_refl _) (.cells #[u, .func (.func K) #[] #[]] 78)
  have hk : Blk (W.alloc (.cells #[u, .func (.func K) #[] #[]] 78)) W.heap.size 78 [u, .func (.func K) #[] #[]] := heap_alloc_new W _
  have c0 := hk.cell 1
  simp only [List.getElem?_cons_zero, List.getElem?_cons_succ] at c0
  have C1 := Lib.hid (C _ hb1)
  have HB := Lib.hid hb1
  have HE := Lib.hid hE
  clear C hb1 hE hk
  go_enter Tryz.func303, Tryz.ntmps303
  go_wp2_with fail
  rw [HE.out]
  refine C1.out.mono ?_
  rintro e w1 ⟨v', rfl, hv, hb⟩
  have HV := Lib.hid (And.intro hv (HB.out.trans (hb.mono HB.out.size)))
  clear hv hb
  go_wp2
  go_ret2
  exact ⟨v', rfl, HV.out⟩
theorem enters_code {k : Nat} (hk : k ≤ 5) : Enters Tryz.prog (codeK k) := by
  rcases (show k = 0 ∨ k = 1 ∨ k = 2 ∨ k = 3 ∨ k = 4 ∨ k = 5 by omega) with rfl | rfl | rfl | rfl | rfl | rfl
  · exact enters_of Tryz.func271 (by kernel_rfl) rfl
  · exact enters_of Tryz.func275 (by kernel_rfl) rfl
  all_goals exact enters_of Tryz.func302 (by kernel_rfl) rfl
theorem enters_dec {k : Nat} (hk : k ≤ 5) : Enters Tryz.prog (decK k) := by
  rcases (show k = 0 ∨ k = 1 ∨ k = 2 ∨ k = 3 ∨ k = 4 ∨ k = 5 by omega) with rfl | rfl | rfl | rfl | rfl | rfl
  · exact enters_of Tryz.func272 (by kernel_rfl) rfl
  · exact enters_of Tryz.func276 (by kernel_rfl) rfl
  all_goals exact enters_of Tryz.func303 (by kernel_rfl) rfl
set_option maxRecDepth 100000 in
set_option maxHeartbeats 1000000 in
/-- Code, by what the way's own code does. -/
theorem mdsCode_any {k : Nat} (hk : k ≤ 5) {V : Nat} (hV : IsW V) {Q : List UInt8} {v : Value} {w : World} (C : ∀ W', Below w.heap.size w W' → Calls Tryz.prog (codeK k) #[wayX k, v, .int .i64 (V : Int)] W' (NewM W' Q)) : Calls Tryz.prog 8 #[.int .i64 (k : Int), v, .int .i64 (V : Int)] w (SaysM w Q 0) := by
  have CW := Lib.hid (wayOf_any hk)
  have CR := Lib.hid (wordRight_any (V : Int) true hV.right)
  have HE := Lib.hid (enters_code hk)
  have hm := fun W => meth_code hk W
  simp only [Tryz.types_size, Nat.reduceAdd] at hm
  obtain ⟨T, hT⟩ : ∃ T, T = wayT k := ⟨_, rfl⟩
  obtain ⟨X, hX⟩ : ∃ X, X = wayX k := ⟨_, rfl⟩
  obtain ⟨K, hK⟩ : ∃ K, K = codeK k := ⟨_, rfl⟩
  have CC := Lib.hid C
  rw [← hT, ← hX, ← hK] at hm
  unfold wayV at CW
  rw [← hT, ← hX] at CW
  rw [← hX, ← hK] at CC
  rw [← hK] at HE
  clear C hT hX hK hk hV
  go_enter Tryz.func8, Tryz.ntmps8
  go_wp2_with fail
  refine (CW.out _).mono ?_
  rintro e w1 ⟨rfl, hb1⟩
  have C1 := Lib.hid (CC.out _ hb1)
  have HB := Lib.hid hb1
  clear hb1
  go_wp2_with fail
  refine (CR.out _).mono ?_
  rintro e w2 ⟨rfl, hw⟩
  subst hw
  have hm1 := hm w1
  go_wp2_with fail
  rw [HE.out]
  refine C1.out.mono ?_
  rintro e w2 ⟨v', rfl, hv, hb⟩
  have HV := Lib.hid (And.intro hv (HB.out.trans (hb.mono HB.out.size)))
  clear hv hb
  go_wp2
  go_ret2
  exact ⟨v', rfl, HV.out⟩
theorem none_bytes (w : World) : IsBytes [] (.slice none 0 0) w := ⟨none, 0, rfl, Nat.le_refl _, Rd.nil_ _ _ _⟩
/-- How many bytes a payload has at least. -/
def leastM (k V n : Nat) : Nat :=
  match k with
  | 0 => n
  | 1 => (n / V + n % V * 8 + 7) / 8
  | 2 => 0
  | 3 => 0
  | 4 => 0
  | _ => if n = 0 then 0 else (260 + n + 7) / 8
theorem enters_lea {k : Nat} (hk : k = 0 ∨ k = 1 ∨ k = 5) : Enters Tryz.prog (leaK k) := by
  rcases hk with rfl | rfl | rfl
  · exact enters_of Tryz.func273 (by kernel_rfl) rfl
  · exact enters_of Tryz.func277 (by kernel_rfl) rfl
  · exact enters_of Tryz.func304 (by kernel_rfl) rfl
def IntM (w : World) (n : Nat) (e : Ending) (w' : World) : Prop := e = .returned (.int .i64 (n : Int)) ∧ Below w.heap.size w w'
theorem wayLea_any {k : Nat} (hk : k = 0 ∨ k = 1 ∨ k = 5) {V : Nat} (hV : IsW V) {n : Nat} (hn : n ≤ 100000000) (W : World) : Calls Tryz.prog (leaK k) #[wayX k, .int .i64 (V : Int), .int .i64 (n : Int)] W (IntM W (leastM k V n)) := by
  rcases hk with rfl | rfl | rfl
  · exact theyLeast_any _ _ _
  · exact wordsLeast_any hV n hn _
  · exact codesLeast_any _ n hn _ _
set_option maxRecDepth 100000 in
set_option maxHeartbeats 1000000 in
theorem least_any {k : Nat} (hk : k ≤ 5) {V : Nat} (hV : IsW V) {n : Nat} (hn : n ≤ 100000000) (w : World) : Calls Tryz.prog 26 #[wayV k, .int .i64 (V : Int), .int .i64 (n : Int)] w (IntM w (leastM k V n)) := by
  by_cases h : k = 0 ∨ k = 1 ∨ k = 5
  · have ha := asserts_yes h
    have hm := meth_least h
    simp only [Tryz.types_size, Nat.reduceAdd] at hm
    have HE := Lib.hid (enters_lea h)
    have CL := Lib.hid (wayLea_any h hV hn)
    obtain ⟨T, hT⟩ : ∃ T, T = wayT k := ⟨_, rfl⟩
    obtain ⟨X, hX⟩ : ∃ X, X = wayX k := ⟨_, rfl⟩
    obtain ⟨K, hK⟩ : ∃ K, K = leaK k := ⟨_, rfl⟩
    obtain ⟨M, hM⟩ : ∃ M, M = leastM k V n := ⟨_, rfl⟩
    unfold wayV at *
    rw [← hT, ← hX] at ha ⊢
    rw [← hT, ← hX, ← hK] at hm
    rw [← hK] at HE
    rw [← hK, ← hX, ← hM] at CL
    rw [← hM]
    clear hT hX hK hM h hk hV hn
    go_enter Tryz.func26, Tryz.ntmps26
    go_wp2_with fail
    rw [HE.out]
    refine (CL.out _).mono ?_
    rintro e w2 ⟨rfl, hb⟩
    go_wp2
    go_ret
    exact ⟨rfl, hb⟩
  · have ha := asserts_not (show k = 2 ∨ k = 3 ∨ k = 4 by omega)
    have hz : leastM k V n = 0 := by
      rcases (show k = 2 ∨ k = 3 ∨ k = 4 by omega) with rfl | rfl | rfl <;> rfl
    rw [hz]
    obtain ⟨T, hT⟩ : ∃ T, T = wayT k := ⟨_, rfl⟩
    obtain ⟨X, hX⟩ : ∃ X, X = wayX k := ⟨_, rfl⟩
    unfold wayV at *
    rw [← hT, ← hX] at ha ⊢
    clear hT hX h hk hV hn hz
    go_enter Tryz.func26, Tryz.ntmps26
    go_wp2
    go_ret
    exact ⟨rfl, Below.refl _ _⟩
set_option maxRecDepth 100000 in
set_option maxHeartbeats 1000000 in
/-- Decode of a payload that is long enough, by what the way's own decode does. -/
theorem mdsDecode_any {k : Nat} (hk : k ≤ 5) {V : Nat} (hV : IsW V) {n M c : Nat} (hn : n ≤ 67108864) (hM : leastM k V n ≤ M) {A : Option Addr} {l : List UInt8} {E : Int} {w : World} (C : ∀ W', Below w.heap.size w W' → Calls Tryz.prog (decK k) #[wayX k, .slice A M c, .int .i64 (V : Int), .int .i64 (n : Int)] W' (SaysM W' l E)) : Calls Tryz.prog 16 #[.int .i64 (k : Int), .slice A M c, .int .i64 (V : Int), .int .i64 (n : Int)] w (SaysM w l E) := by
  have CW := Lib.hid (wayOf_any hk)
  have CR := Lib.hid (wordRight_any (V : Int) true hV.right)
  have CL := Lib.hid (least_any hk hV (n := n) (by omega))
  have HE := Lib.hid (enters_dec hk)
  have hm := fun W => meth_dec hk W
  simp only [Tryz.types_size, Nat.reduceAdd] at hm
  obtain ⟨L, hL⟩ : ∃ L, L = leastM k V n := ⟨_, rfl⟩
  have h1 : ¬ ((M : Int) < (L : Int)) := by omega
  have h2 : ¬ ((n : Int) < 0) := by omega
  have h3 : ¬ ((67108864 : Int) < (n : Int)) := by omega
  obtain ⟨T, hT⟩ : ∃ T, T = wayT k := ⟨_, rfl⟩
  obtain ⟨X, hX⟩ : ∃ X, X = wayX k := ⟨_, rfl⟩
  obtain ⟨K, hK⟩ : ∃ K, K = decK k := ⟨_, rfl⟩
  have CC := Lib.hid C
  rw [← hT, ← hX, ← hK] at hm
  unfold wayV at CW CL
  rw [← hT, ← hX] at CW
  rw [← hT, ← hX, ← hL] at CL
  rw [← hX, ← hK] at CC
  rw [← hK] at HE
  obtain ⟨m, hmN⟩ : ∃ m : Int, m = (n : Int) := ⟨_, rfl⟩
  rw [← hmN] at CL CC h2 h3 ⊢
  clear C hT hX hK hk hV hL hM hn hmN
  go_enter Tryz.func16, Tryz.ntmps16
  go_wp2_with fail
  refine (CW.out _).mono ?_
  rintro e w1 ⟨rfl, hb1⟩
  have HB := Lib.hid hb1
  clear hb1
  go_wp2_with fail
  refine (CR.out _).mono ?_
  rintro e w2 ⟨rfl, hw⟩
  subst hw
  go_wp2_with fail
  refine (CL.out _).mono ?_
  rintro e w2 ⟨rfl, hb2⟩
  have C1 := Lib.hid (CC.out _ (HB.out.trans (hb2.mono HB.out.size)))
  have HB2 := Lib.hid (HB.out.trans (hb2.mono HB.out.size))
  clear hb2
  have hm1 := hm w2
  go_wp2_with fail
  rw [HE.out]
  refine C1.out.mono ?_
  rintro e w3 ⟨v', rfl, hv, hb⟩
  have HV := Lib.hid (And.intro hv (HB2.out.trans (hb.mono HB2.out.size)))
  clear hv hb
  go_wp2
  go_ret2
  exact ⟨v', rfl, HV.out⟩
end Go.Proofs.YtflcmmeoppdhdaaGreat
namespace Go.Proofs.YtflcmmeoppdhdaaGreat
open Go.RowKit Go.Sort

/-- Bytes, coded by mode k. -/
def ModeQ (k V : Nat) (l Q : List UInt8) : Prop :=
  match k with
  | 0 => Q = l
  | 1 => RiceSays (V : Int) l Q
  | 2 => RansQ l Q
  | 3 => BldQ letWay noneF l Q
  | 4 => BldQ bitWay newD l Q
  | _ => HuffQ l Q
theorem onesOf_some (n m : Nat) (h : 0 < m) : 1 ≤ (onesOf n m).length ∨ n = 0 ∧ ¬ n < m := by
  unfold onesOf
  by_cases h1 : n < m
  · rw [if_pos h1]; left; simp
  · rw [if_neg h1]; left; simp; omega
theorem riceW_some (D k v : Nat) : 1 ≤ (riceW D k v).length := by
  unfold riceW
  split
  · have := onesOf_some (v / 2 ^ k) 24 (by decide)
    rw [List.length_append]; omega
  · have : (onesOf 24 24).length = 24 := (onesOf_len 24 24).2 rfl
    rw [List.length_append]; omega
theorem riceB_least {D A N : Nat} {l : List Nat} {L : List Bool} (h : RiceB D A N l L) : l.length ≤ L.length := by
  induction h with
  | none => exact Nat.le_refl _
  | word A N k v l L hk hr ih =>
    have := riceW_some D k v
    rw [List.length_append, List.length_cons]; omega
theorem allBits_len (l : List UInt8) : (allBits l).length = 8 * l.length := by simp [allBits]
theorem lensB_ge : ∀ o : List Nat, o.length ≤ (lensB o).length
  | [] => Nat.le_refl _
  | x :: o => by
    have ih := lensB_ge o
    unfold lensB at *
    rw [List.flatMap_cons, List.length_append, lenB_len, List.length_cons]; omega
theorem lensB_one : ∀ (o : List Nat) (k : Nat), 1 ≤ o.getD k 0 → o.length + 4 ≤ (lensB o).length
  | [], k, h => by simp at h
  | x :: o, 0, h => by
    have ih := lensB_ge o
    have hx : 1 ≤ x := by simpa using h
    unfold lensB at *
    rw [List.flatMap_cons, List.length_append, lenB_len, List.length_cons]; omega
  | x :: o, k + 1, h => by
    have ih := lensB_one o k (by simpa using h)
    unfold lensB at *
    rw [List.flatMap_cons, List.length_append, lenB_len, List.length_cons]; omega
theorem huffB_least {l : List UInt8} {o : List Nat} (hl : l ≠ []) (hT : LensT l o) : 260 + l.length ≤ (huffB o l).length := by
  obtain ⟨b, t, rfl⟩ := List.exists_cons_of_ne_nil hl
  have h1 := lensB_one o b.toNat (hT.some b List.mem_cons_self)
  have h2 := lettersB_least (o := o) (b :: t) hT.some
  have h3 := hT.len
  unfold huffB
  rw [List.length_append]; omega
theorem leastM_le {k V : Nat} (hV : IsW V) {l Q : List UInt8} (h : ModeQ k V l Q) : leastM k V l.length ≤ Q.length := by
  match k with
  | 0 =>
    have h : Q = l := h
    rw [h]; exact Nat.le_refl _
  | 1 =>
    have h : RiceSays (V : Int) l Q := h
    show (l.length / V + l.length % V * 8 + 7) / 8 ≤ _
    rcases h with ⟨h1, -⟩ | ⟨V', L, h1, h2, h3, h4⟩
    · have := hV.right; rw [h1] at this; cases this
    · obtain rfl : V = V' := by omega
      have h5 := riceB_least h3
      have h6 := h4.1
      have h7 := wordsOf_len V l
      have h8 := restOf_len V l
      rw [List.length_append, allBits_len] at h6
      have hrl : (restOf V l).length = l.length % V := by
        rw [h8]
        have := Nat.div_add_mod l.length V
        rw [Nat.mul_comm] at this
        omega
      rw [hrl] at h6
      rw [h7] at h5
      generalize l.length / V = q at *
      generalize l.length % V = r at *
      omega
  | 2 => exact Nat.zero_le _
  | 3 => exact Nat.zero_le _
  | 4 => exact Nat.zero_le _
  | k + 5 =>
    have h : HuffQ l Q := h
    show (if l.length = 0 then 0 else (260 + l.length + 7) / 8) ≤ _
    rcases h with ⟨rfl, rfl⟩ | ⟨h1, o, h2, h3⟩
    · exact Nat.le_refl _
    · have h4 := huffB_least h1 (lensT_of h1 h2)
      have h5 := h3.1
      have h6 := List.length_pos_iff.2 h1
      rw [if_neg (by omega)]
      omega
theorem newBy_m {w : World} {l : List UInt8} {e : Ending} {w' : World} (h : NewBy w l e w') : NewM w l e w' := by
  obtain ⟨v, he, hown, hb⟩ := h
  exact ⟨v, he, IsBytes.of_own hown, hb⟩
end Go.Proofs.YtflcmmeoppdhdaaGreat
namespace Go.Proofs.YtflcmmeoppdhdaaGreat
open Go.RowKit Go.Sort Go.Shelf

/-- The program's decoder at D: a span, the bytes that are left (below block K), C, the first error. -/
def DecAt (w : World) (D K : Nat) (L R : Nat) (s : Nat × List Nat × Nat) : Prop :=
  ∃ A n m, Blk w D 247 [.int .u32 (L : Int), .int .u32 (R : Int), .slice A n m, .int .u32 (s.1 : Int), .int .i64 (s.2.2 : Int)] ∧ Rd w K A (nvs s.2.1) ∧ s.2.1.length = n ∧ n ≤ m ∧ n ≤ 1000000 ∧ K ≤ D ∧ s.1 < 4294967296 ∧ ∀ b ∈ s.2.1, b < 256
/-- No error, or the one of bytes that lack. -/
def Soft (s : Nat × List Nat × Nat) : Prop := s.2.2 = 0 ∨ s.2.2 = 16
theorem comeS_soft {s : Nat × List Nat × Nat} (h : Soft s) : Soft (comeS s) := by
  obtain ⟨C, B, E⟩ := s
  cases B with
  | nil => rcases h with h | h <;> (simp only at h; subst h; exact .inr rfl)
  | cons b T => exact h
theorem comesS_soft : ∀ (k : Nat) {s : Nat × List Nat × Nat}, Soft s → Soft (comesS k s)
  | 0, _, h => h
  | k + 1, _, h => comesS_soft k (comeS_soft h)
section
variable {w : World} {D K L R C E : Nat} {B : List Nat} {s : Nat × List Nat × Nat}
theorem DecAt.below {w' : World} (h : DecAt w D K L R s) (hb : Below w.heap.size w w') : DecAt w' D K L R s := by
  obtain ⟨A, n, m, h1, h2, h3, h4, h5, h6, h7⟩ := h
  exact ⟨A, n, m, h1.grow hb, h2.below (hb.mono (by have := h1.lt; omega)), h3, h4, h5, h6, h7⟩
theorem DecAt.same {w' : World} (h : DecAt w D K L R s) (e : w'.heap = w.heap) : DecAt w' D K L R s := by
  obtain ⟨A, n, m, h1, h2, h3, h4, h5, h6, h7⟩ := h
  exact ⟨A, n, m, h1.same e, h2.keep (fun p _ => World.cell?_of_block (by rw [e])), h3, h4, h5, h6, h7⟩
theorem DecAt.drew_ (h : DecAt w D K L R s) : DecAt w.drew D K L R s := h.same rfl
theorem DecAt.lt (h : DecAt w D K L R s) : D < w.heap.size := by
  obtain ⟨A, n, m, h1, -⟩ := h
  exact h1.lt
theorem shiftadd_vals {C b : Nat} (hb : b < 256) : ∃ M c : Nat, (C : Int) * 256 % 4294967296 = (M : Int) ∧ IntKind.u32.wrap ((C : Int) * 256) = (M : Int) ∧ IntKind.u32.wrap ((M : Int) + (b : Int)) = (c : Int) ∧ ((M : Int) + (b : Int)) % 4294967296 = (c : Int) ∧ IntKind.u32.wrap (b : Int) = (b : Int) ∧ c = (256 * C + b) % 4294967296 := by
  refine ⟨C * 256 % 4294967296, (256 * C + b) % 4294967296, by omega, ?_, ?_, by omega, ?_, rfl⟩
  · rw [IntKind.wrap_u32]; omega
  · rw [IntKind.wrap_u32]; omega
  · rw [IntKind.wrap_u32]; omega
set_option maxHeartbeats 1000000 in
set_option maxRecDepth 100000 in
theorem decNext_any (h : DecAt w D K L R s) (hs : Soft s) :
    Calls Tryz.prog 186 #[.pointer (some ⟨D, 0, none⟩)] w fun e w' => e = .returned (.tuple #[]) ∧ DecAt w' D K L R (comeS s) ∧ TurnsB D D w w' := by
  obtain ⟨C, B, E⟩ := s
  obtain ⟨A, n, m, hb, hr, hn, hnm, hn1, hK, hC, hB⟩ := h
  simp only at hb hr hn hC hB
  have hc2 := hb.cell 2
  have hc3 := hb.cell 3
  have hf2 := hb.frozen 2
  have hf3 := hb.frozen 3
  have hf4 := hb.frozen 4
  simp only [List.getElem?_cons_zero, List.getElem?_cons_succ] at hc2 hc3
  have HB := Lib.hid hb
  have HR := Lib.hid hr
  clear hb hr
  cases B with
  | nil =>
    obtain rfl : n = 0 := by rw [← hn]; rfl
    have hc4 := HB.out.cell 4
    simp only [List.getElem?_cons_zero, List.getElem?_cons_succ] at hc4
    have he : comeS (C, [], E) = (C, [], 16) := by rw [comeS_nil]; rcases hs with h | h <;> (simp only at h; subst h; rfl)
    rw [he]
    clear hs hc3 hf2 hf3 he
    go_enter Tryz.func186, Tryz.ntmps186
    go_wp2
    (try simp only [Exit.inBlock, Exit.then]); refine bodyPost_ret (results_none rfl _ _ _) rfl ?_
    exact ⟨rfl, ⟨A, 0, m, HB.out.set_ 4 _, Rd.nil_ _ _ _, rfl, hnm, hn1, hK, hC, hB⟩, TurnsB.set_ 4 _⟩
  | cons b T =>
    have hb8 := hB b (by simp)
    have hTb : ∀ y ∈ T, y < 256 := fun y hy => hB y (by simp [hy])
    have hTl : T.length + 1 = n := by rw [← hn]; rfl
    obtain ⟨ab, ao, rfl, hab, hcell⟩ := HR.out 0 (.int .u8 (b : Int)) (by simp [nvs])
    rw [Nat.add_zero] at hcell
    obtain ⟨M, c, e1, e5, e2, e6, e3, e4⟩ := shiftadd_vals (C := C) hb8
    rw [comeS_cons, ← e4]
    have hn0 : ¬ (n : Int) = 0 := by omega
    have hn3 : (0 : Int) < (n : Int) := by omega
    have hn4 : 0 < n := by omega
    have hn5 : ¬ n = 0 := by omega
    have hc256 : c < 4294967296 := by rw [e4]; exact Nat.mod_lt _ (by decide)
    have hDs := HB.out.lt
    clear e4 hs
    go_enter Tryz.func186, Tryz.ntmps186
    go_wp2
    refine wp_region_still_tail 16 (by kernel_rfl) (by kernel_rfl) ?_
    simp only [List.take_succ_cons, List.take_zero, List.drop_succ_cons, List.drop_zero]
    repeat still_step
    refine wpStill_nil ?_
    change wpList _ _ _ _ _ w.drew
    have hb1 : Blk ((w.setCell ⟨D, 3, none⟩ (.int .u32 (c : Int))).drew) D 247 [.int .u32 (L : Int), .int .u32 (R : Int), .slice (some ⟨ab, ao, none⟩) n m, .int .u32 (c : Int), .int .i64 (E : Int)] := (HB.out.set_ 3 _).drew_
    have hr1 : Rd ((w.setCell ⟨D, 3, none⟩ (.int .u32 (c : Int))).drew) K (some ⟨ab, ao, none⟩) (nvs (b :: T)) := (HR.out.setCell hK _).drew
    have HB1 := Lib.hid hb1
    have HR1 := Lib.hid hr1
    have HLN := Lib.hid (show (nvs (b :: T)).length = n by rw [nvs_length]; exact hn)
    clear hb1 hr1 hn3 hn4 hn5 hn0 hcell
    have h1n : 1 ≤ n := by omega
    go_wp2_with ((with_reducible show wpList _ _ _ (({ dst := some 32, op := _, type := _, pos := _, after := _, guard := _ } : Oper) :: _) _ _); go_must (refine wpList_from rfl (.tmp 31) (.const (.int .i64 1)) rfl Tryz.underlying22 size_u8d K _ n m 1 (nvs (b :: T)) rfl rfl HR1.out HLN.out hnm h1n ?_; intro A2 c2 hc2' hr2; rw [nvs_drop] at hr2))
    refine bodyPost_end (results_none rfl _ _ _) rfl ?_
    exact ⟨rfl, ⟨A2, n - 1, c2, (HB1.out.set_ 2 (.slice A2 (n - 1) c2)).same rfl, (hr2.setCell (by exact hK) _), by simp only; omega, hc2', by omega, hK, hc256, hTb⟩, ((TurnsB.set_ 3 _).trans (TurnsB.set_ 2 _)).drew⟩
set_option maxHeartbeats 1000000 in
theorem decErr_nil (w : World) : Calls Tryz.prog 188 #[.pointer none] w fun e w' => e = .returned (.int .i64 1) ∧ w' = w := by
  go_enter Tryz.func188, Tryz.ntmps188
  go_wp2
  go_ret
  exact ⟨rfl, rfl⟩
set_option maxHeartbeats 1000000 in
theorem decErr_any (h : DecAt w D K L R s) : Calls Tryz.prog 188 #[.pointer (some ⟨D, 0, none⟩)] w fun e w' => e = .returned (.int .i64 (s.2.2 : Int)) ∧ w' = w := by
  obtain ⟨A, n, m, hb, -⟩ := h
  have hc4 := hb.cell 4
  simp only [List.getElem?_cons_zero, List.getElem?_cons_succ] at hc4
  clear hb
  go_enter Tryz.func188, Tryz.ntmps188
  go_wp2
  go_ret
  exact ⟨rfl, rfl⟩
set_option maxHeartbeats 1000000 in
theorem decDone_nil (w : World) : Calls Tryz.prog 141 #[.pointer none] w fun e w' => e = .returned (.int .i64 1) ∧ w' = w := by
  have C := Lib.hid (decErr_nil w)
  go_enter Tryz.func141, Tryz.ntmps141
  go_wp2_with fail
  refine C.out.mono ?_
  rintro _ w0 ⟨rfl, hw0⟩
  subst w0
  go_wp2
  go_ret
  exact ⟨rfl, rfl⟩
/-- What Done tells. -/
def doneS (s : Nat × List Nat × Nat) : Nat := if s.2.2 = 0 then (if s.2.1 = [] then 0 else 16) else s.2.2
set_option maxHeartbeats 1000000 in
theorem decDone_any (h : DecAt w D K L R s) : Calls Tryz.prog 141 #[.pointer (some ⟨D, 0, none⟩)] w fun e w' => e = .returned (.int .i64 (doneS s : Int)) ∧ w' = w := by
  have C := Lib.hid (decErr_any h)
  obtain ⟨C0, B, E⟩ := s
  obtain ⟨A, n, m, hb, -, hn, -⟩ := h
  have hc2 := hb.cell 2
  simp only [List.getElem?_cons_zero, List.getElem?_cons_succ] at hc2 C
  simp only at hn
  clear hb
  by_cases hE : E = 0
  · subst hE
    cases B with
    | nil =>
      obtain rfl : n = 0 := by rw [← hn]; rfl
      have HD := Lib.hid (show doneS (C0, [], 0) = 0 from rfl)
      go_enter Tryz.func141, Tryz.ntmps141
      go_wp2_with fail
      refine C.out.mono ?_
      rintro _ w0 ⟨rfl, hw0⟩
      subst w0
      go_wp2
      go_ret
      exact ⟨by rw [HD.out]; rfl, rfl⟩
    | cons b T =>
      have hn1 : (0 : Int) < (n : Int) := by rw [← hn, List.length_cons]; omega
      have HD := Lib.hid (show doneS (C0, b :: T, 0) = 16 from rfl)
      clear hn
      go_enter Tryz.func141, Tryz.ntmps141
      go_wp2_with fail
      refine C.out.mono ?_
      rintro _ w0 ⟨rfl, hw0⟩
      subst w0
      go_wp2
      go_ret
      exact ⟨by rw [HD.out]; rfl, rfl⟩
  · have hEi : ¬ (E : Int) = 0 := by omega
    have HD := Lib.hid (show doneS (C0, B, E) = E by unfold doneS; rw [if_neg hE])
    clear hE hn
    go_enter Tryz.func141, Tryz.ntmps141
    go_wp2_with fail
    refine C.out.mono ?_
    rintro _ w0 ⟨rfl, hw0⟩
    subst w0
    go_wp2
    go_ret
    exact ⟨by rw [HD.out]; rfl, rfl⟩
theorem DecAt.setErr (h : DecAt w D K L R (C, B, E)) (E' : Nat) : DecAt (w.setCell ⟨D, 4, none⟩ (.int .i64 (E' : Int))) D K L R (C, B, E') ∧ TurnsB D D w (w.setCell ⟨D, 4, none⟩ (.int .i64 (E' : Int))) := by
  obtain ⟨A, n, m, hb, hr, hn, hnm, hn1, hK, hC, hB⟩ := h
  exact ⟨⟨A, n, m, hb.set_ 4 _, hr.setCell hK _, hn, hnm, hn1, hK, hC, hB⟩, TurnsB.set_ 4 _⟩
end
end Go.Proofs.YtflcmmeoppdhdaaGreat
namespace Go.Proofs.YtflcmmeoppdhdaaGreat
open Go.RowKit Go.Sort Go.Shelf

section
variable {w : World} {D K L R C E : Nat} {B : List Nat} {s : Nat × List Nat × Nat}
theorem find_vals32 {L R C T : Nat} (hL : L < 4294967296) (hC : C < 4294967296) (hT : 1 ≤ T) (hTR : T ≤ R) : ∃ Z r q : Nat, IntKind.u32.wrap ((C : Int) - (L : Int)) = (Z : Int) ∧ ((C : Int) - (L : Int)) % 4294967296 = (Z : Int) ∧ r = R / T ∧ 1 ≤ r ∧ IntKind.u32.wrap ((Z : Int) / (r : Int)) = (q : Int) ∧ (Z : Int) / (r : Int) = (q : Int) ∧ q < 4294967296 ∧ q = (C + 4294967296 - L) % 4294967296 / (R / T) := by
  have hr : 1 ≤ R / T := (Nat.le_div_iff_mul_le (by omega)).2 (by omega)
  obtain ⟨r, hrr⟩ : ∃ r, r = R / T := ⟨_, rfl⟩
  rw [← hrr] at hr
  rw [← hrr]
  obtain ⟨Z, hZ⟩ : ∃ Z, Z = (C + 4294967296 - L) % 4294967296 := ⟨_, rfl⟩
  have hlt : Z < 4294967296 := by rw [hZ]; exact Nat.mod_lt _ (by decide)
  have hdc2 : (Z : Int) / (r : Int) = ((Z / r : Nat) : Int) := (Int.natCast_ediv _ _).symm
  have hle : Z / r ≤ Z := Nat.div_le_self _ _
  rw [← hZ]
  obtain ⟨q, hq⟩ : ∃ q, q = Z / r := ⟨_, rfl⟩
  rw [← hq] at hle hdc2 ⊢
  refine ⟨Z, r, q, ?_, ?_, rfl, hr, ?_, hdc2, by omega, rfl⟩
  · rw [IntKind.wrap_u32]; omega
  · omega
  · rw [hdc2, IntKind.wrap_u32]; omega
set_option maxHeartbeats 1000000 in
set_option maxRecDepth 100000 in
theorem decFind_ok (T : Nat) (h : DecAt w D K L R (C, B, 0)) (hi : InSpan L R) (hR : 65536 ≤ R) (h1 : 1 ≤ T) (h2 : T ≤ 65536) :
    Calls Tryz.prog 144 #[.pointer (some ⟨D, 0, none⟩), .int .i64 (T : Int)] w fun e w' => e = .returned (.int .i64 ((findS L R C T).1 : Int)) ∧ DecAt w' D K L R (C, B, (findS L R C T).2) ∧ TurnsB D D w w' := by
  have C1 := Lib.hid (decErr_any h)
  have hR2 : R < 4294967296 := by obtain ⟨a, b, c, d⟩ := hi; omega
  obtain ⟨A, n, m, hb, hr, hn, hnm, hn1, hK, hC, hB⟩ := id h
  have C2 := Lib.hid (spStep_ok (w := w) (g := D) T h1 h2 hR2 (hb.cell 1))
  obtain ⟨Z, r, q, e1, e2, e3, e4, e5, e6, e7, e8⟩ := find_vals32 (L := L) (R := R) (C := C) (T := T) hi.1 hC h1 (by omega)
  rw [← e3] at C2
  have hc0 := hb.cell 0
  have hc3 := hb.cell 3
  have hc4 := hb.cell 4
  have hf4 := hb.frozen 4
  simp only [List.getElem?_cons_zero, List.getElem?_cons_succ] at hc0 hc3 hc4 C1
  have HH := Lib.hid h
  have HE := Lib.hid e8
  have hDl := hb.lt
  have hr0 : ¬ r = 0 := by omega
  have hr1 : ¬ (r : Int) = 0 := by omega
  have HWQ := Lib.hid (show IntKind.i64.wrap (q : Int) = (q : Int) ∧ IntKind.u32.wrap (q : Int) = (q : Int) ∧ wrap64 (q : Int) = (q : Int) ∧ (q : Int) % 4294967296 = (q : Int) from ⟨by rw [IntKind.wrap_i64]; omega, by rw [IntKind.wrap_u32]; omega, IntWalk.wrap64_in _ (by omega), by omega⟩)
  have HE5 := Lib.hid (And.intro e1 (And.intro e2 (And.intro e5 e6)))
  clear hb hr hn hnm hn1 hK hC hB e1 e2 e3 e4 e5 e6 e7 e8 h hi hR h1 h2 hR2
  by_cases hq : T ≤ q
  · have hfs : findS L R C T = (0, 16) := by unfold findS; rw [← HE.out, if_pos hq]
    rw [hfs]
    have hqi : (T : Int) ≤ (q : Int) := by omega
    have HEND := Lib.hid (show DecAt ((w.setCell ⟨D, 4, none⟩ (.int .i64 16)).drew) D K L R (C, B, 16) ∧ TurnsB D D w ((w.setCell ⟨D, 4, none⟩ (.int .i64 16)).drew) from ⟨(HH.out.setErr 16).1.drew_, (HH.out.setErr 16).2.drew⟩)
    clear hfs hq
    go_enter Tryz.func144, Tryz.ntmps144
    go_wp2_with fail
    refine C1.out.mono ?_
    rintro _ w0 ⟨rfl, hw0⟩
    subst w0
    go_wp2_with fail
    refine C2.out.mono ?_
    rintro _ w0 ⟨rfl, hw0⟩
    subst w0
    clear C1 C2
    go_wp2
    obtain ⟨e1, e2, e5, e6⟩ := HE5.out
    obtain ⟨hwq, hwq1, hwq3, hwq2⟩ := HWQ.out
    refine wp_region_still_lit (by kernel_rfl) (by kernel_rfl) ?_
    repeat still_step
    refine wpStill_nil ?_
    change Exit.then _ _ _ _ w.drew
    clear e1 e2 e5 e6 hwq hwq1 hwq2 hwq3 HE5 HWQ
    go_wp2
    go_ret
    exact ⟨rfl, HEND.out⟩
  · have hfs : findS L R C T = (q, 0) := by unfold findS; rw [← HE.out, if_neg hq]
    rw [hfs]
    have hqi : ¬ (T : Int) ≤ (q : Int) := by omega
    clear hfs hq
    go_enter Tryz.func144, Tryz.ntmps144
    go_wp2_with fail
    refine C1.out.mono ?_
    rintro _ w0 ⟨rfl, hw0⟩
    subst w0
    go_wp2_with fail
    refine C2.out.mono ?_
    rintro _ w0 ⟨rfl, hw0⟩
    subst w0
    clear C1 C2
    go_wp2
    obtain ⟨e1, e2, e5, e6⟩ := HE5.out
    obtain ⟨hwq, hwq1, hwq3, hwq2⟩ := HWQ.out
    refine wp_region_still_lit (by kernel_rfl) (by kernel_rfl) ?_
    repeat still_step
    refine wpStill_nil ?_
    change Exit.then _ _ _ _ w.drew
    clear e1 e2 e5 e6 hwq hwq1 hwq2 hwq3 HE5 HWQ
    go_wp2
    go_ret
    exact ⟨rfl, HH.out.drew_, (TurnsB.refl D D w).drew⟩
theorem dec_span (hs : Soft s) : SpanJ D 186 (fun o L' R' w' => DecAt w' D K L' R' (comesS o.length s) ∧ TurnsB D D w w') where
  cell0 := fun {o L' R' w'} ⟨⟨A, n, m, hb, _⟩, _⟩ => hb.cell 0
  cell1 := fun {o L' R' w'} ⟨⟨A, n, m, hb, _⟩, _⟩ => hb.cell 1
  frozen0 := fun {o L' R' w'} ⟨⟨A, n, m, hb, _⟩, _⟩ => hb.frozen 0
  frozen1 := fun {o L' R' w'} ⟨⟨A, n, m, hb, _⟩, _⟩ => hb.frozen 1
  set0 := fun {o L' R' w'} L2 ⟨⟨A, n, m, hb, hr, hn, hnm, hn1, hK, hC, hB⟩, ht⟩ => ⟨⟨A, n, m, hb.set_ 0 _, hr.setCell hK _, hn, hnm, hn1, hK, hC, hB⟩, ht.trans (TurnsB.set_ 0 _)⟩
  set1 := fun {o L' R' w'} L2 ⟨⟨A, n, m, hb, hr, hn, hnm, hn1, hK, hC, hB⟩, ht⟩ => ⟨⟨A, n, m, hb.set_ 1 _, hr.setCell hK _, hn, hnm, hn1, hK, hC, hB⟩, ht.trans (TurnsB.set_ 1 _)⟩
  drew := fun {o L' R' w'} ⟨h, ht⟩ => ⟨h.drew_, ht.drew⟩
  move := fun {o L' R' w'} ⟨h2, ht2⟩ _ _ => (decNext_any h2 (comesS_soft o.length hs)).mono fun e w2 ⟨h3, h4, h5⟩ => ⟨h3, by rw [List.length_append, List.length_singleton, comesS_succ]; exact h4, ht2.trans h5⟩
set_option maxHeartbeats 1000000 in
theorem decTake_ok {low size total A' B' : Nat} {o : List Nat} (h : DecAt w D K L R (C, B, 0)) (hi : InSpan L R) (hR : 65536 ≤ R) (h1 : 1 ≤ size) (h2 : low + size ≤ total) (h3 : total ≤ 65536) (hm : Moves (L + low * (R / total)) (size * (R / total)) o A' B') :
    Calls Tryz.prog 145 #[.pointer (some ⟨D, 0, none⟩), .int .i64 (low : Int), .int .i64 (size : Int), .int .i64 (total : Int)] w fun e w' => e = .returned (.int .i64 ((comesS o.length (C, B, 0)).2.2 : Int)) ∧ DecAt w' D K A' B' (comesS o.length (C, B, 0)) ∧ TurnsB D D w w' := by
  have hR2 : R < 4294967296 := by obtain ⟨a, b, c, d⟩ := hi; omega
  have C1 := Lib.hid (decErr_any h)
  have D1 := Lib.hid (spNarrow_any (w := w) (dec_span (D := D) (K := K) (w := w) (s := (C, B, 0)) (.inl rfl)) (enters_of Tryz.func186 (by kernel_rfl) rfl) ⟨h, TurnsB.refl _ _ _⟩ hi hR h1 h2 h3 hm)
  obtain ⟨A, n, m, hb, -⟩ := h
  have C2 := Lib.hid (spMay_any (w := w) (g := D) (low : Int) (size : Int) (total : Int) (by omega) hR hR2 (hb.cell 1))
  rw [mayP_iff.2 ⟨h1, h2, h3⟩] at C2
  have hc4 := hb.cell 4
  simp only [List.getElem?_cons_zero, List.getElem?_cons_succ] at hc4 C1
  obtain ⟨s2, hs2⟩ : ∃ s2, s2 = comesS o.length (C, B, 0) := ⟨_, rfl⟩
  rw [← hs2] at D1 ⊢
  have hDl := hb.lt
  clear hb hm hR hR2 hi h1 h2 h3 hs2
  go_enter Tryz.func145, Tryz.ntmps145
  go_wp2_with fail
  refine C1.out.mono ?_
  rintro _ w0 ⟨rfl, hw0⟩
  subst w0
  go_wp2_with fail
  refine C2.out.mono ?_
  rintro _ w0 ⟨rfl, hw0⟩
  subst w0
  go_wp2_with fail
  refine D1.out.mono ?_
  rintro _ w2 ⟨rfl, hd, ht⟩
  have hc2 : w2.cell? ⟨D, 4, none⟩ = some (.int .i64 (s2.2.2 : Int)) := by
    obtain ⟨A2, n2, m2, hb2, -⟩ := hd
    exact hb2.cell 4
  have hDl2 := hd.lt
  have H := Lib.hid (And.intro hd ht)
  clear hd ht C1 C2 D1 hc4
  go_wp2
  go_ret
  exact ⟨rfl, H.out⟩
set_option maxHeartbeats 1000000 in
theorem decRead_any {A : Option Addr} {n m : Nat} (l : List UInt8) (hr : Rd w w.heap.size A (bvs l)) (hn : l.length = n) (hn1 : n ≤ 1000000) :
    Calls Tryz.prog 139 #[.slice A n m] w fun e w' => ∃ D, e = .returned (.pointer (some ⟨D, 0, none⟩)) ∧ w.heap.size ≤ D ∧ DecAt w' D D 0 4294967295 (comesS 4 (0, l.map UInt8.toNat, 0)) ∧ Below w.heap.size w w' := by
  have C1 := Lib.hid (rcFirst_any w)
  have C2 := Lib.hid (fun (W : World) (h : Below w.heap.size w W) => clone_all A n m l W ((hr.below h).more h.size) hn (by omega))
  have HN := Lib.hid hn
  have HN1 := Lib.hid hn1
  clear hr hn hn1
  go_enter Tryz.func139, Tryz.ntmps139
  go_wp2_with fail
  refine C1.out.mono ?_
  rintro _ w1 ⟨rfl, hb1⟩
  have HB1 := Lib.hid hb1
  clear hb1
  go_wp2_with fail
  refine (C2.out w1 HB1.out).mono ?_
  rintro _ w2 ⟨v, rfl, hown, hb2⟩
  obtain ⟨A2, c2, rfl, hc2, -, -⟩ := own_form hown
  have HB2 := Lib.hid (HB1.out.trans (hb2.mono HB1.out.size))
  have h0 : DecAt (w2.alloc (.cells #[.int .u32 0, .int .u32 4294967295, .slice A2 l.length c2, .int .u32 0, .int .i64 0] 247)) w2.heap.size w2.heap.size 0 4294967295 (comesS 0 (0, l.map UInt8.toNat, 0)) := by
    refine ⟨A2, l.length, c2, heap_alloc_new w2 _, ?_, by simp [comesS], hc2, by have := HN.out; have := HN1.out; omega, Nat.le_refl _, Nat.zero_lt_succ _, ?_⟩
    · show Rd _ _ _ (nvs (l.map UInt8.toNat))
      rw [nvs_bvs]
      exact (Rd.of_own hown).alloc (Nat.le_refl _) _
    · intro b hb
      obtain ⟨c, -, rfl⟩ := List.mem_map.1 hb
      exact c.toNat_lt
  have hbw : Below w.heap.size w (w2.alloc (.cells #[.int .u32 0, .int .u32 4294967295, .slice A2 l.length c2, .int .u32 0, .int .i64 0] 247)) := HB2.out.alloc HB2.out.size _
  obtain ⟨D, hD⟩ : ∃ D, D = w2.heap.size := ⟨_, rfl⟩
  obtain ⟨w3, hw3⟩ : ∃ w3, w3 = w2.alloc (.cells #[.int .u32 0, .int .u32 4294967295, .slice A2 l.length c2, .int .u32 0, .int .i64 0] 247) := ⟨_, rfl⟩
  rw [← hw3, ← hD] at h0
  rw [← hw3] at hbw
  have H0 := Lib.hid h0
  have HBW := Lib.hid hbw
  have HW := Lib.hid hw3
  have HD := Lib.hid hD
  have HDS := Lib.hid (show w.heap.size ≤ D by rw [hD]; exact HB2.out.size)
  clear h0 hbw hw3 hD hown hb2 hc2 C1 C2
  go_wp2
  simp only [← HW.out, ← HD.out]
  go_loopw [9] (fun i wr => ∃ k : Nat, k ≤ 4 ∧ i = .int .i64 (k : Int) ∧ DecAt wr D D 0 4294967295 (comesS k (0, l.map UInt8.toNat, 0)) ∧ Below w.heap.size w wr) (fun i _ => 4 - (intOf i).toNat)
  case atStart => exact ⟨0, by decide, rfl, H0.out, HBW.out⟩
  case round =>
    clear H0 HBW
    obtain ⟨k, hk, rfl, hd, hb⟩ := hrel
    by_cases hlt : k < 4
    · have C3 := Lib.hid (decNext_any hd (comesS_soft k (.inl rfl)))
      have HB := Lib.hid hb
      have hki : (k : Int) < 4 := by omega
      clear hd hb
      go_wp2_with fail
      refine C3.out.mono ?_
      rintro _ w4 ⟨rfl, hd2, ht2⟩
      have HD2 := Lib.hid (show DecAt w4 D D 0 4294967295 (comesS (k + 1) (0, l.map UInt8.toNat, 0)) by rw [comesS_succ]; exact hd2)
      have HB2 := Lib.hid (HB.out.trans (ht2.below (B := w.heap.size) HDS.out HDS.out HB.out.size))
      clear hd2 ht2 C3 HB
      go_wp2
      go_roundw
      case rel => exact ⟨k + 1, by omega, by go_num, HD2.out, HB2.out⟩
      case measure => simp [intOf]; omega
    · obtain rfl : k = 4 := by omega
      have HE := Lib.hid (And.intro hd hb)
      clear hd hb
      go_wp2
      go_ret
      exact ⟨D, rfl, HDS.out, HE.out⟩
end
end Go.Proofs.YtflcmmeoppdhdaaGreat
namespace Go.Proofs.YtflcmmeoppdhdaaGreat
open Go.RowKit Go.Sort Go.Shelf

/-- What a decoder has read of bytes T, behind which X follow. -/
def restS (T X : List Nat) : Nat × List Nat × Nat := (num4 (T ++ X), (T ++ X).drop 4, 0)
theorem num4_app {T : List Nat} (X : List Nat) (h : 4 ≤ T.length) : num4 (T ++ X) = num4 T := by
  match T, h with
  | a :: b :: c :: d :: T, _ => rfl
theorem restS_start {T X : List Nat} (hT : ∀ y ∈ T ++ X, y < 256) (hl : 4 ≤ T.length) : comesS 4 (0, T ++ X, 0) = restS T X := by
  unfold restS
  match T, hl with
  | a :: b :: c :: d :: T, _ => exact comesS_four a b c d (T ++ X) hT
/-- A part found, and taken. -/
theorem back_more {L R : Nat} {p : RcPart} {rest : List RcPart} {T X : List Nat} (h : Laid L R (p :: rest) T) (hs : InSpan L R) (hR : 65536 ≤ R) (hp : ∀ q ∈ p :: rest, q.ok) (hX : ∀ y ∈ X, y < 256) :
    ∃ (n L' R' : Nat) (T' : List Nat), Laid L' R' rest T' ∧ InSpan L' R' ∧ 65536 ≤ R' ∧ p.low ≤ n ∧ n < p.low + p.size ∧
      (∀ (w : World) (D K : Nat), DecAt w D K L R (restS T X) → Calls Tryz.prog 144 #[.pointer (some ⟨D, 0, none⟩), .int .i64 (p.total : Int)] w fun e w' => e = .returned (.int .i64 (n : Int)) ∧ DecAt w' D K L R (restS T X) ∧ TurnsB D D w w') ∧
      (∀ (w : World) (D K : Nat), DecAt w D K L R (restS T X) → Calls Tryz.prog 145 #[.pointer (some ⟨D, 0, none⟩), .int .i64 (p.low : Int), .int .i64 (p.size : Int), .int .i64 (p.total : Int)] w fun e w' => e = .returned (.int .i64 0) ∧ DecAt w' D K L' R' (restS T' X) ∧ TurnsB D D w w') := by
  obtain ⟨w1, w2, w3, w4⟩ := h.within hs hR hp
  obtain ⟨p1, p2, p3⟩ := hp p List.mem_cons_self
  obtain ⟨n1, n2, n3, n4⟩ := narrow_span hs hR p1 p2 p3
  cases h with
  | part _ _ _ _ o T L' R' hm hr =>
    obtain ⟨i1, i2⟩ := hm.inside n4
    obtain ⟨t1, t2, t3, t4⟩ := hr.within i1 i2 fun q hq => hp q (List.mem_cons_of_mem _ hq)
    obtain ⟨q1, q2⟩ := hm.within n4 T t1 t2 t3 t4
    have hC : num4 (o ++ T) < 4294967296 := by have := hs.2.2.1; omega
    obtain ⟨n, f1, f2, f3⟩ := findS_in (L := L) (R := R) (C := num4 (o ++ T)) (low := p.low) (size := p.size) (total := p.total) w3 hC n1 q1 q2 p2
    have hb : ∀ y ∈ o ++ (T ++ X), y < 256 := fun y hy => by
      rw [← List.append_assoc] at hy
      rcases List.mem_append.1 hy with hy | hy
      · exact w1 y hy
      · exact hX y hy
    have hcm := comesS_num o (T ++ X) 0 hb (by rw [List.length_append]; omega)
    rw [← List.append_assoc] at hcm
    rw [← num4_app X w2] at f1
    refine ⟨n, L', R', T, hr, i1, i2, f2, f3, fun w D K hd => ?_, fun w D K hd => ?_⟩
    · have := decFind_ok p.total hd hs hR (by omega) p3
      rw [f1] at this
      exact this
    · have := decTake_ok hd hs hR p1 p2 p3 hm
      rw [hcm] at this
      exact this
section
variable {w w' : World} {D K L R : Nat} {st : Nat × List Nat × Nat} {S : List Nat}
/-- Of S each block is known, is no decoder, and holds no byte. -/
def NoByte (S : List Nat) (w : World) : Prop := ∀ g ∈ S, ∃ t cs, Blk w g t cs ∧ t ≠ 247 ∧ ∀ v ∈ cs, ∀ x, v ≠ .int .u8 x
theorem DecAt.onlyS (h : DecAt w D K L R st) (hu : OnlyS S w w') (hS : NoByte S w) : DecAt w' D K L R st := by
  obtain ⟨A, n, m, h1, h2, h3, h4, h5, h6, h7⟩ := h
  refine ⟨A, n, m, hu.blk h1 fun hD => ?_, fun i u hi => ?_, h3, h4, h5, h6, h7⟩
  · obtain ⟨t, cs, hb, hne, -⟩ := hS D hD
    exact h1.ofType.ne hne.symm hb.ofType
  · obtain ⟨b, off, rfl, hb, hc⟩ := h2 i u hi
    refine ⟨b, off, rfl, hb, ?_⟩
    have hlt : b < w.heap.size := World.block_lt_of_cell? w _ hc
    rw [World.cell?_of_block (w := w) (w' := w') (a := ⟨b, off + i, none⟩) (hu.block b hlt fun hm => ?_)]
    · exact hc
    · obtain ⟨t, cs, hk, -, hv⟩ := hS b hm
      have e : cs[off + i]? = some u := (hk.cell (off + i)).symm.trans hc
      have hx : ∃ x, u = .int .u8 x := by
        simp only [nvs, List.getElem?_map, Option.map_eq_some_iff] at hi
        obtain ⟨y, -, rfl⟩ := hi
        exact ⟨_, rfl⟩
      obtain ⟨x, rfl⟩ := hx
      exact hv _ (List.mem_of_getElem? e) x rfl
theorem DecAt.kept (h : DecAt w D K L R st) (hk : ∀ k, k ≤ D → w'.heap[k]? = w.heap[k]?) : DecAt w' D K L R st := by
  obtain ⟨A, n, m, h1, h2, h3, h4, h5, h6, h7⟩ := h
  exact ⟨A, n, m, (hk D (Nat.le_refl _)).trans h1, h2.keep fun p hp => World.cell?_of_block (hk _ (by omega)), h3, h4, h5, h6, h7⟩
theorem DecAt.ofType (h : DecAt w D K L R st) : OfType w D 247 := by
  obtain ⟨A, n, m, h1, -⟩ := h
  exact h1.ofType
theorem DecAt.turnedT (h : DecAt w D K L R st) (ht : TurnsB D D w w') : OnlyT 0 [247] w w' :=
  (OnlyS.of_turns ht (S := [D]) (by simp)).onlyT fun g hg => by
    rw [List.mem_singleton.1 hg]
    exact ⟨Nat.zero_le _, _, by simp, h.ofType⟩
end
theorem zvs_nob (l : List Int) : ∀ v ∈ zvs l, ∀ x, v ≠ .int .u8 x := fun v hv x e => by
  obtain ⟨y, -, rfl⟩ := List.mem_map.1 hv
  cases e
theorem cvs_nob (l : List Nat) : ∀ v ∈ cvs l, ∀ x, v ≠ .int .u8 x := fun v hv x e => by
  obtain ⟨y, -, rfl⟩ := List.mem_map.1 hv
  cases e
theorem IsModel.nob {w : World} {a : ModA} {s : ModD} (h : IsModel w a s) : NoByte a.all w := fun g hg => by
  simp only [ModA.all, List.mem_cons, List.not_mem_nil, or_false] at hg
  rcases hg with rfl | rfl | rfl | rfl | rfl
  · refine ⟨_, _, h.mb, by decide, fun v hv x e => ?_⟩
    subst e
    simp [modC] at hv
  · exact ⟨_, _, h.b1.cb, by decide, cvs_nob _⟩
  · exact ⟨_, _, h.b2.cb, by decide, cvs_nob _⟩
  · exact ⟨_, _, h.b3.cb, by decide, cvs_nob _⟩
  · exact ⟨_, _, h.x.fb, by decide, zvs_nob _⟩
theorem IsFreq.nob {w : World} {F T S : Nat} {c : List Int} {st mo : Int} (h : IsFreq w F T S c st mo) : NoByte [T, S] w := fun g hg => by
  simp only [List.mem_cons, List.not_mem_nil, or_false] at hg
  rcases hg with rfl | rfl
  · refine ⟨_, _, h.tree.2.tb, by decide, fun v hv x e => ?_⟩
    subst e
    simp at hv
  · exact ⟨_, _, h.tree.2.sb, by decide, zvs_nob _⟩
/-- A way to take a byte: function K with what it has captured. -/
structure TakeJ {σ : Type} (V : Way σ) (K : Nat) (caps : Array Value) (S : List Nat) (own : Nat → Prop) (At : σ → World → Prop) : Prop where
  kept : ∀ {s : σ} {w w' : World}, At s w → (∀ k, own k → w'.heap[k]? = w.heap[k]?) → At s w'
  take : ∀ {s : σ} {c D Kd L R : Nat} {rest : List RcPart} {T X : List Nat} {w : World}, V.inv s → c < 256 → At s w → DecAt w D Kd L R (restS T X) → Laid L R (V.parts s c ++ rest) T → InSpan L R → 65536 ≤ R → (∀ p ∈ V.parts s c ++ rest, p.ok) → (∀ y ∈ X, y < 256) →
    Calls Tryz.prog K (#[.pointer (some ⟨D, 0, none⟩)] ++ caps) w fun e w' => e = .returned (.int .u8 (c : Int)) ∧ ∃ L' R' T', Laid L' R' rest T' ∧ InSpan L' R' ∧ 65536 ≤ R' ∧ At (V.next s c) w' ∧ DecAt w' D Kd L' R' (restS T' X) ∧ OnlyS (D :: S) w w'
end Go.Proofs.YtflcmmeoppdhdaaGreat
