/- Layer 27: what the ways' methods do; Code and Decode, by what the coders do. -/
import Derived.Test.YtflcmmeoppdhdaaGreatMdsWay
import Derived.Shelf.Abstract
namespace Go.Proofs.YtflcmmeoppdhdaaGreat
open Go.RowKit Go.Sort Go.Shelf

/-- New memory that holds these bytes. -/
def NewM (w : World) (Q : List UInt8) (e : Ending) (w' : World) : Prop := ∃ v, e = .returned v ∧ IsBytes Q v w' ∧ Below w.heap.size w w'
/-- Bytes, and an error. -/
def SaysM (w : World) (l : List UInt8) (E : Int) (e : Ending) (w' : World) : Prop := ∃ v, e = .returned (.tuple #[v, .int .i64 E]) ∧ IsBytes l v w' ∧ Below w.heap.size w w'
theorem NewM.of {w w1 w' : World} {Q : List UInt8} {e : Ending} (h : NewM w1 Q e w') (hb : Below w.heap.size w w1) : NewM w Q e w' := by
  obtain ⟨v, h1, h2, h3⟩ := h
  exact ⟨v, h1, h2, hb.trans (h3.mono hb.size)⟩
theorem clone_m {l : List UInt8} {v : Value} {W : World} (h : IsBytes l v W) (hl : l.length ≤ 1000000) : Calls Tryz.prog 274 #[v] W (NewM W l) := by
  obtain ⟨A, c, rfl, hc, hr⟩ := h
  refine (bcloneB_any A l.length c l W hr rfl (by omega)).mono ?_
  rintro e w' ⟨v, rfl, hown, hb⟩
  exact ⟨v, rfl, IsBytes.of_own hown, hb⟩
set_option maxRecDepth 100000 in
theorem theyCode_any {l : List UInt8} {v : Value} {W : World} (V : Int) (h : IsBytes l v W) (hl : l.length ≤ 1000000) : Calls Tryz.prog 271 #[.agg #[], v, .int .i64 V] W (NewM W l) := by
  have C := Lib.hid (fun W' (hb : Below W.heap.size W W') => clone_m (h.grow hb) hl)
  have hb1 := (Below.refl W.heap.size W).alloc (Nat.le_refl _) (.cells #[] 74)
  have C1 := Lib.hid (C.out _ hb1)
  have HB := Lib.hid hb1
  clear h hl C hb1
  go_enter Tryz.func271, Tryz.ntmps271
  go_wp2_with fail
  refine C1.out.mono ?_
  rintro e w1 ⟨v', rfl, hv, hb⟩
  have HV := Lib.hid (And.intro hv (HB.out.trans (hb.mono HB.out.size)))
  clear hv hb
  go_wp2
  go_ret
  exact ⟨v', rfl, HV.out⟩
set_option maxRecDepth 100000 in
theorem wordsCode_any {Q : List UInt8} {v : Value} {W : World} {V : Int} (C : ∀ W', Below W.heap.size W W' → Calls Tryz.prog 278 #[v, .int .i64 V] W' (NewM W' Q)) : Calls Tryz.prog 275 #[.agg #[], v, .int .i64 V] W (NewM W Q) := by
  have hb1 := (Below.refl W.heap.size W).alloc (Nat.le_refl _) (.cells #[] 75)
  have C1 := Lib.hid (C _ hb1)
  have HB := Lib.hid hb1
  clear C hb1
  go_enter Tryz.func275, Tryz.ntmps275
  go_wp2_with fail
  refine C1.out.mono ?_
  rintro e w1 ⟨v', rfl, hv, hb⟩
  have HV := Lib.hid (And.intro hv (HB.out.trans (hb.mono HB.out.size)))
  clear hv hb
  go_wp2
  go_ret
  exact ⟨v', rfl, HV.out⟩
set_option maxRecDepth 100000 in
theorem lettersCode_any {Q : List UInt8} {v u : Value} {W : World} {V : Int} {K : Nat} (hE : Enters Tryz.prog K) (C : ∀ W', Below W.heap.size W W' → Calls Tryz.prog K #[v] W' (NewM W' Q)) : Calls Tryz.prog 302 #[.agg #[.func (.func K) #[] #[], u], v, .int .i64 V] W (NewM W Q) := by
  have hb1 := (Below.refl W.heap.size W).alloc (Nat.le_refl _) (.cells #[.func (.func K) #[] #[], u] 78)
  have hk : Blk (W.alloc (.cells #[.func (.func K) #[] #[], u] 78)) W.heap.size 78 [.func (.func K) #[] #[], u] := heap_alloc_new W _
  have c0 := hk.cell 0
  simp only [List.getElem?_cons_zero] at c0
  have C1 := Lib.hid (C _ hb1)
  have HB := Lib.hid hb1
  have HE := Lib.hid hE
  clear C hb1 hE hk
  go_enter Tryz.func302, Tryz.ntmps302
  go_wp2_with fail
  rw [HE.out]
  refine C1.out.mono ?_
  rintro e w1 ⟨v', rfl, hv, hb⟩
  have HV := Lib.hid (And.intro hv (HB.out.trans (hb.mono HB.out.size)))
  clear hv hb
  go_wp2
  go_ret
  exact ⟨v', rfl, HV.out⟩
set_option maxRecDepth 100000 in
theorem theyDec_any {l : List UInt8} {v : Value} {W : World} (V : Int) (h : IsBytes l v W) (hl : l.length ≤ 1000000) : Calls Tryz.prog 272 #[.agg #[], v, .int .i64 V, .int .i64 (l.length : Int)] W (SaysM W l 0) := by
  have hb1 := (Below.refl W.heap.size W).alloc (Nat.le_refl _) (.cells #[] 74)
  have C1 := Lib.hid (clone_m (h.grow hb1) hl)
  have HB := Lib.hid hb1
  obtain ⟨A, c, rfl, hc, hr⟩ := h
  obtain ⟨N, hN⟩ : ∃ N : Nat, N = l.length := ⟨_, rfl⟩
  rw [← hN] at C1 ⊢
  have hne : ((N : Int) != (N : Int)) = false := by simp
  clear hb1 hr hc hN hl
  go_enter Tryz.func272, Tryz.ntmps272
  go_wp2_with fail
  refine C1.out.mono ?_
  rintro e w1 ⟨v', rfl, hv, hb⟩
  have HV := Lib.hid (And.intro hv (HB.out.trans (hb.mono HB.out.size)))
  clear hv hb
  go_wp2
  go_ret2
  exact ⟨v', rfl, HV.out⟩
set_option maxRecDepth 100000 in
theorem wordsDec_any {l : List UInt8} {v : Value} {W : World} {V n E : Int} (C : ∀ W', Below W.heap.size W W' → Calls Tryz.prog 279 #[v, .int .i64 V, .int .i64 n] W' (SaysM W' l E)) : Calls Tryz.prog 276 #[.agg #[], v, .int .i64 V, .int .i64 n] W (SaysM W l E) := by
  have hb1 := (Below.refl W.heap.size W).alloc (Nat.le_refl _) (.cells #[] 75)
  have C1 := Lib.hid (C _ hb1)
  have HB := Lib.hid hb1
  clear C hb1
  go_enter Tryz.func276, Tryz.ntmps276
  go_wp2_with fail
  refine C1.out.mono ?_
  rintro e w1 ⟨v', rfl, hv, hb⟩
  have HV := Lib.hid (And.intro hv (HB.out.trans (hb.mono HB.out.size)))
  clear hv hb
  go_wp2
  go_ret2
  exact ⟨v', rfl, HV.out⟩
set_option maxRecDepth 100000 in
theorem lettersDec_any {l : List UInt8} {v u : Value} {W : World} {V n E : Int} {K : Nat} (hE : Enters Tryz.prog K) (C : ∀ W', Below W.heap.size W W' → Calls Tryz.prog K #[v, .int .i64 n] W' (SaysM W' l E)) : Calls Tryz.prog 303 #[.agg #[u, .func (.func K) #[] #[]], v, .int .i64 V, .int .i64 n] W (SaysM W l E) := by
  have hb1 := (Below.refl W.heap.size W).alloc (Nat.le_refl _) (.cells #[u, .func (.func K) #[] #[]] 78)
  have hk : Blk (W.alloc (.cells #[u, .func (.func K) #[] #[]] 78)) W.heap.size 78 [u, .func (.func K) #[] #[]] := heap_alloc_new W _
  have c0 := hk.cell 1
  simp only [List.getElem?_cons_zero, List.getElem?_cons_succ] at c0
  have C1 := Lib.hid (C _ hb1)
  have HB := Lib.hid hb1
  have HE := Lib.hid hE
  clear C hb1 hE hk
  go_enter Tryz.func303, Tryz.ntmps303
  go_wp2_with fail
  rw [HE.out]
  refine C1.out.mono ?_
  rintro e w1 ⟨v', rfl, hv, hb⟩
  have HV := Lib.hid (And.intro hv (HB.out.trans (hb.mono HB.out.size)))
  clear hv hb
  go_wp2
  go_ret2
  exact ⟨v', rfl, HV.out⟩
theorem enters_code {k : Nat} (hk : k ≤ 5) : Enters Tryz.prog (codeK k) := by
  rcases (show k = 0 ∨ k = 1 ∨ k = 2 ∨ k = 3 ∨ k = 4 ∨ k = 5 by omega) with rfl | rfl | rfl | rfl | rfl | rfl
  · exact enters_of Tryz.func271 (by kernel_rfl) rfl
  · exact enters_of Tryz.func275 (by kernel_rfl) rfl
  all_goals exact enters_of Tryz.func302 (by kernel_rfl) rfl
theorem enters_dec {k : Nat} (hk : k ≤ 5) : Enters Tryz.prog (decK k) := by
  rcases (show k = 0 ∨ k = 1 ∨ k = 2 ∨ k = 3 ∨ k = 4 ∨ k = 5 by omega) with rfl | rfl | rfl | rfl | rfl | rfl
  · exact enters_of Tryz.func272 (by kernel_rfl) rfl
  · exact enters_of Tryz.func276 (by kernel_rfl) rfl
  all_goals exact enters_of Tryz.func303 (by kernel_rfl) rfl
set_option maxRecDepth 100000 in
set_option maxHeartbeats 1000000 in
/-- Code, by what the way's own code does. -/
theorem mdsCode_any {k : Nat} (hk : k ≤ 5) {V : Nat} (hV : IsW V) {Q : List UInt8} {v : Value} {w : World} (C : ∀ W', Below w.heap.size w W' → Calls Tryz.prog (codeK k) #[wayX k, v, .int .i64 (V : Int)] W' (NewM W' Q)) : Calls Tryz.prog 8 #[.int .i64 (k : Int), v, .int .i64 (V : Int)] w (SaysM w Q 0) := by
  have CW := Lib.hid (wayOf_any hk)
  have CR := Lib.hid (wordRight_any (V : Int) true hV.right)
  have HE := Lib.hid (enters_code hk)
  have hm := fun W => meth_code hk W
  simp only [Tryz.types_size, Nat.reduceAdd] at hm
  obtain ⟨T, hT⟩ : ∃ T, T = wayT k := ⟨_, rfl⟩
  obtain ⟨X, hX⟩ : ∃ X, X = wayX k := ⟨_, rfl⟩
  obtain ⟨K, hK⟩ : ∃ K, K = codeK k := ⟨_, rfl⟩
  have CC := Lib.hid C
  rw [← hT, ← hX, ← hK] at hm
  unfold wayV at CW
  rw [← hT, ← hX] at CW
  rw [← hX, ← hK] at CC
  rw [← hK] at HE
  clear C hT hX hK hk hV
  go_enter Tryz.func8, Tryz.ntmps8
  go_wp2_with fail
  refine (CW.out _).mono ?_
  rintro e w1 ⟨rfl, hb1⟩
  have C1 := Lib.hid (CC.out _ hb1)
  have HB := Lib.hid hb1
  clear hb1
  go_wp2_with fail
  refine (CR.out _).mono ?_
  rintro e w2 ⟨rfl, hw⟩
  subst hw
  have hm1 := hm w1
  go_wp2_with fail
  rw [HE.out]
  refine C1.out.mono ?_
  rintro e w2 ⟨v', rfl, hv, hb⟩
  have HV := Lib.hid (And.intro hv (HB.out.trans (hb.mono HB.out.size)))
  clear hv hb
  go_wp2
  go_ret2
  exact ⟨v', rfl, HV.out⟩
theorem none_bytes (w : World) : IsBytes [] (.slice none 0 0) w := ⟨none, 0, rfl, Nat.le_refl _, Rd.nil_ _ _ _⟩
set_option maxRecDepth 100000 in
set_option maxHeartbeats 1000000 in
/-- No such mode. -/
theorem mdsCode_mode {k : Int} (hk : k < 0 ∨ 5 < k) (V : Int) (v : Value) (w : World) : Calls Tryz.prog 8 #[.int .i64 k, v, .int .i64 V] w (SaysM w [] 2) := by
  have CW := Lib.hid (wayOf_not hk)
  clear hk
  go_enter Tryz.func8, Tryz.ntmps8
  go_wp2_with fail
  refine (CW.out _).mono ?_
  rintro e w1 ⟨rfl, hb1⟩
  have HB := Lib.hid hb1
  clear hb1
  go_wp2
  go_ret2
  exact ⟨_, rfl, none_bytes _, HB.out⟩
set_option maxRecDepth 100000 in
set_option maxHeartbeats 1000000 in
/-- No such width. -/
theorem mdsCode_width {k : Nat} (hk : k ≤ 5) {V : Int} (hV : rightB V = false) (v : Value) (w : World) : Calls Tryz.prog 8 #[.int .i64 (k : Int), v, .int .i64 V] w (SaysM w [] 2) := by
  have CW := Lib.hid (wayOf_any hk)
  have CR := Lib.hid (wordRight_any V false hV.symm)
  clear hk
  go_enter Tryz.func8, Tryz.ntmps8
  go_wp2_with fail
  refine (CW.out _).mono ?_
  rintro e w1 ⟨rfl, hb1⟩
  have HB := Lib.hid hb1
  clear hb1
  go_wp2_with fail
  refine (CR.out _).mono ?_
  rintro e w2 ⟨rfl, hw⟩
  subst hw
  go_wp2
  go_ret2
  exact ⟨_, rfl, none_bytes _, HB.out⟩
/-- How many bytes a payload has at least. -/
def leastM (k V n : Nat) : Nat :=
  match k with
  | 0 => n
  | 1 => (n / V + n % V * 8 + 7) / 8
  | 2 => 0
  | 3 => 0
  | 4 => 0
  | _ => if n = 0 then 0 else (260 + n + 7) / 8
theorem enters_lea {k : Nat} (hk : k = 0 ∨ k = 1 ∨ k = 5) : Enters Tryz.prog (leaK k) := by
  rcases hk with rfl | rfl | rfl
  · exact enters_of Tryz.func273 (by kernel_rfl) rfl
  · exact enters_of Tryz.func277 (by kernel_rfl) rfl
  · exact enters_of Tryz.func304 (by kernel_rfl) rfl
def IntM (w : World) (n : Nat) (e : Ending) (w' : World) : Prop := e = .returned (.int .i64 (n : Int)) ∧ Below w.heap.size w w'
theorem wayLea_any {k : Nat} (hk : k = 0 ∨ k = 1 ∨ k = 5) {V : Nat} (hV : IsW V) {n : Nat} (hn : n ≤ 100000000) (W : World) : Calls Tryz.prog (leaK k) #[wayX k, .int .i64 (V : Int), .int .i64 (n : Int)] W (IntM W (leastM k V n)) := by
  rcases hk with rfl | rfl | rfl
  · exact theyLeast_any _ _ _
  · exact wordsLeast_any hV n hn _
  · exact codesLeast_any _ n hn _ _
set_option maxRecDepth 100000 in
set_option maxHeartbeats 1000000 in
theorem least_any {k : Nat} (hk : k ≤ 5) {V : Nat} (hV : IsW V) {n : Nat} (hn : n ≤ 100000000) (w : World) : Calls Tryz.prog 26 #[wayV k, .int .i64 (V : Int), .int .i64 (n : Int)] w (IntM w (leastM k V n)) := by
  by_cases h : k = 0 ∨ k = 1 ∨ k = 5
  · have ha := asserts_yes h
    have hm := meth_least h
    simp only [Tryz.types_size, Nat.reduceAdd] at hm
    have HE := Lib.hid (enters_lea h)
    have CL := Lib.hid (wayLea_any h hV hn)
    obtain ⟨T, hT⟩ : ∃ T, T = wayT k := ⟨_, rfl⟩
    obtain ⟨X, hX⟩ : ∃ X, X = wayX k := ⟨_, rfl⟩
    obtain ⟨K, hK⟩ : ∃ K, K = leaK k := ⟨_, rfl⟩
    obtain ⟨M, hM⟩ : ∃ M, M = leastM k V n := ⟨_, rfl⟩
    unfold wayV at *
    rw [← hT, ← hX] at ha ⊢
    rw [← hT, ← hX, ← hK] at hm
    rw [← hK] at HE
    rw [← hK, ← hX, ← hM] at CL
    rw [← hM]
    clear hT hX hK hM h hk hV hn
    go_enter Tryz.func26, Tryz.ntmps26
    go_wp2_with fail
    rw [HE.out]
    refine (CL.out _).mono ?_
    rintro e w2 ⟨rfl, hb⟩
    go_wp2
    go_ret
    exact ⟨rfl, hb⟩
  · have ha := asserts_not (show k = 2 ∨ k = 3 ∨ k = 4 by omega)
    have hz : leastM k V n = 0 := by
      rcases (show k = 2 ∨ k = 3 ∨ k = 4 by omega) with rfl | rfl | rfl <;> rfl
    rw [hz]
    obtain ⟨T, hT⟩ : ∃ T, T = wayT k := ⟨_, rfl⟩
    obtain ⟨X, hX⟩ : ∃ X, X = wayX k := ⟨_, rfl⟩
    unfold wayV at *
    rw [← hT, ← hX] at ha ⊢
    clear hT hX h hk hV hn hz
    go_enter Tryz.func26, Tryz.ntmps26
    go_wp2
    go_ret
    exact ⟨rfl, Below.refl _ _⟩
set_option maxRecDepth 100000 in
set_option maxHeartbeats 1000000 in
/-- Decode of a payload that is long enough, by what the way's own decode does. -/
theorem mdsDecode_any {k : Nat} (hk : k ≤ 5) {V : Nat} (hV : IsW V) {n M c : Nat} (hn : n ≤ 67108864) (hM : leastM k V n ≤ M) {A : Option Addr} {l : List UInt8} {E : Int} {w : World} (C : ∀ W', Below w.heap.size w W' → Calls Tryz.prog (decK k) #[wayX k, .slice A M c, .int .i64 (V : Int), .int .i64 (n : Int)] W' (SaysM W' l E)) : Calls Tryz.prog 16 #[.int .i64 (k : Int), .slice A M c, .int .i64 (V : Int), .int .i64 (n : Int)] w (SaysM w l E) := by
  have CW := Lib.hid (wayOf_any hk)
  have CR := Lib.hid (wordRight_any (V : Int) true hV.right)
  have CL := Lib.hid (least_any hk hV (n := n) (by omega))
  have HE := Lib.hid (enters_dec hk)
  have hm := fun W => meth_dec hk W
  simp only [Tryz.types_size, Nat.reduceAdd] at hm
  obtain ⟨L, hL⟩ : ∃ L, L = leastM k V n := ⟨_, rfl⟩
  have h1 : ¬ ((M : Int) < (L : Int)) := by omega
  have h2 : ¬ ((n : Int) < 0) := by omega
  have h3 : ¬ ((67108864 : Int) < (n : Int)) := by omega
  obtain ⟨T, hT⟩ : ∃ T, T = wayT k := ⟨_, rfl⟩
  obtain ⟨X, hX⟩ : ∃ X, X = wayX k := ⟨_, rfl⟩
  obtain ⟨K, hK⟩ : ∃ K, K = decK k := ⟨_, rfl⟩
  have CC := Lib.hid C
  rw [← hT, ← hX, ← hK] at hm
  unfold wayV at CW CL
  rw [← hT, ← hX] at CW
  rw [← hT, ← hX, ← hL] at CL
  rw [← hX, ← hK] at CC
  rw [← hK] at HE
  obtain ⟨m, hmN⟩ : ∃ m : Int, m = (n : Int) := ⟨_, rfl⟩
  rw [← hmN] at CL CC h2 h3 ⊢
  clear C hT hX hK hk hV hL hM hn hmN
  go_enter Tryz.func16, Tryz.ntmps16
  go_wp2_with fail
  refine (CW.out _).mono ?_
  rintro e w1 ⟨rfl, hb1⟩
  have HB := Lib.hid hb1
  clear hb1
  go_wp2_with fail
  refine (CR.out _).mono ?_
  rintro e w2 ⟨rfl, hw⟩
  subst hw
  go_wp2_with fail
  refine (CL.out _).mono ?_
  rintro e w2 ⟨rfl, hb2⟩
  have C1 := Lib.hid (CC.out _ (HB.out.trans (hb2.mono HB.out.size)))
  have HB2 := Lib.hid (HB.out.trans (hb2.mono HB.out.size))
  clear hb2
  have hm1 := hm w2
  go_wp2_with fail
  rw [HE.out]
  refine C1.out.mono ?_
  rintro e w3 ⟨v', rfl, hv, hb⟩
  have HV := Lib.hid (And.intro hv (HB2.out.trans (hb.mono HB2.out.size)))
  clear hv hb
  go_wp2
  go_ret2
  exact ⟨v', rfl, HV.out⟩
end Go.Proofs.YtflcmmeoppdhdaaGreat
