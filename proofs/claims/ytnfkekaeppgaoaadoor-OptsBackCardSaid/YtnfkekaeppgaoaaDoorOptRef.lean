/- Layer 28: the reference: May, First, Digits, Number, Cut, Text, Read. -/
import Derived.Test.YtnfkekaeppgaoaaDoorStrB
import Derived.Test.YtnfkekaeppgaoaaDoorNamesR
import Derived.Test.YtnfkekaeppgaoaaDoorWordFn
import Derived.Test.YtnfkekaeppgaoaaDoorInts
namespace Go.Proofs.YtnfkekaeppgaoaaDoor
open Go.RowKit Go.Sort

/-- Options, as a value. -/
def optV (b w r m : Int) : Value := .agg #[.int .i64 b, .int .i64 w, .int .i64 r, .int .i64 m]
def mayO (b w r m : Int) : Bool := decide (1 ≤ b) && decide (b ≤ 16777216) && rightB w && decide (0 ≤ r) && decide (r ≤ 10) && decide (0 ≤ m) && decide (m ≤ 6)
theorem ret_b {a b : Bool} (h : a = b) : Ending.returned (.bool a) = .returned (.bool b) := by rw [h]
set_option maxRecDepth 100000 in
set_option maxHeartbeats 2000000 in
theorem refMay_any (b w r m : Int) (W : World) : Calls Tryd.prog 5 #[optV b w r m] W fun e w' => e = .returned (.bool (mayO b w r m)) ∧ Below W.heap.size W w' := by
  unfold optV mayO
  cases hR : rightB w with
  | false =>
    have CR := Lib.hid (refRight_any w false hR.symm)
    clear hR
    go_enter Tryd.func5, Tryd.ntmps5
    go_wp2_with (go_at_call 14; go_must (refine (CR.out _).mono ?_; rintro e w' ⟨rfl, hw⟩; subst hw))
    all_goals
      go_ret
      exact ⟨ret_b (by simp), (Below.refl _ _).alloc (Nat.le_refl _) _⟩
  | true =>
    have CR := Lib.hid (refRight_any w true hR.symm)
    clear hR
    go_enter Tryd.func5, Tryd.ntmps5
    go_wp2_with (go_at_call 14; go_must (refine (CR.out _).mono ?_; rintro e w' ⟨rfl, hw⟩; subst hw))
    all_goals
      go_ret
      refine ⟨ret_b ?_, (Below.refl _ _).alloc (Nat.le_refl _) _⟩
      first
        | (simp; done)
        | (simp; omega)
        | (simp; intros; omega)
theorem size_opt : (Tryd.prog.info? 23).map (·.size) = some 4 := by kernel_rfl
set_option maxRecDepth 100000 in
theorem refFirst_any (W : World) : Calls Tryd.prog 10 #[] W fun e w' => e = .returned (optV 65536 1 0 6) ∧ Below W.heap.size W w' := by
  go_enter Tryd.func10, Tryd.ntmps10
  go_wp2
  exact bodyPost_ret (v := optV 65536 1 0 6) (results_cell_row Tryd.results10 _ _ W.heap.size 23 _ (0, 0) _ rfl (heap_alloc_new W _) Tryd.underlying23 rfl size_opt) rfl ⟨rfl, (Below.refl _ _).alloc (Nat.le_refl _) _⟩
/-- A number's decimal digits. -/
def digL (n : Nat) : List UInt8 := if h : n ≤ 9 then [UInt8.ofNat (48 + n)] else digL (n / 10) ++ [UInt8.ofNat (48 + n % 10)]
termination_by n
decreasing_by omega
theorem digL_one {n : Nat} (h : n ≤ 9) : digL n = [UInt8.ofNat (48 + n)] := by rw [digL, dif_pos h]
theorem digL_more {n : Nat} (h : ¬ n ≤ 9) : digL n = digL (n / 10) ++ [UInt8.ofNat (48 + n % 10)] := by rw [digL, dif_neg h]
set_option maxRecDepth 100000 in
set_option maxHeartbeats 2000000 in
theorem refDigits_any {n : Nat} (hn : n ≤ 1000000000000) (W : World) : Calls Tryd.prog 20 #[.int .i64 (n : Int)] W fun e w' => e = .returned (.string (strA (digL n))) ∧ Below W.heap.size W w' := by
  go_enter Tryd.func20, Tryd.ntmps20
  go_wp2
  go_loopw [0, 3] (fun nv sv wr => ∃ (k : Nat) (t : List UInt8), t.length + k ≤ n ∧ nv = .int .i64 (k : Int) ∧ sv = .string (strA t) ∧ digL n = digL k ++ t ∧ Below W.heap.size W wr) (fun nv _ _ => (intOf nv).toNat)
  case atStart => exact ⟨n, [], by simp, rfl, rfl, by simp, Below.refl _ _⟩
  case round =>
    obtain ⟨k, t, hk, rfl, rfl, hd, hb⟩ := hrel
    have HD := Lib.hid hd
    have HB := Lib.hid hb
    clear hd hb
    by_cases h9 : 9 < k
    · have h9i : (9 : Int) < (k : Int) := by omega
      have hc : ((UInt8.ofNat (48 + k % 10)).toNat : Int) = 48 + (k : Int) % 10 := by rw [UInt8.toNat_ofNat']; omega
      have hs := strOne_run hc wr
      have HN := Lib.hid (digL_more (n := k) (by omega))
      obtain ⟨c, hc2⟩ : ∃ c, c = UInt8.ofNat (48 + k % 10) := ⟨_, rfl⟩
      rw [← hc2] at hs HN
      have hroom := strA_room (a := [c]) (b := t) (by simp only [List.length_singleton]; omega)
      clear hc hc2 h9
      go_wp2
      go_roundw
      case rel =>
        refine ⟨k / 10, c :: t, by simp only [List.length_cons]; omega, ?_, ?_, ?_, HB.out.alloc HB.out.size _⟩
        · congr 1
        · rw [strA_app]; rfl
        · rw [HD.out, HN.out]; simp
      case measure => simp [intOf]; omega
    · have h9i : ¬ (9 : Int) < (k : Int) := by omega
      have hc : ((UInt8.ofNat (48 + k)).toNat : Int) = 48 + (k : Int) := by rw [UInt8.toNat_ofNat']; omega
      have hs := strOne_run hc wr
      have HN := Lib.hid (digL_one (n := k) (by omega))
      obtain ⟨c, hc2⟩ : ∃ c, c = UInt8.ofNat (48 + k) := ⟨_, rfl⟩
      rw [← hc2] at hs HN
      have hroom := strA_room (a := [c]) (b := t) (by simp only [List.length_singleton]; omega)
      clear hc hc2 h9
      go_wp2
      go_ret
      refine ⟨?_, HB.out.alloc HB.out.size _⟩
      rw [HD.out, HN.out, ← strA_app]
      rfl
/-- Digits, taken on from a number; none, if one of them is none. -/
def numF (n : Nat) : List UInt8 → Option Nat
  | [] => some n
  | c :: t => if c.toNat < 48 ∨ 57 < c.toNat then none else numF (10 * n + c.toNat - 48) t
/-- The number that up to nine digits are. -/
def numO (l : List UInt8) : Option Nat := if l = [] ∨ 9 < l.length ∨ (1 < l.length ∧ l.head? = some 48) then none else numF 0 l
def numR : Option Nat → Int
  | some n => (n : Int)
  | none => -1
/-- What holds at the head of a round of Number. -/
def NumRel (L : List UInt8) (n : Nat) (nv iv : Value) (wr W : World) : Prop :=
  ∃ k v : Nat, k ≤ n ∧ iv = .int .i64 (k : Int) ∧ nv = .int .i64 (v : Int) ∧ numF 0 L = numF v (L.drop k) ∧ v < 10 ^ k ∧ wr = W
theorem numO_none {l : List UInt8} (h : l = [] ∨ 9 < l.length ∨ (1 < l.length ∧ l.head? = some 48)) : numR (numO l) = -1 := by unfold numO; rw [if_pos h]; rfl
/-- The mode of a name; -1: none. -/
def modeR (p : Nat) : Int := if p < 7 then (p : Int) else -1
theorem modeR_in {p : Nat} (h : p < 7) : modeR p = (p : Int) := if_pos h
theorem modeR_out : modeR 7 = -1 := rfl
/-- Strings as cells. -/
def svsS (l : List (List UInt8)) : List Value := l.map fun x => .string (strA x)
theorem svsS_length (l : List (List UInt8)) : (svsS l).length = l.length := List.length_map ..
theorem svsS_app (a b : List (List UInt8)) : svsS (a ++ b) = svsS a ++ svsS b := List.map_append ..
/-- A text at each c, behind what stands since the last one. -/
def cutG (c : UInt8) (cur : List UInt8) : List UInt8 → List (List UInt8)
  | [] => [cur]
  | x :: t => if x = c then cur :: cutG c [] t else cutG c (cur ++ [x]) t
def cutL (c : UInt8) (l : List UInt8) : List (List UInt8) := cutG c [] l
/-- From f up to k. -/
def midL (l : List UInt8) (f k : Nat) : List UInt8 := (l.drop f).take (k - f)
theorem midL_same (l : List UInt8) (f : Nat) : midL l f f = [] := by simp [midL]
theorem midL_next {l : List UInt8} {f k : Nat} (h : f ≤ k) (hk : k < l.length) : midL l f (k + 1) = midL l f k ++ [l[k]] := by
  unfold midL
  have h1 : k - f < (l.drop f).length := by rw [List.length_drop]; omega
  rw [show k + 1 - f = (k - f) + 1 by omega, List.take_add_one, List.getElem?_eq_getElem h1, List.getElem_drop]
  simp [show f + (k - f) = k by omega]
/-- What holds at the head of a round of Cut. -/
def CutRel (l : List UInt8) (c : UInt8) (n : Nat) (W : World) (lv fv iv : Value) (wr : World) : Prop :=
  ∃ (k f : Nat) (D : List (List UInt8)), k ≤ n ∧ f ≤ k ∧ D.length ≤ k ∧ iv = .int .i64 (k : Int) ∧ fv = .int .i64 (f : Int) ∧ wr.ownsRow W.heap.size 9 1 lv D.length (svsS D) ∧ cutL c l = D ++ cutG c (midL l f k) (l.drop k) ∧ Below W.heap.size W wr
theorem info_strS : (Tryd.prog.info? 9).map (fun i => (i.zero, i.size, i.bytes)) = some (some (.string ⟨#[]⟩), 1, 16) := by kernel_rfl
set_option maxRecDepth 100000 in
set_option maxHeartbeats 2000000 in
theorem refCut_any (l : List UInt8) (c : UInt8) (hl : l.length ≤ 1000) (W : World) : Calls Tryd.prog 12 #[.string (strA l), .int .u8 (c.toNat : Int)] W fun e w' => ∃ v, e = .returned v ∧ w'.ownsRow W.heap.size 9 1 v (cutL c l).length (svsS (cutL c l)) ∧ Below W.heap.size W w' := by
  have hsz : (strA l).size = l.length := strA_size l
  obtain ⟨i0, hi0, hz0, hz1, hz2⟩ := info_parts info_strS
  go_enter Tryd.func12, Tryd.ntmps12
  go_wp2
  obtain ⟨n, hn⟩ : ∃ n, n = l.length := ⟨_, rfl⟩
  rw [← hn] at hsz hl
  go_loopw [5, 6, 7] (fun lv fv iv wr => CutRel l c n W lv fv iv wr) (fun _ _ iv _ => n - (intOf iv).toNat)
  case atStart => exact ⟨0, 0, [], Nat.zero_le _, Nat.le_refl _, Nat.le_refl _, rfl, rfl, World.ownsRow_nil _ _ _ _, rfl, Below.refl _ _⟩
  case round =>
    obtain ⟨k, f, D, hk, hfk, hD, rfl, rfl, hown, hc, hb⟩ := hrel
    have HO := Lib.hid hown
    have HC := Lib.hid hc
    have HB := Lib.hid hb
    have HN := Lib.hid hn
    clear hown hc hb
    by_cases hlt : k < n
    · have hkl : k < l.length := by omega
      have hks : k < (strA l).size := by rw [hsz]; exact hlt
      have hgk : (((strA l)[k]'hks).toNat : Int) = ((l[k]'hkl).toNat : Int) := by rw [strA_get]
      have hki : (k : Int) < (n : Int) := by omega
      have hcut : cutG c (midL l f k) (l.drop k) = if l[k]'hkl = c then midL l f k :: cutG c [] (l.drop (k + 1)) else cutG c (midL l f k ++ [l[k]'hkl]) (l.drop (k + 1)) := by
        rw [List.drop_eq_getElem_cons hkl, cutG]
      by_cases hx : l[k]'hkl = c
      · have hxi : (((l[k]'hkl).toNat : Int) == (c.toNat : Int)) = true := by rw [hx]; simp
        rw [if_pos hx] at hcut
        have HCU := Lib.hid hcut
        have hfi : (f : Int) ≤ (k : Int) := by omega
        clear hn hcut hx
        go_wp2_with ((with_reducible show wpList _ _ _ (({ dst := some 25, op := _, type := _, pos := _, after := _, guard := _ } : Oper) :: _) _ _); go_must (refine wpList_app rfl (.tmp 19) (.tmp 24) 30 rfl W.heap.size 9 i0 (.string ⟨#[]⟩) 1 16 Tryd.underlying30 hi0 hz0 hz1 hz2 rfl (by decide) _ _ _ rfl (HO.out.alloc _) _ _ 1 1 _ rfl (Rd.new _ _ _) rfl (by intro u hu; simp at hu; subst hu; rfl) (by simp only [maxLen]; omega) (by omega) (by have := HB.out.size; simp; omega) ?_; intro v6 w6 hown6 hg6; have hb6 : Below W.heap.size W w6 := (HB.out.alloc HB.out.size _).grown hg6 (by have := HB.out.size; simp; omega) (own_block HO.out); clear hg6))
        go_roundw
        case rel =>
          rw [strA_extract] at hown6
          refine ⟨k + 1, k + 1, D ++ [midL l f k], by omega, Nat.le_refl _, by simp; omega, by go_num, by go_num, ?_, ?_, hb6⟩
          · rw [svsS_app, List.length_append, List.length_singleton]; exact hown6
          · rw [HC.out, HCU.out, midL_same, List.append_assoc]; rfl
        case measure => simp [intOf]; omega
      · have hxi : (((l[k]'hkl).toNat : Int) == (c.toNat : Int)) = false := by
          rw [beq_eq_false_iff_ne]
          intro h
          exact hx (UInt8.toNat.inj (by omega))
        rw [if_neg hx] at hcut
        have HCU := Lib.hid hcut
        clear hcut hx
        go_wp2
        go_roundw
        case rel => exact ⟨k + 1, f, D, by omega, by omega, by omega, by go_num, rfl, HO.out, by rw [HC.out, HCU.out, ← midL_next hfk hkl], HB.out⟩
        case measure => simp [intOf]; omega
    · obtain rfl : k = n := by omega
      have hfi : (f : Int) ≤ (k : Int) := by omega
      clear hn
      go_wp2_with ((with_reducible show wpList _ _ _ (({ dst := some 33, op := _, type := _, pos := _, after := _, guard := _ } : Oper) :: _) _ _); go_must (refine wpList_app rfl (.tmp 28) (.tmp 32) 30 rfl W.heap.size 9 i0 (.string ⟨#[]⟩) 1 16 Tryd.underlying30 hi0 hz0 hz1 hz2 rfl (by decide) _ _ _ rfl (HO.out.alloc _) _ _ 1 1 _ rfl (Rd.new _ _ _) rfl (by intro u hu; simp at hu; subst hu; rfl) (by simp only [maxLen]; omega) (by omega) (by have := HB.out.size; simp; omega) ?_; intro v6 w6 hown6 hg6; have hb6 : Below W.heap.size W w6 := (HB.out.alloc HB.out.size _).grown hg6 (by have := HB.out.size; simp; omega) (own_block HO.out); clear hg6))
      go_ret
      rw [strA_extract] at hown6
      refine ⟨_, rfl, ?_, hb6⟩
      have e1 : cutL c l = D ++ [midL l f k] := by rw [HC.out, HN.out, List.drop_length]; rfl
      rw [e1, svsS_app, List.length_append, List.length_singleton]
      exact hown6
theorem digL_len : ∀ n : Nat, (digL n).length ≤ n + 1
  | n => by
    by_cases h : n ≤ 9
    · rw [digL_one h]; simp
    · have := digL_len (n / 10)
      rw [digL_more h, List.length_append, List.length_singleton]
      omega
/-- A mode's name, as bytes. -/
def nmL (m : Nat) : List UInt8 := (nmA m).data.toList
theorem nmL_A (m : Nat) : strA (nmL m) = nmA m := by simp [strA, nmL]
theorem nmL_len {m : Nat} (h : m ≤ 6) : (nmL m).length ≤ 6 := by
  rcases (show m = 0 ∨ m = 1 ∨ m = 2 ∨ m = 3 ∨ m = 4 ∨ m = 5 ∨ m = 6 by omega) with rfl | rfl | rfl | rfl | rfl | rfl | rfl <;> decide
def kB : List UInt8 := [98, 108, 111, 99, 107, 61]
def kW : List UInt8 := [32, 119, 105, 100, 116, 104, 61]
def kR : List UInt8 := [32, 114, 101, 99, 105, 112, 101, 61]
def kM : List UInt8 := [32, 109, 111, 100, 101, 61]
/-- The text of options that may be. -/
def textL (b u r m : Nat) : List UInt8 := kB ++ digL b ++ kW ++ digL u ++ kR ++ digL r ++ kM ++ nmL m
theorem mayO_nat {b u r m : Int} (h : mayO b u r m = true) : ∃ b' u' r' m' : Nat, b = (b' : Int) ∧ u = (u' : Int) ∧ r = (r' : Int) ∧ m = (m' : Int) ∧ 1 ≤ b' ∧ b' ≤ 16777216 ∧ IsW u' ∧ r' ≤ 10 ∧ m' ≤ 6 := by
  unfold mayO at h
  simp only [Bool.and_eq_true, decide_eq_true_eq] at h
  obtain ⟨⟨⟨⟨⟨⟨h1, h2⟩, h3⟩, h4⟩, h5⟩, h6⟩, h7⟩ := h
  obtain ⟨V, rfl, hV⟩ := isW_of h3
  exact ⟨b.toNat, V, r.toNat, m.toNat, by omega, rfl, by omega, by omega, by omega, by omega, hV, by omega, by omega⟩
theorem strA_lit (l : List UInt8) : strA l = ⟨l.toArray⟩ := rfl
set_option maxRecDepth 100000 in
set_option maxHeartbeats 4000000 in
theorem refText_yes {b u r m : Nat} (hb : b ≤ 16777216) (hu : u ≤ 8) (hr : r ≤ 10) (hm : m ≤ 6) (hmay : mayO (b : Int) (u : Int) (r : Int) (m : Int) = true) (W : World) : Calls Tryd.prog 8 #[optV (b : Int) (u : Int) (r : Int) (m : Int)] W fun e w' => e = .returned (.string (strA (textL b u r m))) ∧ Below W.heap.size W w' := by
  have CM := Lib.hid (refMay_any (b : Int) (u : Int) (r : Int) (m : Int))
  rw [hmay] at CM
  have CN := Lib.hid refNames_any
  unfold namesV at CN
  have C1 := Lib.hid (refDigits_any (n := b) (by omega))
  have C2 := Lib.hid (refDigits_any (n := u) (by omega))
  have C3 := Lib.hid (refDigits_any (n := r) (by omega))
  have hname := names_at (k := m) (by omega)
  have l1 := digL_len b
  have l2 := digL_len u
  have l3 := digL_len r
  have l4 := nmL_len hm
  obtain ⟨dB, hdB⟩ : ∃ x, x = digL b := ⟨_, rfl⟩
  obtain ⟨dU, hdU⟩ : ∃ x, x = digL u := ⟨_, rfl⟩
  obtain ⟨dR, hdR⟩ : ∃ x, x = digL r := ⟨_, rfl⟩
  obtain ⟨nM, hnM⟩ : ∃ x, x = nmL m := ⟨_, rfl⟩
  have hnA : nmA m = strA nM := by rw [hnM, nmL_A]
  have ht : textL b u r m = kB ++ dB ++ kW ++ dU ++ kR ++ dR ++ kM ++ nM := by rw [hdB, hdU, hdR, hnM]; rfl
  rw [ht]
  rw [← hdB] at C1 l1
  rw [← hdU] at C2 l2
  rw [← hdR] at C3 l3
  rw [hnA] at hname
  rw [← hnM] at l4
  have r1 := strA_room (a := kB) (b := dB) (by simp only [kB, List.length_cons, List.length_nil]; omega)
  have r2 := strA_room (a := kB ++ dB) (b := kW) (by simp only [kB, kW, List.length_append, List.length_cons, List.length_nil]; omega)
  have r3 := strA_room (a := kB ++ dB ++ kW) (b := dU) (by simp only [kB, kW, List.length_append, List.length_cons, List.length_nil]; omega)
  have r4 := strA_room (a := kB ++ dB ++ kW ++ dU) (b := kR) (by simp only [kB, kW, kR, List.length_append, List.length_cons, List.length_nil]; omega)
  have r5 := strA_room (a := kB ++ dB ++ kW ++ dU ++ kR) (b := dR) (by simp only [kB, kW, kR, List.length_append, List.length_cons, List.length_nil]; omega)
  have r6 := strA_room (a := kB ++ dB ++ kW ++ dU ++ kR ++ dR) (b := kM) (by simp only [kB, kW, kR, kM, List.length_append, List.length_cons, List.length_nil]; omega)
  have r7 := strA_room (a := kB ++ dB ++ kW ++ dU ++ kR ++ dR ++ kM) (b := nM) (by simp only [kB, kW, kR, kM, List.length_append, List.length_cons, List.length_nil]; omega)
  have a1 := strA_app kB dB
  have a2 := strA_app (kB ++ dB) kW
  have a3 := strA_app (kB ++ dB ++ kW) dU
  have a4 := strA_app (kB ++ dB ++ kW ++ dU) kR
  have a5 := strA_app (kB ++ dB ++ kW ++ dU ++ kR) dR
  have a6 := strA_app (kB ++ dB ++ kW ++ dU ++ kR ++ dR) kM
  have a7 := strA_app (kB ++ dB ++ kW ++ dU ++ kR ++ dR ++ kM) nM
  obtain ⟨D1, hD1⟩ : ∃ x, x = strA dB := ⟨_, rfl⟩
  obtain ⟨D2, hD2⟩ : ∃ x, x = strA dU := ⟨_, rfl⟩
  obtain ⟨D3, hD3⟩ : ∃ x, x = strA dR := ⟨_, rfl⟩
  obtain ⟨NM, hNM⟩ : ∃ x, x = strA nM := ⟨_, rfl⟩
  obtain ⟨A1, hA1⟩ : ∃ x, x = strA (kB ++ dB) := ⟨_, rfl⟩
  obtain ⟨A2, hA2⟩ : ∃ x, x = strA (kB ++ dB ++ kW) := ⟨_, rfl⟩
  obtain ⟨A3, hA3⟩ : ∃ x, x = strA (kB ++ dB ++ kW ++ dU) := ⟨_, rfl⟩
  obtain ⟨A4, hA4⟩ : ∃ x, x = strA (kB ++ dB ++ kW ++ dU ++ kR) := ⟨_, rfl⟩
  obtain ⟨A5, hA5⟩ : ∃ x, x = strA (kB ++ dB ++ kW ++ dU ++ kR ++ dR) := ⟨_, rfl⟩
  obtain ⟨A6, hA6⟩ : ∃ x, x = strA (kB ++ dB ++ kW ++ dU ++ kR ++ dR ++ kM) := ⟨_, rfl⟩
  obtain ⟨A7, hA7⟩ : ∃ x, x = strA (kB ++ dB ++ kW ++ dU ++ kR ++ dR ++ kM ++ nM) := ⟨_, rfl⟩
  rw [← hA1, ← hD1] at a1
  rw [← hA1, ← hA2] at a2
  rw [← hA2, ← hA3, ← hD2] at a3
  rw [← hA3, ← hA4] at a4
  rw [← hA4, ← hA5, ← hD3] at a5
  rw [← hA5, ← hA6] at a6
  rw [← hA6, ← hA7, ← hNM] at a7
  rw [← hD1] at r1
  rw [← hA1] at r2
  rw [← hA2, ← hD2] at r3
  rw [← hA3] at r4
  rw [← hA4, ← hD3] at r5
  rw [← hA5] at r6
  rw [← hA6, ← hNM] at r7
  rw [← hD1] at C1
  rw [← hD2] at C2
  rw [← hD3] at C3
  rw [← hNM] at hname
  rw [← hA7]
  have HNM := Lib.hid hname
  rw [strA_lit kB] at a1 r1
  rw [strA_lit kW] at a2 r2
  rw [strA_lit kR] at a4 r4
  rw [strA_lit kM] at a6 r6
  simp only [kB, kW, kR, kM] at a1 a2 a4 a6 r1 r2 r4 r6
  have RR := Lib.hid (And.intro r1 (And.intro r2 (And.intro r3 (And.intro r4 (And.intro r5 (And.intro r6 r7))))))
  have AA := Lib.hid (And.intro a1 (And.intro a2 (And.intro a3 (And.intro a4 (And.intro a5 (And.intro a6 a7))))))
  have hm7 : (m : Int) < 7 := by omega
  clear r1 r2 r3 r4 r5 r6 r7 a1 a2 a3 a4 a5 a6 a7 hD1 hD2 hD3 hNM hA1 hA2 hA3 hA4 hA5 hA6 hA7 hname ht hnA hdB hdU hdR hnM l1 l2 l3 l4 hmay hb hu hr hm
  unfold optV at CM ⊢
  go_enter Tryd.func8, Tryd.ntmps8
  have hO : Blk (W.alloc (.cells #[.int .i64 (b : Int), .int .i64 (u : Int), .int .i64 (r : Int), .int .i64 (m : Int)] 23)) W.heap.size 23 [.int .i64 (b : Int), .int .i64 (u : Int), .int .i64 (r : Int), .int .i64 (m : Int)] := heap_alloc_new W _
  have hOb := (Below.refl W.heap.size W).alloc (Nat.le_refl _) (.cells #[.int .i64 (b : Int), .int .i64 (u : Int), .int .i64 (r : Int), .int .i64 (m : Int)] 23)
  go_wp2_with fail
  obtain ⟨w0, hw0⟩ : ∃ w0, w0 = W.alloc (.cells #[.int .i64 (b : Int), .int .i64 (u : Int), .int .i64 (r : Int), .int .i64 (m : Int)] 23) := ⟨_, rfl⟩
  rw [← hw0] at hO hOb ⊢
  obtain ⟨gO, hgO⟩ : ∃ g, g = W.heap.size := ⟨_, rfl⟩
  rw [← hgO] at hO
  refine (CM.out _).mono ?_
  rintro e w1 ⟨rfl, hb1⟩
  have HO1 := Lib.hid (hO.grow hb1)
  have HB1 := Lib.hid (hOb.trans (hb1.mono hOb.size))
  have HG := Lib.hid (And.intro hgO hw0)
  clear hO hOb hb1 hgO hw0
  go_wp2_with fail
  refine (CN.out _).mono ?_
  rintro e w2 ⟨rfl, hb⟩
  obtain ⟨hr2, hb2⟩ := names_row w2
  have HO := Lib.hid ((HO1.out.grow hb).grow hb2)
  have HB3 := Lib.hid (HB1.out.trans ((hb.trans (hb2.mono hb.size)).mono HB1.out.size))
  obtain ⟨w3, hw3⟩ : ∃ w3, w3 = w2.alloc (.cells #[.string (nmA 0), .string (nmA 1), .string (nmA 2), .string (nmA 3), .string (nmA 4), .string (nmA 5), .string (nmA 6)] 38) := ⟨_, rfl⟩
  rw [← hw3] at hr2 HO HB3
  obtain ⟨gN, hgN⟩ : ∃ g, g = w2.heap.size := ⟨_, rfl⟩
  rw [← hgN] at hr2
  have HN := Lib.hid hr2
  have HW := Lib.hid (And.intro hw3 hgN)
  clear hr2 hb2 hb hw3 hgN
  go_wp2
  rw [← HW.out.1, ← HW.out.2, ← HG.out.1]
  obtain ⟨r1, r2, r3, r4, r5, r6, r7⟩ := RR.out
  obtain ⟨a1, a2, a3, a4, a5, a6, a7⟩ := AA.out
  have r1 : ¬ 9223372036854775807 < 6 + D1.size := r1
  have r2 : ¬ 9223372036854775807 < A1.size + 7 := r2
  have r4 : ¬ 9223372036854775807 < A3.size + 8 := r4
  have r6 : ¬ 9223372036854775807 < A5.size + 6 := r6
  refine wp_region_grow [⟨8, [], .is (.pointer (some ⟨gO, 0, none⟩))⟩,
    ⟨9, [0], .is (.int .i64 (b : Int))⟩,
    ⟨10, [1], .is (.string D1)⟩,
    ⟨11, [2], .is (.string A1)⟩,
    ⟨12, [3], .is (.string A2)⟩,
    ⟨13, [], .is (.pointer (some ⟨gO, 1, none⟩))⟩,
    ⟨14, [5], .is (.int .i64 (u : Int))⟩,
    ⟨15, [6], .is (.string D2)⟩,
    ⟨16, [4, 7], .is (.string A3)⟩,
    ⟨17, [8], .is (.string A4)⟩,
    ⟨18, [], .is (.pointer (some ⟨gO, 2, none⟩))⟩,
    ⟨19, [10], .is (.int .i64 (r : Int))⟩,
    ⟨20, [11], .is (.string D3)⟩,
    ⟨21, [9, 12], .is (.string A5)⟩,
    ⟨22, [13], .is (.string A6)⟩,
    ⟨23, [], .is (.pointer (some ⟨gO, 3, none⟩))⟩,
    ⟨24, [15], .is (.int .i64 (m : Int))⟩,
    ⟨25, [16], .is (.pointer (some ⟨gN, m, none⟩))⟩,
    ⟨26, [17], .is (.string NM)⟩,
    ⟨27, [14, 18], .is (.string A7)⟩,
    ⟨2, [19], .is (.string A7)⟩]
    [(1, .pointer (some ⟨gO, 0, none⟩)), (3, .pointer (some ⟨gN, 0, none⟩))] (by kernel_rfl) (by kernel_rfl) (by kernel_rfl) (by kernel_rfl) (by kernel_rfl) ⟨rfl, rfl, trivial⟩ ?_ ?_
  · repeat' (first | exact OblGAll.nil | refine OblGAll.cons ?_ ?_)
    all_goals (intro ev yi w' hB hc hf ho hn; simp only [OutsSay, NeedSay, rowAt, Fact.says, and_true] at ho hn)
    all_goals (have q0 := (HO.out.grow hB).cell 0; have q1 := (HO.out.grow hB).cell 1; have q2 := (HO.out.grow hB).cell 2; have q3 := (HO.out.grow hB).cell 3; have qn := (HN.out.grow hB).cell m; rw [HNM.out] at qn; simp only [List.getElem?_cons_zero, List.getElem?_cons_succ] at q0 q1 q2 q3)
    all_goals (try ((simp [OpSays, execOp, Region.wanted, Fact.says, go_sem, ho, hn, hc, Below.refl, q0, q1, q2, q3, qn, r3, r5, r7, a3, a5, a7]; done)))
    · rw [if_pos (by simp [Region.wanted])]
      exact says_call Tryd.call20 (vs := #[.int .i64 (b : Int)]) rfl hf (by simp [hn]) ((C1.out w').mono fun _ _ h => ⟨_, h.1, rfl, h.2⟩)
    · rw [if_pos (by simp [Region.wanted])]
      simp [OpSays, execOp, Fact.says, go_sem, hn, hc, r1, a1, Below.refl]
    · rw [if_pos (by simp [Region.wanted])]
      simp [OpSays, execOp, Fact.says, go_sem, hn, hc, r2, a2, Below.refl]
    · rw [if_pos (by simp [Region.wanted])]
      exact says_call Tryd.call20 (vs := #[.int .i64 (u : Int)]) rfl hf (by simp [hn]) ((C2.out w').mono fun _ _ h => ⟨_, h.1, rfl, h.2⟩)
    · rw [if_pos (by simp [Region.wanted])]
      simp [OpSays, execOp, Fact.says, go_sem, hn, hc, r4, a4, Below.refl]
    · rw [if_pos (by simp [Region.wanted])]
      exact says_call Tryd.call20 (vs := #[.int .i64 (r : Int)]) rfl hf (by simp [hn]) ((C3.out w').mono fun _ _ h => ⟨_, h.1, rfl, h.2⟩)
    · rw [if_pos (by simp [Region.wanted])]
      simp [OpSays, execOp, Fact.says, go_sem, hn, hc, r6, a6, Below.refl]
    · rw [if_pos (by simp [Region.wanted])]
      simp [OpSays, execOp, Fact.says, go_sem, hn, ho, hm7, Below.refl]
  · intro X w4 hb4 hx
    have hlast : X 20 = .string A7 := hx 20 (by decide)
    clear hx
    have HL := Lib.hid hlast
    clear hlast
    simp only [layAll, List.setIfInBounds_toArray, List.set_cons_succ, List.set_cons_zero]
    go_wp2
    go_ret
    exact ⟨congrArg Ending.returned HL.out, HB3.out.trans (hb4.mono HB3.out.size)⟩
set_option maxRecDepth 100000 in
set_option maxHeartbeats 1000000 in
theorem refText_no {b u r m : Int} (hmay : mayO b u r m = false) (W : World) : Calls Tryd.prog 8 #[optV b u r m] W fun e w' => e = .returned (.string (strA [])) ∧ Below W.heap.size W w' := by
  have CM := Lib.hid (refMay_any b u r m)
  rw [hmay] at CM
  have hOb := (Below.refl W.heap.size W).alloc (Nat.le_refl _) (.cells #[.int .i64 b, .int .i64 u, .int .i64 r, .int .i64 m] 23)
  have HB := Lib.hid hOb
  clear hmay hOb
  unfold optV at CM ⊢
  go_enter Tryd.func8, Tryd.ntmps8
  go_wp2_with fail
  refine (CM.out _).mono ?_
  rintro e w1 ⟨rfl, hb1⟩
  have HB1 := Lib.hid (HB.out.trans (hb1.mono HB.out.size))
  clear hb1
  go_wp2
  go_ret
  exact ⟨rfl, HB1.out⟩
end Go.Proofs.YtnfkekaeppgaoaaDoor
