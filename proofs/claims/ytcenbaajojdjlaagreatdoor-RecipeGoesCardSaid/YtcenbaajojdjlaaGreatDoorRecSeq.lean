/- Contracts of layer 11: Go. · Contracts of layer 11: whether a row has a number; a row from its end on, by a function that is ranged over. -/
import Derived.Test.YtcenbaajojdjlaaGreatDoorRecMay
import Derived.Test.YtcenbaajojdjlaaGreatDoorRecKinds
import Derived.Test.YtcenbaajojdjlaaGreatDoorFlipSeq
namespace Go.Proofs.YtcenbaajojdjlaaGreatDoor
open Go.RowKit Go.Shelf

theorem goR_keeps {W : Nat} : ∀ {A : List Nat} {l m : List UInt8}, (∀ s ∈ A, 1 ≤ s ∧ s ≤ 5) → goR W A l m → m.length = l.length
  | [], l, m, _, h => by cases h; rfl
  | s :: t, l, m, hA, h => by
    obtain ⟨k, h1, h2⟩ := h
    rw [goR_keeps (fun x hx => hA x (by simp [hx])) h2, doR_keeps (hA s (by simp)) h1]
/-- All steps but the last one keep how many bytes there are; each has a number. -/
theorem steps_head : ∀ (n : Fin 11) (k : Fin 4), k.val < (stepsL n.val).length → (((stepsL n.val).take k.val).all fun s => decide (1 ≤ s) && decide (s ≤ 5)) = true ∧ 1 ≤ (stepsL n.val).getD k.val 0 ∧ (stepsL n.val).getD k.val 0 ≤ 7 := by decide
theorem steps_len (n : Nat) : (stepsL n).length ≤ 4 := by
  unfold stepsL
  split <;> decide
theorem steps_in {n k : Nat} (hn : n ≤ 10) (hk : k < (stepsL n).length) : (∀ s ∈ (stepsL n).take k, 1 ≤ s ∧ s ≤ 5) ∧ ∃ s, (stepsL n)[k]? = some (s + 1) ∧ s < 7 := by
  have h4 := steps_len n
  obtain ⟨h1, h2, h3⟩ := steps_head ⟨n, by omega⟩ ⟨k, by omega⟩ hk
  simp only at h1 h2 h3
  refine ⟨fun s hs => ?_, (stepsL n).getD k 0 - 1, ?_, by omega⟩
  · have := List.all_eq_true.1 h1 s hs
    simpa using this
  · rw [List.getD_eq_getElem?_getD] at h2 ⊢
    rw [List.getElem?_eq_getElem hk] at h2 ⊢
    simp only [Option.getD_some] at h2 ⊢
    rw [show (stepsL n)[k] - 1 + 1 = (stepsL n)[k] by omega]
set_option maxHeartbeats 1000000 in
set_option maxRecDepth 100000 in
theorem go_not (W n : Int) (l : List UInt8) (v : Value) (w : World) (hv : IsBytes l v w) (h : mayB W n (l.length : Int) = false) :
    Calls Tryz.prog 6 #[v, .int .i64 W, .int .i64 n] w fun e w' => e = .returned (.tuple #[.slice none 0 0, .int .i64 2]) ∧ w = w' := by
  obtain ⟨A, c, rfl, hc, hr⟩ := hv
  have c1 := fun (w' : World) => may_any W n (l.length : Int) w'
  rw [h] at c1
  have C1 := Lib.hid c1
  clear h c1 hr
  go_enter Tryz.func6, Tryz.ntmps6
  go_wp2_with fail
  refine (C1.out _).mono ?_
  rintro e w' ⟨rfl, rfl⟩
  go_wp2
  go_ret2
  exact ⟨rfl, rfl⟩
/-- What holds at the head of a round of Go. -/
def GoRel (w : World) (W : Nat) (L : List Nat) (l : List UInt8) (o i : Value) (wr : World) : Prop :=
  ∃ (k : Nat) (m : List UInt8), k ≤ L.length ∧ i = .int .i64 (k : Int) ∧ Hid (goR W (L.take k) l m) ∧ IsBytes m o wr ∧ Below w.heap.size w wr
theorem run_step {W b : Nat} {w : World} (h : KindsAt W w b) {s : Nat} (hs : s < 7) : ∃ d u, (Instr.lookup 34 (.map (some b)) (.int .i64 ((s + 1 : Nat) : Int)) false).run Tryz.prog w = .ok (.agg #[d, u]) w ∧ DoFn W w d (s + 1) ∧ UndoFn W w u (s + 1) := by
  obtain ⟨vs, h1, h2, h3⟩ := h
  have hv : vs[s]? = some (vs[s]'(by omega)) := List.getElem?_eq_getElem (by omega)
  obtain ⟨d, u, he, hd, hu⟩ := h3 s _ hv
  refine ⟨d, u, ?_, hd, hu⟩
  rw [← he]
  exact run_kget w _ 3 39 Tryz.underlying34 Tryz.underlying3 b vs h1 s _ hv
theorem field_do (d u : Value) (w : World) : (Instr.field 39 (.agg #[d, u]) 0).run Tryz.prog w = .ok d w := by
  have h1 := run_isAgg_plain (P := Tryz.prog) Tryz.underlying37 rfl w
  simp [Instr.field, run_underlying Tryz.underlying39, part, asAgg, h1, Result.andThen, Sem.run_pure]
theorem field_undo (d u : Value) (w : World) : (Instr.field 39 (.agg #[d, u]) 1).run Tryz.prog w = .ok u w := by
  have h1 := run_isAgg_plain (P := Tryz.prog) Tryz.underlying26 rfl w
  simp [Instr.field, run_underlying Tryz.underlying39, part, asAgg, h1, Result.andThen, Sem.run_pure]
set_option maxHeartbeats 2000000 in
set_option maxRecDepth 100000 in
theorem go_right {W : Nat} (hW : IsW W) (n : Nat) (hn : n ≤ 10) (l : List UInt8) (v : Value) (w : World) (hv : IsBytes l v w) (hl : l.length ≤ 1000) (ht : TabA w) :
    Calls Tryz.prog 6 #[v, .int .i64 (W : Int), .int .i64 (n : Int)] w fun e w' => ∃ m u, goR W (stepsL n) l m ∧ e = .returned (.tuple #[u, .int .i64 0]) ∧ IsBytes m u w' ∧ Below w.heap.size w w' := by
  have hmay : mayB (W : Int) (n : Int) (l.length : Int) = true := by
    unfold mayB sizedB
    rw [← hW.right]
    simp
    omega
  have c1 := fun (w' : World) => may_any (W : Int) (n : Int) (l.length : Int) w'
  rw [hmay] at c1
  have C1 := Lib.hid c1
  have C2 := Lib.hid (fun (w' : World) => kinds_any hW w')
  have c4 := fun (w' : World) => steps_any (n : Int) w'
  rw [show stepsI (n : Int) = stepsL n by unfold stepsI; rw [if_pos ⟨by omega, by omega⟩, Int.toNat_natCast]] at c4
  obtain ⟨L, hL⟩ : ∃ L, L = stepsL n := ⟨_, rfl⟩
  have hst := fun (k : Nat) (hk : k < (stepsL n).length) => steps_in hn hk
  have hl4 := steps_len n
  rw [← hL] at c4 hst hl4 ⊢
  have C4 := Lib.hid c4
  have HST := Lib.hid hst
  have HT := Lib.hid ht
  have HV := Lib.hid hv
  obtain ⟨A, c, rfl, hc, -⟩ := hv
  have C3 := Lib.hid (fun (w' : World) (h : IsBytes l (.slice A l.length c) w') => bclone_any l _ w' h (by omega))
  clear c1 c4 hmay hL hst ht hn hW
  go_enter Tryz.func6, Tryz.ntmps6
  go_wp2_with fail
  refine (C1.out _).mono ?_
  rintro e w' ⟨rfl, rfl⟩
  go_wp2_with fail
  refine (C2.out _).mono ?_
  rintro e w1 ⟨b, rfl, hk1, hb1⟩
  have HK1 := Lib.hid hk1
  have HB1 := Lib.hid hb1
  have C5 := Lib.hid (C3.out w1 (HV.out.grow hb1))
  clear hk1 hb1 C1 C2 C3 HV
  go_wp2_with fail
  refine C5.out.mono ?_
  rintro e w2 ⟨v2, rfl, hr2, hb2⟩
  have HK2 := Lib.hid (HK1.out.grow hb2)
  have HB2 := Lib.hid (HB1.out.trans (hb2.mono HB1.out.size))
  have HR2 := Lib.hid hr2.bytes
  clear hr2 hb2 C5 HK1 HB1
  go_wp2_with fail
  refine (C4.out _).mono ?_
  rintro e w3 ⟨v3, rfl, h3, hb3⟩
  have HK3 := Lib.hid (HK2.out.grow hb3)
  have HB3 := Lib.hid (HB2.out.trans (hb3.mono HB2.out.size))
  have HR3 := Lib.hid (HR2.out.grow hb3)
  have HL3 := Lib.hid h3
  obtain ⟨A3, c3, rfl, hc3, -⟩ := h3
  rw [nvs_length]
  clear hb3 C4 HK2 HB2 HR2
  rw [nvs_length] at hc3 HL3
  go_wp2
  go_loopw [9, 24] (fun o i wr => GoRel w3 W L l o i wr) (fun _ i _ => L.length - (intOf i).toNat)
  case atStart => exact ⟨0, l, Nat.zero_le _, rfl, rfl, HR3.out, Below.refl _ _⟩
  case round =>
    obtain ⟨k, m, hk, rfl, HG, hm, hb⟩ := hrel
    have HB := Lib.hid hb
    have HM := Lib.hid hm
    obtain ⟨Am, cm, rfl, -, -⟩ := hm
    by_cases hlt : k < L.length
    · obtain ⟨hhead, s, hs, hs7⟩ := HST.out k hlt
      have hml : m.length ≤ 1000 := by rw [goR_keeps hhead HG.out]; exact hl
      obtain ⟨A0, c0, hv0, -, hr0⟩ := HL3.out.grow hb
      injection hv0 with e1 e2 e3
      subst e1 e3
      obtain ⟨ab, ao, rfl, hab, hcl⟩ := hr0 k _ (nvs_get L k (s + 1) hs)
      obtain ⟨d, u, hlk, hd, -⟩ := run_step (HK3.out.grow hb) hs7
      have hsn : Hid (∀ m', doR W (s + 1) m m' → goR W (L.take (k + 1)) l m') := fun m' h => by
        rw [List.take_add_one, hs]
        exact goR_snoc HG.out h
      obtain ⟨z, hz⟩ : ∃ z, z = s + 1 := ⟨_, rfl⟩
      rw [← hz] at hcl hlk hd hsn
      obtain ⟨K, cap, rfl, hE, hC⟩ := hd
      have CD := Lib.hid (hC wr m _ (FKeep.refl _) (HT.out.grow (HB3.out.trans (hb.mono HB3.out.size))) HM.out hml)
      have HE := Lib.hid hE
      have hfd := field_do (.func (.func K) #[] cap) u wr
      have hki : (k : Int) < (L.length : Int) := by omega
      clear hC hE hs hhead hr0 hb HM HG e2 hz hml
      go_wp2_with fail
      rw [HE.out]
      refine CD.out.mono ?_
      rintro e w5 ⟨m', hdo, v5, rfl, h5, hb5⟩
      have H5 := Lib.hid h5
      have HB5 := Lib.hid (HB.out.trans (hb5.mono HB.out.size))
      have HG5 := Lib.hid (hsn.out m' hdo)
      clear h5 hb5 hdo hsn CD hlk hcl hfd
      go_wp2
      go_roundw
      case rel => exact ⟨k + 1, m', by omega, by go_num, HG5.out, H5.out, HB5.out⟩
      case measure => simp [intOf]; omega
    · obtain rfl : k = L.length := by omega
      rw [List.take_length] at HG
      clear hb HST
      go_wp2
      go_ret2
      exact ⟨m, _, HG.out, rfl, HM.out, HB3.out.trans (HB.out.mono HB3.out.size)⟩
end Go.Proofs.YtcenbaajojdjlaaGreatDoor
namespace Go.Proofs.YtcenbaajojdjlaaGreatDoor
open Go.RowKit Go.Shelf
attribute [local go_sem] Oper.semAt_some

def IndexRel (l : List Nat) (x : Nat) (w : World) (i : Value) (wr : World) : Prop := ∃ k : Nat, k ≤ l.length ∧ i = .int .i64 (k : Int) ∧ x ∉ l.take k ∧ wr = w
/-- What slices.Index tells: a place of the number, if it is there, else -1. -/
def IndexAns (l : List Nat) (x : Nat) (w : World) (e : Ending) (w' : World) : Prop := ∃ i : Int, e = .returned (.int .i64 i) ∧ w = w' ∧ (0 ≤ i ↔ x ∈ l)
set_option maxHeartbeats 1000000 in
set_option maxRecDepth 100000 in
theorem index_any (l : List Nat) (x : Nat) (v : Value) (w : World) (hv : IsCells (nvs l) v w) (hb : l.length ≤ 1000) (hlx : ∀ y ∈ l, y ≤ 1000) :
    Calls Tryz.prog 78 #[v, .int .i64 (x : Int)] w (IndexAns l x w) := by
  obtain ⟨A, c, rfl, hc, hr⟩ := hv
  have HLX := Lib.hid hlx
  rw [nvs_length] at hc ⊢
  clear hlx
  go_enter Tryz.func78, Tryz.ntmps78
  go_wp2
  go_loopw [8] (fun i wr => IndexRel l x w i wr) (fun i _ => l.length - (intOf i).toNat)
  case atStart => exact ⟨0, Nat.zero_le _, rfl, by simp, rfl⟩
  case round =>
    obtain ⟨k, hk, rfl, hnot, rfl⟩ := hrel
    have HN := Lib.hid hnot
    clear hnot
    by_cases hlt : k < l.length
    · obtain ⟨y, hy⟩ : ∃ y, l[k]? = some y := ⟨l[k], List.getElem?_eq_getElem hlt⟩
      obtain ⟨ab, ao, rfl, hab, hcl⟩ := hr k _ (nvs_get l k y hy)
      have hy1 : y ≤ 1000 := HLX.out y (List.mem_of_getElem? hy)
      have HY := Lib.hid hy
      clear hy hab
      by_cases hxy : x = y
      · subst hxy
        go_wp2
        go_ret
        exact ⟨_, rfl, rfl, ⟨fun _ => List.mem_of_getElem? HY.out, fun _ => by omega⟩⟩
      · have hne : (((x : Nat) : Int) == ((y : Nat) : Int)) = false := by rw [beq_eq_false_iff_ne]; omega
        go_wp2
        go_roundw
        case rel =>
          refine ⟨k + 1, by omega, by go_num, ?_, rfl⟩
          rw [List.take_add_one, HY.out]
          simp only [Option.toList_some, List.mem_append, List.mem_singleton, not_or]
          exact ⟨HN.out, hxy⟩
        case measure => simp [intOf]; omega
    · obtain rfl : k = l.length := by omega
      rw [List.take_length] at HN
      go_wp2
      go_ret
      exact ⟨_, rfl, rfl, ⟨fun h => absurd h (by decide), fun h => absurd h HN.out⟩⟩
set_option maxHeartbeats 1000000 in
set_option maxRecDepth 100000 in
theorem contains_any (l : List Nat) (x : Nat) (v : Value) (w : World) (hv : IsCells (nvs l) v w) (hb : l.length ≤ 1000) (hlx : ∀ y ∈ l, y ≤ 1000) :
    Calls Tryz.prog 48 #[v, .int .i64 (x : Int)] w fun e w' => e = .returned (.bool (decide (x ∈ l))) ∧ w = w' := by
  have C1 := Lib.hid (index_any l x v w hv hb hlx)
  obtain ⟨A, c, rfl, hc, hr⟩ := hv
  obtain ⟨z, hz⟩ : ∃ z, z = decide (x ∈ l) := ⟨_, rfl⟩
  rw [← hz]
  have HZ := Lib.hid hz
  clear hr hz hlx
  go_enter Tryz.func48, Tryz.ntmps48
  go_wp2_with fail
  refine C1.out.mono ?_
  rintro e w' ⟨i, rfl, rfl, hi⟩
  have HI := Lib.hid hi
  clear hi C1
  go_wp2
  go_ret
  exact ⟨ret_bool (by rw [HZ.out, decide_eq_decide]; exact HI.out), rfl⟩
/-- Do the steps make as many bytes of bytes? -/
def keepB (l : List Nat) : Bool := !decide (6 ∈ l) && !decide (7 ∈ l)
set_option maxHeartbeats 1000000 in
set_option maxRecDepth 100000 in
theorem keepLength_any (l : List Nat) (v : Value) (w : World) (hv : IsCells (nvs l) v w) (hb : l.length ≤ 1000) (hlx : ∀ y ∈ l, y ≤ 1000) :
    Calls Tryz.prog 19 #[v] w fun e w' => e = .returned (.bool (keepB l)) ∧ w = w' := by
  have c1 := contains_any l 6 v w hv hb hlx
  have c2 := contains_any l 7 v w hv hb hlx
  obtain ⟨A, c, rfl, hc, hr⟩ := hv
  unfold keepB
  obtain ⟨a, ha⟩ : ∃ a, a = decide (6 ∈ l) := ⟨_, rfl⟩
  obtain ⟨b, hbd⟩ : ∃ b, b = decide (7 ∈ l) := ⟨_, rfl⟩
  rw [← ha] at c1 ⊢
  rw [← hbd] at c2 ⊢
  have C1 := Lib.hid c1
  have C2 := Lib.hid c2
  clear hr ha hbd c1 c2 hlx
  cases a with
  | true =>
    go_enter Tryz.func19, Tryz.ntmps19
    go_wp2_with fail
    refine C1.out.mono ?_
    rintro e w' ⟨rfl, rfl⟩
    go_wp2
    go_ret
    exact ⟨rfl, rfl⟩
  | false =>
    go_enter Tryz.func19, Tryz.ntmps19
    go_wp2_with fail
    refine C1.out.mono ?_
    rintro e w' ⟨rfl, rfl⟩
    go_wp2_with fail
    refine C2.out.mono ?_
    rintro e w' ⟨rfl, rfl⟩
    go_wp2
    go_ret
    exact ⟨by cases b <;> rfl, rfl⟩
end Go.Proofs.YtcenbaajojdjlaaGreatDoor
