/- Layer 28: OptsBack. -/
import Derived.Test.YtnfkekaeppgaoaaDoorOptChk
import Derived.Test.YtnfkekaeppgaoaaDoorOptBkM
namespace Go.Proofs.YtnfkekaeppgaoaaDoor
open Go.RowKit Go.Sort

/-- The first k pairs of what is put together, and the blanks between them. -/
def partR (b u r m t : Nat) : Nat → List UInt8
  | 0 => []
  | k + 1 => partR b u r m t k ++ prL b u r m ((k + t) % 4) ++ (if k < 3 then [32] else [])
theorem partR_all (b u r m t : Nat) : partR b u r m t 4 = rotL b u r m t := by
  unfold rotL join4
  simp [partR]
theorem partR_len {b u r m : Nat} (hb : b ≤ 16777216) (hu : u ≤ 8) (hr : r ≤ 10) (hm : m ≤ 6) (t : Nat) : ∀ k, (partR b u r m t k).length ≤ 18 * k
  | 0 => by simp [partR]
  | k + 1 => by
    have h1 := partR_len hb hu hr hm t k
    have h2 := prL_len hb hu hr hm (show (k + t) % 4 < 4 by omega)
    have h3 : (if k < 3 then [32] else [] : List UInt8).length ≤ 1 := by split <;> simp
    unfold partR
    rw [List.length_append, List.length_append]
    omega
/-- What holds at the head of a round over the pairs. -/
def PutP (b u r m t : Nat) (O g : Nat) (cur : Array Value) (W : World) (sv iv : Value) (wr : World) : Prop :=
  ∃ k : Nat, k ≤ 4 ∧ iv = .int .i64 (k : Int) ∧ sv = .string (strA (partR b u r m t k)) ∧ wr.heap[g]? = some (.cells cur 9 (0, 0)) ∧ Blk wr O 23 [.int .i64 (b : Int), .int .i64 (u : Int), .int .i64 (r : Int), .int .i64 (m : Int)] ∧ TabT W.heap.size wr ∧ Below W.heap.size W wr
set_option maxRecDepth 100000 in
set_option maxHeartbeats 4000000 in
theorem optsBack_law (b u r m : Int) (t : Nat) (W : World) (ht256 : t < 256) (htab : TabT W.heap.size W) : Calls Tryd.prog 4 #[.agg #[.int .i64 b, .int .i64 u, .int .i64 r, .int .i64 m], .int .u8 (t : Int)] W fun e w' => e = .returned (.bool true) ∧ Below W.heap.size W w' := by
  have CK := Lib.hid known28_any
  have CM := Lib.hid (refMay_any b u r m)
  have hO := heap_alloc_new W (.cells #[.int .i64 b, .int .i64 u, .int .i64 r, .int .i64 m] 23)
  have HO := Lib.hid (show Blk (W.alloc (.cells #[.int .i64 b, .int .i64 u, .int .i64 r, .int .i64 m] 23)) W.heap.size 23 [.int .i64 b, .int .i64 u, .int .i64 r, .int .i64 m] from hO)
  have HB := Lib.hid ((Below.refl W.heap.size W).alloc (Nat.le_refl _) (.cells #[.int .i64 b, .int .i64 u, .int .i64 r, .int .i64 m] 23))
  clear hO
  cases hmay : mayO b u r m with
  | false =>
    rw [hmay] at CM
    unfold optV at CM
    clear hmay
    go_enter Tryd.func4, Tryd.ntmps4
    go_wp2_with fail
    refine (CM.out _).mono ?_
    rintro e w2 ⟨rfl, hb2⟩
    have HB2 := Lib.hid (HB.out.trans (hb2.mono HB.out.size))
    clear hb2
    go_wp2_with fail
    refine (CK.out _).mono ?_
    rintro e w3 ⟨rfl, hb3⟩
    have HB3 := Lib.hid (HB2.out.trans (hb3.mono HB2.out.size))
    clear hb3
    go_wp2
    go_ret
    exact ⟨rfl, HB3.out⟩
  | true =>
    rw [hmay] at CM
    obtain ⟨b', u', r', m', rfl, rfl, rfl, rfl, hb1, hb2, hu, hr10, hm6⟩ := mayO_nat hmay
    have hu8 : u' ≤ 8 := by rcases hu with h | h | h | h <;> omega
    have CT := Lib.hid (fun w (h : TabT w.heap.size w) => optText_yes (b := b') (u := u') (r := r') (m := m') hb2 hu8 hr10 hm6 hmay h)
    have hrl : ∀ t, (rotL b' u' r' m' t).length ≤ 72 := fun t => by rw [← partR_all]; exact partR_len hb2 hu8 hr10 hm6 t 4
    have htl : (textL b' u' r' m').length ≤ 72 := by rw [← rotL_zero]; exact hrl 0
    have CC := Lib.hid (fun w => refCut_any (textL b' u' r' m') 32 (by omega) w)
    rw [show ((32 : UInt8).toNat : Int) = 32 from rfl] at CC
    have hcut : cutL 32 (textL b' u' r' m') = [prL b' u' r' m' 0, prL b' u' r' m' 1, prL b' u' r' m' 2, prL b' u' r' m' 3] := by
      rw [text_join]
      exact cut_join (prL_free hm6 (by decide)) (prL_free hm6 (by decide)) (prL_free hm6 (by decide)) (prL_free hm6 (by decide))
    rw [hcut] at CC
    have CR1 := Lib.hid (fun w => optRead_any (l := rotL b' u' r' m' t) (by have := hrl t; omega) w)
    have CR2 := Lib.hid (fun w => optRead_any (l := textL b' u' r' m') (by omega) w)
    have hrd2 := read_rot hb2 hu8 hr10 hm6 hmay 0
    rw [rotL_zero] at hrd2
    rw [read_rot hb2 hu8 hr10 hm6 hmay t, show optA ([(b' : Int), (u' : Int), (r' : Int), (m' : Int)], 0).1 = .agg #[.int .i64 (b' : Int), .int .i64 (u' : Int), .int .i64 (r' : Int), .int .i64 (m' : Int)] from rfl] at CR1
    rw [hrd2, show optA ([(b' : Int), (u' : Int), (r' : Int), (m' : Int)], 0).1 = .agg #[.int .i64 (b' : Int), .int .i64 (u' : Int), .int .i64 (r' : Int), .int .i64 (m' : Int)] from rfl] at CR2
    have HPL := Lib.hid (fun k => partR_len hb2 hu8 hr10 hm6 t k)
    have HQL := Lib.hid (fun k (h : k < 4) => prL_len hb2 hu8 hr10 hm6 h)
    have HT := Lib.hid htab
    obtain ⟨TX, hTX⟩ : ∃ x, x = strA (textL b' u' r' m') := ⟨_, rfl⟩
    rw [← hTX] at CT CC CR2
    unfold optV at CM CT
    clear hmay hb1 hb2 hu hr10 hm6 hu8 hrl htl hcut hrd2 htab hTX
    go_enter Tryd.func4, Tryd.ntmps4
    go_wp2_with fail
    refine (CM.out _).mono ?_
    rintro e w1 ⟨rfl, hb1⟩
    have hO1 := HO.out.grow hb1
    have HO1 := Lib.hid hO1
    have HB1 := Lib.hid (HB.out.trans (hb1.mono HB.out.size))
    have q0 := hO1.cell 0
    have q1 := hO1.cell 1
    have q2 := hO1.cell 2
    have q3 := hO1.cell 3
    simp only [List.getElem?_cons_zero, List.getElem?_cons_succ] at q0 q1 q2 q3
    clear hb1 hO1 HO HB
    go_wp2_with fail
    refine (CT.out _ ((HT.out.on HB1.out).up HB1.out.size)).mono ?_
    rintro e w2 ⟨rfl, hb2⟩
    have HO2 := Lib.hid (HO1.out.grow hb2)
    have HB2 := Lib.hid (HB1.out.trans (hb2.mono HB1.out.size))
    clear hb2 q0 q1 q2 q3 HO1 HB1
    go_wp2_with fail
    refine (CC.out _).mono ?_
    rintro e w3 ⟨v3, rfl, ho3, hb3⟩
    obtain ⟨-, hrow⟩ := ho3
    rcases hrow with ⟨-, h0⟩ | ⟨g, cap, cur, rfl, hg1, hg2, -, -, -, hg6⟩
    · simp at h0
    have HGE := Lib.hid (show ∀ k, k < 4 → ∀ w : World, w.heap[g]? = some (.cells cur 9 (0, 0)) → w.cell? ⟨g, k, none⟩ = some (.string (strA (prL b' u' r' m' k))) from fun k hk w hw => by
      have h1 : (svsS [prL b' u' r' m' 0, prL b' u' r' m' 1, prL b' u' r' m' 2, prL b' u' r' m' 3])[k]? = some (.string (strA (prL b' u' r' m' k))) := by
        rcases (show k = 0 ∨ k = 1 ∨ k = 2 ∨ k = 3 by omega) with rfl | rfl | rfl | rfl <;> rfl
      rw [← hg6, List.getElem?_take_of_lt (by simp; omega)] at h1
      simp [World.cell?, hw]
      simpa using h1)
    have HG3 := Lib.hid hg2
    have HO3 := Lib.hid (HO2.out.grow hb3)
    have HB3 := Lib.hid (HB2.out.trans (hb3.mono HB2.out.size))
    have HT3 := Lib.hid (HT.out.on HB3.out)
    obtain ⟨O, hOO⟩ : ∃ O, O = W.heap.size := ⟨_, rfl⟩
    have HOO := Lib.hid hOO
    rw [show ([prL b' u' r' m' 0, prL b' u' r' m' 1, prL b' u' r' m' 2, prL b' u' r' m' 3] : List (List UInt8)).length = 4 from rfl]
    rw [← hOO] at HO3 ⊢
    clear hb3 hg1 hg2 hg6 HO2 HB2 HT hOO CC CM
    go_wp2_with fail
    go_loopw [6, 7] (fun sv iv wr => PutP b' u' r' m' t O g cur W sv iv wr) (fun _ iv _ => 4 - (intOf iv).toNat)
    case atStart => exact ⟨0, by decide, rfl, rfl, HG3.out, HO3.out, HT3.out, HB3.out⟩
    case round =>
      obtain ⟨k, hk4, rfl, rfl, hg, hOw, hTw, hBw⟩ := hrel
      have HG := Lib.hid hg
      have HO := Lib.hid hOw
      have HTW := Lib.hid hTw
      have HBW := Lib.hid hBw
      clear hg hOw hTw hBw
      by_cases hlt : k < 4
      · have hki : (k : Int) < 4 := by omega
        obtain ⟨i, hi⟩ : ∃ i, i = (k + t) % 4 := ⟨_, rfl⟩
        have hi4 : i < 4 := by omega
        have hcell := HGE.out i hi4 _ HG.out
        have hii : ((k : Int) + (t : Int)) % 4 = (i : Int) := by omega
        have hpl := HPL.out k
        have hql := HQL.out i hi4
        have r1 := strA_room (a := partR b' u' r' m' t k) (b := prL b' u' r' m' i) (by omega)
        have a1 := strA_app (partR b' u' r' m' t k) (prL b' u' r' m' i)
        have r2 := strA_room (a := partR b' u' r' m' t k ++ prL b' u' r' m' i) (b := [32]) (by rw [List.length_append, List.length_singleton]; omega)
        have a2 := strA_app (partR b' u' r' m' t k ++ prL b' u' r' m' i) [32]
        have HPS := Lib.hid (show partR b' u' r' m' t (k + 1) = partR b' u' r' m' t k ++ prL b' u' r' m' i ++ (if k < 3 then [32] else []) by rw [hi]; rfl)
        have HIN := Lib.hid hlt
        obtain ⟨Sk, hSk⟩ : ∃ x, x = strA (partR b' u' r' m' t k) := ⟨_, rfl⟩
        obtain ⟨Qi, hQi⟩ : ∃ x, x = strA (prL b' u' r' m' i) := ⟨_, rfl⟩
        obtain ⟨A1, hA1⟩ : ∃ x, x = strA (partR b' u' r' m' t k ++ prL b' u' r' m' i) := ⟨_, rfl⟩
        obtain ⟨A2, hA2⟩ : ∃ x, x = strA (partR b' u' r' m' t k ++ prL b' u' r' m' i ++ [32]) := ⟨_, rfl⟩
        rw [← hSk, ← hQi] at r1
        rw [← hSk, ← hQi, ← hA1] at a1
        rw [← hA1, strA_lit [32]] at r2
        rw [← hA1, ← hA2, strA_lit [32]] at a2
        rw [← hQi] at hcell
        rw [← hSk]
        have r3 : ¬ 9223372036854775807 < A1.size + 1 := r2
        have HA1 := Lib.hid hA1
        have HA2 := Lib.hid hA2
        have HI := Lib.hid hi
        clear hi hSk hQi hA1 hA2 hpl hql r2 hlt
        by_cases h3 : k < 3
        · have h3i : (k : Int) < 3 := by omega
          have hfin : strA (partR b' u' r' m' t (k + 1)) = A2 := by rw [HPS.out, if_pos h3, HA2.out]
          have HF := Lib.hid hfin
          clear hfin h3
          go_wp2
          go_roundw
          case rel => exact ⟨k + 1, by have := HIN.out; omega, by go_num, by rw [HF.out], HG.out, HO.out, HTW.out, HBW.out⟩
          case measure => simp [intOf]; omega
        · have h3i : ¬ (k : Int) < 3 := by omega
          have hfin : strA (partR b' u' r' m' t (k + 1)) = A1 := by rw [HPS.out, if_neg h3, List.append_nil, HA1.out]
          have HF := Lib.hid hfin
          clear hfin h3
          go_wp2
          go_roundw
          case rel => exact ⟨k + 1, by have := HIN.out; omega, by go_num, by rw [HF.out], HG.out, HO.out, HTW.out, HBW.out⟩
          case measure => simp [intOf]; omega
      · obtain rfl : k = 4 := by omega
        rw [partR_all]
        obtain ⟨RX, hRX⟩ : ∃ x, x = strA (rotL b' u' r' m' t) := ⟨_, rfl⟩
        rw [← hRX] at CR1 ⊢
        clear hRX hlt
        go_wp2_with fail
        refine (CR1.out _).mono ?_
        rintro e w5 ⟨rfl, hb5⟩
        have hO5 := HO.out.grow hb5
        have HO5 := Lib.hid (hO5.alloc_ (.cells #[.int .i64 (b' : Int), .int .i64 (u' : Int), .int .i64 (r' : Int), .int .i64 (m' : Int)] 23))
        have HX5 := Lib.hid (show Blk (w5.alloc (.cells #[.int .i64 (b' : Int), .int .i64 (u' : Int), .int .i64 (r' : Int), .int .i64 (m' : Int)] 23)) w5.heap.size 23 [.int .i64 (b' : Int), .int .i64 (u' : Int), .int .i64 (r' : Int), .int .i64 (m' : Int)] from heap_alloc_new w5 _)
        have HB5 := Lib.hid ((HBW.out.trans (hb5.mono HBW.out.size)).alloc (Nat.le_trans HBW.out.size hb5.size) (.cells #[.int .i64 (b' : Int), .int .i64 (u' : Int), .int .i64 (r' : Int), .int .i64 (m' : Int)] 23))
        have HT5 := Lib.hid (HTW.out.on ((hb5.mono HBW.out.size).alloc (Nat.le_trans HBW.out.size hb5.size) (.cells #[.int .i64 (b' : Int), .int .i64 (u' : Int), .int .i64 (r' : Int), .int .i64 (m' : Int)] 23)))
        have q0 := hO5.cell 0
        have q1 := hO5.cell 1
        have q2 := hO5.cell 2
        have q3 := hO5.cell 3
        have hlt := hO5.lt
        simp only [List.getElem?_cons_zero, List.getElem?_cons_succ] at q0 q1 q2 q3
        clear hb5 hO5 HO HG HGE CR1
        go_wp2_with fail
        refine (CT.out _ (HT5.out.up HB5.out.size)).mono ?_
        rintro e w6 ⟨rfl, hb6⟩
        have HO6 := Lib.hid (HO5.out.grow hb6)
        have HX6 := Lib.hid (HX5.out.grow hb6)
        have HB6 := Lib.hid (HB5.out.trans (hb6.mono HB5.out.size))
        clear hb6 q0 q1 q2 q3 hlt HO5 HX5 HB5 HT5
        go_wp2_with fail
        refine (CR2.out _).mono ?_
        rintro e w7 ⟨rfl, hb7⟩
        have hO7 := HO6.out.grow hb7
        have hX7 := HX6.out.grow hb7
        have HB7 := Lib.hid ((HB6.out.trans (hb7.mono HB6.out.size)).alloc (Nat.le_trans HB6.out.size hb7.size) (.cells #[.int .i64 (b' : Int), .int .i64 (u' : Int), .int .i64 (r' : Int), .int .i64 (m' : Int)] 23))
        have q0 := hO7.cell 0
        have q1 := hO7.cell 1
        have q2 := hO7.cell 2
        have q3 := hO7.cell 3
        have hlt := hO7.lt
        have x0 := hX7.cell 0
        have x1 := hX7.cell 1
        have x2 := hX7.cell 2
        have x3 := hX7.cell 3
        have hxt := hX7.lt
        simp only [List.getElem?_cons_zero, List.getElem?_cons_succ] at q0 q1 q2 q3 x0 x1 x2 x3
        clear hb7 hO7 hX7 HO6 HX6 HB6
        go_wp2_with fail
        refine (CK.out _).mono ?_
        rintro e w8 ⟨rfl, hb8⟩
        have HB8 := Lib.hid (HB7.out.trans (hb8.mono HB7.out.size))
        clear hb8
        go_wp2
        go_ret
        exact ⟨rfl, HB8.out⟩
end Go.Proofs.YtnfkekaeppgaoaaDoor
