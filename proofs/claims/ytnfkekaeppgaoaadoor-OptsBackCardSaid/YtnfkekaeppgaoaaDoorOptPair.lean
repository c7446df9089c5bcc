/- Layer 28: the program: readPair. -/
import Derived.Test.YtnfkekaeppgaoaaDoorOptMap
namespace Go.Proofs.YtnfkekaeppgaoaaDoor
open Go.RowKit Go.Sort

/-- Four numbers as cells. -/
def optC (o : List Int) : List Value := o.map fun x => .int .i64 x
theorem optC_set (o : List Int) (k : Nat) (x : Int) : (optC o).set k (.int .i64 x) = optC (o.set k x) := by
  unfold optC
  rw [List.map_set]
/-- What readPair does: a pair read, or none. -/
def PairPost (W : World) (B O : Nat) (r : Option (List Int × List Bool)) (e : Ending) (w' : World) : Prop :=
  (∃ ok : Bool, e = .returned (.bool ok) ∧ (ok = false → r = none) ∧ (ok = true → ∃ st, r = some st ∧ MapP w' B O st.2 ∧ Blk w' O 23 (optC st.1))) ∧ (∀ base, base ≤ B → base ≤ O → base ≤ W.heap.size → Below base W w') ∧ (∀ j, j < W.heap.size → j ≠ B → j ≠ O → w'.heap[j]? = W.heap[j]?)
theorem pairR_no {o : List Int} {seen : List Bool} {x : List UInt8} (h : ∀ k, k < 4 → idxC 61 x < x.length → x.take (idxC 61 x) = keyN k → seen.getD k false = true) : pairR (o, seen) x = none := by
  unfold pairR
  rw [if_pos]
  by_cases h4 : keyAt x = 4
  · exact .inl h4
  · have hk : keyAt x < 4 := by have := keyAt_le x; omega
    obtain ⟨h1, h2⟩ := (key_cut hk).1 rfl
    exact .inr (h _ hk h1 h2)
theorem pairR_val {o : List Int} {seen : List Bool} {x : List UInt8} {k : Nat} (hk : k < 4) (h1 : idxC 61 x < x.length) (h2 : x.take (idxC 61 x) = keyN k) (hs : seen.getD k false = false) :
    pairR (o, seen) x = if valR k (x.drop (idxC 61 x + 1)) < 0 then none else some (o.set k (valR k (x.drop (idxC 61 x + 1))), seen.set k true) := by
  have hka : keyAt x = k := (key_cut hk).2 ⟨h1, h2⟩
  unfold pairR
  rw [if_neg]
  · rw [hka, key_drop hk hka]
  · rw [hka]
    rintro (h | h)
    · omega
    · rw [hs] at h; cases h
set_option maxRecDepth 100000 in
set_option maxHeartbeats 2000000 in
theorem optPair_any {x : List UInt8} (hx : x.length ≤ 1000) {B O : Nat} {o : List Int} {seen : List Bool} (ho : o.length = 4) (hs : seen.length = 4) (hne : B ≠ O) (W : World) (hM : MapP W B O seen) (hO : Blk W O 23 (optC o)) :
    Calls Tryd.prog 24 #[.string (strA x), .map (some B)] W (PairPost W B O (pairR (o, seen) x)) := by
  have CC := Lib.hid (optCut_any x hx)
  have HNE := Lib.hid hne
  have HBW := Lib.hid hM.lt
  have HOW := Lib.hid hO.lt
  clear hne
  by_cases h61 : idxC 61 x < x.length
  · have hcv : cutV x = .tuple #[.string (strA (x.take (idxC 61 x))), .string (strA (x.drop (idxC 61 x + 1))), .bool true] := if_pos h61
    rw [hcv] at CC
    by_cases hk : ∃ k, k < 4 ∧ x.take (idxC 61 x) = keyN k ∧ seen.getD k false = false
    · obtain ⟨k, hk4, hkn, hsk⟩ := hk
      have hpr := pairR_val (o := o) hk4 h61 hkn hsk
      rw [hkn] at CC
      obtain ⟨v, hv⟩ : ∃ v, v = x.drop (idxC 61 x + 1) := ⟨_, rfl⟩
      rw [← hv] at CC hpr
      have CV := Lib.hid (optValue_any hk4 v)
      have HPR := Lib.hid hpr
      have HM := Lib.hid hM
      have HO := Lib.hid hO
      have HK := Lib.hid hk4
      have HSK := Lib.hid hsk
      obtain ⟨K, hK⟩ : ∃ K, K = strA (keyN k) := ⟨_, rfl⟩
      obtain ⟨X, hX⟩ : ∃ X, X = strA x := ⟨_, rfl⟩
      obtain ⟨V, hV⟩ : ∃ V, V = strA v := ⟨_, rfl⟩
      obtain ⟨pv, hpv⟩ : ∃ pv : Int, pv = (valP k v).1 := ⟨_, rfl⟩
      obtain ⟨pk, hpk⟩ : ∃ pk : Bool, pk = (valP k v).2 := ⟨_, rfl⟩
      rw [← hK, ← hV] at CV
      rw [← hK, ← hV, ← hX] at CC
      rw [← hpv, ← hpk] at CV
      rw [← hX]
      have HPV := Lib.hid hpv
      have HPK := Lib.hid hpk
      have HKK := Lib.hid hK
      clear hcv h61 hkn hsk hpr hv hM hO hX hV hpv hpk hK
      go_enter Tryd.func24, Tryd.ntmps24
      go_wp2_with fail
      refine (CC.out _).mono ?_
      rintro e w1 ⟨rfl, hb1⟩
      have HM1 := Lib.hid (HM.out.below hb1 HBW.out)
      have HO1 := Lib.hid (HO.out.below hb1 HOW.out)
      have HB1 := Lib.hid hb1
      obtain ⟨hlk, w2, hdel, hm2, hbb, hoth⟩ := places_yes HM1.out hs HK.out HSK.out
      rw [← HKK.out] at hlk hdel
      unfold placeV at hlk
      have HM2 := Lib.hid hm2
      have HO2 := Lib.hid (show Blk w2 O 23 (optC o) from (hoth O HNE.out.symm).trans HO1.out)
      have HB2 := Lib.hid hbb
      have HOT := Lib.hid hoth
      clear hm2 hbb hoth hb1
      go_wp2_with fail
      refine (CV.out w2).mono ?_
      rintro e w3 ⟨rfl, hb3⟩
      have HM3 := Lib.hid (HM2.out.below hb3 HM2.out.lt)
      have hO3 := HO2.out.below hb3 HO2.out.lt
      have HO3 := Lib.hid hO3
      have HB3 := Lib.hid hb3
      have hkO : k < 4 := HK.out
      have hlen : k < o.length := by omega
      have hcl : w3.cell? ⟨O, k, none⟩ = some (.int .i64 (o.getD k 0)) := by
        rw [hO3.cell]
        unfold optC
        rw [List.getElem?_map, List.getD_eq_getElem?_getD, List.getElem?_eq_getElem hlen]
        rfl
      have hfz := hO3.frozen k
      have HO4 := Lib.hid (show Blk (w3.setCell ⟨O, k, none⟩ (.int .i64 pv)) O 23 (optC (o.set k pv)) by rw [← optC_set]; exact hO3.set_ k _)
      have HM4 := Lib.hid (HM3.out.setCell ⟨O, k, none⟩ (.int .i64 pv) HNE.out)
      obtain ⟨ov, hov⟩ : ∃ ov, ov = o.getD k 0 := ⟨_, rfl⟩
      rw [← hov] at hcl
      clear hb3 hO3 hkO hlen hov
      go_wp2
      go_ret
      refine ⟨⟨pk, rfl, ?_, ?_⟩, ?_, ?_⟩
      · intro h
        rw [HPR.out]
        by_cases hneg : valR k v < 0
        · rw [if_pos hneg]
        · have := valP_yes hneg
          rw [HPK.out, this] at h
          cases h
      · intro h
        rw [HPR.out]
        by_cases hneg : valR k v < 0
        · have := valP_no hneg
          rw [HPK.out, this] at h
          cases h
        · refine ⟨_, if_neg hneg, HM4.out, ?_⟩
          have h1 : pv = valR k v := by rw [HPV.out, valP_yes hneg]
          have h2 := HO4.out
          show Blk _ O _ (optC (o.set k (valR k v)))
          rw [← h1]
          exact h2
      · intro base hbB hbO hbs
        exact ((HB1.out.mono hbs).trans ((HB2.out base hbB).trans (HB3.out.mono (by have := HO2.out.lt; omega)))).setCell (p := ⟨O, k, none⟩) hbO _
      · intro j hj hjB hjO
        have e1 := HB1.out.block j hj
        have hj1 : j < w1.heap.size := Nat.lt_of_lt_of_le hj HB1.out.size
        have e2 := HOT.out j hjB
        have hj2 : j < w2.heap.size := by
          have : w2.heap[j]?.isSome := by rw [e2]; simp [hj1]
          simpa using this
        have e3 := HB3.out.block j hj2
        rw [Below.heap_setCell _ _ _ _ hjO, e3, e2, e1]
    · have hpr := pairR_no (o := o) (seen := seen) (x := x) (fun k h4 _ he => by
        by_cases hc : seen.getD k false = true
        · exact hc
        · exact absurd ⟨k, h4, he, by simpa using hc⟩ hk)
      have hno : ∀ k, k < 4 → x.take (idxC 61 x) = keyN k → seen.getD k false = true := fun k h4 he => by
        by_cases hc : seen.getD k false = true
        · exact hc
        · exact absurd ⟨k, h4, he, by simpa using hc⟩ hk
      have HNO := Lib.hid hno
      rw [hpr]
      have HM := Lib.hid hM
      obtain ⟨kx, hkx⟩ : ∃ kx, kx = x.take (idxC 61 x) := ⟨_, rfl⟩
      rw [← hkx] at CC HNO
      obtain ⟨v, hv⟩ : ∃ v, v = strA (x.drop (idxC 61 x + 1)) := ⟨_, rfl⟩
      rw [← hv] at CC
      clear hcv h61 hk hpr hno hM hO hkx hv
      go_enter Tryd.func24, Tryd.ntmps24
      go_wp2_with fail
      refine (CC.out _).mono ?_
      rintro e w1 ⟨rfl, hb1⟩
      have hlk := places_no (HM.out.below hb1 HBW.out) HNO.out
      have HB1 := Lib.hid hb1
      clear hb1
      go_wp2
      go_ret
      exact ⟨⟨false, rfl, fun _ => rfl, fun h => by cases h⟩, fun base _ _ hbs => HB1.out.mono hbs, fun j hj _ _ => HB1.out.block j hj⟩
  · have hcv : cutV x = .tuple #[.string ⟨#[]⟩, .string ⟨#[]⟩, .bool false] := if_neg h61
    have hpr := pairR_no (o := o) (seen := seen) (x := x) (fun k _ h _ => absurd h h61)
    rw [hpr]
    rw [hcv] at CC
    have HM := Lib.hid hM
    clear hcv h61 hpr hM hO
    go_enter Tryd.func24, Tryd.ntmps24
    go_wp2_with fail
    refine (CC.out _).mono ?_
    rintro e w1 ⟨rfl, hb1⟩
    have hlk := places_no (x := []) (HM.out.below hb1 HBW.out) (fun k h4 he => by
      rcases (show k = 0 ∨ k = 1 ∨ k = 2 ∨ k = 3 by omega) with rfl | rfl | rfl | rfl <;> cases he)
    rw [show strA [] = ⟨#[]⟩ from rfl] at hlk
    have HB1 := Lib.hid hb1
    clear hb1
    go_wp2
    go_ret
    exact ⟨⟨false, rfl, fun _ => rfl, fun h => by cases h⟩, fun base _ _ hbs => HB1.out.mono hbs, fun j hj _ _ => HB1.out.block j hj⟩
end Go.Proofs.YtnfkekaeppgaoaaDoor
