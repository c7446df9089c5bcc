/- Layer 28: the program: number, cut, value. -/
import Derived.Test.YtnfkekaeppgaoaaDoorOptDec
import Derived.Test.YtnfkekaeppgaoaaDoorMdsNam
namespace Go.Proofs.YtnfkekaeppgaoaaDoor
open Go.RowKit Go.Sort

/-- The number that a text's digits are; 0, where they are none. -/
def numV : Option Nat → Int
  | some n => (n : Int)
  | none => 0
/-- What holds at the head of a round of number. -/
def NumP (S : ByteArray) (L : List UInt8) (n : Nat) (I : Nat) (nv : Value) (wr W : World) : Prop :=
  ∃ k v : Nat, k ≤ n ∧ wr.heap[I]? = some (.stringIter S k) ∧ nv = .int .i64 (v : Int) ∧ numF 0 L = numF v (L.drop k) ∧ v < 10 ^ k ∧ Below I W wr
theorem numO_no {l : List UInt8} (h : l = [] ∨ 9 < l.length ∨ (1 < l.length ∧ l.head? = some 48)) : numO l = none := by unfold numO; rw [if_pos h]
set_option maxRecDepth 100000 in
set_option maxHeartbeats 2000000 in
theorem optNumber_any (l : List UInt8) (W : World) : Calls Tryd.prog 33 #[.string (strA l)] W fun e w' => e = .returned (.tuple #[.int .i64 (numV (numO l)), .bool (numO l).isSome]) ∧ Below W.heap.size W w' := by
  have hsz : (strA l).size = l.length := strA_size l
  have hem := strA_empty l
  cases l with
  | nil =>
    rw [numO_no (.inl rfl)]
    go_enter Tryd.func33, Tryd.ntmps33
    go_wp2
    go_ret2
    exact ⟨rfl, Below.refl _ _⟩
  | cons a t =>
    obtain ⟨S, hS⟩ : ∃ S, S = strA (a :: t) := ⟨_, rfl⟩
    rw [← hS] at hsz hem ⊢
    by_cases h9 : 9 < (a :: t).length
    · rw [numO_no (.inr (.inl h9))]
      have h9i : (9 : Int) < ((a :: t).length : Int) := by omega
      obtain ⟨n, hn⟩ : ∃ n, n = (a :: t).length := ⟨_, rfl⟩
      rw [← hn] at hsz h9i
      rw [List.isEmpty_cons] at hem
      have h0 : 0 < n := by omega
      clear h9 hn hS
      go_enter Tryd.func33, Tryd.ntmps33
      go_wp2
      go_ret2
      exact ⟨rfl, Below.refl _ _⟩
    · have hpos : 0 < S.size := by rw [hsz]; simp
      have hg : ((S[0]'hpos).toNat : Int) = (a.toNat : Int) := by
        subst hS
        rw [strA_get]; rfl
      rw [List.isEmpty_cons] at hem
      by_cases h48 : 1 < (a :: t).length ∧ a = 48
      · rw [numO_no (.inr (.inr ⟨h48.1, by rw [h48.2]; rfl⟩))]
        have ha : ((a.toNat : Int) == 48) = true := by rw [h48.2]; rfl
        have h9i : ¬ (9 : Int) < ((a :: t).length : Int) := by omega
        have h1i : (1 : Int) < ((a :: t).length : Int) := by omega
        obtain ⟨n, hn⟩ : ∃ n, n = (a :: t).length := ⟨_, rfl⟩
        rw [← hn] at hsz h9i h1i
        clear h9 h48 hn hS
        go_enter Tryd.func33, Tryd.ntmps33
        go_wp2
        go_ret2
        exact ⟨rfl, Below.refl _ _⟩
      · have hno : numO (a :: t) = numF 0 (a :: t) := by
          unfold numO
          rw [if_neg]
          rintro (h | h | ⟨h, h'⟩)
          · cases h
          · exact h9 h
          · exact h48 ⟨h, by simpa using h'⟩
        rw [hno]
        have h9i : ¬ (9 : Int) < ((a :: t).length : Int) := by omega
        have hcond : ((a.toNat : Int) == 48 && decide ((1 : Int) < ((a :: t).length : Int))) = false := by
          by_cases h1 : 1 < (a :: t).length
          · have : a ≠ 48 := fun e => h48 ⟨h1, e⟩
            have : ((a.toNat : Int) == 48) = false := by
              rw [beq_eq_false_iff_ne]
              intro h
              refine this (UInt8.toNat.inj ?_)
              show a.toNat = 48
              omega
            rw [this]; rfl
          · have : ¬ (1 : Int) < ((a :: t).length : Int) := by omega
            rw [decide_eq_false this, Bool.and_false]
        obtain ⟨L, hL⟩ : ∃ L, L = a :: t := ⟨_, rfl⟩
        rw [← hL] at hsz h9i h9 hcond ⊢ hS
        obtain ⟨n, hn⟩ : ∃ n, n = L.length := ⟨_, rfl⟩
        rw [← hn] at hsz h9i h9 hcond
        have HNL := Lib.hid hn
        have HN9 := Lib.hid h9
        have HS := Lib.hid hS
        have hn1 : 0 < n := by rw [hn, hL]; simp
        have Hdec := Lib.hid (fun p (h : p < L.length) => dec_any h)
        clear hno h48 hS hL hn h9
        obtain ⟨x, hx⟩ : ∃ x : Int, x = (a.toNat : Int) := ⟨_, rfl⟩
        rw [← hx] at hg hcond
        clear hx
        go_enter Tryd.func33, Tryd.ntmps33
        have HCO := Lib.hid hcond
        clear hcond
        go_wp2
        · exfalso
          have := HCO.out
          simp_all
        all_goals
          go_loopw [4, 6] (fun nv _ wr => NumP S L n W.heap.size nv wr W) (fun _ _ wr => n - wr.iterPos W.heap.size)
          case atStart => exact ⟨0, 0, Nat.zero_le _, World.iter_heap W S 0, rfl, rfl, by decide, (Below.refl _ _).alloc (Nat.le_refl _) _⟩
          case round =>
            obtain ⟨k, v, hk, hI, rfl, hf, hv, hb⟩ := hrel
            have HF := Lib.hid hf
            have HV := Lib.hid hv
            have HB := Lib.hid hb
            have hIs : W.heap.size < wr.heap.size := (Array.getElem?_eq_some_iff.1 hI).1
            clear hf hv hb
            by_cases hlt : k < n
            · have hks : k < S.size := by omega
              have hnx := fun ty => Lib.run_next_any_at (P := Tryd.prog) wr W.heap.size S k ty hI hks
              obtain ⟨r, m, hd, hm1, hm2, hr, hcase⟩ := Hdec.out k (by have := HNL.out; omega)
              rw [← HS.out] at hd
              rw [hd] at hnx
              dsimp only at hnx
              have HI2 := Lib.hid (Lib.iterAt_heap wr W.heap.size S k (k + m) hI)
              have HB2 := Lib.hid (Lib.below_iterAt HB.out (k := W.heap.size) (Nat.le_refl _) S (k + m))
              have hpos2 : wr.iterPos W.heap.size = k := by simp [World.iterPos, hI]
              have hpos3 : (wr.iterAt W.heap.size S (k + m)).iterPos W.heap.size = k + m := by simp [World.iterPos, HI2.out]
              have HP2 := Lib.hid hpos2
              have HP3 := Lib.hid hpos3
              obtain ⟨w2, hw2⟩ : ∃ w2, w2 = wr.iterAt W.heap.size S (k + m) := ⟨_, rfl⟩
              rw [← hw2] at hnx HI2 HB2 HP3
              clear hI hd hw2 hpos2 hpos3
              have hkl : k < L.length := by have := HNL.out; omega
              have hdrop : L.drop k = L.getD k 0 :: L.drop (k + 1) := by
                rw [List.drop_eq_getElem_cons hkl, List.getD_eq_getElem?_getD, List.getElem?_eq_getElem hkl]; rfl
              have hp8 : v < 100000000 := by
                have h1 := HV.out
                have h2 : 10 ^ k ≤ 10 ^ 8 := Nat.pow_le_pow_right (by decide) (by omega)
                exact Nat.lt_of_lt_of_le h1 h2
              obtain ⟨y, hy⟩ : ∃ y, y = L.getD k 0 := ⟨_, rfl⟩
              rw [← hy] at hdrop hcase
              have HY := Lib.hid hy
              clear hy
              by_cases hbad : r < 48 ∨ 57 < r
              · have hnone : numF v (L.drop k) = none := by
                  rw [hdrop, numF, if_pos]
                  rcases hcase with ⟨h1, -, -⟩ | ⟨h1, h2⟩
                  · omega
                  · right
                    have := h2 k (Nat.le_refl _) (by omega)
                    rw [← HY.out] at this
                    omega
                have HNO := Lib.hid hnone
                clear hnone hdrop hcase
                by_cases hb1 : r < 48
                · have hb1i : (r : Int) < 48 := by omega
                  clear hb1 hbad
                  go_wp2
                  go_ret2
                  exact ⟨by rw [HF.out, HNO.out]; rfl, HB2.out⟩
                · have hb1i : ¬ (r : Int) < 48 := by omega
                  have hb2i : (57 : Int) < (r : Int) := by omega
                  clear hb1 hbad
                  go_wp2
                  go_ret2
                  exact ⟨by rw [HF.out, HNO.out]; rfl, HB2.out⟩
              · have hb1i : ¬ (r : Int) < 48 := by omega
                have hb2i : ¬ (57 : Int) < (r : Int) := by omega
                have hry : r = y.toNat ∧ m = 1 := by
                  rcases hcase with ⟨h1, h2, -⟩ | ⟨h1, -⟩
                  · exact ⟨h1, h2⟩
                  · omega
                have HRY := Lib.hid hry
                have HDR := Lib.hid hdrop
                have HNB := Lib.hid hbad
                have hv10 : (v : Int) < 100000000 := by omega
                have HKN := Lib.hid hlt
                clear hbad hp8 hdrop hcase hry
                go_wp2
                go_roundw
                case rel =>
                  have e1 := HRY.out
                  have e2 := HNB.out
                  have e3 := HKN.out
                  refine ⟨k + 1, 10 * v + r - 48, by omega, by rw [← e1.2]; exact HI2.out, ?_, ?_, ?_, HB2.out⟩
                  · congr 1
                    omega
                  · rw [HF.out, HDR.out, numF, if_neg (by rw [← e1.1]; exact e2), e1.1]
                  · have h1 := HV.out
                    rw [Nat.pow_succ]
                    omega
                case measure =>
                  have e1 := HP2.out
                  have e2 := HP3.out
                  have e3 := HRY.out
                  rw [e1, e2]
                  omega
            · obtain rfl : k = n := by omega
              have hnx := fun ty => Lib.run_next_end_at (P := Tryd.prog) wr W.heap.size S k ty hI (by omega)
              clear hI
              go_wp2
              go_ret2
              refine ⟨?_, HB.out⟩
              rw [HF.out, HNL.out, List.drop_length]
              rfl
/-- What cut hands back. -/
def cutV (l : List UInt8) : Value :=
  if idxC 61 l < l.length then .tuple #[.string (strA (l.take (idxC 61 l))), .string (strA (l.drop (idxC 61 l + 1))), .bool true]
  else .tuple #[.string ⟨#[]⟩, .string ⟨#[]⟩, .bool false]
/-- What holds at the head of a round of cut. -/
def CutP (S : ByteArray) (L : List UInt8) (n : Nat) (I : Nat) (wr W : World) : Prop :=
  ∃ k : Nat, k ≤ n ∧ wr.heap[I]? = some (.stringIter S k) ∧ Free 61 L 0 k ∧ Below I W wr
set_option maxRecDepth 100000 in
set_option maxHeartbeats 2000000 in
theorem optCut_any (l : List UInt8) (hl : l.length ≤ 1000) (W : World) : Calls Tryd.prog 26 #[.string (strA l)] W fun e w' => e = .returned (cutV l) ∧ Below W.heap.size W w' := by
  have hsz : (strA l).size = l.length := strA_size l
  have hex : ∀ f k, (strA l).extract f k = strA ((l.drop f).take (k - f)) := strA_extract l
  obtain ⟨S, hS⟩ : ∃ S, S = strA l := ⟨_, rfl⟩
  rw [← hS] at hsz hex ⊢
  obtain ⟨n, hn⟩ : ∃ n, n = l.length := ⟨_, rfl⟩
  rw [← hn] at hsz hl
  have HNL := Lib.hid hn
  have HS := Lib.hid hS
  have HEX := Lib.hid hex
  have Hdec := Lib.hid (fun p (h : p < l.length) => dec_any h)
  clear hn hS hex
  go_enter Tryd.func26, Tryd.ntmps26
  go_wp2
  go_loopw [5, 6] (fun _ _ wr => CutP S l n W.heap.size wr W) (fun _ _ wr => n - wr.iterPos W.heap.size)
  case atStart => exact ⟨0, Nat.zero_le _, World.iter_heap W S 0, Free.nil _ _ _, (Below.refl _ _).alloc (Nat.le_refl _) _⟩
  case round =>
    obtain ⟨k, hk, hI, hfr, hb⟩ := hrel
    have HF := Lib.hid hfr
    have HB := Lib.hid hb
    have hIs : W.heap.size < wr.heap.size := (Array.getElem?_eq_some_iff.1 hI).1
    clear hfr hb
    by_cases hlt : k < n
    · have hks : k < S.size := by omega
      have hnx := fun ty => Lib.run_next_any_at (P := Tryd.prog) wr W.heap.size S k ty hI hks
      obtain ⟨r, m, hd, hm1, hm2, hr, hcase⟩ := Hdec.out k (by have := HNL.out; omega)
      rw [← HS.out] at hd
      rw [hd] at hnx
      dsimp only at hnx
      have HI2 := Lib.hid (Lib.iterAt_heap wr W.heap.size S k (k + m) hI)
      have HB2 := Lib.hid (Lib.below_iterAt HB.out (k := W.heap.size) (Nat.le_refl _) S (k + m))
      have HP2 := Lib.hid (show wr.iterPos W.heap.size = k by simp [World.iterPos, hI])
      have HP3 := Lib.hid (show (wr.iterAt W.heap.size S (k + m)).iterPos W.heap.size = k + m by simp [World.iterPos, HI2.out])
      obtain ⟨w2, hw2⟩ : ∃ w2, w2 = wr.iterAt W.heap.size S (k + m) := ⟨_, rfl⟩
      rw [← hw2] at hnx HI2 HB2 HP3
      clear hI hd hw2
      have HC := Lib.hid hcase
      by_cases h61 : r = 61
      · have hv : cutV l = .tuple #[.string (S.extract 0 k), .string (S.extract (k + 1) n), .bool true] := by
          have hc : l.getD k 0 = 61 := by
            rcases hcase with ⟨h1, -, -⟩ | ⟨h1, -⟩
            · refine UInt8.toNat.inj ?_
              show _ = 61
              omega
            · omega
          have hi := free_idx HF.out (by have := HNL.out; omega) hc
          unfold cutV
          rw [hi, if_pos (by have := HNL.out; omega), HEX.out, HEX.out, HNL.out, List.drop_zero, List.take_of_length_le (l := l.drop (k + 1)) (by rw [List.length_drop]; omega)]
          rfl
        have HV := Lib.hid hv
        have h61i : ((r : Int) == 61) = true := by simp [h61]
        have hki : (k : Int) + 1 ≤ (n : Int) := by omega
        clear hv h61 hcase
        go_wp2_with fail
        go_region
        all_goals
          go_wp2
          go_ret3
          exact ⟨congrArg Ending.returned HV.out.symm, HB2.out.drew⟩
      · have h61i : ((r : Int) == 61) = false := by rw [beq_eq_false_iff_ne]; omega
        have HNE := Lib.hid h61
        have HKN := Lib.hid hlt
        clear hcase h61
        go_wp2
        go_roundw
        case rel =>
          refine ⟨k + m, by have := HNL.out; omega, HI2.out, ?_, HB2.out⟩
          rcases HC.out with ⟨h1, h2, h3⟩ | ⟨h1, h2⟩
          · rw [h2]
            exact HF.out.one (by rw [← h1]; exact HNE.out)
          · exact HF.out.more (by decide) h2
        case measure =>
          have e1 := HP2.out
          have e2 := HP3.out
          rw [e1, e2]
          omega
    · obtain rfl : k = n := by omega
      have hnx := fun ty => Lib.run_next_end_at (P := Tryd.prog) wr W.heap.size S k ty hI (by omega)
      have hv : cutV l = .tuple #[.string ⟨#[]⟩, .string ⟨#[]⟩, .bool false] := by
        have hi := free_none (by rw [← HNL.out]; exact HF.out)
        unfold cutV
        rw [hi, if_neg (Nat.lt_irrefl _)]
      have HV := Lib.hid hv
      clear hI hv
      go_wp2
      go_ret3
      exact ⟨congrArg Ending.returned HV.out.symm, HB.out⟩
/-- What value hands back: a number, and whether it is one. -/
def valP (k : Nat) (v : List UInt8) : Int × Bool := if k = 3 then (((if modeAt v < 7 then modeAt v else 0 : Nat) : Int), decide (modeAt v < 7)) else (numV (numO v), (numO v).isSome)
theorem valP_no {k : Nat} {v : List UInt8} (h : valR k v < 0) : (valP k v).2 = false := by
  unfold valR at h
  unfold valP
  split at h
  · rename_i e
    rw [if_pos e]
    unfold modeR at h
    split at h
    · omega
    · rename_i h7
      exact decide_eq_false h7
  · rename_i e
    rw [if_neg e]
    cases hn : numO v with
    | none => rfl
    | some n => rw [hn] at h; unfold numR at h; simp only at h; omega
theorem valP_yes {k : Nat} {v : List UInt8} (h : ¬ valR k v < 0) : valP k v = (valR k v, true) := by
  unfold valR at h ⊢
  unfold valP
  split at h
  · rename_i e
    rw [if_pos e, if_pos e]
    unfold modeR at h ⊢
    split at h
    · rename_i h7
      rw [if_pos h7, if_pos h7, decide_eq_true h7]
    · omega
  · rename_i e
    rw [if_neg e, if_neg e]
    cases hn : numO v with
    | none => rw [hn] at h; exact absurd (by decide) h
    | some n => rfl
set_option maxRecDepth 100000 in
set_option maxHeartbeats 1000000 in
theorem optValue_any {k : Nat} (hk : k < 4) (v : List UInt8) (W : World) : Calls Tryd.prog 27 #[.string (strA (keyN k)), .string (strA v)] W fun e w' => e = .returned (.tuple #[.int .i64 (valP k v).1, .bool (valP k v).2]) ∧ Below W.heap.size W w' := by
  have CN := Lib.hid (optNumber_any v)
  have CF := Lib.hid (fun w => mdsFind_any (nameAt_mode v) w)
  obtain ⟨K, hK⟩ : ∃ K, K = strA (keyN k) := ⟨_, rfl⟩
  by_cases h3 : k = 3
  · have hkl : (K.toList == [109, 111, 100, 101]) = true := by rw [hK, h3, strA_list]; decide
    have hv : valP k v = (((if modeAt v < 7 then modeAt v else 0 : Nat) : Int), decide (modeAt v < 7)) := by unfold valP; rw [if_pos h3]
    rw [← hK, hv]
    obtain ⟨a, ha⟩ : ∃ a : Int, a = ((if modeAt v < 7 then modeAt v else 0 : Nat) : Int) := ⟨_, rfl⟩
    obtain ⟨d, hd⟩ : ∃ d : Bool, d = decide (modeAt v < 7) := ⟨_, rfl⟩
    rw [← ha, ← hd] at CF ⊢
    clear h3 hv hK ha hd
    go_enter Tryd.func27, Tryd.ntmps27
    go_wp2_with fail
    refine (CF.out _).mono ?_
    rintro e w1 ⟨rfl, hb⟩
    have HB := Lib.hid hb
    clear hb
    go_wp2
    go_ret2
    exact ⟨rfl, HB.out⟩
  · have hkl : (K.toList == [109, 111, 100, 101]) = false := by
      rw [hK, strA_list]
      rcases (show k = 0 ∨ k = 1 ∨ k = 2 by omega) with rfl | rfl | rfl <;> decide
    have hv : valP k v = (numV (numO v), (numO v).isSome) := by unfold valP; rw [if_neg h3]
    rw [← hK, hv]
    clear h3 hv hK
    go_enter Tryd.func27, Tryd.ntmps27
    go_wp2_with fail
    refine (CN.out _).mono ?_
    rintro e w1 ⟨rfl, hb⟩
    have HB := Lib.hid hb
    clear hb
    go_wp2
    go_ret2
    exact ⟨rfl, HB.out⟩
end Go.Proofs.YtnfkekaeppgaoaaDoor
