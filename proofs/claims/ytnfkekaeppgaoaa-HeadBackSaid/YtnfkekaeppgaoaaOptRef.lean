/- Layer 28: the reference: May, First, Digits, Number, Cut, Text, Read. -/
import Derived.Test.YtnfkekaeppgaoaaStrB
import Derived.Test.YtnfkekaeppgaoaaNamesR
import Derived.Test.YtnfkekaeppgaoaaWordFn
import Derived.Test.YtnfkekaeppgaoaaInts
namespace Go.Proofs.Ytnfkekaeppgaoaa
open Go.RowKit Go.Sort

/-- Options, as a value. -/
def optV (b w r m : Int) : Value := .agg #[.int .i64 b, .int .i64 w, .int .i64 r, .int .i64 m]
def mayO (b w r m : Int) : Bool := decide (1 ≤ b) && decide (b ≤ 16777216) && rightB w && decide (0 ≤ r) && decide (r ≤ 10) && decide (0 ≤ m) && decide (m ≤ 6)
theorem ret_b {a b : Bool} (h : a = b) : Ending.returned (.bool a) = .returned (.bool b) := by rw [h]
set_option maxRecDepth 100000 in
set_option maxHeartbeats 2000000 in
theorem refMay_any (b w r m : Int) (W : World) : Calls Try.prog 11 #[optV b w r m] W fun e w' => e = .returned (.bool (mayO b w r m)) ∧ Below W.heap.size W w' := by
  unfold optV mayO
  cases hR : rightB w with
  | false =>
    have CR := Lib.hid (refRight_any w false hR.symm)
    clear hR
    go_enter Try.func11, Try.ntmps11
    go_wp2_with (go_at_call 25; go_must (refine (CR.out _).mono ?_; rintro e w' ⟨rfl, hw⟩; subst hw))
    all_goals
      go_ret
      exact ⟨ret_b (by simp), (Below.refl _ _).alloc (Nat.le_refl _) _⟩
  | true =>
    have CR := Lib.hid (refRight_any w true hR.symm)
    clear hR
    go_enter Try.func11, Try.ntmps11
    go_wp2_with (go_at_call 25; go_must (refine (CR.out _).mono ?_; rintro e w' ⟨rfl, hw⟩; subst hw))
    all_goals
      go_ret
      refine ⟨ret_b ?_, (Below.refl _ _).alloc (Nat.le_refl _) _⟩
      first
        | (simp; done)
        | (simp; omega)
        | (simp; intros; omega)
theorem size_opt : (Try.prog.info? 24).map (·.size) = some 4 := by kernel_rfl
set_option maxRecDepth 100000 in
theorem refFirst_any (W : World) : Calls Try.prog 19 #[] W fun e w' => e = .returned (optV 65536 1 0 6) ∧ Below W.heap.size W w' := by
  go_enter Try.func19, Try.ntmps19
  go_wp2
  exact bodyPost_ret (v := optV 65536 1 0 6) (results_cell_row Try.results19 _ _ W.heap.size 24 _ (0, 0) _ rfl (heap_alloc_new W _) Try.underlying24 rfl size_opt) rfl ⟨rfl, (Below.refl _ _).alloc (Nat.le_refl _) _⟩
/-- A number's decimal digits. -/
def digL (n : Nat) : List UInt8 := if h : n ≤ 9 then [UInt8.ofNat (48 + n)] else digL (n / 10) ++ [UInt8.ofNat (48 + n % 10)]
termination_by n
decreasing_by omega
theorem digL_one {n : Nat} (h : n ≤ 9) : digL n = [UInt8.ofNat (48 + n)] := by rw [digL, dif_pos h]
theorem digL_more {n : Nat} (h : ¬ n ≤ 9) : digL n = digL (n / 10) ++ [UInt8.ofNat (48 + n % 10)] := by rw [digL, dif_neg h]
/-- Digits, taken on from a number; none, if one of them is none. -/
def numF (n : Nat) : List UInt8 → Option Nat
  | [] => some n
  | c :: t => if c.toNat < 48 ∨ 57 < c.toNat then none else numF (10 * n + c.toNat - 48) t
/-- The number that up to nine digits are. -/
def numO (l : List UInt8) : Option Nat := if l = [] ∨ 9 < l.length ∨ (1 < l.length ∧ l.head? = some 48) then none else numF 0 l
def numR : Option Nat → Int
  | some n => (n : Int)
  | none => -1
/-- What holds at the head of a round of Number. -/
def NumRel (L : List UInt8) (n : Nat) (nv iv : Value) (wr W : World) : Prop :=
  ∃ k v : Nat, k ≤ n ∧ iv = .int .i64 (k : Int) ∧ nv = .int .i64 (v : Int) ∧ numF 0 L = numF v (L.drop k) ∧ v < 10 ^ k ∧ wr = W
theorem numO_none {l : List UInt8} (h : l = [] ∨ 9 < l.length ∨ (1 < l.length ∧ l.head? = some 48)) : numR (numO l) = -1 := by unfold numO; rw [if_pos h]; rfl
set_option maxRecDepth 100000 in
set_option maxHeartbeats 2000000 in
theorem refNumber_any (l : List UInt8) (W : World) : Calls Try.prog 22 #[.string (strA l), .int .i64 9] W fun e w' => e = .returned (.int .i64 (numR (numO l))) ∧ w' = W := by
  have hsz : (strA l).size = l.length := strA_size l
  have hem := strA_empty l
  cases l with
  | nil =>
    rw [numO_none (.inl rfl)]
    go_enter Try.func22, Try.ntmps22
    go_wp2
    go_ret
    exact ⟨rfl, rfl⟩
  | cons a t =>
    obtain ⟨S, hS⟩ : ∃ S, S = strA (a :: t) := ⟨_, rfl⟩
    rw [← hS] at hsz hem ⊢
    by_cases h9 : 9 < (a :: t).length
    · rw [numO_none (.inr (.inl h9))]
      have h9i : (9 : Int) < ((a :: t).length : Int) := by omega
      obtain ⟨n, hn⟩ : ∃ n, n = (a :: t).length := ⟨_, rfl⟩
      rw [← hn] at hsz h9i
      rw [List.isEmpty_cons] at hem
      have h0 : 0 < n := by omega
      clear h9 hn hS
      go_enter Try.func22, Try.ntmps22
      go_wp2
      go_ret
      exact ⟨rfl, rfl⟩
    · have hpos : 0 < S.size := by rw [hsz]; simp
      have hg : ((S[0]'hpos).toNat : Int) = (a.toNat : Int) := by
        subst hS
        rw [strA_get]; rfl
      rw [List.isEmpty_cons] at hem
      by_cases h48 : 1 < (a :: t).length ∧ a = 48
      · rw [numO_none (.inr (.inr ⟨h48.1, by rw [h48.2]; rfl⟩))]
        have ha : ((a.toNat : Int) == 48) = true := by rw [h48.2]; rfl
        have h9i : ¬ (9 : Int) < ((a :: t).length : Int) := by omega
        have h1i : (1 : Int) < ((a :: t).length : Int) := by omega
        obtain ⟨n, hn⟩ : ∃ n, n = (a :: t).length := ⟨_, rfl⟩
        rw [← hn] at hsz h9i h1i
        clear h9 h48 hn hS
        go_enter Try.func22, Try.ntmps22
        go_wp2
        go_ret
        exact ⟨rfl, rfl⟩
      · have hno : numO (a :: t) = numF 0 (a :: t) := by
          unfold numO
          rw [if_neg]
          rintro (h | h | ⟨h, h'⟩)
          · cases h
          · exact h9 h
          · exact h48 ⟨h, by simpa using h'⟩
        rw [hno]
        have h9i : ¬ (9 : Int) < ((a :: t).length : Int) := by omega
        have hgt : ∀ k (h : k < S.size), ((S[k]'h).toNat : Int) = (((a :: t).getD k 0).toNat : Int) := fun k h => by
          have h2 : k < (a :: t).length := by rw [← hsz]; exact h
          subst hS
          rw [strA_get, List.getD_eq_getElem?_getD, List.getElem?_eq_getElem h2]; rfl
        have h48i : 1 < (a :: t).length → ((a.toNat : Int) == 48) = false := fun h1 => by
          rw [beq_eq_false_iff_ne]
          intro h
          refine h48 ⟨h1, UInt8.toNat.inj ?_⟩
          show a.toNat = 48
          omega
        obtain ⟨L, hL⟩ : ∃ L, L = a :: t := ⟨_, rfl⟩
        rw [← hL] at hsz hgt h9i h48i h9 ⊢
        obtain ⟨n, hn⟩ : ∃ n, n = L.length := ⟨_, rfl⟩
        rw [← hn] at hsz h9i h48i h9
        have HGT := Lib.hid hgt
        have HNL := Lib.hid hn
        have HN9 := Lib.hid h9
        have hn1 : 0 < n := by rw [hn, hL]; simp
        clear hgt hno h48 hS hL hn h9
        by_cases h1 : 1 < n
        · have h1i : (1 : Int) < (n : Int) := by omega
          have ha := h48i h1
          clear h48i h1
          go_enter Try.func22, Try.ntmps22
          go_wp2
          go_loopw [5, 6] (fun nv iv wr => NumRel L n nv iv wr W) (fun _ iv _ => n - (intOf iv).toNat)
          case atStart => exact ⟨0, 0, Nat.zero_le _, rfl, rfl, rfl, by decide, rfl⟩
          case round =>
            obtain ⟨k, v, hk, rfl, rfl, hf, hv, rfl⟩ := hrel
            have HF := Lib.hid hf
            have HV := Lib.hid hv
            clear hf hv
            by_cases hlt : k < n
            · have hks : k < S.size := by rw [hsz]; exact hlt
              have hgk := HGT.out k hks
              have hki : (k : Int) < (n : Int) := by omega
              obtain ⟨x, hx⟩ : ∃ x, x = (L.getD k 0).toNat := ⟨_, rfl⟩
              rw [← hx] at hgk
              have HX := Lib.hid hx
              clear hx
              have hkl : k < L.length := by rw [← HNL.out]; exact hlt
              have hdrop : L.drop k = L.getD k 0 :: L.drop (k + 1) := by
                rw [List.drop_eq_getElem_cons hkl, List.getD_eq_getElem?_getD, List.getElem?_eq_getElem hkl]; rfl
              have hp8 : v < 100000000 := by
                have h1 := HV.out
                have h2 : 10 ^ k ≤ 10 ^ 8 := Nat.pow_le_pow_right (by decide) (by have := HN9.out; omega)
                exact Nat.lt_of_lt_of_le h1 h2
              have HP8 := Lib.hid hp8
              have hx256 : x < 256 := by rw [HX.out]; exact (L.getD k 0).toNat_lt
              have HD := Lib.hid hdrop
              clear hdrop hkl
              by_cases hbad : x < 48 ∨ 57 < x
              · have hnone : numF v (L.drop k) = none := by rw [HD.out, numF, if_pos (by rw [← HX.out]; exact hbad)]
                have HNO := Lib.hid hnone
                clear hnone
                by_cases hb1 : x < 48
                · have hb1i : (x : Int) < 48 := by omega
                  clear hb1 hbad hp8
                  go_wp2
                  go_ret
                  exact ⟨by rw [HF.out, HNO.out]; rfl, rfl⟩
                · have hb1i : ¬ (x : Int) < 48 := by omega
                  have hb2i : (57 : Int) < (x : Int) := by omega
                  clear hb1 hbad hp8
                  go_wp2
                  go_ret
                  exact ⟨by rw [HF.out, HNO.out]; rfl, rfl⟩
              · have hb1i : ¬ (x : Int) < 48 := by omega
                have hb2i : ¬ (57 : Int) < (x : Int) := by omega
                have HNB := Lib.hid hbad
                have hv10 : (v : Int) < 100000000 := by omega
                clear hbad hp8
                go_wp2
                go_roundw
                case rel =>
                  refine ⟨k + 1, 10 * v + x - 48, by omega, by go_num, ?_, ?_, ?_, rfl⟩
                  · have := HNB.out
                    congr 1
                    omega
                  · rw [HF.out, HD.out, numF, if_neg (by rw [← HX.out]; exact HNB.out), HX.out]
                  · have h1 := HV.out
                    have := HNB.out
                    rw [Nat.pow_succ]
                    omega
                case measure => simp [intOf]; omega
            · obtain rfl : k = n := by omega
              go_wp2
              go_ret
              refine ⟨?_, rfl⟩
              rw [HF.out, HNL.out, List.drop_length]
              rfl
        · have h1i : ¬ (1 : Int) < (n : Int) := by omega
          clear h48i h1
          go_enter Try.func22, Try.ntmps22
          go_wp2
          go_loopw [5, 6] (fun nv iv wr => NumRel L n nv iv wr W) (fun _ iv _ => n - (intOf iv).toNat)
          case atStart => exact ⟨0, 0, Nat.zero_le _, rfl, rfl, rfl, by decide, rfl⟩
          case round =>
            obtain ⟨k, v, hk, rfl, rfl, hf, hv, rfl⟩ := hrel
            have HF := Lib.hid hf
            have HV := Lib.hid hv
            clear hf hv
            by_cases hlt : k < n
            · have hks : k < S.size := by rw [hsz]; exact hlt
              have hgk := HGT.out k hks
              have hki : (k : Int) < (n : Int) := by omega
              obtain ⟨x, hx⟩ : ∃ x, x = (L.getD k 0).toNat := ⟨_, rfl⟩
              rw [← hx] at hgk
              have HX := Lib.hid hx
              clear hx
              have hkl : k < L.length := by rw [← HNL.out]; exact hlt
              have hdrop : L.drop k = L.getD k 0 :: L.drop (k + 1) := by
                rw [List.drop_eq_getElem_cons hkl, List.getD_eq_getElem?_getD, List.getElem?_eq_getElem hkl]; rfl
              have hp8 : v < 100000000 := by
                have h1 := HV.out
                have h2 : 10 ^ k ≤ 10 ^ 8 := Nat.pow_le_pow_right (by decide) (by have := HN9.out; omega)
                exact Nat.lt_of_lt_of_le h1 h2
              have HP8 := Lib.hid hp8
              have hx256 : x < 256 := by rw [HX.out]; exact (L.getD k 0).toNat_lt
              have HD := Lib.hid hdrop
              clear hdrop hkl
              by_cases hbad : x < 48 ∨ 57 < x
              · have hnone : numF v (L.drop k) = none := by rw [HD.out, numF, if_pos (by rw [← HX.out]; exact hbad)]
                have HNO := Lib.hid hnone
                clear hnone
                by_cases hb1 : x < 48
                · have hb1i : (x : Int) < 48 := by omega
                  clear hb1 hbad hp8
                  go_wp2
                  go_ret
                  exact ⟨by rw [HF.out, HNO.out]; rfl, rfl⟩
                · have hb1i : ¬ (x : Int) < 48 := by omega
                  have hb2i : (57 : Int) < (x : Int) := by omega
                  clear hb1 hbad hp8
                  go_wp2
                  go_ret
                  exact ⟨by rw [HF.out, HNO.out]; rfl, rfl⟩
              · have hb1i : ¬ (x : Int) < 48 := by omega
                have hb2i : ¬ (57 : Int) < (x : Int) := by omega
                have HNB := Lib.hid hbad
                have hv10 : (v : Int) < 100000000 := by omega
                clear hbad hp8
                go_wp2
                go_roundw
                case rel =>
                  refine ⟨k + 1, 10 * v + x - 48, by omega, by go_num, ?_, ?_, ?_, rfl⟩
                  · have := HNB.out
                    congr 1
                    omega
                  · rw [HF.out, HD.out, numF, if_neg (by rw [← HX.out]; exact HNB.out), HX.out]
                  · have h1 := HV.out
                    have := HNB.out
                    rw [Nat.pow_succ]
                    omega
                case measure => simp [intOf]; omega
            · obtain rfl : k = n := by omega
              go_wp2
              go_ret
              refine ⟨?_, rfl⟩
              rw [HF.out, HNL.out, List.drop_length]
              rfl
/-- The mode of a name; -1: none. -/
def modeR (p : Nat) : Int := if p < 7 then (p : Int) else -1
theorem modeR_in {p : Nat} (h : p < 7) : modeR p = (p : Int) := if_pos h
theorem modeR_out : modeR 7 = -1 := rfl
set_option maxRecDepth 100000 in
set_option maxHeartbeats 2000000 in
theorem refMode_any {s : ByteArray} {p : Nat} (hp : NameAt s p) (W : World) : Calls Try.prog 21 #[.string s] W fun e w' => e = .returned (.int .i64 (modeR p)) ∧ Below W.heap.size W w' := by
  have CN := Lib.hid refNames_any
  unfold namesV at CN
  have HP := Lib.hid hp
  obtain ⟨z, hz⟩ : ∃ z, z = modeR p := ⟨_, rfl⟩
  rw [← hz]
  have HZ := Lib.hid hz
  clear hp hz
  go_enter Try.func21, Try.ntmps21
  go_wp2_with fail
  refine (CN.out _).mono ?_
  rintro e w1 ⟨rfl, hb⟩
  obtain ⟨hr2, hb2⟩ := names_row w1
  obtain ⟨w2, hw2⟩ : ∃ w2, w2 = w1.alloc (.cells #[.string (nmA 0), .string (nmA 1), .string (nmA 2), .string (nmA 3), .string (nmA 4), .string (nmA 5), .string (nmA 6)] 64) := ⟨_, rfl⟩
  rw [← hw2] at hr2 hb2
  obtain ⟨g, hg⟩ : ∃ g, g = w1.heap.size := ⟨_, rfl⟩
  rw [← hg] at hr2
  have HR := Lib.hid hr2
  have HB2 := Lib.hid (hb.trans (hb2.mono hb.size))
  have HW := Lib.hid (And.intro hw2 hg)
  clear hr2 hb2 hb hw2 hg
  go_wp2
  rw [← HW.out.1, ← HW.out.2]
  go_loopw [4] (fun iv wr => ∃ i : Nat, i ≤ 7 ∧ iv = .int .i64 (i : Int) ∧ i ≤ p ∧ wr = w2) (fun iv _ => 7 - (intOf iv).toNat)
  case atStart => exact ⟨0, by decide, rfl, Nat.zero_le _, rfl⟩
  case round =>
    obtain ⟨i, hi, rfl, hip, rfl⟩ := hrel
    have HI := Lib.hid hip
    clear hip
    by_cases hlt : i < 7
    · have hcell := HR.out.cell i
      rw [names_at hlt] at hcell
      have he := HP.out.2 i hlt
      obtain ⟨x, hx⟩ : ∃ x, x = nmA i := ⟨_, rfl⟩
      rw [← hx] at hcell he
      have hki : (i : Int) < 7 := by omega
      clear hx
      by_cases hpi : i = p
      · have hstr : (x.toList == s.toList) = true := by rw [he]; simp [hpi]
        have HPI := Lib.hid hpi
        have HLT := Lib.hid hlt
        clear he hpi hlt
        go_wp2
        go_ret
        refine ⟨?_, HB2.out⟩
        rw [HZ.out, modeR_in (by rw [← HPI.out]; exact HLT.out), ← HPI.out]
        rfl
      · have hstr : (x.toList == s.toList) = false := by rw [he]; simp [hpi]
        have HPI := Lib.hid hpi
        clear he hpi
        go_wp2
        go_roundw
        case rel => exact ⟨i + 1, by omega, by go_num, by have := HI.out; have := HPI.out; omega, trivial⟩
        case measure => simp [intOf]; omega
    · obtain rfl : i = 7 := by omega
      have hp7 : p = 7 := by have := HP.out.1; have := HI.out; omega
      have HP7 := Lib.hid hp7
      clear hp7
      go_wp2
      go_ret
      refine ⟨?_, HB2.out⟩
      rw [HZ.out, HP7.out]
      rfl
/-- Strings as cells. -/
def svsS (l : List (List UInt8)) : List Value := l.map fun x => .string (strA x)
theorem svsS_length (l : List (List UInt8)) : (svsS l).length = l.length := List.length_map ..
theorem svsS_app (a b : List (List UInt8)) : svsS (a ++ b) = svsS a ++ svsS b := List.map_append ..
/-- A text at each c, behind what stands since the last one. -/
def cutG (c : UInt8) (cur : List UInt8) : List UInt8 → List (List UInt8)
  | [] => [cur]
  | x :: t => if x = c then cur :: cutG c [] t else cutG c (cur ++ [x]) t
def cutL (c : UInt8) (l : List UInt8) : List (List UInt8) := cutG c [] l
/-- From f up to k. -/
def midL (l : List UInt8) (f k : Nat) : List UInt8 := (l.drop f).take (k - f)
theorem midL_same (l : List UInt8) (f : Nat) : midL l f f = [] := by simp [midL]
theorem midL_next {l : List UInt8} {f k : Nat} (h : f ≤ k) (hk : k < l.length) : midL l f (k + 1) = midL l f k ++ [l[k]] := by
  unfold midL
  have h1 : k - f < (l.drop f).length := by rw [List.length_drop]; omega
  rw [show k + 1 - f = (k - f) + 1 by omega, List.take_add_one, List.getElem?_eq_getElem h1, List.getElem_drop]
  simp [show f + (k - f) = k by omega]
/-- What holds at the head of a round of Cut. -/
def CutRel (l : List UInt8) (c : UInt8) (n : Nat) (W : World) (lv fv iv : Value) (wr : World) : Prop :=
  ∃ (k f : Nat) (D : List (List UInt8)), k ≤ n ∧ f ≤ k ∧ D.length ≤ k ∧ iv = .int .i64 (k : Int) ∧ fv = .int .i64 (f : Int) ∧ wr.ownsRow W.heap.size 9 1 lv D.length (svsS D) ∧ cutL c l = D ++ cutG c (midL l f k) (l.drop k) ∧ Below W.heap.size W wr
theorem info_strS : (Try.prog.info? 9).map (fun i => (i.zero, i.size, i.bytes)) = some (some (.string ⟨#[]⟩), 1, 16) := by kernel_rfl
set_option maxRecDepth 100000 in
set_option maxHeartbeats 2000000 in
theorem refCut_any (l : List UInt8) (c : UInt8) (hl : l.length ≤ 1000) (W : World) : Calls Try.prog 20 #[.string (strA l), .int .u8 (c.toNat : Int)] W fun e w' => ∃ v, e = .returned v ∧ w'.ownsRow W.heap.size 9 1 v (cutL c l).length (svsS (cutL c l)) ∧ Below W.heap.size W w' := by
  have hsz : (strA l).size = l.length := strA_size l
  obtain ⟨i0, hi0, hz0, hz1, hz2⟩ := info_parts info_strS
  go_enter Try.func20, Try.ntmps20
  go_wp2
  obtain ⟨n, hn⟩ : ∃ n, n = l.length := ⟨_, rfl⟩
  rw [← hn] at hsz hl
  go_loopw [5, 6, 7] (fun lv fv iv wr => CutRel l c n W lv fv iv wr) (fun _ _ iv _ => n - (intOf iv).toNat)
  case atStart => exact ⟨0, 0, [], Nat.zero_le _, Nat.le_refl _, Nat.le_refl _, rfl, rfl, World.ownsRow_nil _ _ _ _, rfl, Below.refl _ _⟩
  case round =>
    obtain ⟨k, f, D, hk, hfk, hD, rfl, rfl, hown, hc, hb⟩ := hrel
    have HO := Lib.hid hown
    have HC := Lib.hid hc
    have HB := Lib.hid hb
    have HN := Lib.hid hn
    clear hown hc hb
    by_cases hlt : k < n
    · have hkl : k < l.length := by omega
      have hks : k < (strA l).size := by rw [hsz]; exact hlt
      have hgk : (((strA l)[k]'hks).toNat : Int) = ((l[k]'hkl).toNat : Int) := by rw [strA_get]
      have hki : (k : Int) < (n : Int) := by omega
      have hcut : cutG c (midL l f k) (l.drop k) = if l[k]'hkl = c then midL l f k :: cutG c [] (l.drop (k + 1)) else cutG c (midL l f k ++ [l[k]'hkl]) (l.drop (k + 1)) := by
        rw [List.drop_eq_getElem_cons hkl, cutG]
      by_cases hx : l[k]'hkl = c
      · have hxi : (((l[k]'hkl).toNat : Int) == (c.toNat : Int)) = true := by rw [hx]; simp
        rw [if_pos hx] at hcut
        have HCU := Lib.hid hcut
        have hfi : (f : Int) ≤ (k : Int) := by omega
        clear hn hcut hx
        go_wp2_with ((with_reducible show wpList _ _ _ (({ dst := some 25, op := _, type := _, pos := _, after := _, guard := _ } : Oper) :: _) _ _); go_must (refine wpList_app rfl (.tmp 19) (.tmp 24) 44 rfl W.heap.size 9 i0 (.string ⟨#[]⟩) 1 16 Try.underlying44 hi0 hz0 hz1 hz2 rfl (by decide) _ _ _ rfl (HO.out.alloc _) _ _ 1 1 _ rfl (Rd.new _ _ _) rfl (by intro u hu; simp at hu; subst hu; rfl) (by simp only [maxLen]; omega) (by omega) (by have := HB.out.size; simp; omega) ?_; intro v6 w6 hown6 hg6; have hb6 : Below W.heap.size W w6 := (HB.out.alloc HB.out.size _).grown hg6 (by have := HB.out.size; simp; omega) (own_block HO.out); clear hg6))
        go_roundw
        case rel =>
          rw [strA_extract] at hown6
          refine ⟨k + 1, k + 1, D ++ [midL l f k], by omega, Nat.le_refl _, by simp; omega, by go_num, by go_num, ?_, ?_, hb6⟩
          · rw [svsS_app, List.length_append, List.length_singleton]; exact hown6
          · rw [HC.out, HCU.out, midL_same, List.append_assoc]; rfl
        case measure => simp [intOf]; omega
      · have hxi : (((l[k]'hkl).toNat : Int) == (c.toNat : Int)) = false := by
          rw [beq_eq_false_iff_ne]
          intro h
          exact hx (UInt8.toNat.inj (by omega))
        rw [if_neg hx] at hcut
        have HCU := Lib.hid hcut
        clear hcut hx
        go_wp2
        go_roundw
        case rel => exact ⟨k + 1, f, D, by omega, by omega, by omega, by go_num, rfl, HO.out, by rw [HC.out, HCU.out, ← midL_next hfk hkl], HB.out⟩
        case measure => simp [intOf]; omega
    · obtain rfl : k = n := by omega
      have hfi : (f : Int) ≤ (k : Int) := by omega
      clear hn
      go_wp2_with ((with_reducible show wpList _ _ _ (({ dst := some 33, op := _, type := _, pos := _, after := _, guard := _ } : Oper) :: _) _ _); go_must (refine wpList_app rfl (.tmp 28) (.tmp 32) 44 rfl W.heap.size 9 i0 (.string ⟨#[]⟩) 1 16 Try.underlying44 hi0 hz0 hz1 hz2 rfl (by decide) _ _ _ rfl (HO.out.alloc _) _ _ 1 1 _ rfl (Rd.new _ _ _) rfl (by intro u hu; simp at hu; subst hu; rfl) (by simp only [maxLen]; omega) (by omega) (by have := HB.out.size; simp; omega) ?_; intro v6 w6 hown6 hg6; have hb6 : Below W.heap.size W w6 := (HB.out.alloc HB.out.size _).grown hg6 (by have := HB.out.size; simp; omega) (own_block HO.out); clear hg6))
      go_ret
      rw [strA_extract] at hown6
      refine ⟨_, rfl, ?_, hb6⟩
      have e1 : cutL c l = D ++ [midL l f k] := by rw [HC.out, HN.out, List.drop_length]; rfl
      rw [e1, svsS_app, List.length_append, List.length_singleton]
      exact hown6
theorem digL_len : ∀ n : Nat, (digL n).length ≤ n + 1
  | n => by
    by_cases h : n ≤ 9
    · rw [digL_one h]; simp
    · have := digL_len (n / 10)
      rw [digL_more h, List.length_append, List.length_singleton]
      omega
/-- A mode's name, as bytes. -/
def nmL (m : Nat) : List UInt8 := (nmA m).data.toList
theorem nmL_A (m : Nat) : strA (nmL m) = nmA m := by simp [strA, nmL]
theorem nmL_len {m : Nat} (h : m ≤ 6) : (nmL m).length ≤ 6 := by
  rcases (show m = 0 ∨ m = 1 ∨ m = 2 ∨ m = 3 ∨ m = 4 ∨ m = 5 ∨ m = 6 by omega) with rfl | rfl | rfl | rfl | rfl | rfl | rfl <;> decide
def kB : List UInt8 := [98, 108, 111, 99, 107, 61]
def kW : List UInt8 := [32, 119, 105, 100, 116, 104, 61]
def kR : List UInt8 := [32, 114, 101, 99, 105, 112, 101, 61]
def kM : List UInt8 := [32, 109, 111, 100, 101, 61]
/-- The text of options that may be. -/
def textL (b u r m : Nat) : List UInt8 := kB ++ digL b ++ kW ++ digL u ++ kR ++ digL r ++ kM ++ nmL m
theorem mayO_nat {b u r m : Int} (h : mayO b u r m = true) : ∃ b' u' r' m' : Nat, b = (b' : Int) ∧ u = (u' : Int) ∧ r = (r' : Int) ∧ m = (m' : Int) ∧ 1 ≤ b' ∧ b' ≤ 16777216 ∧ IsW u' ∧ r' ≤ 10 ∧ m' ≤ 6 := by
  unfold mayO at h
  simp only [Bool.and_eq_true, decide_eq_true_eq] at h
  obtain ⟨⟨⟨⟨⟨⟨h1, h2⟩, h3⟩, h4⟩, h5⟩, h6⟩, h7⟩ := h
  obtain ⟨V, rfl, hV⟩ := isW_of h3
  exact ⟨b.toNat, V, r.toNat, m.toNat, by omega, rfl, by omega, by omega, by omega, by omega, hV, by omega, by omega⟩
theorem strA_lit (l : List UInt8) : strA l = ⟨l.toArray⟩ := rfl
end Go.Proofs.Ytnfkekaeppgaoaa
