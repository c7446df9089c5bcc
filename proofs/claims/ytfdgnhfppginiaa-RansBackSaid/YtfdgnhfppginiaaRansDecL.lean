/- Layer 18: the program's decoder: letters. -/
import Derived.Test.YtfdgnhfppginiaaRansDecO
namespace Go.Proofs.Ytfdgnhfppginiaa
open Go.RowKit Go.Sort

theorem lets_range {r : List Int} (hy : ∀ x, x < 2147483648 → outY r x < 2147483648) : ∀ (n x : Nat) (S : List UInt8) (q : List UInt8 × Nat × List UInt8), x < 2147483648 → lets r n x S = some q → q.1.length = n
  | 0, x, S, q, _, h => by
    simp only [lets, Option.some.injEq] at h
    subst h; rfl
  | n + 1, x, S, q, hx, h => by
    simp only [lets, Option.bind_eq_some_iff, Option.map_eq_some_iff] at h
    obtain ⟨p, h1, q2, h2, rfl⟩ := h
    have := lets_range hy n p.1 p.2 q2 ((fill_range _ _ _ _ h1).2 (hy x hx)) h2
    simp [this]
/-- What letters tells, of a decoder. -/
def tellD (r : List Int) (n x : Nat) (S : List UInt8) (sh : Bool) : Option (List UInt8) :=
  if sh = true ∨ x < 8388608 ∨ 2147483648 ≤ x then none else (lets r n x S).bind fun q => if q.2.1 = 8388608 ∧ q.2.2 = [] then some q.1 else none
theorem tellD_is (r : List Int) (n : Nat) (S : List UInt8) : tellD r n (tks 4 0 S) (S.drop 4) (decide (S.length < 4)) = tellF r n S := by
  unfold tellD tellF
  by_cases h : S.length < 4
  · rw [if_pos (.inl (by simpa using h)), if_pos (.inl h)]
  · rw [tks_be4 (by omega)]
    have e : (decide (S.length < 4) = true ∨ be4V S < 8388608 ∨ 2147483648 ≤ be4V S) ↔ (S.length < 4 ∨ be4V S < 8388608 ∨ 2147483648 ≤ be4V S) := by simp
    simp only [e]
/-- What letters answers: the bytes and true, or false. -/
def LetSays (w : World) (D : Nat) (R : Option (List UInt8)) (e : Ending) (w' : World) : Prop :=
  TurnsB D D w w' ∧ match R with
    | some X => ∃ v, e = .returned (.tuple #[v, .bool true]) ∧ IsBytes X v w'
    | none => ∃ v, e = .returned (.tuple #[v, .bool false])
theorem DecS.belowB {w w' : World} {D K x B : Nat} {S : List UInt8} {sh : Bool} (h : DecS w D K x S sh) (hb : Below B w w') (hD : D < B) : DecS w' D K x S sh := by
  obtain ⟨A, n, m, h1, h2, h3, h4, h5, h6⟩ := h
  exact ⟨A, n, m, (hb.block _ hD).trans h1, h2.below (hb.mono (by omega)), h3, h4, h5, h6⟩
/-- What holds at the head of a round of letters. -/
def LeRel (w : World) (D K n : Nat) (r : List Int) (R : Option (List UInt8 × Nat × List UInt8)) (bv iv : Value) (wr : World) : Prop :=
  ∃ (j x1 : Nat) (S1 X : List UInt8), j ≤ n ∧ iv = .int .i64 (j : Int) ∧ X.length = j ∧ (lets r (n - j) x1 S1).map (fun q => (X ++ q.1, q.2)) = R ∧ 8388608 ≤ x1 ∧ x1 < 2147483648 ∧ DecS wr D K x1 S1 false ∧ wr.ownsRow w.heap.size 5 1 bv j (bvs X) ∧ TurnsB D D w wr
set_option maxHeartbeats 4000000 in
set_option maxRecDepth 100000 in
theorem ransLetters_any {w : World} {D K x n P : Nat} {S : List UInt8} {sh : Bool} {r : List Int} (h : DecS w D K x S sh) (hs : IsSlots w P r 12 4096) (hl : r.length = 256) (hn : n ≤ 100000) :
    Calls Try.prog 34 #[.pointer (some ⟨D, 0, none⟩), .pointer (some ⟨P, 0, none⟩), .int .i64 (n : Int)] w (LetSays w D (tellD r n x S sh)) := by
  obtain ⟨i0, hi0, hz0, hz1, hz2⟩ := info_parts info_u8r
  have hDs := h.lt
  obtain ⟨A, n0, m0, hb, -⟩ := id h
  have hc0 := hb.cell 0
  have hc2 := hb.cell 2
  simp only [List.getElem?_cons_zero, List.getElem?_cons_succ] at hc0 hc2
  by_cases hbad : sh = true ∨ x < 8388608 ∨ 2147483648 ≤ x
  · have ht : tellD r n x S sh = none := by unfold tellD; rw [if_pos hbad]
    rw [ht]
    have HT := Lib.hid (show LetSays w D none (.returned (.tuple #[.slice none 0 0, .bool false])) w from ⟨TurnsB.refl _ _ _, _, rfl⟩)
    clear h hs hb ht
    cases sh with
    | true =>
      clear hbad hc0
      go_enter Try.func34, Try.ntmps34
      go_wp2
      go_ret2
      exact HT.out
    | false =>
      by_cases h1 : x < 8388608
      · have h1i : (x : Int) < 8388608 := by omega
        clear hbad
        go_enter Try.func34, Try.ntmps34
        go_wp2
        go_ret2
        exact HT.out
      · have h1i : ¬ (x : Int) < 8388608 := by omega
        have h2i : (2147483648 : Int) ≤ (x : Int) := by
          rcases hbad with h | h | h
          · cases h
          · exact absurd h h1
          · omega
        clear hbad h1
        go_enter Try.func34, Try.ntmps34
        go_wp2
        go_ret2
        exact HT.out
  · obtain ⟨rfl, h1, h2⟩ : sh = false ∧ 8388608 ≤ x ∧ x < 2147483648 := by
      refine ⟨?_, by omega, by omega⟩
      cases sh with
      | true => exact absurd (.inl rfl) hbad
      | false => rfl
    have h1i : ¬ (x : Int) < 8388608 := by omega
    have h2i : ¬ (2147483648 : Int) ≤ (x : Int) := by omega
    have ht : tellD r n x S false = (lets r n x S).bind fun q => if q.2.1 = 8388608 ∧ q.2.2 = [] then some q.1 else none := by unfold tellD; rw [if_neg hbad]
    obtain ⟨R, hR⟩ : ∃ R, R = lets r n x S := ⟨_, rfl⟩
    rw [← hR] at ht
    rw [ht]
    have HL := Lib.hid hl
    have HREL := Lib.hid (show LeRel w D K n r R (.slice none 0 0) (.int .i64 ((0 : Nat) : Int)) w from ⟨0, x, S, [], Nat.zero_le _, rfl, rfl, by rw [hR, Nat.sub_zero]; simp, h1, h2, h, World.ownsRow_nil _ _ _ _, TurnsB.refl _ _ _⟩)
    have HS := Lib.hid (And.intro hs h)
    clear h hs hb ht hR hbad h1 h2 hl
    go_enter Try.func34, Try.ntmps34
    go_wp2
    clear hc0 hc2
    go_loopw [8, 28] (LeRel w D K n r R) (fun _ i _ => n - (intOf i).toNat)
    case atStart => exact HREL.out
    case round =>
      clear HREL
      obtain ⟨j, x1, S1, X, hj, rfl, hX, hlets, hx1, hx2, hd, hown, htb⟩ := hrel
      have hsl := HS.out.1.turn HS.out.2 htb
      obtain ⟨Ab, cb, rfl, -, -, -⟩ := own_form hown
      have hDw := hd.lt
      by_cases hlt : j < n
      · obtain ⟨t, htt⟩ : ∃ t, n - j = t + 1 := ⟨n - j - 1, by omega⟩
        have htn : n - (j + 1) = t := by omega
        rw [htt] at hlets
        have C := Lib.hid (ransOut_any hd hx2 hsl HL.out)
        obtain ⟨-, lk, -⟩ := letOf_is hsl x1
        simp only [lets] at hlets
        have hk256 : letOf r x1 < 256 := by rw [HL.out] at lk; exact lk
        obtain ⟨F, hF⟩ : ∃ F, F = fill (outY r x1) S1 := ⟨_, rfl⟩
        rw [← hF] at hlets C
        obtain ⟨k, hk⟩ : ∃ k, k = letOf r x1 := ⟨_, rfl⟩
        rw [← hk] at C hk256 hlets
        have hji : (j : Int) < (n : Int) := by omega
        have HF := Lib.hid hF
        have HLE := Lib.hid hlets
        have HSL := Lib.hid hsl
        have HD := Lib.hid hd
        have HOWN := Lib.hid hown
        have HTB := Lib.hid htb
        have HJ := Lib.hid (And.intro hX (And.intro htn hlt))
        clear lk hF hk hlets hsl hd hown htb hX htt htn
        go_wp2_with fail
        refine C.out.mono ?_
        rintro _ w5 ⟨rfl, hod, ht5, hY⟩
        have HOWN5 := Lib.hid (own_turns (T := D) (S := D) HOWN.out ht5 hDs hDs)
        have HTB5 := Lib.hid (HTB.out.trans ht5)
        have hsz5 := HTB5.out.size
        have HY := Lib.hid hY
        have hjb : j ≤ 100000 := by omega
        clear ht5 hY C HOWN HTB HD HSL
        cases F with
        | none =>
          have hRn : R = none := by have := HLE.out; simp only [Option.bind_none, Option.map_none] at this; exact this.symm
          obtain ⟨x6, S6, hd6⟩ := hod
          have HD6 := Lib.hid hd6
          clear hd6
          go_wp2_with ((with_reducible show wpList _ _ _ (({ dst := some 35, op := _, type := _, pos := _, after := _, guard := _ } : Oper) :: _) _ _); go_must (refine wpList_app rfl (.tmp 30) (.tmp 34) 22 rfl w.heap.size 5 i0 (.int .u8 0) 1 1 Try.underlying22 hi0 hz0 hz1 hz2 rfl (by decide) _ _ _ rfl (HOWN5.out.alloc _) _ _ 1 1 _ rfl (Rd.new _ _ _) rfl (by intro u hu; simp at hu; subst hu; rfl) (by simp only [maxLen]; omega) (by omega) (by simp; omega) ?_; intro v6 w6 hown6 hg6; have hrow := own_block HOWN5.out; have ht6 := (HTB5.out.allocO (.cells #[.int .u8 (k : Int)] 5)).growO hg6 hrow; have hb6 : Below w.heap.size w5 w6 := ((Below.refl _ _).alloc hsz5 _).grown hg6 (by simp; omega) hrow; obtain ⟨A6, n6, m6, hbl6, -⟩ := HD6.out.belowB hb6 hDs; have hc6 := hbl6.cell 2; simp only [List.getElem?_cons_zero, List.getElem?_cons_succ] at hc6; have HT6 := Lib.hid ht6; have hD6s := hbl6.lt; clear hown6 hg6 hrow ht6 hb6 hbl6))
          go_wp2
          go_ret2
          refine ⟨HT6.out, ?_⟩
          rw [hRn]
          exact ⟨_, rfl⟩
        | some p =>
          obtain ⟨x2, S2⟩ := p
          have hR2 : (lets r (n - (j + 1)) x2 S2).map (fun q => ((X ++ [UInt8.ofNat k]) ++ q.1, q.2)) = R := by
            have := HLE.out
            simp only [Option.bind_some, Option.map_map] at this
            rw [HJ.out.2.1, ← this]
            congr 1
            funext q
            simp
          have hd5 : DecS w5 D K x2 S2 false := hod
          have hrg := fill_range _ _ _ _ HF.out.symm
          have HD6 := Lib.hid hd5
          have HR2 := Lib.hid (And.intro hR2 (And.intro hrg.1 (hrg.2 HY.out)))
          clear hd5 hR2 hrg hod
          go_wp2_with ((with_reducible show wpList _ _ _ (({ dst := some 35, op := _, type := _, pos := _, after := _, guard := _ } : Oper) :: _) _ _); go_must (refine wpList_app rfl (.tmp 30) (.tmp 34) 22 rfl w.heap.size 5 i0 (.int .u8 0) 1 1 Try.underlying22 hi0 hz0 hz1 hz2 rfl (by decide) _ _ _ rfl (HOWN5.out.alloc _) _ _ 1 1 _ rfl (Rd.new _ _ _) rfl (by intro u hu; simp at hu; subst hu; rfl) (by simp only [maxLen]; omega) (by omega) (by simp; omega) ?_; intro v6 w6 hown6 hg6; have hrow := own_block HOWN5.out; have ht6 := (HTB5.out.allocO (.cells #[.int .u8 (k : Int)] 5)).growO hg6 hrow; have hb6 : Below w.heap.size w5 w6 := ((Below.refl _ _).alloc hsz5 _).grown hg6 (by simp; omega) hrow; have hd7 := HD6.out.belowB hb6 hDs; obtain ⟨A6, n6, m6, hbl6, -⟩ := id hd7; have hc6 := hbl6.cell 2; simp only [List.getElem?_cons_zero, List.getElem?_cons_succ] at hc6; have HT6 := Lib.hid ht6; have HD7 := Lib.hid hd7; have HO6 := Lib.hid hown6; have hD6s := hbl6.lt; clear hown6 hg6 hrow ht6 hb6 hbl6 hd7))
          have hbv : bvs (X ++ [UInt8.ofNat k]) = bvs X ++ [.int .u8 (k : Int)] := by simp [bvs, UInt8.toNat_ofNat', Nat.mod_eq_of_lt hk256]
          go_wp2
          go_roundw
          case rel => exact ⟨j + 1, x2, S2, X ++ [UInt8.ofNat k], by have := HJ.out.2.2; omega, by go_num, by rw [List.length_append, List.length_singleton, HJ.out.1], HR2.out.1, HR2.out.2.1, HR2.out.2.2, HD7.out, by rw [hbv]; exact HO6.out, HT6.out⟩
          case measure => have := HJ.out.2.2; simp [intOf]; omega
      · obtain rfl : j = n := by omega
        rw [Nat.sub_self] at hlets
        simp only [lets, Option.map_some, List.append_nil] at hlets
        subst hlets
        obtain ⟨A3, n3, m3, hbl3, -, hn3, -⟩ := id hd
        have hc0 := hbl3.cell 0
        have hc1 := hbl3.cell 1
        simp only [List.getElem?_cons_zero, List.getElem?_cons_succ] at hc0 hc1
        have HO := Lib.hid hown
        have HT := Lib.hid htb
        have hlX := hX
        clear hd hown htb hbl3 hsl hlt
        by_cases hxe : x1 = 8388608
        · subst hxe
          cases S1 with
          | nil =>
            obtain rfl : n3 = 0 := by rw [← hn3]; rfl
            have HE := Lib.hid (fun (W : World) (hW : W.heap = wr.heap) (ht : TurnsB D D w W) => show LetSays w D ((some (X, 8388608, ([] : List UInt8))).bind fun q => if q.2.1 = 8388608 ∧ q.2.2 = [] then some q.1 else none) (.returned (.tuple #[.slice Ab j cb, .bool true])) W from ⟨ht, by
              simp only [Option.bind_some, and_self, if_true]
              refine ⟨_, rfl, ?_⟩
              have h2 : W.ownsRow w.heap.size 5 1 (.slice Ab X.length cb) X.length (bvs X) := by
                rw [hlX]
                refine ⟨HO.out.1, ?_⟩
                rw [hW]; exact HO.out.2
              have h3 := IsBytes.of_own h2
              rw [hlX] at h3
              exact h3⟩)
            clear hlX
            go_wp2
            go_quiet (fail)
            go_wp2
            go_ret2
            exact HE.out _ rfl ⟨HT.out.os, HT.out.tape, HT.out.output, HT.out.size, HT.out.block⟩
          | cons b T =>
            have hn0 : ¬ (n3 : Int) = 0 := by rw [← hn3, List.length_cons]; omega
            have hn0b : ((n3 : Int) == 0) = false := by rw [beq_eq_false_iff_ne]; exact hn0
            have hn0n : ¬ n3 = 0 := by omega
            have HE := Lib.hid (fun (W : World) (ht : TurnsB D D w W) => show LetSays w D ((some (X, 8388608, b :: T)).bind fun q => if q.2.1 = 8388608 ∧ q.2.2 = [] then some q.1 else none) (.returned (.tuple #[.slice Ab j cb, .bool false])) W from ⟨ht, by
              simp only [Option.bind_some]
              rw [if_neg (by simp)]
              exact ⟨_, rfl⟩⟩)
            clear hlX hn3
            go_wp2
            go_quiet (fail)
            go_wp2
            go_ret2
            exact HE.out _ ⟨HT.out.os, HT.out.tape, HT.out.output, HT.out.size, HT.out.block⟩
        · have hxi : ¬ (x1 : Int) = 8388608 := by omega
          have hxb : ((x1 : Int) == 8388608) = false := by rw [beq_eq_false_iff_ne]; exact hxi
          have HE := Lib.hid (fun (W : World) (ht : TurnsB D D w W) => show LetSays w D ((some (X, x1, S1)).bind fun q => if q.2.1 = 8388608 ∧ q.2.2 = [] then some q.1 else none) (.returned (.tuple #[.slice Ab j cb, .bool false])) W from ⟨ht, by
            simp only [Option.bind_some]
            rw [if_neg (fun h => hxe h.1)]
            exact ⟨_, rfl⟩⟩)
          clear hlX
          go_wp2
          go_quiet (fail)
          go_wp2
          go_ret2
          exact HE.out _ ⟨HT.out.os, HT.out.tape, HT.out.output, HT.out.size, HT.out.block⟩
end Go.Proofs.Ytfdgnhfppginiaa
