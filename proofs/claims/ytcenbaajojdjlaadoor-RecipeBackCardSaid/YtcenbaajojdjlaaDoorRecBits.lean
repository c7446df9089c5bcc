/- Contracts of layer 11: words as bits, and back. -/
import Derived.Test.YtcenbaajojdjlaaDoorRecFn
namespace Go.Proofs.YtcenbaajojdjlaaDoor
open Go.RowKit Go.Shelf

theorem info_u8b : (Tryd.prog.info? 5).map (fun i => (i.zero, i.size, i.bytes)) = some (some (.int .u8 0), 1, 1) := by kernel_rfl
theorem size_u8b : (Tryd.prog.info? 5).map (·.size) = some 1 := by kernel_rfl
set_option maxHeartbeats 1000000 in
set_option maxRecDepth 100000 in
theorem asBits_any {W : Nat} (hW : IsW W) (l : List UInt8) (v : Value) (w : World) (hv : IsBytes l v w) (hl : l.length ≤ 1000) (ht : TabA w) :
    Calls Tryd.prog 28 #[v, .int .i64 (W : Int)] w fun e w' => ∃ m, doR W 6 l m ∧ NewBs w m e w' := by
  obtain ⟨i0, hi, hz0, hz1, hz2⟩ := info_parts info_u8b
  obtain ⟨A, c, rfl, hc, hr⟩ := hv
  have hp := hW.pos
  have c1 := wordTake_any W hW A l.length c l w hr rfl hc (by omega)
  obtain ⟨ws, hws⟩ : ∃ ws, ws = wordsOf W l := ⟨_, rfl⟩
  obtain ⟨rs, hrs⟩ : ∃ rs, rs = restOf W l := ⟨_, rfl⟩
  rw [show wordsN (l.length / W) W l = ws from hws.symm, show l.drop (l.length / W * W) = rs from hrs.symm] at c1
  have hwl : ws.length ≤ 1000 := by rw [hws, wordsOf_len]; exact Nat.le_trans (Nat.div_le_self _ _) hl
  have hrl : rs.length < 8 := by have := rest_lt (W := W) (by omega) l; rw [hrs]; omega
  have h64 : ∀ x ∈ ws, x < 18446744073709551616 := by rw [hws]; exact lt_64 hW (wordsOf_lt (W := W) (by omega) l)
  have hfin : ∀ Q, Packs Q (packG (W : Int) ws) → doR W 6 l (Q ++ rs) ∧ Q.length ≤ 1000000 := fun Q hQ => by
    rw [packG_of hW] at hQ
    refine ⟨.inr (.inr (.inr (.inr (.inr (.inl ⟨rfl, Q, by rw [← hws]; exact hQ, by rw [← hrs]⟩))))), ?_⟩
    have h1 := hQ.1
    by_cases h0 : ws = []
    · subst h0
      rw [packB_nil] at h1
      simp at h1
      rw [h1]
      simp
    · have h2 := (packB_len W ws h0).2
      have h3 : (ws.length - 1) * (8 * W + 14) ≤ 1000 * 78 := Nat.mul_le_mul (by omega) (by omega)
      omega
  have C1 := Lib.hid c1
  have C2 := Lib.hid (fun (A1 : Option Addr) (c1 : Nat) (w' : World) (h : Rd w' w'.heap.size A1 (wvs ws)) (ht : TabA w') => gPack_any (W : Int) A1 ws.length c1 ws w' h rfl hwl h64 ht)
  have HF := Lib.hid hfin
  have HT := Lib.hid ht
  clear c1 hr h64 hW hws hrs hwl hfin ht hl
  go_enter Tryd.func28, Tryd.ntmps28
  go_wp2_with fail
  refine C1.out.mono ?_
  rintro e w1 ⟨v1, v2, rfl, h1, h2, hb⟩
  have HB := Lib.hid hb
  have HT1 := Lib.hid (HT.out.grow hb)
  obtain ⟨A1, c1, rfl, hc1, hr1⟩ := h1
  obtain ⟨A2, c2, rfl, hc2, hr2⟩ := h2
  have C3 := Lib.hid (C2.out A1 c1 w1 hr1 HT1.out)
  have HR2 := Lib.hid hr2
  rw [wvs_length]
  clear hb hc1 hr1 hc2 hr2 C1 C2 HT
  go_wp2_with fail
  refine C3.out.mono ?_
  rintro e w2 ⟨Q, hQ, v3, rfl, hown, hb2⟩
  obtain ⟨hd, hql⟩ := HF.out Q hQ
  have HD := Lib.hid hd
  have HB2 := Lib.hid (HB.out.trans (hb2.mono HB.out.size))
  have hr2 : Rd w2 w1.heap.size A2 (bvs rs) := HR2.out.below hb2
  have hbs := hb2.size
  have HOWN := Lib.hid hown
  have hA1 : Q.length + rs.length ≤ maxLen := by simp only [maxLen]; omega
  have hA2 : (Q.length + rs.length) * 1 ≤ 140737488355328 := by omega
  have HNL := Lib.hid (show (bvs rs).length = rs.length * 1 by rw [bvs_length, Nat.mul_one])
  clear hown hb2 C3 HF HR2 hd hQ HT1
  go_wp2_with ((with_reducible show wpList _ _ _ (({ dst := some 17, op := _, type := _, pos := _, after := _, guard := _ } : Oper) :: _) _ _); go_must (refine wpList_app rfl (.tmp 15) (.tmp 16) 22 rfl w1.heap.size 5 i0 (.int .u8 0) 1 1 Tryd.underlying22 hi hz0 hz1 hz2 rfl (by decide) _ _ _ rfl HOWN.out w1.heap.size A2 rs.length c2 (bvs rs) rfl hr2 HNL.out (bvs_one _) hA1 hA2 hbs ?_; intro v4 w4 hown4 hg4; have hb4 := HB2.out.grown hg4 HB2.out.size (fun k hk => Nat.le_trans HB.out.size (own_block HOWN.out k hk)); clear hg4))
  go_ret
  refine ⟨_, HD.out, v4, rfl, ?_, hb4⟩
  apply IsBytes.of_own (base := w1.heap.size) (e := 5)
  rw [List.length_append, bvs_append]
  exact hown4
theorem gorR_err {W : Nat} (hW : IsW W) (n : Nat) (hn : n ≤ 67108864) (l : List UInt8) : (gorR (W : Int) (n : Int) l).1 = 0 ∨ (gorR (W : Int) (n : Int) l).1 = 16 := by
  unfold gorR
  rw [if_pos ⟨hW.right.symm, by omega, by omega⟩]
  cases takenR (W : Int).toNat (n : Int).toNat (allBits l) with
  | none => exact .inr rfl
  | some q =>
    simp only
    split
    · exact .inl rfl
    · exact .inr rfl
theorem gorR_lt {W : Nat} (hW : IsW W) (n : Nat) (l : List UInt8) : ∀ x ∈ (gorR (W : Int) (n : Int) l).2, x < 18446744073709551616 := by
  unfold gorR
  split
  · rw [Int.toNat_natCast]
    split
    · intro x hx
      cases hx
    · split
      · exact lt_64 hW (backW_lt W _)
      · intro x hx
        cases hx
  · intro x hx
    cases hx
theorem gorR_few {W : Nat} (n : Nat) (l : List UInt8) : (gorR (W : Int) (n : Int) l).2.length ≤ 8 * l.length := by
  unfold gorR
  split
  · rw [Int.toNat_natCast, Int.toNat_natCast]
    split
    · exact Nat.zero_le _
    · rename_i X s hT
      split
      · simp only
        rw [backW_len]
        obtain ⟨h1, h2, _⟩ := takenR_some hT
        rw [allBits_length] at h2
        omega
      · exact Nat.zero_le _
  · exact Nat.zero_le _
/-- A tuple of words and an error. -/
def Told2 (ws : List Nat) (err : Nat) (v : Value) (w : World) : Prop := ∃ u, v = .tuple #[u, .int .i64 (err : Int)] ∧ IsCells (wvs ws) u w
theorem Told2.grow (ws : List Nat) (err : Nat) : ∀ v w w', Told2 ws err v w → Below w.heap.size w w' → Told2 ws err v w' := by
  rintro v w w' ⟨u, rfl, h⟩ hb
  exact ⟨u, rfl, h.grow hb⟩
set_option maxHeartbeats 1000000 in
set_option maxRecDepth 100000 in
theorem fromBits_any {W : Nat} (hW : IsW W) (m : List UInt8) (v : Value) (raw : Nat) (hraw : raw ≤ 16777216) (w : World) (hv : IsBytes m v w) (hl : m.length ≤ 90000) (hfit : raw ≤ 90000 ∨ m.length ≤ 5000) :
    Calls Tryd.prog 29 #[v, .int .i64 (W : Int), .int .i64 (raw : Int)] w (UndoAns w (undoR W raw 6 m)) := by
  obtain ⟨A, c, rfl, hc, hr⟩ := hv
  have hp := hW.pos
  unfold undoR
  simp only [show ¬ (6 = 1) by decide, show ¬ (6 = 2) by decide, show ¬ (6 = 3) by decide, show ¬ (6 = 4) by decide, show ¬ (6 = 5) by decide, if_false, if_true]
  obtain ⟨r, hr0⟩ : ∃ r, r = raw % W := ⟨_, rfl⟩
  have hri : (raw : Int) % (W : Int) = (r : Int) := by rw [hr0]; simp
  have hW0 : ¬ (W : Int) = 0 := by omega
  have hr8 : r < 8 := by rw [hr0]; have := Nat.mod_lt raw (show 0 < W by omega); omega
  rw [← hr0]
  by_cases hlt : m.length < r
  · rw [if_pos hlt]
    have hneg : (m.length : Int) - (r : Int) < 0 := by omega
    clear hr hW hr0
    go_enter Tryd.func29, Tryd.ntmps29
    go_wp2
    go_ret2
    exact ⟨_, _, _, rfl, Below.refl _ _, fun x hx => by cases hx⟩
  · rw [if_neg hlt]
    obtain ⟨q, hq⟩ : ∃ q, q = m.length - r := ⟨_, rfl⟩
    obtain ⟨n, hn⟩ : ∃ n, n = raw / W := ⟨_, rfl⟩
    have hni : (raw : Int) / (W : Int) = (n : Int) := by rw [hn]; simp
    have hn2 : n ≤ 16777216 := by rw [hn]; exact Nat.le_trans (Nat.div_le_self _ _) hraw
    rw [← hq, ← hn]
    have he := gorR_err hW n (by omega) (m.take q)
    have hX64 := gorR_lt hW n (m.take q)
    have hXb := gorR_few (W := W) n (m.take q)
    have hXn := fun h => gorR_some (W := W) (n := n) (l := m.take q) h
    have c1 := fun (w' : World) (h : IsBytes (m.take q) (.slice A q c) w') => gorUnpack_any (W : Int) (n : Int) (m.take q) (.slice A q c) w' h (by rw [List.length_take]; omega)
    obtain ⟨R, hR⟩ : ∃ R, R = gorR (W : Int) (n : Int) (m.take q) := ⟨_, rfl⟩
    rw [← hR] at he hX64 hXb hXn c1
    rw [← hR]
    obtain ⟨err, X⟩ := R
    simp only at he hX64 hXb hXn ⊢
    obtain ⟨Z, hZ⟩ : ∃ Z, Z = layW W X ++ m.drop q := ⟨_, rfl⟩
    rw [← hZ]
    obtain ⟨o, ho⟩ : ∃ o, o = if err = 0 then some Z else none := ⟨_, rfl⟩
    rw [← ho]
    have HO := Lib.hid ho
    have hqm : q ≤ m.length := by omega
    have hqc : q ≤ c := by omega
    have hqi : (m.length : Int) - (r : Int) = (q : Int) := by omega
    have htl : (m.take q).length = q := by rw [List.length_take]; omega
    have hnr : n ≤ raw := by rw [hn]; exact Nat.div_le_self _ _
    have hXl : err = 0 → X.length ≤ 90000 := fun h0 => by have := hXn h0; omega
    have hr2 : (m.drop q).length < 8 := by rw [List.length_drop]; omega
    have C1 := Lib.hid (fun (w' : World) (h : Below w.heap.size w w') => c1 w' ⟨A, c, by rw [htl], by omega, by rw [← bvs_take]; exact ((hr.below h).more h.size).take q⟩)
    have C3 := Lib.hid (fun (h0 : err = 0) (A1 : Option Addr) (c1 : Nat) (A2 : Option Addr) (c2 : Nat) (w' : World) (h : Rd w' w'.heap.size A1 (wvs X)) (h2 : Rd w' w'.heap.size A2 (bvs (m.drop q))) => show Calls Tryd.prog 49 #[.slice A1 X.length c1, .int .i64 (W : Int), .slice A2 (m.length - q) c2] w' (NewBs w' Z) by rw [hZ]; exact wordLay_any W hW A1 X.length c1 X A2 (m.length - q) c2 (m.drop q) w' h rfl hX64 h2 (List.length_drop ..) (by have := hXl h0; omega) (by have := List.length_drop (i := q) (l := m); omega))
    have HR0 := Lib.hid hr
    have HE := Lib.hid he
    have hge : ¬ (q : Int) < 0 := by omega
    have htd : (raw : Int).tdiv (W : Int) = (n : Int) := by rw [Int.tdiv_eq_ediv_of_nonneg (by omega)]; exact hni
    have hwr : IntKind.i64.wrap (n : Int) = (n : Int) := IntWalk.i64_in _ (by omega)
    have HD := Lib.hid (And.intro htd hwr)
    clear hZ htd hwr ho c1 hX64 hXb hXn hnr hfit hXl hr2 hR hr0 hq hn he hr hW hraw hn2 htl hlt
    go_enter Tryd.func29, Tryd.ntmps29
    go_wp2
    clear hri hqi hge
    have htd := HD.out.1
    have hwr := HD.out.2
    clear HD
    refine wp_region_grow [⟨20, [], .is (.slice A m.length c)⟩,
      ⟨21, [], .is (.int .i64 (q : Int))⟩,
      ⟨22, [0, 1], .is (.slice A q c)⟩,
      ⟨23, [], .is (.int .i64 (W : Int))⟩,
      ⟨24, [], .is (.int .i64 (raw : Int))⟩,
      ⟨25, [], .is (.int .i64 (W : Int))⟩,
      ⟨26, [4, 5], .is (.int .i64 (n : Int))⟩,
      ⟨27, [2, 3, 6], .such (Told2 X err) (Told2.grow X err)⟩,
      ⟨19, [7], .such (Told2 X err) (Told2.grow X err)⟩,
      ⟨28, [8], .cells (wvs X)⟩,
      ⟨29, [8], .is (.int .i64 (err : Int))⟩,
      ⟨9, [9], .cells (wvs X)⟩,
      ⟨10, [10], .is (.int .i64 (err : Int))⟩]
      [(0, .slice A m.length c), (8, .int .i64 (q : Int)), (1, .int .i64 (W : Int)), (2, .int .i64 (raw : Int))] (by kernel_rfl) (by kernel_rfl) (by kernel_rfl) (by kernel_rfl) (by kernel_rfl) ⟨rfl, rfl, rfl, rfl, trivial⟩ ?_ ?_
    · repeat' (first | exact OblGAll.nil | refine OblGAll.cons ?_ ?_)
      all_goals (intro ev yi W' hB _ hf ho hn; simp only [OutsSay, NeedSay, rowAt, Fact.says, and_true] at ho hn)
      all_goals (rw [if_pos (by simp [Region.wanted])])
      all_goals (try ((simp [OpSays, execOp, Fact.says, go_sem, ho, hn, hqc, hni, Below.refl]; done)))
      · have hWn : ¬ W = 0 := by omega
        simp [OpSays, execOp, Fact.says, go_sem, hn, hWn, htd, hwr, Below.refl]
      · exact says_call Tryd.call48 (vs := #[.slice A q c, .int .i64 (W : Int), .int .i64 (n : Int)]) rfl hf (by simp [hn]) ((C1.out W' hB).mono fun _ _ h => by
          obtain ⟨u, he, h1, h2⟩ := h
          exact ⟨_, he, ⟨u, rfl, h2⟩, h1⟩)
      · obtain ⟨u, hu, hcs⟩ := hn.1
        simp [OpSays, execOp, Fact.says, go_sem, hu, Below.refl]
        exact hcs
      · obtain ⟨u, hu, hcs⟩ := hn.1
        simp [OpSays, execOp, Fact.says, go_sem, hu, Below.refl]
    · intro Y w4 hb4 hx
      obtain ⟨A3, c3, h11, -, hr3⟩ : IsCells (wvs X) (Y 11) w4 := hx 11 (by decide)
      have h12 : Y 12 = .int .i64 (err : Int) := hx 12 (by decide)
      rw [wvs_length] at h11
      have HX := Lib.hid (And.intro h11 h12)
      have HR3 := Lib.hid hr3
      have HB4 := Lib.hid hb4
      clear hx h11 h12 hr3 hb4 htd hwr
      simp only [layAll, List.setIfInBounds_toArray, List.set_cons_succ, List.set_cons_zero]
      rw [HX.out.1, HX.out.2]
      rcases HE.out with h0 | h0
      · subst h0
        have ho2 := HO.out
        rw [if_pos rfl] at ho2
        subst ho2
        have HRW := Lib.hid ((HR0.out.below HB4.out).more HB4.out.size)
        clear HO HE
        go_wp2_with ((with_reducible show wpList _ _ _ (({ dst := some 37, op := _, type := _, pos := _, after := _, guard := _ } : Oper) :: _) _ _); go_must (refine wpList_from rfl (.tmp 35) (.tmp 36) rfl Tryd.underlying22 size_u8b w4.heap.size A m.length c q (bvs m) rfl rfl HRW.out (bvs_length m) hc hqm ?_; intro A5 c5 hc5 hr5))
        refine (C3.out (by simp) A3 c3 A5 c5 w4 HR3.out (by rw [← bvs_drop]; exact hr5)).mono ?_
        rintro e w5 ⟨v5, rfl, h5, hb5⟩
        have HB5 := Lib.hid (HB4.out.trans (hb5.mono HB4.out.size))
        have H5 := Lib.hid h5
        obtain ⟨A6, c6, rfl, -, -⟩ := h5
        clear hb5 hr5
        go_wp2
        go_ret2
        exact ⟨_, _, _, rfl, HB5.out, fun x hx => by cases hx; exact H5.out⟩
      · subst h0
        have ho2 := HO.out
        rw [if_neg (by decide)] at ho2
        subst ho2
        clear HO HE
        go_wp2
        go_ret2
        exact ⟨_, _, _, rfl, HB4.out, fun x hx => by cases hx⟩
end Go.Proofs.YtcenbaajojdjlaaDoor
