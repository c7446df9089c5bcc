/- Contracts of layer 11's reference: bits, planes, runs; any step. · Contracts of layer 11's reference: Go and Back. · Contracts of layer 11's reference: Back, whole. -/
import Derived.Test.YtcenbaajojdjlaaGreatDoorRecRef
import Derived.Test.YtcenbaajojdjlaaGreatDoorGorRUn
import Derived.Test.YtcenbaajojdjlaaGreatDoorRunsRUn
namespace Go.Proofs.YtcenbaajojdjlaaGreatDoor
open Go.RowKit Go.Shelf

/-- What an undoing of the reference answers. -/
def UndoB (w : World) (o : Option (List UInt8)) (e : Ending) (w' : World) : Prop :=
  ∃ A n c, e = .returned (.tuple #[.slice A n c, .bool o.isSome]) ∧ Below w.heap.size w w' ∧ ∀ x, o = some x → IsBytes x (.slice A n c) w'
set_option maxHeartbeats 1000000 in
set_option maxRecDepth 100000 in
theorem rDo6 {W : Nat} (hW : IsW W) (l : List UInt8) (v : Value) (w : World) (hv : IsBytes l v w) (hl : l.length ≤ 1000) :
    Calls Tryz.prog 17 #[v, .int .i64 (W : Int), .int .i64 6] w fun e w' => ∃ m, doR W 6 l m ∧ NewBs w m e w' := by
  obtain ⟨i0, hi, hz0, hz1, hz2⟩ := info_parts info_u8b
  obtain ⟨A, c, rfl, hc, hr⟩ := hv
  have hp := hW.pos
  have c1 := refTake_any hW A c l w hr hc (by omega)
  obtain ⟨ws, hws⟩ : ∃ ws, ws = wordsOf W l := ⟨_, rfl⟩
  obtain ⟨rs, hrs⟩ : ∃ rs, rs = restOf W l := ⟨_, rfl⟩
  rw [← hws, ← hrs] at c1
  have hwl : ws.length ≤ 1000 := by rw [hws, wordsOf_len]; exact Nat.le_trans (Nat.div_le_self _ _) hl
  have hrl : rs.length < 8 := by have := rest_lt (W := W) (by omega) l; rw [hrs]; omega
  have h64 : ∀ x ∈ ws, x < 18446744073709551616 := by rw [hws]; exact lt_64 hW (wordsOf_lt (W := W) (by omega) l)
  have hfin : ∀ Q, Packs Q (packG (W : Int) ws) → doR W 6 l (Q ++ rs) ∧ Q.length ≤ 1000000 := fun Q hQ => by
    rw [packG_of hW] at hQ
    refine ⟨.inr (.inr (.inr (.inr (.inr (.inl ⟨rfl, Q, by rw [← hws]; exact hQ, by rw [← hrs]⟩))))), ?_⟩
    have h1 := hQ.1
    by_cases h0 : ws = []
    · subst h0
      rw [packB_nil] at h1
      simp at h1
      rw [h1]
      simp
    · have h2 := (packB_len W ws h0).2
      have h3 : (ws.length - 1) * (8 * W + 14) ≤ 1000 * 78 := Nat.mul_le_mul (by omega) (by omega)
      omega
  have C1 := Lib.hid c1
  have C2 := Lib.hid (fun (A1 : Option Addr) (c1 : Nat) (w' : World) (h : Rd w' w'.heap.size A1 (wvs ws)) => rPack_any (W : Int) A1 ws.length c1 ws w' h rfl hwl h64)
  have HF := Lib.hid hfin
  clear c1 hr h64 hW hws hrs hwl hfin hl
  go_enter Tryz.func17, Tryz.ntmps17
  go_wp2_with fail
  refine C1.out.mono ?_
  rintro e w1 ⟨v1, v2, rfl, h1, h2, hb⟩
  have HB := Lib.hid hb
  obtain ⟨A1, c1, rfl, hc1, hr1⟩ := h1
  obtain ⟨A2, c2, rfl, hc2, hr2⟩ := h2
  have C3 := Lib.hid (C2.out A1 c1 w1 hr1)
  have HR2 := Lib.hid hr2
  rw [wvs_length]
  clear hb hc1 hr1 hc2 hr2 C1 C2
  go_wp2_with fail
  refine C3.out.mono ?_
  rintro e w2 ⟨Q, hQ, v3, rfl, hown, hb2⟩
  obtain ⟨hd, hql⟩ := HF.out Q hQ
  have HD := Lib.hid hd
  have HB2 := Lib.hid (HB.out.trans (hb2.mono HB.out.size))
  have hr2 : Rd w2 w1.heap.size A2 (bvs rs) := HR2.out.below hb2
  have hbs := hb2.size
  have HOWN := Lib.hid hown
  have hA1 : Q.length + rs.length ≤ maxLen := by simp only [maxLen]; omega
  have hA2 : (Q.length + rs.length) * 1 ≤ 140737488355328 := by omega
  have HNL := Lib.hid (show (bvs rs).length = rs.length * 1 by rw [bvs_length, Nat.mul_one])
  clear hown hb2 C3 HF HR2 hd hQ
  go_wp2_with ((with_reducible show wpList _ _ _ (({ dst := some 49, op := _, type := _, pos := _, after := _, guard := _ } : Oper) :: _) _ _); go_must (refine wpList_app rfl (.tmp 47) (.tmp 48) 22 rfl w1.heap.size 5 i0 (.int .u8 0) 1 1 Tryz.underlying22 hi hz0 hz1 hz2 rfl (by decide) _ _ _ rfl HOWN.out w1.heap.size A2 rs.length c2 (bvs rs) rfl hr2 HNL.out (bvs_one _) hA1 hA2 hbs ?_; intro v4 w4 hown4 hg4; have hb4 := HB2.out.grown hg4 HB2.out.size (fun k hk => Nat.le_trans HB.out.size (own_block HOWN.out k hk)); clear hg4))
  go_ret
  refine ⟨_, HD.out, v4, rfl, ?_, hb4⟩
  apply IsBytes.of_own (base := w1.heap.size) (e := 5)
  rw [List.length_append, bvs_append]
  exact hown4
set_option maxHeartbeats 1000000 in
set_option maxRecDepth 100000 in
theorem rDo5 {W : Nat} (hW : IsW W) (l : List UInt8) (v : Value) (w : World) (hv : IsBytes l v w) (hl : l.length ≤ 90000) :
    Calls Tryz.prog 17 #[v, .int .i64 (W : Int), .int .i64 5] w (NewBs w (splitL W l)) := by
  obtain ⟨A, c, rfl, hc, hr⟩ := hv
  have C1 := Lib.hid (refTake_any hW A c l w hr hc (by omega))
  have C2 := Lib.hid (fun (w' : World) (h : Below w.heap.size w w') => show Calls Tryz.prog 44 #[.slice A l.length c, .int .i64 (W : Int)] w' (NewBs w' (splitL W l)) by
    have := refSplit_any (W : Int) A l.length c l w' ((hr.below h).more h.size) rfl hc (by omega)
    rwa [ofB_of hW] at this)
  clear hr hW
  go_enter Tryz.func17, Tryz.ntmps17
  go_wp2_with fail
  refine C1.out.mono ?_
  rintro e w1 ⟨v1, v2, rfl, -, -, hb⟩
  have HB := Lib.hid hb
  have C3 := Lib.hid (C2.out w1 hb)
  clear hb C1 C2
  go_wp2_with fail
  refine C3.out.mono ?_
  rintro e w2 ⟨v3, rfl, h3, hb2⟩
  have H3 := Lib.hid h3
  have HB2 := Lib.hid (HB.out.trans (hb2.mono HB.out.size))
  clear h3 hb2 C3
  go_wp2
  go_ret
  exact ⟨v3, rfl, H3.out, HB2.out⟩
set_option maxHeartbeats 1000000 in
set_option maxRecDepth 100000 in
theorem rDo7 {W : Nat} (hW : IsW W) (l : List UInt8) (v : Value) (w : World) (hv : IsBytes l v w) (hl : l.length ≤ 90000) :
    Calls Tryz.prog 17 #[v, .int .i64 (W : Int), .int .i64 7] w (NewBs w (packL l)) := by
  obtain ⟨A, c, rfl, hc, hr⟩ := hv
  have C1 := Lib.hid (refTake_any hW A c l w hr hc (by omega))
  have C2 := Lib.hid (fun (w' : World) (h : Below w.heap.size w w') => refPack_any A l.length c l w' ((hr.below h).more h.size) rfl hc (by omega))
  clear hr hW
  go_enter Tryz.func17, Tryz.ntmps17
  go_wp2_with fail
  refine C1.out.mono ?_
  rintro e w1 ⟨v1, v2, rfl, -, -, hb⟩
  have HB := Lib.hid hb
  have C3 := Lib.hid (C2.out w1 hb)
  clear hb C1 C2
  go_wp2_with fail
  refine C3.out.mono ?_
  rintro e w2 ⟨v3, rfl, h3, hb2⟩
  have H3 := Lib.hid h3
  have HB2 := Lib.hid (HB.out.trans (hb2.mono HB.out.size))
  clear h3 hb2 C3
  go_wp2
  go_ret
  exact ⟨v3, rfl, H3.out, HB2.out⟩
set_option maxHeartbeats 1000000 in
set_option maxRecDepth 100000 in
theorem rUn5 {W : Nat} (hW : IsW W) (l : List UInt8) (v : Value) (raw : Int) (w : World) (hv : IsBytes l v w) (hl : l.length ≤ 90000) :
    Calls Tryz.prog 21 #[v, .int .i64 (W : Int), .int .i64 5, .int .i64 raw] w (fun e w' => ∃ u, e = .returned (.tuple #[u, .bool true]) ∧ IsBytes (joinL W l) u w' ∧ Below w.heap.size w w') := by
  obtain ⟨A, c, rfl, hc, hr⟩ := hv
  have C1 := Lib.hid (refTake_any hW A c l w hr hc (by omega))
  have C2 := Lib.hid (fun (w' : World) (h : Below w.heap.size w w') => show Calls Tryz.prog 55 #[.slice A l.length c, .int .i64 (W : Int)] w' (NewBs w' (joinL W l)) by
    have := refJoin_any (W : Int) A l.length c l w' ((hr.below h).more h.size) rfl hc (by omega)
    rwa [ofB_of hW] at this)
  clear hr hW
  go_enter Tryz.func21, Tryz.ntmps21
  go_wp2_with fail
  refine C1.out.mono ?_
  rintro e w1 ⟨v1, v2, rfl, -, -, hb⟩
  have HB := Lib.hid hb
  have C3 := Lib.hid (C2.out w1 hb)
  clear hb C1 C2
  go_wp2_with fail
  refine C3.out.mono ?_
  rintro e w2 ⟨v3, rfl, h3, hb2⟩
  have H3 := Lib.hid h3
  have HB2 := Lib.hid (HB.out.trans (hb2.mono HB.out.size))
  clear h3 hb2 C3
  go_wp2
  go_ret2
  exact ⟨v3, rfl, H3.out, HB2.out⟩
set_option maxHeartbeats 1000000 in
set_option maxRecDepth 100000 in
theorem rUn7 {W : Nat} (l : List UInt8) (v : Value) (raw : Nat) (hraw : raw ≤ 16777216) (w : World) (hv : IsBytes l v w) (hl : l.length ≤ 90000) :
    Calls Tryz.prog 21 #[v, .int .i64 (W : Int), .int .i64 7, .int .i64 (raw : Int)] w (UndoB w (undoR W raw 7 l)) := by
  obtain ⟨A, c, rfl, hc, hr⟩ := hv
  have C1 := Lib.hid (refUnpack_any A l.length c l (raw : Int) w hr rfl hc (by omega))
  have he : ((unpackR l (raw : Int)).2 == 0) = (undoR W raw 7 l).isSome ∧ ∀ x, undoR W raw 7 l = some x → x = (unpackR l (raw : Int)).1 := by
    unfold undoR
    simp only [show ¬ (7 = 1) by decide, show ¬ (7 = 2) by decide, show ¬ (7 = 3) by decide, show ¬ (7 = 4) by decide, show ¬ (7 = 5) by decide, show ¬ (7 = 6) by decide, if_false, if_true]
    rcases runsR_err l raw hraw with h | h
    · rw [if_pos h, h]
      exact ⟨rfl, fun x hx => by cases hx; rfl⟩
    · rw [if_neg (by omega), h]
      exact ⟨rfl, fun x hx => by cases hx⟩
  obtain ⟨o, ho⟩ : ∃ o, o = undoR W raw 7 l := ⟨_, rfl⟩
  obtain ⟨R, hR⟩ : ∃ R, R = unpackR l (raw : Int) := ⟨_, rfl⟩
  rw [← ho, ← hR] at he
  rw [← hR] at C1
  rw [← ho]
  obtain ⟨b, n⟩ := R
  simp only at he
  obtain ⟨z, hz⟩ : ∃ z, z = (n == 0) := ⟨_, rfl⟩
  rw [← hz] at he
  have hzi : (((n : Nat) : Int) == 0) = z := by rw [hz]; cases n <;> rfl
  have hzd : decide (((n : Nat) : Int) = 0) = z := by rw [hz]; cases n <;> rfl
  have HE := Lib.hid he
  clear hr ho hR he hz
  go_enter Tryz.func21, Tryz.ntmps21
  go_wp2_with fail
  refine C1.out.mono ?_
  rintro e w1 ⟨v1, rfl, h1, hb1⟩
  have H1 := Lib.hid h1
  have HB := Lib.hid hb1
  obtain ⟨A1, c1, rfl, -, -⟩ := h1
  clear hb1 C1
  go_wp2
  go_ret2
  exact ⟨A1, b.length, c1, by rw [← HE.out.1]; rfl, HB.out, fun x hx => by rw [HE.out.2 x hx]; exact H1.out⟩
set_option maxHeartbeats 1000000 in
set_option maxRecDepth 100000 in
theorem rUn6 {W : Nat} (hW : IsW W) (m : List UInt8) (v : Value) (raw : Nat) (hraw : raw ≤ 16777216) (w : World) (hv : IsBytes m v w) (hl : m.length ≤ 1000) :
    Calls Tryz.prog 21 #[v, .int .i64 (W : Int), .int .i64 6, .int .i64 (raw : Int)] w (UndoB w (undoR W raw 6 m)) := by
  obtain ⟨A, c, rfl, hc, hr⟩ := hv
  have hp := hW.pos
  unfold undoR
  simp only [show ¬ (6 = 1) by decide, show ¬ (6 = 2) by decide, show ¬ (6 = 3) by decide, show ¬ (6 = 4) by decide, show ¬ (6 = 5) by decide, if_false, if_true]
  obtain ⟨r, hr0⟩ : ∃ r, r = raw % W := ⟨_, rfl⟩
  have hri : (raw : Int) % (W : Int) = (r : Int) := by rw [hr0]; simp
  have hW0 : ¬ (W : Int) = 0 := by omega
  have hr8 : r < 8 := by rw [hr0]; have := Nat.mod_lt raw (show 0 < W by omega); omega
  rw [← hr0]
  by_cases hlt : m.length < r
  · rw [if_pos hlt]
    have hneg : (m.length : Int) - (r : Int) < 0 := by omega
    clear hr hW hr0
    go_enter Tryz.func21, Tryz.ntmps21
    go_wp2
    go_ret2
    exact ⟨_, _, _, rfl, Below.refl _ _, fun x hx => by cases hx⟩
  · rw [if_neg hlt]
    obtain ⟨q, hq⟩ : ∃ q, q = m.length - r := ⟨_, rfl⟩
    obtain ⟨n, hn⟩ : ∃ n, n = raw / W := ⟨_, rfl⟩
    have hni : (raw : Int) / (W : Int) = (n : Int) := by rw [hn]; simp
    have hn2 : n ≤ 16777216 := by rw [hn]; exact Nat.le_trans (Nat.div_le_self _ _) hraw
    rw [← hq, ← hn]
    have he := gorR_err hW n (by omega) (m.take q)
    have hX64 := gorR_lt hW n (m.take q)
    have hXb := gorR_few (W := W) n (m.take q)
    have c1 := fun (w' : World) (h : IsBytes (m.take q) (.slice A q c) w') => rUnpack_st (n := n) hW (by omega) (m.take q) (.slice A q c) w' h (by rw [List.length_take]; omega)
    obtain ⟨R, hR⟩ : ∃ R, R = gorR (W : Int) (n : Int) (m.take q) := ⟨_, rfl⟩
    rw [← hR] at he hX64 hXb c1
    rw [← hR]
    obtain ⟨err, X⟩ := R
    simp only at he hX64 hXb ⊢
    obtain ⟨Z, hZ⟩ : ∃ Z, Z = layW W X ++ m.drop q := ⟨_, rfl⟩
    rw [← hZ]
    obtain ⟨o, ho⟩ : ∃ o, o = if err = 0 then some Z else none := ⟨_, rfl⟩
    rw [← ho]
    have HO := Lib.hid ho
    have hqm : q ≤ m.length := by omega
    have hqc : q ≤ c := by omega
    have hqi : (m.length : Int) - (r : Int) = (q : Int) := by omega
    have htl : (m.take q).length = q := by rw [List.length_take]; omega
    have hXl : X.length ≤ 90000 := by omega
    have hr2 : (m.drop q).length < 8 := by rw [List.length_drop]; omega
    have C1 := Lib.hid (fun (w' : World) (h : Below w.heap.size w w') => c1 w' ⟨A, c, by rw [htl], by omega, by rw [← bvs_take]; exact ((hr.below h).more h.size).take q⟩)
    have C3 := Lib.hid (fun (A1 : Option Addr) (c1 : Nat) (A2 : Option Addr) (c2 : Nat) (w' : World) (h : Rd w' w'.heap.size A1 (wvs X)) (h2 : Rd w' w'.heap.size A2 (bvs (m.drop q))) => show Calls Tryz.prog 47 #[.slice A1 X.length c1, .int .i64 (W : Int), .slice A2 (m.length - q) c2] w' (NewBs w' Z) by rw [hZ]; exact refLay_any W hW A1 X.length c1 X A2 (m.length - q) c2 (m.drop q) w' h rfl hX64 h2 (List.length_drop ..) (by omega) (by have := List.length_drop (i := q) (l := m); omega))
    have HR0 := Lib.hid hr
    have HE := Lib.hid he
    have hge : ¬ (q : Int) < 0 := by omega
    have htd : (raw : Int).tdiv (W : Int) = (n : Int) := by rw [Int.tdiv_eq_ediv_of_nonneg (by omega)]; exact hni
    have hwr : IntKind.i64.wrap (n : Int) = (n : Int) := IntWalk.i64_in _ (by omega)
    have HD := Lib.hid (And.intro htd hwr)
    clear hZ htd hwr ho c1 hX64 hXb hXl hr2 hR hr0 hq hn he hr hW hraw hn2 htl hlt
    go_enter Tryz.func21, Tryz.ntmps21
    go_wp2
    clear hri hqi hge
    have htd := HD.out.1
    have hwr := HD.out.2
    clear HD
    refine wp_region_grow [⟨39, [], .is (.slice A m.length c)⟩,
      ⟨40, [], .is (.int .i64 (q : Int))⟩,
      ⟨41, [0, 1], .is (.slice A q c)⟩,
      ⟨42, [], .is (.int .i64 (W : Int))⟩,
      ⟨43, [], .is (.int .i64 (raw : Int))⟩,
      ⟨44, [], .is (.int .i64 (W : Int))⟩,
      ⟨45, [4, 5], .is (.int .i64 (n : Int))⟩,
      ⟨46, [2, 3, 6], .such (Told2 X err) (Told2.grow X err)⟩,
      ⟨38, [7], .such (Told2 X err) (Told2.grow X err)⟩,
      ⟨47, [8], .cells (wvs X)⟩,
      ⟨48, [8], .is (.int .i64 (err : Int))⟩,
      ⟨13, [9], .cells (wvs X)⟩,
      ⟨14, [10], .is (.int .i64 (err : Int))⟩]
      [(0, .slice A m.length c), (12, .int .i64 (q : Int)), (1, .int .i64 (W : Int)), (3, .int .i64 (raw : Int))] (by kernel_rfl) (by kernel_rfl) (by kernel_rfl) (by kernel_rfl) (by kernel_rfl) ⟨rfl, rfl, rfl, rfl, trivial⟩ ?_ ?_
    · repeat' (first | exact OblGAll.nil | refine OblGAll.cons ?_ ?_)
      all_goals (intro ev yi W' hB _ hf ho hn; simp only [OutsSay, NeedSay, rowAt, Fact.says, and_true] at ho hn)
      all_goals (rw [if_pos (by simp [Region.wanted])])
      all_goals (try ((simp [OpSays, execOp, Fact.says, go_sem, ho, hn, hqc, hni, Below.refl]; done)))
      · have hWn : ¬ W = 0 := by omega
        simp [OpSays, execOp, Fact.says, go_sem, hn, hWn, htd, hwr, Below.refl]
      · exact says_call Tryz.call51 (vs := #[.slice A q c, .int .i64 (W : Int), .int .i64 (n : Int)]) rfl hf (by simp [hn]) ((C1.out W' hB).mono fun _ _ h => by
          obtain ⟨u, he, h1, h2⟩ := h
          exact ⟨_, he, ⟨u, rfl, h2⟩, h1⟩)
      · obtain ⟨u, hu, hcs⟩ := hn.1
        simp [OpSays, execOp, Fact.says, go_sem, hu, Below.refl]
        exact hcs
      · obtain ⟨u, hu, hcs⟩ := hn.1
        simp [OpSays, execOp, Fact.says, go_sem, hu, Below.refl]
    · intro Y w4 hb4 hx
      obtain ⟨A3, c3, h11, -, hr3⟩ : IsCells (wvs X) (Y 11) w4 := hx 11 (by decide)
      have h12 : Y 12 = .int .i64 (err : Int) := hx 12 (by decide)
      rw [wvs_length] at h11
      have HX := Lib.hid (And.intro h11 h12)
      have HR3 := Lib.hid hr3
      have HB4 := Lib.hid hb4
      clear hx h11 h12 hr3 hb4 htd hwr
      simp only [layAll, List.setIfInBounds_toArray, List.set_cons_succ, List.set_cons_zero]
      rw [HX.out.1, HX.out.2]
      obtain ⟨z, hz⟩ : ∃ z, z = (err == 0) := ⟨_, rfl⟩
      have hzi : (((err : Nat) : Int) == 0) = z := by rw [hz]; cases err <;> rfl
      have hzd : decide (((err : Nat) : Int) = 0) = z := by rw [hz]; cases err <;> rfl
      have hzo : z = o.isSome ∧ ∀ x, o = some x → x = Z := by
        rw [hz, HO.out]
        rcases HE.out with h0 | h0
        · rw [h0]
          exact ⟨rfl, fun x hx => by rw [if_pos rfl] at hx; exact (Option.some.inj hx).symm⟩
        · rw [h0]
          exact ⟨rfl, fun x hx => by rw [if_neg (by decide)] at hx; cases hx⟩
      have HZO := Lib.hid hzo
      have HRW := Lib.hid ((HR0.out.below HB4.out).more HB4.out.size)
      clear HO HE hz hzo
      go_wp2_with ((with_reducible show wpList _ _ _ (({ dst := some 53, op := _, type := _, pos := _, after := _, guard := _ } : Oper) :: _) _ _); go_must (refine wpList_from rfl (.tmp 51) (.tmp 52) rfl Tryz.underlying22 size_u8b w4.heap.size A m.length c q (bvs m) rfl rfl HRW.out (bvs_length m) hc hqm ?_; intro A5 c5 hc5 hr5))
      refine (C3.out A3 c3 A5 c5 w4 HR3.out (by rw [← bvs_drop]; exact hr5)).mono ?_
      rintro e w5 ⟨v5, rfl, h5, hb5⟩
      have HB5 := Lib.hid (HB4.out.trans (hb5.mono HB4.out.size))
      have H5 := Lib.hid h5
      obtain ⟨A6, c6, rfl, -, -⟩ := h5
      clear hb5 hr5
      go_wp2
      go_ret2
      exact ⟨A6, Z.length, c6, by rw [← HZO.out.1]; rfl, HB5.out, fun x hx => by rw [HZO.out.2 x hx]; exact H5.out⟩
end Go.Proofs.YtcenbaajojdjlaaGreatDoor
namespace Go.Proofs.YtcenbaajojdjlaaGreatDoor
open Go.RowKit Go.Shelf

theorem rDo_any {W s : Nat} (hW : IsW W) (hs : 1 ≤ s ∧ s ≤ 7) (l : List UInt8) (v : Value) (w : World) (hv : IsBytes l v w) (hl : l.length ≤ 1000) :
    Calls Tryz.prog 17 #[v, .int .i64 (W : Int), .int .i64 (s : Int)] w fun e w' => ∃ m, doR W s l m ∧ NewBs w m e w' := by
  rcases (show s = 1 ∨ s = 2 ∨ s = 3 ∨ s = 4 ∨ s = 5 ∨ s = 6 ∨ s = 7 by omega) with rfl | rfl | rfl | rfl | rfl | rfl | rfl
  · exact (rDo1 hW l v w hv (by omega)).mono fun _ _ h => ⟨_, .inl ⟨rfl, rfl⟩, h⟩
  · exact (rDo2 hW l v w hv (by omega)).mono fun _ _ h => ⟨_, .inr (.inl ⟨rfl, rfl⟩), h⟩
  · exact (rDo3 hW l v w hv (by omega)).mono fun _ _ h => ⟨_, .inr (.inr (.inl ⟨rfl, rfl⟩)), h⟩
  · exact (rDo4 hW l v w hv (by omega)).mono fun _ _ h => ⟨_, .inr (.inr (.inr (.inl ⟨rfl, rfl⟩))), h⟩
  · exact (rDo5 hW l v w hv (by omega)).mono fun _ _ h => ⟨_, .inr (.inr (.inr (.inr (.inl ⟨rfl, rfl⟩)))), h⟩
  · exact rDo6 hW l v w hv hl
  · exact (rDo7 hW l v w hv (by omega)).mono fun _ _ h => ⟨_, .inr (.inr (.inr (.inr (.inr (.inr ⟨rfl, rfl⟩))))), h⟩
theorem undoB_of {w w' : World} {e : Ending} {x : List UInt8} (h : ∃ u, e = .returned (.tuple #[u, .bool true]) ∧ IsBytes x u w' ∧ Below w.heap.size w w') : UndoB w (some x) e w' := by
  obtain ⟨u, rfl, hu, hb⟩ := h
  have hu2 := hu
  obtain ⟨A, c, rfl, -, -⟩ := hu
  exact ⟨_, _, _, rfl, hb, fun y hy => by cases hy; exact hu2⟩
theorem rUn_any {W s : Nat} (hW : IsW W) (hs : 1 ≤ s ∧ s ≤ 7) (l : List UInt8) (v : Value) (raw : Nat) (hraw : raw ≤ 16777216) (w : World) (hv : IsBytes l v w) (hl : l.length ≤ 90000) (h6 : s = 6 → l.length ≤ 1000) :
    Calls Tryz.prog 21 #[v, .int .i64 (W : Int), .int .i64 (s : Int), .int .i64 (raw : Int)] w (UndoB w (undoR W raw s l)) := by
  rcases (show s = 1 ∨ s = 2 ∨ s = 3 ∨ s = 4 ∨ s = 5 ∨ s = 6 ∨ s = 7 by omega) with rfl | rfl | rfl | rfl | rfl | rfl | rfl
  · exact (rUn1 hW l v raw w hv hl).mono fun _ _ h => undoB_of h
  · exact (rUn2 hW l v raw w hv hl).mono fun _ _ h => undoB_of h
  · exact (rUn3 hW l v raw w hv hl).mono fun _ _ h => undoB_of h
  · exact (rUn4 hW l v raw w hv hl).mono fun _ _ h => undoB_of h
  · exact (rUn5 hW l v raw w hv hl).mono fun _ _ h => undoB_of h
  · exact rUn6 hW l v raw hraw w hv (h6 rfl)
  · exact rUn7 l v raw hraw w hv hl
set_option maxHeartbeats 1000000 in
set_option maxRecDepth 100000 in
theorem rGo_not (W n : Int) (v : Value) (w : World) (h : knownB W n = false) :
    Calls Tryz.prog 7 #[v, .int .i64 W, .int .i64 n] w fun e w' => e = .returned (.tuple #[.slice none 0 0, .int .i64 2]) ∧ w = w' := by
  have c1 := fun (w' : World) => rKnown_any W n w'
  rw [h] at c1
  have C1 := Lib.hid c1
  clear h c1
  go_enter Tryz.func7, Tryz.ntmps7
  go_wp2_with fail
  refine (C1.out _).mono ?_
  rintro e w' ⟨rfl, rfl⟩
  go_wp2
  go_ret2
  exact ⟨rfl, rfl⟩
set_option maxHeartbeats 2000000 in
set_option maxRecDepth 100000 in
theorem rGo_right {W : Nat} (hW : IsW W) (n : Nat) (hn : n ≤ 10) (l : List UInt8) (v : Value) (w : World) (hv : IsBytes l v w) (hl : l.length ≤ 1000) :
    Calls Tryz.prog 7 #[v, .int .i64 (W : Int), .int .i64 (n : Int)] w fun e w' => ∃ m u, goR W (stepsL n) l m ∧ e = .returned (.tuple #[u, .int .i64 0]) ∧ IsBytes m u w' ∧ Below w.heap.size w w' := by
  have hmay : knownB (W : Int) (n : Int) = true := by
    unfold knownB
    rw [← hW.right]
    simp
    omega
  have c1 := fun (w' : World) => rKnown_any (W : Int) (n : Int) w'
  rw [hmay] at c1
  have C1 := Lib.hid c1
  have c4 := fun (w' : World) => rSteps_any (n : Int) w'
  rw [show stepsI (n : Int) = stepsL n by unfold stepsI; rw [if_pos ⟨by omega, by omega⟩, Int.toNat_natCast]] at c4
  obtain ⟨L, hL⟩ : ∃ L, L = stepsL n := ⟨_, rfl⟩
  have hst := fun (k : Nat) (hk : k < (stepsL n).length) => steps_in hn hk
  have hl4 := steps_len n
  rw [← hL] at c4 hst hl4 ⊢
  have C4 := Lib.hid c4
  have HST := Lib.hid hst
  have CD := Lib.hid (fun (s : Nat) (hs : 1 ≤ s ∧ s ≤ 7) (m : List UInt8) (v : Value) (w' : World) (h : IsBytes m v w') (hm : m.length ≤ 1000) => rDo_any hW hs m v w' h hm)
  have HV := Lib.hid hv
  obtain ⟨A, c, rfl, hc, -⟩ := hv
  clear c1 c4 hmay hL hst hn hW
  go_enter Tryz.func7, Tryz.ntmps7
  go_wp2_with fail
  refine (C1.out _).mono ?_
  rintro e w' ⟨rfl, rfl⟩
  go_wp2_with fail
  refine (C4.out _).mono ?_
  rintro e w3 ⟨v3, rfl, h3, hb3⟩
  have HB3 := Lib.hid hb3
  have HR3 := Lib.hid (HV.out.grow hb3)
  have HL3 := Lib.hid h3
  obtain ⟨A3, c3, rfl, hc3, -⟩ := h3
  rw [nvs_length]
  clear hb3 C1 C4 HV
  rw [nvs_length] at hc3 HL3
  go_wp2
  go_loopw [0, 9] (fun o i wr => GoRel w3 W L l o i wr) (fun _ i _ => L.length - (intOf i).toNat)
  case atStart => exact ⟨0, l, Nat.zero_le _, rfl, rfl, HR3.out, Below.refl _ _⟩
  case round =>
    obtain ⟨k, m, hk, rfl, HG, hm, hb⟩ := hrel
    have HB := Lib.hid hb
    have HM := Lib.hid hm
    obtain ⟨Am, cm, rfl, -, -⟩ := hm
    by_cases hlt : k < L.length
    · obtain ⟨hhead, s, hs, hs7⟩ := HST.out k hlt
      have hml : m.length ≤ 1000 := by rw [goR_keeps hhead HG.out]; exact hl
      obtain ⟨A0, c0, hv0, -, hr0⟩ := HL3.out.grow hb
      injection hv0 with e1 e2 e3
      subst e1 e3
      obtain ⟨ab, ao, rfl, hab, hcl⟩ := hr0 k _ (nvs_get L k (s + 1) hs)
      have hsn : Hid (∀ m', doR W (s + 1) m m' → goR W (L.take (k + 1)) l m') := fun m' h => by
        rw [List.take_add_one, hs]
        exact goR_snoc HG.out h
      obtain ⟨z, hz⟩ : ∃ z, z = s + 1 := ⟨_, rfl⟩
      rw [← hz] at hcl hsn
      have CE := Lib.hid (CD.out z (by omega) m _ wr HM.out hml)
      have hki : (k : Int) < (L.length : Int) := by omega
      clear hs hhead hr0 hb HM HG e2 hz hml
      go_wp2_with fail
      refine CE.out.mono ?_
      rintro e w5 ⟨m', hdo, v5, rfl, h5, hb5⟩
      have H5 := Lib.hid h5
      have HB5 := Lib.hid (HB.out.trans (hb5.mono HB.out.size))
      have HG5 := Lib.hid (hsn.out m' hdo)
      clear h5 hb5 hdo hsn CE hcl
      go_wp2
      go_roundw
      case rel => exact ⟨k + 1, m', by omega, by go_num, HG5.out, H5.out, HB5.out⟩
      case measure => simp [intOf]; omega
    · obtain rfl : k = L.length := by omega
      rw [List.take_length] at HG
      clear hb HST
      go_wp2
      go_ret2
      exact ⟨m, _, HG.out, rfl, HM.out, HB3.out.trans (HB.out.mono HB3.out.size)⟩
theorem keep_last : ∀ n : Fin 11, (match (stepsL n.val).reverse with | s :: _ => decide (s ≤ 5) | [] => true) = keepB (stepsL n.val) := by decide
theorem six_first : ∀ (n : Fin 11) (k : Fin 4), (stepsL n.val).reverse.getD k.val 0 = 6 → k.val = 0 := by decide
theorem backR_keeps {W raw : Nat} : ∀ {A : List Nat} {m x : List UInt8}, (∀ s ∈ A, 1 ≤ s ∧ s ≤ 5) → backR W raw A m = some x → x.length = m.length
  | [], m, x, _, h => by cases h; rfl
  | s :: t, m, x, hA, h => by
    obtain ⟨y, hy, hl⟩ := undoR_keeps (W := W) (raw := raw) (hA s (by simp)) m
    simp only [backR, hy, Option.bind_some] at h
    rw [backR_keeps (fun q hq => hA q (by simp [hq])) h, hl]
/-- Where a step can't be undone, or leaves another number of bytes: so it is. -/
theorem backC_stop {W n raw k : Nat} (hn : n ≤ 10) {m cur : List UInt8} (hk : k < (stepsL n).length) (hc : backR W raw ((stepsL n).reverse.take k) m = some cur) (h0 : k = 0 → cur = m) (h1 : 1 ≤ k → cur.length = raw) {s : Nat} (hs : (stepsL n).reverse[k]? = some s)
    (hu : undoR W raw s cur = none ∨ ∃ x, undoR W raw s cur = some x ∧ x.length ≠ raw) : backC W n raw m = none := by
  have hsm := List.mem_of_getElem? hs
  have hs7 := steps_all n s (by simpa using hsm)
  rcases hu with hu | ⟨x, hu, hx⟩
  · have ht : backR W raw ((stepsL n).reverse.take k ++ [s]) m = none := by rw [backR_snoc, hc]; exact hu
    have hall : backR W raw (stepsL n).reverse m = none := by
      have e : (stepsL n).reverse = ((stepsL n).reverse.take k ++ [s]) ++ (stepsL n).reverse.drop (k + 1) := by
        have h2 : (stepsL n).reverse.take (k + 1) = (stepsL n).reverse.take k ++ [s] := by rw [List.take_add_one, hs]; rfl
        rw [← h2, List.take_append_drop]
      rw [e]
      exact backR_none ht
    unfold backC
    split
    · rfl
    · exact hall
  · have hs5 : s ≤ 5 := by
      rcases (show s ≤ 5 ∨ s = 6 ∨ s = 7 by omega) with h | h | h
      · exact h
      · exact absurd (undoR_raw (W := W) (.inl h) hu) hx
      · exact absurd (undoR_raw (W := W) (.inr h) hu) hx
    obtain ⟨y, hy, hyl⟩ := undoR_keeps (W := W) (raw := raw) ⟨hs7.1, hs5⟩ cur
    rw [hy] at hu
    injection hu with hu
    subst hu
    have hk0 : k = 0 := by
      rcases Nat.eq_zero_or_pos k with h | h
      · exact h
      · exact absurd (hyl.trans (h1 h)) hx
    subst hk0
    obtain rfl := h0 rfl
    have hkl := keep_last ⟨n, by omega⟩
    simp only at hkl
    cases hr : (stepsL n).reverse with
    | nil => rw [hr] at hs; simp at hs
    | cons a t =>
      rw [hr] at hs hkl
      simp at hs
      subst hs
      unfold backC
      rw [if_pos ⟨by rw [← hkl]; simpa using hs5, by omega⟩]
theorem backC_end {W n raw : Nat} {m cur : List UInt8} (hc : backR W raw (stepsL n).reverse m = some cur) (hl : cur.length = raw) : backC W n raw m = some cur := by
  unfold backC
  rw [if_neg, hc]
  rintro ⟨hk, hne⟩
  exact hne ((backR_keeps (fun s hs => keep_all n hk s (by simpa using hs)) hc).symm.trans hl)
theorem backC_nil {W n raw : Nat} {m : List UInt8} (h : stepsL n = []) (hne : m.length ≠ raw) : backC W n raw m = none := by
  unfold backC
  rw [if_pos ⟨by rw [h]; rfl, hne⟩]
end Go.Proofs.YtcenbaajojdjlaaGreatDoor
namespace Go.Proofs.YtcenbaajojdjlaaGreatDoor
open Go.RowKit Go.Shelf

theorem may_known (W n raw : Int) (h : 0 ≤ raw ∧ raw ≤ 16777216) : mayB W n raw = knownB W n := by
  unfold mayB knownB sizedB
  have e : decide (n < 11) = decide (n ≤ 10) := by
    rw [decide_eq_decide]
    omega
  rw [e]
  simp [h.1, h.2]
set_option maxHeartbeats 1000000 in
set_option maxRecDepth 100000 in
theorem rBack_not (W n raw : Int) (v : Value) (w : World) (h : mayB W n raw = false) :
    Calls Tryz.prog 12 #[v, .int .i64 W, .int .i64 n, .int .i64 raw] w fun e w' => e = .returned (.tuple #[.slice none 0 0, .int .i64 2]) ∧ w = w' := by
  have c1 := fun (w' : World) => rKnown_any W n w'
  cases hk : knownB W n with
  | false =>
    rw [hk] at c1
    have C1 := Lib.hid c1
    clear h c1 hk
    go_enter Tryz.func12, Tryz.ntmps12
    go_wp2_with fail
    refine (C1.out _).mono ?_
    rintro e w' ⟨rfl, rfl⟩
    go_wp2
    go_ret2
    exact ⟨rfl, rfl⟩
  | true =>
    rw [hk] at c1
    have C1 := Lib.hid c1
    by_cases h0 : raw < 0
    · clear h c1 hk
      go_enter Tryz.func12, Tryz.ntmps12
      go_wp2_with fail
      refine (C1.out _).mono ?_
      rintro e w' ⟨rfl, rfl⟩
      go_wp2
      go_ret2
      exact ⟨rfl, rfl⟩
    · have h1 : 16777216 < raw := by
        rcases Int.lt_or_le 16777216 raw with g | g
        · exact g
        · rw [may_known W n raw ⟨by omega, g⟩, hk] at h
          cases h
      clear h c1 hk
      go_enter Tryz.func12, Tryz.ntmps12
      go_wp2_with fail
      refine (C1.out _).mono ?_
      rintro e w' ⟨rfl, rfl⟩
      go_wp2
      go_ret2
      exact ⟨rfl, rfl⟩
/-- What holds at the head of a round of the reference's Back. -/
def RBackRel (w : World) (W raw : Nat) (L : List Nat) (mid : List UInt8) (b i : Value) (wr : World) : Prop :=
  ∃ (k : Nat) (z : Int) (cur : List UInt8), k ≤ L.length ∧ z = (L.length : Int) - 1 - (k : Int) ∧ i = .int .i64 z ∧ IsBytes cur b wr ∧ Below w.heap.size w wr ∧
    Hid (backR W raw (L.reverse.take k) mid = some cur ∧ Fits raw cur.length ∧ (k = 0 → cur = mid) ∧ (1 ≤ k → cur.length = raw))
set_option maxHeartbeats 4000000 in
set_option maxRecDepth 100000 in
theorem rBack_right {W : Nat} (hW : IsW W) (n : Nat) (hn : n ≤ 10) (raw : Nat) (hraw : raw ≤ 16777216) (mid : List UInt8) (v : Value) (w : World) (hv : IsBytes mid v w) (hm : mid.length ≤ 600) :
    Calls Tryz.prog 12 #[v, .int .i64 (W : Int), .int .i64 (n : Int), .int .i64 (raw : Int)] w (BackAns w (backC W n raw mid)) := by
  have hmay : knownB (W : Int) (n : Int) = true := by
    unfold knownB
    rw [← hW.right]
    simp
    omega
  have c1 := fun (w' : World) => rKnown_any (W : Int) (n : Int) w'
  rw [hmay] at c1
  have C1 := Lib.hid c1
  have c4 := fun (w' : World) => rSteps_any (n : Int) w'
  rw [show stepsI (n : Int) = stepsL n by unfold stepsI; rw [if_pos ⟨by omega, by omega⟩, Int.toNat_natCast]] at c4
  obtain ⟨o, ho⟩ : ∃ o, o = backC W n raw mid := ⟨_, rfl⟩
  rw [← ho]
  have hstop := fun (k : Nat) (cur : List UInt8) (s : Nat) (hk : k < (stepsL n).length) (hc : backR W raw ((stepsL n).reverse.take k) mid = some cur) (h0 : k = 0 → cur = mid) (h1 : 1 ≤ k → cur.length = raw) (hs : (stepsL n).reverse[k]? = some s) (hu : undoR W raw s cur = none ∨ ∃ x, undoR W raw s cur = some x ∧ x.length ≠ raw) => (backC_stop hn hk hc h0 h1 hs hu)
  have hend := fun (cur : List UInt8) (hc : backR W raw (stepsL n).reverse mid = some cur) (hl : cur.length = raw) => (backC_end hc hl)
  have hnil := fun (h : stepsL n = []) (hne : mid.length ≠ raw) => (backC_nil (W := W) h hne)
  have h66 := fun (k : Nat) (hk : k < (stepsL n).length) (h : (stepsL n).reverse[k]? = some 6) => (show k = 0 by
    have hl4 := steps_len n
    have := six_first ⟨n, by omega⟩ ⟨k, by omega⟩
    simp only at this
    exact this (by rw [List.getD_eq_getElem?_getD, h]; rfl))
  have hl4 := steps_len n
  have hall := steps_all n
  rw [← ho] at hstop hend hnil
  obtain ⟨L, hL⟩ : ∃ L, L = stepsL n := ⟨_, rfl⟩
  rw [← hL] at c4 hstop hend hnil h66 hl4 hall
  have C4 := Lib.hid c4
  have HSTOP := Lib.hid hstop
  have HEND := Lib.hid hend
  have HNIL := Lib.hid hnil
  have H66 := Lib.hid h66
  have HALL := Lib.hid hall
  have CU := Lib.hid (fun (s : Nat) (hs : 1 ≤ s ∧ s ≤ 7) (m : List UInt8) (v : Value) (w' : World) (h : IsBytes m v w') (hm : m.length ≤ 90000) (h6 : s = 6 → m.length ≤ 1000) => rUn_any hW hs m v raw hraw w' h hm h6)
  have HUF := Lib.hid (fun (s : Nat) (hs : 1 ≤ s ∧ s ≤ 7) (m x : List UInt8) (h : undoR W raw s m = some x) (hf : Fits raw m.length) => undo_fits hW hs h hf)
  have HV := Lib.hid hv
  obtain ⟨A, c, rfl, hc, -⟩ := hv
  have hri : ¬ (raw : Int) < 0 := by omega
  have hri2 : (raw : Int) ≤ 16777216 := by omega
  clear c1 c4 hmay hL hn hW ho hstop hend hnil h66 hall
  go_enter Tryz.func12, Tryz.ntmps12
  go_wp2_with fail
  refine (C1.out _).mono ?_
  rintro e w' ⟨rfl, rfl⟩
  go_wp2_with fail
  refine (C4.out _).mono ?_
  rintro e w3 ⟨v3, rfl, h3, hb3⟩
  have HB3 := Lib.hid hb3
  have HM3 := Lib.hid (HV.out.grow hb3)
  have HL3 := Lib.hid h3
  obtain ⟨A3, c3, rfl, hc3, -⟩ := h3
  rw [nvs_length]
  clear hb3 C1 C4 HV
  rw [nvs_length] at hc3 HL3
  go_wp2
  go_loopw [11, 12] (fun b i wr => RBackRel w3 W raw L mid b i wr) (fun _ i _ => (intOf i + 1).toNat)
  case atStart => exact ⟨0, _, mid, Nat.zero_le _, by simp, rfl, HM3.out, Below.refl _ _, Lib.hid ⟨rfl, .inr hm, fun _ => rfl, fun h => absurd h (by decide)⟩⟩
  case round =>
    obtain ⟨k, z, cur, hk, hz, rfl, hcur, hb, HC⟩ := hrel
    have HB := Lib.hid hb
    have HM := Lib.hid hcur
    obtain ⟨Am, cm, rfl, -, -⟩ := hcur
    by_cases hlt : k < L.length
    · obtain ⟨q, hq⟩ : ∃ q, q = L.length - 1 - k := ⟨_, rfl⟩
      have hzq : z = (q : Int) := by omega
      subst hzq
      have hql : q < L.length := by omega
      obtain ⟨s, hs⟩ : ∃ s, L[q]? = some s := ⟨L[q], List.getElem?_eq_getElem hql⟩
      have hrev : L.reverse[k]? = some s := by
        rw [List.getElem?_reverse hlt, ← hq]
        exact hs
      have hs7 := HALL.out s (List.mem_of_getElem? hs)
      obtain ⟨A0, c0, hv0, -, hr0⟩ := HL3.out.grow hb
      injection hv0 with e1 e2 e3
      subst e1 e3
      obtain ⟨ab, ao, rfl, hab, hcl⟩ := hr0 q _ (nvs_get L q s hs)
      have hl9 : cur.length ≤ 90000 := by rcases HC.out.2.1 with ⟨_, h⟩ | h <;> omega
      have h6 : s = 6 → cur.length ≤ 1000 := fun h => by
        have := H66.out k hlt (by rw [hrev, h])
        rw [HC.out.2.2.1 this]
        omega
      have cu := CU.out s hs7 cur _ wr HM.out hl9 h6
      have HST := Lib.hid (fun hu => HSTOP.out k cur s hlt HC.out.1 HC.out.2.2.1 HC.out.2.2.2 hrev hu)
      have HNX := Lib.hid (fun (x : List UInt8) (hx : undoR W raw s cur = some x) (hxl : x.length = raw) => (show backR W raw (L.reverse.take (k + 1)) mid = some x ∧ Fits raw x.length ∧ (k + 1 = 0 → x = mid) ∧ (1 ≤ k + 1 → x.length = raw) from
        ⟨by rw [List.take_add_one, hrev]; show backR W raw (L.reverse.take k ++ [s]) mid = some x; rw [backR_snoc, HC.out.1]; exact hx, HUF.out s hs7 cur x hx HC.out.2.1, fun h => absurd h (by omega), fun _ => hxl⟩))
      obtain ⟨ou, hou⟩ : ∃ ou, ou = undoR W raw s cur := ⟨_, rfl⟩
      rw [← hou] at cu
      have HOU := Lib.hid hou
      have CV := Lib.hid cu
      have hqi : (q : Int) < (L.length : Int) := by omega
      have HQ := Lib.hid hq
      clear hrev hs hs7 hab hr0 hl9 h6 cu hou hq e2 hb HC hz
      go_wp2_with fail
      refine CV.out.mono ?_
      rintro e w5 ⟨A5, n5, c5, rfl, hb5, h5⟩
      have HB5 := Lib.hid (HB.out.trans (hb5.mono HB.out.size))
      have H5 := Lib.hid h5
      clear hb5 h5 hcl CV
      cases ou with
      | none =>
        have hon : o = none := HST.out (.inl HOU.out.symm)
        subst hon
        have hen : Option.isSome (none : Option (List UInt8)) = false := rfl
        rw [hen]
        clear hen
        go_wp2
        go_ret2
        exact ⟨_, _, _, rfl, HB3.out.trans (HB5.out.mono HB3.out.size), nil_bytes _⟩
      | some x =>
        have hen : (some x).isSome = true := rfl
        rw [hen]
        clear hen
        have hx5 := H5.out x rfl
        have HX5 := Lib.hid hx5
        obtain ⟨A6, c6, he6, -, -⟩ := hx5
        injection he6 with e1 e2 e3
        subst e1 e2 e3
        by_cases hxl : x.length = raw
        · have hni : (((x.length : Nat) : Int) != ((raw : Nat) : Int)) = false := by rw [hxl]; simp
          have HN := Lib.hid (HNX.out x HOU.out.symm hxl)
          clear hxl
          go_wp2
          go_roundw
          case rel => exact ⟨k + 1, _, x, by omega, by have := HQ.out; omega, rfl, HX5.out, HB5.out, HN⟩
          case measure => simp [intOf]
        · have hon : o = none := HST.out (.inr ⟨x, HOU.out.symm, hxl⟩)
          subst hon
          have hni : (((x.length : Nat) : Int) != ((raw : Nat) : Int)) = true := by rw [bne_iff_ne]; omega
          clear hxl
          go_wp2
          go_ret2
          exact ⟨_, _, _, rfl, HB3.out.trans (HB5.out.mono HB3.out.size), nil_bytes _⟩
    · obtain rfl : k = L.length := by omega
      have hz1 : z = -1 := by omega
      subst hz1
      obtain ⟨hc1, hc2, hc3, hc4⟩ := HC.out
      rw [List.take_of_length_le (by rw [List.length_reverse]; exact Nat.le_refl _)] at hc1
      by_cases hcl : cur.length = raw
      · have hon := HEND.out cur hc1 hcl
        subst hon
        have hni : (((cur.length : Nat) : Int) != ((raw : Nat) : Int)) = false := by rw [hcl]; simp
        clear hc1 hc2 hc3 hc4 hcl hb hz HSTOP HEND HNIL H66 HALL CU HUF HC
        go_wp2
        go_ret2
        exact ⟨_, _, _, rfl, HB3.out.trans (HB.out.mono HB3.out.size), HM.out⟩
      · have hk0 : L.length = 0 := by
          rcases Nat.eq_zero_or_pos L.length with h | h
          · exact h
          · exact absurd (hc4 h) hcl
        have hon : o = none := HNIL.out (List.length_eq_zero_iff.1 hk0) (by rw [← hc3 hk0]; exact hcl)
        subst hon
        have hni : (((cur.length : Nat) : Int) != ((raw : Nat) : Int)) = true := by rw [bne_iff_ne]; omega
        clear hc1 hc2 hc3 hc4 hcl hb hz HSTOP HEND HNIL H66 HALL CU HUF HC hk0
        go_wp2
        go_ret2
        exact ⟨_, _, _, rfl, HB3.out.trans (HB.out.mono HB3.out.size), nil_bytes _⟩
end Go.Proofs.YtcenbaajojdjlaaGreatDoor
