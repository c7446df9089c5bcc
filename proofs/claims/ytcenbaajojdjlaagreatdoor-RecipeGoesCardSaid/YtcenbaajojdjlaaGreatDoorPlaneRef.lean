/- Contracts of layer 8's reference: Split, Join. -/
import Derived.Test.YtcenbaajojdjlaaGreatDoorPlaneMove
namespace Go.Proofs.YtcenbaajojdjlaaGreatDoor
open Go.RowKit

theorem size_u8p : (Tryz.prog.info? 5).map (·.size) = some 1 := by kernel_rfl
theorem moveL_take (f : Nat → Nat) (l : List UInt8) (m : Nat) (h : m < l.length) : bvs ((moveL f l).take (m + 1)) = bvs ((moveL f l).take m) ++ [.int .u8 ((l.getD (f m) 0).toNat : Int)] := by
  have hm : m < (moveL f l).length := by rw [moveL_len]; exact h
  rw [← List.take_append_getElem hm, bvs_append]
  congr 1
  simp [bvs, moveL]
theorem moveL_end (f : Nat → Nat) (l : List UInt8) (m : Nat) (h : ∀ i, m ≤ i → f i = i) : (moveL f l).take m ++ l.drop m = moveL f l := by
  have e : (moveL f l).drop m = l.drop m := by
    refine List.ext_getElem (by simp [moveL]) fun i h1 h2 => ?_
    rw [List.length_drop] at h1 h2
    rw [moveL_len] at h1
    simp [moveL, h (m + i) (by omega), List.getD_eq_getElem?_getD, show m + i < l.length by omega]
  rw [← e]
  exact List.take_append_drop m _
theorem from_at {n W k i q : Nat} (hq : q = n / W) (hk : k < W) (hi : i < q) : fromI n W (k * q + i) = i * W + k := by
  have h : k * q + i < q * W := by
    have h3 := Nat.mul_le_mul_right q (show k + 1 ≤ W from hk)
    rw [Nat.add_mul, Nat.one_mul, Nat.mul_comm W] at h3
    omega
  rw [fromI, ← hq, if_neg (by omega), Nat.mul_comm k, Nat.mul_add_mod, Nat.mod_eq_of_lt hi, Nat.mul_add_div (by omega), Nat.div_eq_of_lt hi, Nat.add_zero]
theorem to_at {n W k i q : Nat} (hq : q = n / W) (hi : i < q) (hk : k < W) : toI n W (i * W + k) = k * q + i := by
  have h : i * W + k < q * W := by
    have h3 := Nat.mul_le_mul_right W (show i + 1 ≤ q from hi)
    rw [Nat.add_mul, Nat.one_mul] at h3
    omega
  rw [toI, ← hq, if_neg (by omega), Nat.mul_comm i, Nat.mul_add_mod, Nat.mod_eq_of_lt hk, Nat.mul_add_div (by omega), Nat.div_eq_of_lt hk, Nat.add_zero]
theorem idx_num (X a b J n : Nat) (hJ : b * X + a = J) (h : J < n) (hn : n ≤ 1000000000000) : wrap64 (wrap64 ((b : Int) * (X : Int)) + (a : Int)) = (J : Int) := by
  have h1 : b * X ≤ J := by rw [← hJ]; exact Nat.le_add_right _ _
  rw [← Int.natCast_mul, nat_in _ (by omega), ← Int.natCast_add, hJ, nat_in J (by omega)]
theorem grid_lt (X Y a b : Nat) (ha : a < X) (hb : b < Y) : a * Y + b < X * Y := by
  have h3 := Nat.mul_le_mul_right Y (show a + 1 ≤ X from ha)
  rw [Nat.add_mul, Nat.one_mul] at h3
  exact Nat.lt_of_lt_of_le (Nat.add_lt_add_left hb _) h3
theorem grid_in (X Y P a b : Nat) (hP : X * Y = P) (ha : a < X) (hb : b < Y) : a * Y + b < P ∧ b * X + a < P := by
  refine ⟨hP ▸ grid_lt X Y a b ha hb, ?_⟩
  rw [← hP, Nat.mul_comm X]
  exact grid_lt Y X b a hb ha
/-- What holds at the head of a round: m bytes are laid. -/
def RefP (w : World) (n Y a : Nat) (L : List UInt8) (v i : Value) (wr : World) : Prop :=
  ∃ k : Nat, k ≤ n ∧ i = .int .i64 k ∧ wr.ownsRow w.heap.size 5 1 v (a + k * Y) (bvs (L.take (a + k * Y))) ∧ Below w.heap.size w wr

theorem refSplit_wrong (a : Value) (W : Int) (w : World) (hW : rightB W = false) :
    Calls Tryz.prog 44 #[a, .int .i64 W] w (NewBs w []) := by
  have C1 := Lib.hid (refRight_any W false hW.symm)
  clear hW
  go_enter Tryz.func44, Tryz.ntmps44
  go_wp2_with (go_at_call 39; go_must (refine (C1.out _).mono ?_; rintro e w' ⟨rfl, rfl⟩))
  go_ret
  exact ⟨.slice none 0 0, rfl, ⟨none, 0, rfl, Nat.le_refl _, Rd.nil_ _ _ _⟩, Below.refl _ _⟩
set_option maxHeartbeats 2000000 in
set_option maxRecDepth 100000 in
theorem refSplit_right (W : Nat) (hW : IsW W) (A : Option Addr) (n c : Nat) (l : List UInt8) (w : World) (hr : Rd w w.heap.size A (bvs l)) (hn : l.length = n) (hnc : n ≤ c) (hb1 : n ≤ 1000000000000) :
    Calls Tryz.prog 44 #[.slice A n c, .int .i64 (W : Int)] w (NewBs w (splitL W l)) := by
  obtain ⟨i0, hi, hz0, hz1, hz2⟩ := info_parts info_u8p
  subst hn
  have C1 := Lib.hid (refRight_any (W : Int) true hW.right)
  have hp := hW.pos
  have hv0 : (W : Int) ≠ 0 := by omega
  have hp8 := hp.2
  obtain ⟨q, hq⟩ : ∃ q, q = l.length / W := ⟨_, rfl⟩
  obtain ⟨P, hP⟩ : ∃ P, P = q * W := ⟨_, rfl⟩
  have hqm : q ≤ l.length := by rw [hq]; exact Nat.div_le_self _ _
  have hPm : P ≤ l.length := by rw [hP, hq]; exact div_le'
  have e1 : wrap64 ((l.length : Int) / (W : Int)) = (q : Int) := by rw [← Int.natCast_ediv, ← hq]; exact nat_in q (by omega)
  have e2 : wrap64 ((q : Int) * (W : Int)) = (P : Int) := by rw [← Int.natCast_mul, ← hP]; exact nat_in P (by omega)
  have hend : (splitL W l).take P ++ l.drop P = splitL W l := moveL_end _ _ _ fun i hi => by
    rw [fromI, ← hq, ← hP, if_pos hi]
  have hstep : ∀ a b, a < W → b < q → b * W + a < l.length ∧ a * q + b < l.length ∧ bvs ((splitL W l).take (a * q + b + 1)) = bvs ((splitL W l).take (a * q + b)) ++ [.int .u8 ((l.getD (b * W + a) 0).toNat : Int)] := by
    intro a b ha hb
    obtain ⟨h1, h2⟩ := grid_in W q P a b (by rw [hP, Nat.mul_comm]) ha hb
    refine ⟨Nat.lt_of_lt_of_le h2 hPm, Nat.lt_of_lt_of_le h1 hPm, ?_⟩
    rw [splitL, moveL_take _ _ _ (Nat.lt_of_lt_of_le h1 hPm), from_at hq ha hb]
  have hXY : 0 + W * q = P := by rw [Nat.zero_add, hP, Nat.mul_comm]
  have H1 := Lib.hid e1
  have HEND := Lib.hid hend
  have HSTEP := Lib.hid hstep
  have HXY := Lib.hid hXY
  clear hq hP hend hstep hXY hW hp
  go_enter Tryz.func44, Tryz.ntmps44
  go_wp2_with (go_at_call 39; go_must (refine (C1.out _).mono ?_; rintro e w' ⟨rfl, rfl⟩))
  simp only [e1]
  clear e1
  go_loopw [6, 7] (RefP w W q 0 (splitL W l)) (fun _ i _ => W - (intOf i).toNat)
  case atStart => exact ⟨0, Nat.zero_le _, rfl, by rw [Nat.zero_mul]; exact World.ownsRow_nil _ _ _ _, Below.refl _ _⟩
  case round =>
    obtain ⟨a, ha, rfl, hown, hb⟩ := hrel
    have hbs := hb.size
    by_cases hlt : a < W
    · have ha1 : (a : Int) < (W : Int) := by omega
      go_wp2
      go_loopw [6, 8] (RefP w q 1 (a * q) (splitL W l)) (fun _ i _ => q - (intOf i).toNat)
      case atStart => exact ⟨0, Nat.zero_le _, rfl, by simpa using hown, hb⟩
      case round =>
        clear hown hb hbs
        obtain ⟨b, hbk, rfl, hown, hb⟩ := hrel
        have hbs := hb.size
        rw [Nat.mul_one] at hown
        by_cases hlt2 : b < q
        · obtain ⟨hJl, hml, hst⟩ := HSTEP.out a b hlt hlt2
          have hb2 : (b : Int) < (q : Int) := by omega
          obtain ⟨J, hJ⟩ : ∃ J, J = b * W + a := ⟨_, rfl⟩
          rw [← hJ] at hJl hst
          have e5 := idx_num W a b J l.length hJ.symm hJl hb1
          have hm1 : (wrap64 (wrap64 ((b : Int) * (W : Int)) + (a : Int))).toNat = J := by rw [e5]; rfl
          have hm2 : 0 ≤ wrap64 (wrap64 ((b : Int) * (W : Int)) + (a : Int)) := by rw [e5]; exact Int.natCast_nonneg _
          have hm3 : wrap64 (wrap64 ((b : Int) * (W : Int)) + (a : Int)) < (l.length : Int) := by rw [e5]; exact Int.ofNat_lt.2 hJl
          have hd : l.getD J 0 = l[J] := by simp [List.getD_eq_getElem?_getD, hJl]
          rw [hd] at hst
          obtain ⟨ab, ao, rfl, hab, hcell0⟩ := hr J _ (bvs_get l J hJl)
          have hcell := (hb.cell (p := ⟨ab, ao + J, none⟩) hab).trans hcell0
          obtain ⟨v, hv⟩ : ∃ v, v = l[J] := ⟨_, rfl⟩
          rw [← hv] at hcell hst
          have HST := Lib.hid hst
          clear hst hv hd hcell0 e5 hJ
          obtain ⟨m, hm⟩ : ∃ m, m = a * q + b := ⟨_, rfl⟩
          rw [← hm] at hown hml
          have HM := Lib.hid hm
          rw [← HM.out] at HST
          have hA1 : m + 1 ≤ maxLen := by simp only [maxLen]; omega
          have hA2 : (m + 1) * 1 ≤ 140737488355328 := by omega
          have HOWN := Lib.hid hown
          have HB := Lib.hid (And.intro hb hbs)
          clear hm hml hown hb hbs hJl
          go_wp2_with ((with_reducible show wpList _ _ _ (({ dst := some 36, op := _, type := _, pos := _, after := _, guard := _ } : Oper) :: _) _ _); go_must (refine wpList_app rfl (.tmp 26) (.tmp 35) 22 rfl w.heap.size 5 i0 (.int .u8 0) 1 1 Tryz.underlying22 hi hz0 hz1 hz2 rfl (by decide) _ _ _ rfl (HOWN.out.alloc _) _ _ 1 1 _ rfl (Rd.new _ _ _) rfl (by intro u hu; simp at hu; subst hu; rfl) hA1 hA2 (by have := HB.out.2; simp; omega) ?_; intro v1 w1 hown1 hg1; have hb1' : Below w.heap.size w w1 := (HB.out.1.alloc HB.out.2 _).grown hg1 (by have := HB.out.2; simp; omega) (own_block HOWN.out); clear hg1))
          have hown2 : w1.ownsRow w.heap.size 5 1 v1 (a * q + (b + 1) * 1) (bvs ((splitL W l).take (a * q + (b + 1) * 1))) := by
            rw [Nat.mul_one, ← Nat.add_assoc, ← HM.out, HST.out]
            exact hown1
          clear hown1 hA1 hA2 HOWN HB HST HM
          go_roundw
          case rel => exact ⟨b + 1, by omega, by go_num, hown2, hb1'⟩
          case measure => simp [intOf]; omega
        · have hbe : b = q := by omega
          have hb2 : ¬ ((b : Int) < (q : Int)) := by omega
          rw [hbe, show a * q + q = 0 + (a + 1) * q by rw [Nat.zero_add, Nat.add_mul, Nat.one_mul]] at hown
          have HOWN := Lib.hid hown
          clear hown hbe
          go_wp2
          go_roundw
          case rel => exact ⟨a + 1, by omega, by go_num, HOWN.out, hb⟩
          case measure => simp [intOf]; omega
    · have hae : a = W := by omega
      have ha2 : ¬ ((a : Int) < (W : Int)) := by omega
      rw [hae, HXY.out] at hown
      have hrd := (hr.below hb).more hbs
      have hlen : (bvs (l.drop P)).length = (l.length - P) * 1 := by rw [bvs_length, List.length_drop, Nat.mul_one]
      have hA1 : P + (l.length - P) ≤ maxLen := by simp only [maxLen]; omega
      have hA2 : (P + (l.length - P)) * 1 ≤ 140737488355328 := by omega
      have HE := Lib.hid (congrArg (Value.int .i64) e2)
      have HOWN := Lib.hid hown
      have HB := Lib.hid (And.intro hb hbs)
      have HR := Lib.hid hrd
      have HP := Lib.hid (And.intro hPm (And.intro hlen (And.intro hA1 hA2)))
      clear hae hown hb hbs hrd hlen hA1 hA2 hr e2 hPm hqm
      go_wp2_with (first
        | ((with_reducible show wpList _ _ _ (({ dst := some 42, op := _, type := _, pos := _, after := _, guard := _ } : Oper) :: _) _ _); go_must (refine wpList_from rfl (.tmp 38) (.tmp 41) rfl Tryz.underlying22 size_u8p wr.heap.size A l.length c P (bvs l) rfl HE.out HR.out (bvs_length l) hnc HP.out.1 ?_; intro A' c' hc' hrd'; rw [bvs_drop] at hrd'))
        | ((with_reducible show wpList _ _ _ (({ dst := some 43, op := _, type := _, pos := _, after := _, guard := _ } : Oper) :: _) _ _); go_must (refine wpList_app rfl (.tmp 37) (.tmp 42) 22 rfl w.heap.size 5 i0 (.int .u8 0) 1 1 Tryz.underlying22 hi hz0 hz1 hz2 rfl (by decide) _ _ _ rfl HOWN.out wr.heap.size A' (l.length - P) c' (bvs (l.drop P)) rfl hrd' HP.out.2.1 (bvs_one _) HP.out.2.2.1 HP.out.2.2.2 HB.out.2 ?_; intro v1 w1 hown1 hg1; have hb1' : Below w.heap.size w w1 := HB.out.1.grown hg1 HB.out.2 (own_block HOWN.out); clear hg1)))
      go_ret
      rw [← bvs_append, HEND.out] at hown1
      refine ⟨_, rfl, IsBytes.of_own (base := w.heap.size) (e := 5) ?_, hb1'⟩
      have hl : P + (l.length - P) = (splitL W l).length := by
        have := HP.out.1
        rw [splitL_len]
        omega
      rw [hl] at hown1
      exact hown1
theorem refSplit_any (W : Int) (A : Option Addr) (n c : Nat) (l : List UInt8) (w : World) (hr : Rd w w.heap.size A (bvs l)) (hn : l.length = n) (hnc : n ≤ c) (hb1 : n ≤ 1000000000000) :
    Calls Tryz.prog 44 #[.slice A n c, .int .i64 W] w (NewBs w (ofB splitL W l)) := by
  cases hR : rightB W with
  | true =>
    obtain ⟨V, rfl, hV⟩ := isW_of hR
    rw [ofB_of hV]
    exact refSplit_right V hV A n c l w hr hn hnc hb1
  | false =>
    unfold ofB
    rw [hR, if_neg (by decide)]
    exact refSplit_wrong _ W w hR
theorem refJoin_wrong (a : Value) (W : Int) (w : World) (hW : rightB W = false) :
    Calls Tryz.prog 55 #[a, .int .i64 W] w (NewBs w []) := by
  have C1 := Lib.hid (refRight_any W false hW.symm)
  clear hW
  go_enter Tryz.func55, Tryz.ntmps55
  go_wp2_with (go_at_call 39; go_must (refine (C1.out _).mono ?_; rintro e w' ⟨rfl, rfl⟩))
  go_ret
  exact ⟨.slice none 0 0, rfl, ⟨none, 0, rfl, Nat.le_refl _, Rd.nil_ _ _ _⟩, Below.refl _ _⟩
set_option maxHeartbeats 2000000 in
set_option maxRecDepth 100000 in
theorem refJoin_right (W : Nat) (hW : IsW W) (A : Option Addr) (n c : Nat) (l : List UInt8) (w : World) (hr : Rd w w.heap.size A (bvs l)) (hn : l.length = n) (hnc : n ≤ c) (hb1 : n ≤ 1000000000000) :
    Calls Tryz.prog 55 #[.slice A n c, .int .i64 (W : Int)] w (NewBs w (joinL W l)) := by
  obtain ⟨i0, hi, hz0, hz1, hz2⟩ := info_parts info_u8p
  subst hn
  have C1 := Lib.hid (refRight_any (W : Int) true hW.right)
  have hp := hW.pos
  have hv0 : (W : Int) ≠ 0 := by omega
  have hp8 := hp.2
  obtain ⟨q, hq⟩ : ∃ q, q = l.length / W := ⟨_, rfl⟩
  obtain ⟨P, hP⟩ : ∃ P, P = q * W := ⟨_, rfl⟩
  have hqm : q ≤ l.length := by rw [hq]; exact Nat.div_le_self _ _
  have hPm : P ≤ l.length := by rw [hP, hq]; exact div_le'
  have e1 : wrap64 ((l.length : Int) / (W : Int)) = (q : Int) := by rw [← Int.natCast_ediv, ← hq]; exact nat_in q (by omega)
  have e2 : wrap64 ((q : Int) * (W : Int)) = (P : Int) := by rw [← Int.natCast_mul, ← hP]; exact nat_in P (by omega)
  have hend : (joinL W l).take P ++ l.drop P = joinL W l := moveL_end _ _ _ fun i hi => by
    rw [toI, ← hq, ← hP, if_pos hi]
  have hstep : ∀ a b, a < q → b < W → b * q + a < l.length ∧ a * W + b < l.length ∧ bvs ((joinL W l).take (a * W + b + 1)) = bvs ((joinL W l).take (a * W + b)) ++ [.int .u8 ((l.getD (b * q + a) 0).toNat : Int)] := by
    intro a b ha hb
    obtain ⟨h1, h2⟩ := grid_in q W P a b (by rw [hP]) ha hb
    refine ⟨Nat.lt_of_lt_of_le h2 hPm, Nat.lt_of_lt_of_le h1 hPm, ?_⟩
    rw [joinL, moveL_take _ _ _ (Nat.lt_of_lt_of_le h1 hPm), to_at hq ha hb]
  have hXY : 0 + q * W = P := by rw [Nat.zero_add, hP]
  have H1 := Lib.hid e1
  have HEND := Lib.hid hend
  have HSTEP := Lib.hid hstep
  have HXY := Lib.hid hXY
  clear hq hP hend hstep hXY hW hp
  go_enter Tryz.func55, Tryz.ntmps55
  go_wp2_with (go_at_call 39; go_must (refine (C1.out _).mono ?_; rintro e w' ⟨rfl, rfl⟩))
  simp only [e1]
  clear e1
  go_loopw [6, 7] (RefP w q W 0 (joinL W l)) (fun _ i _ => q - (intOf i).toNat)
  case atStart => exact ⟨0, Nat.zero_le _, rfl, by rw [Nat.zero_mul]; exact World.ownsRow_nil _ _ _ _, Below.refl _ _⟩
  case round =>
    obtain ⟨a, ha, rfl, hown, hb⟩ := hrel
    have hbs := hb.size
    by_cases hlt : a < q
    · have ha1 : (a : Int) < (q : Int) := by omega
      go_wp2
      go_loopw [6, 8] (RefP w W 1 (a * W) (joinL W l)) (fun _ i _ => W - (intOf i).toNat)
      case atStart => exact ⟨0, Nat.zero_le _, rfl, by simpa using hown, hb⟩
      case round =>
        clear hown hb hbs
        obtain ⟨b, hbk, rfl, hown, hb⟩ := hrel
        have hbs := hb.size
        rw [Nat.mul_one] at hown
        by_cases hlt2 : b < W
        · obtain ⟨hJl, hml, hst⟩ := HSTEP.out a b hlt hlt2
          have hb2 : (b : Int) < (W : Int) := by omega
          obtain ⟨J, hJ⟩ : ∃ J, J = b * q + a := ⟨_, rfl⟩
          rw [← hJ] at hJl hst
          have e5 := idx_num q a b J l.length hJ.symm hJl hb1
          have hm1 : (wrap64 (wrap64 ((b : Int) * (q : Int)) + (a : Int))).toNat = J := by rw [e5]; rfl
          have hm2 : 0 ≤ wrap64 (wrap64 ((b : Int) * (q : Int)) + (a : Int)) := by rw [e5]; exact Int.natCast_nonneg _
          have hm3 : wrap64 (wrap64 ((b : Int) * (q : Int)) + (a : Int)) < (l.length : Int) := by rw [e5]; exact Int.ofNat_lt.2 hJl
          have hd : l.getD J 0 = l[J] := by simp [List.getD_eq_getElem?_getD, hJl]
          rw [hd] at hst
          obtain ⟨ab, ao, rfl, hab, hcell0⟩ := hr J _ (bvs_get l J hJl)
          have hcell := (hb.cell (p := ⟨ab, ao + J, none⟩) hab).trans hcell0
          obtain ⟨v, hv⟩ : ∃ v, v = l[J] := ⟨_, rfl⟩
          rw [← hv] at hcell hst
          have HST := Lib.hid hst
          clear hst hv hd hcell0 e5 hJ
          obtain ⟨m, hm⟩ : ∃ m, m = a * W + b := ⟨_, rfl⟩
          rw [← hm] at hown hml
          have HM := Lib.hid hm
          rw [← HM.out] at HST
          have hA1 : m + 1 ≤ maxLen := by simp only [maxLen]; omega
          have hA2 : (m + 1) * 1 ≤ 140737488355328 := by omega
          have HOWN := Lib.hid hown
          have HB := Lib.hid (And.intro hb hbs)
          clear hm hml hown hb hbs hJl
          go_wp2_with ((with_reducible show wpList _ _ _ (({ dst := some 36, op := _, type := _, pos := _, after := _, guard := _ } : Oper) :: _) _ _); go_must (refine wpList_app rfl (.tmp 26) (.tmp 35) 22 rfl w.heap.size 5 i0 (.int .u8 0) 1 1 Tryz.underlying22 hi hz0 hz1 hz2 rfl (by decide) _ _ _ rfl (HOWN.out.alloc _) _ _ 1 1 _ rfl (Rd.new _ _ _) rfl (by intro u hu; simp at hu; subst hu; rfl) hA1 hA2 (by have := HB.out.2; simp; omega) ?_; intro v1 w1 hown1 hg1; have hb1' : Below w.heap.size w w1 := (HB.out.1.alloc HB.out.2 _).grown hg1 (by have := HB.out.2; simp; omega) (own_block HOWN.out); clear hg1))
          have hown2 : w1.ownsRow w.heap.size 5 1 v1 (a * W + (b + 1) * 1) (bvs ((joinL W l).take (a * W + (b + 1) * 1))) := by
            rw [Nat.mul_one, ← Nat.add_assoc, ← HM.out, HST.out]
            exact hown1
          clear hown1 hA1 hA2 HOWN HB HST HM
          go_roundw
          case rel => exact ⟨b + 1, by omega, by go_num, hown2, hb1'⟩
          case measure => simp [intOf]; omega
        · have hbe : b = W := by omega
          have hb2 : ¬ ((b : Int) < (W : Int)) := by omega
          rw [hbe, show a * W + W = 0 + (a + 1) * W by rw [Nat.zero_add, Nat.add_mul, Nat.one_mul]] at hown
          have HOWN := Lib.hid hown
          clear hown hbe
          go_wp2
          go_roundw
          case rel => exact ⟨a + 1, by omega, by go_num, HOWN.out, hb⟩
          case measure => simp [intOf]; omega
    · have hae : a = q := by omega
      have ha2 : ¬ ((a : Int) < (q : Int)) := by omega
      rw [hae, HXY.out] at hown
      have hrd := (hr.below hb).more hbs
      have hlen : (bvs (l.drop P)).length = (l.length - P) * 1 := by rw [bvs_length, List.length_drop, Nat.mul_one]
      have hA1 : P + (l.length - P) ≤ maxLen := by simp only [maxLen]; omega
      have hA2 : (P + (l.length - P)) * 1 ≤ 140737488355328 := by omega
      have HE := Lib.hid (congrArg (Value.int .i64) e2)
      have HOWN := Lib.hid hown
      have HB := Lib.hid (And.intro hb hbs)
      have HR := Lib.hid hrd
      have HP := Lib.hid (And.intro hPm (And.intro hlen (And.intro hA1 hA2)))
      clear hae hown hb hbs hrd hlen hA1 hA2 hr e2 hPm hqm
      go_wp2_with (first
        | ((with_reducible show wpList _ _ _ (({ dst := some 42, op := _, type := _, pos := _, after := _, guard := _ } : Oper) :: _) _ _); go_must (refine wpList_from rfl (.tmp 38) (.tmp 41) rfl Tryz.underlying22 size_u8p wr.heap.size A l.length c P (bvs l) rfl HE.out HR.out (bvs_length l) hnc HP.out.1 ?_; intro A' c' hc' hrd'; rw [bvs_drop] at hrd'))
        | ((with_reducible show wpList _ _ _ (({ dst := some 43, op := _, type := _, pos := _, after := _, guard := _ } : Oper) :: _) _ _); go_must (refine wpList_app rfl (.tmp 37) (.tmp 42) 22 rfl w.heap.size 5 i0 (.int .u8 0) 1 1 Tryz.underlying22 hi hz0 hz1 hz2 rfl (by decide) _ _ _ rfl HOWN.out wr.heap.size A' (l.length - P) c' (bvs (l.drop P)) rfl hrd' HP.out.2.1 (bvs_one _) HP.out.2.2.1 HP.out.2.2.2 HB.out.2 ?_; intro v1 w1 hown1 hg1; have hb1' : Below w.heap.size w w1 := HB.out.1.grown hg1 HB.out.2 (own_block HOWN.out); clear hg1)))
      go_ret
      rw [← bvs_append, HEND.out] at hown1
      refine ⟨_, rfl, IsBytes.of_own (base := w.heap.size) (e := 5) ?_, hb1'⟩
      have hl : P + (l.length - P) = (joinL W l).length := by
        have := HP.out.1
        rw [joinL_len]
        omega
      rw [hl] at hown1
      exact hown1
theorem refJoin_any (W : Int) (A : Option Addr) (n c : Nat) (l : List UInt8) (w : World) (hr : Rd w w.heap.size A (bvs l)) (hn : l.length = n) (hnc : n ≤ c) (hb1 : n ≤ 1000000000000) :
    Calls Tryz.prog 55 #[.slice A n c, .int .i64 W] w (NewBs w (ofB joinL W l)) := by
  cases hR : rightB W with
  | true =>
    obtain ⟨V, rfl, hV⟩ := isW_of hR
    rw [ofB_of hV]
    exact refJoin_right V hV A n c l w hr hn hnc hb1
  | false =>
    unfold ofB
    rw [hR, if_neg (by decide)]
    exact refJoin_wrong _ W w hR
end Go.Proofs.YtcenbaajojdjlaaGreatDoor
