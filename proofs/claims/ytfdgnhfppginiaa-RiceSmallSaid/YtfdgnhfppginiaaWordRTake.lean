/- Contracts of layer 4: Take of the reference. -/
import Derived.Test.YtfdgnhfppginiaaWordTake
namespace Go.Proofs.Ytfdgnhfppginiaa
open Go.RowKit

theorem refTake_wrong (A : Option Addr) (n c : Nat) (W : Int) (w : World) (hW : rightB W = false) :
    Calls Try.prog 88 #[.slice A n c, .int .i64 W] w (NewTake w [] []) := by
  have c1 := refRight_any W false hW.symm
  have C1 := Lib.hid c1
  clear c1
  go_enter Try.func88, Try.ntmps88
  go_wp2_with (go_at_call 40; go_must (refine (C1.out _).mono ?_; rintro e w' ⟨rfl, rfl⟩))
  go_ret2
  exact ⟨.slice none 0 0, .slice none 0 0, rfl, ⟨none, 0, rfl, Nat.le_refl _, Rd.nil_ _ _ _⟩, ⟨none, 0, rfl, Nat.le_refl _, Rd.nil_ _ _ _⟩, Below.refl _ _⟩

/-- What holds at the head of a round over a word's bytes, the highest first. -/
def ByteRel (W : Nat) (ch : List UInt8) (v k : Value) : Prop :=
  (∃ t : Nat, t < W ∧ k = .int .i64 t ∧ v = .int .u64 (leN (ch.drop (t + 1)) : Int)) ∨ (k = .int .i64 (-1) ∧ v = .int .u64 (leN ch : Int))
theorem byte_step (ch : List UInt8) (t : Nat) (h : t < ch.length) (h8 : ch.length ≤ 8) : IntKind.u64.wrap (IntKind.u64.wrap (256 * (leN (ch.drop (t + 1)) : Int)) + (ch[t].toNat : Int)) = (leN (ch.drop t) : Int) := by
  have e : leN (ch.drop t) = ch[t].toNat + 256 * leN (ch.drop (t + 1)) := by rw [List.drop_eq_getElem_cons h]; rfl
  have h1 := leN_lt (ch.drop t)
  have h2 : 256 ^ (ch.drop t).length ≤ 256 ^ 8 := Nat.pow_le_pow_right (by decide) (by rw [List.length_drop]; omega)
  have h3 : (256 : Nat) ^ 8 = 18446744073709551616 := by decide
  rw [IntKind.wrap_u64, IntKind.wrap_u64]
  omega
/-- What holds at the head of a round over the words. -/
def RTakeRel (w : World) (W m : Nat) (l : List UInt8) (v i : Value) (wr : World) : Prop :=
  ∃ k : Nat, k ≤ m ∧ i = .int .i64 k ∧ wr.ownsRow w.heap.size 66 1 v k (wvs (wordsN k W l)) ∧ Below w.heap.size w wr
theorem IsCells.of_own {w : World} {base e n : Nat} {v : Value} {xs : List Value} (h : w.ownsRow base e 1 v n xs) (hn : xs.length = n) : IsCells xs v w := by
  subst hn
  obtain ⟨A, c, rfl, hc, _⟩ := own_form h
  exact ⟨A, c, rfl, hc, Rd.of_own h⟩
theorem wvs_snocT (ws : List Nat) (v : Nat) : wvs (ws ++ [v]) = wvs ws ++ [Value.int .u64 (v : Int)] := by simp [wvs]

set_option maxHeartbeats 1000000 in
set_option maxRecDepth 100000 in
theorem refTake_1 (A : Option Addr) (n c m : Nat) (l : List UInt8) (w : World) (hr : Rd w w.heap.size A (bvs l)) (hn : l.length = n) (hm : m = n / 1) (hnc : n ≤ c) (hb1 : n ≤ 100000) :
    Calls Try.prog 88 #[.slice A n c, .int .i64 1] w (NewTake w (wordsN m 1 l) (l.drop (m * 1))) := by
  obtain ⟨i0, hi, hz0, hz1, hz2⟩ := info_parts info_u64r
  obtain ⟨j0, hj, hy0, hy1, hy2⟩ := info_parts info_u8w
  subst hn
  obtain rfl : m = l.length := by omega
  have hml : l.length ≤ 100000 := hb1
  have hmW : l.length * 1 ≤ l.length := by omega
  have c1 := refRight_any 1 true rfl
  have C1 := Lib.hid c1
  clear hm c1
  go_enter Try.func88, Try.ntmps88
  go_wp2_with (go_at_call 40; go_must (refine (C1.out _).mono ?_; rintro e w' ⟨rfl, rfl⟩))
  go_loopw [6, 8] (RTakeRel w 1 l.length l) (fun _ i _ => l.length - (intOf i).toNat)
  case atStart => exact ⟨0, Nat.zero_le _, rfl, World.ownsRow_nil _ _ _ _, Below.refl _ _⟩
  case round =>
    obtain ⟨k, hk, rfl, hown, hb⟩ := hrel
    have hbs := hb.size
    by_cases hlt : k < l.length
    · have hlo : 0 < l.length := by omega
      obtain ⟨ab, ao, rfl, hab, hcells⟩ := hr.at_ (by rw [bvs_length]; exact hlo)
      obtain ⟨ch, hch⟩ : ∃ ch, ch = (l.drop (k * 1)).take 1 := ⟨_, rfl⟩
      have hcl : ch.length = 1 := by rw [hch, List.length_take, List.length_drop]; omega
      have hcb : ∀ t (ht : t < ch.length), Hid (wr.cell? ⟨ab, ao + (k + t), none⟩ = some (.int .u8 (ch[t].toNat : Int))) := fun t ht => by
        have e : (bvs l)[k * 1 + t]? = some (.int .u8 (ch[t].toNat : Int)) := by
          rw [bvs_get l (k * 1 + t) (by omega)]
          simp [hch]
        have := (hb.cell (p := ⟨ab, ao + (k * 1 + t), none⟩) hab).trans (hcells _ _ e)
        show _ = _
        simpa using this
      have HCB := Lib.hid hcb
      have HCL := Lib.hid hcl
      have hws := wordsN_snoc k 1 l
      rw [← hch] at hws
      have HWS := Lib.hid hws
      have hd : decide ((k : Int) < (l.length : Int)) = true := by rw [decide_eq_true_eq]; omega
      clear hcells hcb hcl hch hws
      go_wp2
      go_loop [9, 10] (ByteRel 1 ch) (fun _ i => (intOf i + 1).toNat)
      case atStart => exact .inl ⟨0, by omega, rfl, by rw [List.drop_of_length_le (by have := HCL.out; omega)]; rfl⟩
      case round =>
        rcases hrel with ⟨t, ht, rfl, rfl⟩ | ⟨rfl, rfl⟩
        · have htl : t < ch.length := by have := HCL.out; omega
          have hcell := (HCB.out t htl).out
          have hs := byte_step ch t htl (by have := HCL.out; omega)
          obtain ⟨b, hbe⟩ : ∃ b, b = ch[t] := ⟨_, rfl⟩
          rw [← hbe] at hs hcell
          have HS := Lib.hid hs
          have hb8 := b.toNat_lt
          have hb0 : (0 : Int) ≤ (b.toNat : Int) := by omega
          have hb255 : (b.toNat : Int) ≤ 255 := by omega
          have hkl : (k : Int) + (t : Int) < (l.length : Int) := by omega
          have hnn : (0 : Int) ≤ (k : Int) + (t : Int) := by omega
          clear hs hbe hb8 hown
          go_wp2
          go_round
          case rel =>
            rw [HS.out]
            cases t with
            | zero => exact .inr ⟨rfl, rfl⟩
            | succ t => exact .inl ⟨t, by omega, by go_num, rfl⟩
          case measure => simp [intOf]
        · have hle := leN_lt ch
          rw [HCL.out] at hle
          obtain ⟨x, hx⟩ : ∃ x, x = leN ch := ⟨_, rfl⟩
          rw [← hx]
          have HX := Lib.hid hx
          clear hle hx
          go_wp2_with ((with_reducible show wpList _ _ _ (({ dst := some 44, op := _, type := _, pos := _, after := _, guard := _ } : Oper) :: _) _ _); go_must (refine wpList_app rfl (.tmp 41) (.tmp 43) 70 rfl w.heap.size 66 i0 (.int .u64 0) 1 8 Try.underlying70 hi hz0 hz1 hz2 rfl (by decide) _ _ _ rfl (hown.alloc _) _ _ 1 1 _ rfl (Rd.new _ _ _) rfl (by intro u hu; simp at hu; subst hu; rfl) (by simp only [maxLen]; omega) (by omega) (by simp; omega) ?_; intro v1 w1 hown1 hg1; have hb1 : Below w.heap.size w w1 := (hb.alloc hbs _).grown hg1 (by simp; omega) (own_block hown); clear hg1 hown))
          have hown2 : w1.ownsRow w.heap.size 66 1 v1 (k + 1) (wvs (wordsN (k + 1) 1 l)) := by
            rw [HWS.out, ← HX.out, wvs_snocT]; exact hown1
          clear hown1
          go_wp2
          go_roundw
          case rel => exact ⟨k + 1, by omega, by go_num, hown2, hb1⟩
          case measure => simp [intOf]; omega
    · obtain rfl : k = l.length := by omega
      have hc1 := IsCells.of_own hown (by rw [wvs_length, wordsN_len])
      have HC1 := Lib.hid hc1
      have hrd := ((hr.below hb).more hbs).alloc (Nat.le_refl _) (.cells #[] 5)
      have hdl : (bvs (l.drop (l.length * 1))).length = (l.length - l.length * 1) * 1 := by simp [bvs_length]
      have HDL := Lib.hid hdl
      clear hc1 hdl
      go_wp2_with (first
        | ((with_reducible show wpList _ _ _ (({ dst := some 51, op := _, type := _, pos := _, after := _, guard := _ } : Oper) :: _) _ _); go_must (refine wpList_from rfl (.tmp 47) (.tmp 50) rfl Try.underlying22 size_u8w wr.heap.size A l.length c (l.length * 1) (bvs l) rfl (by rw [Nat.mul_one]; rfl) hrd (bvs_length l) hnc (by omega) ?_; intro A' c' hc' hrd'; rw [bvs_drop] at hrd'))
        | ((with_reducible show wpList _ _ _ (({ dst := some 52, op := _, type := _, pos := _, after := _, guard := _ } : Oper) :: _) _ _); go_must (refine wpList_app rfl (.tmp 46) (.tmp 51) 22 rfl wr.heap.size 5 j0 (.int .u8 0) 1 1 Try.underlying22 hj hy0 hy1 hy2 rfl (by decide) _ 0 [] rfl (World.ownsRow_made wr #[] 0 (Nat.le_refl _) (Nat.zero_le _) rfl) wr.heap.size A' (l.length - l.length * 1) c' (bvs (l.drop (l.length * 1))) rfl hrd' HDL.out (bvs_one _) (by simp only [maxLen]; omega) (by omega) (by simp) ?_; intro v2 w2 hown2 hg2; rw [Nat.zero_add, List.nil_append] at hown2; have hb2 : Below wr.heap.size wr w2 := ((Below.refl _ _).alloc (Nat.le_refl _) _).grown hg2 (by simp) (own_block (World.ownsRow_made (e := 5) (size := 1) wr #[] 0 (Nat.le_refl _) (Nat.zero_le _) rfl)); clear hg2)))
      go_ret2
      refine ⟨_, _, rfl, HC1.out.grow hb2, ?_, hb.trans (hb2.mono hbs)⟩
      apply IsBytes.of_own (base := wr.heap.size) (e := 5)
      rw [List.length_drop]
      exact hown2

set_option maxHeartbeats 1000000 in
set_option maxRecDepth 100000 in
theorem refTake_2 (A : Option Addr) (n c m : Nat) (l : List UInt8) (w : World) (hr : Rd w w.heap.size A (bvs l)) (hn : l.length = n) (hm : m = n / 2) (hnc : n ≤ c) (hb1 : n ≤ 100000) :
    Calls Try.prog 88 #[.slice A n c, .int .i64 2] w (NewTake w (wordsN m 2 l) (l.drop (m * 2))) := by
  obtain ⟨i0, hi, hz0, hz1, hz2⟩ := info_parts info_u64r
  obtain ⟨j0, hj, hy0, hy1, hy2⟩ := info_parts info_u8w
  subst hn
  have hq : (l.length : Int) / 2 = (m : Int) := by omega
  have hml : m ≤ 100000 := by omega
  have hmW : m * 2 ≤ l.length := by omega
  have HM := Lib.hid hm
  have c1 := refRight_any 2 true rfl
  have C1 := Lib.hid c1
  clear hm c1
  go_enter Try.func88, Try.ntmps88
  go_wp2_with (go_at_call 40; go_must (refine (C1.out _).mono ?_; rintro e w' ⟨rfl, rfl⟩))
  clear hq
  go_loopw [6, 8] (RTakeRel w 2 m l) (fun _ i _ => m - (intOf i).toNat)
  case atStart => exact ⟨0, Nat.zero_le _, rfl, World.ownsRow_nil _ _ _ _, Below.refl _ _⟩
  case round =>
    obtain ⟨k, hk, rfl, hown, hb⟩ := hrel
    have hbs := hb.size
    by_cases hlt : k < m
    · have hlo : 0 < l.length := by omega
      obtain ⟨ab, ao, rfl, hab, hcells⟩ := hr.at_ (by rw [bvs_length]; exact hlo)
      obtain ⟨ch, hch⟩ : ∃ ch, ch = (l.drop (k * 2)).take 2 := ⟨_, rfl⟩
      have hcl : ch.length = 2 := by rw [hch, List.length_take, List.length_drop]; omega
      have hcb : ∀ t (ht : t < ch.length), Hid (wr.cell? ⟨ab, ao + (k * 2 + t), none⟩ = some (.int .u8 (ch[t].toNat : Int))) := fun t ht => by
        have e : (bvs l)[k * 2 + t]? = some (.int .u8 (ch[t].toNat : Int)) := by
          rw [bvs_get l (k * 2 + t) (by omega)]
          simp [hch]
        have := (hb.cell (p := ⟨ab, ao + (k * 2 + t), none⟩) hab).trans (hcells _ _ e)
        show _ = _
        simpa using this
      have HCB := Lib.hid hcb
      have HCL := Lib.hid hcl
      have hws := wordsN_snoc k 2 l
      rw [← hch] at hws
      have HWS := Lib.hid hws
      have hd : decide ((k : Int) < (m : Int)) = true := by rw [decide_eq_true_eq]; omega
      clear hcells hcb hcl hch hws
      go_wp2
      go_loop [9, 10] (ByteRel 2 ch) (fun _ i => (intOf i + 1).toNat)
      case atStart => exact .inl ⟨1, by omega, rfl, by rw [List.drop_of_length_le (by have := HCL.out; omega)]; rfl⟩
      case round =>
        rcases hrel with ⟨t, ht, rfl, rfl⟩ | ⟨rfl, rfl⟩
        · have htl : t < ch.length := by have := HCL.out; omega
          have hcell := (HCB.out t htl).out
          have hs := byte_step ch t htl (by have := HCL.out; omega)
          obtain ⟨b, hbe⟩ : ∃ b, b = ch[t] := ⟨_, rfl⟩
          rw [← hbe] at hs hcell
          have HS := Lib.hid hs
          have hb8 := b.toNat_lt
          have hb0 : (0 : Int) ≤ (b.toNat : Int) := by omega
          have hb255 : (b.toNat : Int) ≤ 255 := by omega
          have hkl : (k : Int) * 2 + (t : Int) < (l.length : Int) := by omega
          have hnn : (0 : Int) ≤ (k : Int) * 2 + (t : Int) := by omega
          clear hs hbe hb8 hown
          go_wp2
          go_round
          case rel =>
            rw [HS.out]
            cases t with
            | zero => exact .inr ⟨rfl, rfl⟩
            | succ t => exact .inl ⟨t, by omega, by go_num, rfl⟩
          case measure => simp [intOf]
        · have hle := leN_lt ch
          rw [HCL.out] at hle
          obtain ⟨x, hx⟩ : ∃ x, x = leN ch := ⟨_, rfl⟩
          rw [← hx]
          have HX := Lib.hid hx
          clear hle hx
          go_wp2_with ((with_reducible show wpList _ _ _ (({ dst := some 44, op := _, type := _, pos := _, after := _, guard := _ } : Oper) :: _) _ _); go_must (refine wpList_app rfl (.tmp 41) (.tmp 43) 70 rfl w.heap.size 66 i0 (.int .u64 0) 1 8 Try.underlying70 hi hz0 hz1 hz2 rfl (by decide) _ _ _ rfl (hown.alloc _) _ _ 1 1 _ rfl (Rd.new _ _ _) rfl (by intro u hu; simp at hu; subst hu; rfl) (by simp only [maxLen]; omega) (by omega) (by simp; omega) ?_; intro v1 w1 hown1 hg1; have hb1 : Below w.heap.size w w1 := (hb.alloc hbs _).grown hg1 (by simp; omega) (own_block hown); clear hg1 hown))
          have hown2 : w1.ownsRow w.heap.size 66 1 v1 (k + 1) (wvs (wordsN (k + 1) 2 l)) := by
            rw [HWS.out, ← HX.out, wvs_snocT]; exact hown1
          clear hown1
          go_wp2
          go_roundw
          case rel => exact ⟨k + 1, by omega, by go_num, hown2, hb1⟩
          case measure => simp [intOf]; omega
    · obtain rfl : k = m := by omega
      have hc1 := IsCells.of_own hown (by rw [wvs_length, wordsN_len])
      have HC1 := Lib.hid hc1
      have hrd := ((hr.below hb).more hbs).alloc (Nat.le_refl _) (.cells #[] 5)
      have hdl : (bvs (l.drop (k * 2))).length = (l.length - k * 2) * 1 := by rw [bvs_length, List.length_drop, Nat.mul_one]
      have HDL := Lib.hid hdl
      clear hc1 hdl
      go_wp2_with (first
        | ((with_reducible show wpList _ _ _ (({ dst := some 51, op := _, type := _, pos := _, after := _, guard := _ } : Oper) :: _) _ _); go_must (refine wpList_from rfl (.tmp 47) (.tmp 50) rfl Try.underlying22 size_u8w wr.heap.size A l.length c (k * 2) (bvs l) rfl (by rw [Int.natCast_mul]; rfl) hrd (bvs_length l) hnc (by omega) ?_; intro A' c' hc' hrd'; rw [bvs_drop] at hrd'))
        | ((with_reducible show wpList _ _ _ (({ dst := some 52, op := _, type := _, pos := _, after := _, guard := _ } : Oper) :: _) _ _); go_must (refine wpList_app rfl (.tmp 46) (.tmp 51) 22 rfl wr.heap.size 5 j0 (.int .u8 0) 1 1 Try.underlying22 hj hy0 hy1 hy2 rfl (by decide) _ 0 [] rfl (World.ownsRow_made wr #[] 0 (Nat.le_refl _) (Nat.zero_le _) rfl) wr.heap.size A' (l.length - k * 2) c' (bvs (l.drop (k * 2))) rfl hrd' HDL.out (bvs_one _) (by simp only [maxLen]; omega) (by omega) (by simp) ?_; intro v2 w2 hown2 hg2; rw [Nat.zero_add, List.nil_append] at hown2; have hb2 : Below wr.heap.size wr w2 := ((Below.refl _ _).alloc (Nat.le_refl _) _).grown hg2 (by simp) (own_block (World.ownsRow_made (e := 5) (size := 1) wr #[] 0 (Nat.le_refl _) (Nat.zero_le _) rfl)); clear hg2)))
      go_ret2
      refine ⟨_, _, rfl, HC1.out.grow hb2, ?_, hb.trans (hb2.mono hbs)⟩
      apply IsBytes.of_own (base := wr.heap.size) (e := 5)
      rw [List.length_drop]
      exact hown2

set_option maxHeartbeats 1000000 in
set_option maxRecDepth 100000 in
theorem refTake_4 (A : Option Addr) (n c m : Nat) (l : List UInt8) (w : World) (hr : Rd w w.heap.size A (bvs l)) (hn : l.length = n) (hm : m = n / 4) (hnc : n ≤ c) (hb1 : n ≤ 100000) :
    Calls Try.prog 88 #[.slice A n c, .int .i64 4] w (NewTake w (wordsN m 4 l) (l.drop (m * 4))) := by
  obtain ⟨i0, hi, hz0, hz1, hz2⟩ := info_parts info_u64r
  obtain ⟨j0, hj, hy0, hy1, hy2⟩ := info_parts info_u8w
  subst hn
  have hq : (l.length : Int) / 4 = (m : Int) := by omega
  have hml : m ≤ 100000 := by omega
  have hmW : m * 4 ≤ l.length := by omega
  have HM := Lib.hid hm
  have c1 := refRight_any 4 true rfl
  have C1 := Lib.hid c1
  clear hm c1
  go_enter Try.func88, Try.ntmps88
  go_wp2_with (go_at_call 40; go_must (refine (C1.out _).mono ?_; rintro e w' ⟨rfl, rfl⟩))
  clear hq
  go_loopw [6, 8] (RTakeRel w 4 m l) (fun _ i _ => m - (intOf i).toNat)
  case atStart => exact ⟨0, Nat.zero_le _, rfl, World.ownsRow_nil _ _ _ _, Below.refl _ _⟩
  case round =>
    obtain ⟨k, hk, rfl, hown, hb⟩ := hrel
    have hbs := hb.size
    by_cases hlt : k < m
    · have hlo : 0 < l.length := by omega
      obtain ⟨ab, ao, rfl, hab, hcells⟩ := hr.at_ (by rw [bvs_length]; exact hlo)
      obtain ⟨ch, hch⟩ : ∃ ch, ch = (l.drop (k * 4)).take 4 := ⟨_, rfl⟩
      have hcl : ch.length = 4 := by rw [hch, List.length_take, List.length_drop]; omega
      have hcb : ∀ t (ht : t < ch.length), Hid (wr.cell? ⟨ab, ao + (k * 4 + t), none⟩ = some (.int .u8 (ch[t].toNat : Int))) := fun t ht => by
        have e : (bvs l)[k * 4 + t]? = some (.int .u8 (ch[t].toNat : Int)) := by
          rw [bvs_get l (k * 4 + t) (by omega)]
          simp [hch]
        have := (hb.cell (p := ⟨ab, ao + (k * 4 + t), none⟩) hab).trans (hcells _ _ e)
        show _ = _
        simpa using this
      have HCB := Lib.hid hcb
      have HCL := Lib.hid hcl
      have hws := wordsN_snoc k 4 l
      rw [← hch] at hws
      have HWS := Lib.hid hws
      have hd : decide ((k : Int) < (m : Int)) = true := by rw [decide_eq_true_eq]; omega
      clear hcells hcb hcl hch hws
      go_wp2
      go_loop [9, 10] (ByteRel 4 ch) (fun _ i => (intOf i + 1).toNat)
      case atStart => exact .inl ⟨3, by omega, rfl, by rw [List.drop_of_length_le (by have := HCL.out; omega)]; rfl⟩
      case round =>
        rcases hrel with ⟨t, ht, rfl, rfl⟩ | ⟨rfl, rfl⟩
        · have htl : t < ch.length := by have := HCL.out; omega
          have hcell := (HCB.out t htl).out
          have hs := byte_step ch t htl (by have := HCL.out; omega)
          obtain ⟨b, hbe⟩ : ∃ b, b = ch[t] := ⟨_, rfl⟩
          rw [← hbe] at hs hcell
          have HS := Lib.hid hs
          have hb8 := b.toNat_lt
          have hb0 : (0 : Int) ≤ (b.toNat : Int) := by omega
          have hb255 : (b.toNat : Int) ≤ 255 := by omega
          have hkl : (k : Int) * 4 + (t : Int) < (l.length : Int) := by omega
          have hnn : (0 : Int) ≤ (k : Int) * 4 + (t : Int) := by omega
          clear hs hbe hb8 hown
          go_wp2
          go_round
          case rel =>
            rw [HS.out]
            cases t with
            | zero => exact .inr ⟨rfl, rfl⟩
            | succ t => exact .inl ⟨t, by omega, by go_num, rfl⟩
          case measure => simp [intOf]
        · have hle := leN_lt ch
          rw [HCL.out] at hle
          obtain ⟨x, hx⟩ : ∃ x, x = leN ch := ⟨_, rfl⟩
          rw [← hx]
          have HX := Lib.hid hx
          clear hle hx
          go_wp2_with ((with_reducible show wpList _ _ _ (({ dst := some 44, op := _, type := _, pos := _, after := _, guard := _ } : Oper) :: _) _ _); go_must (refine wpList_app rfl (.tmp 41) (.tmp 43) 70 rfl w.heap.size 66 i0 (.int .u64 0) 1 8 Try.underlying70 hi hz0 hz1 hz2 rfl (by decide) _ _ _ rfl (hown.alloc _) _ _ 1 1 _ rfl (Rd.new _ _ _) rfl (by intro u hu; simp at hu; subst hu; rfl) (by simp only [maxLen]; omega) (by omega) (by simp; omega) ?_; intro v1 w1 hown1 hg1; have hb1 : Below w.heap.size w w1 := (hb.alloc hbs _).grown hg1 (by simp; omega) (own_block hown); clear hg1 hown))
          have hown2 : w1.ownsRow w.heap.size 66 1 v1 (k + 1) (wvs (wordsN (k + 1) 4 l)) := by
            rw [HWS.out, ← HX.out, wvs_snocT]; exact hown1
          clear hown1
          go_wp2
          go_roundw
          case rel => exact ⟨k + 1, by omega, by go_num, hown2, hb1⟩
          case measure => simp [intOf]; omega
    · obtain rfl : k = m := by omega
      have hc1 := IsCells.of_own hown (by rw [wvs_length, wordsN_len])
      have HC1 := Lib.hid hc1
      have hrd := ((hr.below hb).more hbs).alloc (Nat.le_refl _) (.cells #[] 5)
      have hdl : (bvs (l.drop (k * 4))).length = (l.length - k * 4) * 1 := by rw [bvs_length, List.length_drop, Nat.mul_one]
      have HDL := Lib.hid hdl
      clear hc1 hdl
      go_wp2_with (first
        | ((with_reducible show wpList _ _ _ (({ dst := some 51, op := _, type := _, pos := _, after := _, guard := _ } : Oper) :: _) _ _); go_must (refine wpList_from rfl (.tmp 47) (.tmp 50) rfl Try.underlying22 size_u8w wr.heap.size A l.length c (k * 4) (bvs l) rfl (by rw [Int.natCast_mul]; rfl) hrd (bvs_length l) hnc (by omega) ?_; intro A' c' hc' hrd'; rw [bvs_drop] at hrd'))
        | ((with_reducible show wpList _ _ _ (({ dst := some 52, op := _, type := _, pos := _, after := _, guard := _ } : Oper) :: _) _ _); go_must (refine wpList_app rfl (.tmp 46) (.tmp 51) 22 rfl wr.heap.size 5 j0 (.int .u8 0) 1 1 Try.underlying22 hj hy0 hy1 hy2 rfl (by decide) _ 0 [] rfl (World.ownsRow_made wr #[] 0 (Nat.le_refl _) (Nat.zero_le _) rfl) wr.heap.size A' (l.length - k * 4) c' (bvs (l.drop (k * 4))) rfl hrd' HDL.out (bvs_one _) (by simp only [maxLen]; omega) (by omega) (by simp) ?_; intro v2 w2 hown2 hg2; rw [Nat.zero_add, List.nil_append] at hown2; have hb2 : Below wr.heap.size wr w2 := ((Below.refl _ _).alloc (Nat.le_refl _) _).grown hg2 (by simp) (own_block (World.ownsRow_made (e := 5) (size := 1) wr #[] 0 (Nat.le_refl _) (Nat.zero_le _) rfl)); clear hg2)))
      go_ret2
      refine ⟨_, _, rfl, HC1.out.grow hb2, ?_, hb.trans (hb2.mono hbs)⟩
      apply IsBytes.of_own (base := wr.heap.size) (e := 5)
      rw [List.length_drop]
      exact hown2

set_option maxHeartbeats 1000000 in
set_option maxRecDepth 100000 in
theorem refTake_8 (A : Option Addr) (n c m : Nat) (l : List UInt8) (w : World) (hr : Rd w w.heap.size A (bvs l)) (hn : l.length = n) (hm : m = n / 8) (hnc : n ≤ c) (hb1 : n ≤ 100000) :
    Calls Try.prog 88 #[.slice A n c, .int .i64 8] w (NewTake w (wordsN m 8 l) (l.drop (m * 8))) := by
  obtain ⟨i0, hi, hz0, hz1, hz2⟩ := info_parts info_u64r
  obtain ⟨j0, hj, hy0, hy1, hy2⟩ := info_parts info_u8w
  subst hn
  have hq : (l.length : Int) / 8 = (m : Int) := by omega
  have hml : m ≤ 100000 := by omega
  have hmW : m * 8 ≤ l.length := by omega
  have HM := Lib.hid hm
  have c1 := refRight_any 8 true rfl
  have C1 := Lib.hid c1
  clear hm c1
  go_enter Try.func88, Try.ntmps88
  go_wp2_with (go_at_call 40; go_must (refine (C1.out _).mono ?_; rintro e w' ⟨rfl, rfl⟩))
  clear hq
  go_loopw [6, 8] (RTakeRel w 8 m l) (fun _ i _ => m - (intOf i).toNat)
  case atStart => exact ⟨0, Nat.zero_le _, rfl, World.ownsRow_nil _ _ _ _, Below.refl _ _⟩
  case round =>
    obtain ⟨k, hk, rfl, hown, hb⟩ := hrel
    have hbs := hb.size
    by_cases hlt : k < m
    · have hlo : 0 < l.length := by omega
      obtain ⟨ab, ao, rfl, hab, hcells⟩ := hr.at_ (by rw [bvs_length]; exact hlo)
      obtain ⟨ch, hch⟩ : ∃ ch, ch = (l.drop (k * 8)).take 8 := ⟨_, rfl⟩
      have hcl : ch.length = 8 := by rw [hch, List.length_take, List.length_drop]; omega
      have hcb : ∀ t (ht : t < ch.length), Hid (wr.cell? ⟨ab, ao + (k * 8 + t), none⟩ = some (.int .u8 (ch[t].toNat : Int))) := fun t ht => by
        have e : (bvs l)[k * 8 + t]? = some (.int .u8 (ch[t].toNat : Int)) := by
          rw [bvs_get l (k * 8 + t) (by omega)]
          simp [hch]
        have := (hb.cell (p := ⟨ab, ao + (k * 8 + t), none⟩) hab).trans (hcells _ _ e)
        show _ = _
        simpa using this
      have HCB := Lib.hid hcb
      have HCL := Lib.hid hcl
      have hws := wordsN_snoc k 8 l
      rw [← hch] at hws
      have HWS := Lib.hid hws
      have hd : decide ((k : Int) < (m : Int)) = true := by rw [decide_eq_true_eq]; omega
      clear hcells hcb hcl hch hws
      go_wp2
      go_loop [9, 10] (ByteRel 8 ch) (fun _ i => (intOf i + 1).toNat)
      case atStart => exact .inl ⟨7, by omega, rfl, by rw [List.drop_of_length_le (by have := HCL.out; omega)]; rfl⟩
      case round =>
        rcases hrel with ⟨t, ht, rfl, rfl⟩ | ⟨rfl, rfl⟩
        · have htl : t < ch.length := by have := HCL.out; omega
          have hcell := (HCB.out t htl).out
          have hs := byte_step ch t htl (by have := HCL.out; omega)
          obtain ⟨b, hbe⟩ : ∃ b, b = ch[t] := ⟨_, rfl⟩
          rw [← hbe] at hs hcell
          have HS := Lib.hid hs
          have hb8 := b.toNat_lt
          have hb0 : (0 : Int) ≤ (b.toNat : Int) := by omega
          have hb255 : (b.toNat : Int) ≤ 255 := by omega
          have hkl : (k : Int) * 8 + (t : Int) < (l.length : Int) := by omega
          have hnn : (0 : Int) ≤ (k : Int) * 8 + (t : Int) := by omega
          clear hs hbe hb8 hown
          go_wp2
          go_round
          case rel =>
            rw [HS.out]
            cases t with
            | zero => exact .inr ⟨rfl, rfl⟩
            | succ t => exact .inl ⟨t, by omega, by go_num, rfl⟩
          case measure => simp [intOf]
        · have hle := leN_lt ch
          rw [HCL.out] at hle
          obtain ⟨x, hx⟩ : ∃ x, x = leN ch := ⟨_, rfl⟩
          rw [← hx]
          have HX := Lib.hid hx
          clear hle hx
          go_wp2_with ((with_reducible show wpList _ _ _ (({ dst := some 44, op := _, type := _, pos := _, after := _, guard := _ } : Oper) :: _) _ _); go_must (refine wpList_app rfl (.tmp 41) (.tmp 43) 70 rfl w.heap.size 66 i0 (.int .u64 0) 1 8 Try.underlying70 hi hz0 hz1 hz2 rfl (by decide) _ _ _ rfl (hown.alloc _) _ _ 1 1 _ rfl (Rd.new _ _ _) rfl (by intro u hu; simp at hu; subst hu; rfl) (by simp only [maxLen]; omega) (by omega) (by simp; omega) ?_; intro v1 w1 hown1 hg1; have hb1 : Below w.heap.size w w1 := (hb.alloc hbs _).grown hg1 (by simp; omega) (own_block hown); clear hg1 hown))
          have hown2 : w1.ownsRow w.heap.size 66 1 v1 (k + 1) (wvs (wordsN (k + 1) 8 l)) := by
            rw [HWS.out, ← HX.out, wvs_snocT]; exact hown1
          clear hown1
          go_wp2
          go_roundw
          case rel => exact ⟨k + 1, by omega, by go_num, hown2, hb1⟩
          case measure => simp [intOf]; omega
    · obtain rfl : k = m := by omega
      have hc1 := IsCells.of_own hown (by rw [wvs_length, wordsN_len])
      have HC1 := Lib.hid hc1
      have hrd := ((hr.below hb).more hbs).alloc (Nat.le_refl _) (.cells #[] 5)
      have hdl : (bvs (l.drop (k * 8))).length = (l.length - k * 8) * 1 := by rw [bvs_length, List.length_drop, Nat.mul_one]
      have HDL := Lib.hid hdl
      clear hc1 hdl
      go_wp2_with (first
        | ((with_reducible show wpList _ _ _ (({ dst := some 51, op := _, type := _, pos := _, after := _, guard := _ } : Oper) :: _) _ _); go_must (refine wpList_from rfl (.tmp 47) (.tmp 50) rfl Try.underlying22 size_u8w wr.heap.size A l.length c (k * 8) (bvs l) rfl (by rw [Int.natCast_mul]; rfl) hrd (bvs_length l) hnc (by omega) ?_; intro A' c' hc' hrd'; rw [bvs_drop] at hrd'))
        | ((with_reducible show wpList _ _ _ (({ dst := some 52, op := _, type := _, pos := _, after := _, guard := _ } : Oper) :: _) _ _); go_must (refine wpList_app rfl (.tmp 46) (.tmp 51) 22 rfl wr.heap.size 5 j0 (.int .u8 0) 1 1 Try.underlying22 hj hy0 hy1 hy2 rfl (by decide) _ 0 [] rfl (World.ownsRow_made wr #[] 0 (Nat.le_refl _) (Nat.zero_le _) rfl) wr.heap.size A' (l.length - k * 8) c' (bvs (l.drop (k * 8))) rfl hrd' HDL.out (bvs_one _) (by simp only [maxLen]; omega) (by omega) (by simp) ?_; intro v2 w2 hown2 hg2; rw [Nat.zero_add, List.nil_append] at hown2; have hb2 : Below wr.heap.size wr w2 := ((Below.refl _ _).alloc (Nat.le_refl _) _).grown hg2 (by simp) (own_block (World.ownsRow_made (e := 5) (size := 1) wr #[] 0 (Nat.le_refl _) (Nat.zero_le _) rfl)); clear hg2)))
      go_ret2
      refine ⟨_, _, rfl, HC1.out.grow hb2, ?_, hb.trans (hb2.mono hbs)⟩
      apply IsBytes.of_own (base := wr.heap.size) (e := 5)
      rw [List.length_drop]
      exact hown2
end Go.Proofs.Ytfdgnhfppginiaa
