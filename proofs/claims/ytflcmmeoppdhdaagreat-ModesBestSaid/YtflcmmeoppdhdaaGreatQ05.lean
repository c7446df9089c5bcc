/-
  Contracts of layer 4: Take of the reference. · Plain mathematics of layer 4: the words of bytes, and what is left behind them. · Contract of layer 4's reference: Take, of any width. · slices.Clone and bytes.Clone of bytes. General: no code of the project. · Contracts of bit.Writer. · Contracts of slices.Clone, Writer.Bytes, bit.Read and bit.Reader. · Contracts of bit.Reader: Get, Ones, Done. · Contracts of bit.Reader: Err, Left, Done over what is left.
-/
import Derived.Test.YtflcmmeoppdhdaaGreatQ01
import Derived.Test.YtflcmmeoppdhdaaGreatQ02
import Derived.Test.YtflcmmeoppdhdaaGreatQ04
import Derived.Test.YtflcmmeoppdhdaaGreatProg
import Derived.Deep.DeepMust
import Derived.BigRegion
import Derived.BigQuiet
import Derived.Deep.QuietTactic
namespace Go.Proofs.YtflcmmeoppdhdaaGreat
open Go.RowKit

/-- What holds at the head of a round over a word's bytes, the highest first. -/
def ByteRel (W : Nat) (ch : List UInt8) (v k : Value) : Prop :=
  (∃ t : Nat, t < W ∧ k = .int .i64 t ∧ v = .int .u64 (leN (ch.drop (t + 1)) : Int)) ∨ (k = .int .i64 (-1) ∧ v = .int .u64 (leN ch : Int))
theorem byte_step (ch : List UInt8) (t : Nat) (h : t < ch.length) (h8 : ch.length ≤ 8) : IntKind.u64.wrap (IntKind.u64.wrap (256 * (leN (ch.drop (t + 1)) : Int)) + (ch[t].toNat : Int)) = (leN (ch.drop t) : Int) := by
  have e : leN (ch.drop t) = ch[t].toNat + 256 * leN (ch.drop (t + 1)) := by rw [List.drop_eq_getElem_cons h]; rfl
  have h1 := leN_lt (ch.drop t)
  have h2 : 256 ^ (ch.drop t).length ≤ 256 ^ 8 := Nat.pow_le_pow_right (by decide) (by rw [List.length_drop]; omega)
  have h3 : (256 : Nat) ^ 8 = 18446744073709551616 := by decide
  rw [IntKind.wrap_u64, IntKind.wrap_u64]
  omega
/-- What holds at the head of a round over the words. -/
def RTakeRel (w : World) (W m : Nat) (l : List UInt8) (v i : Value) (wr : World) : Prop :=
  ∃ k : Nat, k ≤ m ∧ i = .int .i64 k ∧ wr.ownsRow w.heap.size 88 1 v k (wvs (wordsN k W l)) ∧ Below w.heap.size w wr
theorem IsCells.of_own {w : World} {base e n : Nat} {v : Value} {xs : List Value} (h : w.ownsRow base e 1 v n xs) (hn : xs.length = n) : IsCells xs v w := by
  subst hn
  obtain ⟨A, c, rfl, hc, _⟩ := own_form h
  exact ⟨A, c, rfl, hc, Rd.of_own h⟩
theorem wvs_snocT (ws : List Nat) (v : Nat) : wvs (ws ++ [v]) = wvs ws ++ [Value.int .u64 (v : Int)] := by simp [wvs]

set_option maxHeartbeats 1000000 in
set_option maxRecDepth 100000 in
theorem refTake_1 (A : Option Addr) (n c m : Nat) (l : List UInt8) (w : World) (hr : Rd w w.heap.size A (bvs l)) (hn : l.length = n) (hm : m = n / 1) (hnc : n ≤ c) (hb1 : n ≤ 100000) :
    Calls Tryz.prog 51 #[.slice A n c, .int .i64 1] w (NewTake w (wordsN m 1 l) (l.drop (m * 1))) := by
  obtain ⟨i0, hi, hz0, hz1, hz2⟩ := info_parts info_u64r
  obtain ⟨j0, hj, hy0, hy1, hy2⟩ := info_parts info_u8w
  subst hn
  obtain rfl : m = l.length := by omega
  have hml : l.length ≤ 100000 := hb1
  have hmW : l.length * 1 ≤ l.length := by omega
  have c1 := refRight_any 1 true rfl
  have C1 := Lib.hid c1
  clear hm c1
  go_enter Tryz.func51, Tryz.ntmps51
  go_wp2_with (go_at_call 14; go_must (refine (C1.out _).mono ?_; rintro e w' ⟨rfl, rfl⟩))
  go_loopw [6, 8] (RTakeRel w 1 l.length l) (fun _ i _ => l.length - (intOf i).toNat)
  case atStart => exact ⟨0, Nat.zero_le _, rfl, World.ownsRow_nil _ _ _ _, Below.refl _ _⟩
  case round =>
    obtain ⟨k, hk, rfl, hown, hb⟩ := hrel
    have hbs := hb.size
    by_cases hlt : k < l.length
    · have hlo : 0 < l.length := by omega
      obtain ⟨ab, ao, rfl, hab, hcells⟩ := hr.at_ (by rw [bvs_length]; exact hlo)
      obtain ⟨ch, hch⟩ : ∃ ch, ch = (l.drop (k * 1)).take 1 := ⟨_, rfl⟩
      have hcl : ch.length = 1 := by rw [hch, List.length_take, List.length_drop]; omega
      have hcb : ∀ t (ht : t < ch.length), Hid (wr.cell? ⟨ab, ao + (k + t), none⟩ = some (.int .u8 (ch[t].toNat : Int))) := fun t ht => by
        have e : (bvs l)[k * 1 + t]? = some (.int .u8 (ch[t].toNat : Int)) := by
          rw [bvs_get l (k * 1 + t) (by omega)]
          simp [hch]
        have := (hb.cell (p := ⟨ab, ao + (k * 1 + t), none⟩) hab).trans (hcells _ _ e)
        show _ = _
        simpa using this
      have HCB := Lib.hid hcb
      have HCL := Lib.hid hcl
      have hws := wordsN_snoc k 1 l
      rw [← hch] at hws
      have HWS := Lib.hid hws
      have hd : decide ((k : Int) < (l.length : Int)) = true := by rw [decide_eq_true_eq]; omega
      clear hcells hcb hcl hch hws
      go_wp2
      go_loop [9, 10] (ByteRel 1 ch) (fun _ i => (intOf i + 1).toNat)
      case atStart => exact .inl ⟨0, by omega, rfl, by rw [List.drop_of_length_le (by have := HCL.out; omega)]; rfl⟩
      case round =>
        rcases hrel with ⟨t, ht, rfl, rfl⟩ | ⟨rfl, rfl⟩
        · have htl : t < ch.length := by have := HCL.out; omega
          have hcell := (HCB.out t htl).out
          have hs := byte_step ch t htl (by have := HCL.out; omega)
          obtain ⟨b, hbe⟩ : ∃ b, b = ch[t] := ⟨_, rfl⟩
          rw [← hbe] at hs hcell
          have HS := Lib.hid hs
          have hb8 := b.toNat_lt
          have hb0 : (0 : Int) ≤ (b.toNat : Int) := by omega
          have hb255 : (b.toNat : Int) ≤ 255 := by omega
          have hkl : (k : Int) + (t : Int) < (l.length : Int) := by omega
          have hnn : (0 : Int) ≤ (k : Int) + (t : Int) := by omega
          clear hs hbe hb8 hown
          go_wp2
          go_round
          case rel =>
            rw [HS.out]
            cases t with
            | zero => exact .inr ⟨rfl, rfl⟩
            | succ t => exact .inl ⟨t, by omega, by go_num, rfl⟩
          case measure => simp [intOf]
        · have hle := leN_lt ch
          rw [HCL.out] at hle
          obtain ⟨x, hx⟩ : ∃ x, x = leN ch := ⟨_, rfl⟩
          rw [← hx]
          have HX := Lib.hid hx
          clear hle hx
          go_wp2_with ((with_reducible show wpList _ _ _ (({ dst := some 44, op := _, type := _, pos := _, after := _, guard := _ } : Oper) :: _) _ _); go_must (refine wpList_app rfl (.tmp 41) (.tmp 43) 85 rfl w.heap.size 88 i0 (.int .u64 0) 1 8 Tryz.underlying85 hi hz0 hz1 hz2 rfl (by decide) _ _ _ rfl (hown.alloc _) _ _ 1 1 _ rfl (Rd.new _ _ _) rfl (by intro u hu; simp at hu; subst hu; rfl) (by simp only [maxLen]; omega) (by omega) (by simp; omega) ?_; intro v1 w1 hown1 hg1; have hb1 : Below w.heap.size w w1 := (hb.alloc hbs _).grown hg1 (by simp; omega) (own_block hown); clear hg1 hown))
          have hown2 : w1.ownsRow w.heap.size 88 1 v1 (k + 1) (wvs (wordsN (k + 1) 1 l)) := by
            rw [HWS.out, ← HX.out, wvs_snocT]; exact hown1
          clear hown1
          go_wp2
          go_roundw
          case rel => exact ⟨k + 1, by omega, by go_num, hown2, hb1⟩
          case measure => simp [intOf]; omega
    · obtain rfl : k = l.length := by omega
      have hc1 := IsCells.of_own hown (by rw [wvs_length, wordsN_len])
      have HC1 := Lib.hid hc1
      have hrd := ((hr.below hb).more hbs).alloc (Nat.le_refl _) (.cells #[] 5)
      have hdl : (bvs (l.drop (l.length * 1))).length = (l.length - l.length * 1) * 1 := by simp [bvs_length]
      have HDL := Lib.hid hdl
      clear hc1 hdl
      go_wp2_with (first
        | ((with_reducible show wpList _ _ _ (({ dst := some 51, op := _, type := _, pos := _, after := _, guard := _ } : Oper) :: _) _ _); go_must (refine wpList_from rfl (.tmp 47) (.tmp 50) rfl Tryz.underlying22 size_u8w wr.heap.size A l.length c (l.length * 1) (bvs l) rfl (by rw [Nat.mul_one]; rfl) hrd (bvs_length l) hnc (by omega) ?_; intro A' c' hc' hrd'; rw [bvs_drop] at hrd'))
        | ((with_reducible show wpList _ _ _ (({ dst := some 52, op := _, type := _, pos := _, after := _, guard := _ } : Oper) :: _) _ _); go_must (refine wpList_app rfl (.tmp 46) (.tmp 51) 22 rfl wr.heap.size 5 j0 (.int .u8 0) 1 1 Tryz.underlying22 hj hy0 hy1 hy2 rfl (by decide) _ 0 [] rfl (World.ownsRow_made wr #[] 0 (Nat.le_refl _) (Nat.zero_le _) rfl) wr.heap.size A' (l.length - l.length * 1) c' (bvs (l.drop (l.length * 1))) rfl hrd' HDL.out (bvs_one _) (by simp only [maxLen]; omega) (by omega) (by simp) ?_; intro v2 w2 hown2 hg2; rw [Nat.zero_add, List.nil_append] at hown2; have hb2 : Below wr.heap.size wr w2 := ((Below.refl _ _).alloc (Nat.le_refl _) _).grown hg2 (by simp) (own_block (World.ownsRow_made (e := 5) (size := 1) wr #[] 0 (Nat.le_refl _) (Nat.zero_le _) rfl)); clear hg2)))
      go_ret2
      refine ⟨_, _, rfl, HC1.out.grow hb2, ?_, hb.trans (hb2.mono hbs)⟩
      apply IsBytes.of_own (base := wr.heap.size) (e := 5)
      rw [List.length_drop]
      exact hown2

set_option maxHeartbeats 1000000 in
set_option maxRecDepth 100000 in
theorem refTake_2 (A : Option Addr) (n c m : Nat) (l : List UInt8) (w : World) (hr : Rd w w.heap.size A (bvs l)) (hn : l.length = n) (hm : m = n / 2) (hnc : n ≤ c) (hb1 : n ≤ 100000) :
    Calls Tryz.prog 51 #[.slice A n c, .int .i64 2] w (NewTake w (wordsN m 2 l) (l.drop (m * 2))) := by
  obtain ⟨i0, hi, hz0, hz1, hz2⟩ := info_parts info_u64r
  obtain ⟨j0, hj, hy0, hy1, hy2⟩ := info_parts info_u8w
  subst hn
  have hq : (l.length : Int) / 2 = (m : Int) := by omega
  have hml : m ≤ 100000 := by omega
  have hmW : m * 2 ≤ l.length := by omega
  have HM := Lib.hid hm
  have c1 := refRight_any 2 true rfl
  have C1 := Lib.hid c1
  clear hm c1
  go_enter Tryz.func51, Tryz.ntmps51
  go_wp2_with (go_at_call 14; go_must (refine (C1.out _).mono ?_; rintro e w' ⟨rfl, rfl⟩))
  clear hq
  go_loopw [6, 8] (RTakeRel w 2 m l) (fun _ i _ => m - (intOf i).toNat)
  case atStart => exact ⟨0, Nat.zero_le _, rfl, World.ownsRow_nil _ _ _ _, Below.refl _ _⟩
  case round =>
    obtain ⟨k, hk, rfl, hown, hb⟩ := hrel
    have hbs := hb.size
    by_cases hlt : k < m
    · have hlo : 0 < l.length := by omega
      obtain ⟨ab, ao, rfl, hab, hcells⟩ := hr.at_ (by rw [bvs_length]; exact hlo)
      obtain ⟨ch, hch⟩ : ∃ ch, ch = (l.drop (k * 2)).take 2 := ⟨_, rfl⟩
      have hcl : ch.length = 2 := by rw [hch, List.length_take, List.length_drop]; omega
      have hcb : ∀ t (ht : t < ch.length), Hid (wr.cell? ⟨ab, ao + (k * 2 + t), none⟩ = some (.int .u8 (ch[t].toNat : Int))) := fun t ht => by
        have e : (bvs l)[k * 2 + t]? = some (.int .u8 (ch[t].toNat : Int)) := by
          rw [bvs_get l (k * 2 + t) (by omega)]
          simp [hch]
        have := (hb.cell (p := ⟨ab, ao + (k * 2 + t), none⟩) hab).trans (hcells _ _ e)
        show _ = _
        simpa using this
      have HCB := Lib.hid hcb
      have HCL := Lib.hid hcl
      have hws := wordsN_snoc k 2 l
      rw [← hch] at hws
      have HWS := Lib.hid hws
      have hd : decide ((k : Int) < (m : Int)) = true := by rw [decide_eq_true_eq]; omega
      clear hcells hcb hcl hch hws
      go_wp2
      go_loop [9, 10] (ByteRel 2 ch) (fun _ i => (intOf i + 1).toNat)
      case atStart => exact .inl ⟨1, by omega, rfl, by rw [List.drop_of_length_le (by have := HCL.out; omega)]; rfl⟩
      case round =>
        rcases hrel with ⟨t, ht, rfl, rfl⟩ | ⟨rfl, rfl⟩
        · have htl : t < ch.length := by have := HCL.out; omega
          have hcell := (HCB.out t htl).out
          have hs := byte_step ch t htl (by have := HCL.out; omega)
          obtain ⟨b, hbe⟩ : ∃ b, b = ch[t] := ⟨_, rfl⟩
          rw [← hbe] at hs hcell
          have HS := Lib.hid hs
          have hb8 := b.toNat_lt
          have hb0 : (0 : Int) ≤ (b.toNat : Int) := by omega
          have hb255 : (b.toNat : Int) ≤ 255 := by omega
          have hkl : (k : Int) * 2 + (t : Int) < (l.length : Int) := by omega
          have hnn : (0 : Int) ≤ (k : Int) * 2 + (t : Int) := by omega
          clear hs hbe hb8 hown
          go_wp2
          go_round
          case rel =>
            rw [HS.out]
            cases t with
            | zero => exact .inr ⟨rfl, rfl⟩
            | succ t => exact .inl ⟨t, by omega, by go_num, rfl⟩
          case measure => simp [intOf]
        · have hle := leN_lt ch
          rw [HCL.out] at hle
          obtain ⟨x, hx⟩ : ∃ x, x = leN ch := ⟨_, rfl⟩
          rw [← hx]
          have HX := Lib.hid hx
          clear hle hx
          go_wp2_with ((with_reducible show wpList _ _ _ (({ dst := some 44, op := _, type := _, pos := _, after := _, guard := _ } : Oper) :: _) _ _); go_must (refine wpList_app rfl (.tmp 41) (.tmp 43) 85 rfl w.heap.size 88 i0 (.int .u64 0) 1 8 Tryz.underlying85 hi hz0 hz1 hz2 rfl (by decide) _ _ _ rfl (hown.alloc _) _ _ 1 1 _ rfl (Rd.new _ _ _) rfl (by intro u hu; simp at hu; subst hu; rfl) (by simp only [maxLen]; omega) (by omega) (by simp; omega) ?_; intro v1 w1 hown1 hg1; have hb1 : Below w.heap.size w w1 := (hb.alloc hbs _).grown hg1 (by simp; omega) (own_block hown); clear hg1 hown))
          have hown2 : w1.ownsRow w.heap.size 88 1 v1 (k + 1) (wvs (wordsN (k + 1) 2 l)) := by
            rw [HWS.out, ← HX.out, wvs_snocT]; exact hown1
          clear hown1
          go_wp2
          go_roundw
          case rel => exact ⟨k + 1, by omega, by go_num, hown2, hb1⟩
          case measure => simp [intOf]; omega
    · obtain rfl : k = m := by omega
      have hc1 := IsCells.of_own hown (by rw [wvs_length, wordsN_len])
      have HC1 := Lib.hid hc1
      have hrd := ((hr.below hb).more hbs).alloc (Nat.le_refl _) (.cells #[] 5)
      have hdl : (bvs (l.drop (k * 2))).length = (l.length - k * 2) * 1 := by rw [bvs_length, List.length_drop, Nat.mul_one]
      have HDL := Lib.hid hdl
      clear hc1 hdl
      go_wp2_with (first
        | ((with_reducible show wpList _ _ _ (({ dst := some 51, op := _, type := _, pos := _, after := _, guard := _ } : Oper) :: _) _ _); go_must (refine wpList_from rfl (.tmp 47) (.tmp 50) rfl Tryz.underlying22 size_u8w wr.heap.size A l.length c (k * 2) (bvs l) rfl (by rw [Int.natCast_mul]; rfl) hrd (bvs_length l) hnc (by omega) ?_; intro A' c' hc' hrd'; rw [bvs_drop] at hrd'))
        | ((with_reducible show wpList _ _ _ (({ dst := some 52, op := _, type := _, pos := _, after := _, guard := _ } : Oper) :: _) _ _); go_must (refine wpList_app rfl (.tmp 46) (.tmp 51) 22 rfl wr.heap.size 5 j0 (.int .u8 0) 1 1 Tryz.underlying22 hj hy0 hy1 hy2 rfl (by decide) _ 0 [] rfl (World.ownsRow_made wr #[] 0 (Nat.le_refl _) (Nat.zero_le _) rfl) wr.heap.size A' (l.length - k * 2) c' (bvs (l.drop (k * 2))) rfl hrd' HDL.out (bvs_one _) (by simp only [maxLen]; omega) (by omega) (by simp) ?_; intro v2 w2 hown2 hg2; rw [Nat.zero_add, List.nil_append] at hown2; have hb2 : Below wr.heap.size wr w2 := ((Below.refl _ _).alloc (Nat.le_refl _) _).grown hg2 (by simp) (own_block (World.ownsRow_made (e := 5) (size := 1) wr #[] 0 (Nat.le_refl _) (Nat.zero_le _) rfl)); clear hg2)))
      go_ret2
      refine ⟨_, _, rfl, HC1.out.grow hb2, ?_, hb.trans (hb2.mono hbs)⟩
      apply IsBytes.of_own (base := wr.heap.size) (e := 5)
      rw [List.length_drop]
      exact hown2

set_option maxHeartbeats 1000000 in
set_option maxRecDepth 100000 in
theorem refTake_4 (A : Option Addr) (n c m : Nat) (l : List UInt8) (w : World) (hr : Rd w w.heap.size A (bvs l)) (hn : l.length = n) (hm : m = n / 4) (hnc : n ≤ c) (hb1 : n ≤ 100000) :
    Calls Tryz.prog 51 #[.slice A n c, .int .i64 4] w (NewTake w (wordsN m 4 l) (l.drop (m * 4))) := by
  obtain ⟨i0, hi, hz0, hz1, hz2⟩ := info_parts info_u64r
  obtain ⟨j0, hj, hy0, hy1, hy2⟩ := info_parts info_u8w
  subst hn
  have hq : (l.length : Int) / 4 = (m : Int) := by omega
  have hml : m ≤ 100000 := by omega
  have hmW : m * 4 ≤ l.length := by omega
  have HM := Lib.hid hm
  have c1 := refRight_any 4 true rfl
  have C1 := Lib.hid c1
  clear hm c1
  go_enter Tryz.func51, Tryz.ntmps51
  go_wp2_with (go_at_call 14; go_must (refine (C1.out _).mono ?_; rintro e w' ⟨rfl, rfl⟩))
  clear hq
  go_loopw [6, 8] (RTakeRel w 4 m l) (fun _ i _ => m - (intOf i).toNat)
  case atStart => exact ⟨0, Nat.zero_le _, rfl, World.ownsRow_nil _ _ _ _, Below.refl _ _⟩
  case round =>
    obtain ⟨k, hk, rfl, hown, hb⟩ := hrel
    have hbs := hb.size
    by_cases hlt : k < m
    · have hlo : 0 < l.length := by omega
      obtain ⟨ab, ao, rfl, hab, hcells⟩ := hr.at_ (by rw [bvs_length]; exact hlo)
      obtain ⟨ch, hch⟩ : ∃ ch, ch = (l.drop (k * 4)).take 4 := ⟨_, rfl⟩
      have hcl : ch.length = 4 := by rw [hch, List.length_take, List.length_drop]; omega
      have hcb : ∀ t (ht : t < ch.length), Hid (wr.cell? ⟨ab, ao + (k * 4 + t), none⟩ = some (.int .u8 (ch[t].toNat : Int))) := fun t ht => by
        have e : (bvs l)[k * 4 + t]? = some (.int .u8 (ch[t].toNat : Int)) := by
          rw [bvs_get l (k * 4 + t) (by omega)]
          simp [hch]
        have := (hb.cell (p := ⟨ab, ao + (k * 4 + t), none⟩) hab).trans (hcells _ _ e)
        show _ = _
        simpa using this
      have HCB := Lib.hid hcb
      have HCL := Lib.hid hcl
      have hws := wordsN_snoc k 4 l
      rw [← hch] at hws
      have HWS := Lib.hid hws
      have hd : decide ((k : Int) < (m : Int)) = true := by rw [decide_eq_true_eq]; omega
      clear hcells hcb hcl hch hws
      go_wp2
      go_loop [9, 10] (ByteRel 4 ch) (fun _ i => (intOf i + 1).toNat)
      case atStart => exact .inl ⟨3, by omega, rfl, by rw [List.drop_of_length_le (by have := HCL.out; omega)]; rfl⟩
      case round =>
        rcases hrel with ⟨t, ht, rfl, rfl⟩ | ⟨rfl, rfl⟩
        · have htl : t < ch.length := by have := HCL.out; omega
          have hcell := (HCB.out t htl).out
          have hs := byte_step ch t htl (by have := HCL.out; omega)
          obtain ⟨b, hbe⟩ : ∃ b, b = ch[t] := ⟨_, rfl⟩
          rw [← hbe] at hs hcell
          have HS := Lib.hid hs
          have hb8 := b.toNat_lt
          have hb0 : (0 : Int) ≤ (b.toNat : Int) := by omega
          have hb255 : (b.toNat : Int) ≤ 255 := by omega
          have hkl : (k : Int) * 4 + (t : Int) < (l.length : Int) := by omega
          have hnn : (0 : Int) ≤ (k : Int) * 4 + (t : Int) := by omega
          clear hs hbe hb8 hown
          go_wp2
          go_round
          case rel =>
            rw [HS.out]
            cases t with
            | zero => exact .inr ⟨rfl, rfl⟩
            | succ t => exact .inl ⟨t, by omega, by go_num, rfl⟩
          case measure => simp [intOf]
        · have hle := leN_lt ch
          rw [HCL.out] at hle
          obtain ⟨x, hx⟩ : ∃ x, x = leN ch := ⟨_, rfl⟩
          rw [← hx]
          have HX := Lib.hid hx
          clear hle hx
          go_wp2_with ((with_reducible show wpList _ _ _ (({ dst := some 44, op := _, type := _, pos := _, after := _, guard := _ } : Oper) :: _) _ _); go_must (refine wpList_app rfl (.tmp 41) (.tmp 43) 85 rfl w.heap.size 88 i0 (.int .u64 0) 1 8 Tryz.underlying85 hi hz0 hz1 hz2 rfl (by decide) _ _ _ rfl (hown.alloc _) _ _ 1 1 _ rfl (Rd.new _ _ _) rfl (by intro u hu; simp at hu; subst hu; rfl) (by simp only [maxLen]; omega) (by omega) (by simp; omega) ?_; intro v1 w1 hown1 hg1; have hb1 : Below w.heap.size w w1 := (hb.alloc hbs _).grown hg1 (by simp; omega) (own_block hown); clear hg1 hown))
          have hown2 : w1.ownsRow w.heap.size 88 1 v1 (k + 1) (wvs (wordsN (k + 1) 4 l)) := by
            rw [HWS.out, ← HX.out, wvs_snocT]; exact hown1
          clear hown1
          go_wp2
          go_roundw
          case rel => exact ⟨k + 1, by omega, by go_num, hown2, hb1⟩
          case measure => simp [intOf]; omega
    · obtain rfl : k = m := by omega
      have hc1 := IsCells.of_own hown (by rw [wvs_length, wordsN_len])
      have HC1 := Lib.hid hc1
      have hrd := ((hr.below hb).more hbs).alloc (Nat.le_refl _) (.cells #[] 5)
      have hdl : (bvs (l.drop (k * 4))).length = (l.length - k * 4) * 1 := by rw [bvs_length, List.length_drop, Nat.mul_one]
      have HDL := Lib.hid hdl
      clear hc1 hdl
      go_wp2_with (first
        | ((with_reducible show wpList _ _ _ (({ dst := some 51, op := _, type := _, pos := _, after := _, guard := _ } : Oper) :: _) _ _); go_must (refine wpList_from rfl (.tmp 47) (.tmp 50) rfl Tryz.underlying22 size_u8w wr.heap.size A l.length c (k * 4) (bvs l) rfl (by rw [Int.natCast_mul]; rfl) hrd (bvs_length l) hnc (by omega) ?_; intro A' c' hc' hrd'; rw [bvs_drop] at hrd'))
        | ((with_reducible show wpList _ _ _ (({ dst := some 52, op := _, type := _, pos := _, after := _, guard := _ } : Oper) :: _) _ _); go_must (refine wpList_app rfl (.tmp 46) (.tmp 51) 22 rfl wr.heap.size 5 j0 (.int .u8 0) 1 1 Tryz.underlying22 hj hy0 hy1 hy2 rfl (by decide) _ 0 [] rfl (World.ownsRow_made wr #[] 0 (Nat.le_refl _) (Nat.zero_le _) rfl) wr.heap.size A' (l.length - k * 4) c' (bvs (l.drop (k * 4))) rfl hrd' HDL.out (bvs_one _) (by simp only [maxLen]; omega) (by omega) (by simp) ?_; intro v2 w2 hown2 hg2; rw [Nat.zero_add, List.nil_append] at hown2; have hb2 : Below wr.heap.size wr w2 := ((Below.refl _ _).alloc (Nat.le_refl _) _).grown hg2 (by simp) (own_block (World.ownsRow_made (e := 5) (size := 1) wr #[] 0 (Nat.le_refl _) (Nat.zero_le _) rfl)); clear hg2)))
      go_ret2
      refine ⟨_, _, rfl, HC1.out.grow hb2, ?_, hb.trans (hb2.mono hbs)⟩
      apply IsBytes.of_own (base := wr.heap.size) (e := 5)
      rw [List.length_drop]
      exact hown2

set_option maxHeartbeats 1000000 in
set_option maxRecDepth 100000 in
theorem refTake_8 (A : Option Addr) (n c m : Nat) (l : List UInt8) (w : World) (hr : Rd w w.heap.size A (bvs l)) (hn : l.length = n) (hm : m = n / 8) (hnc : n ≤ c) (hb1 : n ≤ 100000) :
    Calls Tryz.prog 51 #[.slice A n c, .int .i64 8] w (NewTake w (wordsN m 8 l) (l.drop (m * 8))) := by
  obtain ⟨i0, hi, hz0, hz1, hz2⟩ := info_parts info_u64r
  obtain ⟨j0, hj, hy0, hy1, hy2⟩ := info_parts info_u8w
  subst hn
  have hq : (l.length : Int) / 8 = (m : Int) := by omega
  have hml : m ≤ 100000 := by omega
  have hmW : m * 8 ≤ l.length := by omega
  have HM := Lib.hid hm
  have c1 := refRight_any 8 true rfl
  have C1 := Lib.hid c1
  clear hm c1
  go_enter Tryz.func51, Tryz.ntmps51
  go_wp2_with (go_at_call 14; go_must (refine (C1.out _).mono ?_; rintro e w' ⟨rfl, rfl⟩))
  clear hq
  go_loopw [6, 8] (RTakeRel w 8 m l) (fun _ i _ => m - (intOf i).toNat)
  case atStart => exact ⟨0, Nat.zero_le _, rfl, World.ownsRow_nil _ _ _ _, Below.refl _ _⟩
  case round =>
    obtain ⟨k, hk, rfl, hown, hb⟩ := hrel
    have hbs := hb.size
    by_cases hlt : k < m
    · have hlo : 0 < l.length := by omega
      obtain ⟨ab, ao, rfl, hab, hcells⟩ := hr.at_ (by rw [bvs_length]; exact hlo)
      obtain ⟨ch, hch⟩ : ∃ ch, ch = (l.drop (k * 8)).take 8 := ⟨_, rfl⟩
      have hcl : ch.length = 8 := by rw [hch, List.length_take, List.length_drop]; omega
      have hcb : ∀ t (ht : t < ch.length), Hid (wr.cell? ⟨ab, ao + (k * 8 + t), none⟩ = some (.int .u8 (ch[t].toNat : Int))) := fun t ht => by
        have e : (bvs l)[k * 8 + t]? = some (.int .u8 (ch[t].toNat : Int)) := by
          rw [bvs_get l (k * 8 + t) (by omega)]
          simp [hch]
        have := (hb.cell (p := ⟨ab, ao + (k * 8 + t), none⟩) hab).trans (hcells _ _ e)
        show _ = _
        simpa using this
      have HCB := Lib.hid hcb
      have HCL := Lib.hid hcl
      have hws := wordsN_snoc k 8 l
      rw [← hch] at hws
      have HWS := Lib.hid hws
      have hd : decide ((k : Int) < (m : Int)) = true := by rw [decide_eq_true_eq]; omega
      clear hcells hcb hcl hch hws
      go_wp2
      go_loop [9, 10] (ByteRel 8 ch) (fun _ i => (intOf i + 1).toNat)
      case atStart => exact .inl ⟨7, by omega, rfl, by rw [List.drop_of_length_le (by have := HCL.out; omega)]; rfl⟩
      case round =>
        rcases hrel with ⟨t, ht, rfl, rfl⟩ | ⟨rfl, rfl⟩
        · have htl : t < ch.length := by have := HCL.out; omega
          have hcell := (HCB.out t htl).out
          have hs := byte_step ch t htl (by have := HCL.out; omega)
          obtain ⟨b, hbe⟩ : ∃ b, b = ch[t] := ⟨_, rfl⟩
          rw [← hbe] at hs hcell
          have HS := Lib.hid hs
          have hb8 := b.toNat_lt
          have hb0 : (0 : Int) ≤ (b.toNat : Int) := by omega
          have hb255 : (b.toNat : Int) ≤ 255 := by omega
          have hkl : (k : Int) * 8 + (t : Int) < (l.length : Int) := by omega
          have hnn : (0 : Int) ≤ (k : Int) * 8 + (t : Int) := by omega
          clear hs hbe hb8 hown
          go_wp2
          go_round
          case rel =>
            rw [HS.out]
            cases t with
            | zero => exact .inr ⟨rfl, rfl⟩
            | succ t => exact .inl ⟨t, by omega, by go_num, rfl⟩
          case measure => simp [intOf]
        · have hle := leN_lt ch
          rw [HCL.out] at hle
          obtain ⟨x, hx⟩ : ∃ x, x = leN ch := ⟨_, rfl⟩
          rw [← hx]
          have HX := Lib.hid hx
          clear hle hx
          go_wp2_with ((with_reducible show wpList _ _ _ (({ dst := some 44, op := _, type := _, pos := _, after := _, guard := _ } : Oper) :: _) _ _); go_must (refine wpList_app rfl (.tmp 41) (.tmp 43) 85 rfl w.heap.size 88 i0 (.int .u64 0) 1 8 Tryz.underlying85 hi hz0 hz1 hz2 rfl (by decide) _ _ _ rfl (hown.alloc _) _ _ 1 1 _ rfl (Rd.new _ _ _) rfl (by intro u hu; simp at hu; subst hu; rfl) (by simp only [maxLen]; omega) (by omega) (by simp; omega) ?_; intro v1 w1 hown1 hg1; have hb1 : Below w.heap.size w w1 := (hb.alloc hbs _).grown hg1 (by simp; omega) (own_block hown); clear hg1 hown))
          have hown2 : w1.ownsRow w.heap.size 88 1 v1 (k + 1) (wvs (wordsN (k + 1) 8 l)) := by
            rw [HWS.out, ← HX.out, wvs_snocT]; exact hown1
          clear hown1
          go_wp2
          go_roundw
          case rel => exact ⟨k + 1, by omega, by go_num, hown2, hb1⟩
          case measure => simp [intOf]; omega
    · obtain rfl : k = m := by omega
      have hc1 := IsCells.of_own hown (by rw [wvs_length, wordsN_len])
      have HC1 := Lib.hid hc1
      have hrd := ((hr.below hb).more hbs).alloc (Nat.le_refl _) (.cells #[] 5)
      have hdl : (bvs (l.drop (k * 8))).length = (l.length - k * 8) * 1 := by rw [bvs_length, List.length_drop, Nat.mul_one]
      have HDL := Lib.hid hdl
      clear hc1 hdl
      go_wp2_with (first
        | ((with_reducible show wpList _ _ _ (({ dst := some 51, op := _, type := _, pos := _, after := _, guard := _ } : Oper) :: _) _ _); go_must (refine wpList_from rfl (.tmp 47) (.tmp 50) rfl Tryz.underlying22 size_u8w wr.heap.size A l.length c (k * 8) (bvs l) rfl (by rw [Int.natCast_mul]; rfl) hrd (bvs_length l) hnc (by omega) ?_; intro A' c' hc' hrd'; rw [bvs_drop] at hrd'))
        | ((with_reducible show wpList _ _ _ (({ dst := some 52, op := _, type := _, pos := _, after := _, guard := _ } : Oper) :: _) _ _); go_must (refine wpList_app rfl (.tmp 46) (.tmp 51) 22 rfl wr.heap.size 5 j0 (.int .u8 0) 1 1 Tryz.underlying22 hj hy0 hy1 hy2 rfl (by decide) _ 0 [] rfl (World.ownsRow_made wr #[] 0 (Nat.le_refl _) (Nat.zero_le _) rfl) wr.heap.size A' (l.length - k * 8) c' (bvs (l.drop (k * 8))) rfl hrd' HDL.out (bvs_one _) (by simp only [maxLen]; omega) (by omega) (by simp) ?_; intro v2 w2 hown2 hg2; rw [Nat.zero_add, List.nil_append] at hown2; have hb2 : Below wr.heap.size wr w2 := ((Below.refl _ _).alloc (Nat.le_refl _) _).grown hg2 (by simp) (own_block (World.ownsRow_made (e := 5) (size := 1) wr #[] 0 (Nat.le_refl _) (Nat.zero_le _) rfl)); clear hg2)))
      go_ret2
      refine ⟨_, _, rfl, HC1.out.grow hb2, ?_, hb.trans (hb2.mono hbs)⟩
      apply IsBytes.of_own (base := wr.heap.size) (e := 5)
      rw [List.length_drop]
      exact hown2
end Go.Proofs.YtflcmmeoppdhdaaGreat
namespace Go.Proofs.YtflcmmeoppdhdaaGreat

/-- The words of bytes, and what is left behind them. -/
def wordsOf (W : Nat) (l : List UInt8) : List Nat := wordsN (l.length / W) W l
def restOf (W : Nat) (l : List UInt8) : List UInt8 := l.drop (l.length / W * W)
theorem wordsOf_len (W : Nat) (l : List UInt8) : (wordsOf W l).length = l.length / W := wordsN_len _ _ _
theorem restOf_len (W : Nat) (l : List UInt8) : (restOf W l).length = l.length - l.length / W * W := by simp [restOf]
theorem words_of_lay {W : Nat} (hW : 0 < W) (ws : List Nat) (rest : List UInt8) (hr : rest.length < W) :
    wordsOf W (layW W ws ++ rest) = ws.map (· % 256 ^ W) ∧ restOf W (layW W ws ++ rest) = rest := by
  have hd : (layW W ws ++ rest).length / W = ws.length := by
    rw [List.length_append, layW_len, Nat.add_comm, Nat.add_mul_div_right _ _ hW, Nat.div_eq_of_lt hr, Nat.zero_add]
  unfold wordsOf restOf
  rw [hd]
  refine ⟨words_layW W ws rest, ?_⟩
  rw [List.drop_left' (layW_len W ws)]
theorem rest_lt {W : Nat} (hW : 0 < W) (l : List UInt8) : (restOf W l).length < W := by
  rw [restOf_len]
  have h1 := Nat.div_add_mod l.length W
  have h2 := Nat.mod_lt l.length hW
  rw [Nat.mul_comm] at h1
  omega
theorem lay_words {W : Nat} (l : List UInt8) : layW W (wordsOf W l) ++ restOf W l = l := by
  unfold wordsOf restOf
  rw [layW_words _ _ _ (Nat.div_mul_le_self _ _), List.take_append_drop]
theorem wordsOf_lt {W : Nat} (hW : 0 < W) (l : List UInt8) : ∀ x ∈ wordsOf W l, x < 256 ^ W := by
  have h := words_of_lay hW (wordsOf W l) (restOf W l) (rest_lt hW l)
  rw [lay_words] at h
  intro x hx
  rw [h.1] at hx
  obtain ⟨y, _, rfl⟩ := List.mem_map.1 hx
  exact Nat.mod_lt _ (Nat.pow_pos (by decide))
end Go.Proofs.YtflcmmeoppdhdaaGreat
namespace Go.Proofs.YtflcmmeoppdhdaaGreat
open Go.RowKit

theorem refTake_any {W : Nat} (hW : IsW W) (A : Option Addr) (c : Nat) (l : List UInt8) (w : World) (hr : Rd w w.heap.size A (bvs l)) (hnc : l.length ≤ c) (hb1 : l.length ≤ 100000) :
    Calls Tryz.prog 51 #[.slice A l.length c, .int .i64 (W : Int)] w (NewTake w (wordsOf W l) (restOf W l)) := by
  rcases hW with rfl | rfl | rfl | rfl
  · exact refTake_1 A l.length c _ l w hr rfl rfl hnc hb1
  · exact refTake_2 A l.length c _ l w hr rfl rfl hnc hb1
  · exact refTake_4 A l.length c _ l w hr rfl rfl hnc hb1
  · exact refTake_8 A l.length c _ l w hr rfl rfl hnc hb1
end Go.Proofs.YtflcmmeoppdhdaaGreat
namespace Go.Proofs.YtflcmmeoppdhdaaGreat
open Go.RowKit

theorem info_u8' : (Tryz.prog.info? 5).map (fun i => (i.zero, i.size, i.bytes)) = some (some (.int .u8 0), 1, 1) := by kernel_rfl
/-- What hands back the bytes l in new memory. -/
def NewBy (w : World) (l : List UInt8) (e : Ending) (w' : World) : Prop :=
  ∃ v, e = .returned v ∧ w'.ownsRow w.heap.size 5 1 v l.length (bvs l) ∧ Below w.heap.size w w'

theorem run_eq_nil {P : Program} (w : World) (t e : TypeId) (a : Option Addr) (n c : Nat) (h : P.underlying t = some (.slice e)) :
    (binOp .eql t (.slice a n c) (.slice none 0 0)).run P w = .ok (.bool a.isNone) w := by
  simp only [binOp]
  simp [Op.equal, Op.maxDepth, Lib.run_equalIn_slice_nil w 9999 t e a n c 0 0 h]

set_option maxHeartbeats 1000000 in
theorem clone_all (A : Option Addr) (n c : Nat) (l : List UInt8) (w : World) (hr : Rd w w.heap.size A (bvs l)) (hn : l.length = n) (hn1 : n ≤ 140737488355000) :
    Calls Tryz.prog 164 #[.slice A n c] w (NewBy w l) := by
  cases A with
  | none =>
    have hl : l = [] := by
      cases l with
      | nil => rfl
      | cons a r => obtain ⟨_, _, e, _⟩ := hr 0 _ (bvs_get (a :: r) 0 (by simp)); cases e
    subst hl
    obtain rfl : 0 = n := by simpa using hn
    have heq : (binOp .eql 22 (.slice none 0 c) (.slice none 0 0)).run Tryz.prog w = .ok (.bool true) w := run_eq_nil w _ _ none 0 c Tryz.underlying22
    go_enter Tryz.func164, Tryz.ntmps164
    go_wp2
    go_ret
    exact ⟨_, rfl, World.ownsRow_nil _ _ _ _, Below.refl _ _⟩
  | some a =>
    obtain ⟨i0, hi, hz0, hz1, hz2⟩ := info_parts info_u8'
    have hcl : (bvs l).length = n * 1 := by rw [bvs_length, hn, Nat.mul_one]
    have HCL := Lib.hid hcl
    have HN := Lib.hid hn
    clear hcl hn
    have heq : (binOp .eql 22 (.slice (some a) n c) (.slice none 0 0)).run Tryz.prog w = .ok (.bool false) w := run_eq_nil w _ _ (some a) n c Tryz.underlying22
    go_enter Tryz.func164, Tryz.ntmps164
    go_wp2_with (at_builtin; go_must (refine wpList_app rfl (.tmp 5) (.tmp 6) 22 rfl w.heap.size 5 i0 (.int .u8 0) 1 1 Tryz.underlying22 hi hz0 hz1 hz2 rfl (by decide) _ 0 [] rfl (World.ownsRow_made w #[] 0 (Nat.le_refl _) (Nat.zero_le _) rfl) w.heap.size _ n _ (bvs l) rfl (hr.alloc (Nat.le_refl _) _) HCL.out (bvs_one _) (by simp only [maxLen]; omega) (by omega) (by simp) ?_; intro v2 w2 hown2 hg2; rw [Nat.zero_add, List.nil_append] at hown2; have hb2 : Below w.heap.size w w2 := ((Below.refl _ _).alloc (Nat.le_refl _) _).grown hg2 (by simp) (own_block (World.ownsRow_made (e := 5) (size := 1) w #[] 0 (Nat.le_refl _) (Nat.zero_le _) rfl))))
    go_ret
    exact ⟨_, rfl, by rw [HN.out]; exact hown2, hb2⟩
theorem clone_any (A : Option Addr) (n c : Nat) (l : List UInt8) (w : World) (hr : Rd w w.heap.size A (bvs l)) (hn : l.length = n) (hn1 : n ≤ 140737488355000) (_ : A = none → c = 0) :
    Calls Tryz.prog 164 #[.slice A n c] w (NewBy w l) := clone_all A n c l w hr hn hn1
set_option maxHeartbeats 1000000 in
/-- bytes.Clone has the same text. -/
theorem bcloneB_any (A : Option Addr) (n c : Nat) (l : List UInt8) (w : World) (hr : Rd w w.heap.size A (bvs l)) (hn : l.length = n) (hn1 : n ≤ 140737488355000) :
    Calls Tryz.prog 274 #[.slice A n c] w (NewBy w l) := by
  cases A with
  | none =>
    have hl : l = [] := by
      cases l with
      | nil => rfl
      | cons a r => obtain ⟨_, _, e, _⟩ := hr 0 _ (bvs_get (a :: r) 0 (by simp)); cases e
    subst hl
    obtain rfl : 0 = n := by simpa using hn
    have heq : (binOp .eql 22 (.slice none 0 c) (.slice none 0 0)).run Tryz.prog w = .ok (.bool true) w := run_eq_nil w _ _ none 0 c Tryz.underlying22
    go_enter Tryz.func274, Tryz.ntmps274
    go_wp2
    go_ret
    exact ⟨_, rfl, World.ownsRow_nil _ _ _ _, Below.refl _ _⟩
  | some a =>
    obtain ⟨i0, hi, hz0, hz1, hz2⟩ := info_parts info_u8'
    have hcl : (bvs l).length = n * 1 := by rw [bvs_length, hn, Nat.mul_one]
    have HCL := Lib.hid hcl
    have HN := Lib.hid hn
    clear hcl hn
    have heq : (binOp .eql 22 (.slice (some a) n c) (.slice none 0 0)).run Tryz.prog w = .ok (.bool false) w := run_eq_nil w _ _ (some a) n c Tryz.underlying22
    go_enter Tryz.func274, Tryz.ntmps274
    go_wp2_with (at_builtin; go_must (refine wpList_app rfl (.tmp 5) (.tmp 6) 22 rfl w.heap.size 5 i0 (.int .u8 0) 1 1 Tryz.underlying22 hi hz0 hz1 hz2 rfl (by decide) _ 0 [] rfl (World.ownsRow_made w #[] 0 (Nat.le_refl _) (Nat.zero_le _) rfl) w.heap.size _ n _ (bvs l) rfl (hr.alloc (Nat.le_refl _) _) HCL.out (bvs_one _) (by simp only [maxLen]; omega) (by omega) (by simp) ?_; intro v2 w2 hown2 hg2; rw [Nat.zero_add, List.nil_append] at hown2; have hb2 : Below w.heap.size w w2 := ((Below.refl _ _).alloc (Nat.le_refl _) _).grown hg2 (by simp) (own_block (World.ownsRow_made (e := 5) (size := 1) w #[] 0 (Nat.le_refl _) (Nat.zero_le _) rfl))))
    go_ret
    exact ⟨_, rfl, by rw [HN.out]; exact hown2, hb2⟩
end Go.Proofs.YtflcmmeoppdhdaaGreat
namespace Go.Proofs.YtflcmmeoppdhdaaGreat
open Go.RowKit


theorem bvs_set (l : List UInt8) (k : Nat) (c : UInt8) : (bvs l).set k (.int .u8 c.toNat) = bvs (l.set k c) := by simp [bvs, List.map_set]
theorem u8n {n : Nat} (h : n < 256) : (UInt8.ofNat n).toNat = n := by simp [UInt8.toNat_ofNat']; omega
theorem or_bit (x : UInt8) (b : Bool) (r : Nat) (hr : r < 8) :
    ∃ c : UInt8, bits .or .u8 (x.toNat : Int) ((b.toNat : Int) * 2 ^ r % 256) = (c.toNat : Int) ∧ c.toNat = x.toNat ||| b.toNat <<< r := by
  have hx := x.toNat_lt
  have hb : b.toNat ≤ 1 := by cases b <;> simp
  have hp : 2 ^ r ≤ 128 := by have := Nat.pow_le_pow_right (n := 2) (by decide) (show r ≤ 7 by omega); simpa using this
  have hs : b.toNat <<< r ≤ 128 := by
    rw [Nat.shiftLeft_eq]
    have := Nat.mul_le_mul hb hp
    omega
  have hlt : x.toNat ||| b.toNat <<< r < 2 ^ 8 := Nat.or_lt_two_pow (by omega) (by omega)
  have e : (b.toNat : Int) * 2 ^ r % 256 = ((b.toNat <<< r : Nat) : Int) := by
    rw [Nat.shiftLeft_eq] at hs ⊢
    have : ((b.toNat * 2 ^ r : Nat) : Int) = (b.toNat : Int) * 2 ^ r := by simp
    rw [← this]
    omega
  refine ⟨UInt8.ofNat (x.toNat ||| b.toNat <<< r), ?_, ?_⟩
  · rw [e, u8_or _ _ (by omega) (by omega) (by omega) (by omega), Int.toNat_natCast, Int.toNat_natCast]
    rw [u8n hlt]
  · exact u8n hlt

theorem bit_arg (V k : Nat) (hV : V < 18446744073709551616) : bits .and .u64 ((V : Int) / 2 ^ k) 1 % 256 = ((V.testBit k).toNat : Int) := by
  have hd : V / 2 ^ k ≤ V := Nat.div_le_self _ _
  have ht := Nat.testBit_eq_decide_div_mod_eq (x := V) (i := k)
  have e : (V : Int) / 2 ^ k = ((V / 2 ^ k : Nat) : Int) := by simp
  rw [e, ht]
  generalize V / 2 ^ k = q at *
  rw [and1_u64 _ (by omega) (by omega)]
  rcases Nat.mod_two_eq_zero_or_one q with h | h
  · rw [h]; simp; omega
  · rw [h]; simp; omega

end Go.Proofs.YtflcmmeoppdhdaaGreat
namespace Go.Proofs.YtflcmmeoppdhdaaGreat
open Go.RowKit

/- The reader's small methods. -/
section
variable {w : World} {g : Nat} {bs : List UInt8} {at_ e c : Nat} {A : Option Addr}
end
end Go.Proofs.YtflcmmeoppdhdaaGreat
namespace Go.Proofs.YtflcmmeoppdhdaaGreat
open Go.RowKit

section
variable {w : World} {g : Nat} {L : List Bool}
/- runs of ones -/
end
end Go.Proofs.YtflcmmeoppdhdaaGreat
namespace Go.Proofs.YtflcmmeoppdhdaaGreat
open Go.RowKit

section
variable {w : World} {g : Nat} {L : List Bool}
end
end Go.Proofs.YtflcmmeoppdhdaaGreat
