/- Layer 18: the program's encoder: turned; slices.Backward of bytes. -/
import Derived.Test.YtfdgnhfppginiaaRansEnc
import Derived.Test.YtfdgnhfppginiaaRangeStill
import Derived.BigRegionIn
import Derived.RangeFuncNested
import Derived.RangeFuncBox
import Derived.RangeFuncLeaves
import Derived.Shelf.Abstract
import Derived.OwnWalkIn
import Derived.TacticsInMore
import Derived.LoopNIn
import Derived.LoopIn
import Derived.Maps.AppendAt
namespace Go.Proofs.Ytfdgnhfppginiaa
open Go.RowKit Go.Sort

/-- The lowest bytes of a number, the lowest first. -/
def lows : Nat → Nat → List Nat
  | 0, _ => []
  | k + 1, x => x % 256 :: lows k (x / 256)
theorem lows_be4 {x : Nat} (hx : x < 4294967296) : (lows 4 x).reverse = be4 x := by
  simp only [lows, be4, List.reverse_cons, List.reverse_nil, List.nil_append, List.cons_append, List.cons.injEq, and_true]
  omega
theorem u8s_reverse (l : List Nat) : (u8s l).reverse = u8s l.reverse := by simp [u8s]
/-- What holds at the head of a round of turned. -/
def TuRel (w : World) (E x : Nat) (O : List UInt8) (i : Value) (wr : World) : Prop :=
  ∃ (j xj : Nat) (o1 : List Nat), j ≤ 4 ∧ i = .int .i64 (j : Int) ∧ o1.length = j ∧ o1 ++ lows (4 - j) xj = lows 4 x ∧ EncS wr E xj (O ++ u8s o1) ∧ OnlyT E encRT w wr
set_option maxHeartbeats 2000000 in
set_option maxRecDepth 100000 in
theorem ransTurned_any {w : World} {E x : Nat} {O : List UInt8} (h : EncS w E x O) (hx : x < 2147483648) (ho : O.length ≤ 90000) :
    Calls Try.prog 26 #[.pointer (some ⟨E, 0, none⟩)] w fun e w' => ∃ v, e = .returned v ∧ w'.ownsRow (E + 1) 5 1 v (4 + O.length) (bvs (u8s (be4 x) ++ O.reverse)) ∧ OnlyT E encRT w w' := by
  have HREL := Lib.hid (show TuRel w E x O (.int .i64 ((0 : Nat) : Int)) w from ⟨0, x, [], Nat.zero_le _, rfl, rfl, rfl, by rw [show u8s [] = [] from rfl, List.append_nil]; exact h, OnlyT.refl _ _ _⟩)
  have HO := Lib.hid ho
  have HX := Lib.hid hx
  clear h ho hx
  go_enter Try.func26, Try.ntmps26
  go_wp2
  go_loopw [3] (TuRel w E x O) (fun i _ => 4 - (intOf i).toNat)
  case atStart => exact HREL.out
  case round =>
    clear HREL
    obtain ⟨j, xj, o1, hj, rfl, hol, hoo, he, hot⟩ := hrel
    by_cases hlt : j < 4
    · have C := Lib.hid (ransGive_any he (by rw [List.length_append, u8s_length]; have := HO.out; omega))
      have HOT := Lib.hid hot
      have HH := Lib.hid (And.intro hol (show o1 ++ [xj % 256] ++ lows (4 - (j + 1)) (xj / 256) = lows 4 x by
        rw [← hoo, show 4 - j = (4 - (j + 1)) + 1 by omega, lows, List.append_assoc]; rfl))
      have hji : (j : Int) < 4 := by omega
      clear hol hoo he hot
      go_wp2_with fail
      refine C.out.mono ?_
      rintro _ w5 ⟨rfl, he5, ho5⟩
      have HE5 := Lib.hid he5
      have HO5 := Lib.hid (HOT.out.trans ho5)
      clear he5 ho5 C HOT
      go_wp2
      go_roundw
      case rel => exact ⟨j + 1, xj / 256, o1 ++ [xj % 256], by omega, by go_num, by rw [List.length_append, List.length_singleton, HH.out.1], HH.out.2, by rw [u8s_snoc, ← List.append_assoc]; exact HE5.out, HO5.out⟩
      case measure => simp [intOf]; omega
    · obtain rfl : j = 4 := by omega
      rw [Nat.sub_self, lows, List.append_nil] at hoo
      subst hoo
      obtain ⟨v, hb, hown⟩ := he
      obtain ⟨A1, c1, rfl, -, -, -⟩ := own_form hown
      obtain ⟨M, hM⟩ : ∃ M, M = O ++ u8s (lows 4 x) := ⟨_, rfl⟩
      have hMr : M.reverse = u8s (be4 x) ++ O.reverse := by rw [hM, List.reverse_append, u8s_reverse, lows_be4 (by have := HX.out; omega)]
      have hMl : M.length = 4 + O.length := by rw [hM, List.length_append, u8s_length]; simp [lows]; omega
      rw [← hM] at hb hown
      have C := Lib.hid (rev_own hown (by have := HO.out; omega) (fun e => by rw [e] at hMl; simp at hMl; omega))
      rw [hMr, hMl] at C
      rw [hMl] at hb
      have hc1 := hb.cell 1
      simp only [List.getElem?_cons_zero, List.getElem?_cons_succ] at hc1
      have HB := Lib.hid hb
      have HOT := Lib.hid hot
      have hgl := hb.lt
      clear hb hown hot hM hMr hMl hol hlt hj
      go_wp2_with fail
      refine C.out.mono ?_
      rintro _ w5 ⟨rfl, hown5, hb5, ho5⟩
      have hbl5 := HB.out.only ho5 (by decide)
      have hd1 := hbl5.cell 1
      simp only [List.getElem?_cons_zero, List.getElem?_cons_succ] at hd1
      have HE := Lib.hid (And.intro hown5 (HOT.out.trans ((ho5.more (ts' := encRT) (by simp [encRT])).base (Nat.le_succ E))))
      have hgl5 : E < w5.heap.size := hbl5.lt
      clear hown5 hb5 ho5 hbl5 C HB HOT hc1
      go_wp2
      go_ret
      exact ⟨_, rfl, HE.out.1, HE.out.2⟩
/-- A place, and the byte there. -/
def encNB (x : Nat × UInt8) : Array Value := #[.int .i64 (x.1 : Int), .int .u8 (x.2.toNat : Int)]
/-- The bytes, the last one first, with their places. -/
def backL (l : List UInt8) : List (Nat × UInt8) := (List.range l.length).map fun k => (l.length - 1 - k, l.getD (l.length - 1 - k) 0)
theorem backL_len (l : List UInt8) : (backL l).length = l.length := by simp [backL]
theorem backL_get (l : List UInt8) (k : Nat) (h : k < l.length) : (backL l)[k]? = some (l.length - 1 - k, l[l.length - 1 - k]'(by omega)) := by
  simp [backL, h, List.getD_eq_getElem?_getD, show l.length - 1 - k < l.length by omega]
def keepN (Bs n₀ : Nat) (k : Nat) : Prop := k = Bs ∨ k < n₀
set_option maxRecDepth 100000 in
set_option maxHeartbeats 2000000 in
theorem backward_hands (n : Nat) (hn : 1 ≤ n) (Bs n₀ : Nat) (A : Option Addr) (c : Nat) (l : List UInt8) (hl : l.length ≤ 1000000) (w : World) (hB : Boxed w Bs 22 (.slice A l.length c)) (hr : Rd w n₀ A (bvs l)) :
    HandsStill n Try.prog 72 #[.pointer (some ⟨Bs, 0, none⟩)] (keepN Bs n₀) encNB (backL l) w := by
  intro lq J W hW hY h0
  have hc0 := (show Boxed W Bs 22 (.slice A l.length c) from (hW.2 Bs (.inl rfl)).trans hB).cell
  have HB := Lib.hid hB
  have HR := Lib.hid hr
  clear hB hr
  refine callsIn_of_wp Try.func72 rfl trivial ?_ rfl
  simp only [Try.ntmps72, List.size_toArray, List.length_cons, List.length_nil, Nat.reduceAdd, Nat.reduceSub, Array.replicate_succ, Array.replicate_zero, List.push_toArray, List.append_toArray, List.nil_append, List.cons_append]
  gi_wp2
  clear hc0
  gi_loopw [3] (fun i wr => ∃ (k : Nat) (z : Int), k ≤ l.length ∧ z = (l.length : Int) - 1 - (k : Int) ∧ i = .int .i64 z ∧ J ((backL l).take k) wr ∧ KeepsB (keepN Bs n₀) w wr) (fun i _ => (intOf i + 1).toNat)
  case atStart => exact ⟨0, _, Nat.zero_le _, by simp, rfl, h0, hW⟩
  case round =>
    obtain ⟨k, z, hk, hz, rfl, hJs, hkp⟩ := hrel
    by_cases hlt : k < l.length
    · obtain ⟨q, hq⟩ : ∃ q, q = l.length - 1 - k := ⟨_, rfl⟩
      have hzq : z = (q : Int) := by omega
      subst hzq
      have hql : q < l.length := by omega
      obtain ⟨ab, ao, rfl, hab, hcell0⟩ := HR.out q _ (bvs_get l q hql)
      have hcell := (World.cell?_of_block (a := ⟨ab, ao + q, none⟩) (hkp.2 ab (.inr hab))).trans hcell0
      have hmc := (show Boxed wr Bs 22 _ from (hkp.2 Bs (.inl rfl)).trans HB.out).cell
      have hget := backL_get l k hlt
      obtain ⟨hklt, hgetE⟩ := List.getElem?_eq_some_iff.1 hget
      have htake := List.take_append_getElem (l := backL l) (i := k) hklt
      have hsplit : (backL l).take k ++ (backL l)[k] :: (backL l).drop (k + 1) = backL l := by
        rw [← List.drop_eq_getElem_cons hklt, List.take_append_drop]
      obtain ⟨fn, tmps, assign, body, hy, hRR⟩ := hY _ _ _ wr hsplit hJs
      rw [htake] at hRR
      rw [hgetE] at hy
      unfold encNB at hy
      simp only [← hq] at hy
      obtain ⟨b, hb⟩ : ∃ b, b = (l[q]'hql).toNat := ⟨_, rfl⟩
      rw [← hb] at hy hcell
      have hqi : (q : Int) < (l.length : Int) := by omega
      have HKP := Lib.hid hkp
      have HQ := Lib.hid hq
      clear hget hgetE htake hsplit hcell0 hkp hJs hq hb hz hklt
      gi_wp2
      refine hRR.mono ?_
      rintro e W3 ⟨rfl, hJ3, hk3⟩
      gi_wp2
      go_roundw
      case rel => exact ⟨k + 1, _, by omega, by have := HQ.out; omega, rfl, hJ3, HKP.out.trans hk3⟩
      case measure => simp [intOf]
    · obtain rfl : k = l.length := by omega
      have hz1 : z = -1 := by omega
      subst hz1
      rw [List.take_of_length_le (by rw [backL_len]; exact Nat.le_refl _)] at hJs
      clear hz
      gi_wp2
      go_end0
      exact ⟨⟨_, rfl⟩, hJs⟩
theorem backwardB_any (A : Option Addr) (n c : Nat) (w : World) :
    Calls Try.prog 23 #[.slice A n c] w fun e w' => e = .returned (.func (.func 72) #[] #[.pointer (some ⟨w.heap.size, 0, none⟩)]) ∧ Below w.heap.size w w' ∧ w'.heap.size = w.heap.size + 1 ∧ Boxed w' w.heap.size 22 (.slice A n c) := by
  go_enter Try.func23, Try.ntmps23
  go_wp2
  go_ret
  exact ⟨rfl, (Below.refl _ _).alloc (Nat.le_refl _) _, by simp, heap_alloc_new w _⟩
end Go.Proofs.Ytfdgnhfppginiaa
