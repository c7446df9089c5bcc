/- Layer 18: the program's decoder: take, begun, behind. -/
import Derived.Test.YtfdgnhfppginiaaRansDecM
import Derived.Test.YtfdgnhfppginiaaSlotOf
namespace Go.Proofs.Ytfdgnhfppginiaa
open Go.RowKit Go.Sort

theorem size_u8R : (Try.prog.info? 5).map (·.size) = some 1 := by kernel_rfl
/-- The decoder at D: a state, the bytes that are left (below block K), whether one lacked. -/
def DecS (w : World) (D K x : Nat) (S : List UInt8) (sh : Bool) : Prop :=
  ∃ A n m, Blk w D 112 [.int .i64 (x : Int), .slice A n m, .bool sh] ∧ Rd w K A (bvs S) ∧ S.length = n ∧ n ≤ m ∧ n ≤ 1000000 ∧ K ≤ D
section
variable {w : World} {D K x : Nat} {S : List UInt8} {sh : Bool}
theorem DecS.below {w' : World} (h : DecS w D K x S sh) (hb : Below w.heap.size w w') : DecS w' D K x S sh := by
  obtain ⟨A, n, m, h1, h2, h3, h4, h5, h6⟩ := h
  exact ⟨A, n, m, h1.grow hb, h2.below (hb.mono (by have := h1.lt; omega)), h3, h4, h5, h6⟩
theorem DecS.same {w' : World} (h : DecS w D K x S sh) (e : w'.heap = w.heap) : DecS w' D K x S sh := by
  obtain ⟨A, n, m, h1, h2, h3, h4, h5, h6⟩ := h
  exact ⟨A, n, m, h1.same e, h2.keep (fun p _ => World.cell?_of_block (by rw [e])), h3, h4, h5, h6⟩
theorem DecS.lt (h : DecS w D K x S sh) : D < w.heap.size := by
  obtain ⟨A, n, m, h1, -⟩ := h
  exact h1.lt
theorem DecS.setX (h : DecS w D K x S sh) (y : Nat) : DecS (w.setCell ⟨D, 0, none⟩ (.int .i64 (y : Int))) D K y S sh ∧ TurnsB D D w (w.setCell ⟨D, 0, none⟩ (.int .i64 (y : Int))) := by
  obtain ⟨A, n, m, h1, h2, h3, h4, h5, h6⟩ := h
  exact ⟨⟨A, n, m, h1.set_ 0 _, h2.setCell h6 _, h3, h4, h5, h6⟩, TurnsB.set_ 0 _⟩
/-- What take turns. -/
def tkX (x : Nat) : List UInt8 → Nat
  | [] => x
  | b :: _ => 256 * x + b.toNat
def tkS : List UInt8 → Bool → Bool
  | [], _ => true
  | _ :: _, sh => sh
set_option maxHeartbeats 1000000 in
set_option maxRecDepth 100000 in
theorem ransTake_any (h : DecS w D K x S sh) (hx : x < 1000000000000) :
    Calls Try.prog 80 #[.pointer (some ⟨D, 0, none⟩)] w fun e w' => e = .returned (.tuple #[]) ∧ DecS w' D K (tkX x S) S.tail (tkS S sh) ∧ TurnsB D D w w' := by
  obtain ⟨A, n, m, hb, hr, hn, hnm, hn1, hK⟩ := h
  have hc0 := hb.cell 0
  have hc1 := hb.cell 1
  have hf0 := hb.frozen 0
  have hf1 := hb.frozen 1
  have hf2 := hb.frozen 2
  simp only [List.getElem?_cons_zero, List.getElem?_cons_succ] at hc0 hc1
  have HB := Lib.hid hb
  have HR := Lib.hid hr
  clear hb hr
  cases S with
  | nil =>
    obtain rfl : n = 0 := by rw [← hn]; rfl
    have hc2 := HB.out.cell 2
    simp only [List.getElem?_cons_zero, List.getElem?_cons_succ] at hc2
    clear hc0 hf0 hf1
    go_enter Try.func80, Try.ntmps80
    go_wp2
    (try simp only [Exit.inBlock, Exit.then]); refine bodyPost_ret (results_none rfl _ _ _) rfl ?_
    exact ⟨rfl, ⟨A, 0, m, HB.out.set_ 2 _, Rd.nil_ _ _ _, rfl, hnm, hn1, hK⟩, TurnsB.set_ 2 _⟩
  | cons b T =>
    have hTl : T.length + 1 = n := by rw [← hn]; rfl
    obtain ⟨ab, ao, rfl, hab, hcell⟩ := HR.out 0 (.int .u8 (b.toNat : Int)) (by simp [bvs])
    rw [Nat.add_zero] at hcell
    have hb8 := b.toNat_lt
    obtain ⟨bn, hbn⟩ : ∃ bn, bn = b.toNat := ⟨_, rfl⟩
    rw [← hbn] at hcell hb8
    obtain ⟨M, hM⟩ : ∃ M, M = x * 256 := ⟨_, rfl⟩
    obtain ⟨c, hc⟩ : ∃ c, c = 256 * x + bn := ⟨_, rfl⟩
    have hcx : c = tkX x (b :: T) := by rw [hc, hbn]; rfl
    have e1 : IntKind.i64.wrap ((x : Int) * 256) = (M : Int) := by rw [IntKind.wrap_i64]; omega
    have e2 : IntKind.i64.wrap ((M : Int) + (bn : Int)) = (c : Int) := by rw [IntKind.wrap_i64]; omega
    have e3 : IntKind.i64.wrap (bn : Int) = (bn : Int) := by rw [IntKind.wrap_i64]; omega
    have e4 : wrap64 ((x : Int) * 256) = (M : Int) := by rw [IntWalk.wrap64_in _ (by omega)]; omega
    have hn0 : ¬ (n : Int) = 0 := by omega
    have hn3 : (0 : Int) < (n : Int) := by omega
    have hn4 : 0 < n := by omega
    have hn5 : ¬ n = 0 := by omega
    have hDs := HB.out.lt
    rw [← hcx]
    clear hcx hbn hM hc
    go_enter Try.func80, Try.ntmps80
    go_wp2
    refine wp_region_still_tail 16 (by kernel_rfl) (by kernel_rfl) ?_
    simp only [List.take_succ_cons, List.take_zero, List.drop_succ_cons, List.drop_zero]
    repeat still_step
    refine wpStill_nil ?_
    change wpList _ _ _ _ _ w.drew
    have hb1 : Blk ((w.setCell ⟨D, 0, none⟩ (.int .i64 (c : Int))).drew) D 112 [.int .i64 (c : Int), .slice (some ⟨ab, ao, none⟩) n m, .bool sh] := (HB.out.set_ 0 _).drew_
    have hr1 : Rd ((w.setCell ⟨D, 0, none⟩ (.int .i64 (c : Int))).drew) K (some ⟨ab, ao, none⟩) (bvs (b :: T)) := (HR.out.setCell hK _).drew
    have HB1 := Lib.hid hb1
    have HR1 := Lib.hid hr1
    have HLN := Lib.hid (show (bvs (b :: T)).length = n by rw [bvs_length]; exact hn)
    clear hb1 hr1 hn3 hn4 hn5 hn0 hcell
    have h1n : 1 ≤ n := by omega
    go_wp2_with ((with_reducible show wpList _ _ _ (({ dst := some 32, op := _, type := _, pos := _, after := _, guard := _ } : Oper) :: _) _ _); go_must (refine wpList_from rfl (.tmp 31) (.const (.int .i64 1)) rfl Try.underlying22 size_u8R K _ n m 1 (bvs (b :: T)) rfl rfl HR1.out HLN.out hnm h1n ?_; intro A2 c2 hc2' hr2; rw [bvs_drop] at hr2))
    refine bodyPost_end (results_none rfl _ _ _) rfl ?_
    exact ⟨rfl, ⟨A2, n - 1, c2, (HB1.out.set_ 1 (.slice A2 (n - 1) c2)).same rfl, (hr2.setCell (by exact hK) _), by simp only [List.tail_cons]; omega, hc2', by omega, hK⟩, ((TurnsB.set_ 0 _).trans (TurnsB.set_ 1 _)).drew⟩
end
/-- So many bytes, taken one by one. -/
def tks : Nat → Nat → List UInt8 → Nat
  | 0, x, _ => x
  | k + 1, x, S => tks k (tkX x S) S.tail
theorem tks_be4 {S : List UInt8} (h : 4 ≤ S.length) : tks 4 0 S = be4V S := by
  obtain ⟨a, b, c, d, T, rfl⟩ : ∃ a b c d T, S = a :: b :: c :: d :: T := by
    match S, h with
    | a :: b :: c :: d :: T, _ => exact ⟨a, b, c, d, T, rfl⟩
  simp [tks, tkX, be4V]
/-- What holds at the head of a round of begun. -/
def BeRel (w : World) (D K : Nat) (S : List UInt8) (i : Value) (wr : World) : Prop :=
  ∃ (j xj : Nat), j ≤ 4 ∧ i = .int .i64 (j : Int) ∧ xj < 256 ^ j ∧ tks (4 - j) xj (S.drop j) = tks 4 0 S ∧ DecS wr D K xj (S.drop j) (decide (S.length < j)) ∧ Below w.heap.size w wr
set_option maxHeartbeats 1000000 in
set_option maxRecDepth 100000 in
theorem ransBegun_any {w : World} {K n m : Nat} {A : Option Addr} {S : List UInt8} (hr : Rd w K A (bvs S)) (hK : K ≤ w.heap.size) (hn : S.length = n) (hnm : n ≤ m) (hn1 : n ≤ 1000000) :
    Calls Try.prog 32 #[.slice A n m] w fun e w' => ∃ D, e = .returned (.pointer (some ⟨D, 0, none⟩)) ∧ w.heap.size ≤ D ∧ DecS w' D K (tks 4 0 S) (S.drop 4) (decide (S.length < 4)) ∧ Below w.heap.size w w' := by
  have hb := (Below.refl w.heap.size w).alloc (Nat.le_refl _) (.cells #[.int .i64 0, .slice A n m, .bool false] 112)
  have hk : Blk (w.alloc (.cells #[.int .i64 0, .slice A n m, .bool false] 112)) w.heap.size 112 [.int .i64 ((0 : Nat) : Int), .slice A n m, .bool false] := heap_alloc_new w _
  have HREL := Lib.hid (show BeRel w w.heap.size K S (.int .i64 ((0 : Nat) : Int)) (w.alloc (.cells #[.int .i64 0, .slice A n m, .bool false] 112)) from ⟨0, 0, Nat.zero_le _, rfl, by decide, rfl, ⟨A, n, m, by simpa using hk, by rw [List.drop_zero]; exact hr.below (hb.mono hK), by rw [List.drop_zero]; exact hn, hnm, hn1, hK⟩, hb⟩)
  clear hr hK hn hnm hn1 hb hk
  go_enter Try.func32, Try.ntmps32
  go_wp2
  go_loopw [7] (BeRel w w.heap.size K S) (fun i _ => 4 - (intOf i).toNat)
  case atStart => exact HREL.out
  case round =>
    clear HREL
    obtain ⟨j, xj, hj, rfl, hxj, ht, hd, hb⟩ := hrel
    have hx4 : xj < 1000000000000 := Nat.lt_of_lt_of_le hxj (Nat.le_trans (Nat.pow_le_pow_right (n := 256) (by decide) hj) (by decide))
    by_cases hlt : j < 4
    · have C := Lib.hid (ransTake_any hd hx4)
      have hxn : tkX xj (S.drop j) < 256 ^ (j + 1) := by
        rw [Nat.pow_succ]
        cases hS : S.drop j with
        | nil => simp only [tkX]; omega
        | cons b T => have := b.toNat_lt; simp only [tkX]; omega
      have htn : tks (4 - (j + 1)) (tkX xj (S.drop j)) (S.drop (j + 1)) = tks 4 0 S := by
        rw [← ht, show 4 - j = (4 - (j + 1)) + 1 by omega, tks, List.tail_drop]
      have hsn : tkS (S.drop j) (decide (S.length < j)) = decide (S.length < j + 1) := by
        cases hS : S.drop j with
        | nil =>
          have h1 : S.length ≤ j := List.drop_eq_nil_iff.1 hS
          simp only [tkS]; symm; simp; omega
        | cons b T =>
          have h1 : j < S.length := by
            rcases Nat.lt_or_ge j S.length with h | h
            · exact h
            · rw [List.drop_of_length_le h] at hS; cases hS
          simp only [tkS]
          rw [decide_eq_false (by omega), decide_eq_false (by omega)]
      have HH := Lib.hid (And.intro hxn (And.intro htn (And.intro hsn (And.intro hb (show w.heap.size ≤ w.heap.size from Nat.le_refl _)))))
      have hji : (j : Int) < 4 := by omega
      clear ht hd hb hxn htn hsn hxj hx4
      go_wp2_with fail
      refine C.out.mono ?_
      rintro _ w5 ⟨rfl, hd5, ht5⟩
      rw [HH.out.2.2.1, List.tail_drop] at hd5
      have HD := Lib.hid (And.intro hd5 (HH.out.2.2.2.1.trans (ht5.below (Nat.le_refl _) (Nat.le_refl _) HH.out.2.2.2.1.size)))
      clear hd5 ht5 C
      go_wp2
      go_roundw
      case rel => exact ⟨j + 1, _, by omega, by go_num, HH.out.1, HH.out.2.1, HD.out.1, HD.out.2⟩
      case measure => simp [intOf]; omega
    · obtain rfl : j = 4 := by omega
      rw [Nat.sub_self, tks] at ht
      subst ht
      have HD := Lib.hid (And.intro hd hb)
      clear hd hb hx4 hxj
      go_wp2
      go_ret
      exact ⟨_, rfl, Nat.le_refl _, HD.out.1, HD.out.2⟩
set_option maxHeartbeats 1000000 in
set_option maxRecDepth 100000 in
theorem ransBehind_any {w : World} {B n m k : Nat} {A : Option Addr} {l : List UInt8} (hr : Rd w B A (bvs l)) (hn : l.length = n) (hnm : n ≤ m) (hk : k ≤ n) :
    Calls Try.prog 33 #[.slice A n m, .int .i64 (k : Int)] w fun e w' => ∃ A', e = .returned (.slice A' (n - k) (n - k)) ∧ Rd w B A' (bvs (l.drop k)) ∧ w' = w := by
  have hki : (k : Int) ≤ (n : Int) := by omega
  have hnmi : (n : Int) ≤ (m : Int) := by omega
  have hk0 : (0 : Int) ≤ (k : Int) := by omega
  have HR := Lib.hid hr
  go_enter Try.func33, Try.ntmps33
  go_wp2
  case inl =>
    go_ret
    exact ⟨A, rfl, by rw [List.drop_of_length_le (by omega)]; exact Rd.nil_ _ _ _, rfl⟩
  case inr =>
    go_ret
    exact ⟨_, rfl, by have h2 := HR.out.drop k; rw [bvs_drop] at h2; exact h2, rfl⟩
end Go.Proofs.Ytfdgnhfppginiaa
