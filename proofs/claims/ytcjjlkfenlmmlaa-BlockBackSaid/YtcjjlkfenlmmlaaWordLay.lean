/- Contracts of layer 4: Lay of the code and of the reference. -/
import Derived.Test.YtcjjlkfenlmmlaaWordTake
namespace Go.Proofs.Ytcjjlkfenlmmlaa
open Go.RowKit

set_option maxRecDepth 100000 in
theorem wordLay_wrong (a : Value) (b : Value) (W : Int) (w : World) (hW : rightB W = false) :
    Calls Try.prog 34 #[a, .int .i64 W, b] w (NewBs w []) := by
  have c1 := wordRight_any W false hW.symm
  have C1 := Lib.hid c1
  clear c1
  go_enter Try.func34, Try.ntmps34
  go_wp2_with (go_at_call 41; go_must (refine (C1.out _).mono ?_; rintro e w' ⟨rfl, rfl⟩))
  go_ret
  exact ⟨.slice none 0 0, rfl, ⟨none, 0, rfl, Nat.le_refl _, Rd.nil_ _ _ _⟩, Below.refl _ _⟩
/-- What holds at the head of a round over the words: the words ahead are laid. -/
def LayRelW (w : World) (W : Nat) (ws : List Nat) (v i : Value) (wr : World) : Prop :=
  ∃ (k : Nat) (out : List UInt8), k ≤ ws.length ∧ i = .int .i64 k ∧ Hid (out = layW W (ws.take k)) ∧ out.length = k * W ∧ wr.ownsRow w.heap.size 5 1 v out.length (bvs out) ∧ Below w.heap.size w wr
/-- .. over a word's bytes. -/
def LayByte (w : World) (W x n0 : Nat) (out : List UInt8) (v t j : Value) (wr : World) : Prop :=
  ∃ (k : Nat) (o : List UInt8), k ≤ W ∧ j = .int .i64 k ∧ t = .int .u64 ((x / 256 ^ k : Nat) : Int) ∧ Hid (o = out ++ leB k x) ∧ o.length = n0 + k ∧ wr.ownsRow w.heap.size 5 1 v o.length (bvs o) ∧ Below w.heap.size w wr

set_option maxHeartbeats 1000000 in
set_option maxRecDepth 100000 in
theorem wordLay_any (W : Nat) (hW : IsW W) (A : Option Addr) (n c : Nat) (ws : List Nat) (A2 : Option Addr) (r c2 : Nat) (rest : List UInt8) (w : World) (hr : Rd w w.heap.size A (wvs ws)) (hn : ws.length = n) (hlt64 : ∀ x ∈ ws, x < 18446744073709551616) (hr2 : Rd w w.heap.size A2 (bvs rest)) (hrl : rest.length = r) (hb1 : n ≤ 100000) (hb2 : r ≤ 100000) :
    Calls Try.prog 34 #[.slice A n c, .int .i64 (W : Int), .slice A2 r c2] w (NewBs w (layW W ws ++ rest)) := by
  obtain ⟨j0, hj, hy0, hy1, hy2⟩ := info_parts info_u8w
  subst hn hrl
  have hW1 := hW.pos
  have c1 := wordRight_any (W : Int) true hW.right
  have C1 := Lib.hid c1
  have H64 := Lib.hid hlt64
  clear c1 hW hlt64
  go_enter Try.func34, Try.ntmps34
  have hprod : ws.length * W ≤ 800000 := by
    have : ws.length * W ≤ 100000 * 8 := Nat.mul_le_mul hb1 hW1.2
    omega
  obtain ⟨S, hS⟩ : ∃ S, S = ws.length * W := ⟨_, rfl⟩
  rw [← hS] at hprod
  have hSi : (ws.length : Int) * (W : Int) = (S : Int) := by rw [hS]; simp
  have HS := Lib.hid hS
  clear hS
  go_wp2_with (first
    | (go_at_call 41; go_must (refine (C1.out _).mono ?_; rintro e w' ⟨rfl, rfl⟩))
    | (at_make; go_must (refine wpList_mk rfl (.const (.int .i64 0)) (.tmp 19) 32 rfl w.heap.size 5 j0 (.int .u8 0) 1 Try.underlying32 hj hy0 rfl hy1 hy2 .i64 .i64 0 _ rfl rfl 0 (S + rest.length) rfl (by omega) (by omega) (by omega) (by simp only [maxLen]; omega) (Nat.le_refl _) ?_; intro w0 hg0 hown0 hgr0; have hb0 : Below w.heap.size w w0 := (Below.refl _ _).grown hgr0 (Nat.le_refl _) (by simp); clear hg0 hgr0)))
  clear hSi
  go_loopw [7, 23] (LayRelW w W ws) (fun _ i _ => ws.length - (intOf i).toNat)
  case atStart => exact ⟨0, [], Nat.zero_le _, rfl, rfl, by simp, by simpa [bvs] using hown0, hb0⟩
  case round =>
    obtain ⟨k, out, hk, rfl, HO, hol, hown, hb⟩ := hrel
    have hbs := hb.size
    have hkW : k * W ≤ 800000 := by
      have : k * W ≤ 100000 * 8 := Nat.mul_le_mul (by omega) hW1.2
      omega
    by_cases hlt : k < ws.length
    · obtain ⟨ab, ao, rfl, hab, hcell0⟩ := hr k _ (wvs_get ws k hlt)
      have hcell := (hb.cell (p := ⟨ab, ao + k, none⟩) hab).trans hcell0
      obtain ⟨x, hx⟩ : ∃ x, x = ws[k] := ⟨_, rfl⟩
      have hx64 : x < 18446744073709551616 := by rw [hx]; exact H64.out _ (List.getElem_mem _)
      rw [← hx] at hcell
      have hnext : Hid (layW W (ws.take (k + 1)) = out ++ leB W x) := by rw [layW_snoc W ws k hlt, HO.out, hx]; exact rfl
      have hd : decide ((k : Int) < (ws.length : Int)) = true := by rw [decide_eq_true_eq]; omega
      clear hx hcell0
      go_wp2
      go_loopw [7, 9, 28] (LayByte w W x (k * W) out) (fun _ _ i _ => W - (intOf i).toNat)
      case atStart => exact ⟨0, out, Nat.zero_le _, rfl, by simp, by simp [leB, Hid], by omega, hown, hb⟩
      case round =>
        clear hown hb hcell
        obtain ⟨j, o, hjW, rfl, rfl, Ho, hoL, hown, hb⟩ := hrel
        have hbs := hb.size
        by_cases hjl : j < W
        · obtain ⟨y, hy⟩ : ∃ y, y = x / 256 ^ j := ⟨_, rfl⟩
          have hy64 : y < 18446744073709551616 := by rw [hy]; exact Nat.lt_of_le_of_lt (Nat.div_le_self _ _) hx64
          have hyn : Hid (x / 256 ^ (j + 1) = y / 256) := by rw [hy, Nat.div_div_eq_div_mul, Nat.pow_succ]; exact rfl
          have hsn : Hid (out ++ leB (j + 1) x = o ++ [UInt8.ofNat (y % 256)]) := by rw [leB_snoc, Ho.out, ← hy, List.append_assoc]; exact rfl
          rw [← hy]
          clear hy Ho
          go_wp2_with ((with_reducible show wpList _ _ _ (({ dst := some 34, op := _, type := _, pos := _, after := _, guard := _ } : Oper) :: _) _ _); go_must (refine wpList_app rfl (.tmp 30) (.tmp 33) 32 rfl w.heap.size 5 j0 (.int .u8 0) 1 1 Try.underlying32 hj hy0 hy1 hy2 rfl (by decide) _ _ _ rfl (hown.alloc _) _ _ 1 1 _ rfl (Rd.new _ _ _) rfl (by intro u hu; simp at hu; subst hu; rfl) (by simp only [maxLen]; omega) (by omega) (by simp; omega) ?_; intro v1 w1 hown1 hg1; have hb1 : Below w.heap.size w w1 := (hb.alloc hbs _).grown hg1 (by simp; omega) (own_block hown); clear hg1 hown hb))
          have hown2 : w1.ownsRow w.heap.size 5 1 v1 (o ++ [UInt8.ofNat (y % 256)]).length (bvs (o ++ [UInt8.ofNat (y % 256)])) := by
            rw [bvs_push, List.length_append]; exact hown1
          clear hown1
          go_roundw
          case rel => exact ⟨j + 1, o ++ [UInt8.ofNat (y % 256)], by omega, by go_num, by rw [hyn.out]; go_num, hsn.out.symm, by rw [List.length_append]; simp only [List.length_cons, List.length_nil]; omega, hown2, hb1⟩
          case measure => simp [intOf]; omega
        · obtain rfl : j = W := by omega
          go_wp2
          go_roundw
          case rel => exact ⟨k + 1, o, by omega, by go_num, by rw [Ho.out, ← hnext.out]; exact rfl, by rw [hoL, Nat.add_mul, Nat.one_mul], hown, hb⟩
          case measure => simp [intOf]; omega
    · obtain rfl : k = ws.length := by omega
      rw [List.take_length] at HO
      have hnews : (bvs rest).length = rest.length * 1 := by rw [bvs_length, Nat.mul_one]
      have HNEWS := Lib.hid hnews
      clear hnews
      go_wp2_with ((with_reducible show wpList _ _ _ (({ dst := some 41, op := _, type := _, pos := _, after := _, guard := _ } : Oper) :: _) _ _); go_must (refine wpList_app rfl (.tmp 39) (.tmp 40) 32 rfl w.heap.size 5 j0 (.int .u8 0) 1 1 Try.underlying32 hj hy0 hy1 hy2 rfl (by decide) _ _ _ rfl hown w.heap.size A2 rest.length c2 (bvs rest) rfl (hr2.below hb) HNEWS.out (bvs_one _) (by simp only [maxLen]; omega) (by omega) hbs ?_; intro v1 w1 hown1 hg1; have hb1 : Below w.heap.size w w1 := hb.grown hg1 hbs (own_block hown); clear hg1 hown hb))
      go_ret
      refine ⟨v1, rfl, ?_, hb1⟩
      rw [← HO.out]
      apply IsBytes.of_own (base := w.heap.size) (e := 5)
      rw [List.length_append, bvs_append]
      exact hown1
end Go.Proofs.Ytcjjlkfenlmmlaa
