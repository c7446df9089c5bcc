/- Contracts of the functions that lay a number: ref.Put, leb.Put, leb.PutInt. -/
import Derived.Test.YtcjjlkfenlmmlaaNum
import Derived.Deep.DeepMust
namespace Go.Proofs.Ytcjjlkfenlmmlaa
open Go.RowKit

theorem info_u8 : (Try.prog.info? 5).map (fun i => (i.zero, i.size, i.bytes)) = some (some (.int .u8 0), 1, 1) := by kernel_rfl

/-- What hands back the bytes l in new memory. -/
def NewB (w : World) (l : List UInt8) (e : Ending) (w' : World) : Prop :=
  ∃ v, e = .returned v ∧ w'.ownsRow w.heap.size 5 1 v l.length (bvs l) ∧ Below w.heap.size w w'

theorem bvs_snoc (l : List UInt8) (c : Nat) (h : c < 256) : bvs (l ++ [UInt8.ofNat c]) = bvs l ++ [Value.int .u8 (c : Int)] := by
  simp [bvs, toNat_ofNat8 h]

/-- What holds of the number that is left, and of the bytes that are laid, at the head of a round. -/
def PutRel (w : World) (L : List UInt8) (t v : Value) (wr : World) : Prop :=
  ∃ (m : Nat) (out : List UInt8), t = .int .u64 m ∧ m < 18446744073709551616 ∧ Hid (out ++ lput m = L) ∧ wr.ownsRow w.heap.size 5 1 v out.length (bvs out) ∧ Below w.heap.size w wr

set_option maxHeartbeats 400000 in
set_option maxRecDepth 100000 in
theorem refPut_any (n : Int) (w : World) (h0 : 0 ≤ n) (h1 : n ≤ 18446744073709551615) :
    Calls Try.prog 24 #[.int .u64 n] w (NewB w (lput n.toNat)) := by
  obtain ⟨i0, hi, hz0, hz1, hz2⟩ := info_parts info_u8
  obtain ⟨N, rfl⟩ := Int.eq_ofNat_of_zero_le h0
  rw [Int.toNat_natCast]
  have hle := lput_le N (by omega)
  obtain ⟨L, hL⟩ : ∃ L, L = lput N := ⟨_, rfl⟩
  rw [← hL] at hle ⊢
  have HL := Lib.hid hL
  clear hL h0
  go_enter Try.func24, Try.ntmps24
  go_wp2
  go_loopw [0, 3] (PutRel w L) (fun t _ _ => (intOf t).toNat)
  case atStart => exact ⟨N, [], rfl, by omega, HL.out.symm, World.ownsRow_nil _ _ _ _, Below.refl _ _⟩
  case round =>
    obtain ⟨m, out, rfl, hm, Hrel, hown, hb⟩ := hrel
    have hlen : out.length + (lput m).length = L.length := by rw [← Hrel.out]; simp
    have hlp := lput_pos m
    have hbs := hb.size
    by_cases hlt : 127 < m
    · go_wp2_with (at_builtin; refine wpList_app rfl (.tmp 6) (.tmp 11) 32 rfl w.heap.size 5 i0 (.int .u8 0) 1 1 Try.underlying32 hi hz0 hz1 hz2 rfl (by decide) _ _ _ rfl (hown.alloc _) _ _ 1 1 _ rfl (Rd.new _ _ _) rfl (by intro u hu; simp at hu; subst hu; rfl) (by simp only [maxLen]; omega) (by omega) (by simp; omega) ?_; intro v1 w1 hown1 hg1)
      have hown2 : w1.ownsRow w.heap.size 5 1 v1 (out ++ [UInt8.ofNat (128 + m % 128)]).length (bvs (out ++ [UInt8.ofNat (128 + m % 128)])) := by
        rw [bvs_snoc _ _ (by omega), List.length_append]; exact_mod_cast hown1
      have hb1 : Below w.heap.size w w1 := (hb.alloc hbs _).grown hg1 (by simp; omega) (own_block hown)
      have Hrel1 : Hid ((out ++ [UInt8.ofNat (128 + m % 128)]) ++ lput (m / 128) = L) := by
        rw [← Hrel.out, lput_big (n := m) (by omega)]; simp [Hid]
      clear hown hg1 hown1 Hrel hb hlen
      go_wp2
      go_roundw
      case rel => exact ⟨m / 128, out ++ [UInt8.ofNat (128 + m % 128)], by go_num, by omega, Hrel1, hown2, hb1⟩
      case measure => simp [intOf]; omega
    · have hm1 : lput m = [UInt8.ofNat m] := lput_small (by omega)
      go_wp2_with (at_builtin; refine wpList_app rfl (.tmp 15) (.tmp 18) 32 rfl w.heap.size 5 i0 (.int .u8 0) 1 1 Try.underlying32 hi hz0 hz1 hz2 rfl (by decide) _ _ _ rfl (hown.alloc _) _ _ 1 1 _ rfl (Rd.new _ _ _) rfl (by intro u hu; simp at hu; subst hu; rfl) (by simp only [maxLen]; omega) (by omega) (by simp; omega) ?_; intro v1 w1 hown1 hg1)
      go_ret
      refine ⟨v1, rfl, ?_, (hb.alloc hbs _).grown hg1 (by simp; omega) (own_block hown)⟩
      rw [← Hrel.out, hm1, bvs_snoc _ _ (by omega), List.length_append]
      exact_mod_cast hown1

set_option maxHeartbeats 400000 in
set_option maxRecDepth 100000 in
theorem lebPut_any (A : Option Addr) (k c : Nat) (pre : List UInt8) (n : Int) (w : World) (hr : Rd w w.heap.size A (bvs pre)) (hk : pre.length = k) (hk1 : k ≤ 140737488355000) (h0 : 0 ≤ n) (h1 : n ≤ 18446744073709551615) :
    Calls Try.prog 22 #[.slice A k c, .int .u64 n] w (NewB w (pre ++ lput n.toNat)) := by
  obtain ⟨i0, hi, hz0, hz1, hz2⟩ := info_parts info_u8
  obtain ⟨N, rfl⟩ := Int.eq_ofNat_of_zero_le h0
  rw [Int.toNat_natCast]
  have hle := lput_le N (by omega)
  have hsz := lebSize_any N
  rw [Int.toNat_natCast] at hsz
  obtain ⟨S, hS⟩ : ∃ S, S = (lput N).length := ⟨_, rfl⟩
  obtain ⟨L, hL⟩ : ∃ L, L = pre ++ lput N := ⟨_, rfl⟩
  have hLl : L.length = k + S := by rw [hL, List.length_append, hk, hS]
  rw [← hL]
  rw [← hS] at hle hsz
  have HL := Lib.hid hL
  have HS := Lib.hid hS
  have HLl := Lib.hid hLl
  have HK := Lib.hid hk
  have HSZ := Lib.hid hsz
  clear hL hS hk hLl hsz
  have hsz1 : (Try.prog.info? 5).map (·.size) = some 1 := by rw [hi]; exact congrArg some hz1
  have HSZ1 := Lib.hid hsz1
  have hcn : (bvs pre).length = Nat.min k k := by rw [bvs_length, HK.out]; exact (Nat.min_self k).symm
  have HCN := Lib.hid hcn
  have hfit : 0 + (bvs pre).length ≤ (List.replicate (k + S) (Value.int .u8 0)).length := by rw [bvs_length, HK.out]; simp
  have HFIT := Lib.hid hfit
  clear hsz1 hcn hfit
  go_enter Try.func22, Try.ntmps22
  go_wp2_with (first
    | (go_at_call 33; refine (HSZ.out _ h0 h1).mono ?_; rintro e w' ⟨rfl, rfl⟩)
    | (at_make; go_must (refine wpList_mk rfl (.tmp 7) (.tmp 12) 32 rfl w.heap.size 5 i0 (.int .u8 0) 1 Try.underlying32 hi hz0 rfl hz1 hz2 .i64 .i64 _ _ rfl rfl k (k + S) rfl (by omega) (by omega) (by omega) (by simp only [maxLen]; omega) (Nat.le_refl _) ?_; intro w1 hg1 hown1 hgr1; have hr1 : Rd w1 w.heap.size A (bvs pre) := hr.grown hgr1 (Nat.le_refl _) (by simp); have hb1 : Below w.heap.size w w1 := (Below.refl _ _).grown hgr1 (Nat.le_refl _) (by simp); have HG1 := Lib.hid hg1; clear hg1 hown1 hgr1))
    | ((with_reducible show wpList _ _ _ (({ dst := some 16, op := _, type := _, pos := _, after := _, guard := _ } : Oper) :: _) _ _); go_must (refine wpList_copy_splice rfl (.tmp 14) (.tmp 15) 32 32 rfl 5 Try.underlying32 HSZ1.out _ _ _ _ _ _ rfl rfl w.heap.size 0 _ _ HG1.out (bvs pre) HCN.out (fun h0 => ⟨rfl, hr1.pos h0⟩) HFIT.out (bvs_one _) w.heap.size w hb1 (Nat.le_refl _) ?_; intro w2 HG2 hb2)))
  simp only [Act.put, List.setIfInBounds_toArray, List.set_cons_succ, List.set_cons_zero]
  have hown2 : w2.ownsRow w.heap.size 5 1 (.slice (some ⟨w.heap.size, 0, none⟩) k (k + S)) k (bvs pre) := own_of_splice HG2.out (Nat.le_refl _) (by rw [bvs_length, HK.out]) (by simp) (by omega) (by simp only [maxLen]; omega)
  clear HG2 HG1 hr1 hb1
  go_loopw [1, 5] (PutRel w L) (fun t _ _ => (intOf t).toNat)
  case atStart => exact ⟨N, pre, rfl, by omega, HL.out.symm, by rw [HK.out]; exact hown2, hb2⟩
  case round =>
    clear hown2 hb2
    obtain ⟨m, out, rfl, hm, Hrel, hown, hb⟩ := hrel
    have hlen : out.length + (lput m).length = k + S := by rw [← HLl.out, ← Hrel.out]; simp
    have hlp := lput_pos m
    have hbs := hb.size
    have hlen' : out.length + 1 ≤ 140737488355328 := by omega
    have HLEN := Lib.hid hlen'
    clear hlen hlen' hk1
    by_cases hlt : 128 ≤ m
    · go_wp2_with (at_builtin; refine wpList_app rfl (.tmp 19) (.tmp 23) 32 rfl w.heap.size 5 i0 (.int .u8 0) 1 1 Try.underlying32 hi hz0 hz1 hz2 rfl (by decide) _ _ _ rfl (hown.alloc _) _ _ 1 1 _ rfl (Rd.new _ _ _) rfl (by intro u hu; simp at hu; subst hu; rfl) (by have := HLEN.out; simp only [maxLen]; omega) (by have := HLEN.out; omega) (by simp; omega) ?_; intro v1 w1 hown1 hg1)
      rw [or128_u8 ((m : Int) % 256) (by omega) (by omega)] at hown1
      have hown2 : w1.ownsRow w.heap.size 5 1 v1 (out ++ [UInt8.ofNat (128 + m % 128)]).length (bvs (out ++ [UInt8.ofNat (128 + m % 128)])) := by
        rw [bvs_snoc _ _ (by omega), List.length_append, show ((128 + m % 128 : Nat) : Int) = 128 + (m : Int) % 256 % 128 by omega]; exact hown1
      have hb1 : Below w.heap.size w w1 := (hb.alloc hbs _).grown hg1 (by simp; omega) (own_block hown)
      have Hrel1 : Hid ((out ++ [UInt8.ofNat (128 + m % 128)]) ++ lput (m / 128) = L) := by
        rw [← Hrel.out, lput_big (n := m) (by omega)]; simp [Hid]
      clear hown hg1 hown1 Hrel hb
      go_wp2
      go_roundw
      case rel => exact ⟨m / 128, out ++ [UInt8.ofNat (128 + m % 128)], by go_num, by omega, Hrel1, hown2, hb1⟩
      case measure => simp [intOf]; omega
    · have hm1 : lput m = [UInt8.ofNat m] := lput_small (by omega)
      have HM := Lib.hid hm1
      clear hm1
      go_wp2_with (at_builtin; refine wpList_app rfl (.tmp 27) (.tmp 30) 32 rfl w.heap.size 5 i0 (.int .u8 0) 1 1 Try.underlying32 hi hz0 hz1 hz2 rfl (by decide) _ _ _ rfl (hown.alloc _) _ _ 1 1 _ rfl (Rd.new _ _ _) rfl (by intro u hu; simp at hu; subst hu; rfl) (by have := HLEN.out; simp only [maxLen]; omega) (by have := HLEN.out; omega) (by simp; omega) ?_; intro v1 w1 hown1 hg1)
      go_ret
      refine ⟨v1, rfl, ?_, (hb.alloc hbs _).grown hg1 (by simp; omega) (own_block hown)⟩
      rw [← Hrel.out, HM.out, bvs_snoc _ _ (by omega), List.length_append]
      exact_mod_cast hown1

end Go.Proofs.Ytcjjlkfenlmmlaa
