/-
  Contracts of the number functions of layer 2: Len64, Size, Fold, Unfold. · Contracts of the functions that lay a number: ref.Put, leb.Put, leb.PutInt. · Layer 29: the reference's Four: a sum's four bytes. · A sum's four bytes, as word.Lay lays them.
-/
import Derived.Test.YtjignfnkcbklkaaQ02
import Derived.Test.YtjignfnkcbklkaaQ04
import Derived.Test.YtjignfnkcbklkaaQ06
import Derived.Test.YtjignfnkcbklkaaProg
import Derived.Lib.Strings
import Derived.Lib.Slices
import Derived.Lib.Small
import Derived.Lib.Walk
import Derived.Deep.DeepMust
namespace Go.Proofs.Ytjignfnkcbklkaa
open Go.RowKit

/-- one way through Len64: the table's byte of y, y being x without its lowest k bits -/
theorem len_way (x y : Int) (k d : Nat) (hd : d = 2 ^ k) (h0 : 0 ≤ x) (h1 : x ≤ 18446744073709551615) (hy : y.toNat = x.toNat / d) (hx : k = 0 ∨ d ≤ x.toNat) :
    (k : Int) + (Lib.bitLen y.toNat : Int) = (Lib.bitLen x.toNat : Int) := by
  rw [hy]
  subst hd
  rcases hx with rfl | hx
  · simp
  · rw [Lib.bitLen_shift k x.toNat hx (by omega)]; omega

theorem tab_size : Lib.len8tab.size = 256 := by kernel_rfl
theorem tab_at (i : Nat) (h : i < Lib.len8tab.size) : (Lib.len8tab[i]'h).toNat = Lib.bitLen i := by
  have key : ∀ j : Fin 256, (Lib.len8tab[j.val]'(by rw [tab_size]; exact j.isLt)).toNat = Lib.bitLen j.val := by decide +kernel
  exact key ⟨i, by rw [tab_size] at h; exact h⟩
/-- what one way through Len64 hands back -/
theorem len_end (x y : Int) (k d : Nat) (hd : d = 2 ^ k) (hk : k ≤ 56) (h0 : 0 ≤ x) (h1 : x ≤ 18446744073709551615) (hy : y.toNat = x.toNat / d) (hx : k = 0 ∨ d ≤ x.toNat) (h : y.toNat < Lib.len8tab.size) :
    wrap64 ((k : Int) + wrap64 ((Lib.len8tab[y.toNat]'h).toNat : Int)) = (Lib.bitLen x.toNat : Int) := by
  have e := len_way x y k d hd h0 h1 hy hx
  have l := Lib.bitLen_le8 ⟨y.toNat, by rw [tab_size] at h; exact h⟩
  simp only at l
  rw [tab_at, IntWalk.wrap64_in (Lib.bitLen y.toNat : Int) (by omega), IntWalk.wrap64_in _ (by omega), e]

set_option maxHeartbeats 4000000 in
set_option maxRecDepth 100000 in
theorem len64_any (x : Int) (w : World) (h0 : 0 ≤ x) (h1 : x ≤ 18446744073709551615) :
    Calls Try.prog 53 #[.int .u64 x] w fun e w' => e = .returned (.int .i64 (Lib.bitLen x.toNat)) ∧ w = w' := by
  have hts := tab_size
  go_enter Try.func53, Try.ntmps53
  go_wp2
  all_goals (go_ret; refine ⟨ret_int ?_, rfl⟩)
  all_goals first
    | exact len_end x (x / 4294967296 / 65536 / 256) 56 72057594037927936 (by decide) (by decide) h0 h1 (by omega) (by omega) _
    | exact len_end x (x / 4294967296 / 65536) 48 281474976710656 (by decide) (by decide) h0 h1 (by omega) (by omega) _
    | exact len_end x (x / 4294967296 / 256) 40 1099511627776 (by decide) (by decide) h0 h1 (by omega) (by omega) _
    | exact len_end x (x / 4294967296) 32 4294967296 (by decide) (by decide) h0 h1 (by omega) (by omega) _
    | exact len_end x (x / 65536 / 256) 24 16777216 (by decide) (by decide) h0 h1 (by omega) (by omega) _
    | exact len_end x (x / 65536) 16 65536 (by decide) (by decide) h0 h1 (by omega) (by omega) _
    | exact len_end x (x / 256) 8 256 (by decide) (by decide) h0 h1 (by omega) (by omega) _
    | exact (congrArg wrap64 (Int.zero_add _).symm).trans (len_end x x 0 1 (by decide) (by decide) h0 h1 (by omega) (by omega) _)

set_option maxHeartbeats 400000 in
theorem lebSize_any (n : Int) (w : World) (h0 : 0 ≤ n) (h1 : n ≤ 18446744073709551615) :
    Calls Try.prog 42 #[.int .u64 n] w fun e w' => e = .returned (.int .i64 ((lput n.toNat).length : Nat)) ∧ w = w' := by
  have hl := lput_len n.toNat (by omega)
  have hb : Lib.bitLen n.toNat ≤ 64 := Lib.bitLenAux_le 64 _ 64 (by omega)
  have hb' : ((Lib.bitLen n.toNat : Nat) : Int) ≤ 64 := by omega
  have hb0 : 0 ≤ ((Lib.bitLen n.toNat : Nat) : Int) := by omega
  have H := Lib.hid hl
  clear hl hb
  go_enter Try.func42, Try.ntmps42
  go_wp2_with (go_at_call 53; refine (len64_any _ _ h0 h1).mono ?_; rintro e w' ⟨rfl, rfl⟩)
  go_ret
  exact ⟨ret_int (by rw [H.out]; omega), rfl⟩
end Go.Proofs.Ytjignfnkcbklkaa
namespace Go.Proofs.Ytjignfnkcbklkaa
open Go.RowKit

theorem info_u8 : (Try.prog.info? 5).map (fun i => (i.zero, i.size, i.bytes)) = some (some (.int .u8 0), 1, 1) := by kernel_rfl

/-- What hands back the bytes l in new memory. -/
def NewB (w : World) (l : List UInt8) (e : Ending) (w' : World) : Prop :=
  ∃ v, e = .returned v ∧ w'.ownsRow w.heap.size 5 1 v l.length (bvs l) ∧ Below w.heap.size w w'

theorem bvs_snoc (l : List UInt8) (c : Nat) (h : c < 256) : bvs (l ++ [UInt8.ofNat c]) = bvs l ++ [Value.int .u8 (c : Int)] := by
  simp [bvs, toNat_ofNat8 h]

/-- What holds of the number that is left, and of the bytes that are laid, at the head of a round. -/
def PutRel (w : World) (L : List UInt8) (t v : Value) (wr : World) : Prop :=
  ∃ (m : Nat) (out : List UInt8), t = .int .u64 m ∧ m < 18446744073709551616 ∧ Hid (out ++ lput m = L) ∧ wr.ownsRow w.heap.size 5 1 v out.length (bvs out) ∧ Below w.heap.size w wr

set_option maxHeartbeats 400000 in
set_option maxRecDepth 100000 in
theorem lebPut_any (A : Option Addr) (k c : Nat) (pre : List UInt8) (n : Int) (w : World) (hr : Rd w w.heap.size A (bvs pre)) (hk : pre.length = k) (hk1 : k ≤ 140737488355000) (h0 : 0 ≤ n) (h1 : n ≤ 18446744073709551615) :
    Calls Try.prog 25 #[.slice A k c, .int .u64 n] w (NewB w (pre ++ lput n.toNat)) := by
  obtain ⟨i0, hi, hz0, hz1, hz2⟩ := info_parts info_u8
  obtain ⟨N, rfl⟩ := Int.eq_ofNat_of_zero_le h0
  rw [Int.toNat_natCast]
  have hle := lput_le N (by omega)
  have hsz := lebSize_any N
  rw [Int.toNat_natCast] at hsz
  obtain ⟨S, hS⟩ : ∃ S, S = (lput N).length := ⟨_, rfl⟩
  obtain ⟨L, hL⟩ : ∃ L, L = pre ++ lput N := ⟨_, rfl⟩
  have hLl : L.length = k + S := by rw [hL, List.length_append, hk, hS]
  rw [← hL]
  rw [← hS] at hle hsz
  have HL := Lib.hid hL
  have HS := Lib.hid hS
  have HLl := Lib.hid hLl
  have HK := Lib.hid hk
  have HSZ := Lib.hid hsz
  clear hL hS hk hLl hsz
  have hsz1 : (Try.prog.info? 5).map (·.size) = some 1 := by rw [hi]; exact congrArg some hz1
  have HSZ1 := Lib.hid hsz1
  have hcn : (bvs pre).length = Nat.min k k := by rw [bvs_length, HK.out]; exact (Nat.min_self k).symm
  have HCN := Lib.hid hcn
  have hfit : 0 + (bvs pre).length ≤ (List.replicate (k + S) (Value.int .u8 0)).length := by rw [bvs_length, HK.out]; simp
  have HFIT := Lib.hid hfit
  clear hsz1 hcn hfit
  go_enter Try.func25, Try.ntmps25
  go_wp2_with (first
    | (go_at_call 42; refine (HSZ.out _ h0 h1).mono ?_; rintro e w' ⟨rfl, rfl⟩)
    | (at_make; go_must (refine wpList_mk rfl (.tmp 7) (.tmp 12) 29 rfl w.heap.size 5 i0 (.int .u8 0) 1 Try.underlying29 hi hz0 rfl hz1 hz2 .i64 .i64 _ _ rfl rfl k (k + S) rfl (by omega) (by omega) (by omega) (by simp only [maxLen]; omega) (Nat.le_refl _) ?_; intro w1 hg1 hown1 hgr1; have hr1 : Rd w1 w.heap.size A (bvs pre) := hr.grown hgr1 (Nat.le_refl _) (by simp); have hb1 : Below w.heap.size w w1 := (Below.refl _ _).grown hgr1 (Nat.le_refl _) (by simp); have HG1 := Lib.hid hg1; clear hg1 hown1 hgr1))
    | ((with_reducible show wpList _ _ _ (({ dst := some 16, op := _, type := _, pos := _, after := _, guard := _ } : Oper) :: _) _ _); go_must (refine wpList_copy_splice rfl (.tmp 14) (.tmp 15) 29 29 rfl 5 Try.underlying29 HSZ1.out _ _ _ _ _ _ rfl rfl w.heap.size 0 _ _ HG1.out (bvs pre) HCN.out (fun h0 => ⟨rfl, hr1.pos h0⟩) HFIT.out (bvs_one _) w.heap.size w hb1 (Nat.le_refl _) ?_; intro w2 HG2 hb2)))
  simp only [Act.put, List.setIfInBounds_toArray, List.set_cons_succ, List.set_cons_zero]
  have hown2 : w2.ownsRow w.heap.size 5 1 (.slice (some ⟨w.heap.size, 0, none⟩) k (k + S)) k (bvs pre) := own_of_splice HG2.out (Nat.le_refl _) (by rw [bvs_length, HK.out]) (by simp) (by omega) (by simp only [maxLen]; omega)
  clear HG2 HG1 hr1 hb1
  go_loopw [1, 5] (PutRel w L) (fun t _ _ => (intOf t).toNat)
  case atStart => exact ⟨N, pre, rfl, by omega, HL.out.symm, by rw [HK.out]; exact hown2, hb2⟩
  case round =>
    clear hown2 hb2
    obtain ⟨m, out, rfl, hm, Hrel, hown, hb⟩ := hrel
    have hlen : out.length + (lput m).length = k + S := by rw [← HLl.out, ← Hrel.out]; simp
    have hlp := lput_pos m
    have hbs := hb.size
    have hlen' : out.length + 1 ≤ 140737488355328 := by omega
    have HLEN := Lib.hid hlen'
    clear hlen hlen' hk1
    by_cases hlt : 128 ≤ m
    · go_wp2_with (at_builtin; refine wpList_app rfl (.tmp 19) (.tmp 23) 29 rfl w.heap.size 5 i0 (.int .u8 0) 1 1 Try.underlying29 hi hz0 hz1 hz2 rfl (by decide) _ _ _ rfl (hown.alloc _) _ _ 1 1 _ rfl (Rd.new _ _ _) rfl (by intro u hu; simp at hu; subst hu; rfl) (by have := HLEN.out; simp only [maxLen]; omega) (by have := HLEN.out; omega) (by simp; omega) ?_; intro v1 w1 hown1 hg1)
      rw [or128_u8 ((m : Int) % 256) (by omega) (by omega)] at hown1
      have hown2 : w1.ownsRow w.heap.size 5 1 v1 (out ++ [UInt8.ofNat (128 + m % 128)]).length (bvs (out ++ [UInt8.ofNat (128 + m % 128)])) := by
        rw [bvs_snoc _ _ (by omega), List.length_append, show ((128 + m % 128 : Nat) : Int) = 128 + (m : Int) % 256 % 128 by omega]; exact hown1
      have hb1 : Below w.heap.size w w1 := (hb.alloc hbs _).grown hg1 (by simp; omega) (own_block hown)
      have Hrel1 : Hid ((out ++ [UInt8.ofNat (128 + m % 128)]) ++ lput (m / 128) = L) := by
        rw [← Hrel.out, lput_big (n := m) (by omega)]; simp [Hid]
      clear hown hg1 hown1 Hrel hb
      go_wp2
      go_roundw
      case rel => exact ⟨m / 128, out ++ [UInt8.ofNat (128 + m % 128)], by go_num, by omega, Hrel1, hown2, hb1⟩
      case measure => simp [intOf]; omega
    · have hm1 : lput m = [UInt8.ofNat m] := lput_small (by omega)
      have HM := Lib.hid hm1
      clear hm1
      go_wp2_with (at_builtin; refine wpList_app rfl (.tmp 27) (.tmp 30) 29 rfl w.heap.size 5 i0 (.int .u8 0) 1 1 Try.underlying29 hi hz0 hz1 hz2 rfl (by decide) _ _ _ rfl (hown.alloc _) _ _ 1 1 _ rfl (Rd.new _ _ _) rfl (by intro u hu; simp at hu; subst hu; rfl) (by have := HLEN.out; simp only [maxLen]; omega) (by have := HLEN.out; omega) (by simp; omega) ?_; intro v1 w1 hown1 hg1)
      go_ret
      refine ⟨v1, rfl, ?_, (hb.alloc hbs _).grown hg1 (by simp; omega) (own_block hown)⟩
      rw [← Hrel.out, HM.out, bvs_snoc _ _ (by omega), List.length_append]
      exact_mod_cast hown1

end Go.Proofs.Ytjignfnkcbklkaa
namespace Go.Proofs.Ytjignfnkcbklkaa
open Go.RowKit

theorem results_cell_tmp2 {P : Program} {fn : Func} {u u2 p : Tmp} {ty : TypeId} (h : fn.results = #[.cell p ty, .tmp u, .tmp u2]) (tmps : Array Value) (w : World) (g : Nat) (t : TypeId) (cs : Array Value) (fr : Nat × Nat) (d : TypeDesc)
    (hp : tmps.getD p undef = .pointer (some ⟨g, 0, none⟩)) (hg : w.heap[g]? = some (.cells cs t fr))
    (hu : P.underlying ty = some d) (hd : (match d with | .struct _ | .array _ _ => true | _ => false) = true) (hi : (P.info? ty).map (·.size) = some cs.size) :
    (results fn tmps).run P w = .ok (.tuple #[.agg cs, tmps.getD u undef, tmps.getD u2 undef]) w := by
  have hp' : tmps[p]?.getD undef = .pointer (some ⟨g, 0, none⟩) := by simpa using hp
  simp [results, h, hp', asAddr, run_loadVar_row w g t ty cs fr d hg hu hd hi]
theorem results_tmp4 {P : Program} {fn : Func} {a b c d : Tmp} (h : fn.results = #[.tmp a, .tmp b, .tmp c, .tmp d]) (tmps : Array Value) (w : World) :
    (results fn tmps).run P w = .ok (.tuple #[tmps.getD a undef, tmps.getD b undef, tmps.getD c undef, tmps.getD d undef]) w := by
  simp [results, h]
/-- A sum's four bytes, the lowest first. -/
def fourL (n : Nat) : List UInt8 := [UInt8.ofNat n, UInt8.ofNat (n / 256), UInt8.ofNat (n / 65536), UInt8.ofNat (n / 16777216)]
theorem four_vals (n : Nat) : ∃ c0 c1 c2 c3 : UInt8, fourL n = [c0, c1, c2, c3] ∧ (c0.toNat : Int) = (n : Int) % 256 ∧ (c1.toNat : Int) = (n : Int) / 256 % 256 ∧ (c2.toNat : Int) = (n : Int) / 65536 % 256 ∧ (c3.toNat : Int) = (n : Int) / 16777216 % 256 := by
  refine ⟨_, _, _, _, rfl, ?_, ?_, ?_, ?_⟩ <;> rw [UInt8.toNat_ofNat'] <;> omega
end Go.Proofs.Ytjignfnkcbklkaa
namespace Go.Proofs.Ytjignfnkcbklkaa
open Go.RowKit

theorem ofNat_mod256 (n : Nat) : UInt8.ofNat (n % 256) = UInt8.ofNat n := by
  refine UInt8.toNat.inj ?_
  rw [UInt8.toNat_ofNat', UInt8.toNat_ofNat']
  omega
theorem lay4 (n : Nat) : layW 4 [n] ++ [] = fourL n := by
  rw [List.append_nil]
  show leB 4 n ++ [] = _
  rw [List.append_nil]
  simp only [leB, fourL, ofNat_mod256, Nat.div_div_eq_div_mul]
end Go.Proofs.Ytjignfnkcbklkaa
