/-
  Contracts of the functions that lay a number: ref.Put, leb.Put, leb.PutInt. · Layer 16: Put: the bytes of shares. · Contracts of layer 14: parts; the closures of Norm. · Contracts of layer 14: Norm.
-/
import Derived.Test.YtflcmmeoppdhdaaGreatR12
import Derived.Test.YtflcmmeoppdhdaaGreatR21
import Derived.Deep.DeepMust
namespace Go.Proofs.YtflcmmeoppdhdaaGreat
open Go.RowKit

theorem info_u8 : (Tryz.prog.info? 5).map (fun i => (i.zero, i.size, i.bytes)) = some (some (.int .u8 0), 1, 1) := by kernel_rfl

/-- What hands back the bytes l in new memory. -/
def NewB (w : World) (l : List UInt8) (e : Ending) (w' : World) : Prop :=
  ∃ v, e = .returned v ∧ w'.ownsRow w.heap.size 5 1 v l.length (bvs l) ∧ Below w.heap.size w w'

theorem bvs_snoc (l : List UInt8) (c : Nat) (h : c < 256) : bvs (l ++ [UInt8.ofNat c]) = bvs l ++ [Value.int .u8 (c : Int)] := by
  simp [bvs, toNat_ofNat8 h]

/-- What holds of the number that is left, and of the bytes that are laid, at the head of a round. -/
def PutRel (w : World) (L : List UInt8) (t v : Value) (wr : World) : Prop :=
  ∃ (m : Nat) (out : List UInt8), t = .int .u64 m ∧ m < 18446744073709551616 ∧ Hid (out ++ lput m = L) ∧ wr.ownsRow w.heap.size 5 1 v out.length (bvs out) ∧ Below w.heap.size w wr

set_option maxHeartbeats 400000 in
set_option maxRecDepth 100000 in
theorem refPut_any (n : Int) (w : World) (h0 : 0 ≤ n) (h1 : n ≤ 18446744073709551615) :
    Calls Tryz.prog 61 #[.int .u64 n] w (NewB w (lput n.toNat)) := by
  obtain ⟨i0, hi, hz0, hz1, hz2⟩ := info_parts info_u8
  obtain ⟨N, rfl⟩ := Int.eq_ofNat_of_zero_le h0
  rw [Int.toNat_natCast]
  have hle := lput_le N (by omega)
  obtain ⟨L, hL⟩ : ∃ L, L = lput N := ⟨_, rfl⟩
  rw [← hL] at hle ⊢
  have HL := Lib.hid hL
  clear hL h0
  go_enter Tryz.func61, Tryz.ntmps61
  go_wp2
  go_loopw [0, 3] (PutRel w L) (fun t _ _ => (intOf t).toNat)
  case atStart => exact ⟨N, [], rfl, by omega, HL.out.symm, World.ownsRow_nil _ _ _ _, Below.refl _ _⟩
  case round =>
    obtain ⟨m, out, rfl, hm, Hrel, hown, hb⟩ := hrel
    have hlen : out.length + (lput m).length = L.length := by rw [← Hrel.out]; simp
    have hlp := lput_pos m
    have hbs := hb.size
    by_cases hlt : 127 < m
    · go_wp2_with (at_builtin; refine wpList_app rfl (.tmp 6) (.tmp 11) 22 rfl w.heap.size 5 i0 (.int .u8 0) 1 1 Tryz.underlying22 hi hz0 hz1 hz2 rfl (by decide) _ _ _ rfl (hown.alloc _) _ _ 1 1 _ rfl (Rd.new _ _ _) rfl (by intro u hu; simp at hu; subst hu; rfl) (by simp only [maxLen]; omega) (by omega) (by simp; omega) ?_; intro v1 w1 hown1 hg1)
      have hown2 : w1.ownsRow w.heap.size 5 1 v1 (out ++ [UInt8.ofNat (128 + m % 128)]).length (bvs (out ++ [UInt8.ofNat (128 + m % 128)])) := by
        rw [bvs_snoc _ _ (by omega), List.length_append]; exact_mod_cast hown1
      have hb1 : Below w.heap.size w w1 := (hb.alloc hbs _).grown hg1 (by simp; omega) (own_block hown)
      have Hrel1 : Hid ((out ++ [UInt8.ofNat (128 + m % 128)]) ++ lput (m / 128) = L) := by
        rw [← Hrel.out, lput_big (n := m) (by omega)]; simp [Hid]
      clear hown hg1 hown1 Hrel hb hlen
      go_wp2
      go_roundw
      case rel => exact ⟨m / 128, out ++ [UInt8.ofNat (128 + m % 128)], by go_num, by omega, Hrel1, hown2, hb1⟩
      case measure => simp [intOf]; omega
    · have hm1 : lput m = [UInt8.ofNat m] := lput_small (by omega)
      go_wp2_with (at_builtin; refine wpList_app rfl (.tmp 15) (.tmp 18) 22 rfl w.heap.size 5 i0 (.int .u8 0) 1 1 Tryz.underlying22 hi hz0 hz1 hz2 rfl (by decide) _ _ _ rfl (hown.alloc _) _ _ 1 1 _ rfl (Rd.new _ _ _) rfl (by intro u hu; simp at hu; subst hu; rfl) (by simp only [maxLen]; omega) (by omega) (by simp; omega) ?_; intro v1 w1 hown1 hg1)
      go_ret
      refine ⟨v1, rfl, ?_, (hb.alloc hbs _).grown hg1 (by simp; omega) (own_block hown)⟩
      rw [← Hrel.out, hm1, bvs_snoc _ _ (by omega), List.length_append]
      exact_mod_cast hown1

set_option maxHeartbeats 400000 in
set_option maxRecDepth 100000 in
theorem lebPut_any (A : Option Addr) (k c : Nat) (pre : List UInt8) (n : Int) (w : World) (hr : Rd w w.heap.size A (bvs pre)) (hk : pre.length = k) (hk1 : k ≤ 140737488355000) (h0 : 0 ≤ n) (h1 : n ≤ 18446744073709551615) :
    Calls Tryz.prog 207 #[.slice A k c, .int .u64 n] w (NewB w (pre ++ lput n.toNat)) := by
  obtain ⟨i0, hi, hz0, hz1, hz2⟩ := info_parts info_u8
  obtain ⟨N, rfl⟩ := Int.eq_ofNat_of_zero_le h0
  rw [Int.toNat_natCast]
  have hle := lput_le N (by omega)
  have hsz := lebSize_any N
  rw [Int.toNat_natCast] at hsz
  obtain ⟨S, hS⟩ : ∃ S, S = (lput N).length := ⟨_, rfl⟩
  obtain ⟨L, hL⟩ : ∃ L, L = pre ++ lput N := ⟨_, rfl⟩
  have hLl : L.length = k + S := by rw [hL, List.length_append, hk, hS]
  rw [← hL]
  rw [← hS] at hle hsz
  have HL := Lib.hid hL
  have HS := Lib.hid hS
  have HLl := Lib.hid hLl
  have HK := Lib.hid hk
  have HSZ := Lib.hid hsz
  clear hL hS hk hLl hsz
  have hsz1 : (Tryz.prog.info? 5).map (·.size) = some 1 := by rw [hi]; exact congrArg some hz1
  have HSZ1 := Lib.hid hsz1
  have hcn : (bvs pre).length = Nat.min k k := by rw [bvs_length, HK.out]; exact (Nat.min_self k).symm
  have HCN := Lib.hid hcn
  have hfit : 0 + (bvs pre).length ≤ (List.replicate (k + S) (Value.int .u8 0)).length := by rw [bvs_length, HK.out]; simp
  have HFIT := Lib.hid hfit
  clear hsz1 hcn hfit
  go_enter Tryz.func207, Tryz.ntmps207
  go_wp2_with (first
    | (go_at_call 228; refine (HSZ.out _ h0 h1).mono ?_; rintro e w' ⟨rfl, rfl⟩)
    | (at_make; go_must (refine wpList_mk rfl (.tmp 7) (.tmp 12) 22 rfl w.heap.size 5 i0 (.int .u8 0) 1 Tryz.underlying22 hi hz0 rfl hz1 hz2 .i64 .i64 _ _ rfl rfl k (k + S) rfl (by omega) (by omega) (by omega) (by simp only [maxLen]; omega) (Nat.le_refl _) ?_; intro w1 hg1 hown1 hgr1; have hr1 : Rd w1 w.heap.size A (bvs pre) := hr.grown hgr1 (Nat.le_refl _) (by simp); have hb1 : Below w.heap.size w w1 := (Below.refl _ _).grown hgr1 (Nat.le_refl _) (by simp); have HG1 := Lib.hid hg1; clear hg1 hown1 hgr1))
    | ((with_reducible show wpList _ _ _ (({ dst := some 16, op := _, type := _, pos := _, after := _, guard := _ } : Oper) :: _) _ _); go_must (refine wpList_copy_splice rfl (.tmp 14) (.tmp 15) 22 22 rfl 5 Tryz.underlying22 HSZ1.out _ _ _ _ _ _ rfl rfl w.heap.size 0 _ _ HG1.out (bvs pre) HCN.out (fun h0 => ⟨rfl, hr1.pos h0⟩) HFIT.out (bvs_one _) w.heap.size w hb1 (Nat.le_refl _) ?_; intro w2 HG2 hb2)))
  simp only [Act.put, List.setIfInBounds_toArray, List.set_cons_succ, List.set_cons_zero]
  have hown2 : w2.ownsRow w.heap.size 5 1 (.slice (some ⟨w.heap.size, 0, none⟩) k (k + S)) k (bvs pre) := own_of_splice HG2.out (Nat.le_refl _) (by rw [bvs_length, HK.out]) (by simp) (by omega) (by simp only [maxLen]; omega)
  clear HG2 HG1 hr1 hb1
  go_loopw [1, 5] (PutRel w L) (fun t _ _ => (intOf t).toNat)
  case atStart => exact ⟨N, pre, rfl, by omega, HL.out.symm, by rw [HK.out]; exact hown2, hb2⟩
  case round =>
    clear hown2 hb2
    obtain ⟨m, out, rfl, hm, Hrel, hown, hb⟩ := hrel
    have hlen : out.length + (lput m).length = k + S := by rw [← HLl.out, ← Hrel.out]; simp
    have hlp := lput_pos m
    have hbs := hb.size
    have hlen' : out.length + 1 ≤ 140737488355328 := by omega
    have HLEN := Lib.hid hlen'
    clear hlen hlen' hk1
    by_cases hlt : 128 ≤ m
    · go_wp2_with (at_builtin; refine wpList_app rfl (.tmp 19) (.tmp 23) 22 rfl w.heap.size 5 i0 (.int .u8 0) 1 1 Tryz.underlying22 hi hz0 hz1 hz2 rfl (by decide) _ _ _ rfl (hown.alloc _) _ _ 1 1 _ rfl (Rd.new _ _ _) rfl (by intro u hu; simp at hu; subst hu; rfl) (by have := HLEN.out; simp only [maxLen]; omega) (by have := HLEN.out; omega) (by simp; omega) ?_; intro v1 w1 hown1 hg1)
      rw [or128_u8 ((m : Int) % 256) (by omega) (by omega)] at hown1
      have hown2 : w1.ownsRow w.heap.size 5 1 v1 (out ++ [UInt8.ofNat (128 + m % 128)]).length (bvs (out ++ [UInt8.ofNat (128 + m % 128)])) := by
        rw [bvs_snoc _ _ (by omega), List.length_append, show ((128 + m % 128 : Nat) : Int) = 128 + (m : Int) % 256 % 128 by omega]; exact hown1
      have hb1 : Below w.heap.size w w1 := (hb.alloc hbs _).grown hg1 (by simp; omega) (own_block hown)
      have Hrel1 : Hid ((out ++ [UInt8.ofNat (128 + m % 128)]) ++ lput (m / 128) = L) := by
        rw [← Hrel.out, lput_big (n := m) (by omega)]; simp [Hid]
      clear hown hg1 hown1 Hrel hb
      go_wp2
      go_roundw
      case rel => exact ⟨m / 128, out ++ [UInt8.ofNat (128 + m % 128)], by go_num, by omega, Hrel1, hown2, hb1⟩
      case measure => simp [intOf]; omega
    · have hm1 : lput m = [UInt8.ofNat m] := lput_small (by omega)
      have HM := Lib.hid hm1
      clear hm1
      go_wp2_with (at_builtin; refine wpList_app rfl (.tmp 27) (.tmp 30) 22 rfl w.heap.size 5 i0 (.int .u8 0) 1 1 Tryz.underlying22 hi hz0 hz1 hz2 rfl (by decide) _ _ _ rfl (hown.alloc _) _ _ 1 1 _ rfl (Rd.new _ _ _) rfl (by intro u hu; simp at hu; subst hu; rfl) (by have := HLEN.out; simp only [maxLen]; omega) (by have := HLEN.out; omega) (by simp; omega) ?_; intro v1 w1 hown1 hg1)
      go_ret
      refine ⟨v1, rfl, ?_, (hb.alloc hbs _).grown hg1 (by simp; omega) (own_block hown)⟩
      rw [← Hrel.out, HM.out, bvs_snoc _ _ (by omega), List.length_append]
      exact_mod_cast hown1

end Go.Proofs.YtflcmmeoppdhdaaGreat
namespace Go.Proofs.YtflcmmeoppdhdaaGreat
open Go.RowKit Go.Sort Go.Shelf

/-- A share that may not be. -/
def hBad (x : Int) : Bool := decide (x < 0) || decide (65536 < x)
/-- Shares that may be laid. -/
def HistMay (l : List Int) : Prop := l.length = 256 ∧ ∀ x ∈ l, 0 ≤ x ∧ x ≤ 65536
theorem hBad_none {l : List Int} (h : ∀ x ∈ l, 0 ≤ x ∧ x ≤ 65536) : l.any hBad = false := by
  rw [List.any_eq_false]
  intro x hx
  have := h x hx
  simp [hBad]
  omega
theorem hPutF_len : ∀ (l : List Int) (z : Nat), (∀ x ∈ l, 0 ≤ x ∧ x ≤ 65536) → z + l.length ≤ 4096 → (hPutF z l).length ≤ 20 * l.length + 10
  | [], z, _, h => by rw [hPutF_nil]; have := lput_le z (by simp at h; omega); simp; omega
  | x :: l, z, hx, h => by
    have hl := fun y hy => hx y (List.mem_cons_of_mem _ hy)
    simp only [List.length_cons] at h ⊢
    by_cases h0 : x = 0
    · subst h0
      rw [hPutF_zero]
      have := hPutF_len l (z + 1) hl (by omega)
      omega
    · rw [hPutF_some z l h0]
      have h1 := hPutF_len l 0 hl (by omega)
      have h2 := lput_le z (by omega)
      have h3 := hx x List.mem_cons_self
      have h4 := lput_le (x - 1).toNat (by omega)
      simp only [List.length_append]
      omega
section
variable {w : World} {B : Nat} {A : Option Addr} {n m : Nat} {c : List Int}
set_option maxRecDepth 100000 in
theorem histWrong_any (x : Int) (w : World) : Calls Tryz.prog 120 #[.int .i64 x] w fun e w' => e = .returned (.bool (hBad x)) ∧ w' = w := by
  unfold hBad
  go_enter Tryz.func120, Tryz.ntmps120
  by_cases h : x < 0
  · rw [decide_eq_true h, Bool.true_or]
    go_wp2
    go_ret
    exact ⟨rfl, rfl⟩
  · rw [decide_eq_false h, Bool.false_or]
    go_wp2
    go_ret
    exact ⟨rfl, rfl⟩
theorem histBad_any (hr : Rd w B A (zvs c)) (hn : c.length = n) (hn1 : n ≤ 4096) :
    Calls Tryz.prog 112 #[.slice A n m, .func (.func 120) #[] #[]] w fun e w' => e = .returned (.bool (c.any hBad)) ∧ w' = w :=
  contains_any 120 hBad (enters_of Tryz.func120 (by kernel_rfl) rfl) (fun x W => histWrong_any x W) hr hn hn1

set_option maxHeartbeats 1000000 in
set_option maxRecDepth 100000 in
/-- put: a number's bytes, behind those that nobody else has. -/
theorem histAdd_any {k : Nat} {v : Value} (out : List UInt8) (hB : B ≤ w.heap.size) (hown : w.ownsRow B 5 1 v out.length (bvs out)) (ho : out.length ≤ 100000) (hk : k ≤ 65536) :
    Calls Tryz.prog 172 #[v, .int .i64 (k : Int)] w fun e w' => ∃ v', e = .returned v' ∧ w'.ownsRow B 5 1 v' (out ++ lput k).length (bvs (out ++ lput k)) ∧ Below B w w' := by
  obtain ⟨i0, hi, hz0, hz1, hz2⟩ := info_parts info_u8
  have C := Lib.hid (fun W => lebPut_any none 0 0 [] (k : Int) W (Rd.nil_ _ _ _) rfl (by decide) (by omega) (by omega))
  have hle := lput_le k (by omega)
  have HO := Lib.hid hown
  clear hown
  go_enter Tryz.func172, Tryz.ntmps172
  go_wp2_with fail
  refine (C.out w).mono ?_
  rintro e w1 ⟨u, rfl, hown1, hb1⟩
  rw [List.nil_append, Int.toNat_natCast] at hown1
  obtain ⟨A1, c1, rfl, -, -, -⟩ := own_form hown1
  have HR1 := Lib.hid (Rd.of_own hown1)
  have HO1 := Lib.hid (own_kept HO.out hb1)
  have HB1 := Lib.hid (hb1.mono hB)
  have hBw1 : B ≤ w1.heap.size := Nat.le_trans hB hb1.size
  have HZL := Lib.hid (show (bvs (lput k)).length = (lput k).length * 1 by rw [bvs_length, Nat.mul_one])
  have hA1 : out.length + (lput k).length ≤ maxLen := by simp only [maxLen]; omega
  have hA2 : (out.length + (lput k).length) * 1 ≤ 140737488355328 := by omega
  obtain ⟨q, hq⟩ : ∃ q, q = (lput k).length := ⟨_, rfl⟩
  rw [← hq] at hA1 hA2 HZL ⊢
  obtain ⟨p, hp⟩ : ∃ p, p = out.length := ⟨_, rfl⟩
  rw [← hp] at hA1 hA2 HO1 ho
  have HQ := Lib.hid hq
  have HP := Lib.hid hp
  clear C hown1 hb1 HO hB hq hp hle ho
  go_wp2_with (at_builtin; go_must (refine wpList_app rfl (.tmp 5) (.tmp 8) 22 rfl B 5 i0 (.int .u8 0) 1 1 Tryz.underlying22 hi hz0 hz1 hz2 rfl (by decide) _ _ _ rfl HO1.out w1.heap.size A1 _ _ (bvs (lput k)) rfl HR1.out HZL.out (bvs_one _) hA1 hA2 hBw1 ?_; intro v2 w2 hown2 hg2; have hb2 := HB1.out.grown hg2 hBw1 (own_block HO1.out); clear hg2))
  rw [← bvs_append] at hown2
  go_ret
  exact ⟨v2, rfl, by rw [List.length_append, ← HP.out, ← HQ.out]; exact hown2, hb2⟩

theorem size_int16 : (Tryz.prog.info? 3).map (·.size) = some 1 := by kernel_rfl
/-- How long a slice is. -/
def lenH : Value → Nat
  | .slice _ n _ => n
  | _ => 0
/-- What holds at the label. -/
def LayRel (w : World) (c : List Int) (L : List UInt8) (s v : Value) (wr : World) : Prop :=
  ∃ (k : Nat) (A : Option Addr) (n m : Nat) (out : List UInt8), n + k = 256 ∧ n ≤ m ∧ s = .slice A n m ∧ Rd wr w.heap.size A (zvs (c.drop k)) ∧ wr.ownsRow w.heap.size 5 1 v out.length (bvs out) ∧ Hid (out ++ hPut (c.drop k) = L) ∧ Below w.heap.size w wr
set_option maxHeartbeats 1000000 in
set_option maxRecDepth 100000 in
theorem histLay_any (hr : Rd w w.heap.size A (zvs c)) (hc : HistMay c) (hcap : 256 ≤ m) :
    Calls Tryz.prog 121 #[.slice A (256 : Nat) m] w (NewB w (hPut c)) := by
  have hbound := hPutF_len c 0 hc.2 (by have := hc.1; omega)
  rw [hc.1] at hbound
  obtain ⟨L, hL⟩ : ∃ L, L = hPut c := ⟨_, rfl⟩
  have hLl : L.length ≤ 5130 := by rw [hL]; exact hbound
  rw [← hL]
  have HC := Lib.hid hc
  have HR := Lib.hid hr
  have HL := Lib.hid hL
  clear hL hbound hc hr
  go_enter Tryz.func121, Tryz.ntmps121
  go_wp2
  go_step3
  go_wp2
  go_step3
  go_wp2
  go_loopw [0, 3] (LayRel w c L) (fun s _ _ => lenH s)
  case atStart => exact ⟨0, A, 256, m, [], rfl, hcap, rfl, HR.out, World.ownsRow_nil _ _ _ _, HL.out.symm, Below.refl _ _⟩
  case round =>
    obtain ⟨k, A', n, m', out, hk, hnm, rfl, hrd, hown, HO, hb⟩ := hrel
    obtain ⟨A1, c1, rfl, -, -, -⟩ := own_form hown
    have hbs := hb.size
    have hn2 : n ≤ 256 := by omega
    have hcl : (c.drop k).length = n := by rw [List.length_drop, HC.out.1]; omega
    have hol : out.length ≤ 5130 := by have := congrArg List.length HO.out; rw [List.length_append] at this; omega
    have HRD := Lib.hid hrd
    have HOWN := Lib.hid hown
    have HB := Lib.hid hb
    have HCL := Lib.hid hcl
    have HK := Lib.hid hk
    clear hrd hown hb hcl hk HR
    go_wp2
    go_loopw [0, 3, 8] (fun s v i wq => ∃ j : Nat, j ≤ n ∧ s = .slice A' n m' ∧ v = .slice A1 out.length c1 ∧ i = .int .i64 (j : Int) ∧ wq = wr ∧ Hid (out ++ hPutF j (c.drop (k + j)) = L)) (fun _ _ i _ => n - (intOf i).toNat)
    case atStart => exact ⟨0, Nat.zero_le _, rfl, rfl, rfl, rfl, HO.out⟩
    case round =>
      clear HO
      obtain ⟨j, hj, rfl, rfl, rfl, rfl, HO⟩ := hrel
      by_cases hlt : j < n
      · have hkc : k + j < c.length := by have := HC.out.1; have := HK.out; omega
        have hkd : j < (c.drop k).length := by have := HCL.out; omega
        have hd : c.drop (k + j) = c[k + j] :: c.drop (k + j + 1) := List.drop_eq_getElem_cons hkc
        have hx := HC.out.2 _ (List.getElem_mem hkc)
        obtain ⟨ab, ao, rfl, hab, hcell⟩ := cell_of_rd HRD.out hkd
        rw [List.getElem_drop] at hcell
        obtain ⟨x, hxx⟩ : ∃ x, x = c[k + j]'hkc := ⟨_, rfl⟩
        rw [← hxx] at hcell hd hx
        rw [hd] at HO
        have hji : (j : Int) < (n : Int) := by omega
        clear hd hxx
        by_cases h0 : 0 < x
        · rw [hPutF_some j _ (by omega)] at HO
          have C1 := Lib.hid (histAdd_any (w := wr) (B := w.heap.size) (k := j) out hbs HOWN.out (by omega) (by have := HK.out; omega))
          have C2 := Lib.hid (fun (W : World) (v' : Value) (h : w.heap.size ≤ W.heap.size) (ho : W.ownsRow w.heap.size 5 1 v' (out ++ lput j).length (bvs (out ++ lput j))) => histAdd_any (w := W) (B := w.heap.size) (k := (x - 1).toNat) (out ++ lput j) h ho (by have := lput_le j (by have := HK.out; omega); rw [List.length_append]; omega) (by omega))
          rw [show (((x - 1).toNat : Nat) : Int) = x - 1 by omega] at C2
          go_wp2_with fail
          refine C1.out.mono ?_
          rintro e w1 ⟨v1, rfl, hown1, hb1⟩
          have C3 := Lib.hid (C2.out w1 v1 (Nat.le_trans hbs hb1.size) hown1)
          have HB1 := Lib.hid (HB.out.trans hb1)
          have HR1 := Lib.hid (HRD.out.below hb1)
          have HZL := Lib.hid (show (zvs (c.drop k)).length = n by rw [zvs_length]; exact HCL.out)
          have hjn : j + 1 ≤ n := by omega
          clear C1 C2 hown1 hb1 hcell
          go_wp2_with fail
          refine C3.out.mono ?_
          rintro e w2 ⟨v2, rfl, hown2, hb2⟩
          have HB2 := Lib.hid (HB1.out.trans hb2)
          have HR2 := Lib.hid (HR1.out.below hb2)
          have HO2 := Lib.hid hown2
          clear C3 hown2 hb2 HB1 HR1
          go_wp2_with ((with_reducible show wpList _ _ _ (({ dst := some 24, op := _, type := _, pos := _, after := _, guard := _ } : Oper) :: _) _ _); go_must (refine wpList_from rfl (.tmp 21) (.tmp 23) rfl Tryz.underlying53 size_int16 w.heap.size _ n m' (j + 1) (zvs (c.drop k)) rfl rfl HR2.out HZL.out hnm hjn ?_; intro A2 c2 hc2 hr2))
          go_roundw
          case rel =>
            refine ⟨k + j + 1, A2, n - (j + 1), c2, out ++ lput j ++ lput (x - 1).toNat, by have := HK.out; omega, hc2, rfl, ?_, HO2.out, Lib.hid ?_, HB2.out⟩
            · rw [show List.drop (j + 1) (zvs (c.drop k)) = zvs (c.drop (k + j + 1)) by simp [zvs, List.drop_drop, Nat.add_assoc]] at hr2
              exact hr2
            · rw [← HO.out]; simp only [List.append_assoc]; rfl
          case measure => simp only [lenH]; omega
        · obtain rfl : x = 0 := by omega
          rw [hPutF_zero] at HO
          go_wp2
          go_roundw
          case rel => exact ⟨j + 1, by omega, rfl, rfl, by go_num, trivial, HO⟩
          case measure => simp [intOf]; omega
      · obtain rfl : j = n := by omega
        have hO := HO.out
        rw [List.drop_of_length_le (by have := HC.out.1; have := HK.out; omega), hPutF_nil] at hO
        have C1 := Lib.hid (histAdd_any (w := wr) (B := w.heap.size) (k := j) out hbs HOWN.out (by omega) (by have := HK.out; omega))
        rw [hO] at C1
        clear hO HO
        go_wp2_with fail
        refine C1.out.mono ?_
        rintro e w1 ⟨v1, rfl, hown1, hb1⟩
        go_wp2
        go_ret
        exact ⟨v1, rfl, hown1, HB.out.trans hb1⟩
set_option maxRecDepth 100000 in
theorem histPut_ok (hr : Rd w w.heap.size A (zvs c)) (hn : c.length = n) (hc : HistMay c) (hcap : n ≤ m) :
    Calls Tryz.prog 78 #[.slice A n m] w fun e w' => ∃ v, e = .returned (.tuple #[v, .int .i64 0]) ∧ w'.ownsRow w.heap.size 5 1 v (hPut c).length (bvs (hPut c)) ∧ Below w.heap.size w w' := by
  obtain rfl : n = 256 := by rw [← hn, hc.1]
  have C := Lib.hid (histBad_any (m := m) hr hn (by decide))
  rw [hBad_none hc.2] at C
  have C2 := Lib.hid (histLay_any hr hc hcap)
  clear hr hn hc
  go_enter Tryz.func78, Tryz.ntmps78
  go_wp2_with fail
  refine C.out.mono ?_
  rintro e w' ⟨rfl, hw⟩
  obtain rfl : _ = w' := hw.symm
  go_wp2_with fail
  refine C2.out.mono ?_
  rintro e w1 ⟨v, rfl, hown, hb⟩
  go_wp2
  go_ret2
  exact ⟨v, rfl, hown, hb⟩
end
end Go.Proofs.YtflcmmeoppdhdaaGreat
namespace Go.Proofs.YtflcmmeoppdhdaaGreat
open Go.RowKit Go.Sort Go.Shelf

section
variable {P : Program} {o : Oper} {ev : Operand → Value} {w : World} {post : Value → World → Prop}
/-- 'make' of n cells of size one. -/
theorem says_mk {t : TypeId} {lo co : Operand} (hop : o.op = .makeSlice t lo co) (e : TypeId) (i : TypeInfo) (z : Value) (ht : P.underlying t = some (.slice e)) (hi : P.info? e = some i) (hz : i.zero = some z) (hzs : z.cells = #[z])
    (hsize : i.size = 1) (hby : i.bytes ≤ 8) (n : Nat) (hl : ev lo = .int .i64 (n : Int)) (hc : ev co = .int .i64 (n : Int)) (hn : n ≤ 1000000)
    (hp : post (.slice (some ⟨w.heap.size, 0, none⟩) n n) (w.alloc (.cells (List.replicate n z).toArray e))) : OpSays P o ev w post := by
  have hbn : ((i.bytes * n : Nat) : Int) ≤ 281474976710656 := by have := Nat.mul_le_mul_right n hby; omega
  rw [Int.natCast_mul] at hbn
  have hrun := run_make (P := P) w t e i z ht hi hz .i64 .i64 n n (by omega) (Int.le_refl _) hbn (by omega)
  simp only [Int.toNat_natCast, hsize, Nat.mul_one, hzs] at hrun
  have hcells : madeCells #[z] n = (List.replicate n z).toArray := by
    apply Array.ext'; rw [toList_madeCells_one]
  rw [hcells] at hrun
  have e : (execOp ev o).run P w = .ok (.value (.slice (some ⟨w.heap.size, 0, none⟩) n n)) (w.alloc (.cells (List.replicate n z).toArray e)) := by
    simp only [execOp, hop, hl, hc, Sem.run_bind, Sem.run_pure, Result.andThen_ok, hrun]
  unfold OpSays
  rw [e]
  exact hp
end

/-- A new row of n noughts. -/
def NewRow (B n : Nat) (v : Value) (w : World) : Prop := ∃ g, v = .slice (some ⟨g, 0, none⟩) n n ∧ B ≤ g ∧ Blk w g 3 (zvs (List.replicate n 0))
theorem NewRow.grow (B n : Nat) (v : Value) (w w' : World) (h : NewRow B n v w) (hb : Below w.heap.size w w') : NewRow B n v w' := by
  obtain ⟨g, h1, h2, h3⟩ := h
  exact ⟨g, h1, h2, h3.grow hb⟩

/-- The shares of the first k counts. -/
def partRow (c : List Int) (t : Int) (k : Nat) : List Int := (c.take k).map (nShare t c.sum) ++ List.replicate (c.length - k) 0
theorem partRow_zero (c : List Int) (t : Int) : partRow c t 0 = List.replicate c.length 0 := by simp [partRow]
theorem partRow_all (c : List Int) (t : Int) : partRow c t c.length = c.map (nShare t c.sum) := by simp [partRow]
theorem partRow_set (c : List Int) (t : Int) {k : Nat} (h : k < c.length) : (partRow c t k).set k (nShare t c.sum c[k]) = partRow c t (k + 1) := by
  unfold partRow
  have hl : ((c.take k).map (nShare t c.sum)).length = k := by simp; omega
  rw [List.set_append_right _ _ (by omega), hl, Nat.sub_self, List.take_add_one, List.getElem?_eq_getElem h]
  have e : c.length - k = (c.length - (k + 1)) + 1 := by omega
  rw [e, List.replicate_succ, List.set_cons_zero, List.map_append, List.append_assoc]
  rfl
theorem partRow_skip (c : List Int) (t : Int) {k : Nat} (h : k < c.length) (h0 : c[k] = 0) : partRow c t k = partRow c t (k + 1) := by
  rw [← partRow_set c t h]
  have hl : ((c.take k).map (nShare t c.sum)).length = k := by simp; omega
  unfold partRow
  rw [List.set_append_right _ _ (by omega), hl, Nat.sub_self]
  have e : c.length - k = (c.length - (k + 1)) + 1 := by omega
  rw [e, List.replicate_succ, List.set_cons_zero, h0]
  simp [nShare]
theorem partRow_len (c : List Int) (t : Int) {k : Nat} (h : k ≤ c.length) : (partRow c t k).length = c.length := by unfold partRow; simp; omega

/-- The quotient, made good. -/
theorem nShare_max {t s x : Int} (hx : 0 < x) (ht : 0 ≤ t) (hs : 0 < s) : nShare t s x = if t * x / s < 1 then 1 else t * x / s := by
  unfold nShare
  rw [Int.mul_comm x t]
  have h0 : 0 ≤ t * x / s := Int.ediv_nonneg (Int.mul_nonneg ht (by omega)) (by omega)
  by_cases h : t * x / s = 0
  · rw [if_pos ⟨hx, h⟩, if_pos (by omega)]
  · rw [if_neg (fun hh => h hh.2), if_neg (by omega)]
theorem prod_le {t x : Int} (ht0 : 0 ≤ t) (ht : t ≤ 65536) (hx0 : 0 ≤ x) (hx : x ≤ 1099511627776) : 0 ≤ t * x ∧ t * x ≤ 72057594037927936 := by
  refine ⟨Int.mul_nonneg ht0 hx0, ?_⟩
  have h1 : t * x ≤ 65536 * x := Int.mul_le_mul_of_nonneg_right ht hx0
  omega
theorem quo_le {a s : Int} (ha : 0 ≤ a) (hs : 0 < s) : 0 ≤ a / s ∧ a / s ≤ a := ⟨Int.ediv_nonneg ha (by omega), Int.ediv_le_self _ ha⟩

theorem nShare_val {t s x : Int} (ht0 : 0 ≤ t) (ht : t ≤ 65536) (hx0 : 0 < x) (hx : x ≤ 1099511627776) (hs : 0 < s) : max (wrap64 ((wrap64 (t * x)).tdiv s)) 1 = nShare t s x := by
  have hp := prod_le ht0 ht (by omega) hx
  have hq := quo_le hp.1 hs
  rw [nShare_max hx0 ht0 hs, IntWalk.wrap64_in (t * x) (by omega), Int.tdiv_eq_ediv_of_nonneg hp.1, IntWalk.wrap64_in (t * x / s) (by omega)]
  generalize t * x / s = q at *
  split <;> omega

section
variable {w : World} {B : Nat} {A : Option Addr} {n m : Nat} {c : List Int}
set_option maxRecDepth 100000 in
set_option maxHeartbeats 2000000 in
theorem normParts_any (t : Int) (hr : Rd w w.heap.size A (zvs c)) (hn : c.length = n) (hn1 : n ≤ 4096) (hnn : ∀ x ∈ c, 0 ≤ x ∧ x ≤ 1099511627776) (hb : c.sum ≤ 9007199254740992) (hs0 : 0 < c.sum) (ht0 : 0 ≤ t) (ht : t ≤ 65536) :
    Calls Tryz.prog 115 #[.slice A n m, .int .i64 t] w fun e w' => ∃ g, e = .returned (.slice (some ⟨g, 0, none⟩) n n) ∧ w.heap.size ≤ g ∧ Blk w' g 3 (zvs (c.map (nShare t c.sum))) ∧ Below w.heap.size w w' := by
  obtain ⟨i0, hi, hz0, hz1, hz2⟩ := info_parts info_int12
  have C1 := Lib.hid (fun (W : World) (h : Below w.heap.size w W) => normSum_any (m := m) (hr.below h) hn hn1 (fun x hx => (hnn x hx).1) hb)
  have HR := Lib.hid hr
  have HC := Lib.hid hn
  have HN := Lib.hid hnn
  obtain ⟨s, hs⟩ : ∃ s, s = c.sum := ⟨_, rfl⟩
  rw [← hs] at hb hs0 C1
  have HS := Lib.hid hs
  clear hr hn hnn hs
  go_enter Tryz.func115, Tryz.ntmps115
  go_wp2
  refine wp_region_grow [⟨9, [], .is (.slice A n m)⟩,
    ⟨10, [0], .is (.int .i64 (n : Int))⟩,
    ⟨11, [1], .such (NewRow w.heap.size n) (NewRow.grow w.heap.size n)⟩,
    ⟨12, [], .is (.slice A n m)⟩,
    ⟨13, [3], .is (.int .i64 s)⟩,
    ⟨5, [2], .such (NewRow w.heap.size n) (NewRow.grow w.heap.size n)⟩,
    ⟨6, [4], .is (.int .i64 s)⟩]
    [(0, .slice A n m)] (by kernel_rfl) (by kernel_rfl) (by kernel_rfl) (by kernel_rfl) (by kernel_rfl) ⟨rfl, trivial⟩ ?_ ?_
  · repeat' (first | exact OblGAll.nil | refine OblGAll.cons ?_ ?_)
    all_goals (intro ev yi w1 hB hc hf ho hn; simp only [OutsSay, NeedSay, rowAt, Fact.says, and_true] at ho hn)
    all_goals (try ((simp [OpSays, execOp, Region.wanted, Fact.says, go_sem, ho, hn, Below.refl]; done)))
    · rw [if_pos (by simp [Region.wanted])]
      exact says_mk rfl 3 i0 (.int .i64 0) Tryz.underlying53 hi hz0 rfl hz1 (by rw [hz2]; decide) n hn.1 hn.1 (by omega) ⟨⟨w1.heap.size, rfl, hB.size, by
        have h := heap_alloc_new w1 (.cells (List.replicate n (Value.int .i64 0)).toArray 3)
        unfold Blk
        rw [h]
        simp [zvs]⟩, (Below.refl _ _).alloc (Nat.le_refl _) _⟩
    · rw [if_pos (by simp [Region.wanted])]
      exact says_call Tryz.call116 rfl hf (by simp only [List.map_toArray, List.map_cons, List.map_nil, hn]) ((C1.out w1 hB).mono fun _ _ h => ⟨_, h.1, rfl, h.2 ▸ Below.refl _ _⟩)
  · intro x w1 hb1 hx
    obtain ⟨g, h5, hg, hblk⟩ : NewRow w.heap.size n (x 5) w1 := hx 5 (by decide)
    have h6 : x 6 = .int .i64 s := hx 6 (by decide)
    clear hx
    simp only [layAll, List.setIfInBounds_toArray, List.set_cons_succ, List.set_cons_zero, h5, h6]
    have HB1 := Lib.hid hb1
    have HBL := Lib.hid hblk
    have HG := Lib.hid hg
    clear hb1 hblk hg h5 h6 C1
    go_wp2
    go_loopw [16] (fun i wr => ∃ k : Nat, k ≤ n ∧ i = .int .i64 (k : Int) ∧ Blk wr g 3 (zvs (partRow c t k)) ∧ Below w.heap.size w wr) (fun i _ => n - (intOf i).toNat)
    case atStart => exact ⟨0, Nat.zero_le _, rfl, by rw [partRow_zero, HC.out]; exact HBL.out, HB1.out⟩
    case round =>
      clear HBL HB1
      obtain ⟨k, hk, rfl, hblk, hb⟩ := hrel
      have HB := Lib.hid hb
      clear hb
      by_cases hlt : k < n
      · have hkc : k < c.length := by have := HC.out; omega
        obtain ⟨b, off, rfl, hbl, hcell0⟩ := cell_of_rd HR.out hkc
        have hcell := (HB.out.cell (p := ⟨b, off + k, none⟩) hbl).trans hcell0
        have hx0 := HN.out _ (List.getElem_mem hkc)
        have hset := partRow_set c t hkc
        have hskip := partRow_skip c t hkc
        have hgl := partRow_len c t (k := k) (by omega)
        obtain ⟨x, hx⟩ : ∃ x, x = c[k]'hkc := ⟨_, rfl⟩
        rw [← hx] at hcell hx0 hset hskip
        obtain ⟨R, hR⟩ : ∃ R, R = partRow c t k := ⟨_, rfl⟩
        rw [← hR] at hset hskip hgl hblk
        have hgc := hblk.cell k
        have hgf := hblk.frozen k
        rw [zvs_get, List.getElem?_eq_getElem (by omega)] at hgc
        obtain ⟨y, hy⟩ : ∃ y, y = R[k]'(by omega) := ⟨_, rfl⟩
        rw [← hy] at hgc
        simp only [Option.map_some] at hgc
        have hki : (k : Int) < (n : Int) := by omega
        have HSET := Lib.hid hset
        have HSKIP := Lib.hid hskip
        have HBL := Lib.hid hblk
        clear hcell0 hset hskip hx hR hblk hy hgl
        obtain ⟨hx0, hx1⟩ := hx0
        by_cases h0 : 0 < x
        · have HV := Lib.hid (nShare_val ht0 ht h0 hx1 hs0)
          clear hx1 hx0
          go_wp2
          rw [HV.out]
          have HBL2 := Lib.hid (HBL.out.set_ k (.int .i64 (nShare t s x)))
          have HB2 := Lib.hid (HB.out.setCell (p := ⟨g, k, none⟩) HG.out (.int .i64 (nShare t s x)))
          go_roundw
          case rel =>
            refine ⟨k + 1, by omega, by go_num, ?_, HB2.out⟩
            have h := HBL2.out
            rw [zvs_set, HS.out, HSET.out] at h
            rw [HS.out]
            exact h
          case measure => simp [intOf]; omega
        · have hz : x = 0 := by omega
          have HK := Lib.hid (HSKIP.out hz)
          clear hgc hgf
          go_wp2
          go_roundw
          case rel => exact ⟨k + 1, by omega, by go_num, by rw [← HK.out]; exact HBL.out, HB.out⟩
          case measure => simp [intOf]; omega
      · obtain rfl : k = n := by omega
        have he : partRow c t k = c.map (nShare t c.sum) := by rw [← HC.out]; exact partRow_all c t
        rw [he] at hblk
        have HBL := Lib.hid hblk
        clear hblk he
        go_wp2
        go_ret
        exact ⟨g, rfl, HG.out, HBL.out, HB.out⟩
end
end Go.Proofs.YtflcmmeoppdhdaaGreat
namespace Go.Proofs.YtflcmmeoppdhdaaGreat
open Go.RowKit Go.Sort Go.Shelf

section
variable {w : World} {B : Nat} {A : Option Addr} {n m : Nat} {c : List Int}
set_option maxRecDepth 100000 in
/-- The closures: a place of a row whose slice lies in a box. -/
theorem normOf1_any {b : Nat} (hb : w.cell? ⟨b, 0, none⟩ = some (.slice A n m)) (hr : Rd w B A (zvs c)) (hn : c.length = n) (j : Nat) (hj : j < n) :
    Calls Tryz.prog 118 #[.int .i64 (j : Int), .pointer (some ⟨b, 0, none⟩)] w fun e w' => e = .returned (.int .i64 (c.getD j 0)) ∧ w' = w := by
  obtain ⟨g, off, rfl, -, hcell⟩ := cell_of_rd hr (show j < c.length by omega)
  have e : c.getD j 0 = c[j]'(by omega) := by simp [List.getD_eq_getElem?_getD, show j < c.length by omega]
  rw [e]
  have hji : (j : Int) < (n : Int) := by omega
  clear hr e
  go_enter Tryz.func118, Tryz.ntmps118
  go_wp2
  go_ret
  exact ⟨rfl, rfl⟩
set_option maxRecDepth 100000 in
theorem normOf2_any {b : Nat} (hb : w.cell? ⟨b, 0, none⟩ = some (.slice A n m)) (hr : Rd w B A (zvs c)) (hn : c.length = n) (j : Nat) (hj : j < n) :
    Calls Tryz.prog 119 #[.int .i64 (j : Int), .pointer (some ⟨b, 0, none⟩)] w fun e w' => e = .returned (.int .i64 (c.getD j 0)) ∧ w' = w := by
  obtain ⟨g, off, rfl, -, hcell⟩ := cell_of_rd hr (show j < c.length by omega)
  have e : c.getD j 0 = c[j]'(by omega) := by simp [List.getD_eq_getElem?_getD, show j < c.length by omega]
  rw [e]
  have hji : (j : Int) < (n : Int) := by omega
  clear hr e
  go_enter Tryz.func119, Tryz.ntmps119
  go_wp2
  go_ret
  exact ⟨rfl, rfl⟩
end
end Go.Proofs.YtflcmmeoppdhdaaGreat
