/- Layer 29: the program: sum, begins, options. -/
import Derived.Test.YtnfkekaeppgaoaaOptRd
import Derived.Test.YtnfkekaeppgaoaaHeadRef
import Derived.Test.YtnfkekaeppgaoaaLebGet
import Derived.Test.YtnfkekaeppgaoaaWordLay
import Derived.Test.YtnfkekaeppgaoaaCrcTab
namespace Go.Proofs.Ytnfkekaeppgaoaa
open Go.RowKit Go.Sort

theorem ofNat_mod256 (n : Nat) : UInt8.ofNat (n % 256) = UInt8.ofNat n := by
  refine UInt8.toNat.inj ?_
  rw [UInt8.toNat_ofNat', UInt8.toNat_ofNat']
  omega
theorem lay4 (n : Nat) : layW 4 [n] ++ [] = fourL n := by
  rw [List.append_nil]
  show leB 4 n ++ [] = _
  rw [List.append_nil]
  simp only [leB, fourL, ofNat_mod256, Nat.div_div_eq_div_mul]
set_option maxRecDepth 100000 in
set_option maxHeartbeats 1000000 in
theorem hdSum_any (A : Option Addr) (n c : Nat) (l : List UInt8) (W : World) (hr : Rd W W.heap.size A (bvs l)) (hn : l.length = n) (hn1 : n ≤ 100000) :
    Calls Try.prog 24 #[.slice A n c] W (NewBs W (fourL (crcOf l).toNat)) := by
  have CM := Lib.hid crcMake_any
  obtain ⟨x, hx⟩ : ∃ x, x = (crcOf l).toNat := ⟨_, rfl⟩
  have HX := Lib.hid hx
  have hx32 : x < 4294967296 := by rw [hx]; exact (crcOf l).isLt
  have HR := Lib.hid hr
  have CO := Lib.hid (fun g w (ht : IsTab w g) (hr : Rd w w.heap.size A (bvs l)) => crcOf_any g A n c l w ht hr hn (by omega))
  rw [← hx] at CO ⊢
  clear hr hx
  go_enter Try.func24, Try.ntmps24
  go_wp2_with fail
  refine (CM.out _).mono ?_
  rintro e w1 ⟨g, rfl, hg, ht, hb1⟩
  have HB1 := Lib.hid hb1
  have HR1 := Lib.hid ((HR.out.below hb1).more hb1.size)
  have HT := Lib.hid ht
  clear hb1 ht
  go_wp2_with fail
  refine (CO.out g w1 HT.out HR1.out).mono ?_
  rintro e w2 ⟨rfl, hw⟩
  subst hw
  have hxi : (x : Int) < 4294967296 := by omega
  go_wp2_with fail
  have hrw : Rd (w1.alloc (.cells #[.int .u64 (x : Int)] 49)) (w1.alloc (.cells #[.int .u64 (x : Int)] 49)).heap.size (some ⟨w1.heap.size, 0, none⟩) (wvs [x]) := Rd.new w1 _ _
  have hb2 := HB1.out.alloc HB1.out.size (.cells #[.int .u64 (x : Int)] 49)
  have CL := wordLay_any 4 (.inr (.inr (.inl rfl))) (some ⟨w1.heap.size, 0, none⟩) 1 1 [x] none 0 0 [] _ hrw rfl (fun y hy => by obtain rfl := List.mem_singleton.1 hy; omega) (Rd.nil_ _ _ _) rfl (by decide) (by decide)
  rw [lay4] at CL
  refine CL.mono ?_
  rintro e w3 ⟨v3, rfl, hB, hb3⟩
  have HB := Lib.hid hB
  have HB3 := Lib.hid (hb2.trans (hb3.mono hb2.size))
  clear hb2 hb3 hrw CL hB
  go_wp2
  go_ret
  exact ⟨_, rfl, HB.out, HB3.out⟩
def lettersL : List UInt8 := [87, 80, 82, 49]
/-- Do bytes begin with the letters, as far as there are any? -/
def begB (l : List UInt8) : Bool := l.take 4 == lettersL.take (min l.length 4)
set_option maxRecDepth 100000 in
set_option maxHeartbeats 1000000 in
theorem hdBegins_any (A : Option Addr) (n c : Nat) (l : List UInt8) (W : World) (hr : Rd W W.heap.size A (bvs l)) (hn : l.length = n) (hnc : n ≤ c) (hn1 : n ≤ 100000) :
    Calls Try.prog 30 #[.slice A n c] W fun e w' => e = .returned (.bool (begB l)) ∧ Below W.heap.size W w' := by
  obtain ⟨m, hm⟩ : ∃ m, m = min n 4 := ⟨_, rfl⟩
  have hb : begB l = (l.take m == lettersL.take m) := by
    unfold begB
    rw [hn, hm]
    by_cases h4 : 4 ≤ n
    · rw [Nat.min_eq_right h4]
    · rw [Nat.min_eq_left (by omega), List.take_of_length_le (l := l) (i := 4) (by omega), List.take_of_length_le (l := l) (i := n) (by omega)]
  have hcv : ∀ w : World, w.heap = W.heap → (convert 29 9 (.slice A m c)).run Try.prog w = .ok (.string (strA (l.take m))) w := fun w hw =>
    strOf_run (l := l.take m) ⟨A, c, by rw [List.length_take]; congr 1; omega, by rw [List.length_take]; omega, by
      have h := hr.take m
      unfold bvs at h ⊢
      rw [List.map_take]
      exact fun k u hu => by
        obtain ⟨b, off, e1, e2, e3⟩ := h k u hu
        exact ⟨b, off, e1, by rw [hw]; exact e2, by rw [← e3]; simp [World.cell?, hw]⟩⟩
  have hcv1 := hcv W.drew rfl
  have hcv0 := hcv W rfl
  have hex : ({ data := #[87, 80, 82, 49] } : ByteArray).extract 0 m = strA (lettersL.take m) := by
    have := strA_extract lettersL 0 m
    rw [List.drop_zero, Nat.sub_zero] at this
    exact this
  have heq : ((strA (l.take m)).toList == (({ data := #[87, 80, 82, 49] } : ByteArray).extract 0 m).toList) = begB l := by
    rw [hex, strA_list, strA_list, hb]
  obtain ⟨S, hS⟩ : ∃ S, S = strA (l.take m) := ⟨_, rfl⟩
  obtain ⟨T, hT⟩ : ∃ T, T = begB l := ⟨_, rfl⟩
  rw [← hS] at hcv0 hcv1 heq
  rw [← hT] at heq ⊢
  have hmi : min (n : Int) 4 = (m : Int) := by omega
  have hmc : (m : Int) ≤ (c : Int) := by omega
  have hm4 : (m : Int) ≤ 4 := by omega
  clear hm hb hcv hex hS hT
  go_enter Try.func30, Try.ntmps30
  go_wp2_with fail
  go_region
  all_goals
    go_wp2
    go_ret
    exact ⟨rfl, (Below.refl _ _).drew⟩
/-- What bytes with all of a head's numbers say. -/
def optsH (l : List UInt8) (block : Nat) : Value := optV ((min block 16777217 : Nat) : Int) ((l.getD 4 0).toNat : Int) ((l.getD 5 0).toNat : Int) ((l.getD 6 0).toNat : Int)
set_option maxRecDepth 100000 in
set_option maxHeartbeats 1000000 in
theorem hdOptions_any (A : Option Addr) (n c : Nat) (l : List UInt8) (block : Nat) (W : World) (hr : Rd W W.heap.size A (bvs l)) (hn : l.length = n) (h7 : 7 ≤ n) (hb : block < 18446744073709551616) :
    Calls Try.prog 32 #[.slice A n c, .int .u64 (block : Int)] W fun e w' => e = .returned (optsH l block) ∧ Below W.heap.size W w' := by
  obtain ⟨b, off, rfl, hbl, hcell⟩ := hr.at_ (by rw [bvs_length]; omega)
  have hg : ∀ k, k < 7 → (bvs l)[k]? = some (.int .u8 ((l.getD k 0).toNat : Int)) := fun k hk => by
    unfold bvs
    rw [List.getElem?_map, List.getD_eq_getElem?_getD, List.getElem?_eq_getElem (by omega)]
    rfl
  have c4 := hcell 4 _ (hg 4 (by decide))
  have c5 := hcell 5 _ (hg 5 (by decide))
  have c6 := hcell 6 _ (hg 6 (by decide))
  have HS := Lib.hid hbl
  unfold optsH optV
  obtain ⟨x4, hx4⟩ : ∃ x4 : Int, x4 = ((l.getD 4 0).toNat : Int) := ⟨_, rfl⟩
  obtain ⟨x5, hx5⟩ : ∃ x5 : Int, x5 = ((l.getD 5 0).toNat : Int) := ⟨_, rfl⟩
  obtain ⟨x6, hx6⟩ : ∃ x6 : Int, x6 = ((l.getD 6 0).toNat : Int) := ⟨_, rfl⟩
  have b4 : 0 ≤ x4 ∧ x4 ≤ 255 := by have := (l.getD 4 0).toNat_lt; omega
  have b5 : 0 ≤ x5 ∧ x5 ≤ 255 := by have := (l.getD 5 0).toNat_lt; omega
  have b6 : 0 ≤ x6 ∧ x6 ≤ 255 := by have := (l.getD 6 0).toNat_lt; omega
  obtain ⟨B, hB⟩ : ∃ B : Int, B = ((min block 16777217 : Nat) : Int) := ⟨_, rfl⟩
  have hmi : min (block : Int) 16777217 = B := by omega
  have hB0 : 0 ≤ B ∧ B ≤ 16777217 := by omega
  rw [← hx4] at c4
  rw [← hx5] at c5
  rw [← hx6] at c6
  rw [← hx4, ← hx5, ← hx6, ← hB]
  obtain ⟨b40, b41⟩ := b4
  obtain ⟨b50, b51⟩ := b5
  obtain ⟨b60, b61⟩ := b6
  obtain ⟨hB1, hB2⟩ := hB0
  have h7i : (7 : Int) ≤ (n : Int) := by omega
  have hne : b ≠ W.heap.size := by omega
  clear hr hg hcell hx4 hx5 hx6 hB hn
  go_enter Try.func32, Try.ntmps32
  go_wp2_with fail
  go_region
  all_goals
    go_wp2
    exact bodyPost_ret (results_cell_row Try.results32 _ _ W.heap.size 24 _ (0, 0) _ rfl (heap_alloc_new W _) Try.underlying24 rfl size_opt) rfl ⟨rfl, ((Below.refl _ _).alloc (Nat.le_refl _) _).drew⟩
end Go.Proofs.Ytnfkekaeppgaoaa
