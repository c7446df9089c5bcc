/- Layer 19: the program lays a word. -/
import Derived.Test.YtfdgnhfppginiaaRiceFn
import Derived.Test.YtfdgnhfppginiaaRiceRefB
import Derived.Test.YtfdgnhfppginiaaBitO
namespace Go.Proofs.Ytfdgnhfppginiaa
open Go.RowKit Go.Sort

/-- What a word is worth by a parameter, as the walk says it. -/
theorem shr_val (v k : Nat) : (v : Int) / 2 ^ k = ((v / 2 ^ k : Nat) : Int) := by
  rw [Int.natCast_ediv]; simp
set_option maxHeartbeats 1000000 in
set_option maxRecDepth 100000 in
theorem riceLay_any {W A N K v g B : Nat} {l : List Bool} (hW : IsW W) (hc : CountsOk (8 * W) A N) (hK : IsK A N K) (hv : v < 2 ^ (8 * W)) (w : World) (hw : WrO w B g l) (hl : l.length ≤ 800000) :
    Calls Try.prog 37 #[cntV A N, .pointer (some ⟨g, 0, none⟩), .int .u64 (v : Int), .int .i64 (W : Int)] w fun e w' => e = .returned (cntV (behindA A N v) (behindN N)) ∧ WrO w' B g (l ++ riceW (8 * W) K v) ∧ OnlyO B g w w' := by
  obtain ⟨hgs, hBs⟩ := hw.lt
  have hv64 : v < 18446744073709551616 := Nat.lt_of_lt_of_le hv (Nat.pow_le_pow_right (n := 2) (by decide) (D_le hW).2)
  have hK33 := isK_few hc hK
  have C1 := Lib.hid (fun W' => ricePar_any hc hK W')
  have C4 := Lib.hid (fun W' => riceBeh_any (A := A) (N := N) (v := v) (by obtain ⟨g1, g2, g3, g4⟩ := hc; omega) hc.2.1 hv64 W')
  obtain ⟨A2, hA2⟩ : ∃ A2, A2 = behindA A N v := ⟨_, rfl⟩
  obtain ⟨N2, hN2⟩ : ∃ N2, N2 = behindN N := ⟨_, rfl⟩
  rw [← hA2, ← hN2] at C4 ⊢
  unfold cntV at C1 C4 ⊢
  have hb0 := ((Below.refl w.heap.size w).alloc (Nat.le_refl _) (.cells #[.int .u64 (A : Int), .int .u64 (N : Int)] 68)).alloc (by simp) (.cells #[.int .u64 0, .int .u64 0] 68)
  have hk0 : Blk ((w.alloc (.cells #[.int .u64 (A : Int), .int .u64 (N : Int)] 68)).alloc (.cells #[.int .u64 0, .int .u64 0] 68)) w.heap.size 68 [.int .u64 (A : Int), .int .u64 (N : Int)] := (show Blk _ w.heap.size 68 [.int .u64 (A : Int), .int .u64 (N : Int)] from heap_alloc_new w _).alloc_ _
  have hk1 : Blk ((w.alloc (.cells #[.int .u64 (A : Int), .int .u64 (N : Int)] 68)).alloc (.cells #[.int .u64 0, .int .u64 0] 68)) (w.heap.size + 1) 68 [.int .u64 0, .int .u64 0] := by
    have := heap_alloc_new (w.alloc (.cells #[.int .u64 (A : Int), .int .u64 (N : Int)] 68)) (.cells #[.int .u64 0, .int .u64 0] 68)
    rwa [World.size_alloc] at this
  have HW0 := Lib.hid (hw.kept hb0)
  have HB0 := Lib.hid (OnlyO.of_below (B := B) (g := g) hb0)
  have HK0 := Lib.hid hk0
  have HK1 := Lib.hid hk1
  have HL := Lib.hid hl
  have HWW := Lib.hid hW
  have hW8 : (W : Int) ≤ 8 := by have := hW.pos; omega
  have hW1 : (1 : Int) ≤ (W : Int) := by have := hW.pos; omega
  obtain ⟨q, hq⟩ : ∃ q, q = v / 2 ^ K := ⟨_, rfl⟩
  have hqi : (v : Int) / 2 ^ K = (q : Int) := by rw [hq]; exact shr_val v K
  have hri : riceW (8 * W) K v = if q < 24 then onesOf q 24 ++ bitsOf v K else onesOf 24 24 ++ bitsOf v (8 * W) := by rw [hq]; rfl
  obtain ⟨R, hR⟩ : ∃ R, R = riceW (8 * W) K v := ⟨_, rfl⟩
  rw [← hR] at hri ⊢
  have HRI := Lib.hid hri
  clear hri hR hq hA2 hN2 hb0 hk0 hk1 hw hc hK hv hl hW
  go_enter Try.func37, Try.ntmps37
  go_wp2_with fail
  obtain ⟨w0, hw0⟩ : ∃ w0, w0 = (w.alloc (.cells #[.int .u64 (A : Int), .int .u64 (N : Int)] 68)).alloc (.cells #[.int .u64 0, .int .u64 0] 68) := ⟨_, rfl⟩
  rw [← hw0] at HW0 HB0 HK0 HK1 ⊢
  clear hw0
  refine (C1.out _).mono ?_
  rintro _ w1 ⟨rfl, hb1⟩
  have HW1 := Lib.hid (HW0.out.kept hb1)
  have HB1 := Lib.hid (HB0.out.trans (OnlyO.of_below hb1))
  have HK10 := Lib.hid (HK0.out.grow hb1)
  have HK11 := Lib.hid (HK1.out.grow hb1)
  clear hb1 HW0 HB0 HK0 HK1 C1
  by_cases h24 : q < 24
  · have hqlt : (q : Int) < 24 := by omega
    have hri := HRI.out
    rw [if_pos h24] at hri
    have hqw : IntKind.i64.wrap (q : Int) = (q : Int) := by rw [IntKind.wrap_i64]; omega
    have hol := (onesOf_len q 24).1
    go_wp2_with fail
    refine (oOnes_any g B l q 24 w1 HW1.out (by have := HL.out; omega) (by omega) (by omega)).mono ?_
    rintro _ w2 ⟨rfl, hw2, ho2⟩
    have HW2 := Lib.hid hw2
    have HB2 := Lib.hid (HB1.out.trans ho2)
    have HK20 := Lib.hid (ho2.blkT HK10.out (by decide) (by omega))
    have HK21 := Lib.hid (ho2.blkT HK11.out (by decide) (by omega))
    clear hw2 ho2 HW1 HB1 HK10 HK11
    go_wp2_with fail
    refine (oPut_any g B _ v K w2 HW2.out (by rw [List.length_append]; have := HL.out; omega) hv64 (by omega)).mono ?_
    rintro _ w3 ⟨rfl, hw3, ho3⟩
    rw [List.append_assoc, ← hri] at hw3
    have HW3 := Lib.hid hw3
    have HB3 := Lib.hid (HB2.out.trans ho3)
    have HK30 := Lib.hid (ho3.blkT HK20.out (by decide) (by omega))
    have HK31 := Lib.hid (ho3.blkT HK21.out (by decide) (by omega))
    have hc0 := HK30.out.cell 0
    have hc1 := HK30.out.cell 1
    simp only [List.getElem?_cons_zero, List.getElem?_cons_succ] at hc0 hc1
    clear hw3 ho3 HW2 HB2 HK20 HK21 hri hol
    go_wp2_with fail
    refine (C4.out w3).mono ?_
    rintro _ w4 ⟨rfl, hb4⟩
    have HW4 := Lib.hid (HW3.out.kept hb4)
    have HB4 := Lib.hid (HB3.out.trans (OnlyO.of_below hb4))
    have HK41 := Lib.hid (HK31.out.grow hb4)
    have hc0 := HK41.out.cell 0
    have hc1 := HK41.out.cell 1
    have hf0 := HK41.out.frozen 0
    have hf1 := HK41.out.frozen 1
    simp only [List.getElem?_cons_zero, List.getElem?_cons_succ] at hc0 hc1
    clear hb4 HW3 HB3 HK30 HK31 C4
    go_wp2
    (try simp only [Exit.inBlock, Exit.then])
    exact bodyPost_ret (v := .agg #[.int .u64 (A2 : Int), .int .u64 (N2 : Int)]) (pcnt_end (p := w.heap.size + 1) Try.results37 rfl ((HK41.out.set_ 0 _).set_ 1 _)) rfl
      ⟨rfl, ((HW4.out.set_ HK41.out (by omega) (by decide) _).set_ (HK41.out.set_ 0 _) (by omega) (by decide) _), (HB4.out.set_new (p := ⟨w.heap.size + 1, 0, none⟩) (by simp) _).set_new (p := ⟨w.heap.size + 1, 1, none⟩) (by simp) _⟩
  · have hqlt : ¬ (q : Int) < 24 := by omega
    have hri := HRI.out
    rw [if_neg h24] at hri
    have H8W := Lib.hid (show (8 : Int) * (W : Int) = ((8 * W : Nat) : Int) by omega)
    have hol := (onesOf_len 24 24).1
    go_wp2_with fail
    refine (oOnes_any g B l 24 24 w1 HW1.out (by have := HL.out; omega) (by omega) (by omega)).mono ?_
    rintro _ w2 ⟨rfl, hw2, ho2⟩
    have HW2 := Lib.hid hw2
    have HB2 := Lib.hid (HB1.out.trans ho2)
    have HK20 := Lib.hid (ho2.blkT HK10.out (by decide) (by omega))
    have HK21 := Lib.hid (ho2.blkT HK11.out (by decide) (by omega))
    clear hw2 ho2 HW1 HB1 HK10 HK11
    go_wp2_with fail
    have hp := oPut_any g B _ v (8 * W) w2 HW2.out (by rw [List.length_append]; have := HL.out; omega) hv64 (by omega)
    rw [← H8W.out] at hp
    refine hp.mono ?_
    clear hp
    rintro _ w3 ⟨rfl, hw3, ho3⟩
    rw [List.append_assoc, ← hri] at hw3
    have HW3 := Lib.hid hw3
    have HB3 := Lib.hid (HB2.out.trans ho3)
    have HK30 := Lib.hid (ho3.blkT HK20.out (by decide) (by omega))
    have HK31 := Lib.hid (ho3.blkT HK21.out (by decide) (by omega))
    have hc0 := HK30.out.cell 0
    have hc1 := HK30.out.cell 1
    simp only [List.getElem?_cons_zero, List.getElem?_cons_succ] at hc0 hc1
    clear hw3 ho3 HW2 HB2 HK20 HK21 hri hol
    go_wp2_with fail
    refine (C4.out w3).mono ?_
    rintro _ w4 ⟨rfl, hb4⟩
    have HW4 := Lib.hid (HW3.out.kept hb4)
    have HB4 := Lib.hid (HB3.out.trans (OnlyO.of_below hb4))
    have HK41 := Lib.hid (HK31.out.grow hb4)
    have hc0 := HK41.out.cell 0
    have hc1 := HK41.out.cell 1
    have hf0 := HK41.out.frozen 0
    have hf1 := HK41.out.frozen 1
    simp only [List.getElem?_cons_zero, List.getElem?_cons_succ] at hc0 hc1
    clear hb4 HW3 HB3 HK30 HK31 C4
    go_wp2
    (try simp only [Exit.inBlock, Exit.then])
    exact bodyPost_ret (v := .agg #[.int .u64 (A2 : Int), .int .u64 (N2 : Int)]) (pcnt_end (p := w.heap.size + 1) Try.results37 rfl ((HK41.out.set_ 0 _).set_ 1 _)) rfl
      ⟨rfl, ((HW4.out.set_ HK41.out (by omega) (by decide) _).set_ (HK41.out.set_ 0 _) (by omega) (by decide) _), (HB4.out.set_new (p := ⟨w.heap.size + 1, 0, none⟩) (by simp) _).set_new (p := ⟨w.heap.size + 1, 1, none⟩) (by simp) _⟩
end Go.Proofs.Ytfdgnhfppginiaa
