/- Layer 16: Get, whole. -/
import Derived.Test.YtfdgnhfppginiaaHistTake
import Derived.Test.YtfdgnhfppginiaaHistGet
import Derived.Test.YtfdgnhfppginiaaNormParts
namespace Go.Proofs.Ytfdgnhfppginiaa
open Go.RowKit Go.Sort Go.Shelf

/-- What Get hands back: shares in new memory and how many bytes they took, or none. -/
def HGot (w : World) (r : Option (List Int × Nat)) (e : Ending) (w' : World) : Prop :=
  Below w.heap.size w w' ∧ match r with
  | none => e = .returned (.tuple #[.slice none 0 0, .int .i64 0, .int .i64 16])
  | some (l, k) => l.length = 256 ∧ ∃ S, e = .returned (.tuple #[.slice (some ⟨S, 0, none⟩) (256 : Nat) 256, .int .i64 (k : Int), .int .i64 0]) ∧ Blk w' S 3 (zvs l)
theorem HGot.no {w w' : World} {r : Option (List Int × Nat)} (hb : Below w.heap.size w w') (h : r = none) : HGot w r (.returned (.tuple #[.slice none 0 0, .int .i64 0, .int .i64 16])) w' := by
  subst h; exact ⟨hb, rfl⟩
theorem HGot.yes {w w' : World} {r : Option (List Int × Nat)} {l : List Int} {k S : Nat} (hb : Below w.heap.size w w') (h : r = some (l, k)) (hl : l.length = 256) (hS : Blk w' S 3 (zvs l)) : HGot w r (.returned (.tuple #[.slice (some ⟨S, 0, none⟩) (256 : Nat) 256, .int .i64 (k : Int), .int .i64 0])) w' := by
  subst h; exact ⟨hb, hl, S, rfl, hS⟩
/-- What holds at the head of a round of Get. -/
def GotRel (w : World) (S K : Nat) (A : Option Addr) (n m : Nat) (l : List UInt8) (G : Option (List Int × Nat)) (T : Int) (lv av : Value) (wr : World) : Prop :=
  ∃ (a : Nat) (lf : Int) (s : Nat) (bad : Bool) (Q : List Int), lv = .int .i64 lf ∧ av = .int .i64 (a : Int) ∧ a ≤ 256 ∧ -1 ≤ lf ∧ lf ≤ 65536 ∧ s ≤ n ∧ Q.length = 256 ∧ Blk wr S 3 (zvs Q) ∧ TakerAt wr K A n m s bad ∧ Below w.heap.size w wr ∧ Hid (GetInv G T l a lf s bad Q)
section
variable {w : World} {B K : Nat} {A : Option Addr} {n m : Nat} {l : List UInt8}
/-- Whatever a taker takes. -/
theorem histNext_any {at_ below : Nat} {bad : Bool} (ht : TakerAt w K A n m at_ bad) (hr : Rd w w.heap.size A (bvs l)) (hn : l.length = n) (hnm : n ≤ m) (hn1 : n ≤ 1000000) (hat : at_ ≤ n) (hb : below ≤ 65536) :
    Calls Try.prog 79 #[.pointer (some ⟨K, 0, none⟩), .int .i64 (below : Int)] w fun e w' => ∃ (k s : Nat) (bad' : Bool), e = .returned (.int .i64 (k : Int)) ∧ k ≤ 65536 ∧ s ≤ n ∧ TakerAt w' K A n m s bad' ∧ OnlyT K [110] w w' ∧ NextSays l at_ below bad k s bad' := by
  obtain ⟨⟨k, j, e⟩, hg⟩ : ∃ t, lget (l.drop at_) = t := ⟨_, rfl⟩
  by_cases h : e = 0 ∧ k < below
  · obtain ⟨rfl, hk⟩ := h
    have hjl := (lget_ok hg).2.1
    rw [List.length_drop] at hjl
    exact (histNext_ok ht hr hn hnm hn1 hat hg hk hb).mono fun _ w' ⟨h1, h2, h3⟩ => ⟨k, at_ + j, bad, h1, by omega, by omega, h2, h3, .inl ⟨rfl, hk, j, hg, rfl⟩⟩
  · exact (histNext_bad ht hr hn hnm hn1 hat hg (by omega) hb).mono fun _ w' ⟨h1, h2, h3⟩ => ⟨0, at_, true, h1, by omega, hat, h2, h3, .inr ⟨rfl, rfl, rfl, k, j, e, hg, by omega⟩⟩
set_option maxRecDepth 100000 in
theorem histGet_arg (bits : Int) (hb : bits < 1 ∨ 16 < bits) (v : Value) :
    Calls Try.prog 31 #[v, .int .i64 bits] w fun e w' => e = .returned (.tuple #[.slice none 0 0, .int .i64 0, .int .i64 2]) ∧ w' = w := by
  go_enter Try.func31, Try.ntmps31
  by_cases h : bits < 1
  · clear hb
    go_wp2
    go_ret3
    exact ⟨rfl, rfl⟩
  · have h2 : 16 < bits := by omega
    clear hb
    go_wp2
    go_ret3
    exact ⟨rfl, rfl⟩
set_option maxHeartbeats 2000000 in
set_option maxRecDepth 100000 in
theorem histGet_any (b T : Nat) (hb1 : 1 ≤ b) (hb2 : b ≤ 16) (hT : T = 2 ^ b) (hr : Rd w w.heap.size A (bvs l)) (hn : l.length = n) (hnm : n ≤ m) (hn1 : n ≤ 1000000) :
    Calls Try.prog 31 #[.slice A n m, .int .i64 (b : Int)] w (HGot w (hGot (T : Int) l)) := by
  obtain ⟨i0, hi, hz0, hz1, hz2⟩ := info_parts info_int12
  have hT1 : T ≤ 65536 := by rw [hT]; exact Nat.pow_le_pow_right (n := 2) (by decide) hb2
  have hpow : (2 : Int) ^ b = (T : Int) := by rw [hT]; simp
  obtain ⟨R, hR⟩ : ∃ R, R = hGot (T : Int) l := ⟨_, rfl⟩
  rw [← hR]
  have HRR := Lib.hid hR
  have HR := Lib.hid hr
  have HN := Lib.hid hn
  clear hr hn hT hR
  go_enter Try.func31, Try.ntmps31
  go_wp2
  refine wp_region_grow [⟨17, [], .such (NewRow w.heap.size 256) (NewRow.grow w.heap.size 256)⟩,
    ⟨18, [], .is (.int .i64 (b : Int))⟩,
    ⟨19, [1], .is (.int .i64 (T : Int))⟩,
    ⟨7, [0], .such (NewRow w.heap.size 256) (NewRow.grow w.heap.size 256)⟩,
    ⟨8, [2], .is (.int .i64 (T : Int))⟩]
    [(1, .int .i64 (b : Int))] (by kernel_rfl) (by kernel_rfl) (by kernel_rfl) (by kernel_rfl) (by kernel_rfl) ⟨rfl, trivial⟩ ?_ ?_
  · repeat' (first | exact OblGAll.nil | refine OblGAll.cons ?_ ?_)
    all_goals (intro ev yi w1 hB hc hf ho hn; simp only [OutsSay, NeedSay, rowAt, Fact.says, and_true] at ho hn)
    all_goals (try ((simp [OpSays, execOp, Region.wanted, Fact.says, go_sem, ho, hn, hc, Below.refl]; done)))
    · rw [if_pos (by simp [Region.wanted])]
      exact says_mk rfl 3 i0 (.int .i64 0) Try.underlying37 hi hz0 rfl hz1 (by rw [hz2]; decide) 256 (hc _) (hc _) (by omega) ⟨⟨w1.heap.size, rfl, hB.size, by
        have h := heap_alloc_new w1 (.cells (List.replicate 256 (Value.int .i64 0)).toArray 3)
        unfold Blk
        rw [h]
        simp [zvs]⟩, (Below.refl _ _).alloc (Nat.le_refl _) _⟩
    · rw [if_pos (by simp [Region.wanted])]
      simp [OpSays, execOp, go_sem, hn, hc, Fact.says]
      have hpow2 : ((2 : Int) ^ b) = (T : Int) := hpow
      rw [hpow2]
      refine ⟨by rw [IntKind.wrap_i64]; omega, Below.refl _ _⟩
  · intro x w1 hb1 hx
    obtain ⟨S, h7, hS, hblk⟩ : NewRow w.heap.size 256 (x 3) w1 := hx 3 (by decide)
    have h8 : x 4 = .int .i64 (T : Int) := hx 4 (by decide)
    clear hx
    simp only [layAll, List.setIfInBounds_toArray, List.set_cons_succ, List.set_cons_zero, h7, h8]
    have HB1 := Lib.hid hb1
    have HBL := Lib.hid hblk
    have HS := Lib.hid hS
    clear hb1 hblk hS h7 h8
    have hSl := HBL.out.lt
    have hK0 : TakerAt (w1.alloc (.cells #[.slice A n m, .int .i64 0, .bool false] 110)) w1.heap.size A n m 0 false := heap_alloc_new w1 _
    have hb2 := HB1.out.alloc HB1.out.size (.cells #[.slice A n m, .int .i64 0, .bool false] 110)
    have C1 := Lib.hid (histNext_any (below := 257) hK0 ((HR.out.below hb2).more hb2.size) HN.out hnm hn1 (Nat.zero_le _) (by decide))
    have HBL2 := Lib.hid (HBL.out.alloc_ (.cells #[.slice A n m, .int .i64 0, .bool false] 110))
    have HB2 := Lib.hid hb2
    have HKK := Lib.hid HB1.out.size
    clear hK0 hb2 HBL HB1
    go_wp2_with fail
    refine C1.out.mono ?_
    rintro e w2 ⟨k, s, bad, rfl, -, hsn, hk2, ho2, hns⟩
    have hb2 := HB2.out.trans (((ho2.base (B' := w.heap.size) HKK.out).below HB2.out.size).mono (Nat.le_refl _))
    have hbl2 := HBL2.out.only ho2 (by decide)
    have hinv := inv_start (T := (T : Int)) (by omega) hns
    have HREL := Lib.hid (show GotRel w S w1.heap.size A n m l (hG [] l 0) (T : Int) (.int .i64 (T : Int)) (.int .i64 (k : Int)) w2 from ⟨k, T, s, bad, _, rfl, rfl, hinv.1, by omega, by omega, hsn, by simp, hbl2, hk2, hb2, hinv.2⟩)
    obtain ⟨K, hK⟩ : ∃ K, K = w1.heap.size := ⟨_, rfl⟩
    rw [← hK] at HREL hSl
    simp only [← hK]
    have HK := Lib.hid (show w.heap.size ≤ K by rw [hK]; exact HKK.out)
    have HKS := Lib.hid hSl
    have HSS := Lib.hid HS.out
    clear hinv hbl2 hb2 ho2 hns hk2 hK HBL2 HB2 C1 HKK hSl HS
    go_wp2
    go_loopw [8, 10] (GotRel w S K A n m l (hG [] l 0) (T : Int)) (fun _ a _ => 256 - (intOf a).toNat)
    case atStart => exact HREL.out
    case round =>
      clear HREL
      obtain ⟨a, lf, s, bad, Q, rfl, rfl, ha, hl1, hl2, hs, hQ, hblk, htk, hb, HI⟩ := hrel
      have HB := Lib.hid hb
      have HBL := Lib.hid hblk
      have HTK := Lib.hid htk
      have hQS := hb.size
      have hc1 := htk.cell 1
      have hc2 := htk.cell 2
      simp only [List.getElem?_cons_zero, List.getElem?_cons_succ] at hc1 hc2
      clear hb hblk htk
      cases bad with
      | true =>
        have HE := Lib.hid ((inv_end HI.out (by intro h; cases h)).1 (.inl rfl))
        clear HI
        by_cases hlt : a < 256
        · have hli : (a : Int) < 256 := by omega
          clear hlt
          go_wp2
          go_ret3
          exact HGot.no HB.out (HRR.out.trans HE.out)
        · have hli : ¬ (a : Int) < 256 := by omega
          clear hlt
          go_wp2
          go_ret3
          exact HGot.no HB.out (HRR.out.trans HE.out)
      | false =>
        by_cases hlt : a < 256
        · have hli : (a : Int) < 256 := by omega
          have hlf0 : 0 ≤ lf := by
            rcases HI.out with ⟨h, -⟩ | ⟨-, P, -, -, -, h, -⟩
            · cases h
            · exact h
          obtain ⟨lf, rfl⟩ := Int.eq_ofNat_of_zero_le hlf0
          have C1 := Lib.hid (fun (W : World) (h1 : TakerAt W K A n m s false) (h2 : Rd W W.heap.size A (bvs l)) => histNext_any (below := lf) h1 h2 HN.out hnm hn1 hs (by omega))
          clear hlf0 hlt
          go_wp2_with fail
          refine (C1.out wr HTK.out ((HR.out.below HB.out).more hQS)).mono ?_
          rintro e w3 ⟨k1, s1, bad1, rfl, hk1, hs1, ht1, ho1, hns1⟩
          have hbl1 := HBL.out.only ho1 (by decide)
          have hb1 := HB.out.trans (((ho1.base (B' := w.heap.size) HK.out).below hQS).mono (Nat.le_refl _))
          have hcS := hbl1.cell a
          have hfS := hbl1.frozen a
          rw [zvs_get, List.getElem?_eq_getElem (show a < Q.length by omega)] at hcS
          simp only [Option.map_some] at hcS
          obtain ⟨q0, hq0⟩ : ∃ q0, q0 = Q[a]'(by omega) := ⟨_, rfl⟩
          rw [← hq0] at hcS
          have hset := hbl1.set_ a (.int .i64 (1 + (k1 : Int)))
          rw [zvs_set] at hset
          have HSET := Lib.hid hset
          have hSK : K ≠ S := by have := HKS.out; omega
          have HTK1 := Lib.hid (Blk.setOther ht1 ⟨S, a, none⟩ (.int .i64 (1 + (k1 : Int))) hSK)
          have HB3 := Lib.hid (hb1.setCell (p := ⟨S, a, none⟩) HSS.out (.int .i64 (1 + (k1 : Int))))
          have HNS1 := Lib.hid hns1
          clear hbl1 hb1 ht1 ho1 hq0 hset hns1 C1 hc1 hc2 HBL HTK HB hSK
          have hb3s := HB3.out.size
          have C2 := Lib.hid (histNext_any (below := 256 - a) HTK1.out ((HR.out.below HB3.out).more hb3s) HN.out hnm hn1 hs1 (by omega))
          rw [show ((256 - a : Nat) : Int) = 256 - (a : Int) by omega] at C2
          have HW3 := Lib.hid (rfl : (w3.setCell ⟨S, a, none⟩ (.int .i64 (1 + (k1 : Int)))) = _)
          go_wp2_with fail
          refine C2.out.mono ?_
          rintro e w4 ⟨k2, s2, bad2, rfl, hk2, hs2, ht2, ho2, hns2⟩
          have hbl2 := HSET.out.only ho2 (by decide)
          have hb4 := HB3.out.trans (((ho2.base (B' := w.heap.size) HK.out).below hb3s).mono (Nat.le_refl _))
          obtain ⟨i1, i2, i3⟩ := inv_step HI.out (by omega) (by omega) (by rw [Int.toNat_natCast]; exact HNS1.out) hns2
          have HF := Lib.hid (And.intro hs2 (And.intro hbl2 (And.intro ht2 (And.intro hb4 i3))))
          have hl3 : -1 ≤ (lf : Int) - (1 + (k1 : Int)) := by omega
          have hl4 : (lf : Int) - (1 + (k1 : Int)) ≤ 65536 := by omega
          clear C2 HW3 hcS hfS HSET HTK1 HB3 HNS1 HI ht2 ho2 hns2 hbl2 hb4 i3 hs2 hb3s
          go_wp2
          obtain ⟨f1, f2, f3, f4, f5⟩ := HF.out
          refine ⟨⟨_, _, _, _, _, _, _, _, _, _, _, _, _, _, _, _, _, _, _, _, _, _, _, _, _, _, _, _, _, _, _, ⟨a + (1 + k2), _, s2, bad2, _, rfl, by go_num, i1, hl3, hl4, f1, by rw [List.length_set]; exact hQ, f2, f3, f4, Lib.hid f5⟩, rfl⟩, ?_⟩
          simp [intOf]; omega
        · obtain rfl : a = 256 := by omega
          have hli : ¬ ((256 : Nat) : Int) < 256 := by omega
          have HE := Lib.hid (inv_end HI.out (fun _ => rfl))
          clear hlt HI
          by_cases h0 : lf = 0
          · subst h0
            have HE2 := Lib.hid (HE.out.2 rfl rfl)
            clear HE
            go_wp2
            go_quiet (fail)
            go_wp2
            go_ret3
            exact HGot.yes (below_drewN HB.out nq) (HRR.out.trans HE2.out) hQ (HBL.out.same rfl)
          · have hzf : (lf == 0) = false := beq_eq_false_iff_ne.2 h0
            have HE2 := Lib.hid (HE.out.1 (.inr h0))
            clear HE
            go_wp2
            go_ret3
            exact HGot.no HB.out (HRR.out.trans HE2.out)
end
end Go.Proofs.Ytfdgnhfppginiaa
