/- Layer 17: the reference: May, Narrow. · Layer 17: the reference's decoder. -/
import Derived.Test.YtgbibmgedmbboaaGreatRcState
import Derived.Test.YtgbibmgedmbboaaGreatInts
import Derived.Test.YtgbibmgedmbboaaGreatU8s
import Derived.Deep.QuietTactic
namespace Go.Proofs.YtgbibmgedmbboaaGreat
open Go.RowKit Go.Sort

/-- May a part be? -/
def mayP (low size total : Int) : Bool := decide (0 ≤ low) && decide (1 ≤ size) && decide (total ≤ 65536) && decide (low ≤ 65536) && decide (size ≤ 65536) && decide (low + size ≤ total)
theorem mayP_yes {low size total : Int} (h : mayP low size total = true) : 0 ≤ low ∧ 1 ≤ size ∧ low + size ≤ total ∧ total ≤ 65536 := by
  simp only [mayP, Bool.and_eq_true, decide_eq_true_eq] at h
  omega
theorem mayP_no {low size total : Int} (h : mayP low size total = false) : low < 0 ∨ size < 1 ∨ total < low + size ∨ 65536 < total := by
  simp only [mayP, Bool.and_eq_false_iff, decide_eq_false_iff_not] at h
  omega
section
variable {w : World}
set_option maxHeartbeats 1000000 in
set_option maxRecDepth 100000 in
theorem rcMay_any (low size total : Int) (w : World) :
    Calls Tryz.prog 44 #[.agg #[.int .i64 low, .int .i64 size, .int .i64 total]] w fun e w' => e = .returned (.bool (mayP low size total)) ∧ Below w.heap.size w w' := by
  have hb := (Below.refl w.heap.size w).alloc (Nat.le_refl _) (.cells #[.int .i64 low, .int .i64 size, .int .i64 total] 40)
  by_cases h1 : 0 ≤ low
  · by_cases h2 : 1 ≤ size
    · by_cases h3 : total ≤ 65536
      · by_cases h4 : low ≤ 65536
        · by_cases h5 : size ≤ 65536
          · by_cases h6 : low + size ≤ total
            · have HQ := Lib.hid (show mayP low size total = true by simp [mayP, h1, h2, h3, h4, h5, h6])
              go_enter Tryz.func44, Tryz.ntmps44
              go_wp2
              go_ret
              exact ⟨by rw [HQ.out]; rfl, hb⟩
            · have HQ := Lib.hid (show mayP low size total = false by simp [mayP, h6])
              go_enter Tryz.func44, Tryz.ntmps44
              go_wp2
              go_ret
              exact ⟨by rw [HQ.out]; rfl, hb⟩
          · have HQ := Lib.hid (show mayP low size total = false by simp [mayP, h5])
            go_enter Tryz.func44, Tryz.ntmps44
            go_wp2
            go_ret
            exact ⟨by rw [HQ.out]; rfl, hb⟩
        · have HQ := Lib.hid (show mayP low size total = false by simp [mayP, h4])
          go_enter Tryz.func44, Tryz.ntmps44
          go_wp2
          go_ret
          exact ⟨by rw [HQ.out]; rfl, hb⟩
      · have HQ := Lib.hid (show mayP low size total = false by simp [mayP, h3])
        go_enter Tryz.func44, Tryz.ntmps44
        go_wp2
        go_ret
        exact ⟨by rw [HQ.out]; rfl, hb⟩
    · have HQ := Lib.hid (show mayP low size total = false by simp [mayP, h2])
      go_enter Tryz.func44, Tryz.ntmps44
      go_wp2
      go_ret
      exact ⟨by rw [HQ.out]; rfl, hb⟩
  · have HQ := Lib.hid (show mayP low size total = false by simp [mayP, h1])
    go_enter Tryz.func44, Tryz.ntmps44
    go_wp2
    go_ret
    exact ⟨by rw [HQ.out]; rfl, hb⟩

/-- 256 times as much, in 32 bits, as the walk says it. -/
theorem times_vals {L : Nat} (hL : L ≤ 4294967296) : ∃ M l : Nat, IntKind.u64.wrap (256 * (L : Int)) = (M : Int) ∧ (M : Int).tmod 4294967296 = (l : Int) ∧ (M : Int) % 4294967296 = (l : Int) ∧ l = 256 * L % 4294967296 := by
  refine ⟨256 * L, 256 * L % 4294967296, ?_, ?_, ?_, rfl⟩
  · rw [IntKind.wrap_u64]; omega
  · rw [Int.tmod_eq_emod_of_nonneg (by omega)]; omega
  · omega
/-- What the walk says of the highest bytes. -/
theorem same_vals {L R : Nat} (hL : L < 4294967296) (hR : R ≤ 4294967296) : ∃ x s m y : Nat, IntKind.u64.wrap ((L : Int) / 16777216) = (x : Int) ∧ IntKind.u64.wrap ((L : Int) + (R : Int)) = (s : Int) ∧ (s : Int).tmod 4294967296 = (m : Int) ∧ (s : Int) % 4294967296 = (m : Int) ∧ IntKind.u64.wrap ((m : Int) / 16777216) = (y : Int) ∧ (SameB L R ↔ x = y) ∧ x = L / 16777216 ∧ x < 256 := by
  refine ⟨L / 16777216, L + R, (L + R) % 4294967296, (L + R) % 4294967296 / 16777216, ?_, ?_, ?_, ?_, ?_, Iff.rfl, rfl, by omega⟩
  · rw [IntKind.wrap_u64]; omega
  · rw [IntKind.wrap_u64]; omega
  · rw [Int.tmod_eq_emod_of_nonneg (by omega)]; omega
  · omega
  · rw [IntKind.wrap_u64]; omega
/-- What holds as bytes move. -/
def NarRel (w : World) (g : Nat) (t : TypeId) (rest : List Value) (o : List Nat) (A B : Nat) (v : Value) (wr : World) : Prop :=
  ∃ (L R : Nat) (o1 o2 : List Nat), o1 ++ o2 = o ∧ Moves L R o2 A B ∧ InSpan L R ∧ wr.ownsRow w.heap.size 5 1 v o1.length (bvs (u8s o1)) ∧ Blk wr g t (.int .u64 (L : Int) :: .int .u64 (R : Int) :: rest) ∧ TurnsB g g w wr
set_option maxHeartbeats 2000000 in
set_option maxRecDepth 100000 in
theorem rcNarrow_any {g : Nat} {t : TypeId} {L R low size total A B : Nat} {rest : List Value} {o : List Nat} (hb : Blk w g t (.int .u64 (L : Int) :: .int .u64 (R : Int) :: rest)) (hi : InSpan L R) (hR : 65536 ≤ R) (h1 : 1 ≤ size) (h2 : low + size ≤ total) (h3 : total ≤ 65536)
    (hm : Moves (L + low * (R / total)) (size * (R / total)) o A B) :
    Calls Tryz.prog 45 #[.pointer (some ⟨g, 0, none⟩), .agg #[.int .i64 (low : Int), .int .i64 (size : Int), .int .i64 (total : Int)]] w fun e w' => ∃ v, e = .returned v ∧ w'.ownsRow w.heap.size 5 1 v o.length (bvs (u8s o)) ∧ Blk w' g t (.int .u64 (A : Int) :: .int .u64 (B : Int) :: rest) ∧ TurnsB g g w w' := by
  obtain ⟨i0, hi0, hz0, hz1, hz2⟩ := info_parts info_u8r
  obtain ⟨n1, n2, n3, n4⟩ := narrow_span hi hR h1 h2 h3
  have hgl := hb.lt
  obtain ⟨w1, hw1⟩ : ∃ w1, w1 = w.alloc (.cells #[.int .i64 (low : Int), .int .i64 (size : Int), .int .i64 (total : Int)] 40) := ⟨_, rfl⟩
  obtain ⟨P, hP⟩ : ∃ P, P = w.heap.size := ⟨_, rfl⟩
  have hb1 : Blk w1 g t (.int .u64 (L : Int) :: .int .u64 (R : Int) :: rest) := by rw [hw1]; exact hb.alloc_ _
  have hp1 : Blk w1 P 40 [.int .i64 (low : Int), .int .i64 (size : Int), .int .i64 (total : Int)] := by rw [hw1, hP]; exact heap_alloc_new w _
  have ht1 : TurnsB g g w w1 := by rw [hw1]; exact TurnsB.of_below ((Below.refl _ _).alloc (Nat.le_refl _) _)
  have HW := Lib.hid hw1
  have HPP := Lib.hid hP
  have hc0 := hb1.cell 0
  have hc1 := hb1.cell 1
  have hf0 := hb1.frozen 0
  have hf1 := hb1.frozen 1
  have hp0 := hp1.cell 0
  have hq1 := hp1.cell 1
  have hq2 := hp1.cell 2
  simp only [List.getElem?_cons_zero, List.getElem?_cons_succ] at hc0 hc1 hp0 hq1 hq2
  have HM := Lib.hid hm
  have HB1 := Lib.hid hb1
  have HP1 := Lib.hid hp1
  have HN := Lib.hid n4
  have HI := Lib.hid hi
  have HT := Lib.hid ht1
  have ht0 : ¬ (total : Int) = 0 := by omega
  have ht1 : (total : Int) ≤ 65536 := by omega
  have ht2 : (1 : Int) ≤ (total : Int) := by omega
  have ht3 : ¬ total = 0 := by omega
  have hwt : IntKind.u64.wrap (total : Int) = (total : Int) := by rw [IntKind.wrap_u64]; omega
  have hwl : IntKind.u64.wrap (low : Int) = (low : Int) := by rw [IntKind.wrap_u64]; omega
  have hws : IntKind.u64.wrap (size : Int) = (size : Int) := by rw [IntKind.wrap_u64]; omega
  have hL := HI.out.1
  have hLR := HI.out.2.2.1
  have hrle : R / total ≤ R := Nat.div_le_self _ _
  have hadd : (low + size) * (R / total) = low * (R / total) + size * (R / total) := Nat.add_mul ..
  obtain ⟨r, hr⟩ : ∃ r, r = R / total := ⟨_, rfl⟩
  have hdc : (R : Int) / (total : Int) = (r : Int) := by rw [hr]; exact (Int.natCast_ediv _ _).symm
  have hwd : IntKind.u64.wrap ((R : Int) / (total : Int)) = (r : Int) := by rw [hdc, IntKind.wrap_u64]; omega
  rw [← hr] at HM HN n1 n2 n3 hrle hadd
  obtain ⟨lr, hlr⟩ : ∃ lr, lr = low * r := ⟨_, rfl⟩
  obtain ⟨S, hS⟩ : ∃ S, S = size * r := ⟨_, rfl⟩
  have hml : IntKind.u64.wrap ((low : Int) * (r : Int)) = (lr : Int) := by rw [← Int.natCast_mul, ← hlr, IntKind.wrap_u64]; omega
  have hms : IntKind.u64.wrap ((size : Int) * (r : Int)) = (S : Int) := by rw [← Int.natCast_mul, ← hS, IntKind.wrap_u64]; omega
  rw [← hlr, ← hS] at HM HN
  rw [← hlr] at n3
  have hq : IntKind.u64.wrap ((L : Int) + (lr : Int)) = ((L + lr : Nat) : Int) := by rw [IntKind.wrap_u64]; omega
  have hqt : (((L + lr : Nat) : Int)).tmod 4294967296 = ((L + lr : Nat) : Int) := by rw [Int.tmod_eq_emod_of_nonneg (by omega)]; omega
  have hqm : ((L + lr : Nat) : Int) % 4294967296 = ((L + lr : Nat) : Int) := by omega
  obtain ⟨q, hqq⟩ : ∃ q, q = L + lr := ⟨_, rfl⟩
  rw [← hqq] at HM HN hq hqm hqt
  have HOL := Lib.hid (HM.out.few HN.out)
  clear n1 n2 n3 hr hlr hS hadd hdc hqq hm hb hb1 hp1 n4 hi hw1 hP
  go_enter Tryz.func45, Tryz.ntmps45
  go_wp2
  simp only [← HW.out, ← HPP.out]
  refine wp_region_still_tail 11 (by kernel_rfl) (by kernel_rfl) ?_
  simp only [List.take_succ_cons, List.take_zero, List.drop_succ_cons, List.drop_zero]
  repeat still_step
  refine wpStill_nil ?_
  change wpList _ _ _ _ _ w1.drew
  go_wp2
  have hb2 : Blk ((w1.setCell ⟨g, 1, none⟩ (.int .u64 (r : Int))).drew) g t (.int .u64 (L : Int) :: .int .u64 (r : Int) :: rest) := (HB1.out.set_ 1 (.int .u64 (r : Int))).same rfl
  have hgP : P ≠ g := by have := HPP.out; omega
  have hp2 : Blk ((w1.setCell ⟨g, 1, none⟩ (.int .u64 (r : Int))).drew) P 40 [.int .i64 (low : Int), .int .i64 (size : Int), .int .i64 (total : Int)] := (HP1.out.setOther ⟨g, 1, none⟩ _ hgP).same rfl
  have ht5 : TurnsB g g w ((w1.setCell ⟨g, 1, none⟩ (.int .u64 (r : Int))).drew) := (HT.out.trans (TurnsB.set_ 1 _)).drew
  obtain ⟨w2, hw2⟩ : ∃ w2, w2 = (w1.setCell ⟨g, 1, none⟩ (.int .u64 (r : Int))).drew := ⟨_, rfl⟩
  rw [← hw2] at hb2 hp2 ht5
  simp only [← hw2]
  clear hw2 hc0 hc1 hf0 hf1 hp0 hq1 hq2 HB1 HT HP1 HW
  have HB2 := Lib.hid hb2
  have HP2 := Lib.hid hp2
  have HT2 := Lib.hid ht5
  have hc0 := hb2.cell 0
  have hc1 := hb2.cell 1
  have hf0 := hb2.frozen 0
  have hf1 := hb2.frozen 1
  have hp0 := hp2.cell 0
  have hq1 := hp2.cell 1
  simp only [List.getElem?_cons_zero, List.getElem?_cons_succ] at hc0 hc1 hp0 hq1
  clear hb2 hp2 ht5 hwd hwt ht0 ht1 ht2 ht3
  refine wp_region_still_tail 17 (by kernel_rfl) (by kernel_rfl) ?_
  simp only [List.take_succ_cons, List.take_zero, List.drop_succ_cons, List.drop_zero]
  repeat still_step
  refine wpStill_nil ?_
  change wpList _ _ _ _ _ w2.drew
  go_wp2
  have hb3 : Blk ((w2.setCell ⟨g, 0, none⟩ (.int .u64 (q : Int))).drew) g t (.int .u64 (q : Int) :: .int .u64 (r : Int) :: rest) := (HB2.out.set_ 0 (.int .u64 (q : Int))).same rfl
  have hp3 : Blk ((w2.setCell ⟨g, 0, none⟩ (.int .u64 (q : Int))).drew) P 40 [.int .i64 (low : Int), .int .i64 (size : Int), .int .i64 (total : Int)] := (HP2.out.setOther ⟨g, 0, none⟩ _ hgP).same rfl
  have ht6 : TurnsB g g w ((w2.setCell ⟨g, 0, none⟩ (.int .u64 (q : Int))).drew) := (HT2.out.trans (TurnsB.set_ 0 _)).drew
  obtain ⟨w3, hw3⟩ : ∃ w3, w3 = (w2.setCell ⟨g, 0, none⟩ (.int .u64 (q : Int))).drew := ⟨_, rfl⟩
  rw [← hw3] at hb3 hp3 ht6
  simp only [← hw3]
  clear hw3 hc0 hc1 hf0 hf1 hp0 hq1 HB2 HT2 HP2
  have HB3 := Lib.hid hb3
  have HT3 := Lib.hid ht6
  have hc0 := hb3.cell 0
  have hc1 := hb3.cell 1
  have hf1 := hb3.frozen 1
  have hq1 := hp3.cell 1
  simp only [List.getElem?_cons_zero, List.getElem?_cons_succ] at hc0 hc1 hq1
  clear hb3 hp3 ht6 hwl hml hq hqm hqt hgP
  refine wp_region_still_tail 11 (by kernel_rfl) (by kernel_rfl) ?_
  simp only [List.take_succ_cons, List.take_zero, List.drop_succ_cons, List.drop_zero]
  repeat still_step
  refine wpStill_nil ?_
  change wpList _ _ _ _ _ w3.drew
  go_wp2
  have hb4 : Blk ((w3.setCell ⟨g, 1, none⟩ (.int .u64 (S : Int))).drew) g t (.int .u64 (q : Int) :: .int .u64 (S : Int) :: rest) := (HB3.out.set_ 1 (.int .u64 (S : Int))).same rfl
  have ht7 : TurnsB g g w ((w3.setCell ⟨g, 1, none⟩ (.int .u64 (S : Int))).drew) := (HT3.out.trans (TurnsB.set_ 1 _)).drew
  have HREL := Lib.hid (show NarRel w g t rest o A B (.slice none 0 0) ((w3.setCell ⟨g, 1, none⟩ (.int .u64 (S : Int))).drew) from ⟨q, S, [], o, rfl, HM.out, HN.out, World.ownsRow_nil _ _ _ _, hb4, ht7⟩)
  clear hb4 ht7 hc0 hc1 hf1 hq1 HB3 HT3 hms hws HM HN HI
  go_loopw [5] (NarRel w g t rest o A B) (fun v _ => o.length + 1 - lenR v)
  case atStart => exact HREL.out
  case round =>
    clear HREL
    obtain ⟨L1, R1, o1, o2, ho, hm, hi, hown, hblk, htr⟩ := hrel
    obtain ⟨A1, c1, rfl, -, -, -⟩ := own_form hown
    obtain ⟨x, sm, md, y, e1, e2, e3, e4, e5, e6, e7, e8⟩ := same_vals (L := L1) (R := R1) hi.1 (by have := hi.2.2.1; omega)
    have hc0 := hblk.cell 0
    have hc1 := hblk.cell 1
    have hf0 := hblk.frozen 0
    have hf1 := hblk.frozen 1
    simp only [List.getElem?_cons_zero, List.getElem?_cons_succ] at hc0 hc1
    have HBL := Lib.hid hblk
    have HTR := Lib.hid htr
    have HOWN := Lib.hid hown
    have HMV := Lib.hid hm
    have HSP := Lib.hid hi
    have HO := Lib.hid ho
    have HX := Lib.hid e7
    clear hown hblk htr hm hi ho e7
    by_cases hs : SameB L1 R1
    · have hxy : ((x : Int) == (y : Int)) = true := by rw [e6.1 hs]; simp
      clear e6
      go_wp2
      refine wp_region_still_lit (by kernel_rfl) (by kernel_rfl) ?_
      repeat still_step
      refine wpStill_nil ?_
      change Exit.then _ _ _ _ wr.drew
      clear e1 e2 e3 e4 e5 hxy hf0 hf1 hc0 hc1
      obtain ⟨o3, ho3, HM3⟩ : ∃ o3, o2 = L1 / 16777216 :: o3 ∧ Hid (Moves (256 * L1 % 4294967296) (256 * cutR L1 R1 % 4294967296) o3 A B) := by
        cases HMV.out with
        | stop _ _ hh _ => exact absurd hs hh
        | move _ _ o3 _ _ _ hr => exact ⟨o3, rfl, Lib.hid hr⟩
      have hms := move_span HSP.out (.inl hs)
      rw [show cutR L1 R1 = R1 by unfold cutR; rw [if_pos hs]] at HM3 hms
      have HS2 := Lib.hid hms.2.2.2
      have HO3 := Lib.hid ho3
      have hRb : R1 ≤ 4294967296 := by have := HSP.out.2.2.1; omega
      have hLb : L1 ≤ 4294967296 := by have := HSP.out.1; omega
      obtain ⟨M1, l1, f1, f2, f3, f4⟩ := times_vals hLb
      obtain ⟨M2, l2, g1, g2, g3, g4⟩ := times_vals hRb
      have hx8 : IntKind.u8.wrap (x : Int) = (x : Int) := by rw [IntKind.wrap_u8]; omega
      have hq1 : IntKind.u64.wrap ((L1 : Int) / 16777216) = (x : Int) := by have := HX.out; rw [IntKind.wrap_u64]; omega
      have hb1 := HBL.out.same (w' := wr.drew) rfl
      have hc0 := hb1.cell 0
      have hc1 := hb1.cell 1
      simp only [List.getElem?_cons_zero, List.getElem?_cons_succ] at hc0 hc1
      rw [← f4, ← g4] at HM3 HS2
      have hol : o1.length ≤ 7 := by have := congrArg List.length HO.out; rw [List.length_append] at this; have := HOL.out; omega
      clear hms ho3 f4 g4
      go_wp2_with ((with_reducible show wpList _ _ _ (({ dst := some 92, op := _, type := _, pos := _, after := _, guard := _ } : Oper) :: _) _ _); go_must (refine wpList_app rfl (.tmp 84) (.tmp 91) 22 rfl w.heap.size 5 i0 (.int .u8 0) 1 1 Tryz.underlying22 hi0 hz0 hz1 hz2 rfl (by decide) _ _ _ rfl ((own_drew HOWN.out).alloc _) _ _ 1 1 _ rfl (Rd.new _ _ _) rfl (by intro u hu; simp at hu; subst hu; rfl) (by simp only [maxLen]; omega) (by omega) (by have := HTR.out.size; simp; omega) ?_; intro v1 wa hown1 hg1; have hrow : ∀ r, (Value.slice A1 o1.length c1).ownBlock = some r → w.heap.size ≤ r := own_block HOWN.out; have hba : Blk wa g t (.int .u64 (L1 : Int) :: .int .u64 (R1 : Int) :: rest) := blk_row (((HBL.out.same (w' := wr.drew) rfl)).alloc_ _) hg1 (fun r e => by have := hrow r e; omega); have hta : TurnsB g g w wa := (HTR.out.drew.allocO _).growO hg1 hrow; have ha0 := hba.cell 0; have ha1 := hba.cell 1; have haf0 := hba.frozen 0; have haf1 := hba.frozen 1; simp only [List.getElem?_cons_zero, List.getElem?_cons_succ] at ha0 ha1; clear hg1 hc0 hc1))
      obtain ⟨A2, c2, rfl, -, -, -⟩ := own_form hown1
      rw [← bvs_u8s o1 e8, HX.out] at hown1
      have hlen : (o1 ++ [L1 / 16777216]).length = o1.length + 1 := by simp
      have hsa : TurnsB g g wa ((wa.setCell ⟨g, 0, none⟩ (.int .u64 (l1 : Int))).setCell ⟨g, 1, none⟩ (.int .u64 (l2 : Int))) := (TurnsB.set_ 0 _).trans (TurnsB.set_ 1 _)
      refine ⟨⟨l1, l2, o1 ++ [L1 / 16777216], o3, by rw [← HO.out, HO3.out, List.append_assoc]; rfl, HM3.out, HS2.out, by rw [hlen]; exact own_turns hown1 hsa hgl hgl, (hba.set_ 0 _).set_ 1 _, hta.trans hsa⟩, ?_⟩
      have hlo := congrArg List.length HO.out
      rw [HO3.out, List.length_append, List.length_cons] at hlo
      simp only [lenR]
      omega
    · have hxy : ((x : Int) == (y : Int)) = false := by rw [beq_eq_false_iff_ne]; exact fun h => hs (e6.2 (by omega))
      clear e6
      by_cases hstop : 65536 ≤ R1
      · obtain ⟨rfl, rfl, rfl⟩ : o2 = [] ∧ L1 = A ∧ R1 = B := by
          cases HMV.out with
          | stop => exact ⟨rfl, rfl, rfl⟩
          | move _ _ _ _ _ hh _ => rcases hh with hh | hh
                                   · exact absurd hh hs
                                   · omega
        have hRi : (65536 : Int) ≤ (R1 : Int) := by omega
        have hO2 := HO.out
        rw [List.append_nil] at hO2
        go_wp2
        refine wp_region_still_lit (by kernel_rfl) (by kernel_rfl) ?_
        repeat still_step
        refine wpStill_nil ?_
        change Exit.then _ _ _ _ wr.drew
        have hb1 := HBL.out.same (w' := wr.drew) rfl
        clear hc0 hc1 hf0 hf1
        have hc0 := hb1.cell 0
        have hc1 := hb1.cell 1
        simp only [List.getElem?_cons_zero, List.getElem?_cons_succ] at hc0 hc1
        go_wp2
        go_ret
        exact ⟨_, rfl, by rw [← hO2]; exact own_drew HOWN.out, hb1, HTR.out.drew⟩
      · have hRi : ¬ (65536 : Int) ≤ (R1 : Int) := by omega
        go_wp2
        refine wp_region_still_lit (by kernel_rfl) (by kernel_rfl) ?_
        repeat still_step
        refine wpStill_nil ?_
        change Exit.then _ _ _ _ wr.drew
        clear e1 e2 e3 e4 e5 hxy hf0 hf1 hc0 hc1
        obtain ⟨o3, ho3, HM3⟩ : ∃ o3, o2 = L1 / 16777216 :: o3 ∧ Hid (Moves (256 * L1 % 4294967296) (256 * cutR L1 R1 % 4294967296) o3 A B) := by
          cases HMV.out with
          | stop _ _ _ hh => exact absurd hh hstop
          | move _ _ o3 _ _ _ hr => exact ⟨o3, rfl, Lib.hid hr⟩
        have hms := move_span HSP.out (.inr (by omega))
        obtain ⟨C, hC⟩ : ∃ C, C = cutR L1 R1 := ⟨_, rfl⟩
        have hC2 : C = 65536 - L1 % 65536 := by rw [hC]; unfold cutR; rw [if_neg hs]
        rw [← hC] at HM3 hms
        have HS2 := Lib.hid hms.2.2.2
        have HO3 := Lib.hid ho3
        have hCb : C ≤ 4294967296 := by omega
        have hLb : L1 ≤ 4294967296 := by have := HSP.out.1; omega
        obtain ⟨M1, l1, f1, f2, f3, f4⟩ := times_vals hLb
        obtain ⟨M2, l2, g1, g2, g3, g4⟩ := times_vals hCb
        have hx8 : IntKind.u8.wrap (x : Int) = (x : Int) := by rw [IntKind.wrap_u8]; omega
        have hq1 : IntKind.u64.wrap ((L1 : Int) / 16777216) = (x : Int) := by have := HX.out; rw [IntKind.wrap_u64]; omega
        have hq2 : IntKind.u64.wrap (65536 - (L1 : Int) % 65536) = (C : Int) := by rw [IntKind.wrap_u64]; omega
        have hq3 : IntKind.u64.wrap (65536 - (L1 : Int).tmod 65536) = (C : Int) := by rw [Int.tmod_eq_emod_of_nonneg (by omega)]; exact hq2
        have hc0 := HBL.out.cell 0
        have hc1 := HBL.out.cell 1
        have hf0 := HBL.out.frozen 0
        have hf1 := HBL.out.frozen 1
        simp only [List.getElem?_cons_zero, List.getElem?_cons_succ] at hc0 hc1
        rw [← f4, ← g4] at HM3 HS2
        have hol : o1.length ≤ 7 := by have := congrArg List.length HO.out; rw [List.length_append] at this; have := HOL.out; omega
        have hrn := (Rd.new (wr.setCell ⟨g, 1, none⟩ (.int .u64 (C : Int))) #[.int .u8 (x : Int)] 5).drew
        rw [show (wr.setCell ⟨g, 1, none⟩ (.int .u64 (C : Int))).heap.size = wr.heap.size by simp [World.setCell]] at hrn
        have HRN := Lib.hid hrn
        clear hrn
        have hz : decide ((65536 : Int) ≤ (R1 : Int)) = false := decide_eq_false (by omega)
        clear hms ho3 f4 g4 hC hC2 hstop hRi hR
        go_wp2_with ((with_reducible show wpList _ _ _ (({ dst := some 92, op := _, type := _, pos := _, after := _, guard := _ } : Oper) :: _) _ _); go_must (refine wpList_app rfl (.tmp 84) (.tmp 91) 22 rfl w.heap.size 5 i0 (.int .u8 0) 1 1 Tryz.underlying22 hi0 hz0 hz1 hz2 rfl (by decide) _ _ _ rfl (own_drew ((own_turns HOWN.out (TurnsB.set_ (T := g) (S := g) 1 (.int .u64 (C : Int))) hgl hgl).alloc (.cells #[.int .u8 (x : Int)] 5))) _ _ 1 1 [.int .u8 (x : Int)] rfl HRN.out rfl (by intro u hu; simp at hu; subst hu; rfl) (by simp only [maxLen]; omega) (by omega) ((HTR.out.trans (TurnsB.set_ 1 (.int .u64 (C : Int)))).allocO (.cells #[.int .u8 (x : Int)] 5)).drew.size ?_; intro v1 wa hown1 hg1; have hrow : ∀ r, (Value.slice A1 o1.length c1).ownBlock = some r → w.heap.size ≤ r := own_block HOWN.out; have hba : Blk wa g t (.int .u64 (L1 : Int) :: .int .u64 (C : Int) :: rest) := blk_row (((HBL.out.set_ 1 (.int .u64 (C : Int))).alloc_ (.cells #[.int .u8 (x : Int)] 5)).drew_) hg1 (fun r e => by have := hrow r e; omega); have hta : TurnsB g g w wa := ((HTR.out.trans (TurnsB.set_ 1 (.int .u64 (C : Int)))).allocO (.cells #[.int .u8 (x : Int)] 5)).drew.growO hg1 hrow; have ha0 := hba.cell 0; have ha1 := hba.cell 1; have haf0 := hba.frozen 0; have haf1 := hba.frozen 1; simp only [List.getElem?_cons_zero, List.getElem?_cons_succ] at ha0 ha1; clear hg1 hc0 hc1))
        obtain ⟨A2, c2, rfl, -, -, -⟩ := own_form hown1
        rw [← bvs_u8s o1 e8, HX.out] at hown1
        have hlen : (o1 ++ [L1 / 16777216]).length = o1.length + 1 := by simp
        have hsa : TurnsB g g wa ((wa.setCell ⟨g, 0, none⟩ (.int .u64 (l1 : Int))).setCell ⟨g, 1, none⟩ (.int .u64 (l2 : Int))) := (TurnsB.set_ 0 _).trans (TurnsB.set_ 1 _)
        refine ⟨⟨l1, l2, o1 ++ [L1 / 16777216], o3, by rw [← HO.out, HO3.out, List.append_assoc]; rfl, HM3.out, HS2.out, by rw [hlen]; exact own_turns hown1 hsa hgl hgl, (hba.set_ 0 _).set_ 1 _, hta.trans hsa⟩, ?_⟩
        have hlo := congrArg List.length HO.out
        rw [HO3.out, List.length_append, List.length_cons] at hlo
        simp only [lenR]
        omega
end
end Go.Proofs.YtgbibmgedmbboaaGreat
namespace Go.Proofs.YtgbibmgedmbboaaGreat
open Go.RowKit Go.Sort

section
variable {w : World} {D K : Nat} {L R C E : Nat} {B : List Nat}
theorem size_u8d : (Tryz.prog.info? 5).map (·.size) = some 1 := by kernel_rfl
theorem come_vals {C b : Nat} (hC : C < 4294967296) (hb : b < 256) : ∃ M N c : Nat, IntKind.u64.wrap (256 * (C : Int)) = (M : Int) ∧ IntKind.u64.wrap ((M : Int) + (b : Int)) = (N : Int) ∧ (N : Int).tmod 4294967296 = (c : Int) ∧ (N : Int) % 4294967296 = (c : Int) ∧ IntKind.u64.wrap (b : Int) = (b : Int) ∧ c = (256 * C + b) % 4294967296 := by
  refine ⟨256 * C, 256 * C + b, (256 * C + b) % 4294967296, ?_, ?_, ?_, ?_, ?_, rfl⟩
  · rw [IntKind.wrap_u64]; omega
  · rw [IntKind.wrap_u64]; omega
  · rw [Int.tmod_eq_emod_of_nonneg (by omega)]; omega
  · omega
  · rw [IntKind.wrap_u64]; omega
theorem find_vals {L R C T : Nat} (hL : L < 4294967296) (hR : R ≤ 4294967296) (hC : C < 4294967296) (hT : 1 ≤ T) (hTR : T ≤ R) : ∃ X Y Z r n : Nat, IntKind.u64.wrap ((C : Int) + 4294967296) = (X : Int) ∧ IntKind.u64.wrap ((X : Int) - (L : Int)) = (Y : Int) ∧ (Y : Int).tmod 4294967296 = (Z : Int) ∧ (Y : Int) % 4294967296 = (Z : Int) ∧ IntKind.u64.wrap ((R : Int) / (T : Int)) = (r : Int) ∧ ¬ r = 0 ∧ IntKind.u64.wrap ((Z : Int) / (r : Int)) = (n : Int) ∧ n < 4294967296 ∧ n = (C + 4294967296 - L) % 4294967296 / (R / T) := by
  have hr : 1 ≤ R / T := (Nat.le_div_iff_mul_le (by omega)).2 (by omega)
  have hrle : R / T ≤ R := Nat.div_le_self _ _
  have hdc : (R : Int) / (T : Int) = ((R / T : Nat) : Int) := (Int.natCast_ediv _ _).symm
  obtain ⟨r, hrr⟩ : ∃ r, r = R / T := ⟨_, rfl⟩
  rw [← hrr] at hr hrle hdc ⊢
  obtain ⟨Z, hZ⟩ : ∃ Z, Z = (C + 4294967296 - L) % 4294967296 := ⟨_, rfl⟩
  have hlt : Z < 4294967296 := by rw [hZ]; exact Nat.mod_lt _ (by decide)
  have hdc2 : (Z : Int) / (r : Int) = ((Z / r : Nat) : Int) := (Int.natCast_ediv _ _).symm
  have hle : Z / r ≤ Z := Nat.div_le_self _ _
  rw [← hZ]
  obtain ⟨q, hq⟩ : ∃ q, q = Z / r := ⟨_, rfl⟩
  rw [← hq] at hle hdc2 ⊢
  refine ⟨C + 4294967296, C + 4294967296 - L, Z, r, q, ?_, ?_, ?_, ?_, ?_, by omega, ?_, by omega, rfl⟩
  · rw [IntKind.wrap_u64]; omega
  · rw [IntKind.wrap_u64]; omega
  · rw [Int.tmod_eq_emod_of_nonneg (by omega)]; omega
  · omega
  · rw [hdc, IntKind.wrap_u64]; omega
  · rw [hdc2, IntKind.wrap_u64]; omega
/-- A span within a decoder, narrowed; then as many bytes come as moved. -/
theorem mayP_iff {low size total : Nat} : mayP (low : Int) (size : Int) (total : Int) = true ↔ 1 ≤ size ∧ low + size ≤ total ∧ total ≤ 65536 := by
  simp only [mayP, Bool.and_eq_true, decide_eq_true_eq]
  omega
end
end Go.Proofs.YtgbibmgedmbboaaGreat
