/- Contract of layer 10's reference: Pack. · Contract of layer 10's reference: Unpack. -/
import Derived.Test.YtcenbaajojdjlaaGreatDoorRunsPack
import Derived.Test.YtcenbaajojdjlaaGreatDoorRunsUnp
namespace Go.Proofs.YtcenbaajojdjlaaGreatDoor
open Go.RowKit

/-- What holds at the head of a round. -/
def RPackRel (w : World) (l : List UInt8) (v i : Value) (wr : World) : Prop :=
  ∃ (k : Nat) (out : List UInt8), k ≤ l.length ∧ i = .int .i64 (k : Int) ∧ wr.ownsRow w.heap.size 5 1 v out.length (bvs out) ∧ Hid (out ++ packL (l.drop k) = packL l) ∧ out.length ≤ 2 * k ∧ Below w.heap.size w wr
/-- .. of the loop that counts what is alike -/
def RAlikeRel (r : List UInt8) (x : UInt8) (m : Nat) (w1 : World) (i : Value) (wr : World) : Prop :=
  ∃ j : Nat, j ≤ 130 ∧ j ≤ m ∧ i = .int .i64 (j : Int) ∧ Hid (∀ a, a < j → r[a]? = some x) ∧ Below w1.heap.size w1 wr
/-- .. of the loop that counts up to where three are alike -/
def RApartRel (r : List UInt8) (T m : Nat) (w1 : World) (i : Value) (wr : World) : Prop :=
  ∃ j : Nat, j ≤ 128 ∧ j ≤ m ∧ i = .int .i64 (j : Int) ∧ Hid (j + apartN (128 - j) (r.drop j) = T) ∧ Below w1.heap.size w1 wr

set_option maxHeartbeats 2000000 in
set_option maxRecDepth 100000 in
theorem refPack_any (A : Option Addr) (n c : Nat) (l : List UInt8) (w : World) (hr : Rd w w.heap.size A (bvs l)) (hn : l.length = n) (hnc : n ≤ c) (hn1 : n ≤ 1000000000) :
    Calls Tryz.prog 46 #[.slice A n c] w (NewBs w (packL l)) := by
  obtain ⟨i0, hi, hz0, hz1, hz2⟩ := info_parts info_u8q
  subst hn
  go_enter Tryz.func46, Tryz.ntmps46
  go_wp2_with fail
  go_loopw [3, 4, 5] (fun v i _ wr => RPackRel w l v i wr) (fun _ i _ _ => l.length - (intOf i).toNat)
  case atStart => exact ⟨0, [], Nat.zero_le _, rfl, World.ownsRow_nil _ _ _ _, Lib.hid rfl, Nat.le_refl _, Below.refl _ _⟩
  case round =>
    obtain ⟨k, out, hk, rfl, hown, HO, hol, hb⟩ := hrel
    have hbs := hb.size
    by_cases hlt : k < l.length
    · obtain ⟨r, hR⟩ : ∃ r, r = l.drop k := ⟨_, rfl⟩
      have hrl : r.length = l.length - k := by rw [hR, List.length_drop]
      have hki : (k : Int) < (l.length : Int) := by omega
      have C1 := Lib.hid (fun (w' : World) (h : Below wr.heap.size wr w') (j : Nat) (hj : j ≤ 1000) => begins_any A l.length c l w' (((hr.below hb).more hbs |>.below h).more h.size) rfl (k + j) (by omega) (by omega))
      rw [← hR] at HO
      have hne : r ≠ [] := by intro e; rw [e] at hrl; simp at hrl; omega
      have HD := Lib.hid (fun j : Nat => (show r.drop j = l.drop (k + j) by rw [hR, List.drop_drop]))
      cases h : threeB r with
      | true =>
        have c1 := C1.out wr (Below.refl _ _) 0 (by omega)
        rw [Nat.add_zero, ← hR, h] at c1
        have HC := Lib.hid c1
        obtain ⟨x, hx⟩ : ∃ x, r[0]? = some x := ⟨r[0]'(by omega), by simp⟩
        have hpk := packL_three h hx
        rw [hpk] at HO
        have HO1 := Lib.hid HO.out
        obtain ⟨b, off, rfl, hbB, hcell⟩ := hr.at_ (by rw [bvs_length]; omega)
        have HCL := Lib.hid fun (j : Nat) (y : UInt8) (hy : r[j]? = some y) => (show w.cell? ⟨b, off + (k + j), none⟩ = some (.int .u8 (y.toNat : Int)) from hcell (k + j) _ (by rw [hR, List.getElem?_drop] at hy; simp [bvs, hy]))
        have hres : ∀ j, 1 ≤ j → j ≤ 130 → j ≤ r.length → (∀ a, a < j → r[a]? = some x) → (j = 130 ∨ r[j]? ≠ some x) → alikeN 130 r = j := by
          intro j h1 h2 h3 h4 h5
          match r, hx with
          | y :: t, hx =>
            simp at hx
            subst hx
            exact alikeN_is h1 h2 (by simpa using h3) h4 h5
        have h3 := (three_iff 130 (by omega) r).2 h
        obtain ⟨q, hq⟩ : ∃ q, q = alikeN 130 r := ⟨_, rfl⟩
        rw [← hq] at hres h3 HO1
        have HRES := Lib.hid hres
        have H3 := Lib.hid h3
        have HX := Lib.hid hx
        have HN := Lib.hid (And.intro hrl (And.intro hk (And.intro hol (And.intro hlt hn1))))
        have HOWN := Lib.hid hown
        have HB := Lib.hid (And.intro hb hbs)
        obtain ⟨m, hm⟩ : ∃ m, m = l.length - k := ⟨_, rfl⟩
        have HM := Lib.hid hm
        clear hres hpk hcell hr hown hb hbs hR hx hrl hk hol hlt hn1 hnc C1 c1 h h3 HO hne hm hq
        go_wp2_with fail
        refine HC.out.mono ?_
        rintro e w1 ⟨rfl, hb1⟩
        have HOWN1 := Lib.hid (own_kept HOWN.out hb1)
        have HBW := Lib.hid (HB.out.1.trans (hb1.mono HB.out.2))
        clear hb1 HC HOWN HB
        go_wp2_with fail
        go_loopw [5] (RAlikeRel r x m w1) (fun i _ => 130 - (intOf i).toNat)
        case atStart => exact ⟨0, by omega, Nat.zero_le _, rfl, Lib.hid (fun a ha => absurd ha (by omega)), Below.refl _ _⟩
        case round =>
          obtain ⟨j, hj, hjm, rfl, HJ, hbj⟩ := hrel
          have HB2 := Lib.hid (HBW.out.trans (hbj.mono HBW.out.size))
          have HBJ := Lib.hid hbj
          have HOWN2 := Lib.hid (own_kept HOWN1.out hbj)
          have hcx0 : wr.cell? ⟨b, off + k, none⟩ = some (.int .u8 (x.toNat : Int)) := by have := HCL.out 0 x HX.out; rw [Nat.add_zero] at this; exact (HB2.out.cell (p := ⟨b, off + k, none⟩) hbB).trans this
          have HCX := Lib.hid hcx0
          have hlb : (l.length : Int) ≤ 1000000000 := by have := HN.out; omega
          have hA1 : out.length + 2 ≤ maxLen := by have := HN.out; simp only [maxLen]; omega
          have hA2 : (out.length + 2) * 1 ≤ 140737488355328 := by have := HN.out; omega
          have hk0 : (0 : Int) ≤ (k : Int) := by omega
          clear hbj hcx0
          by_cases g1 : j < 130
          · have g1i : decide ((j : Int) < 130) = true := by rw [decide_eq_true_eq]; omega
            by_cases g2 : j < m
            · have g2i : decide ((k : Int) + (j : Int) < (l.length : Int)) = true := by rw [decide_eq_true_eq]; have := HN.out; have := HM.out; omega
              have g2j : (k : Int) + (j : Int) < (l.length : Int) := by have := HN.out; have := HM.out; omega
              have g2k : (0 : Int) ≤ (k : Int) + (j : Int) := by omega
              obtain ⟨y, hy⟩ : ∃ y, r[j]? = some y := ⟨r[j]'(by have := HN.out; have := HM.out; omega), by simp⟩
              have hcy := (HB2.out.cell (p := ⟨b, off + (k + j), none⟩) hbB).trans (HCL.out j y hy)
              have hcx1 := HCX.out
              have HY := Lib.hid hy
              clear hy
              by_cases hyx : y = x
              · subst hyx
                have hd : ((y.toNat : Int) == (y.toNat : Int)) = true := by rw [beq_iff_eq]
                have HG := Lib.hid (And.intro g1 g2)
                clear g1 g2 hjm hj
                go_wp2_with fail
                go_quiet (fail)
                go_wp2
                go_roundw
                case rel => exact ⟨j + 1, by have := HG.out; omega, by have := HG.out; omega, by go_num, Lib.hid (alike_next HJ.out HY.out), below_drewN HBJ.out nq⟩
                case measure => have := HG.out; simp [intOf]; omega
              · have hyn : ((y.toNat : Int) == (x.toNat : Int)) = false := by rw [beq_eq_false_iff_ne]; exact fun e => hyx (UInt8.toNat_inj.1 (by omega))
                have hqj : q = j := HRES.out j (by rcases Nat.eq_zero_or_pos j with rfl | h; exact absurd (Option.some.inj (HY.out.symm.trans HX.out)) hyx; exact h) (by omega) (by have := HN.out; have := HM.out; omega) HJ.out (.inr (by rw [HY.out]; simpa using hyx))
                have hnn : 3 ≤ j ∧ j ≤ 130 ∧ j ≤ m ∧ m = l.length - k := ⟨by have := H3.out; omega, hj, hjm, HM.out⟩
                rw [hqj] at HO1
                have hj130 : (j : Int) ≤ 130 := by omega
                clear g1 g2 hjm hj hqj hyx
                have HNN := Lib.hid (And.intro hnn HN.out)
                clear hnn
                go_wp2_with fail
                go_quiet (fail)
                have HOWNq := Lib.hid (show (wr.drewN nq).ownsRow w.heap.size 5 1 _ out.length (bvs out) from HOWN2.out)
                have HBq := Lib.hid (And.intro (below_drewN HB2.out nq) (show w.heap.size ≤ (wr.drewN nq).heap.size from HB2.out.size))
                have hcx : (wr.drewN nq).cell? ⟨b, off + k, none⟩ = some (.int .u8 (x.toNat : Int)) := HCX.out
                go_wp2_with ((with_reducible show wpList _ _ _ (({ dst := some 47, op := _, type := _, pos := _, after := _, guard := _ } : Oper) :: _) _ _); go_must (refine wpList_app rfl (.tmp 38) (.tmp 46) 22 rfl w.heap.size 5 i0 (.int .u8 0) 1 1 Tryz.underlying22 hi hz0 hz1 hz2 rfl (by decide) _ _ _ rfl (HOWNq.out.alloc _) _ _ 2 2 _ rfl (Rd.new _ _ _) rfl (by intro u hu; simp at hu; rcases hu with rfl | rfl <;> rfl) hA1 hA2 (by have := HB2.out.size; simp; omega) ?_; intro v1 w2 hown1 hg1; have hb1' : Below w.heap.size w w2 := (HBq.out.1.alloc HBq.out.2 _).grown hg1 (by have := HB2.out.size; simp; omega) (own_block HOWNq.out); clear hg1))
                go_roundw
                case rel =>
                  have hN := HNN.out
                  have hbv : bvs (out ++ [UInt8.ofNat (j + 125), x]) = bvs out ++ [.int .u8 ((j : Int) + 125), .int .u8 (x.toNat : Int)] := by
                    rw [bvs_append]
                    congr 1
                    show [Value.int .u8 ((UInt8.ofNat (j + 125)).toNat : Int), _] = _
                    rw [← u8_of (j + 125) (by omega)]
                    rfl
                  refine ⟨k + j, out ++ [UInt8.ofNat (j + 125), x], by omega, by go_num, ?_, Lib.hid ?_, ?_, hb1'⟩
                  · rw [hbv, List.length_append]; exact hown1
                  · rw [← HD.out, List.append_assoc]; exact HO1.out
                  · rw [List.length_append]; simp only [List.length_cons, List.length_nil]; omega
                case measure => have hN := HNN.out; simp [intOf]; omega
            · have hjm' : j = m := by omega
              have g2i : decide ((k : Int) + (j : Int) < (l.length : Int)) = false := by rw [decide_eq_false_iff_not]; have := HN.out; have := HM.out; omega
              have hqj : q = j := HRES.out j (by have := HN.out; have := HM.out; omega) (by omega) (by have := HN.out; have := HM.out; omega) HJ.out (.inr (by rw [List.getElem?_eq_none (by have := HN.out; have := HM.out; omega)]; simp))
              have hnn : 3 ≤ j ∧ j ≤ 130 ∧ j ≤ m ∧ m = l.length - k := ⟨by have := H3.out; omega, hj, hjm, HM.out⟩
              rw [hqj] at HO1
              have hj130 : (j : Int) ≤ 130 := by omega
              have hkl0 : (k : Int) < (l.length : Int) := hki
              clear g1 g2 hjm hj hqj hjm'
              have HNN := Lib.hid (And.intro hnn HN.out)
              clear hnn
              go_wp2_with fail
              go_quiet (fail)
              have HOWNq := Lib.hid (show (wr.drewN nq).ownsRow w.heap.size 5 1 _ out.length (bvs out) from HOWN2.out)
              have HBq := Lib.hid (And.intro (below_drewN HB2.out nq) (show w.heap.size ≤ (wr.drewN nq).heap.size from HB2.out.size))
              have hcx : (wr.drewN nq).cell? ⟨b, off + k, none⟩ = some (.int .u8 (x.toNat : Int)) := HCX.out
              go_wp2_with ((with_reducible show wpList _ _ _ (({ dst := some 47, op := _, type := _, pos := _, after := _, guard := _ } : Oper) :: _) _ _); go_must (refine wpList_app rfl (.tmp 38) (.tmp 46) 22 rfl w.heap.size 5 i0 (.int .u8 0) 1 1 Tryz.underlying22 hi hz0 hz1 hz2 rfl (by decide) _ _ _ rfl (HOWNq.out.alloc _) _ _ 2 2 _ rfl (Rd.new _ _ _) rfl (by intro u hu; simp at hu; rcases hu with rfl | rfl <;> rfl) hA1 hA2 (by have := HB2.out.size; simp; omega) ?_; intro v1 w2 hown1 hg1; have hb1' : Below w.heap.size w w2 := (HBq.out.1.alloc HBq.out.2 _).grown hg1 (by have := HB2.out.size; simp; omega) (own_block HOWNq.out); clear hg1))
              go_roundw
              case rel =>
                have hN := HNN.out
                have hbv : bvs (out ++ [UInt8.ofNat (j + 125), x]) = bvs out ++ [.int .u8 ((j : Int) + 125), .int .u8 (x.toNat : Int)] := by
                  rw [bvs_append]
                  congr 1
                  show [Value.int .u8 ((UInt8.ofNat (j + 125)).toNat : Int), _] = _
                  rw [← u8_of (j + 125) (by omega)]
                  rfl
                refine ⟨k + j, out ++ [UInt8.ofNat (j + 125), x], by omega, by go_num, ?_, Lib.hid ?_, ?_, hb1'⟩
                · rw [hbv, List.length_append]; exact hown1
                · rw [← HD.out, List.append_assoc]; exact HO1.out
                · rw [List.length_append]; simp only [List.length_cons, List.length_nil]; omega
              case measure => have hN := HNN.out; simp [intOf]; omega
          · have g1i : decide ((j : Int) < 130) = false := by rw [decide_eq_false_iff_not]; omega
            have hqj : q = j := HRES.out j (by omega) (by omega) (by have := HN.out; have := HM.out; omega) HJ.out (.inl (by omega))
            have hnn : 3 ≤ j ∧ j ≤ 130 ∧ j ≤ m ∧ m = l.length - k := ⟨by have := H3.out; omega, hj, hjm, HM.out⟩
            rw [hqj] at HO1
            have hj130 : (j : Int) ≤ 130 := by omega
            clear g1 hjm hj hqj
            have HNN := Lib.hid (And.intro hnn HN.out)
            clear hnn
            go_wp2_with fail
            go_quiet (fail)
            have HOWNq := Lib.hid (show (wr.drewN nq).ownsRow w.heap.size 5 1 _ out.length (bvs out) from HOWN2.out)
            have HBq := Lib.hid (And.intro (below_drewN HB2.out nq) (show w.heap.size ≤ (wr.drewN nq).heap.size from HB2.out.size))
            have hcx : (wr.drewN nq).cell? ⟨b, off + k, none⟩ = some (.int .u8 (x.toNat : Int)) := HCX.out
            go_wp2_with ((with_reducible show wpList _ _ _ (({ dst := some 47, op := _, type := _, pos := _, after := _, guard := _ } : Oper) :: _) _ _); go_must (refine wpList_app rfl (.tmp 38) (.tmp 46) 22 rfl w.heap.size 5 i0 (.int .u8 0) 1 1 Tryz.underlying22 hi hz0 hz1 hz2 rfl (by decide) _ _ _ rfl (HOWNq.out.alloc _) _ _ 2 2 _ rfl (Rd.new _ _ _) rfl (by intro u hu; simp at hu; rcases hu with rfl | rfl <;> rfl) hA1 hA2 (by have := HB2.out.size; simp; omega) ?_; intro v1 w2 hown1 hg1; have hb1' : Below w.heap.size w w2 := (HBq.out.1.alloc HBq.out.2 _).grown hg1 (by have := HB2.out.size; simp; omega) (own_block HOWNq.out); clear hg1))
            go_roundw
            case rel =>
              have hN := HNN.out
              have hbv : bvs (out ++ [UInt8.ofNat (j + 125), x]) = bvs out ++ [.int .u8 ((j : Int) + 125), .int .u8 (x.toNat : Int)] := by
                rw [bvs_append]
                congr 1
                show [Value.int .u8 ((UInt8.ofNat (j + 125)).toNat : Int), _] = _
                rw [← u8_of (j + 125) (by omega)]
                rfl
              refine ⟨k + j, out ++ [UInt8.ofNat (j + 125), x], by omega, by go_num, ?_, Lib.hid ?_, ?_, hb1'⟩
              · rw [hbv, List.length_append]; exact hown1
              · rw [← HD.out, List.append_assoc]; exact HO1.out
              · rw [List.length_append]; simp only [List.length_cons, List.length_nil]; omega
            case measure => have hN := HNN.out; simp [intOf]; omega
      | false =>
        have CB := Lib.hid (fun (w' : World) (hw : Below w.heap.size w w') (j : Nat) (hj : j ≤ 1000) => (show Calls Tryz.prog 77 #[.slice A l.length c, .int .i64 ((k : Int) + (j : Int))] w' fun e w'' => e = .returned (.bool (threeB (r.drop j))) ∧ Below w'.heap.size w' w'' by
          have := begins_any A l.length c l w' ((hr.below hw).more hw.size) rfl (k + j) (by omega) (by omega)
          rw [Int.natCast_add] at this
          rw [hR, List.drop_drop]
          exact this))
        have c1 := C1.out wr (Below.refl _ _) 0 (by omega)
        rw [Nat.add_zero, ← hR, h] at c1
        have HC := Lib.hid c1
        have hpk := packL_apart h hne
        have hp0 : 0 < apartN 128 r := by have hh : apartN 128 r = _ := apartN_pos (m := 127) h hne; omega
        obtain ⟨q, hq⟩ : ∃ q, q = apartN 128 r := ⟨_, rfl⟩
        rw [← hq] at hpk hp0
        rw [hpk] at HO
        have HO1 := Lib.hid HO.out
        have HT0 := Lib.hid hp0
        have hrk : Rd w w.heap.size (A.map (·.add k)) (bvs r) := by have := hr.drop k; rwa [bvs_drop, ← hR] at this
        have HRK := Lib.hid hrk
        have HN := Lib.hid (And.intro (And.intro hrl hnc) (And.intro hk (And.intro hol (And.intro hlt hn1))))
        have HOWN := Lib.hid hown
        have HB := Lib.hid (And.intro hb hbs)
        obtain ⟨m, hm⟩ : ∃ m, m = l.length - k := ⟨_, rfl⟩
        have HM := Lib.hid hm
        have HQ := Lib.hid hq
        clear hpk hr hown hb hbs hR hrl hk hol hlt hn1 hnc C1 c1 h HO hne hm hq hrk hp0
        go_wp2_with fail
        refine HC.out.mono ?_
        rintro e w1 ⟨rfl, hb1⟩
        have HOWN1 := Lib.hid (own_kept HOWN.out hb1)
        have HBW := Lib.hid (HB.out.1.trans (hb1.mono HB.out.2))
        clear hb1 HC HOWN HB
        go_wp2_with fail
        go_loopw [5] (RApartRel r q m w1) (fun i _ => 128 - (intOf i).toNat)
        case atStart => exact ⟨0, by omega, Nat.zero_le _, rfl, Lib.hid ((Nat.zero_add _).trans HQ.out.symm), Below.refl _ _⟩
        case round =>
          obtain ⟨j, hj, hjm, rfl, HJ, hbj⟩ := hrel
          have HB2 := Lib.hid (HBW.out.trans (hbj.mono HBW.out.size))
          have HBJ := Lib.hid hbj
          have HOWN2 := Lib.hid (own_kept HOWN1.out hbj)
          have hlb : (l.length : Int) ≤ 1000000000 := by have := HN.out; omega
          have hk0 : (0 : Int) ≤ (k : Int) := by omega
          clear hbj
          by_cases g1 : j < 128
          · have g1i : (j : Int) < 128 := by omega
            by_cases g2 : j < m
            · have g2i : (k : Int) + (j : Int) < (l.length : Int) := by have := HN.out; have := HM.out; omega
              have hst := apart_at (l := r) (k := j) (m := 128 - (j + 1)) (by have := HN.out; have := HM.out; omega)
              rw [show 128 - (j + 1) + 1 = 128 - j by omega] at hst
              have CB1 := Lib.hid (CB.out wr HB2.out j (by omega))
              cases h3 : threeB (r.drop j) with
              | true =>
                rw [h3, if_pos rfl] at hst
                rw [h3] at CB1
                have hqj : q = j := by rw [← HJ.out, hst, Nat.add_zero]
                clear hst h3 g1 g2
                go_wp2_with fail
                refine CB1.out.mono ?_
                rintro e w2 ⟨rfl, hb2⟩
                have HOWNn := Lib.hid (own_kept HOWN2.out hb2)
                have HBn := Lib.hid (HB2.out.trans (hb2.mono HB2.out.size))
                clear HOWN2 HB2 HBJ hb2 CB1
                have HOWN2 := HOWNn
                have HB2 := HBn
                have hnn : 1 ≤ j ∧ j ≤ 128 ∧ j ≤ m ∧ m = l.length - k := ⟨by have := HT0.out; omega, hj, hjm, HM.out⟩
                rw [hqj] at HO1
                have HNN := Lib.hid (And.intro hnn HN.out)
                have hj128 : (j : Int) ≤ 128 := by omega
                have hj1 : (1 : Int) ≤ (j : Int) := by omega
                have hkjc : k + j ≤ c := by have := HN.out; omega
                have hkc : ¬ c = k := by have := HN.out; omega
                have hA1 : out.length + 1 ≤ maxLen := by have := HN.out; simp only [maxLen]; omega
                have hA2 : (out.length + 1) * 1 ≤ 140737488355328 := by have := HN.out; omega
                have hA3 : out.length + 1 + (k + j - k) ≤ maxLen := by have := HN.out; simp only [maxLen]; omega
                have hA4 : (out.length + 1 + (k + j - k)) * 1 ≤ 140737488355328 := by have := HN.out; omega
                have hA5 : (bvs (r.take j)).length = (k + j - k) * 1 := by rw [bvs_length, List.length_take]; have := HN.out; omega
                have HA := Lib.hid (And.intro (And.intro hA1 hA2) (And.intro hA3 (And.intro hA4 hA5)))
                clear hnn hqj hj hjm hA1 hA2 hA3 hA4 hA5
                go_wp2_with (first
                  | ((with_reducible show wpList _ _ _ (({ dst := some 73, op := _, type := _, pos := _, after := _, guard := _ } : Oper) :: _) _ _); go_must (refine wpList_app rfl (.tmp 68) (.tmp 72) 22 rfl w.heap.size 5 i0 (.int .u8 0) 1 1 Tryz.underlying22 hi hz0 hz1 hz2 rfl (by decide) _ _ _ rfl (HOWN2.out.alloc _) _ _ 1 1 _ rfl (Rd.new _ _ _) rfl (by intro u hu; simp at hu; subst hu; rfl) HA.out.1.1 HA.out.1.2 (by have := HB2.out.size; simp; omega) ?_; intro v1 w3 hown1 hg1; have hb3 : Below w.heap.size w w3 := (HB2.out.alloc HB2.out.size _).grown hg1 (by have := HB2.out.size; simp; omega) (own_block HOWN2.out); clear hg1; have HOWN3 := Lib.hid hown1; have HB3 := Lib.hid hb3; have HR3 := Lib.hid (HRK.out.below hb3); clear hown1 hb3))
                  | ((with_reducible show wpList _ _ _ (({ dst := some 81, op := _, type := _, pos := _, after := _, guard := _ } : Oper) :: _) _ _); go_must (refine wpList_app rfl (.tmp 74) (.tmp 80) 22 rfl w.heap.size 5 i0 (.int .u8 0) 1 1 Tryz.underlying22 hi hz0 hz1 hz2 rfl (by decide) _ _ _ rfl HOWN3.out w.heap.size (A.map (·.add k)) (k + j - k) _ (bvs (r.take j)) rfl (by have := HR3.out.take j; rwa [bvs_take] at this) HA.out.2.2.2 (bvs_one _) HA.out.2.1 HA.out.2.2.1 HB3.out.size ?_; intro v2 w4 hown2 hg2; have hb4 : Below w.heap.size w w4 := HB3.out.grown hg2 HB3.out.size (own_block HOWN3.out); clear hg2)))
                go_roundw
                case rel =>
                  have hN := HNN.out
                  have hbv : bvs (out ++ (UInt8.ofNat (j - 1) :: r.take j)) = bvs out ++ [.int .u8 ((j : Int) - 1)] ++ bvs (r.take j) := by
                    rw [show UInt8.ofNat (j - 1) :: r.take j = [UInt8.ofNat (j - 1)] ++ r.take j from rfl, ← List.append_assoc, bvs_append, bvs_append]
                    congr 2
                    show [Value.int .u8 ((UInt8.ofNat (j - 1)).toNat : Int)] = _
                    rw [← u8_of (j - 1) (by omega)]
                    rw [show ((j - 1 : Nat) : Int) = (j : Int) - 1 by omega]
                  have hll : (out ++ (UInt8.ofNat (j - 1) :: r.take j)).length = out.length + 1 + j := by rw [List.length_append, List.length_cons, List.length_take]; omega
                  refine ⟨k + j, out ++ (UInt8.ofNat (j - 1) :: r.take j), by omega, by go_num, ?_, Lib.hid ?_, ?_, hb4⟩
                  · rw [hbv, hll]; rw [Nat.add_sub_cancel_left] at hown2; exact hown2
                  · rw [← HD.out, List.append_assoc, List.cons_append]; exact HO1.out
                  · rw [hll]; omega
                case measure => have hN := HNN.out; simp [intOf]; omega
              | false =>
                rw [h3, if_neg (by decide)] at hst
                rw [h3] at CB1
                have HJ1 := Lib.hid (show j + 1 + apartN (128 - (j + 1)) (r.drop (j + 1)) = q by rw [← HJ.out, hst]; omega)
                have HG := Lib.hid (And.intro g1 g2)
                clear hst h3 g1 g2 hj hjm
                go_wp2_with fail
                refine CB1.out.mono ?_
                rintro e w2 ⟨rfl, hb2⟩
                have HBn := Lib.hid (HBJ.out.trans (hb2.mono HBJ.out.size))
                clear hb2 CB1
                go_wp2_with fail
                go_roundw
                case rel => exact ⟨j + 1, by have := HG.out; omega, by have := HG.out; omega, by go_num, HJ1, HBn.out⟩
                case measure => have := HG.out; simp [intOf]; omega
            · have hjm' : j = m := by omega
              have g2i : ¬ (k : Int) + (j : Int) < (l.length : Int) := by have := HN.out; have := HM.out; omega
              have hqj : q = j := by rw [← HJ.out, apart_end (by have := HN.out; have := HM.out; omega), Nat.add_zero]
              clear g1 g2 hjm'
              have hnn : 1 ≤ j ∧ j ≤ 128 ∧ j ≤ m ∧ m = l.length - k := ⟨by have := HT0.out; omega, hj, hjm, HM.out⟩
              rw [hqj] at HO1
              have HNN := Lib.hid (And.intro hnn HN.out)
              have hj128 : (j : Int) ≤ 128 := by omega
              have hj1 : (1 : Int) ≤ (j : Int) := by omega
              have hkjc : k + j ≤ c := by have := HN.out; omega
              have hkc : ¬ c = k := by have := HN.out; omega
              have hA1 : out.length + 1 ≤ maxLen := by have := HN.out; simp only [maxLen]; omega
              have hA2 : (out.length + 1) * 1 ≤ 140737488355328 := by have := HN.out; omega
              have hA3 : out.length + 1 + (k + j - k) ≤ maxLen := by have := HN.out; simp only [maxLen]; omega
              have hA4 : (out.length + 1 + (k + j - k)) * 1 ≤ 140737488355328 := by have := HN.out; omega
              have hA5 : (bvs (r.take j)).length = (k + j - k) * 1 := by rw [bvs_length, List.length_take]; have := HN.out; omega
              have HA := Lib.hid (And.intro (And.intro hA1 hA2) (And.intro hA3 (And.intro hA4 hA5)))
              clear hnn hqj hj hjm hA1 hA2 hA3 hA4 hA5
              go_wp2_with (first
                | ((with_reducible show wpList _ _ _ (({ dst := some 73, op := _, type := _, pos := _, after := _, guard := _ } : Oper) :: _) _ _); go_must (refine wpList_app rfl (.tmp 68) (.tmp 72) 22 rfl w.heap.size 5 i0 (.int .u8 0) 1 1 Tryz.underlying22 hi hz0 hz1 hz2 rfl (by decide) _ _ _ rfl (HOWN2.out.alloc _) _ _ 1 1 _ rfl (Rd.new _ _ _) rfl (by intro u hu; simp at hu; subst hu; rfl) HA.out.1.1 HA.out.1.2 (by have := HB2.out.size; simp; omega) ?_; intro v1 w3 hown1 hg1; have hb3 : Below w.heap.size w w3 := (HB2.out.alloc HB2.out.size _).grown hg1 (by have := HB2.out.size; simp; omega) (own_block HOWN2.out); clear hg1; have HOWN3 := Lib.hid hown1; have HB3 := Lib.hid hb3; have HR3 := Lib.hid (HRK.out.below hb3); clear hown1 hb3))
                | ((with_reducible show wpList _ _ _ (({ dst := some 81, op := _, type := _, pos := _, after := _, guard := _ } : Oper) :: _) _ _); go_must (refine wpList_app rfl (.tmp 74) (.tmp 80) 22 rfl w.heap.size 5 i0 (.int .u8 0) 1 1 Tryz.underlying22 hi hz0 hz1 hz2 rfl (by decide) _ _ _ rfl HOWN3.out w.heap.size (A.map (·.add k)) (k + j - k) _ (bvs (r.take j)) rfl (by have := HR3.out.take j; rwa [bvs_take] at this) HA.out.2.2.2 (bvs_one _) HA.out.2.1 HA.out.2.2.1 HB3.out.size ?_; intro v2 w4 hown2 hg2; have hb4 : Below w.heap.size w w4 := HB3.out.grown hg2 HB3.out.size (own_block HOWN3.out); clear hg2)))
              go_roundw
              case rel =>
                have hN := HNN.out
                have hbv : bvs (out ++ (UInt8.ofNat (j - 1) :: r.take j)) = bvs out ++ [.int .u8 ((j : Int) - 1)] ++ bvs (r.take j) := by
                  rw [show UInt8.ofNat (j - 1) :: r.take j = [UInt8.ofNat (j - 1)] ++ r.take j from rfl, ← List.append_assoc, bvs_append, bvs_append]
                  congr 2
                  show [Value.int .u8 ((UInt8.ofNat (j - 1)).toNat : Int)] = _
                  rw [← u8_of (j - 1) (by omega)]
                  rw [show ((j - 1 : Nat) : Int) = (j : Int) - 1 by omega]
                have hll : (out ++ (UInt8.ofNat (j - 1) :: r.take j)).length = out.length + 1 + j := by rw [List.length_append, List.length_cons, List.length_take]; omega
                refine ⟨k + j, out ++ (UInt8.ofNat (j - 1) :: r.take j), by omega, by go_num, ?_, Lib.hid ?_, ?_, hb4⟩
                · rw [hbv, hll]; rw [Nat.add_sub_cancel_left] at hown2; exact hown2
                · rw [← HD.out, List.append_assoc, List.cons_append]; exact HO1.out
                · rw [hll]; omega
              case measure => have hN := HNN.out; simp [intOf]; omega
          · have g1i : ¬ (j : Int) < 128 := by omega
            have hqj : q = j := by
              rw [← HJ.out, show 128 - j = 0 by omega]
              cases r.drop j <;> rfl
            clear g1
            have hnn : 1 ≤ j ∧ j ≤ 128 ∧ j ≤ m ∧ m = l.length - k := ⟨by have := HT0.out; omega, hj, hjm, HM.out⟩
            rw [hqj] at HO1
            have HNN := Lib.hid (And.intro hnn HN.out)
            have hj128 : (j : Int) ≤ 128 := by omega
            have hj1 : (1 : Int) ≤ (j : Int) := by omega
            have hkjc : k + j ≤ c := by have := HN.out; omega
            have hkc : ¬ c = k := by have := HN.out; omega
            have hA1 : out.length + 1 ≤ maxLen := by have := HN.out; simp only [maxLen]; omega
            have hA2 : (out.length + 1) * 1 ≤ 140737488355328 := by have := HN.out; omega
            have hA3 : out.length + 1 + (k + j - k) ≤ maxLen := by have := HN.out; simp only [maxLen]; omega
            have hA4 : (out.length + 1 + (k + j - k)) * 1 ≤ 140737488355328 := by have := HN.out; omega
            have hA5 : (bvs (r.take j)).length = (k + j - k) * 1 := by rw [bvs_length, List.length_take]; have := HN.out; omega
            have HA := Lib.hid (And.intro (And.intro hA1 hA2) (And.intro hA3 (And.intro hA4 hA5)))
            clear hnn hqj hj hjm hA1 hA2 hA3 hA4 hA5
            go_wp2_with (first
              | ((with_reducible show wpList _ _ _ (({ dst := some 73, op := _, type := _, pos := _, after := _, guard := _ } : Oper) :: _) _ _); go_must (refine wpList_app rfl (.tmp 68) (.tmp 72) 22 rfl w.heap.size 5 i0 (.int .u8 0) 1 1 Tryz.underlying22 hi hz0 hz1 hz2 rfl (by decide) _ _ _ rfl (HOWN2.out.alloc _) _ _ 1 1 _ rfl (Rd.new _ _ _) rfl (by intro u hu; simp at hu; subst hu; rfl) HA.out.1.1 HA.out.1.2 (by have := HB2.out.size; simp; omega) ?_; intro v1 w3 hown1 hg1; have hb3 : Below w.heap.size w w3 := (HB2.out.alloc HB2.out.size _).grown hg1 (by have := HB2.out.size; simp; omega) (own_block HOWN2.out); clear hg1; have HOWN3 := Lib.hid hown1; have HB3 := Lib.hid hb3; have HR3 := Lib.hid (HRK.out.below hb3); clear hown1 hb3))
              | ((with_reducible show wpList _ _ _ (({ dst := some 81, op := _, type := _, pos := _, after := _, guard := _ } : Oper) :: _) _ _); go_must (refine wpList_app rfl (.tmp 74) (.tmp 80) 22 rfl w.heap.size 5 i0 (.int .u8 0) 1 1 Tryz.underlying22 hi hz0 hz1 hz2 rfl (by decide) _ _ _ rfl HOWN3.out w.heap.size (A.map (·.add k)) (k + j - k) _ (bvs (r.take j)) rfl (by have := HR3.out.take j; rwa [bvs_take] at this) HA.out.2.2.2 (bvs_one _) HA.out.2.1 HA.out.2.2.1 HB3.out.size ?_; intro v2 w4 hown2 hg2; have hb4 : Below w.heap.size w w4 := HB3.out.grown hg2 HB3.out.size (own_block HOWN3.out); clear hg2)))
            go_roundw
            case rel =>
              have hN := HNN.out
              have hbv : bvs (out ++ (UInt8.ofNat (j - 1) :: r.take j)) = bvs out ++ [.int .u8 ((j : Int) - 1)] ++ bvs (r.take j) := by
                rw [show UInt8.ofNat (j - 1) :: r.take j = [UInt8.ofNat (j - 1)] ++ r.take j from rfl, ← List.append_assoc, bvs_append, bvs_append]
                congr 2
                show [Value.int .u8 ((UInt8.ofNat (j - 1)).toNat : Int)] = _
                rw [← u8_of (j - 1) (by omega)]
                rw [show ((j - 1 : Nat) : Int) = (j : Int) - 1 by omega]
              have hll : (out ++ (UInt8.ofNat (j - 1) :: r.take j)).length = out.length + 1 + j := by rw [List.length_append, List.length_cons, List.length_take]; omega
              refine ⟨k + j, out ++ (UInt8.ofNat (j - 1) :: r.take j), by omega, by go_num, ?_, Lib.hid ?_, ?_, hb4⟩
              · rw [hbv, hll]; rw [Nat.add_sub_cancel_left] at hown2; exact hown2
              · rw [← HD.out, List.append_assoc, List.cons_append]; exact HO1.out
              · rw [hll]; omega
            case measure => have hN := HNN.out; simp [intOf]; omega
    · have hk' : k = l.length := by omega
      have hO := HO.out
      rw [hk', List.drop_length, packL_nil, List.append_nil] at hO
      have hz : ¬ (k : Int) < (l.length : Int) := by omega
      subst hO
      clear hlt hk hol HO hk'
      go_wp2_with fail
      go_ret
      exact ⟨_, rfl, IsBytes.of_own hown, hb⟩
end Go.Proofs.YtcenbaajojdjlaaGreatDoor
namespace Go.Proofs.YtcenbaajojdjlaaGreatDoor
open Go.RowKit

/-- What holds at the head of a round. -/
def RUnpRel (w : World) (l : List UInt8) (v i : Value) (wr : World) : Prop :=
  ∃ (k : Nat) (out : List UInt8), k ≤ l.length ∧ i = .int .i64 (k : Int) ∧ wr.ownsRow w.heap.size 5 1 v out.length (bvs out) ∧ Hid (unpackL l = (unpackL (l.drop k)).map (out ++ ·)) ∧ out.length ≤ 130 * k ∧ Below w.heap.size w wr

set_option maxHeartbeats 4000000 in
set_option maxRecDepth 100000 in
theorem refUnpack_in (A : Option Addr) (n c : Nat) (l : List UInt8) (m : Nat) (hm : m ≤ 268435456) (w : World) (hr : Rd w w.heap.size A (bvs l)) (hn : l.length = n) (hnc : n ≤ c) (hn1 : n ≤ 100000000) :
    Calls Tryz.prog 50 #[.slice A n c, .int .i64 (m : Int)] w (UnpAns w (unpackR l (m : Int))) := by
  obtain ⟨i0, hi, hz0, hz1, hz2⟩ := info_parts info_u8q
  subst hn
  have h0 : ¬ (m : Int) < 0 := by omega
  have h1 : ¬ (268435456 : Int) < (m : Int) := by omega
  obtain ⟨R, hRR⟩ : ∃ R, R = unpackR l (m : Int) := ⟨_, rfl⟩
  have HRR := Lib.hid hRR
  rw [← hRR]
  clear hRR
  go_enter Tryz.func50, Tryz.ntmps50
  go_wp2_with fail
  go_loopw [6, 7, 8, 9] (fun v i _ _ wr => RUnpRel w l v i wr) (fun _ i _ _ _ => l.length - (intOf i).toNat)
  case atStart => exact ⟨0, [], Nat.zero_le _, rfl, World.ownsRow_nil _ _ _ _, Lib.hid (by simp), Nat.zero_le _, Below.refl _ _⟩
  case round =>
    obtain ⟨k, out, hk, rfl, hown, HO, hol, hb⟩ := hrel
    have hbs := hb.size
    by_cases hlt : k < l.length
    · obtain ⟨x, hx⟩ : ∃ x, x = l[k] := ⟨_, rfl⟩
      obtain ⟨t, ht⟩ : ∃ t, t = l.drop (k + 1) := ⟨_, rfl⟩
      have hR : l.drop k = x :: t := by rw [hx, ht]; exact List.drop_eq_getElem_cons hlt
      have hrl : t.length + 1 = l.length - k := by rw [← List.length_cons (a := x), ← hR, List.length_drop]
      obtain ⟨ab, ao, rfl, hab, hcell⟩ := hr.at_ (by rw [bvs_length]; omega)
      have hc0 := (hb.cell (p := ⟨ab, ao + k, none⟩) hab).trans (hcell k (.int .u8 (x.toNat : Int)) (by rw [hx]; exact bvs_get l k hlt))
      have hx8 := x.toNat_lt
      have hki : (k : Int) < (l.length : Int) := by omega
      have hlb : (l.length : Int) ≤ 100000000 := by omega
      have hk0 : (0 : Int) ≤ (k : Int) := by omega
      have hxi : (x.toNat : Int) ≤ 255 := by omega
      have hxi0 : (0 : Int) ≤ (x.toNat : Int) := by omega
      rw [hR] at HO
      have hstep := unpackL_step (x := x) (t := t)
      have hnone := unpackL_none (x := x) (t := t)
      have htl := toldL_len (x := x) (t := t)
      have hmy := manyN_le x
      by_cases h128 : x.toNat < 128
      · have hsz : sizeN x = x.toNat + 2 := by unfold sizeN; rw [if_pos h128]
        have hmn : manyN x = x.toNat + 1 := by unfold manyN; rw [if_pos h128]
        have hi128 : (x.toNat : Int) < 128 := by omega
        by_cases g : t.length < x.toNat + 1
        · have gi : decide ((k : Int) + 1 + (x.toNat : Int) ≥ (l.length : Int)) = true := by rw [decide_eq_true_eq]; omega
          have hun : unpackL l = none := by rw [HO.out, hnone (by omega)]; rfl
          have HA := Lib.hid (HRR.out ▸ unp_not (m := m) hb hm (l := l) (fun o ho => by rw [hun] at ho; cases ho))
          clear hr hown HO hstep hnone htl hun g hR hnc hb hbs hrl hol hcell hx ht hsz hmn hmy h128 hlt hk hx8 hn1
          go_wp2_with fail
          go_ret2
          exact HA.out
        · have gi : decide ((k : Int) + 1 + (x.toNat : Int) ≥ (l.length : Int)) = false := by rw [decide_eq_false_iff_not]; omega
          have hq : sizeN x ≤ t.length + 1 := by omega
          have HST := Lib.hid (hstep hq)
          have HTL := Lib.hid (htl hq)
          have HTO := Lib.hid (show toldL x t = t.take (x.toNat + 1) by unfold toldL; rw [if_pos h128])
          have HD := Lib.hid (show (x :: t).drop (sizeN x) = l.drop (k + 2 + x.toNat) by rw [← hR, List.drop_drop, hsz]; congr 1; omega)
          have hrt : Rd w w.heap.size ((some ⟨ab, ao, none⟩ : Option Addr).map (·.add (k + 1))) (bvs (t.take (x.toNat + 1))) := by have := (hr.drop (k + 1)).take (x.toNat + 1); rwa [bvs_drop, bvs_take, ← ht] at this
          have HRT := Lib.hid (hrt.below hb)
          have HN := Lib.hid (And.intro hrl (And.intro hk (And.intro hol (And.intro hlt (And.intro hsz (And.intro hmn g))))))
          have HOWN := Lib.hid hown
          have HB := Lib.hid (And.intro hb hbs)
          clear hr hown HRR hstep hnone htl g hR hb hbs hrl hol hcell hx ht hsz hmn hmy h128 hlt hk hx8 hrt hq
          have hkc : ¬ c = k + 1 := by have := HN.out; omega
          have hkc2 : (k : Int) + 2 + (x.toNat : Int) ≤ (c : Int) := by have := HN.out; omega
          have hA1 : out.length + (k + 2 + x.toNat - (k + 1)) ≤ maxLen := by have := HN.out; simp only [maxLen]; omega
          have hA2 : (out.length + (k + 2 + x.toNat - (k + 1))) * 1 ≤ 140737488355328 := by have := HN.out; omega
          have hA3 : (bvs (t.take (x.toNat + 1))).length = (k + 2 + x.toNat - (k + 1)) * 1 := by rw [bvs_length, List.length_take]; have := HN.out; omega
          have HA := Lib.hid (And.intro hA1 (And.intro hA2 hA3))
          clear hA1 hA2 hA3
          go_wp2_with ((with_reducible show wpList _ _ _ (({ dst := some 43, op := _, type := _, pos := _, after := _, guard := _ } : Oper) :: _) _ _); go_must (refine wpList_app rfl (.tmp 34) (.tmp 42) 22 rfl w.heap.size 5 i0 (.int .u8 0) 1 1 Tryz.underlying22 hi hz0 hz1 hz2 rfl (by decide) _ _ _ rfl HOWN.out w.heap.size (some ⟨ab, ao + (k + 1), none⟩) (k + 2 + x.toNat - (k + 1)) _ (bvs (t.take (x.toNat + 1))) rfl HRT.out HA.out.2.2 (bvs_one _) HA.out.1 HA.out.2.1 HB.out.2 ?_; intro v1 w1 hown1 hg1; have hb1 : Below w.heap.size w w1 := HB.out.1.grown hg1 HB.out.2 (own_block HOWN.out); clear hg1))
          go_roundw
          case rel =>
            have hN := HN.out
            refine ⟨k + 2 + x.toNat, out ++ toldL x t, by omega, by go_num, ?_, Lib.hid ?_, ?_, hb1⟩
            · rw [← bvs_append, ← HTO.out] at hown1
              rw [List.length_append, HTL.out, hN.2.2.2.2.2.1]
              rw [show k + 2 + x.toNat - (k + 1) = x.toNat + 1 by omega] at hown1
              exact hown1
            · rw [HO.out, HST.out, HD.out, Option.map_map]
              congr 1
              funext u
              simp
            · rw [List.length_append, HTL.out]; omega
          case measure => have hN := HN.out; simp [intOf]; omega
      · have hsz : sizeN x = 2 := by unfold sizeN; rw [if_neg h128]
        have hmn : manyN x = x.toNat - 125 := by unfold manyN; rw [if_neg h128]
        have hi128 : ¬ (x.toNat : Int) < 128 := by omega
        by_cases g : t.length < 1
        · have gi : decide ((k : Int) + 1 ≥ (l.length : Int)) = true := by rw [decide_eq_true_eq]; omega
          have hun : unpackL l = none := by rw [HO.out, hnone (by omega)]; rfl
          have HA := Lib.hid (HRR.out ▸ unp_not (m := m) hb hm (l := l) (fun o ho => by rw [hun] at ho; cases ho))
          clear hr hown HO hstep hnone htl hun g hR hnc hb hbs hrl hol hcell hx ht hsz hmn hmy h128 hlt hk hx8 hn1
          go_wp2_with fail
          go_ret2
          exact HA.out
        · have gi : decide ((k : Int) + 1 ≥ (l.length : Int)) = false := by rw [decide_eq_false_iff_not]; omega
          have hq : sizeN x ≤ t.length + 1 := by omega
          obtain ⟨y, hy⟩ : ∃ y, l[k + 1]? = some y := ⟨l[k + 1]'(by omega), by simp⟩
          have hty : t.headD 0 = y := by
            rw [ht, List.headD_eq_head?_getD, List.head?_drop, hy]
            rfl
          have HCY := Lib.hid (show w.cell? ⟨ab, ao + (k + 1), none⟩ = some (.int .u8 (y.toNat : Int)) from hcell (k + 1) _ (by simp [bvs, hy]))
          have HST := Lib.hid (hstep hq)
          have HTL := Lib.hid (htl hq)
          obtain ⟨p, hp⟩ : ∃ p, p = x.toNat - 125 := ⟨_, rfl⟩
          have HTO := Lib.hid (show toldL x t = List.replicate p y by unfold toldL; rw [if_neg h128, hty, hp])
          have HD := Lib.hid (show (x :: t).drop (sizeN x) = l.drop (k + 2) by rw [← hR, List.drop_drop, hsz])
          have hpi : (x.toNat : Int) - 125 = (p : Int) := by omega
          have HN := Lib.hid (And.intro hrl (And.intro hk (And.intro hol (And.intro hlt (And.intro hsz (And.intro hmn (And.intro g (And.intro hmy hp))))))))
          have HOWN := Lib.hid hown
          have HB := Lib.hid (And.intro hb hbs)
          have hk1i : (k : Int) + 1 < (l.length : Int) := by omega
          clear hr hown HRR hstep hnone htl g hR hb hbs hrl hol hcell hx ht hsz hmn hmy h128 hlt hk hx8 hq hy hty hp
          go_wp2_with fail
          go_loopw [6, 9] (ToldRel w w.heap.size out y p) (fun _ i _ => p - (intOf i).toNat)
          case atStart => exact ⟨0, Nat.zero_le _, rfl, by simpa using HOWN.out, HB.out.1⟩
          case round =>
            obtain ⟨q, hq, rfl, hown, hbl⟩ := hrel
            have hbs := hbl.size
            by_cases hqp : q < p
            · have hqpi : (q : Int) < (x.toNat : Int) - 125 := by omega
              have hcy := (hbl.cell (p := ⟨ab, ao + (k + 1), none⟩) hab).trans HCY.out
              have hA1 : out.length + q + 1 ≤ maxLen := by have := HN.out; simp only [maxLen]; omega
              have hA2 : (out.length + q + 1) * 1 ≤ 140737488355328 := by have := HN.out; omega
              have HOWNq := Lib.hid hown
              have HBq := Lib.hid (And.intro hbl hbs)
              have HQ := Lib.hid (And.intro hq hqp)
              clear hown hbl hbs hq hqp
              go_wp2_with ((with_reducible show wpList _ _ _ (({ dst := some 66, op := _, type := _, pos := _, after := _, guard := _ } : Oper) :: _) _ _); go_must (refine wpList_app rfl (.tmp 59) (.tmp 65) 22 rfl w.heap.size 5 i0 (.int .u8 0) 1 1 Tryz.underlying22 hi hz0 hz1 hz2 rfl (by decide) _ _ _ rfl (HOWNq.out.alloc _) _ _ 1 1 _ rfl (Rd.new _ _ _) rfl (by intro u hu; simp at hu; subst hu; rfl) hA1 hA2 (by have := HBq.out.2; simp; omega) ?_; intro v1 w1 hown1 hg1; have hb1 : Below w.heap.size w w1 := (HBq.out.1.alloc HBq.out.2 _).grown hg1 (by have := HBq.out.2; simp; omega) (own_block HOWNq.out); clear hg1))
              have hown2 : w1.ownsRow w.heap.size 5 1 v1 (out.length + (q + 1)) (bvs (out ++ List.replicate (q + 1) y)) := by
                rw [bvs_rep, ← Nat.add_assoc]
                exact hown1
              clear hown1 hA1 hA2 HOWNq HBq
              go_roundw
              case rel => exact ⟨q + 1, HQ.out.2, by go_num, hown2, hb1⟩
              case measure => have := HQ.out; simp [intOf]; omega
            · have hqpi : ¬ (q : Int) < (x.toNat : Int) - 125 := by omega
              obtain rfl : q = p := by omega
              have HOWNq := Lib.hid hown
              have HBq := Lib.hid hbl
              clear hown hbl hbs hq hqp
              go_wp2_with fail
              go_roundw
              case rel =>
                have hN := HN.out
                refine ⟨k + 2, out ++ toldL x t, by omega, by go_num, ?_, Lib.hid ?_, ?_, HBq.out⟩
                · rw [List.length_append, HTL.out, hN.2.2.2.2.2.1, ← hN.2.2.2.2.2.2.2.2, HTO.out]
                  exact HOWNq.out
                · rw [HO.out, HST.out, HD.out, Option.map_map]
                  congr 1
                  funext u
                  simp
                · rw [List.length_append, HTL.out]; omega
              case measure => have hN := HN.out; simp [intOf]; omega
    · have hk' : k = l.length := by omega
      have hO := HO.out
      rw [hk', List.drop_length, unpackL_nil, Option.map_some, List.append_nil] at hO
      obtain ⟨A1, c1, rfl, ho1, ho2, -⟩ := own_form hown
      by_cases g : out.length = m
      · have gi : ((out.length : Int) != (m : Int)) = false := by rw [bne_eq_false_iff_eq]; omega
        have HA := Lib.hid (HRR.out ▸ unp_yes (m := m) hb hm (l := l) hO (by omega) (IsBytes.of_own hown))
        have hki : ¬ (k : Int) < (l.length : Int) := by omega
        have G := Lib.hid g
        clear hr hown HO hO hnc hb hbs hk' g hlt hk hol
        go_wp2_with fail
        go_ret2
        exact HA.out
      · have gi : ((out.length : Int) != (m : Int)) = true := by rw [bne_iff_ne]; omega
        have HA := Lib.hid (HRR.out ▸ unp_not (m := m) hb hm (l := l) (fun o ho => by rw [hO] at ho; injection ho with ho; subst ho; exact g))
        have hki : ¬ (k : Int) < (l.length : Int) := by omega
        clear hr hown HO hO hnc hb hbs hk' g hlt hk hol
        go_wp2_with fail
        go_ret2
        exact HA.out
theorem refUnpack_any (A : Option Addr) (n c : Nat) (l : List UInt8) (m : Int) (w : World) (hr : Rd w w.heap.size A (bvs l)) (hn : l.length = n) (hnc : n ≤ c) (hn1 : n ≤ 100000000) :
    Calls Tryz.prog 50 #[.slice A n c, .int .i64 m] w (UnpAns w (unpackR l m)) := by
  by_cases h : m < 0 ∨ 268435456 < m
  · rw [unpackR_arg h]
    clear hr hnc hn1
    by_cases h0 : m < 0
    · clear h
      go_enter Tryz.func50, Tryz.ntmps50
      go_wp2_with fail
      go_ret2
      exact ⟨_, rfl, ⟨none, 0, rfl, Nat.le_refl _, Rd.nil_ _ _ _⟩, Below.refl _ _⟩
    · have h1 : 268435456 < m := by omega
      clear h
      go_enter Tryz.func50, Tryz.ntmps50
      go_wp2_with fail
      go_ret2
      exact ⟨_, rfl, ⟨none, 0, rfl, Nat.le_refl _, Rd.nil_ _ _ _⟩, Below.refl _ _⟩
  · obtain ⟨q, rfl⟩ := Int.eq_ofNat_of_zero_le (show 0 ≤ m by omega)
    exact refUnpack_in A n c l q (by omega) w hr hn hnc hn1
end Go.Proofs.YtcenbaajojdjlaaGreatDoor
