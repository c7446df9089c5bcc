/- Contract of layer 10's Pack. -/
import Derived.Test.YtcenbaajojdjlaaGreatDoorRunsTold
namespace Go.Proofs.YtcenbaajojdjlaaGreatDoor
open Go.RowKit

theorem u8_of (n : Nat) (h : n < 256) : (Value.int .u8 (n : Int)) = .int .u8 ((UInt8.ofNat n).toNat : Int) := by rw [UInt8.toNat_ofNat', Nat.mod_eq_of_lt h]
/-- What holds at the head of a round of Pack. -/
def PackRel (w : World) (l : List UInt8) (s v : Value) (wr : World) : Prop :=
  ∃ (k : Nat) (A : Option Addr) (c : Nat) (out : List UInt8), k ≤ l.length ∧ s = .slice A (l.length - k) c ∧ l.length - k ≤ c ∧ Rd wr w.heap.size A (bvs (l.drop k)) ∧ wr.ownsRow w.heap.size 5 1 v out.length (bvs out) ∧ Hid (out ++ packL (l.drop k) = packL l) ∧ out.length ≤ 2 * k ∧ Below w.heap.size w wr
def lenOf : Value → Nat
  | .slice _ n _ => n
  | _ => 0

set_option maxHeartbeats 2000000 in
set_option maxRecDepth 100000 in
theorem runsPack_any (A : Option Addr) (n c : Nat) (l : List UInt8) (w : World) (hr : Rd w w.heap.size A (bvs l)) (hn : l.length = n) (hnc : n ≤ c) (hn1 : n ≤ 1000000000) :
    Calls Tryz.prog 72 #[.slice A n c] w (NewBs w (packL l)) := by
  obtain ⟨i0, hi, hz0, hz1, hz2⟩ := info_parts info_u8q
  subst hn
  go_enter Tryz.func72, Tryz.ntmps72
  go_wp2_with fail
  go_loopw [0, 3, 4] (fun s v _ wr => PackRel w l s v wr) (fun s _ _ _ => lenOf s)
  case atStart => exact ⟨0, A, c, [], Nat.zero_le _, rfl, hnc, hr, World.ownsRow_nil _ _ _ _, Lib.hid rfl, Nat.le_refl _, Below.refl _ _⟩
  case round =>
    clear hr hnc
    obtain ⟨k, A, c, out, hk, rfl, hnc, hr, hown, HO, hol, hb⟩ := hrel
    have hbs := hb.size
    by_cases hlt : k < l.length
    · obtain ⟨r, hR⟩ : ∃ r, r = l.drop k := ⟨_, rfl⟩
      have hrl : r.length = l.length - k := by rw [hR, List.length_drop]
      obtain ⟨m, hm⟩ : ∃ m, m = l.length - k := ⟨_, rfl⟩
      rw [← hR] at hr HO
      rw [← hm] at hrl hnc
      simp only [← hm]
      have hm0 : 0 < m := by omega
      have hm0i : (0 : Int) < (m : Int) := by omega
      have C1 := Lib.hid (alike_any A m c r wr (hr.more hbs) hrl hm0 (by omega) 130 (by omega))
      have h3 := three_iff 130 (by omega) r
      have h5 := alikeN_le 130 r
      have h6 := alikeN_most 130 r
      obtain ⟨q, hq⟩ : ∃ q, q = alikeN 130 r := ⟨_, rfl⟩
      rw [← hq] at C1 h3 h5 h6
      cases h : threeB r with
      | true =>
        have hq3 := h3.2 h
        have hq3i : decide ((q : Int) ≥ 3) = true := by rw [decide_eq_true_eq]; omega
        obtain ⟨b, off, rfl, hbB, hcell⟩ := hr.at_ (by rw [bvs_length]; omega)
        obtain ⟨x, hx⟩ : ∃ x, r[0]? = some x := ⟨r[0], by simp⟩
        have hpk := packL_three h hx
        rw [← hq] at hpk
        rw [hpk] at HO
        have HO1 := Lib.hid HO.out
        have HD := Lib.hid (show r.drop q = l.drop (k + q) by rw [hR, List.drop_drop])
        have hc0 := hcell 0 (.int .u8 (x.toNat : Int)) (by simp [bvs, hx])
        rw [Nat.add_zero] at hc0
        have HR := Lib.hid hr
        have HOWN := Lib.hid hown
        have HB := Lib.hid (And.intro hb hbs)
        have HN := Lib.hid (And.intro (And.intro hrl hm) (And.intro hk (And.intro hol (And.intro hm0 (And.intro hlt hn1)))))
        clear hcell hr hown hb hbs hpk hx h hR hq h3 HO hrl hm hk hol hlt hn1 hm0
        go_wp2_with fail
        refine C1.out.mono ?_
        rintro e w1 ⟨rfl, hb1⟩
        have hc1 := (hb1.cell (p := ⟨b, off, none⟩) (Nat.lt_of_lt_of_le hbB HB.out.2)).trans hc0
        have HOWN1 := Lib.hid (own_kept HOWN.out hb1)
        have HR1 := Lib.hid (HR.out.below (hb1.mono HB.out.2))
        have HB1 := Lib.hid (HB.out.1.trans (hb1.mono HB.out.2))
        have HS1 := Lib.hid (HB1.out.size)
        have hA1 : out.length + 2 ≤ maxLen := by have := HN.out; simp only [maxLen]; omega
        have hA2 : (out.length + 2) * 1 ≤ 140737488355328 := by have := HN.out; omega
        clear hb1 hc0 C1 HOWN HR HB
        go_wp2_with (first
          | ((with_reducible show wpList _ _ _ (({ dst := some 20, op := _, type := _, pos := _, after := _, guard := _ } : Oper) :: _) _ _); go_must (refine wpList_app rfl (.tmp 12) (.tmp 19) 22 rfl w.heap.size 5 i0 (.int .u8 0) 1 1 Tryz.underlying22 hi hz0 hz1 hz2 rfl (by decide) _ _ _ rfl (HOWN1.out.alloc _) _ _ 2 2 _ rfl (Rd.new _ _ _) rfl (by intro u hu; simp at hu; rcases hu with rfl | rfl <;> rfl) hA1 hA2 (by have := HS1.out; simp; omega) ?_; intro v1 w2 hown1 hg1; have hb1' : Below w.heap.size w w2 := (HB1.out.alloc HS1.out _).grown hg1 (by have := HS1.out; simp; omega) (own_block HOWN1.out); have hr2 := (HR1.out.alloc HS1.out _).grown hg1 (by have := HS1.out; simp; omega) (own_block HOWN1.out); clear hg1))
          | ((with_reducible show wpList _ _ _ (({ dst := some 36, op := _, type := _, pos := _, after := _, guard := _ } : Oper) :: _) _ _); go_must (refine wpList_from rfl (.tmp 34) (.tmp 35) rfl Tryz.underlying22 size_u8r w.heap.size _ m c q (bvs r) rfl rfl hr2 (by rw [bvs_length]; exact HN.out.1.1) hnc (by have := HN.out; omega) ?_; intro A' c' hc' hrd'; rw [bvs_drop] at hrd')))
        have hN := HN.out
        have hbv : bvs (out ++ [UInt8.ofNat (q + 125), x]) = bvs out ++ [.int .u8 ((q : Int) + 125), .int .u8 (x.toNat : Int)] := by
          rw [bvs_append]
          congr 1
          show [Value.int .u8 ((UInt8.ofNat (q + 125)).toNat : Int), _] = _
          rw [← u8_of (q + 125) (by omega)]
          rfl
        refine ⟨⟨k + q, A', c', out ++ [UInt8.ofNat (q + 125), x], by omega, ?_, by omega, ?_, ?_, Lib.hid ?_, ?_, hb1'⟩, ?_⟩
        · rw [show l.length - (k + q) = m - q by omega]
        · rw [← HD.out]; exact hrd'
        · rw [hbv, List.length_append]; exact hown1
        · rw [← HD.out, List.append_assoc]; exact HO1.out
        · rw [List.length_append]; simp only [List.length_cons, List.length_nil]; omega
        · simp only [lenOf]; omega
      | false =>
        have hne : r ≠ [] := by intro e; rw [e] at hrl; simp at hrl; omega
        have hq3i : decide ((q : Int) ≥ 3) = false := by
          rw [decide_eq_false_iff_not]
          intro g
          have := h3.1 (by omega)
          rw [h] at this
          cases this
        have C2 := Lib.hid fun (w1 : World) (hr1 : Rd w1 w1.heap.size A (bvs r)) => apart_any A m c r w1 hr1 hrl hnc hm0 (by omega)
        have hpk := packL_apart h hne
        have hp := apartN_pos (m := 127) h hne
        rw [← hp] at C2
        have hp1 := apartN_le 128 r
        have hp2 := apartN_most 128 r
        obtain ⟨p, hpp⟩ : ∃ p, p = apartN 128 r := ⟨_, rfl⟩
        rw [← hpp] at C2 hpk hp hp1 hp2
        have hp0 : 0 < p := by omega
        rw [hpk] at HO
        have HO1 := Lib.hid HO.out
        have HD := Lib.hid (show r.drop p = l.drop (k + p) by rw [hR, List.drop_drop])
        have HR := Lib.hid hr
        have HOWN := Lib.hid hown
        have HB := Lib.hid (And.intro hb hbs)
        have HN := Lib.hid (And.intro (And.intro hrl hm) (And.intro hk (And.intro hol (And.intro hm0 (And.intro hlt hn1)))))
        clear hr hown hb hbs hpk h hR hq h3 HO hrl hm hk hol hlt hn1 hm0 hpp hp hne h5 h6
        go_wp2_with fail
        refine C1.out.mono ?_
        rintro e w1 ⟨rfl, hb1⟩
        have HOWN1 := Lib.hid (own_kept HOWN.out hb1)
        have HR1 := Lib.hid (HR.out.below (hb1.mono HB.out.2))
        have HB1 := Lib.hid (HB.out.1.trans (hb1.mono HB.out.2))
        have HS1 := Lib.hid (HB1.out.size)
        have C3 := Lib.hid (C2.out w1 (HR1.out.more HS1.out))
        clear hb1 C1 HOWN HR HB C2
        go_wp2_with fail
        refine C3.out.mono ?_
        rintro e w2 ⟨rfl, hb2⟩
        have HOWN2 := Lib.hid (own_kept HOWN1.out hb2)
        have HR2 := Lib.hid (HR1.out.below (hb2.mono HS1.out))
        have HB2 := Lib.hid (HB1.out.trans (hb2.mono HS1.out))
        have HS2 := Lib.hid (HB2.out.size)
        have hA1 : out.length + 1 ≤ maxLen := by have := HN.out; simp only [maxLen]; omega
        have hA2 : (out.length + 1) * 1 ≤ 140737488355328 := by have := HN.out; omega
        have hA3 : out.length + 1 + p ≤ maxLen := by have := HN.out; simp only [maxLen]; omega
        have hA4 : (out.length + 1 + p) * 1 ≤ 140737488355328 := by have := HN.out; omega
        have hA5 : (bvs (r.take p)).length = p * 1 := by rw [bvs_length, List.length_take]; omega
        have hpm : p ≤ m := by have := HN.out; omega
        clear hb2 C3 HOWN1 HR1 HB1 HS1
        go_wp2_with (first
          | ((with_reducible show wpList _ _ _ (({ dst := some 28, op := _, type := _, pos := _, after := _, guard := _ } : Oper) :: _) _ _); go_must (refine wpList_app rfl (.tmp 23) (.tmp 27) 22 rfl w.heap.size 5 i0 (.int .u8 0) 1 1 Tryz.underlying22 hi hz0 hz1 hz2 rfl (by decide) _ _ _ rfl (HOWN2.out.alloc _) _ _ 1 1 _ rfl (Rd.new _ _ _) rfl (by intro u hu; simp at hu; subst hu; rfl) hA1 hA2 (by have := HS2.out; simp; omega) ?_; intro v1 w3 hown1 hg1; have hb3 : Below w.heap.size w w3 := (HB2.out.alloc HS2.out _).grown hg1 (by have := HS2.out; simp; omega) (own_block HOWN2.out); have hr3 := (HR2.out.alloc HS2.out _).grown hg1 (by have := HS2.out; simp; omega) (own_block HOWN2.out); clear hg1; have HOWN3 := Lib.hid hown1; have HB3 := Lib.hid hb3; have HS3 := Lib.hid hb3.size; have HR3 := Lib.hid hr3; clear hown1 hb3 hr3))
          | ((with_reducible show wpList _ _ _ (({ dst := some 33, op := _, type := _, pos := _, after := _, guard := _ } : Oper) :: _) _ _); go_must (refine wpList_app rfl (.tmp 29) (.tmp 32) 22 rfl w.heap.size 5 i0 (.int .u8 0) 1 1 Tryz.underlying22 hi hz0 hz1 hz2 rfl (by decide) _ _ _ rfl HOWN3.out w.heap.size A p _ (bvs (r.take p)) rfl (by have := HR3.out.take p; rwa [bvs_take] at this) hA5 (bvs_one _) hA3 hA4 HS3.out ?_; intro v2 w4 hown2 hg2; have hb4 : Below w.heap.size w w4 := HB3.out.grown hg2 HS3.out (own_block HOWN3.out); have hr4 := HR3.out.grown hg2 HS3.out (own_block HOWN3.out); clear hg2))
          | ((with_reducible show wpList _ _ _ (({ dst := some 36, op := _, type := _, pos := _, after := _, guard := _ } : Oper) :: _) _ _); go_must (refine wpList_from rfl (.tmp 34) (.tmp 35) rfl Tryz.underlying22 size_u8r w.heap.size _ m c p (bvs r) rfl rfl hr4 (by rw [bvs_length]; exact HN.out.1.1) hnc hpm ?_; intro A' c' hc' hrd'; rw [bvs_drop] at hrd')))
        have hN := HN.out
        have hbv : bvs (out ++ (UInt8.ofNat (p - 1) :: r.take p)) = bvs out ++ [.int .u8 ((p : Int) - 1)] ++ bvs (r.take p) := by
          rw [show UInt8.ofNat (p - 1) :: r.take p = [UInt8.ofNat (p - 1)] ++ r.take p from rfl, ← List.append_assoc, bvs_append, bvs_append]
          congr 2
          show [Value.int .u8 ((UInt8.ofNat (p - 1)).toNat : Int)] = _
          rw [← u8_of (p - 1) (by omega)]
          rw [show ((p - 1 : Nat) : Int) = (p : Int) - 1 by omega]
        have hll : (out ++ (UInt8.ofNat (p - 1) :: r.take p)).length = out.length + 1 + p := by rw [List.length_append, List.length_cons, List.length_take]; omega
        refine ⟨⟨k + p, A', c', out ++ (UInt8.ofNat (p - 1) :: r.take p), by omega, ?_, by omega, ?_, ?_, Lib.hid ?_, ?_, hb4⟩, ?_⟩
        · rw [show l.length - (k + p) = m - p by omega]
        · rw [← HD.out]; exact hrd'
        · rw [hbv, hll]; exact hown2
        · rw [← HD.out, List.append_assoc, List.cons_append]; exact HO1.out
        · rw [hll]; omega
        · simp only [lenOf]; omega
    · have hk' : k = l.length := by omega
      have hO := HO.out
      rw [hk', List.drop_length, packL_nil, List.append_nil] at hO
      have hz : l.length - k = 0 := by omega
      subst hO
      clear hlt hk hol HO hk'
      go_wp2_with fail
      go_ret
      exact ⟨_, rfl, IsBytes.of_own hown, hb⟩
end Go.Proofs.YtcenbaajojdjlaaGreatDoor
