/- Contract of layer 10's reference: Unpack. -/
import Derived.Test.YtclhgjjehnmncaaRunsUnp
namespace Go.Proofs.Ytclhgjjehnmncaa
open Go.RowKit

/-- What holds at the head of a round. -/
def RUnpRel (w : World) (l : List UInt8) (v i : Value) (wr : World) : Prop :=
  ∃ (k : Nat) (out : List UInt8), k ≤ l.length ∧ i = .int .i64 (k : Int) ∧ wr.ownsRow w.heap.size 5 1 v out.length (bvs out) ∧ Hid (unpackL l = (unpackL (l.drop k)).map (out ++ ·)) ∧ out.length ≤ 130 * k ∧ Below w.heap.size w wr

set_option maxHeartbeats 4000000 in
set_option maxRecDepth 100000 in
theorem refUnpack_in (A : Option Addr) (n c : Nat) (l : List UInt8) (m : Nat) (hm : m ≤ 268435456) (w : World) (hr : Rd w w.heap.size A (bvs l)) (hn : l.length = n) (hnc : n ≤ c) (hn1 : n ≤ 100000000) :
    Calls Try.prog 13 #[.slice A n c, .int .i64 (m : Int)] w (UnpAns w (unpackR l (m : Int))) := by
  obtain ⟨i0, hi, hz0, hz1, hz2⟩ := info_parts info_u8q
  subst hn
  have h0 : ¬ (m : Int) < 0 := by omega
  have h1 : ¬ (268435456 : Int) < (m : Int) := by omega
  obtain ⟨R, hRR⟩ : ∃ R, R = unpackR l (m : Int) := ⟨_, rfl⟩
  have HRR := Lib.hid hRR
  rw [← hRR]
  clear hRR
  go_enter Try.func13, Try.ntmps13
  go_wp2_with fail
  go_loopw [6, 7, 8, 9] (fun v i _ _ wr => RUnpRel w l v i wr) (fun _ i _ _ _ => l.length - (intOf i).toNat)
  case atStart => exact ⟨0, [], Nat.zero_le _, rfl, World.ownsRow_nil _ _ _ _, Lib.hid (by simp), Nat.zero_le _, Below.refl _ _⟩
  case round =>
    obtain ⟨k, out, hk, rfl, hown, HO, hol, hb⟩ := hrel
    have hbs := hb.size
    by_cases hlt : k < l.length
    · obtain ⟨x, hx⟩ : ∃ x, x = l[k] := ⟨_, rfl⟩
      obtain ⟨t, ht⟩ : ∃ t, t = l.drop (k + 1) := ⟨_, rfl⟩
      have hR : l.drop k = x :: t := by rw [hx, ht]; exact List.drop_eq_getElem_cons hlt
      have hrl : t.length + 1 = l.length - k := by rw [← List.length_cons (a := x), ← hR, List.length_drop]
      obtain ⟨ab, ao, rfl, hab, hcell⟩ := hr.at_ (by rw [bvs_length]; omega)
      have hc0 := (hb.cell (p := ⟨ab, ao + k, none⟩) hab).trans (hcell k (.int .u8 (x.toNat : Int)) (by rw [hx]; exact bvs_get l k hlt))
      have hx8 := x.toNat_lt
      have hki : (k : Int) < (l.length : Int) := by omega
      have hlb : (l.length : Int) ≤ 100000000 := by omega
      have hk0 : (0 : Int) ≤ (k : Int) := by omega
      have hxi : (x.toNat : Int) ≤ 255 := by omega
      have hxi0 : (0 : Int) ≤ (x.toNat : Int) := by omega
      rw [hR] at HO
      have hstep := unpackL_step (x := x) (t := t)
      have hnone := unpackL_none (x := x) (t := t)
      have htl := toldL_len (x := x) (t := t)
      have hmy := manyN_le x
      by_cases h128 : x.toNat < 128
      · have hsz : sizeN x = x.toNat + 2 := by unfold sizeN; rw [if_pos h128]
        have hmn : manyN x = x.toNat + 1 := by unfold manyN; rw [if_pos h128]
        have hi128 : (x.toNat : Int) < 128 := by omega
        by_cases g : t.length < x.toNat + 1
        · have gi : decide ((k : Int) + 1 + (x.toNat : Int) ≥ (l.length : Int)) = true := by rw [decide_eq_true_eq]; omega
          have hun : unpackL l = none := by rw [HO.out, hnone (by omega)]; rfl
          have HA := Lib.hid (HRR.out ▸ unp_not (m := m) hb hm (l := l) (fun o ho => by rw [hun] at ho; cases ho))
          clear hr hown HO hstep hnone htl hun g hR hnc hb hbs hrl hol hcell hx ht hsz hmn hmy h128 hlt hk hx8 hn1
          go_wp2_with fail
          go_ret2
          exact HA.out
        · have gi : decide ((k : Int) + 1 + (x.toNat : Int) ≥ (l.length : Int)) = false := by rw [decide_eq_false_iff_not]; omega
          have hq : sizeN x ≤ t.length + 1 := by omega
          have HST := Lib.hid (hstep hq)
          have HTL := Lib.hid (htl hq)
          have HTO := Lib.hid (show toldL x t = t.take (x.toNat + 1) by unfold toldL; rw [if_pos h128])
          have HD := Lib.hid (show (x :: t).drop (sizeN x) = l.drop (k + 2 + x.toNat) by rw [← hR, List.drop_drop, hsz]; congr 1; omega)
          have hrt : Rd w w.heap.size ((some ⟨ab, ao, none⟩ : Option Addr).map (·.add (k + 1))) (bvs (t.take (x.toNat + 1))) := by have := (hr.drop (k + 1)).take (x.toNat + 1); rwa [bvs_drop, bvs_take, ← ht] at this
          have HRT := Lib.hid (hrt.below hb)
          have HN := Lib.hid (And.intro hrl (And.intro hk (And.intro hol (And.intro hlt (And.intro hsz (And.intro hmn g))))))
          have HOWN := Lib.hid hown
          have HB := Lib.hid (And.intro hb hbs)
          clear hr hown HRR hstep hnone htl g hR hb hbs hrl hol hcell hx ht hsz hmn hmy h128 hlt hk hx8 hrt hq
          have hkc : ¬ c = k + 1 := by have := HN.out; omega
          have hkc2 : (k : Int) + 2 + (x.toNat : Int) ≤ (c : Int) := by have := HN.out; omega
          have hA1 : out.length + (k + 2 + x.toNat - (k + 1)) ≤ maxLen := by have := HN.out; simp only [maxLen]; omega
          have hA2 : (out.length + (k + 2 + x.toNat - (k + 1))) * 1 ≤ 140737488355328 := by have := HN.out; omega
          have hA3 : (bvs (t.take (x.toNat + 1))).length = (k + 2 + x.toNat - (k + 1)) * 1 := by rw [bvs_length, List.length_take]; have := HN.out; omega
          have HA := Lib.hid (And.intro hA1 (And.intro hA2 hA3))
          clear hA1 hA2 hA3
          go_wp2_with ((with_reducible show wpList _ _ _ (({ dst := some 43, op := _, type := _, pos := _, after := _, guard := _ } : Oper) :: _) _ _); go_must (refine wpList_app rfl (.tmp 34) (.tmp 42) 22 rfl w.heap.size 5 i0 (.int .u8 0) 1 1 Try.underlying22 hi hz0 hz1 hz2 rfl (by decide) _ _ _ rfl HOWN.out w.heap.size (some ⟨ab, ao + (k + 1), none⟩) (k + 2 + x.toNat - (k + 1)) _ (bvs (t.take (x.toNat + 1))) rfl HRT.out HA.out.2.2 (bvs_one _) HA.out.1 HA.out.2.1 HB.out.2 ?_; intro v1 w1 hown1 hg1; have hb1 : Below w.heap.size w w1 := HB.out.1.grown hg1 HB.out.2 (own_block HOWN.out); clear hg1))
          go_roundw
          case rel =>
            have hN := HN.out
            refine ⟨k + 2 + x.toNat, out ++ toldL x t, by omega, by go_num, ?_, Lib.hid ?_, ?_, hb1⟩
            · rw [← bvs_append, ← HTO.out] at hown1
              rw [List.length_append, HTL.out, hN.2.2.2.2.2.1]
              rw [show k + 2 + x.toNat - (k + 1) = x.toNat + 1 by omega] at hown1
              exact hown1
            · rw [HO.out, HST.out, HD.out, Option.map_map]
              congr 1
              funext u
              simp
            · rw [List.length_append, HTL.out]; omega
          case measure => have hN := HN.out; simp [intOf]; omega
      · have hsz : sizeN x = 2 := by unfold sizeN; rw [if_neg h128]
        have hmn : manyN x = x.toNat - 125 := by unfold manyN; rw [if_neg h128]
        have hi128 : ¬ (x.toNat : Int) < 128 := by omega
        by_cases g : t.length < 1
        · have gi : decide ((k : Int) + 1 ≥ (l.length : Int)) = true := by rw [decide_eq_true_eq]; omega
          have hun : unpackL l = none := by rw [HO.out, hnone (by omega)]; rfl
          have HA := Lib.hid (HRR.out ▸ unp_not (m := m) hb hm (l := l) (fun o ho => by rw [hun] at ho; cases ho))
          clear hr hown HO hstep hnone htl hun g hR hnc hb hbs hrl hol hcell hx ht hsz hmn hmy h128 hlt hk hx8 hn1
          go_wp2_with fail
          go_ret2
          exact HA.out
        · have gi : decide ((k : Int) + 1 ≥ (l.length : Int)) = false := by rw [decide_eq_false_iff_not]; omega
          have hq : sizeN x ≤ t.length + 1 := by omega
          obtain ⟨y, hy⟩ : ∃ y, l[k + 1]? = some y := ⟨l[k + 1]'(by omega), by simp⟩
          have hty : t.headD 0 = y := by
            rw [ht, List.headD_eq_head?_getD, List.head?_drop, hy]
            rfl
          have HCY := Lib.hid (show w.cell? ⟨ab, ao + (k + 1), none⟩ = some (.int .u8 (y.toNat : Int)) from hcell (k + 1) _ (by simp [bvs, hy]))
          have HST := Lib.hid (hstep hq)
          have HTL := Lib.hid (htl hq)
          obtain ⟨p, hp⟩ : ∃ p, p = x.toNat - 125 := ⟨_, rfl⟩
          have HTO := Lib.hid (show toldL x t = List.replicate p y by unfold toldL; rw [if_neg h128, hty, hp])
          have HD := Lib.hid (show (x :: t).drop (sizeN x) = l.drop (k + 2) by rw [← hR, List.drop_drop, hsz])
          have hpi : (x.toNat : Int) - 125 = (p : Int) := by omega
          have HN := Lib.hid (And.intro hrl (And.intro hk (And.intro hol (And.intro hlt (And.intro hsz (And.intro hmn (And.intro g (And.intro hmy hp))))))))
          have HOWN := Lib.hid hown
          have HB := Lib.hid (And.intro hb hbs)
          have hk1i : (k : Int) + 1 < (l.length : Int) := by omega
          clear hr hown HRR hstep hnone htl g hR hb hbs hrl hol hcell hx ht hsz hmn hmy h128 hlt hk hx8 hq hy hty hp
          go_wp2_with fail
          go_loopw [6, 9] (ToldRel w w.heap.size out y p) (fun _ i _ => p - (intOf i).toNat)
          case atStart => exact ⟨0, Nat.zero_le _, rfl, by simpa using HOWN.out, HB.out.1⟩
          case round =>
            obtain ⟨q, hq, rfl, hown, hbl⟩ := hrel
            have hbs := hbl.size
            by_cases hqp : q < p
            · have hqpi : (q : Int) < (x.toNat : Int) - 125 := by omega
              have hcy := (hbl.cell (p := ⟨ab, ao + (k + 1), none⟩) hab).trans HCY.out
              have hA1 : out.length + q + 1 ≤ maxLen := by have := HN.out; simp only [maxLen]; omega
              have hA2 : (out.length + q + 1) * 1 ≤ 140737488355328 := by have := HN.out; omega
              have HOWNq := Lib.hid hown
              have HBq := Lib.hid (And.intro hbl hbs)
              have HQ := Lib.hid (And.intro hq hqp)
              clear hown hbl hbs hq hqp
              go_wp2_with ((with_reducible show wpList _ _ _ (({ dst := some 66, op := _, type := _, pos := _, after := _, guard := _ } : Oper) :: _) _ _); go_must (refine wpList_app rfl (.tmp 59) (.tmp 65) 22 rfl w.heap.size 5 i0 (.int .u8 0) 1 1 Try.underlying22 hi hz0 hz1 hz2 rfl (by decide) _ _ _ rfl (HOWNq.out.alloc _) _ _ 1 1 _ rfl (Rd.new _ _ _) rfl (by intro u hu; simp at hu; subst hu; rfl) hA1 hA2 (by have := HBq.out.2; simp; omega) ?_; intro v1 w1 hown1 hg1; have hb1 : Below w.heap.size w w1 := (HBq.out.1.alloc HBq.out.2 _).grown hg1 (by have := HBq.out.2; simp; omega) (own_block HOWNq.out); clear hg1))
              have hown2 : w1.ownsRow w.heap.size 5 1 v1 (out.length + (q + 1)) (bvs (out ++ List.replicate (q + 1) y)) := by
                rw [bvs_rep, ← Nat.add_assoc]
                exact hown1
              clear hown1 hA1 hA2 HOWNq HBq
              go_roundw
              case rel => exact ⟨q + 1, HQ.out.2, by go_num, hown2, hb1⟩
              case measure => have := HQ.out; simp [intOf]; omega
            · have hqpi : ¬ (q : Int) < (x.toNat : Int) - 125 := by omega
              obtain rfl : q = p := by omega
              have HOWNq := Lib.hid hown
              have HBq := Lib.hid hbl
              clear hown hbl hbs hq hqp
              go_wp2_with fail
              go_roundw
              case rel =>
                have hN := HN.out
                refine ⟨k + 2, out ++ toldL x t, by omega, by go_num, ?_, Lib.hid ?_, ?_, HBq.out⟩
                · rw [List.length_append, HTL.out, hN.2.2.2.2.2.1, ← hN.2.2.2.2.2.2.2.2, HTO.out]
                  exact HOWNq.out
                · rw [HO.out, HST.out, HD.out, Option.map_map]
                  congr 1
                  funext u
                  simp
                · rw [List.length_append, HTL.out]; omega
              case measure => have hN := HN.out; simp [intOf]; omega
    · have hk' : k = l.length := by omega
      have hO := HO.out
      rw [hk', List.drop_length, unpackL_nil, Option.map_some, List.append_nil] at hO
      obtain ⟨A1, c1, rfl, ho1, ho2, -⟩ := own_form hown
      by_cases g : out.length = m
      · have gi : ((out.length : Int) != (m : Int)) = false := by rw [bne_eq_false_iff_eq]; omega
        have HA := Lib.hid (HRR.out ▸ unp_yes (m := m) hb hm (l := l) hO (by omega) (IsBytes.of_own hown))
        have hki : ¬ (k : Int) < (l.length : Int) := by omega
        have G := Lib.hid g
        clear hr hown HO hO hnc hb hbs hk' g hlt hk hol
        go_wp2_with fail
        go_ret2
        exact HA.out
      · have gi : ((out.length : Int) != (m : Int)) = true := by rw [bne_iff_ne]; omega
        have HA := Lib.hid (HRR.out ▸ unp_not (m := m) hb hm (l := l) (fun o ho => by rw [hO] at ho; injection ho with ho; subst ho; exact g))
        have hki : ¬ (k : Int) < (l.length : Int) := by omega
        clear hr hown HO hO hnc hb hbs hk' g hlt hk hol
        go_wp2_with fail
        go_ret2
        exact HA.out
theorem refUnpack_any (A : Option Addr) (n c : Nat) (l : List UInt8) (m : Int) (w : World) (hr : Rd w w.heap.size A (bvs l)) (hn : l.length = n) (hnc : n ≤ c) (hn1 : n ≤ 100000000) :
    Calls Try.prog 13 #[.slice A n c, .int .i64 m] w (UnpAns w (unpackR l m)) := by
  by_cases h : m < 0 ∨ 268435456 < m
  · rw [unpackR_arg h]
    clear hr hnc hn1
    by_cases h0 : m < 0
    · clear h
      go_enter Try.func13, Try.ntmps13
      go_wp2_with fail
      go_ret2
      exact ⟨_, rfl, ⟨none, 0, rfl, Nat.le_refl _, Rd.nil_ _ _ _⟩, Below.refl _ _⟩
    · have h1 : 268435456 < m := by omega
      clear h
      go_enter Try.func13, Try.ntmps13
      go_wp2_with fail
      go_ret2
      exact ⟨_, rfl, ⟨none, 0, rfl, Nat.le_refl _, Rd.nil_ _ _ _⟩, Below.refl _ _⟩
  · obtain ⟨q, rfl⟩ := Int.eq_ofNat_of_zero_le (show 0 ≤ m by omega)
    exact refUnpack_in A n c l q (by omega) w hr hn hnc hn1
end Go.Proofs.Ytclhgjjehnmncaa
