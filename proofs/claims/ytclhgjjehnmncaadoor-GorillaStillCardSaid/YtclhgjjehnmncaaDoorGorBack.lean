/- Laws of layer 9: what comes back; what is all the same. -/
import Derived.Test.YtclhgjjehnmncaaDoorGorLaws
namespace Go.Proofs.YtclhgjjehnmncaaDoor
open Go.RowKit

theorem own_empty (w : World) (base : Nat) (t : TypeId) (hb : base ≤ w.heap.size) : (w.alloc (.cells #[] t)).ownsRow base t 1 (.slice (some ⟨w.heap.size, 0, none⟩) 0 0) 0 [] :=
  ⟨by simp, .inr ⟨w.heap.size, 0, #[], rfl, hb, heap_alloc_new w _, Nat.le_refl _, Nat.zero_le _, rfl, rfl⟩⟩
theorem allBits_zeros (bs : List UInt8) : allBits (bs ++ [0, 0]) = allBits bs ++ List.replicate 16 false := by
  apply List.ext_getElem?
  intro i
  rw [List.getElem?_append, allBits_length]
  rcases Nat.lt_or_ge i (8 * bs.length) with g | g
  · rw [if_pos g, allBits_get bs i g, allBits_get _ i (by simp; omega)]
    simp only [bitAt, List.getD_eq_getElem?_getD]
    rw [List.getElem?_append_left (by omega)]
  · rw [if_neg (by omega), List.getElem?_replicate]
    rcases Nat.lt_or_ge i (8 * bs.length + 16) with g2 | g2
    · rw [if_pos (by omega), allBits_get _ i (by simp; omega)]
      simp only [bitAt, List.getD_eq_getElem?_getD]
      rw [List.getElem?_append_right (by omega)]
      have : i / 8 - bs.length = 0 ∨ i / 8 - bs.length = 1 := by omega
      rcases this with h | h <;> rw [h] <;> simp
    · rw [if_neg (by omega), List.getElem?_eq_none (by rw [allBits_length]; simp; omega)]
theorem info_u8g : (Tryd.prog.info? 5).map (fun i => (i.zero, i.size, i.bytes)) = some (some (.int .u8 0), 1, 1) := by kernel_rfl
/-- What holds at the head of a round. -/
def GStillRel (w : World) (v n : Nat) (l i : Value) (wr : World) : Prop :=
  ∃ k : Nat, k ≤ n + 1 ∧ i = .int .i64 (k : Int) ∧ wr.ownsRow w.heap.size 34 1 l k (wvs (List.replicate k v)) ∧ Below w.heap.size w wr
set_option maxHeartbeats 1000000 in
set_option maxRecDepth 100000 in
theorem gorStill_core (V : Nat) (hV : IsW V) (v n u : Nat) (hv : v < 18446744073709551616) (hn : n ≤ 255) (w : World) (ht : TabA w) (hw : wrap64 (2 ^ (u % 4)) = (V : Int)) :
    Calls Tryd.prog 5 #[.int .u64 (v : Int), .int .u8 (n : Int), .int .u8 (u : Int)] w (Yes w) := by
  obtain ⟨i0, hi, hz0, hz1, hz2⟩ := info_parts info_u64r
  have hp := hV.pos
  have hni : (n : Int) ≤ 255 := by omega
  have hVi : (V : Int) ≤ 8 := by omega
  have HT := Lib.hid ht
  have HV := Lib.hid hV
  clear ht hV
  go_enter Tryd.func5, Tryd.ntmps5
  go_wp2_with fail
  simp only [hw]
  clear hw
  go_loopw [8, 9] (fun l i wr => GStillRel w v n l i wr) (fun _ i _ => n + 1 - (intOf i).toNat)
  case atStart => exact ⟨0, Nat.zero_le _, rfl, World.ownsRow_nil _ _ _ _, Below.refl _ _⟩
  case round =>
    obtain ⟨k, hk, rfl, hown, hb⟩ := hrel
    have hbs := hb.size
    by_cases hlt : k ≤ n
    · have hki : (k : Int) ≤ (n : Int) := by omega
      have HW := Lib.hid hown
      have HB := Lib.hid (And.intro hb hbs)
      have hA1 : k + 1 ≤ maxLen := by simp only [maxLen]; omega
      have hA2 : (k + 1) * 8 ≤ 140737488355328 := by omega
      clear hown hb hbs
      go_wp2_with ((with_reducible show wpList _ _ _ (({ dst := some 22, op := _, type := _, pos := _, after := _, guard := _ } : Oper) :: _) _ _); go_must (refine wpList_app rfl (.tmp 19) (.tmp 21) 22 rfl w.heap.size 34 i0 (.int .u64 0) 1 8 Tryd.underlying22 hi hz0 hz1 hz2 rfl (by decide) _ _ _ rfl (HW.out.alloc _) _ _ 1 1 _ rfl (Rd.new _ #[.int .u64 (v : Int)] _) rfl (one1 (.int .u64 (v : Int)) rfl) hA1 hA2 (by have := HB.out.2; simp; omega) ?_; intro v1 w1 hown1 hg1; have hb1 : Below w.heap.size w w1 := (HB.out.1.alloc HB.out.2 _).grown hg1 (by have := HB.out.2; simp; omega) (own_block HW.out); clear hg1))
      go_roundw
      case rel =>
        refine ⟨k + 1, by omega, by go_num, ?_, hb1⟩
        rw [List.replicate_succ', wvs_append]
        exact hown1
      case measure => simp [intOf]; omega
    · obtain rfl : k = n + 1 := by omega
      have hki : ¬ ((n + 1 : Nat) : Int) ≤ (n : Int) := by omega
      obtain ⟨A1, c1, rfl, -, -, -⟩ := own_form hown
      have C1 := Lib.hid (gorPack_right HV.out A1 (n + 1) c1 (List.replicate (n + 1) v) wr (Rd.of_own hown) (by simp) (by omega) (fun x hx => by rw [(List.mem_replicate.1 hx).2]; exact hv) (HT.out.grow hb))
      have HB := Lib.hid hb
      have HT1 := Lib.hid (HT.out.grow hb)
      have HK := Lib.hid (pack_still V v n)
      clear hown hb hbs hlt hk hv HT
      go_wp2_with fail
      refine C1.out.mono ?_
      rintro e w2 ⟨Q, hQ, v2, rfl, hown2, hb2⟩
      obtain ⟨A2, c2, rfl, -, -, -⟩ := own_form hown2
      have hql := hQ.1
      rw [HK.out] at hql
      have hli : ((Q.length : Int) == (V : Int) + ((n : Int) + 7) / 8) = true := by rw [beq_iff_eq]; omega
      have HB2 := Lib.hid (HB.out.trans (hb2.mono HB.out.size))
      have HT2 := Lib.hid (HT1.out.grow hb2)
      clear hown2 hb2 hQ hql C1 HT1 HB
      go_wp2_with (go_at_call 6; go_must (refine (gorKnown_any _ HT2.out).mono ?_; rintro e w3 ⟨rfl, hb3⟩))
      go_ret
      exact ⟨rfl, HB2.out.trans (hb3.mono HB2.out.size)⟩
theorem gorStill_law (v n u : Nat) (hv : v < 18446744073709551616) (hn : n ≤ 255) (w : World) (ht : TabA w) :
    Calls Tryd.prog 5 #[.int .u64 (v : Int), .int .u8 (n : Int), .int .u8 (u : Int)] w (Yes w) := by
  obtain ⟨V, hV, hw⟩ := width_of u
  exact gorStill_core V hV v n u hv hn w ht hw
set_option maxHeartbeats 2000000 in
set_option maxRecDepth 100000 in
theorem gorBack_core (V : Nat) (hV : IsW V) (A : Option Addr) (c : Nat) (l : List Nat) (u : Nat) (w : World) (hr : Rd w w.heap.size A (wvs l)) (hnc : l.length ≤ c) (hlt64 : ∀ x ∈ l, x < 18446744073709551616) (hs : (l.length : Int) ≤ 150) (ht : TabA w) (hw : wrap64 (2 ^ (u % 4)) = (V : Int)) :
    Calls Tryd.prog 4 #[.slice A l.length c, .int .u8 (u : Int)] w (Yes w) := by
  obtain ⟨i0, hi, hz0, hz1, hz2⟩ := info_parts info_u8g
  have hp := hV.pos
  have HR0 := Lib.hid (cells_row hr rfl hnc)
  have C1 := Lib.hid (gorPack_right hV A l.length c l w hr rfl (by omega) hlt64 ht)
  have C2 := Lib.hid (fun (bs : List UInt8) (v : Value) (p : Nat) (w' : World) (hv : IsRow bs v w') (hl : bs.length ≤ 1000000) (hp : p ≤ 1000) (hall : allBits bs = packB V l ++ List.replicate p false) => gorUnpack_right hV bs v p l l.length rfl w' hv hl (by omega) hp hall)
  have C3 := Lib.hid (fun (v : Value) (w' : World) (h : IsCells (wvs l) v w') => rFit_cells V hV l v w' h (by omega) hlt64)
  have hlen : (packB V l).length ≤ 100000 := by
    by_cases h0 : l = []
    · subst h0; simp [packB_nil]
    · have := (packB_len V l h0).2
      have h2 : (l.length - 1) * (8 * V + 14) ≤ 150 * 78 := Nat.mul_le_mul (by omega) (by omega)
      omega
  have HLEN := Lib.hid hlen
  have HT := Lib.hid ht
  have HLB := Lib.hid (show (fitW V l).length ≤ 100000 by rw [fitW_len]; omega)
  clear hr hnc hlt64 ht hlen hp hV
  go_enter Tryd.func4, Tryd.ntmps4
  go_wp2_with fail
  simp only [hw]
  clear hw
  refine C1.out.mono ?_
  rintro e w1 ⟨Q, hQ, v1, rfl, hown1, hb1⟩
  have hall := hQ.all
  have hQl := hQ.1
  obtain ⟨p, hpp⟩ : ∃ p, p = 8 * Q.length - (packB V l).length := ⟨_, rfl⟩
  rw [← hpp] at hall
  have hp8 : p < 8 := by omega
  have hQb : Q.length ≤ 20000 := by have := HLEN.out; omega
  have hall2 : allBits (Q ++ [0, 0]) = packB V l ++ List.replicate (p + 16) false := by rw [allBits_zeros, hall, List.append_assoc, List.replicate_append_replicate]
  have HROW := Lib.hid (IsRow.of_own hown1)
  obtain ⟨A1, c1, rfl, -, -, -⟩ := own_form hown1
  have HRQ := Lib.hid (Rd.of_own hown1)
  have HR1 := Lib.hid (HR0.out.grow hb1)
  have HB1 := Lib.hid hb1
  have HT1 := Lib.hid (HT.out.grow hb1)
  have HALL2 := Lib.hid (And.intro hall2 (And.intro hp8 hQb))
  have c4 := C2.out Q _ p w1 HROW.out (by omega) (by omega) hall
  have C4 := Lib.hid c4
  clear c4 hall hQl hpp hall2 hown1 hb1 hQ C1 HR0 HT hp8
  go_wp2_with fail
  refine C4.out.mono ?_
  rintro e w2 ⟨v2, f2, rfl, hb2, hf2, hv2⟩
  obtain rfl : f2 = 0 := by rw [hf2, if_pos HALL2.out.2.1]
  have HV2 := Lib.hid (hv2 HALL2.out.2.1)
  have HR2 := Lib.hid (HR1.out.grow hb2)
  have HRQ2 := Lib.hid ((HRQ.out.below hb2).more hb2.size)
  have HB2 := Lib.hid (HB1.out.trans (hb2.mono HB1.out.size))
  have HT2 := Lib.hid (HT1.out.grow hb2)
  clear hb2 hf2 hv2 C4 HR1 HRQ HB1 HT1 HROW
  go_wp2_with (first
    | ((with_reducible show wpList _ _ _ (({ dst := some 32, op := _, type := _, pos := _, after := _, guard := _ } : Oper) :: _) _ _); go_must (refine wpList_app rfl (.tmp 30) (.tmp 31) 24 rfl w2.heap.size 5 i0 (.int .u8 0) 1 1 Tryd.underlying24 hi hz0 hz1 hz2 rfl (by decide) _ _ _ rfl (own_empty w2 w2.heap.size 5 (Nat.le_refl _)) w2.heap.size A1 Q.length _ (bvs Q) rfl (HRQ2.out.below ((Below.refl _ _).alloc (Nat.le_refl _) _)) (by rw [bvs_length, Nat.mul_one]) (bvs_one _) (by simp only [maxLen]; omega) (by omega) (by simp) ?_; intro v3 w3 hown3 hg3; have hb3 : Below w2.heap.size w2 w3 := ((Below.refl _ _).alloc (Nat.le_refl _) _).grown hg3 (by simp) (own_block (own_empty w2 w2.heap.size 5 (Nat.le_refl _))); clear hg3; have HW3 := Lib.hid hown3; have HB3 := Lib.hid hb3; clear hown3 hb3))
    | ((with_reducible show wpList _ _ _ (({ dst := some 34, op := _, type := _, pos := _, after := _, guard := _ } : Oper) :: _) _ _); go_must (refine wpList_app rfl (.tmp 32) (.tmp 33) 24 rfl w2.heap.size 5 i0 (.int .u8 0) 1 1 Tryd.underlying24 hi hz0 hz1 hz2 rfl (by decide) _ _ _ rfl (HW3.out.alloc _) _ _ 2 2 _ rfl (Rd.new _ #[.int .u8 0, .int .u8 0] _) rfl (one2 (.int .u8 0) (.int .u8 0) rfl rfl) (by simp only [maxLen]; omega) (by omega) (by have := HB3.out.size; simp; omega) ?_; intro v4 w4 hown4 hg4; have hb4 : Below w2.heap.size w2 w4 := (HB3.out.alloc HB3.out.size _).grown hg4 (by have := HB3.out.size; simp; omega) (own_block HW3.out); clear hg4; have HW4 := Lib.hid hown4; have HB4 := Lib.hid hb4; clear hown4 hb4)))
  have hown5 : w4.ownsRow w2.heap.size 5 1 v4 (Q ++ [0, 0]).length (bvs (Q ++ [0, 0])) := by
    have h5 := HW4.out
    rw [List.length_append, bvs_append]
    have e5 : (([] : List Value) ++ bvs Q ++ #[Value.int .u8 0, Value.int .u8 0].toList) = bvs Q ++ bvs [0, 0] := rfl
    have e6 : 0 + Q.length + 2 = Q.length + ([0, 0] : List UInt8).length := by simp
    first
      | exact h5
      | (rw [← e6]; exact h5)
      | (rw [← e6, ← e5]; exact h5)
      | simpa using h5
      | (trace_state; fail)
  have HROW5 := Lib.hid (IsRow.of_own hown5)
  have C5 := Lib.hid (C2.out (Q ++ [0, 0]) v4 (p + 16) w4 HROW5.out (by simp; omega) (by have := HALL2.out.2.1; omega) HALL2.out.1)
  have HV4 := Lib.hid (HV2.out.grow HB4.out)
  have HR4 := Lib.hid (HR2.out.grow HB4.out)
  have HBB4 := Lib.hid (HB2.out.trans (HB4.out.mono HB2.out.size))
  have HT4 := Lib.hid (HT2.out.grow HB4.out)
  clear hown5 HW4 HW3 HB3 HB4 HV2 HR2 HB2 HT2 C2 HROW5 HRQ2
  refine C5.out.mono ?_
  rintro e w5 ⟨v5, f5, rfl, hb5, hf5, -⟩
  obtain rfl : f5 = 16 := by rw [hf5, if_neg (by omega)]
  have HV5 := Lib.hid (HV4.out.grow hb5)
  have HR5 := Lib.hid (HR4.out.grow hb5)
  have HB5 := Lib.hid (HBB4.out.trans (hb5.mono HBB4.out.size))
  have HT5 := Lib.hid (HT4.out.grow hb5)
  clear hb5 hf5 C5 HV4 HR4 HBB4 HT4
  go_wp2_with fail
  refine (C3.out _ _ HR5.out).mono ?_
  rintro e w6 ⟨v6, rfl, hv6, hb6⟩
  have C7 := Lib.hid (refSame_yes (fitW V l) HLB.out v2 v6 w6 (HV5.out.grow hb6) hv6)
  have HB6 := Lib.hid (HB5.out.trans (hb6.mono HB5.out.size))
  have HT6 := Lib.hid (HT5.out.grow hb6)
  clear hb6 hv6 C3 HV5 HR5 HB5 HT5
  go_wp2_with fail
  refine C7.out.mono ?_
  rintro e w7 ⟨rfl, hb7⟩
  have HB7 := Lib.hid (HB6.out.trans (hb7.mono HB6.out.size))
  have HT7 := Lib.hid (HT6.out.grow hb7)
  clear hb7 C7 HB6 HT6
  go_wp2_with fail
  refine (gorKnown_any _ HT7.out).mono ?_
  rintro e w8 ⟨rfl, hb8⟩
  have HB8 := Lib.hid (HB7.out.trans (hb8.mono HB7.out.size))
  clear hb8
  go_wp2
  go_ret
  exact ⟨rfl, HB8.out⟩
theorem gorBack_law (A : Option Addr) (n0 c : Nat) (l : List Nat) (u : Nat) (w : World) (hr : Rd w w.heap.size A (wvs l)) (hn : l.length = n0) (hnc : n0 ≤ c) (hlt64 : ∀ x ∈ l, x < 18446744073709551616) (ht : TabA w) :
    Calls Tryd.prog 4 #[.slice A n0 c, .int .u8 (u : Int)] w (Yes w) := by
  subst hn
  by_cases hs : (l.length : Int) ≤ 150
  · obtain ⟨V, hV, hw⟩ := width_of u
    exact gorBack_core V hV A c l u w hr hnc hlt64 hs ht hw
  · have HT := Lib.hid ht
    clear hr hlt64 ht
    go_enter Tryd.func4, Tryd.ntmps4
    go_wp2_with (go_at_call 6; go_must (refine (gorKnown_any _ HT.out).mono ?_; rintro e w' ⟨rfl, hb⟩))
    go_ret
    exact ⟨rfl, hb⟩
end Go.Proofs.YtclhgjjehnmncaaDoor
