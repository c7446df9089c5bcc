/- Laws of layer 10: what comes back; what is all the same. -/
import Derived.Test.YtclhgjjehnmncaaRunsLaws
namespace Go.Proofs.Ytclhgjjehnmncaa
open Go.RowKit

theorem unp_of_pack (l : List UInt8) (hl : l.length ≤ 1000) (n : Int) : (n = (l.length : Int) ∧ unpackR (packL l) n = (l, 0)) ∨ (n ≠ (l.length : Int) ∧ (unpackR (packL l) n = ([], 2) ∨ unpackR (packL l) n = ([], 16))) := by
  unfold unpackR
  rw [unpack_pack]
  by_cases h : n = (l.length : Int)
  · left
    refine ⟨h, ?_⟩
    rw [if_neg (by omega)]
    simp only
    rw [if_pos h.symm]
  · right
    refine ⟨h, ?_⟩
    split
    · exact .inl rfl
    · simp only
      rw [if_neg (fun e => h e.symm)]
      exact .inr rfl
set_option maxHeartbeats 1000000 in
set_option maxRecDepth 100000 in
theorem runsBack_core (A : Option Addr) (c : Nat) (l : List UInt8) (n : Int) (w : World) (hr : Rd w w.heap.size A (bvs l)) (hnc : l.length ≤ c) (hs : (l.length : Int) ≤ 1000) :
    Calls Try.prog 5 #[.slice A l.length c, .int .i64 n] w (Yes w) := by
  have HR0 := Lib.hid (bytes_row hr rfl hnc)
  have hle := packL_le l
  have h1 : unpackR (packL l) (l.length : Int) = (l, 0) := by
    rcases unp_of_pack l (by omega) (l.length : Int) with h | h
    · exact h.2
    · exact absurd rfl h.1
  have h2 := unp_of_pack l (by omega) n
  have c1 := fun (v : Value) (w : World) (h : IsBytes l v w) => pPack_bytes l v w h (by omega)
  obtain ⟨Q, hQ⟩ : ∃ Q, Q = packL l := ⟨_, rfl⟩
  rw [← hQ] at c1 h1 h2 hle
  have C1 := Lib.hid c1
  have C2 := Lib.hid (fun (v : Value) (w : World) (h : IsBytes Q v w) => pUnp_bytes Q v (l.length : Int) w h (by omega) _ h1)
  have C3 := Lib.hid (fun (v : Value) (w : World) (h : IsBytes Q v w) (R : List UInt8 × Nat) (hR : unpackR Q n = R) => pUnp_bytes Q v n w h (by omega) R hR)
  have H2 := Lib.hid h2
  clear hr hnc hle h1 h2 c1 hQ
  go_enter Try.func5, Try.ntmps5
  go_wp2_with fail
  refine (C1.out _ _ HR0.out).mono ?_
  rintro e w1 ⟨v1, rfl, hv1, hb1⟩
  have HR1 := Lib.hid (HR0.out.grow hb1)
  have HV1 := Lib.hid hv1
  have HB1 := Lib.hid hb1
  clear hv1 hb1 C1 HR0
  go_wp2_with fail
  refine (C2.out _ _ HV1.out).mono ?_
  rintro e w2 ⟨v2, rfl, hv2, hb2⟩
  have HR2 := Lib.hid (HR1.out.grow hb2)
  have HV2 := Lib.hid (HV1.out.grow hb2)
  have HX2 := Lib.hid hv2
  have HB2 := Lib.hid (HB1.out.trans (hb2.mono HB1.out.size))
  clear hv2 hb2 C2 HR1 HV1 HB1
  rcases H2.out with ⟨hn, h⟩ | ⟨hn, h | h⟩
  · have C := Lib.hid (C3.out v1 w2 HV2.out _ h)
    have hni : (n == (l.length : Int)) = true := by rw [beq_iff_eq]; exact hn
    have HN := Lib.hid hn
    clear hn
    clear C3 H2 HV2 h
    go_wp2_with fail
    refine C.out.mono ?_
    rintro e w3 ⟨v3, rfl, -, hb3⟩
    have HR3 := Lib.hid (HR2.out.grow hb3)
    have HX3 := Lib.hid (HX2.out.grow hb3)
    have HB3 := Lib.hid (HB2.out.trans (hb3.mono HB2.out.size))
    clear hb3 HR2 HX2 HB2
    go_wp2_with (first
      | ((with_reducible show wpList _ _ _ (({ dst := some 33, op := _, type := _, pos := _, after := _, guard := _ } : Oper) :: _) _ _); go_must (refine wpList_strW rfl 22 9 5 (.tmp 32) rfl Try.underlying22 Try.underlying5 Try.underlying9 _ HX3.out ?_))
      | ((with_reducible show wpList _ _ _ (({ dst := some 35, op := _, type := _, pos := _, after := _, guard := _ } : Oper) :: _) _ _); go_must (refine wpList_strW rfl 22 9 5 (.tmp 34) rfl Try.underlying22 Try.underlying5 Try.underlying9 _ HR3.out ?_))
      | (go_at_call 7; go_must (refine (runsKnown_any _).mono ?_; rintro e w4 ⟨rfl, hb4⟩)))
    go_ret
    exact ⟨rfl, HB3.out.trans (hb4.mono HB3.out.size)⟩
  · have C := Lib.hid (C3.out v1 w2 HV2.out _ h)
    have hni : (n == (l.length : Int)) = false := by rw [beq_eq_false_iff_ne]; exact hn
    clear hn
    clear C3 H2 HV2 h
    go_wp2_with fail
    refine C.out.mono ?_
    rintro e w3 ⟨v3, rfl, -, hb3⟩
    have HR3 := Lib.hid (HR2.out.grow hb3)
    have HX3 := Lib.hid (HX2.out.grow hb3)
    have HB3 := Lib.hid (HB2.out.trans (hb3.mono HB2.out.size))
    clear hb3 HR2 HX2 HB2
    go_wp2_with (first
      | ((with_reducible show wpList _ _ _ (({ dst := some 33, op := _, type := _, pos := _, after := _, guard := _ } : Oper) :: _) _ _); go_must (refine wpList_strW rfl 22 9 5 (.tmp 32) rfl Try.underlying22 Try.underlying5 Try.underlying9 _ HX3.out ?_))
      | ((with_reducible show wpList _ _ _ (({ dst := some 35, op := _, type := _, pos := _, after := _, guard := _ } : Oper) :: _) _ _); go_must (refine wpList_strW rfl 22 9 5 (.tmp 34) rfl Try.underlying22 Try.underlying5 Try.underlying9 _ HR3.out ?_))
      | (go_at_call 7; go_must (refine (runsKnown_any _).mono ?_; rintro e w4 ⟨rfl, hb4⟩)))
    go_ret
    exact ⟨rfl, HB3.out.trans (hb4.mono HB3.out.size)⟩
  · have C := Lib.hid (C3.out v1 w2 HV2.out _ h)
    have hni : (n == (l.length : Int)) = false := by rw [beq_eq_false_iff_ne]; exact hn
    clear hn
    clear C3 H2 HV2 h
    go_wp2_with fail
    refine C.out.mono ?_
    rintro e w3 ⟨v3, rfl, -, hb3⟩
    have HR3 := Lib.hid (HR2.out.grow hb3)
    have HX3 := Lib.hid (HX2.out.grow hb3)
    have HB3 := Lib.hid (HB2.out.trans (hb3.mono HB2.out.size))
    clear hb3 HR2 HX2 HB2
    go_wp2_with (first
      | ((with_reducible show wpList _ _ _ (({ dst := some 33, op := _, type := _, pos := _, after := _, guard := _ } : Oper) :: _) _ _); go_must (refine wpList_strW rfl 22 9 5 (.tmp 32) rfl Try.underlying22 Try.underlying5 Try.underlying9 _ HX3.out ?_))
      | ((with_reducible show wpList _ _ _ (({ dst := some 35, op := _, type := _, pos := _, after := _, guard := _ } : Oper) :: _) _ _); go_must (refine wpList_strW rfl 22 9 5 (.tmp 34) rfl Try.underlying22 Try.underlying5 Try.underlying9 _ HR3.out ?_))
      | (go_at_call 7; go_must (refine (runsKnown_any _).mono ?_; rintro e w4 ⟨rfl, hb4⟩)))
    go_ret
    exact ⟨rfl, HB3.out.trans (hb4.mono HB3.out.size)⟩
theorem runsBack_law (A : Option Addr) (n0 c : Nat) (l : List UInt8) (n : Int) (w : World) (hr : Rd w w.heap.size A (bvs l)) (hn : l.length = n0) (hnc : n0 ≤ c) :
    Calls Try.prog 5 #[.slice A n0 c, .int .i64 n] w (Yes w) := by
  subst hn
  by_cases hs : (l.length : Int) ≤ 1000
  · exact runsBack_core A c l n w hr hnc hs
  · clear hr
    go_enter Try.func5, Try.ntmps5
    go_wp2_with (go_at_call 7; go_must (refine (runsKnown_any _).mono ?_; rintro e w' ⟨rfl, hb⟩))
    go_ret
    exact ⟨rfl, hb⟩
theorem fill_set (c : UInt8) (k m : Nat) (h : k < m) : (bvs (List.replicate k c ++ List.replicate (m - k) 0)).set k (.int .u8 (c.toNat : Int)) = bvs (List.replicate (k + 1) c ++ List.replicate (m - (k + 1)) 0) := by
  rw [show m - k = (m - (k + 1)) + 1 by omega, List.replicate_succ (n := m - (k + 1))]
  simp only [bvs, List.map_append, List.map_cons, List.map_replicate]
  rw [List.set_append_right _ _ (by simp), List.length_replicate, Nat.sub_self, List.set_cons_zero, List.replicate_succ' (n := k), List.append_assoc]
  rfl
/-- What holds at the head of a round. -/
def StillRel (w : World) (c : UInt8) (m : Nat) (i : Value) (wr : World) : Prop :=
  ∃ k : Nat, k ≤ m ∧ i = .int .i64 (k : Int) ∧ Blk wr w.heap.size 5 (bvs (List.replicate k c ++ List.replicate (m - k) 0)) ∧ Below w.heap.size w wr
set_option maxHeartbeats 1000000 in
set_option maxRecDepth 100000 in
theorem runsStill_law (c : UInt8) (u : Nat) (w : World) :
    Calls Try.prog 6 #[.int .u8 (c.toNat : Int), .int .u16 (u : Int)] w (Yes w) := by
  obtain ⟨i0, hi, hz0, hz1, hz2⟩ := info_parts info_u8q
  obtain ⟨m, hm⟩ : ∃ m, m = u % 2000 := ⟨_, rfl⟩
  have hm2 : m ≤ 1999 := by omega
  have hmi : (u : Int) % 2000 = (m : Int) := by omega
  clear hm
  go_enter Try.func6, Try.ntmps6
  go_wp2_with (at_make; go_must (refine wpList_mk rfl (.tmp 13) (.tmp 13) 22 rfl w.heap.size 5 i0 (.int .u8 0) 1 Try.underlying22 hi hz0 rfl hz1 hz2 .i64 .i64 _ _ rfl rfl m m (by omega) (by omega) (by omega) (by omega) (by simp only [maxLen]; omega) (Nat.le_refl _) ?_; intro w1 hg1 hown1 hgr1; have hb1 : Below w.heap.size w w1 := (Below.refl _ _).grown hgr1 (Nat.le_refl _) (by simp); have hblk : Blk w1 w.heap.size 5 (bvs (List.replicate 0 c ++ List.replicate (m - 0) 0)) := (by unfold Blk; rw [hg1]; simp [bvs]); clear hg1 hgr1 hown1))
  have HBLK := Lib.hid hblk
  have HB1 := Lib.hid hb1
  clear hblk hb1
  go_loopw [7] (StillRel w c m) (fun i _ => m - (intOf i).toNat)
  case atStart => exact ⟨0, Nat.zero_le _, rfl, HBLK.out, HB1.out⟩
  case round =>
    clear HBLK HB1
    obtain ⟨k, hk, rfl, hblk, hb⟩ := hrel
    have hbs := hb.size
    by_cases hlt : k < m
    · obtain ⟨x, hx⟩ : ∃ x, (bvs (List.replicate k c ++ List.replicate (m - k) 0))[k]? = some x := ⟨.int .u8 0, by rw [bvs, List.getElem?_map, List.getElem?_append_right (by simp), List.length_replicate, Nat.sub_self, List.getElem?_replicate, if_pos (by omega)]; rfl⟩
      have hcr := (hblk.cell k).trans hx
      have hfr := hblk.frozen k
      have hst := hblk.set_ k (.int .u8 (c.toNat : Int))
      rw [fill_set c k m hlt] at hst
      have HST := Lib.hid hst
      have HB := Lib.hid (hb.setCell (p := ⟨w.heap.size, k, none⟩) (Nat.le_refl _) (.int .u8 (c.toNat : Int)))
      have hki : (k : Int) < (m : Int) := by omega
      clear hblk hb hst hx hbs
      go_wp2_with fail
      go_roundw
      case rel => exact ⟨k + 1, hlt, by go_num, HST.out, HB.out⟩
      case measure => simp [intOf]; omega
    · obtain rfl : k = m := by omega
      have hlen := pack_rep c k
      rw [Nat.sub_self, List.replicate_zero, List.append_nil] at hblk
      have hv : IsBytes (List.replicate k c) (.slice (some ⟨w.heap.size, 0, none⟩) k k) wr := bytes_row (Rd.of_blk hblk) (by simp) (Nat.le_refl _)
      have C1 := Lib.hid (pPack_bytes (List.replicate k c) _ wr hv (by simp; omega))
      have HB := Lib.hid hb
      obtain ⟨Q, hQ⟩ : ∃ Q, Q = packL (List.replicate k c) := ⟨_, rfl⟩
      rw [← hQ] at C1 hlen
      unfold stillN at hlen
      have hki : ¬ (k : Int) < (k : Int) := by omega
      clear hblk hb hbs hv hQ hlt hk
      obtain ⟨q, hq⟩ : ∃ q, q = k % 130 := ⟨_, rfl⟩
      have hqi : (k : Int) % 130 = (q : Int) := by omega
      rw [← hq] at hlen
      obtain ⟨d, hd⟩ : ∃ d, d = k / 130 := ⟨_, rfl⟩
      have hdi : (k : Int) / 130 = (d : Int) := by omega
      have hd2 : (d : Int) ≤ 100 := by omega
      have hd0 : (0 : Int) ≤ (d : Int) := by omega
      have hq2 : (q : Int) < 130 := by omega
      rw [← hd] at hlen
      clear hq hd
      rcases (show 3 ≤ q ∨ (0 < q ∧ q < 3) ∨ q = 0 by omega) with g | ⟨g, g'⟩ | g
      · have g3 : (3 : Int) ≤ (q : Int) := by omega
        rw [if_pos g] at hlen
        have hli : ((Q.length : Int) == (d : Int) * 2 + 2) = true := by rw [beq_iff_eq]; omega
        clear hlen g
        go_wp2_with fail
        refine C1.out.mono ?_
        rintro e w2 ⟨v, rfl, ⟨A2, c2, rfl, hc2, hv2⟩, hb2⟩
        have HB2 := Lib.hid (HB.out.trans (hb2.mono HB.out.size))
        clear hb2 hv2 C1 HB
        go_wp2_with (go_at_call 7; go_must (refine (runsKnown_any _).mono ?_; rintro e w3 ⟨rfl, hb3⟩))
        go_ret
        exact ⟨rfl, HB2.out.trans (hb3.mono HB2.out.size)⟩
      · have g3 : ¬ (3 : Int) ≤ (q : Int) := by omega
        have g0 : (0 : Int) < (q : Int) := by omega
        rw [if_neg (by omega), if_pos g] at hlen
        have hli : ((Q.length : Int) == (d : Int) * 2 + 1 + (q : Int)) = true := by rw [beq_iff_eq]; omega
        clear hlen g g'
        go_wp2_with fail
        refine C1.out.mono ?_
        rintro e w2 ⟨v, rfl, ⟨A2, c2, rfl, hc2, hv2⟩, hb2⟩
        have HB2 := Lib.hid (HB.out.trans (hb2.mono HB.out.size))
        clear hb2 hv2 C1 HB
        go_wp2_with (go_at_call 7; go_must (refine (runsKnown_any _).mono ?_; rintro e w3 ⟨rfl, hb3⟩))
        go_ret
        exact ⟨rfl, HB2.out.trans (hb3.mono HB2.out.size)⟩
      · have g3 : ¬ (3 : Int) ≤ (q : Int) := by omega
        have g0 : ¬ (0 : Int) < (q : Int) := by omega
        rw [if_neg (by omega), if_neg (by omega)] at hlen
        have hli : ((Q.length : Int) == (d : Int) * 2) = true := by rw [beq_iff_eq]; omega
        clear hlen g
        go_wp2_with fail
        refine C1.out.mono ?_
        rintro e w2 ⟨v, rfl, ⟨A2, c2, rfl, hc2, hv2⟩, hb2⟩
        have HB2 := Lib.hid (HB.out.trans (hb2.mono HB.out.size))
        clear hb2 hv2 C1 HB
        go_wp2_with (go_at_call 7; go_must (refine (runsKnown_any _).mono ?_; rintro e w3 ⟨rfl, hb3⟩))
        go_ret
        exact ⟨rfl, HB2.out.trans (hb3.mono HB2.out.size)⟩
end Go.Proofs.Ytclhgjjehnmncaa
