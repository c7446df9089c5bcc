/- The walk of BitReads. -/
import Derived.Test.YtgchomeipmjifaaReadsGen
namespace Go.Proofs.Ytgchomeipmjifaa
open Go.RowKit

/-- What holds at the head of a round of BitReads. -/
def ReadsRel (w : World) (ss : List St) (gr gx : Nat) (i : Value) (wr : World) : Prop :=
  ∃ (k : Nat) (L : List Bool) (e : Nat), k ≤ ss.length ∧ i = .int .i64 k ∧ RdrIs wr gr L e ∧ RfrIs wr gx L e ∧ Below w.heap.size w wr

set_option maxHeartbeats 8000000 in
set_option maxRecDepth 100000 in
theorem bitReads_any (a0 : Option Addr) (len0 cap0 : Nat) (l : List UInt8) (a1 : Option Addr) (n cap1 : Nat) (ss : List St) (w : World) (hrd : Rd w w.heap.size a0 (bvs l)) (hl : l.length = len0) (hnil : a0 = none → cap0 = 0)
    (hr : RdSt w w.heap.size a1 ss) (_hok : ∀ s ∈ ss, StOk s) (hn : ss.length = n) (_hn1 : n ≤ 9223372036854775807) :
    Calls Try.prog 4 #[.slice a0 len0 cap0, .slice a1 n cap1] w (YesB w) := by
  by_cases h100 : (60 : Int) < n
  · go_enter Try.func4, Try.ntmps4
    go_wp2_with (go_at_call 11; refine (bitKnown_any _).mono ?_; rintro e w' ⟨rfl, hb⟩)
    go_ret
    exact ⟨rfl, hb⟩
  by_cases h300 : (300 : Int) < len0
  · go_enter Try.func4, Try.ntmps4
    go_wp2_with (go_at_call 11; refine (bitKnown_any _).mono ?_; rintro e w' ⟨rfl, hb⟩)
    go_ret
    exact ⟨rfl, hb⟩
  have HN := Lib.hid hn
  have HR := Lib.hid hr
  have HRD := Lib.hid hrd
  have HL := Lib.hid hl
  have HNIL := Lib.hid hnil
  clear hn hr hrd hl hnil
  go_enter Try.func4, Try.ntmps4
  go_wp2_with (first
    | (go_at_call 20; go_must (refine (read_any _ _ _ l _ HRD.out HL.out (by omega) HNIL.out).mono ?_; rintro e w1 ⟨gr, rfl, hgr, hrd1, hb1⟩; have HRD1 := Lib.hid hrd1; have HB1 := Lib.hid hb1; have HGR := Lib.hid hgr; have HRB := Lib.hid ((HRD.out.below hb1).more hb1.size); clear hrd1 hb1 hgr))
    | (go_at_call 21; go_must (refine (rfAll_any _ _ _ l _ HRB.out HL.out (by omega)).mono ?_; rintro e w2 ⟨vl, rfl, hown, ho⟩; obtain ⟨Al, cl, rfl, hcl, -, -⟩ := own_form hown; have HOWN := Lib.hid hown; have HO := Lib.hid ho; clear hown ho)))
  obtain ⟨gx, hgx⟩ : ∃ gx, gx = w2.heap.size := ⟨_, rfl⟩
  have hb2 : Below w.heap.size w w2 := HB1.out.trans ((HO.out.below (Nat.le_refl _)).mono HB1.out.size)
  have HGX : Hid (w.heap.size ≤ gx) := by rw [hgx]; exact hb2.size
  have hb3 : Below w.heap.size w (w2.alloc (.cells #[.slice Al (allBits l).length cl, .int .i64 0] 47)) := hb2.alloc hb2.size _
  have hr3 : RdrIs (w2.alloc (.cells #[.slice Al (allBits l).length cl, .int .i64 0] 47)) gr (allBits l) 0 := HRD1.out.only (B := 0) (ts := [3]) ((HO.out.base (Nat.zero_le _)).trans (OnlyT.of_below ((Below.refl _ _).alloc (Nat.le_refl _) _))) (by decide) (by decide)
  have hx3 : RfrIs (w2.alloc (.cells #[.slice Al (allBits l).length cl, .int .i64 0] 47)) gx (allBits l) 0 := by
    rw [hgx]
    exact ⟨Al, cl, heap_alloc_new w2 _, RdT.of_own (HOWN.out.alloc _), hcl, by rw [allBits_length, HL.out]; omega⟩
  have HST := Lib.hid (⟨0, _, 0, Nat.zero_le _, rfl, hr3, hx3, hb3⟩ : ReadsRel w ss gr gx (.int .i64 0) (w2.alloc (.cells #[.slice Al (allBits l).length cl, .int .i64 0] 47)))
  rw [← hgx]
  clear hgx hb2 hb3 hr3 hx3 HRB HOWN HO HRD1 HB1 hcl
  go_loopw [7] (ReadsRel w ss gr gx) (fun i _ => n - (intOf i).toNat)
  case atStart => exact HST.out
  case round =>
    clear HST HRD
    obtain ⟨k, L, e, hk, rfl, hrd, hrf, hb⟩ := hrel
    have hll : L.length ≤ 900000000 := by obtain ⟨_, _, _, _, _, h⟩ := hrf; exact h
    have hgrl : gr ≤ wr.heap.size := by obtain ⟨_, _, _, _, hb0, _⟩ := hrd; exact Nat.le_of_lt hb0.lt
    have HRD := Lib.hid hrd
    have HRF := Lib.hid hrf
    have HB := Lib.hid hb
    clear hrd hrf hb
    by_cases hlt : k < n
    · obtain ⟨s, hs⟩ : ∃ s, ss[k]? = some s := ⟨ss[k]'(by have := HN.out; omega), by simp⟩
      obtain ⟨b, off, rfl, hbl, h0, h1, h2, h3⟩ := (HR.out.below HB.out) k s hs
      obtain ⟨kind, v0, m, most⟩ := s
      simp only at h0 h1 h2 h3
      clear hs h1
      by_cases hk0 : kind = 0
      · subst hk0
        go_wp2
        obtain ⟨v, L', e', hpair⟩ := pairGet gr gx m L e
        have HP1 := Lib.hid hpair.1
        have HP2 := Lib.hid hpair.2
        have S0 : Hid (wr.cell? ⟨b, off + k * 4 + 2, none⟩ = some (.int .i64 m)) := h2
        have HRDA : Hid (RdrIs wr.drew gr L e) := HRD.out.only (OnlyT.refl 0 [] wr).drew (by simp) (by simp)
        have HRFA : Hid (RfrIs wr.drew gx L e) := HRF.out.only (OnlyT.refl 0 [] wr).drew (by simp) (by simp)
        clear hpair h0 h2 h3
        go_region_held3 (fun w' => w'.cell? ⟨b, off + k * 4 + 2, none⟩ = some (.int .i64 m)) (first | exact S0.out | exact S1.out | exact S2.out)
          (first
            | (go_at_call 22; refine (HP1.out _ HRDA.out).mono ?_; rintro x w1 ⟨rfl, hrd1, ho1⟩; have HRD1 := Lib.hid hrd1; have HRF1 := Lib.hid (HRFA.out.only ho1 (by decide) (by decide)); have hb1 := (HB.out.drew.trans ((ho1.below hgrl).mono HGR.out)); have HB1 := Lib.hid hb1; have S1 : Hid (w1.cell? ⟨b, off + k * 4 + 2, none⟩ = some (.int .i64 m)) := (((ho1.below hgrl).mono HGR.out).cell (p := ⟨b, _, none⟩) hbl).trans S0.out; clear hrd1 ho1 hb1)
            | (go_at_call 23; refine (HP2.out _ HRF1.out).mono ?_; rintro x w2 ⟨rfl, hrf2, ho2⟩; have HRF2 := Lib.hid hrf2; have HRD2 := Lib.hid (HRD1.out.only ho2 (by decide) (by decide)); have HB2 := Lib.hid (HB1.out.trans ((ho2.below (by have := HB1.out.size; have := HRF1.out; obtain ⟨_, _, hb0, _⟩ := this; exact Nat.le_of_lt hb0.lt)).mono HGX.out)); have S2 : Hid (w2.cell? ⟨b, off + k * 4 + 2, none⟩ = some (.int .i64 m)) := (((ho2.below (by have := HRF1.out; obtain ⟨_, _, hb0, _⟩ := this; exact Nat.le_of_lt hb0.lt)).mono HGX.out).cell (p := ⟨b, _, none⟩) hbl).trans S1.out; clear hrf2 ho2))
        go_wp2
        have HLL : Hid (L'.length ≤ 900000000) := by obtain ⟨_, _, _, _, _, h⟩ := HRF2.out; exact h
        obtain ⟨v1, hv1⟩ := sameLeft gr gx L' e'
        obtain ⟨v2, hv2⟩ := sameDone gr gx L' e' HLL.out
        have HV1 := Lib.hid hv1
        have HV2 := Lib.hid hv2
        clear hv1 hv2
        refine wp_region_grow [⟨66, [], .is (.bool true)⟩, ⟨67, [0], .is (.bool false)⟩, ⟨68, [1], .is (.bool false)⟩, ⟨69, [2], .is (.pointer (some ⟨gr, 0, none⟩))⟩,  ⟨70, [3, 2], .is (.int .i64 e')⟩, ⟨71, [2], .is (.pointer (some ⟨gx, 0, none⟩))⟩, ⟨72, [5, 2], .is (.pointer (some ⟨gx, 0, none⟩))⟩, ⟨73, [6, 2], .is (.pointer (some ⟨gx, 1, none⟩))⟩,  ⟨74, [7, 2], .is (.int .i64 e')⟩, ⟨75, [4, 8, 2], .is (.bool false)⟩, ⟨76, [2, 9], .is (.bool false)⟩, ⟨77, [10], .is (.bool false)⟩, ⟨78, [11], .is (.pointer (some ⟨gr, 0, none⟩))⟩,  ⟨79, [12, 11], .is (.int .i64 v1)⟩, ⟨80, [11], .is (.pointer (some ⟨gx, 0, none⟩))⟩, ⟨81, [14, 11], .is (.int .i64 v1)⟩, ⟨82, [13, 15, 11], .is (.bool false)⟩, ⟨83, [11, 16], .is (.bool false)⟩,  ⟨84, [17], .is (.bool false)⟩, ⟨85, [18], .is (.pointer (some ⟨gr, 0, none⟩))⟩, ⟨86, [19, 18], .is (.int .i64 v2)⟩, ⟨87, [18], .is (.pointer (some ⟨gx, 0, none⟩))⟩, ⟨88, [21, 18], .is (.int .i64 v2)⟩,  ⟨89, [20, 22, 18], .is (.bool false)⟩, ⟨90, [18, 23], .is (.bool false)⟩] [(8, .bool true), (5, .pointer (some ⟨gr, 0, none⟩)), (6, .pointer (some ⟨gx, 0, none⟩))] (by kernel_rfl) (by kernel_rfl) (by kernel_rfl) (by kernel_rfl) (by kernel_rfl) ⟨rfl, rfl, rfl, trivial⟩ ?_ ?_
        · have WR : ∀ w1 : World, Below w2.heap.size w2 w1 → RdrIs w1 gr L' e' := fun w1 hb => HRD2.out.only (OnlyT.of_below (B := 0) (ts := []) hb) (by simp) (by simp)
          have RD : ∀ w1 : World, Below w2.heap.size w2 w1 → RfrIs w1 gx L' e' := fun w1 hb => HRF2.out.only (OnlyT.of_below (B := 0) (ts := []) hb) (by simp) (by simp)
          have RC : ∀ w1 : World, Below w2.heap.size w2 w1 → w1.cell? ⟨gx, 1, none⟩ = some (.int .i64 e') := fun w1 hb => by
            obtain ⟨_, _, hb0, _⟩ := RD w1 hb
            have := hb0.cell 1
            simpa using this
          repeat' (first | exact OblGAll.nil | refine OblGAll.cons ?_ ?_)
          all_goals (intro ev yi w1 hB hc hf ho hn; simp only [OutsSay, NeedSay, rowAt, Fact.says, and_true] at ho hn)
          all_goals (try ((simp [OpSays, execOp, Region.wanted, Fact.says, boolOf, go_sem, ho, hn, hc, Below.refl]; done)))
          · rw [if_pos (by simp [Region.wanted, hn, boolOf])]
            exact says_call Try.call26 rfl hf (by simp only [List.map_toArray, List.map_cons, List.map_nil, hn]) ((rErr_is e' (WR w1 hB)).mono fun _ _ h => ⟨_, h.1, rfl, h.2 ▸ Below.refl _ _⟩)
          · rw [if_pos (by simp [Region.wanted, hn, boolOf])]
            simp [OpSays, execOp, go_sem, hn, RC w1 hB, Fact.says, Below.refl]
          · rw [if_pos (by simp [Region.wanted, hn, boolOf])]
            exact says_call Try.call27 rfl hf (by simp only [List.map_toArray, List.map_cons, List.map_nil, hn]) ((HV1.out.1 _ (WR w1 hB)).mono fun _ _ h => ⟨_, h.1, rfl, h.2⟩)
          · rw [if_pos (by simp [Region.wanted, hn, boolOf])]
            exact says_call Try.call28 rfl hf (by simp only [List.map_toArray, List.map_cons, List.map_nil, hn]) ((HV1.out.2 _ (RD w1 hB)).mono fun _ _ h => ⟨_, h.1, rfl, h.2⟩)
          · rw [if_pos (by simp [Region.wanted, hn, boolOf])]
            exact says_call Try.call29 rfl hf (by simp only [List.map_toArray, List.map_cons, List.map_nil, hn]) ((HV2.out.1 _ (WR w1 hB)).mono fun _ _ h => ⟨_, h.1, rfl, h.2⟩)
          · rw [if_pos (by simp [Region.wanted, hn, boolOf])]
            exact says_call Try.call30 rfl hf (by simp only [List.map_toArray, List.map_cons, List.map_nil, hn]) ((HV2.out.2 _ (RD w1 hB)).mono fun _ _ h => ⟨_, h.1, rfl, h.2⟩)
        · intro x w7 hb7 hx
          have h24 : x 24 = .bool false := hx 24 (by decide)
          have hrelN : ReadsRel w ss gr gx (.int .i64 ((k : Int) + 1)) w7 := ⟨k + 1, L', e', by have := HN.out; omega, by go_num, HRD2.out.only (OnlyT.of_below (B := 0) (ts := []) hb7) (by simp) (by simp), HRF2.out.only (OnlyT.of_below (B := 0) (ts := []) hb7) (by simp) (by simp), HB2.out.trans (hb7.mono HB2.out.size)⟩
          have HRELN := Lib.hid hrelN
          clear hx hrelN hb7
          simp only [layAll, h24, List.setIfInBounds_toArray, List.set_cons_succ, List.set_cons_zero]
          clear h24
          go_wp2
          go_roundw
          case rel => exact HRELN.out
          case measure => simp [intOf]; omega
      · have hk0f : (kind == 0) = false := by rw [beq_eq_false_iff_ne]; exact hk0
        go_wp2
        obtain ⟨v, L', e', hpair⟩ := pairOnes gr gx most L e
        have HP1 := Lib.hid hpair.1
        have HP2 := Lib.hid hpair.2
        have S0 : Hid (wr.cell? ⟨b, off + k * 4 + 3, none⟩ = some (.int .i64 most)) := h3
        have HRDA : Hid (RdrIs wr.drew gr L e) := HRD.out.only (OnlyT.refl 0 [] wr).drew (by simp) (by simp)
        have HRFA : Hid (RfrIs wr.drew gx L e) := HRF.out.only (OnlyT.refl 0 [] wr).drew (by simp) (by simp)
        clear hpair h0 h2 h3
        go_region_held3 (fun w' => w'.cell? ⟨b, off + k * 4 + 3, none⟩ = some (.int .i64 most)) (first | exact S0.out | exact S1.out | exact S2.out)
          (first
            | (go_at_call 24; refine (HP1.out _ HRDA.out).mono ?_; rintro x w1 ⟨rfl, hrd1, ho1⟩; have HRD1 := Lib.hid hrd1; have HRF1 := Lib.hid (HRFA.out.only ho1 (by decide) (by decide)); have hb1 := (HB.out.drew.trans ((ho1.below hgrl).mono HGR.out)); have HB1 := Lib.hid hb1; have S1 : Hid (w1.cell? ⟨b, off + k * 4 + 3, none⟩ = some (.int .i64 most)) := (((ho1.below hgrl).mono HGR.out).cell (p := ⟨b, _, none⟩) hbl).trans S0.out; clear hrd1 ho1 hb1)
            | (go_at_call 25; refine (HP2.out _ HRF1.out).mono ?_; rintro x w2 ⟨rfl, hrf2, ho2⟩; have HRF2 := Lib.hid hrf2; have HRD2 := Lib.hid (HRD1.out.only ho2 (by decide) (by decide)); have HB2 := Lib.hid (HB1.out.trans ((ho2.below (by have := HB1.out.size; have := HRF1.out; obtain ⟨_, _, hb0, _⟩ := this; exact Nat.le_of_lt hb0.lt)).mono HGX.out)); have S2 : Hid (w2.cell? ⟨b, off + k * 4 + 3, none⟩ = some (.int .i64 most)) := (((ho2.below (by have := HRF1.out; obtain ⟨_, _, hb0, _⟩ := this; exact Nat.le_of_lt hb0.lt)).mono HGX.out).cell (p := ⟨b, _, none⟩) hbl).trans S1.out; clear hrf2 ho2))
        go_wp2
        have HLL : Hid (L'.length ≤ 900000000) := by obtain ⟨_, _, _, _, _, h⟩ := HRF2.out; exact h
        obtain ⟨v1, hv1⟩ := sameLeft gr gx L' e'
        obtain ⟨v2, hv2⟩ := sameDone gr gx L' e' HLL.out
        have HV1 := Lib.hid hv1
        have HV2 := Lib.hid hv2
        clear hv1 hv2
        refine wp_region_grow [⟨66, [], .is (.bool true)⟩, ⟨67, [0], .is (.bool false)⟩, ⟨68, [1], .is (.bool false)⟩, ⟨69, [2], .is (.pointer (some ⟨gr, 0, none⟩))⟩,  ⟨70, [3, 2], .is (.int .i64 e')⟩, ⟨71, [2], .is (.pointer (some ⟨gx, 0, none⟩))⟩, ⟨72, [5, 2], .is (.pointer (some ⟨gx, 0, none⟩))⟩, ⟨73, [6, 2], .is (.pointer (some ⟨gx, 1, none⟩))⟩,  ⟨74, [7, 2], .is (.int .i64 e')⟩, ⟨75, [4, 8, 2], .is (.bool false)⟩, ⟨76, [2, 9], .is (.bool false)⟩, ⟨77, [10], .is (.bool false)⟩, ⟨78, [11], .is (.pointer (some ⟨gr, 0, none⟩))⟩,  ⟨79, [12, 11], .is (.int .i64 v1)⟩, ⟨80, [11], .is (.pointer (some ⟨gx, 0, none⟩))⟩, ⟨81, [14, 11], .is (.int .i64 v1)⟩, ⟨82, [13, 15, 11], .is (.bool false)⟩, ⟨83, [11, 16], .is (.bool false)⟩,  ⟨84, [17], .is (.bool false)⟩, ⟨85, [18], .is (.pointer (some ⟨gr, 0, none⟩))⟩, ⟨86, [19, 18], .is (.int .i64 v2)⟩, ⟨87, [18], .is (.pointer (some ⟨gx, 0, none⟩))⟩, ⟨88, [21, 18], .is (.int .i64 v2)⟩,  ⟨89, [20, 22, 18], .is (.bool false)⟩, ⟨90, [18, 23], .is (.bool false)⟩] [(8, .bool true), (5, .pointer (some ⟨gr, 0, none⟩)), (6, .pointer (some ⟨gx, 0, none⟩))] (by kernel_rfl) (by kernel_rfl) (by kernel_rfl) (by kernel_rfl) (by kernel_rfl) ⟨rfl, rfl, rfl, trivial⟩ ?_ ?_
        · have WR : ∀ w1 : World, Below w2.heap.size w2 w1 → RdrIs w1 gr L' e' := fun w1 hb => HRD2.out.only (OnlyT.of_below (B := 0) (ts := []) hb) (by simp) (by simp)
          have RD : ∀ w1 : World, Below w2.heap.size w2 w1 → RfrIs w1 gx L' e' := fun w1 hb => HRF2.out.only (OnlyT.of_below (B := 0) (ts := []) hb) (by simp) (by simp)
          have RC : ∀ w1 : World, Below w2.heap.size w2 w1 → w1.cell? ⟨gx, 1, none⟩ = some (.int .i64 e') := fun w1 hb => by
            obtain ⟨_, _, hb0, _⟩ := RD w1 hb
            have := hb0.cell 1
            simpa using this
          repeat' (first | exact OblGAll.nil | refine OblGAll.cons ?_ ?_)
          all_goals (intro ev yi w1 hB hc hf ho hn; simp only [OutsSay, NeedSay, rowAt, Fact.says, and_true] at ho hn)
          all_goals (try ((simp [OpSays, execOp, Region.wanted, Fact.says, boolOf, go_sem, ho, hn, hc, Below.refl]; done)))
          · rw [if_pos (by simp [Region.wanted, hn, boolOf])]
            exact says_call Try.call26 rfl hf (by simp only [List.map_toArray, List.map_cons, List.map_nil, hn]) ((rErr_is e' (WR w1 hB)).mono fun _ _ h => ⟨_, h.1, rfl, h.2 ▸ Below.refl _ _⟩)
          · rw [if_pos (by simp [Region.wanted, hn, boolOf])]
            simp [OpSays, execOp, go_sem, hn, RC w1 hB, Fact.says, Below.refl]
          · rw [if_pos (by simp [Region.wanted, hn, boolOf])]
            exact says_call Try.call27 rfl hf (by simp only [List.map_toArray, List.map_cons, List.map_nil, hn]) ((HV1.out.1 _ (WR w1 hB)).mono fun _ _ h => ⟨_, h.1, rfl, h.2⟩)
          · rw [if_pos (by simp [Region.wanted, hn, boolOf])]
            exact says_call Try.call28 rfl hf (by simp only [List.map_toArray, List.map_cons, List.map_nil, hn]) ((HV1.out.2 _ (RD w1 hB)).mono fun _ _ h => ⟨_, h.1, rfl, h.2⟩)
          · rw [if_pos (by simp [Region.wanted, hn, boolOf])]
            exact says_call Try.call29 rfl hf (by simp only [List.map_toArray, List.map_cons, List.map_nil, hn]) ((HV2.out.1 _ (WR w1 hB)).mono fun _ _ h => ⟨_, h.1, rfl, h.2⟩)
          · rw [if_pos (by simp [Region.wanted, hn, boolOf])]
            exact says_call Try.call30 rfl hf (by simp only [List.map_toArray, List.map_cons, List.map_nil, hn]) ((HV2.out.2 _ (RD w1 hB)).mono fun _ _ h => ⟨_, h.1, rfl, h.2⟩)
        · intro x w7 hb7 hx
          have h24 : x 24 = .bool false := hx 24 (by decide)
          have hrelN : ReadsRel w ss gr gx (.int .i64 ((k : Int) + 1)) w7 := ⟨k + 1, L', e', by have := HN.out; omega, by go_num, HRD2.out.only (OnlyT.of_below (B := 0) (ts := []) hb7) (by simp) (by simp), HRF2.out.only (OnlyT.of_below (B := 0) (ts := []) hb7) (by simp) (by simp), HB2.out.trans (hb7.mono HB2.out.size)⟩
          have HRELN := Lib.hid hrelN
          clear hx hrelN hb7
          simp only [layAll, h24, List.setIfInBounds_toArray, List.set_cons_succ, List.set_cons_zero]
          clear h24
          go_wp2
          go_roundw
          case rel => exact HRELN.out
          case measure => simp [intOf]; omega
    · obtain rfl : k = n := by have := HN.out; omega
      go_wp2_with (go_at_call 11; go_must (refine (bitKnown_any _).mono ?_; rintro e w' ⟨rfl, hb9⟩))
      go_ret
      exact ⟨rfl, HB.out.trans (hb9.mono HB.out.size)⟩
end Go.Proofs.Ytgchomeipmjifaa
