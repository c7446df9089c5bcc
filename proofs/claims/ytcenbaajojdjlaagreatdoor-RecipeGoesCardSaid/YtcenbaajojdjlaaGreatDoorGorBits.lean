/- Contracts of layer 9's reference: Bits, Pack. -/
import Derived.Test.YtcenbaajojdjlaaGreatDoorGorRef
import Derived.Test.YtcenbaajojdjlaaGreatDoorGorPack
import Derived.Test.YtcenbaajojdjlaaGreatDoorRefByt
import Derived.Test.YtcenbaajojdjlaaGreatDoorFlipRef
import Derived.Deep.RegionWith
import Derived.Deep.RegionHeld3
import Derived.Deep.AppendLies
namespace Go.Proofs.YtcenbaajojdjlaaGreatDoor
open Go.RowKit

theorem ivs_bits (v n : Nat) : (ivs (bitsOf v n)).length = n := by rw [ivs_length, bitsOf_length]
theorem one2 (v u : Value) (h : v.oneCell' = true) (h' : u.oneCell' = true) : ∀ z ∈ #[v, u].toList, z.oneCell' = true := by
  intro z hz
  simp at hz
  rcases hz with rfl | rfl
  · exact h
  · exact h'
theorem one1i (v : Value) (h : v.oneCell' = true) : ∀ u ∈ #[v].toList, u.oneCell' = true := by
  intro u hu
  simp at hu
  subst hu
  exact h
/-- What holds at the head of a round. -/
def RGRel (w1 : World) (W : Nat) (X : List Nat) (v is hi lo i : Value) (wr : World) : Prop :=
  ∃ (k : Nat) (L : List Bool) (s : Win) (a b : Nat), k ≤ X.length ∧ i = .int .i64 (k : Int) ∧ wr.ownsRow w1.heap.size 3 1 v L.length (ivs L) ∧ is = .bool s.isSome ∧ hi = .int .i64 (a : Int) ∧ lo = .int .i64 (b : Int) ∧ (s = none ∨ s = some (a, b)) ∧ winOk W s ∧ a ≤ 64 ∧ b ≤ 64 ∧
    Below w1.heap.size w1 wr ∧ L.length ≤ k * 78 ∧ Hid ((k = 0 ∧ L = [] ∧ s = none) ∨ (0 < k ∧ L ++ gorL W s (X.drop k) = gorB W X))
set_option maxHeartbeats 8000000 in
set_option maxRecDepth 100000 in
theorem rBits_any {W : Nat} (hW : IsW W) (A : Option Addr) (n c : Nat) (ws : List Nat) (w : World) (hr : Rd w w.heap.size A (wvs ws)) (hn : ws.length = n) (hb1 : n ≤ 1000) (hlt64 : ∀ x ∈ ws, x < 18446744073709551616) :
    Calls Tryz.prog 76 #[.slice A n c, .int .i64 (W : Int)] w fun e w' => ∃ v, e = .returned v ∧ w'.ownsRow w.heap.size 3 1 v (packB W ws).length (ivs (packB W ws)) ∧ Below w.heap.size w w' ∧ (packB W ws).length ≤ 100000 := by
  obtain ⟨i0, hi, hz0, hz1, hz2⟩ := info_parts info_int
  subst hn
  have hp := hW.pos
  have C1 := Lib.hid (refFlip_right W hW A ws.length c ws w hr rfl (by omega) hlt64)
  have hXl := flipW_len W ws
  have hXt := flipW_lt W ws
  have hpk : packB W ws = gorB W (flipW W ws) := rfl
  obtain ⟨X, hX⟩ : ∃ X, X = flipW W ws := ⟨_, rfl⟩
  rw [← hX] at C1 hXl hXt hpk
  rw [hpk]
  have hXb : (X.length : Int) ≤ 1000 := by omega
  obtain ⟨w8, hw8⟩ : ∃ w8, w8 = 8 * W := ⟨_, rfl⟩
  have hV : 8 * (W : Int) = (w8 : Int) := by omega
  have hw64 : (w8 : Int) ≤ 64 := by omega
  have hw1 : (8 : Int) ≤ (w8 : Int) := by omega
  have HX := Lib.hid hXt
  have HP := Lib.hid (And.intro hp hw8)
  have HW := Lib.hid hW
  clear hX hXl hXt hpk hp hr hlt64 hW hw8
  go_enter Tryz.func76, Tryz.ntmps76
  go_wp2_with fail
  refine C1.out.mono ?_
  rintro e w1 ⟨v, rfl, ⟨A1, c1, rfl, hc1, hrX⟩, hbw⟩
  rw [wvs_length]
  have HRX := Lib.hid hrX
  have HBW := Lib.hid hbw
  rw [wvs_length] at hc1
  clear hrX hbw C1
  go_wp2_with fail
  try simp only [hV]
  clear hV
  go_loopw [5, 7, 8, 9, 11, 12, 13] (fun v is hi lo i _ _ wr => RGRel w1 W X v is hi lo i wr) (fun _ _ _ _ i _ _ _ => X.length - (intOf i).toNat)
  case atStart => exact ⟨0, [], none, 0, 0, Nat.zero_le _, rfl, World.ownsRow_nil _ _ _ _, rfl, rfl, rfl, .inl rfl, trivial, by omega, by omega, Below.refl _ _, Nat.zero_le _, Lib.hid (.inl ⟨rfl, rfl, rfl⟩)⟩
  case round =>
    obtain ⟨k, L, s, a0, b0, hk, rfl, hown, rfl, rfl, rfl, hs, hok, ha0, hb0, hbel, hll, HG⟩ := hrel
    by_cases hlt : k < X.length
    · obtain ⟨ab, ao, rfl, hab, hcell0⟩ := HRX.out k _ (wvs_get X k hlt)
      have hcell := (hbel.cell (p := ⟨ab, ao + k, none⟩) hab).trans hcell0
      have hx0 : X[k]? = some X[k] := by simp
      obtain ⟨x, hxx⟩ : ∃ x, x = X[k] := ⟨_, rfl⟩
      rw [← hxx] at hcell hcell0 hx0
      have hxl : x < 256 ^ W := by rw [hxx]; exact HX.out _ (List.getElem_mem _)
      have h864 : 256 ^ W ≤ 18446744073709551616 := by rcases HW.out with rfl | rfl | rfl | rfl <;> decide
      have hx64 : x < 18446744073709551616 := Nat.lt_of_lt_of_le hxl h864
      have hki : (k : Int) < (X.length : Int) := by omega
      have HCELL := Lib.hid hcell0
      have HAB := Lib.hid hab
      have HX0 := Lib.hid hx0
      have HW0 := Lib.hid hown
      have HB0 := Lib.hid hbel
      have HLN := Lib.hid (show L.length ≤ 80000 by omega)
      have HLL := Lib.hid (And.intro hll hlt)
      clear hxx hcell0 hx0 hown hbel hll hab h864 hk
      by_cases hk0 : k = 0
      · subst hk0
        have hg : L = [] ∧ s = none := by
          rcases HG.out with ⟨-, h1, h2⟩ | ⟨h1, -⟩
          · exact ⟨h1, h2⟩
          · omega
        obtain ⟨rfl, rfl⟩ := hg
        rw [Nat.add_zero] at hcell
        have C2 := Lib.hid (fun w' => rfBits_any x w8 w' hx64 (by omega))
        clear hx64 hxl hlt hs hok
        go_wp2_with fail
        refine (C2.out _).mono ?_
        rintro e w2 ⟨v2, rfl, hown2, ho2⟩
        rw [bitsOf_length] at hown2
        obtain ⟨A2, c2, rfl, hc2, -, -⟩ := own_form hown2
        have HR2 := Lib.hid (Rd.of_own hown2)
        have hb2 := ho2.below (Nat.le_refl _)
        have HW1 := Lib.hid (own_kept HW0.out hb2)
        have HB1 := Lib.hid (HB0.out.trans (hb2.mono HB0.out.size))
        clear hown2 ho2 hb2 C2 HW0 HB0
        have hbl : (bitsOf x w8).length = w8 := bitsOf_length x w8
        go_wp2_with ((with_reducible show wpList _ _ _ (({ dst := some 33, op := _, type := _, pos := _, after := _, guard := _ } : Oper) :: _) _ _); go_must (refine wpList_app rfl (.tmp 27) (.tmp 32) 27 rfl w1.heap.size 3 i0 (.int .i64 0) 1 8 Tryz.underlying27 hi hz0 hz1 hz2 rfl (by decide) _ _ _ rfl HW1.out w2.heap.size A2 w8 c2 (ivs (bitsOf x w8)) rfl HR2.out (by rw [ivs_bits, Nat.mul_one]) (ivs_one _) (by simp only [maxLen]; have := HLN.out; omega) (by have := HLN.out; omega) HB1.out.size ?_; intro v3 w3x hown hgr; have hbn : Below w1.heap.size w1 w3x := HB1.out.grown hgr HB1.out.size (own_block HW1.out); clear hgr; have HW2 := Lib.hid hown; have HB2 := Lib.hid hbn; clear hown hbn))
        have hl := HLL.out.2
        have h1 := HP.out
        refine ⟨⟨0 + 1, bitsOf x w8, none, a0, b0, hl, by go_num, ?_, rfl, rfl, rfl, .inl rfl, trivial, ha0, hb0, HB2.out, by rw [hbl]; omega, Lib.hid (.inr ⟨by omega, ?_⟩)⟩, ?_⟩
        · have := HW2.out
          rw [hbl]
          simpa [ivs] using this
        · rw [gorB_first HX0.out, h1.2]
        · simp [intOf]; omega
      · have hki0 : ((k : Int) == 0) = false := by rw [beq_eq_false_iff_ne]; omega
        have hg : L ++ gorL W s (X.drop k) = gorB W X := by
          rcases HG.out with ⟨h1, -, -⟩ | ⟨-, h1⟩
          · exact absurd h1 hk0
          · exact h1
        rw [gorL_next HX0.out, ← List.append_assoc] at hg
        have hsl := stepB_len (W := W) (x := x) (s := s)
        have hs2 := nextW_ok (by have := HP.out; omega) hxl hok
        have HGG := Lib.hid hg
        have HSL := Lib.hid (And.intro hsl hs2)
        clear hg hsl hs2 HG hk0
        by_cases hx0 : x = 0
        · subst hx0
          have hn0 : nextW W s 0 = s := rfl
          have hb0' : stepB W s 0 = [false] := rfl
          rw [hn0, hb0'] at HGG
          have HS := Lib.hid (And.intro hs hok)
          clear hx64 hxl hlt hs hok hn0 hb0'
          go_wp2_with ((with_reducible show wpList _ _ _ (({ dst := some 41, op := _, type := _, pos := _, after := _, guard := _ } : Oper) :: _) _ _); go_must (refine wpList_app rfl (.tmp 39) (.tmp 40) 27 rfl w1.heap.size 3 i0 (.int .i64 0) 1 8 Tryz.underlying27 hi hz0 hz1 hz2 rfl (by decide) _ _ _ rfl (HW0.out.alloc _) _ _ 1 1 _ rfl (Rd.new _ #[.int .i64 0] _) rfl (one1i _ rfl) (by simp only [maxLen]; have := HLN.out; omega) (by have := HLN.out; omega) (by have := HB0.out.size; simp; omega) ?_; intro v3 w3x hown hgr; have hbn : Below w1.heap.size w1 w3x := (HB0.out.alloc HB0.out.size _).grown hgr (by have := HB0.out.size; simp; omega) (own_block HW0.out); clear hgr; have HW1 := Lib.hid hown; have HB1 := Lib.hid hbn; clear hown hbn))
          have hl := HLL.out
          refine ⟨⟨k + 1, L ++ [false], s, a0, b0, hl.2, by go_num, ?_, rfl, rfl, rfl, HS.out.1, HS.out.2, ha0, hb0, HB1.out, by rw [List.length_append]; simp only [List.length_cons, List.length_nil]; omega, Lib.hid (.inr ⟨by omega, HGG.out⟩)⟩, ?_⟩
          · have := HW1.out
            rw [List.length_append, ivs_append]
            exact this
          · simp [intOf]; omega
        · have hx0i : ((x : Int) == 0) = false := by rw [beq_eq_false_iff_ne]; omega
          have C3 := Lib.hid (fun w' => rWindow_any HW.out x hx0 hxl w')
          obtain ⟨f1, f2, f3, f4, f5, f6, f7, f8⟩ := own_facts (by have := HP.out; omega) hx0 hxl
          have hstep : stepB W s x = (if hasB s (aboveN W x) (belowN x) then [true, false] ++ winB W s x else [true, true] ++ bitsOf (aboveN W x) 6 ++ bitsOf (8 * W - aboveN W x - belowN x - 1) 6 ++ ownB W (aboveN W x) (belowN x) x) := by unfold stepB; rw [if_neg hx0]
          have hnext : nextW W s x = (if hasB s (aboveN W x) (belowN x) then s else some (aboveN W x, belowN x)) := by unfold nextW; rw [if_neg hx0]
          obtain ⟨a, ha⟩ : ∃ a, a = aboveN W x := ⟨_, rfl⟩
          obtain ⟨b, hb⟩ : ∃ b, b = belowN x := ⟨_, rfl⟩
          rw [← ha, ← hb] at C3 hstep hnext f1
          have hw := HP.out.2
          rw [← hw] at f1 hstep
          have ha64 : (a : Int) < 64 := by omega
          have hb64 : (b : Int) < 64 := by omega
          have habw : (a : Int) + (b : Int) < (w8 : Int) := by omega
          clear ha hb f2 f3 f4 f5 f6 f7 f8 hxl hlt hw
          cases hh : hasB s a b with
          | true =>
            rw [hh, if_pos rfl] at hstep hnext
            rw [hnext, hstep] at HGG
            obtain ⟨p, rfl, g1, g2⟩ := hasB_some hh
            obtain ⟨rfl, rfl⟩ : p.1 = a0 ∧ p.2 = b0 := by
              rcases hs with hs | hs
              · cases hs
              · injection hs with hs
                rw [hs]
                exact ⟨rfl, rfl⟩
            obtain ⟨a0, b0⟩ := p
            simp only at *
            simp only [winOk] at hok
            have HX64 := Lib.hid hx64
            have hab0 : (a0 : Int) + (b0 : Int) < (w8 : Int) := by have := HP.out; omega
            have HOK := Lib.hid hok
            clear hstep hnext hh hs hok hx64
            go_wp2_with fail
            refine (C3.out _).mono ?_
            rintro e w2 ⟨rfl, rfl⟩
            clear C3
            go_wp2_with ((with_reducible show wpList _ _ _ (({ dst := some 64, op := _, type := _, pos := _, after := _, guard := _ } : Oper) :: _) _ _); go_must (refine wpList_app rfl (.tmp 62) (.tmp 63) 27 rfl w1.heap.size 3 i0 (.int .i64 0) 1 8 Tryz.underlying27 hi hz0 hz1 hz2 rfl (by decide) _ _ _ rfl (HW0.out.alloc _) _ _ 2 2 _ rfl (Rd.new _ #[.int .i64 1, .int .i64 0] _) rfl (one2 _ _ rfl rfl) (by simp only [maxLen]; have := HLN.out; omega) (by have := HLN.out; omega) (by have := HB0.out.size; simp; omega) ?_; intro v3 w3x hown hgr; have hbn : Below w1.heap.size w1 w3x := (HB0.out.alloc HB0.out.size _).grown hgr (by have := HB0.out.size; simp; omega) (own_block HW0.out); clear hgr; have HW1 := Lib.hid hown; have HB1 := Lib.hid hbn; clear hown hbn))
            have hcw := (HB1.out.cell (p := ⟨ab, ao + k, none⟩) HAB.out).trans HCELL.out
            obtain ⟨q, hq⟩ : ∃ q, q = w8 - a0 - b0 := ⟨_, rfl⟩
            have hq0 : 0 < q := by omega
            have hq64 : q ≤ 64 := by omega
            obtain ⟨y, hy⟩ : ∃ y, y = x / 2 ^ b0 := ⟨_, rfl⟩
            have CP := Lib.hid (fun w' => power_any b0 (by omega) w')
            have CB := Lib.hid (fun w' => rfBits_any y q w' (by rw [hy]; exact Nat.lt_of_le_of_lt (Nat.div_le_self _ _) HX64.out) (by omega))
            have hqi : IntKind.i64.wrap (IntKind.i64.wrap ((w8 : Int) - (a0 : Int)) - (b0 : Int)) = (q : Int) := by rw [IntKind.wrap_i64, IntKind.wrap_i64]; omega
            have hyi : IntKind.u64.wrap ((x : Int) / ((2 ^ b0 : Nat) : Int)) = (y : Int) := by
              rw [← Int.natCast_ediv, ← hy]
              have := Nat.div_le_self x (2 ^ b0)
              have h64 := HX64.out
              rw [← hy] at this
              rw [IntKind.wrap_u64]
              omega
            obtain ⟨D, hD⟩ : ∃ D, D = 2 ^ b0 := ⟨_, rfl⟩
            have hD2 : ¬ D = 0 := by have := Nat.two_pow_pos b0; omega
            rw [← hD] at hyi
            have cp := CP.out
            rw [← hD] at cp
            have CP2 := Lib.hid cp
            have HQY := Lib.hid (And.intro hq hy)
            clear cp CP hD hq hy
            have S0 := Lib.hid hcw
            clear hcw hcell
            go_region_held3 (fun w' => w'.cell? ⟨ab, ao + k, none⟩ = some (.int .u64 (x : Int))) (first | exact S0.out | exact S1.out | exact S2.out)
              (first
                | (go_at_call 81; refine (CP2.out _).mono ?_; rintro e w5 ⟨rfl, rfl⟩)
                | (go_at_call 100; (try simp only [hqi]); refine (CB.out _).mono ?_; rintro e w6 ⟨v6, rfl, hown6, ho6⟩; rw [bitsOf_length] at hown6; obtain ⟨g6, cap6, rfl, hg6, hl6⟩ := hown6.form hq0; have hb6 := ho6.below (Nat.le_refl _); have HW6 := Lib.hid (own_kept (show (World.drew _).ownsRow w1.heap.size 3 1 _ _ _ from HW1.out) hb6); have HB6 := Lib.hid (HB1.out.drew.trans (hb6.mono HB1.out.size)); have HO6 := Lib.hid hown6; have s1 := (HB6.out.cell (p := ⟨ab, ao + k, none⟩) HAB.out).trans HCELL.out; have S1 := Lib.hid s1; clear s1 hb6 ho6 hown6)
                | (refine step_append_lies _ (by rfl) _ _ _ (by rfl) w1.heap.size 3 i0 (.int .i64 0) 1 8 Tryz.underlying27 hi hz0 hz1 hz2 rfl (by decide) _ _ _ (by rfl) HW6.out ⟨g6, 0, none⟩ q cap6 (ivs (bitsOf y q)) (by rfl) (by rw [ivs_bits, Nat.mul_one]) (fun j u hu => HO6.out.cells (g := g6) rfl j u hu) (ivs_one _) hq0 (by simp only [maxLen]; have := HLN.out; omega) (by have := HLN.out; omega) HB6.out.size _ rfl ?_; intro g7 cap7 w7 hown7 hgr7 hat7 hlt7; have hb7 : Below w1.heap.size w1 w7 := HB6.out.grown hgr7 HB6.out.size (own_block HW6.out); have s2 := (hb7.cell (p := ⟨ab, ao + k, none⟩) HAB.out).trans HCELL.out; have S2 := Lib.hid s2; have HW7 := Lib.hid hown7; have HB7 := Lib.hid hb7; clear s2 hown7 hb7 hgr7 hat7))
            rename_i hHeld
            clear hHeld CP2 CB hyi hqi HW6 HB6 HO6 S0 S1 S2
            go_wp2_with fail
            have hl := HLL.out
            have hqy := HQY.out
            have hbits : winB W (some (a0, b0)) x = bitsOf y q := by
              unfold winB ownB
              rw [hqy.1, hqy.2, HP.out.2]
              rfl
            have hgg := HGG.out
            rw [hbits] at hgg
            have hlen : (L ++ ([true, false] ++ bitsOf y q)).length = L.length + 2 + q := by simp [bitsOf_length]; omega
            refine ⟨⟨k + 1, L ++ ([true, false] ++ bitsOf y q), some (a0, b0), a0, b0, hl.2, by go_num, ?_, rfl, rfl, rfl, .inr rfl, HOK.out, ha0, hb0, HB7.out, by rw [hlen]; omega, Lib.hid (.inr ⟨by omega, hgg⟩)⟩, ?_⟩
            · rw [hlen]
              have h7 := HW7.out
              rw [show ivs L ++ [Value.int IntKind.i64 1, Value.int IntKind.i64 0] ++ ivs (bitsOf y q) = ivs (L ++ ([true, false] ++ bitsOf y q)) by simp [ivs]] at h7
              exact h7
            · simp [intOf]; omega
          | false =>
            rw [hh, if_neg (by decide)] at hstep hnext
            rw [hnext, hstep] at HGG
            obtain ⟨r, hrr⟩ : ∃ r, r = w8 - a - b - 1 := ⟨_, rfl⟩
            have hr64 : r < 64 := by omega
            have HRR := Lib.hid hrr
            have HX64 := Lib.hid hx64
            have hfb : s = none ∨ (s = some (a0, b0) ∧ ¬ a0 ≤ a) ∨ (s = some (a0, b0) ∧ a0 ≤ a ∧ ¬ b0 ≤ b) := by
              rcases hs with rfl | rfl
              · exact .inl rfl
              · simp only [hasB, Bool.and_eq_false_iff, decide_eq_false_iff_not] at hh
                rcases hh with hh | hh
                · exact .inr (.inl ⟨rfl, hh⟩)
                · by_cases h : a0 ≤ a
                  · exact .inr (.inr ⟨rfl, h, hh⟩)
                  · exact .inr (.inl ⟨rfl, h⟩)
            clear hstep hnext hh hs hok hx64 hrr
            rcases hfb with rfl | ⟨rfl, g1⟩ | ⟨rfl, g1, g2⟩
            · go_wp2_with fail
              refine (C3.out _).mono ?_
              rintro e w2 ⟨rfl, rfl⟩
              clear C3
              go_wp2_with ((with_reducible show wpList _ _ _ (({ dst := some 69, op := _, type := _, pos := _, after := _, guard := _ } : Oper) :: _) _ _); go_must (refine wpList_app rfl (.tmp 67) (.tmp 68) 27 rfl w1.heap.size 3 i0 (.int .i64 0) 1 8 Tryz.underlying27 hi hz0 hz1 hz2 rfl (by decide) _ _ _ rfl (HW0.out.alloc _) _ _ 2 2 _ rfl (Rd.new _ #[.int .i64 1, .int .i64 1] _) rfl (one2 _ _ rfl rfl) (by simp only [maxLen]; have := HLN.out; omega) (by have := HLN.out; omega) (by have := HB0.out.size; simp; omega) ?_; intro v3 w3x hown hgr; have hbn : Below w1.heap.size w1 w3x := (HB0.out.alloc HB0.out.size _).grown hgr (by have := HB0.out.size; simp; omega) (own_block HW0.out); clear hgr; have HW1 := Lib.hid hown; have HB1 := Lib.hid hbn; clear hown hbn))
              refine (rfBits_any a 6 _ (by omega) (by decide)).mono ?_
              rintro e ya ⟨za, rfl, howna, hoa⟩
              rw [bitsOf_length] at howna
              obtain ⟨ga, capa, rfl, -, -⟩ := howna.form (by decide)
              have HRa := Lib.hid (Rd.of_own howna)
              have hbb := hoa.below (Nat.le_refl _)
              have HW2 := Lib.hid (own_kept HW1.out hbb)
              have HB2 := Lib.hid (HB1.out.trans (hbb.mono HB1.out.size))
              clear howna hoa hbb HW1 HB1
              go_wp2_with ((with_reducible show wpList _ _ _ (({ dst := some 74, op := _, type := _, pos := _, after := _, guard := _ } : Oper) :: _) _ _); go_must (refine wpList_app rfl (.tmp 70) (.tmp 73) 27 rfl w1.heap.size 3 i0 (.int .i64 0) 1 8 Tryz.underlying27 hi hz0 hz1 hz2 rfl (by decide) _ _ _ rfl HW2.out ya.heap.size (some ⟨ga, 0, none⟩) 6 capa (ivs (bitsOf a 6)) rfl HRa.out (by rw [ivs_bits, Nat.mul_one]) (ivs_one _) (by simp only [maxLen]; have := HLN.out; omega) (by have := HLN.out; omega) HB2.out.size ?_; intro v4 w4x hown hgr; have hbn : Below w1.heap.size w1 w4x := HB2.out.grown hgr HB2.out.size (own_block HW2.out); clear hgr; have HW3 := Lib.hid hown; have HB3 := Lib.hid hbn; clear hown hbn))
              have hri : (w8 : Int) - (a : Int) - (b : Int) - 1 = (r : Int) := by have := HRR.out; omega
              rw [hri]
              clear hri
              refine (rfBits_any r 6 _ (by omega) (by decide)).mono ?_
              rintro e yr ⟨zr, rfl, hownr, hor⟩
              rw [bitsOf_length] at hownr
              obtain ⟨gr, capr, rfl, -, -⟩ := hownr.form (by decide)
              have HRr := Lib.hid (Rd.of_own hownr)
              have hbb := hor.below (Nat.le_refl _)
              have HW4 := Lib.hid (own_kept HW3.out hbb)
              have HB4 := Lib.hid (HB3.out.trans (hbb.mono HB3.out.size))
              clear hownr hor hbb HW3 HB3
              go_wp2_with ((with_reducible show wpList _ _ _ (({ dst := some 84, op := _, type := _, pos := _, after := _, guard := _ } : Oper) :: _) _ _); go_must (refine wpList_app rfl (.tmp 75) (.tmp 83) 27 rfl w1.heap.size 3 i0 (.int .i64 0) 1 8 Tryz.underlying27 hi hz0 hz1 hz2 rfl (by decide) _ _ _ rfl HW4.out yr.heap.size (some ⟨gr, 0, none⟩) 6 capr (ivs (bitsOf r 6)) rfl HRr.out (by rw [ivs_bits, Nat.mul_one]) (ivs_one _) (by simp only [maxLen]; have := HLN.out; omega) (by have := HLN.out; omega) HB4.out.size ?_; intro v5 w5x hown hgr; have hbn : Below w1.heap.size w1 w5x := HB4.out.grown hgr HB4.out.size (own_block HW4.out); clear hgr; have HW5 := Lib.hid hown; have HB5 := Lib.hid hbn; clear hown hbn))
              have hcw := (HB5.out.cell (p := ⟨ab, ao + k, none⟩) HAB.out).trans HCELL.out
              obtain ⟨q, hq⟩ : ∃ q, q = w8 - a - b := ⟨_, rfl⟩
              have hq0 : 0 < q := by omega
              have hq64 : q ≤ 64 := by omega
              obtain ⟨y, hy⟩ : ∃ y, y = x / 2 ^ b := ⟨_, rfl⟩
              have CP := Lib.hid (fun w' => power_any b (by omega) w')
              have CB := Lib.hid (fun w' => rfBits_any y q w' (by rw [hy]; exact Nat.lt_of_le_of_lt (Nat.div_le_self _ _) HX64.out) (by omega))
              have hqi : IntKind.i64.wrap (IntKind.i64.wrap ((w8 : Int) - (a : Int)) - (b : Int)) = (q : Int) := by rw [IntKind.wrap_i64, IntKind.wrap_i64]; omega
              have hyi : IntKind.u64.wrap ((x : Int) / ((2 ^ b : Nat) : Int)) = (y : Int) := by
                rw [← Int.natCast_ediv, ← hy]
                have := Nat.div_le_self x (2 ^ b)
                have h64 := HX64.out
                rw [← hy] at this
                rw [IntKind.wrap_u64]
                omega
              obtain ⟨D, hD⟩ : ∃ D, D = 2 ^ b := ⟨_, rfl⟩
              have hD2 : ¬ D = 0 := by have := Nat.two_pow_pos b; omega
              rw [← hD] at hyi
              have cp := CP.out
              rw [← hD] at cp
              have CP2 := Lib.hid cp
              have HQY := Lib.hid (And.intro hq hy)
              clear cp CP hD hq hy
              have S0 := Lib.hid hcw
              clear hcw hcell
              go_region_held3 (fun w' => w'.cell? ⟨ab, ao + k, none⟩ = some (.int .u64 (x : Int))) (first | exact S0.out | exact S1.out | exact S2.out)
                (first
                  | (go_at_call 81; refine (CP2.out _).mono ?_; rintro e w5 ⟨rfl, rfl⟩)
                  | (go_at_call 100; (try simp only [hqi]); refine (CB.out _).mono ?_; rintro e w6 ⟨v6, rfl, hown6, ho6⟩; rw [bitsOf_length] at hown6; obtain ⟨g6, cap6, rfl, hg6, hl6⟩ := hown6.form hq0; have hb6 := ho6.below (Nat.le_refl _); have HW6 := Lib.hid (own_kept (show (World.drew _).ownsRow w1.heap.size 3 1 _ _ _ from HW5.out) hb6); have HB6 := Lib.hid (HB5.out.drew.trans (hb6.mono HB5.out.size)); have HO6 := Lib.hid hown6; have s1 := (HB6.out.cell (p := ⟨ab, ao + k, none⟩) HAB.out).trans HCELL.out; have S1 := Lib.hid s1; clear s1 hb6 ho6 hown6)
                  | (refine step_append_lies _ (by rfl) _ _ _ (by rfl) w1.heap.size 3 i0 (.int .i64 0) 1 8 Tryz.underlying27 hi hz0 hz1 hz2 rfl (by decide) _ _ _ (by rfl) HW6.out ⟨g6, 0, none⟩ q cap6 (ivs (bitsOf y q)) (by rfl) (by rw [ivs_bits, Nat.mul_one]) (fun j u hu => HO6.out.cells (g := g6) rfl j u hu) (ivs_one _) hq0 (by simp only [maxLen]; have := HLN.out; omega) (by have := HLN.out; omega) HB6.out.size _ rfl ?_; intro g7 cap7 w7 hown7 hgr7 hat7 hlt7; have hb7 : Below w1.heap.size w1 w7 := HB6.out.grown hgr7 HB6.out.size (own_block HW6.out); have s2 := (hb7.cell (p := ⟨ab, ao + k, none⟩) HAB.out).trans HCELL.out; have S2 := Lib.hid s2; have HW7 := Lib.hid hown7; have HB7 := Lib.hid hb7; clear s2 hown7 hb7 hgr7 hat7))
              rename_i hHeld
              clear hHeld CP2 CB hyi hqi HW6 HB6 HO6 S0 S1 S2
              go_wp2_with fail
              have hl := HLL.out
              have hqy := HQY.out
              have hbits : ownB W a b x = bitsOf y q := by
                unfold ownB
                rw [hqy.1, hqy.2, HP.out.2]
              have hgg := HGG.out
              rw [hbits, ← HRR.out] at hgg
              have hlen : (L ++ ([true, true] ++ bitsOf a 6 ++ bitsOf r 6 ++ bitsOf y q)).length = L.length + 2 + 6 + 6 + q := by simp [bitsOf_length]; omega
              refine ⟨⟨k + 1, L ++ ([true, true] ++ bitsOf a 6 ++ bitsOf r 6 ++ bitsOf y q), some (a, b), a, b, hl.2, by go_num, ?_, rfl, rfl, rfl, .inr rfl, by simp only [winOk]; have := HP.out.2; omega, by omega, by omega, HB7.out, by rw [hlen]; omega, Lib.hid (.inr ⟨by omega, hgg⟩)⟩, ?_⟩
              · rw [hlen]
                have h7 := HW7.out
                rw [show ivs L ++ [Value.int IntKind.i64 1, Value.int IntKind.i64 1] ++ ivs (bitsOf a 6) ++ ivs (bitsOf r 6) ++ ivs (bitsOf y q) = ivs (L ++ ([true, true] ++ bitsOf a 6 ++ bitsOf r 6 ++ bitsOf y q)) by simp [ivs]] at h7
                exact h7
              · simp [intOf]; omega
            · go_wp2_with fail
              refine (C3.out _).mono ?_
              rintro e w2 ⟨rfl, rfl⟩
              clear C3
              go_wp2_with ((with_reducible show wpList _ _ _ (({ dst := some 69, op := _, type := _, pos := _, after := _, guard := _ } : Oper) :: _) _ _); go_must (refine wpList_app rfl (.tmp 67) (.tmp 68) 27 rfl w1.heap.size 3 i0 (.int .i64 0) 1 8 Tryz.underlying27 hi hz0 hz1 hz2 rfl (by decide) _ _ _ rfl (HW0.out.alloc _) _ _ 2 2 _ rfl (Rd.new _ #[.int .i64 1, .int .i64 1] _) rfl (one2 _ _ rfl rfl) (by simp only [maxLen]; have := HLN.out; omega) (by have := HLN.out; omega) (by have := HB0.out.size; simp; omega) ?_; intro v3 w3x hown hgr; have hbn : Below w1.heap.size w1 w3x := (HB0.out.alloc HB0.out.size _).grown hgr (by have := HB0.out.size; simp; omega) (own_block HW0.out); clear hgr; have HW1 := Lib.hid hown; have HB1 := Lib.hid hbn; clear hown hbn))
              refine (rfBits_any a 6 _ (by omega) (by decide)).mono ?_
              rintro e ya ⟨za, rfl, howna, hoa⟩
              rw [bitsOf_length] at howna
              obtain ⟨ga, capa, rfl, -, -⟩ := howna.form (by decide)
              have HRa := Lib.hid (Rd.of_own howna)
              have hbb := hoa.below (Nat.le_refl _)
              have HW2 := Lib.hid (own_kept HW1.out hbb)
              have HB2 := Lib.hid (HB1.out.trans (hbb.mono HB1.out.size))
              clear howna hoa hbb HW1 HB1
              go_wp2_with ((with_reducible show wpList _ _ _ (({ dst := some 74, op := _, type := _, pos := _, after := _, guard := _ } : Oper) :: _) _ _); go_must (refine wpList_app rfl (.tmp 70) (.tmp 73) 27 rfl w1.heap.size 3 i0 (.int .i64 0) 1 8 Tryz.underlying27 hi hz0 hz1 hz2 rfl (by decide) _ _ _ rfl HW2.out ya.heap.size (some ⟨ga, 0, none⟩) 6 capa (ivs (bitsOf a 6)) rfl HRa.out (by rw [ivs_bits, Nat.mul_one]) (ivs_one _) (by simp only [maxLen]; have := HLN.out; omega) (by have := HLN.out; omega) HB2.out.size ?_; intro v4 w4x hown hgr; have hbn : Below w1.heap.size w1 w4x := HB2.out.grown hgr HB2.out.size (own_block HW2.out); clear hgr; have HW3 := Lib.hid hown; have HB3 := Lib.hid hbn; clear hown hbn))
              have hri : (w8 : Int) - (a : Int) - (b : Int) - 1 = (r : Int) := by have := HRR.out; omega
              rw [hri]
              clear hri
              refine (rfBits_any r 6 _ (by omega) (by decide)).mono ?_
              rintro e yr ⟨zr, rfl, hownr, hor⟩
              rw [bitsOf_length] at hownr
              obtain ⟨gr, capr, rfl, -, -⟩ := hownr.form (by decide)
              have HRr := Lib.hid (Rd.of_own hownr)
              have hbb := hor.below (Nat.le_refl _)
              have HW4 := Lib.hid (own_kept HW3.out hbb)
              have HB4 := Lib.hid (HB3.out.trans (hbb.mono HB3.out.size))
              clear hownr hor hbb HW3 HB3
              go_wp2_with ((with_reducible show wpList _ _ _ (({ dst := some 84, op := _, type := _, pos := _, after := _, guard := _ } : Oper) :: _) _ _); go_must (refine wpList_app rfl (.tmp 75) (.tmp 83) 27 rfl w1.heap.size 3 i0 (.int .i64 0) 1 8 Tryz.underlying27 hi hz0 hz1 hz2 rfl (by decide) _ _ _ rfl HW4.out yr.heap.size (some ⟨gr, 0, none⟩) 6 capr (ivs (bitsOf r 6)) rfl HRr.out (by rw [ivs_bits, Nat.mul_one]) (ivs_one _) (by simp only [maxLen]; have := HLN.out; omega) (by have := HLN.out; omega) HB4.out.size ?_; intro v5 w5x hown hgr; have hbn : Below w1.heap.size w1 w5x := HB4.out.grown hgr HB4.out.size (own_block HW4.out); clear hgr; have HW5 := Lib.hid hown; have HB5 := Lib.hid hbn; clear hown hbn))
              have hcw := (HB5.out.cell (p := ⟨ab, ao + k, none⟩) HAB.out).trans HCELL.out
              obtain ⟨q, hq⟩ : ∃ q, q = w8 - a - b := ⟨_, rfl⟩
              have hq0 : 0 < q := by omega
              have hq64 : q ≤ 64 := by omega
              obtain ⟨y, hy⟩ : ∃ y, y = x / 2 ^ b := ⟨_, rfl⟩
              have CP := Lib.hid (fun w' => power_any b (by omega) w')
              have CB := Lib.hid (fun w' => rfBits_any y q w' (by rw [hy]; exact Nat.lt_of_le_of_lt (Nat.div_le_self _ _) HX64.out) (by omega))
              have hqi : IntKind.i64.wrap (IntKind.i64.wrap ((w8 : Int) - (a : Int)) - (b : Int)) = (q : Int) := by rw [IntKind.wrap_i64, IntKind.wrap_i64]; omega
              have hyi : IntKind.u64.wrap ((x : Int) / ((2 ^ b : Nat) : Int)) = (y : Int) := by
                rw [← Int.natCast_ediv, ← hy]
                have := Nat.div_le_self x (2 ^ b)
                have h64 := HX64.out
                rw [← hy] at this
                rw [IntKind.wrap_u64]
                omega
              obtain ⟨D, hD⟩ : ∃ D, D = 2 ^ b := ⟨_, rfl⟩
              have hD2 : ¬ D = 0 := by have := Nat.two_pow_pos b; omega
              rw [← hD] at hyi
              have cp := CP.out
              rw [← hD] at cp
              have CP2 := Lib.hid cp
              have HQY := Lib.hid (And.intro hq hy)
              clear cp CP hD hq hy
              have S0 := Lib.hid hcw
              clear hcw hcell
              go_region_held3 (fun w' => w'.cell? ⟨ab, ao + k, none⟩ = some (.int .u64 (x : Int))) (first | exact S0.out | exact S1.out | exact S2.out)
                (first
                  | (go_at_call 81; refine (CP2.out _).mono ?_; rintro e w5 ⟨rfl, rfl⟩)
                  | (go_at_call 100; (try simp only [hqi]); refine (CB.out _).mono ?_; rintro e w6 ⟨v6, rfl, hown6, ho6⟩; rw [bitsOf_length] at hown6; obtain ⟨g6, cap6, rfl, hg6, hl6⟩ := hown6.form hq0; have hb6 := ho6.below (Nat.le_refl _); have HW6 := Lib.hid (own_kept (show (World.drew _).ownsRow w1.heap.size 3 1 _ _ _ from HW5.out) hb6); have HB6 := Lib.hid (HB5.out.drew.trans (hb6.mono HB5.out.size)); have HO6 := Lib.hid hown6; have s1 := (HB6.out.cell (p := ⟨ab, ao + k, none⟩) HAB.out).trans HCELL.out; have S1 := Lib.hid s1; clear s1 hb6 ho6 hown6)
                  | (refine step_append_lies _ (by rfl) _ _ _ (by rfl) w1.heap.size 3 i0 (.int .i64 0) 1 8 Tryz.underlying27 hi hz0 hz1 hz2 rfl (by decide) _ _ _ (by rfl) HW6.out ⟨g6, 0, none⟩ q cap6 (ivs (bitsOf y q)) (by rfl) (by rw [ivs_bits, Nat.mul_one]) (fun j u hu => HO6.out.cells (g := g6) rfl j u hu) (ivs_one _) hq0 (by simp only [maxLen]; have := HLN.out; omega) (by have := HLN.out; omega) HB6.out.size _ rfl ?_; intro g7 cap7 w7 hown7 hgr7 hat7 hlt7; have hb7 : Below w1.heap.size w1 w7 := HB6.out.grown hgr7 HB6.out.size (own_block HW6.out); have s2 := (hb7.cell (p := ⟨ab, ao + k, none⟩) HAB.out).trans HCELL.out; have S2 := Lib.hid s2; have HW7 := Lib.hid hown7; have HB7 := Lib.hid hb7; clear s2 hown7 hb7 hgr7 hat7))
              rename_i hHeld
              clear hHeld CP2 CB hyi hqi HW6 HB6 HO6 S0 S1 S2
              go_wp2_with fail
              have hl := HLL.out
              have hqy := HQY.out
              have hbits : ownB W a b x = bitsOf y q := by
                unfold ownB
                rw [hqy.1, hqy.2, HP.out.2]
              have hgg := HGG.out
              rw [hbits, ← HRR.out] at hgg
              have hlen : (L ++ ([true, true] ++ bitsOf a 6 ++ bitsOf r 6 ++ bitsOf y q)).length = L.length + 2 + 6 + 6 + q := by simp [bitsOf_length]; omega
              refine ⟨⟨k + 1, L ++ ([true, true] ++ bitsOf a 6 ++ bitsOf r 6 ++ bitsOf y q), some (a, b), a, b, hl.2, by go_num, ?_, rfl, rfl, rfl, .inr rfl, by simp only [winOk]; have := HP.out.2; omega, by omega, by omega, HB7.out, by rw [hlen]; omega, Lib.hid (.inr ⟨by omega, hgg⟩)⟩, ?_⟩
              · rw [hlen]
                have h7 := HW7.out
                rw [show ivs L ++ [Value.int IntKind.i64 1, Value.int IntKind.i64 1] ++ ivs (bitsOf a 6) ++ ivs (bitsOf r 6) ++ ivs (bitsOf y q) = ivs (L ++ ([true, true] ++ bitsOf a 6 ++ bitsOf r 6 ++ bitsOf y q)) by simp [ivs]] at h7
                exact h7
              · simp [intOf]; omega
            · go_wp2_with fail
              refine (C3.out _).mono ?_
              rintro e w2 ⟨rfl, rfl⟩
              clear C3
              go_wp2_with ((with_reducible show wpList _ _ _ (({ dst := some 69, op := _, type := _, pos := _, after := _, guard := _ } : Oper) :: _) _ _); go_must (refine wpList_app rfl (.tmp 67) (.tmp 68) 27 rfl w1.heap.size 3 i0 (.int .i64 0) 1 8 Tryz.underlying27 hi hz0 hz1 hz2 rfl (by decide) _ _ _ rfl (HW0.out.alloc _) _ _ 2 2 _ rfl (Rd.new _ #[.int .i64 1, .int .i64 1] _) rfl (one2 _ _ rfl rfl) (by simp only [maxLen]; have := HLN.out; omega) (by have := HLN.out; omega) (by have := HB0.out.size; simp; omega) ?_; intro v3 w3x hown hgr; have hbn : Below w1.heap.size w1 w3x := (HB0.out.alloc HB0.out.size _).grown hgr (by have := HB0.out.size; simp; omega) (own_block HW0.out); clear hgr; have HW1 := Lib.hid hown; have HB1 := Lib.hid hbn; clear hown hbn))
              refine (rfBits_any a 6 _ (by omega) (by decide)).mono ?_
              rintro e ya ⟨za, rfl, howna, hoa⟩
              rw [bitsOf_length] at howna
              obtain ⟨ga, capa, rfl, -, -⟩ := howna.form (by decide)
              have HRa := Lib.hid (Rd.of_own howna)
              have hbb := hoa.below (Nat.le_refl _)
              have HW2 := Lib.hid (own_kept HW1.out hbb)
              have HB2 := Lib.hid (HB1.out.trans (hbb.mono HB1.out.size))
              clear howna hoa hbb HW1 HB1
              go_wp2_with ((with_reducible show wpList _ _ _ (({ dst := some 74, op := _, type := _, pos := _, after := _, guard := _ } : Oper) :: _) _ _); go_must (refine wpList_app rfl (.tmp 70) (.tmp 73) 27 rfl w1.heap.size 3 i0 (.int .i64 0) 1 8 Tryz.underlying27 hi hz0 hz1 hz2 rfl (by decide) _ _ _ rfl HW2.out ya.heap.size (some ⟨ga, 0, none⟩) 6 capa (ivs (bitsOf a 6)) rfl HRa.out (by rw [ivs_bits, Nat.mul_one]) (ivs_one _) (by simp only [maxLen]; have := HLN.out; omega) (by have := HLN.out; omega) HB2.out.size ?_; intro v4 w4x hown hgr; have hbn : Below w1.heap.size w1 w4x := HB2.out.grown hgr HB2.out.size (own_block HW2.out); clear hgr; have HW3 := Lib.hid hown; have HB3 := Lib.hid hbn; clear hown hbn))
              have hri : (w8 : Int) - (a : Int) - (b : Int) - 1 = (r : Int) := by have := HRR.out; omega
              rw [hri]
              clear hri
              refine (rfBits_any r 6 _ (by omega) (by decide)).mono ?_
              rintro e yr ⟨zr, rfl, hownr, hor⟩
              rw [bitsOf_length] at hownr
              obtain ⟨gr, capr, rfl, -, -⟩ := hownr.form (by decide)
              have HRr := Lib.hid (Rd.of_own hownr)
              have hbb := hor.below (Nat.le_refl _)
              have HW4 := Lib.hid (own_kept HW3.out hbb)
              have HB4 := Lib.hid (HB3.out.trans (hbb.mono HB3.out.size))
              clear hownr hor hbb HW3 HB3
              go_wp2_with ((with_reducible show wpList _ _ _ (({ dst := some 84, op := _, type := _, pos := _, after := _, guard := _ } : Oper) :: _) _ _); go_must (refine wpList_app rfl (.tmp 75) (.tmp 83) 27 rfl w1.heap.size 3 i0 (.int .i64 0) 1 8 Tryz.underlying27 hi hz0 hz1 hz2 rfl (by decide) _ _ _ rfl HW4.out yr.heap.size (some ⟨gr, 0, none⟩) 6 capr (ivs (bitsOf r 6)) rfl HRr.out (by rw [ivs_bits, Nat.mul_one]) (ivs_one _) (by simp only [maxLen]; have := HLN.out; omega) (by have := HLN.out; omega) HB4.out.size ?_; intro v5 w5x hown hgr; have hbn : Below w1.heap.size w1 w5x := HB4.out.grown hgr HB4.out.size (own_block HW4.out); clear hgr; have HW5 := Lib.hid hown; have HB5 := Lib.hid hbn; clear hown hbn))
              have hcw := (HB5.out.cell (p := ⟨ab, ao + k, none⟩) HAB.out).trans HCELL.out
              obtain ⟨q, hq⟩ : ∃ q, q = w8 - a - b := ⟨_, rfl⟩
              have hq0 : 0 < q := by omega
              have hq64 : q ≤ 64 := by omega
              obtain ⟨y, hy⟩ : ∃ y, y = x / 2 ^ b := ⟨_, rfl⟩
              have CP := Lib.hid (fun w' => power_any b (by omega) w')
              have CB := Lib.hid (fun w' => rfBits_any y q w' (by rw [hy]; exact Nat.lt_of_le_of_lt (Nat.div_le_self _ _) HX64.out) (by omega))
              have hqi : IntKind.i64.wrap (IntKind.i64.wrap ((w8 : Int) - (a : Int)) - (b : Int)) = (q : Int) := by rw [IntKind.wrap_i64, IntKind.wrap_i64]; omega
              have hyi : IntKind.u64.wrap ((x : Int) / ((2 ^ b : Nat) : Int)) = (y : Int) := by
                rw [← Int.natCast_ediv, ← hy]
                have := Nat.div_le_self x (2 ^ b)
                have h64 := HX64.out
                rw [← hy] at this
                rw [IntKind.wrap_u64]
                omega
              obtain ⟨D, hD⟩ : ∃ D, D = 2 ^ b := ⟨_, rfl⟩
              have hD2 : ¬ D = 0 := by have := Nat.two_pow_pos b; omega
              rw [← hD] at hyi
              have cp := CP.out
              rw [← hD] at cp
              have CP2 := Lib.hid cp
              have HQY := Lib.hid (And.intro hq hy)
              clear cp CP hD hq hy
              have S0 := Lib.hid hcw
              clear hcw hcell
              go_region_held3 (fun w' => w'.cell? ⟨ab, ao + k, none⟩ = some (.int .u64 (x : Int))) (first | exact S0.out | exact S1.out | exact S2.out)
                (first
                  | (go_at_call 81; refine (CP2.out _).mono ?_; rintro e w5 ⟨rfl, rfl⟩)
                  | (go_at_call 100; (try simp only [hqi]); refine (CB.out _).mono ?_; rintro e w6 ⟨v6, rfl, hown6, ho6⟩; rw [bitsOf_length] at hown6; obtain ⟨g6, cap6, rfl, hg6, hl6⟩ := hown6.form hq0; have hb6 := ho6.below (Nat.le_refl _); have HW6 := Lib.hid (own_kept (show (World.drew _).ownsRow w1.heap.size 3 1 _ _ _ from HW5.out) hb6); have HB6 := Lib.hid (HB5.out.drew.trans (hb6.mono HB5.out.size)); have HO6 := Lib.hid hown6; have s1 := (HB6.out.cell (p := ⟨ab, ao + k, none⟩) HAB.out).trans HCELL.out; have S1 := Lib.hid s1; clear s1 hb6 ho6 hown6)
                  | (refine step_append_lies _ (by rfl) _ _ _ (by rfl) w1.heap.size 3 i0 (.int .i64 0) 1 8 Tryz.underlying27 hi hz0 hz1 hz2 rfl (by decide) _ _ _ (by rfl) HW6.out ⟨g6, 0, none⟩ q cap6 (ivs (bitsOf y q)) (by rfl) (by rw [ivs_bits, Nat.mul_one]) (fun j u hu => HO6.out.cells (g := g6) rfl j u hu) (ivs_one _) hq0 (by simp only [maxLen]; have := HLN.out; omega) (by have := HLN.out; omega) HB6.out.size _ rfl ?_; intro g7 cap7 w7 hown7 hgr7 hat7 hlt7; have hb7 : Below w1.heap.size w1 w7 := HB6.out.grown hgr7 HB6.out.size (own_block HW6.out); have s2 := (hb7.cell (p := ⟨ab, ao + k, none⟩) HAB.out).trans HCELL.out; have S2 := Lib.hid s2; have HW7 := Lib.hid hown7; have HB7 := Lib.hid hb7; clear s2 hown7 hb7 hgr7 hat7))
              rename_i hHeld
              clear hHeld CP2 CB hyi hqi HW6 HB6 HO6 S0 S1 S2
              go_wp2_with fail
              have hl := HLL.out
              have hqy := HQY.out
              have hbits : ownB W a b x = bitsOf y q := by
                unfold ownB
                rw [hqy.1, hqy.2, HP.out.2]
              have hgg := HGG.out
              rw [hbits, ← HRR.out] at hgg
              have hlen : (L ++ ([true, true] ++ bitsOf a 6 ++ bitsOf r 6 ++ bitsOf y q)).length = L.length + 2 + 6 + 6 + q := by simp [bitsOf_length]; omega
              refine ⟨⟨k + 1, L ++ ([true, true] ++ bitsOf a 6 ++ bitsOf r 6 ++ bitsOf y q), some (a, b), a, b, hl.2, by go_num, ?_, rfl, rfl, rfl, .inr rfl, by simp only [winOk]; have := HP.out.2; omega, by omega, by omega, HB7.out, by rw [hlen]; omega, Lib.hid (.inr ⟨by omega, hgg⟩)⟩, ?_⟩
              · rw [hlen]
                have h7 := HW7.out
                rw [show ivs L ++ [Value.int IntKind.i64 1, Value.int IntKind.i64 1] ++ ivs (bitsOf a 6) ++ ivs (bitsOf r 6) ++ ivs (bitsOf y q) = ivs (L ++ ([true, true] ++ bitsOf a 6 ++ bitsOf r 6 ++ bitsOf y q)) by simp [ivs]] at h7
                exact h7
              · simp [intOf]; omega
    · have hki : ¬ (k : Int) < (X.length : Int) := by omega
      have hL : L = gorB W X := by
        rcases HG.out with ⟨h1, h2, -⟩ | ⟨h1, h2⟩
        · have : X = [] := List.length_eq_zero_iff.1 (by omega)
          rw [h2, this]; rfl
        · rw [List.drop_of_length_le (by omega)] at h2
          simpa [gorL] using h2
      have HW0 := Lib.hid (own_more hown HBW.out.size)
      have HB0 := Lib.hid (HBW.out.trans (hbel.mono HBW.out.size))
      have HL := Lib.hid (And.intro hL (show L.length ≤ 100000 by omega))
      clear hown hbel hll hlt hs hok hL HG
      go_wp2_with fail
      go_ret
      exact ⟨_, rfl, HL.out.1 ▸ HW0.out, HB0.out, HL.out.1 ▸ HL.out.2⟩
end Go.Proofs.YtcenbaajojdjlaaGreatDoor
