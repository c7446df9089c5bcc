/- Layer 26: a byte, taken bit by bit. · Layer 26: a byte, taken as a letter. -/
import Derived.Test.YtgbibmgedmbboaaGreatBlendRc
namespace Go.Proofs.YtgbibmgedmbboaaGreat
open Go.RowKit Go.Sort Go.Shelf

/-- What stands behind k bits of a byte. -/
structure TakRel (w wr : World) (D Kd Bm : Nat) (a : ModA) (s : ModD) (rest : List RcPart) (X : List Nat) (c k L R : Nat) (T : List Nat) : Prop where
  at_ : BitsAt Bm a (runK s c k) wr
  d : DecAt wr D Kd L R (restS T X)
  laid : Laid L R ((bitsP s c 8).drop k ++ rest) T
  span : InSpan L R ∧ 65536 ≤ R
  on : OnlyS (D :: a.all) w wr
set_option maxHeartbeats 4000000 in
set_option maxRecDepth 100000 in
theorem takeBits1_any {w : World} {D Kd Bm L R c : Nat} {a : ModA} {s : ModD} {rest : List RcPart} {T X : List Nat} (hc : c < 256) (hat : BitsAt Bm a s w) (hd : DecAt w D Kd L R (restS T X)) (hla : Laid L R (bitsP s c 8 ++ rest) T) (hsp : InSpan L R) (hR : 65536 ≤ R) (hps : ∀ p ∈ bitsP s c 8 ++ rest, p.ok) (hX : ∀ y ∈ X, y < 256) :
    Calls Tryz.prog 57 #[.pointer (some ⟨D, 0, none⟩), .pointer (some ⟨Bm, 0, none⟩)] w fun e w' => e = .returned (.int .u8 (c : Int)) ∧ ∃ L' R' T', Laid L' R' rest T' ∧ InSpan L' R' ∧ 65536 ≤ R' ∧ BitsAt Bm a (runK s c 8) w' ∧ DecAt w' D Kd L' R' (restS T' X) ∧ OnlyS (D :: a.all) w w' := by
  have HX := Lib.hid hX
  have HPS := Lib.hid hps
  have H0 := Lib.hid (⟨hat, hd, hla, ⟨hsp, hR⟩, OnlyS.refl _ _⟩ : TakRel w w D Kd Bm a s rest X c 0 L R T)
  have H80 := Lib.hid (highK_zero hc)
  clear hat hd hla hsp hR hps hX
  go_enter Tryz.func57, Tryz.ntmps57
  go_wp2
  go_loopw [4, 7] (fun ci i wr => ∃ (k L R q : Nat) (T : List Nat), k ≤ 8 ∧ i = .int .i64 (k : Int) ∧ ci = .int .i64 (q : Int) ∧ q = highK c k ∧ TakRel w wr D Kd Bm a s rest X c k L R T) (fun _ i _ => 8 - (intOf i).toNat)
  case atStart => exact ⟨0, L, R, 0, T, Nat.zero_le _, rfl, rfl, H80.out.symm, H0.out⟩
  case round =>
    clear H0 H80
    obtain ⟨k, L, R, q, T, hk, rfl, rfl, hq, hrel⟩ := hrel
    have HR := Lib.hid hrel
    have hbox := hrel.at_.box.cell
    have hq256 : q < 256 := by rw [hq]; exact highK_lt hc k
    clear hrel
    by_cases hlt : k < 8
    · have hki : (k : Int) < 8 := by omega
      have hb2 := bitD_lt c k
      have hqn := highK_next (c := c) hlt
      rw [← hq] at hqn
      clear hq
      obtain ⟨b, hb⟩ : ∃ b, b = bitD c k := ⟨_, rfl⟩
      rw [← hb] at hb2 hqn
      have CP := Lib.hid (modP_any HR.out.at_.m)
      have CQ := Lib.hid (fun W => part_any (runK s c k) b W)
      have hch := (runK s c k).chance_ok
      have hdr := bitsP_drop s c hlt
      rw [← hb] at hdr
      have hla := HR.out.laid
      rw [hdr, List.cons_append] at hla
      obtain ⟨n, L', R', T', hla2, hi2, hR2, hlo, hhi, CF, CT⟩ := back_more (X := X) hla HR.out.span.1 HR.out.span.2 (fun p hp => by
        rcases List.mem_cons.1 hp with rfl | hp
        · exact bitP_ok _ _
        · rcases List.mem_append.1 hp with hp | hp
          · exact HPS.out p (List.mem_append_left _ (List.mem_of_mem_drop hp))
          · exact HPS.out p (List.mem_append_right _ hp)) HX.out
      have hseen : runK s c (k + 1) = (runK s c k).seen (b : Int) := by rw [hb]; rfl
      have htot : (bitP (runK s c k) b).total = 65536 := by unfold bitP; split <;> rfl
      rw [htot] at CF CT
      have hpart : (b = 1 → (n : Int) < (runK s c k).chance) ∧ (b = 0 → ¬ ((n : Int) < (runK s c k).chance)) := by
        refine ⟨fun e => ?_, fun e => ?_⟩
        · rw [e] at hhi; unfold bitP at hhi; rw [if_neg (by decide)] at hhi; dsimp only at hhi; omega
        · rw [e] at hlo; unfold bitP at hlo; rw [if_pos rfl] at hlo; dsimp only at hlo; omega
      have HSEEN := Lib.hid hseen
      have HN2 := Lib.hid (And.intro hla2 (And.intro hi2 hR2))
      clear hb hdr hla hla2 hi2 hR2 hlo hhi hseen
      obtain ⟨⟨lo, sz, to⟩, hp⟩ : ∃ p, p = bitP (runK s c k) b := ⟨_, rfl⟩
      rw [← hp] at CQ CT htot
      dsimp only at CQ CT htot
      subst htot
      obtain ⟨p, hpp⟩ : ∃ p, p = (runK s c k).chance := ⟨_, rfl⟩
      rw [← hpp] at CP CQ hpart hch
      have CF1 := Lib.hid CF
      have CT1 := Lib.hid CT
      have HQN := Lib.hid hqn
      clear hp hpp CF CT hch hqn
      go_wp2_with fail
      refine CP.out.mono ?_
      rintro e w1 ⟨rfl, hb1⟩
      have HD1 := Lib.hid (HR.out.d.below hb1)
      have HA1 := Lib.hid (HR.out.at_.grow hb1)
      have HB1 := Lib.hid (HR.out.on.trans (OnlyS.of_below hb1))
      clear hbox hb1 CP
      go_wp2_with fail
      refine (CF1.out _ _ _ HD1.out).mono ?_
      rintro e w2 ⟨rfl, hd2, ht2⟩
      have hu2 := HD1.out.turned ht2
      have HD2 := Lib.hid hd2
      have HA2 := Lib.hid (HA1.out.onlyT hu2 (by decide) (by decide) (by decide) (by decide) (by decide))
      have HB2 := Lib.hid (HB1.out.trans (OnlyS.of_turns ht2 (by simp)))
      clear hd2 ht2 hu2 CF1 HD1 HA1 HB1
      rcases (by omega : b = 0 ∨ b = 1) with rfl | rfl
      · have hnp := hpart.2 rfl
        clear hpart hb2
        rw [show ((0 : Nat) : Int) = 0 from rfl] at CQ HSEEN
        have CQ1 := Lib.hid (fun W => CQ.out W)
        have hqq : ((highK c (k + 1) : Nat) : Int) = (q : Int) * 2 := by have := HQN.out; omega
        have hq2 : q * 2 < 256 := by have := HQN.out; have := highK_lt hc (k + 1); omega
        have HQQ := Lib.hid hqq
        clear CQ hqq
        go_wp2_with fail
        refine (CQ1.out _).mono ?_
        rintro e w' ⟨rfl, hw⟩
        obtain rfl : _ = w' := hw.symm
        go_wp2_with fail
        refine (CT1.out _ _ _ HD2.out).mono ?_
        rintro e w3 ⟨rfl, hd3, ht3⟩
        have hu3 := HD2.out.turned ht3
        have ha3 := HA2.out.onlyT hu3 (by decide) (by decide) (by decide) (by decide) (by decide)
        have CS := Lib.hid (modSeen_any 0 ha3.m)
        have hbox := ha3.box.cell
        have HD3 := Lib.hid hd3
        have HA3 := Lib.hid ha3
        have HB3 := Lib.hid (HB2.out.trans (OnlyS.of_turns ht3 (by simp)))
        clear hd3 ht3 hu3 ha3 CT1 CQ1 HD2 HA2 HB2
        go_wp2_with fail
        refine CS.out.mono ?_
        rintro e w4 ⟨⟨u, rfl⟩, hm4, hu4⟩
        have ht4 := HA3.out.m.turned (B := 0) hu4 (fun _ _ => Nat.zero_le _)
        have HN := Lib.hid (⟨by rw [HSEEN.out]; exact HA3.out.next hm4 ht4, HD3.out.onlyS hu4 HA3.out.m.nob, HN2.out.1, HN2.out.2, HB3.out.trans (hu4.mono fun g hg => by simp [hg])⟩ : TakRel w w4 D Kd Bm a s rest X c (k + 1) L' R' T')
        clear hm4 hu4 ht4 hbox CS HD3 HA3 HB3
        go_wp2
        go_roundw
        case rel => exact ⟨k + 1, L', R', highK c (k + 1), T', by omega, by go_num, by rw [HQQ.out], rfl, HN.out⟩
        case measure => simp [intOf]; omega
      · have hnp := hpart.1 rfl
        clear hpart hb2
        rw [show ((1 : Nat) : Int) = 1 from rfl] at CQ HSEEN
        have CQ1 := Lib.hid (fun W => CQ.out W)
        have hqq : ((highK c (k + 1) : Nat) : Int) = (q : Int) * 2 + 1 := by have := HQN.out; omega
        have hq2 : q * 2 + 1 < 256 := by have := HQN.out; have := highK_lt hc (k + 1); omega
        have HQQ := Lib.hid hqq
        clear CQ hqq
        go_wp2_with fail
        refine (CQ1.out _).mono ?_
        rintro e w' ⟨rfl, hw⟩
        obtain rfl : _ = w' := hw.symm
        go_wp2_with fail
        refine (CT1.out _ _ _ HD2.out).mono ?_
        rintro e w3 ⟨rfl, hd3, ht3⟩
        have hu3 := HD2.out.turned ht3
        have ha3 := HA2.out.onlyT hu3 (by decide) (by decide) (by decide) (by decide) (by decide)
        have CS := Lib.hid (modSeen_any 1 ha3.m)
        have hbox := ha3.box.cell
        have HD3 := Lib.hid hd3
        have HA3 := Lib.hid ha3
        have HB3 := Lib.hid (HB2.out.trans (OnlyS.of_turns ht3 (by simp)))
        clear hd3 ht3 hu3 ha3 CT1 CQ1 HD2 HA2 HB2
        go_wp2_with fail
        refine CS.out.mono ?_
        rintro e w4 ⟨⟨u, rfl⟩, hm4, hu4⟩
        have ht4 := HA3.out.m.turned (B := 0) hu4 (fun _ _ => Nat.zero_le _)
        have HN := Lib.hid (⟨by rw [HSEEN.out]; exact HA3.out.next hm4 ht4, HD3.out.onlyS hu4 HA3.out.m.nob, HN2.out.1, HN2.out.2, HB3.out.trans (hu4.mono fun g hg => by simp [hg])⟩ : TakRel w w4 D Kd Bm a s rest X c (k + 1) L' R' T')
        clear hm4 hu4 ht4 hbox CS HD3 HA3 HB3
        go_wp2
        go_roundw
        case rel => exact ⟨k + 1, L', R', highK c (k + 1), T', by omega, by go_num, by rw [HQQ.out], rfl, HN.out⟩
        case measure => simp [intOf]; omega
    · obtain rfl : k = 8 := by omega
      have hla := HR.out.laid
      rw [List.drop_of_length_le (by rw [bitsP_len]; exact Nat.le_refl _), List.nil_append] at hla
      rw [highK_eight] at hq
      subst hq
      have HLA := Lib.hid hla
      have hw8 : IntKind.u8.wrap (q : Int) = (q : Int) := by rw [IntKind.wrap_u8]; omega
      clear hla
      go_wp2
      go_ret
      exact ⟨rfl, L, R, T, HLA.out, HR.out.span.1, HR.out.span.2, HR.out.at_, HR.out.d, HR.out.on⟩
end Go.Proofs.YtgbibmgedmbboaaGreat
namespace Go.Proofs.YtgbibmgedmbboaaGreat
open Go.RowKit Go.Sort Go.Shelf

set_option maxHeartbeats 4000000 in
set_option maxRecDepth 100000 in
theorem takeLetter1_any {w : World} {D Kd Bm F T S L R k : Nat} {c : List Int} {rest : List RcPart} {Q X : List Nat} (hi : InvF c) (hk : k < 256) (hat : LetAt Bm F T S c w) (hd : DecAt w D Kd L R (restS Q X)) (hla : Laid L R ([letP c k] ++ rest) Q) (hsp : InSpan L R) (hR : 65536 ≤ R) (hps : ∀ p ∈ [letP c k] ++ rest, p.ok) (hX : ∀ y ∈ X, y < 256) :
    Calls Tryz.prog 60 #[.pointer (some ⟨D, 0, none⟩), .pointer (some ⟨Bm, 0, none⟩)] w fun e w' => e = .returned (.int .u8 (k : Int)) ∧ ∃ L' R' Q', Laid L' R' rest Q' ∧ InSpan L' R' ∧ 65536 ≤ R' ∧ LetAt Bm F T S (letNext c k) w' ∧ DecAt w' D Kd L' R' (restS Q' X) ∧ OnlyS (D :: [T, S]) w w' := by
  have hk' : k < c.length := by rw [hi.1.1]; exact hk
  obtain ⟨v1, v2, v3, v4, v5, v6, v7⟩ := letP_vals hi hk
  obtain ⟨n, L', R', Q', hla2, hi2, hR2, hlo, hhi, CF, CT⟩ := back_more (X := X) hla hsp hR hps hX
  have hfind : fFind c (n : Int) = some k := fFind_some (fun x hx => Int.le_trans (by decide) (hi.1.2 x hx)) (by omega) hk' (by omega) (by rw [v7]; omega)
  have HI := Lib.hid hi
  have HA := Lib.hid hat
  have HD := Lib.hid hd
  have CO := Lib.hid (fun (W : World) (h : LetAt Bm F T S c W) => freqOf_at k h.f hk')
  have CX := Lib.hid (fun (W : World) (h : LetAt Bm F T S c W) => freqFind_any (n : Int) h.f)
  rw [hfind] at CX
  rw [← getD_at hk', ← v1, ← v2] at CO
  have CN := Lib.hid (freqTotal_any hat.f)
  rw [← v3] at CN
  have HN2 := Lib.hid (And.intro hla2 (And.intro hi2 hR2))
  have hbox := hat.box.cell
  have hkw : IntKind.u8.wrap (k : Int) = (k : Int) := by rw [IntKind.wrap_u8]; omega
  clear hk' v1 v2 v3 v4 v5 v6 v7 hla2 hi2 hR2 hlo hhi hfind hat hd hla hsp hR hps hX hi
  obtain ⟨⟨lo, sz, to⟩, hp⟩ : ∃ p, p = letP c k := ⟨_, rfl⟩
  rw [← hp] at CF CT CO CN
  dsimp only at CF CT CO CN
  have CF1 := Lib.hid CF
  have CT1 := Lib.hid CT
  clear hp CF CT
  simp only [findV] at CX
  go_enter Tryz.func60, Tryz.ntmps60
  go_wp2_with fail
  refine CN.out.mono ?_
  rintro e w' ⟨rfl, hw⟩
  obtain rfl : _ = w' := hw.symm
  clear CN
  go_wp2
  have HAD := Lib.hid (show LetAt Bm F T S c w.drew from ⟨HA.out.box, ⟨HA.out.f.fb.same rfl, HA.out.f.tree.same rfl⟩⟩)
  have HDD := Lib.hid HD.out.drew_
  go_region_with (first
    | (go_at_call 58; refine (CF1.out _ _ _ HDD.out).mono ?_; rintro e w2 ⟨rfl, hd2, ht2⟩; have hu2 := HDD.out.turned ht2; have ha2 := HAD.out.onlyT hu2 (by decide) (by decide) (by decide) (by decide); have hbox := ha2.box.cell; have HD2 := Lib.hid hd2; have HA2 := Lib.hid ha2; have HB2 := Lib.hid (OnlyS.of_turns ht2 (S := D :: [T, S]) (by simp)); clear hd2 ht2 hu2 ha2)
    | (go_at_call 61; refine (CX.out _ HA2.out).mono ?_; rintro e w' ⟨rfl, hw⟩; obtain rfl : _ = w' := hw.symm))
  all_goals
    clear CX CF1 HAD HDD
    go_wp2_with fail
    refine (CO.out _ HA2.out).mono ?_
    rintro e w3 ⟨rfl, hb3⟩
    have HA3 := Lib.hid (HA2.out.grow hb3)
    have HD3 := Lib.hid (HD2.out.below hb3)
    have HB3 := Lib.hid ((OnlyS.refl _ _).drew.trans (HB2.out.trans (OnlyS.of_below hb3)))
    clear hb3 hbox CO HA2 HD2 HB2
    go_wp2_with fail
    refine (CT1.out _ _ _ HD3.out).mono ?_
    rintro e w4 ⟨rfl, hd4, ht4⟩
    have hu4 := HD3.out.turned ht4
    have ha4 := HA3.out.onlyT hu4 (by decide) (by decide) (by decide) (by decide)
    have hbox := ha4.box.cell
    have CS := Lib.hid (letSeen_any ha4.f HI.out hk)
    have HD4 := Lib.hid hd4
    have HA4 := Lib.hid ha4
    have HB4 := Lib.hid (HB3.out.trans (OnlyS.of_turns ht4 (by simp)))
    clear hd4 ht4 hu4 ha4 CT1 HD3 HA3 HB3
    go_wp2_with fail
    refine CS.out.mono ?_
    rintro e w5 ⟨rfl, hm5, hu5⟩
    have ht5 := HA4.out.f.turned (B := 0) hu5 ⟨Nat.zero_le _, Nat.zero_le _⟩
    have hs5 : OnlyS [T, S] w4 w5 := ⟨hu5.os, hu5.tape, hu5.output, hu5.size, fun k hk h1 => hu5.block k hk (fun e => h1 (by simp [e])) (fun e => h1 (by simp [e]))⟩
    have HN := Lib.hid (And.intro (HA4.out.next hm5 ht5) (And.intro (HD4.out.onlyS hs5 HA4.out.f.nob) (HB4.out.trans (hs5.mono fun g hg => List.mem_cons_of_mem _ hg))))
    clear hm5 hu5 ht5 hs5 hbox CS HD4 HA4 HB4
    go_wp2
    go_ret
    exact ⟨rfl, L', R', Q', HN2.out.1, HN2.out.2.1, HN2.out.2.2, HN.out.1, HN.out.2.1, HN.out.2.2⟩
end Go.Proofs.YtgbibmgedmbboaaGreat
