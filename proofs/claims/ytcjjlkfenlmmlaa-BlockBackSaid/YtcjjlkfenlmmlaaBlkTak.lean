/- Layer 30: the program: takers of numbers: as they are, as they are laid. -/
import Derived.Test.YtcjjlkfenlmmlaaBlkFn
import Derived.Test.YtcjjlkfenlmmlaaBlkRGet
import Derived.Test.YtcjjlkfenlmmlaaLebFrom
import Derived.Test.YtcjjlkfenlmmlaaOnlyS
import Derived.Test.YtcjjlkfenlmmlaaScopeOnce
namespace Go.Proofs.Ytcjjlkfenlmmlaa
open Go.RowKit Go.Sort

def lenLd : Value → Nat
  | .slice _ n _ => n
  | _ => 0
/-- Numbers: where in a block each is kept, and its limits. -/
def nvs (T : Nat) (L : List (Nat × Nat × Nat)) : List Value := L.flatMap fun q => [.pointer (some ⟨T, q.1, none⟩), .int .i64 (q.2.1 : Int), .int .i64 (q.2.2 : Int)]
/-- What is taken: the block's cells, how far, and why no further. -/
def takeN (l : List UInt8) : List (Nat × Nat × Nat) → Nat → List Value → List Value × Nat × Nat
  | [], at_, cs => (cs, at_, 0)
  | q :: L, at_, cs => if (nbR (lget (l.drop at_)) q.2.1 q.2.2).2.2 = 0 then takeN l L (at_ + (nbR (lget (l.drop at_)) q.2.1 q.2.2).2.1) (cs.set q.1 (.int .i64 ((nbR (lget (l.drop at_)) q.2.1 q.2.2).1 : Int))) else (cs, at_, (nbR (lget (l.drop at_)) q.2.1 q.2.2).2.2)
/-- What a taker of laid numbers leans on: the boxes of the bytes and of the place's pointer, and the place. -/
structure LaidAt (w : World) (G H P : Nat) (A : Option Addr) (n c at_ : Nat) : Prop where
  box : Blk w G 32 [.slice A n c]
  ptr : Blk w H 56 [.pointer (some ⟨P, 0, none⟩)]
  place : Blk w P 3 [.int .i64 (at_ : Int)]
/-- What holds ahead of each number. -/
def LdRel (w : World) (T N G H P : Nat) (A : Option Addr) (n c : Nat) (l : List UInt8) (tT : TypeId) (R : List Value × Nat × Nat) (s : Value) (wr : World) : Prop :=
  ∃ (L : List (Nat × Nat × Nat)) (off at_ : Nat) (A' : Option Addr) (NS cs : List Value), s = .slice A' L.length L.length ∧ (L ≠ [] → A' = some ⟨N, off, none⟩ ∧ NS.drop off = nvs T L) ∧ L.length ≤ 2 ∧ Blk wr N 63 NS ∧ LaidAt wr G H P A n c at_ ∧ at_ ≤ n ∧
    Blk wr T tT cs ∧ Hid (takeN l L at_ cs = R) ∧ (∀ q ∈ L, q.1 < cs.length ∧ q.2.2 ≤ 1099511627776) ∧ OnlyS [T, P] w wr
def LdJ (w : World) (T N G H P : Nat) (A : Option Addr) (n c : Nat) (l : List UInt8) (tT : TypeId) (R : List Value × Nat × Nat) (a : Act) (wr : World) : Prop :=
  ∃ s u5 u6 u7 u8 u9 u10 u11 u12 u13 u14 u15 u16 u17 u18 u19 u20 u21 u22 u23 u24 u25 u26 u27 u28 u29 u30 u31 u32 u33 u34 u35 u36 u37 u38 u39 u40 u41 u42 u43 u44 u45 u46 u47 u48 u49 u50, LdRel w T N G H P A n c l tT R s wr ∧ a = { tmps := #[s, .pointer (some ⟨G, 0, none⟩), .pointer (some ⟨H, 0, none⟩), undef, .int .i64 0, u5, u6, u7, u8, u9, u10, u11, u12, u13, u14, u15, u16, u17, u18, u19, u20, u21, u22, u23, u24, u25, u26, u27, u28, u29, u30, u31, u32, u33, u34, u35, u36, u37, u38, u39, u40, u41, u42, u43, u44, u45, u46, u47, u48, u49, u50], defers := [] }
theorem ld_cells {w : World} {N off T : Nat} {NS : List Value} {q : Nat × Nat × Nat} {L : List (Nat × Nat × Nat)} (h : Blk w N 63 NS) (hd : NS.drop off = nvs T (q :: L)) :
    w.cell? ⟨N, off, none⟩ = some (.pointer (some ⟨T, q.1, none⟩)) ∧ w.cell? ⟨N, off + 1, none⟩ = some (.int .i64 (q.2.1 : Int)) ∧ w.cell? ⟨N, off + 2, none⟩ = some (.int .i64 (q.2.2 : Int)) ∧ NS.drop (off + 3) = nvs T L := by
  have hd' : NS.drop off = .pointer (some ⟨T, q.1, none⟩) :: .int .i64 (q.2.1 : Int) :: .int .i64 (q.2.2 : Int) :: nvs T L := by rw [hd]; simp [nvs]
  refine ⟨?_, ?_, ?_, ?_⟩
  · rw [h.cell, show NS[off]? = (NS.drop off)[0]? by rw [List.getElem?_drop]; rfl, hd']
    rfl
  · rw [h.cell, show NS[off + 1]? = (NS.drop off)[1]? by rw [List.getElem?_drop], hd']
    rfl
  · rw [h.cell, show NS[off + 2]? = (NS.drop off)[2]? by rw [List.getElem?_drop], hd']
    rfl
  · rw [← List.drop_drop, hd']
    rfl
theorem hasB_nb {k a b : Nat} (hb : b ≤ 1099511627776) : hasB (a : Int) (b : Int) (k : Int) = decide (k ≤ 1099511627776 ∧ a ≤ k ∧ k ≤ b) := by
  unfold hasB
  rw [Bool.eq_iff_iff]
  simp
  omega
set_option maxHeartbeats 4000000 in
set_option maxRecDepth 100000 in
theorem blkLaid_any {w : World} {T N G H P : Nat} {A : Option Addr} {n c at0 B : Nat} {l : List UInt8} {tT : TypeId} {cs : List Value} {L0 : List (Nat × Nat × Nat)} (hr : Rd w B A (bvs l)) (hBT : B ≤ T) (hBP : B ≤ P) (hn : l.length = n) (hnc : n ≤ c) (hn1 : n ≤ 1000000)
    (hL : L0.length ≤ 2) (hN : Blk w N 63 (nvs T L0)) (hla : LaidAt w G H P A n c at0) (hat : at0 ≤ n) (hT : Blk w T tT cs) (hq : ∀ q ∈ L0, q.1 < cs.length ∧ q.2.2 ≤ 1099511627776)
    (hTP : T ≠ P) (hTN : tT ≠ 63) (hTG : tT ≠ 32) (hTH : tT ≠ 56) :
    Calls Try.prog 35 #[.slice (some ⟨N, 0, none⟩) L0.length L0.length, .pointer (some ⟨G, 0, none⟩), .pointer (some ⟨H, 0, none⟩)] w fun e w' =>
      e = .returned (.int .i64 ((takeN l L0 at0 cs).2.2 : Int)) ∧ Blk w' T tT (takeN l L0 at0 cs).1 ∧ LaidAt w' G H P A n c (takeN l L0 at0 cs).2.1 ∧ OnlyS [T, P] w w' := by
  obtain ⟨R, hR⟩ : ∃ R, R = takeN l L0 at0 cs := ⟨_, rfl⟩
  rw [← hR]
  have HR0 := Lib.hid hR.symm
  have hGT : G ≠ T := by rintro rfl; have := hT.symm.trans hla.box; simp at this; exact hTG this.2
  have hHT : H ≠ T := by rintro rfl; have := hT.symm.trans hla.ptr; simp at this; exact hTH this.2
  have hNT : N ≠ T := by rintro rfl; have := hT.symm.trans hN; simp at this; exact hTN this.2
  have hGP : G ≠ P := by rintro rfl; have := hla.place.symm.trans hla.box; simp at this
  have hHP : H ≠ P := by rintro rfl; have := hla.place.symm.trans hla.ptr; simp at this
  have hNP : N ≠ P := by rintro rfl; have := hN.symm.trans hla.place; simp at this
  have HNE := Lib.hid (And.intro (And.intro hGT (And.intro hHT hNT)) (And.intro hGP (And.intro hHP hNP)))
  have HTPN := Lib.hid hTP
  have HRB := Lib.hid hr
  have HBT := Lib.hid hBT
  have HBP := Lib.hid hBP
  have HN := Lib.hid hn
  have HNB := Lib.hid hN
  have HLA := Lib.hid hla
  have HTB := Lib.hid hT
  have HQ := Lib.hid hq
  have HBW0 := Lib.hid (show B ≤ w.heap.size by have := hT.lt; omega)
  clear hR hGT hHT hNT hGP hHP hNP hr hBT hBP hn hN hla hT hq hTN hTG hTH
  go_enter Try.func35, Try.ntmps35
  go_wp2_with fail
  refine wp_scope_once 0 (LdJ w T N G H P A n c l tT R) (fun a' _ => lenLd (a'.tmps.getD 0 undef)) rfl ?_ ?_
  · clear HR0 HNB HLA HTB HQ hat
    rintro a' wr ⟨s, u5, u6, u7, u8, u9, u10, u11, u12, u13, u14, u15, u16, u17, u18, u19, u20, u21, u22, u23, u24, u25, u26, u27, u28, u29, u30, u31, u32, u33, u34, u35, u36, u37, u38, u39, u40, u41, u42, u43, u44, u45, u46, u47, u48, u49, u50, hrel, rfl⟩
    obtain ⟨L, off, at_, A', NS, cs', rfl, hA, hl2, hNB, hla, hat, hTB, HT, hqs, ho⟩ := hrel
    match L, hl2 with
    | [], _ =>
      have HO := Lib.hid ho
      have HLA := Lib.hid hla
      have HTB := Lib.hid hTB
      clear hA hNB hla hTB hqs ho hat
      go_wp2_with fail
      simp only [Exit.jump]
      go_ret
      rw [← HT.out]
      exact ⟨rfl, HTB.out, HLA.out, HO.out⟩
    | [q1], _ =>
      obtain ⟨hA1, hA2⟩ := hA (by simp)
      subst hA1
      obtain ⟨c0, c1, c2, hdn⟩ := ld_cells hNB hA2
      obtain ⟨hqc, hq40⟩ := hqs q1 (by simp)
      have hqr : ∀ q ∈ ([] : List (Nat × Nat × Nat)), q.1 < cs'.length ∧ q.2.2 ≤ 1099511627776 := fun q hq => hqs q (by simp at hq; try simp [hq])
      obtain ⟨i, a, b⟩ := q1
      simp only at c0 c1 c2 hqc hq40
      have hBw : B ≤ wr.heap.size := by have := hTB.lt; have := HBT.out; omega
      have hrw := (HRB.out.below (ho.below (B := B) (by intro k hk; simp at hk; rcases hk with rfl | rfl; exact HBT.out; exact HBP.out) HBW0.out)).more hBw
      have hG := hla.box.cell 0
      have hH := hla.ptr.cell 0
      have hP := hla.place.cell 0
      simp only [List.getElem?_cons_zero] at hG hH hP
      have hati : (at_ : Int) ≤ (n : Int) := by omega
      have hnci : (n : Int) ≤ (c : Int) := by omega
      have HO := Lib.hid ho
      have HLA := Lib.hid hla
      have HTB := Lib.hid hTB
      have HNB := Lib.hid hNB
      have HDN := Lib.hid hdn
      have HNS := Lib.hid hA2
      have HQR := Lib.hid hqr
      have HBW := Lib.hid hBw
      have hto := lget_told (l.drop at_)
      have HTL := Lib.hid hto
      clear hA hA2 hNB hla hTB hqs hqr ho hdn hBw hto
      rcases HTL.out with ⟨x, hg, hx64, hjl, -⟩ | hg | hg
      · obtain ⟨j, hj⟩ : ∃ j, j = (lput x).length := ⟨_, rfl⟩
        rw [← hj] at hg hjl
        rw [List.length_drop, HN.out] at hjl
        have CG := Lib.hid (lebGet_from hrw HN.out hnc hn1 hat hg)
        have hxi : (x : Int) ≤ 18446744073709551615 := by omega
        have CH := Lib.hid (fun W => blkHas_any (some ⟨T, i, none⟩) (a : Int) (b : Int) (v := (x : Int)) (by omega) hxi W)
        rw [hasB_nb hq40] at CH
        by_cases hh : x ≤ 1099511627776 ∧ a ≤ x ∧ x ≤ b
        · have HTK := Lib.hid (show takeN l [] (at_ + j) (cs'.set i (.int .i64 (x : Int))) = R by
            rw [← HT.out]
            simp only [takeN, hg]
            unfold nbR
            rw [if_pos rfl, if_pos hh]
            rfl)
          rw [decide_eq_true hh] at CH
          have hx40 : (x : Int) ≤ 1099511627776 := by omega
          have hjn : (at_ : Int) + (j : Int) ≤ 1000000 := by omega
          have hjn2 : at_ + j ≤ n := by omega
          clear hrw hg HT hh HTL hj hxi
          go_wp2
          go_quiet ((go_at_call 36; exact quietOf CG.out))
          go_wp2_with fail
          all_goals
            refine (CH.out _).mono ?_
            rintro e w2 ⟨rfl, hb2⟩
            have HO2 := Lib.hid ((HO.out.drewN nq).trans (OnlyS.of_below hb2))
            have HTB2 := Lib.hid ((HTB.out.same (w' := wr.drewN nq) rfl).grow hb2)
            have HNB2 := Lib.hid ((HNB.out.same (w' := wr.drewN nq) rfl).grow hb2)
            have HG2 := Lib.hid ((HLA.out.box.same (w' := wr.drewN nq) rfl).grow hb2)
            have HH2 := Lib.hid ((HLA.out.ptr.same (w' := wr.drewN nq) rfl).grow hb2)
            have HP2 := Lib.hid ((HLA.out.place.same (w' := wr.drewN nq) rfl).grow hb2)
            clear hb2 HO HTB HLA HNB CH CG c0 c1 c2 hG hH hP
            have c0 := (ld_cells HNB2.out (q := (i, a, b)) (L := []) (T := T) (off := off) (HNS.out)).1
            have hT2 := HTB2.out.cell i
            rw [List.getElem?_eq_getElem hqc] at hT2
            have hf2 := HTB2.out.frozen i
            have hTP := HTPN.out
            have hPT : ¬ P = T := fun h => hTP h.symm
            have hHT : ¬ H = T := HNE.out.1.2.1
            have hTH : ¬ T = H := fun h => hHT h.symm
            have hH := HH2.out.cell 0
            have hP := HP2.out.cell 0
            have hfp := HP2.out.frozen 0
            simp only [List.getElem?_cons_zero] at hH hP
            go_wp2
            go_step3
            refine ⟨rfl, ⟨_, _, _, _, _, _, _, _, _, _, _, _, _, _, _, _, _, _, _, _, _, _, _, _, _, _, _, _, _, _, _, _, _, _, _, _, _, _, _, _, _, _, _, _, _, _, _, ⟨[], off + 3, at_ + j, _, NS, cs'.set i (.int .i64 (x : Int)), rfl, fun h => absurd rfl h, by simp, ?_, ⟨?_, ?_, ?_⟩, hjn2, ?_, HTK, ?_, ?_⟩, rfl⟩, ?_⟩
            · exact (HNB2.out.setOther ⟨T, i, none⟩ _ HNE.out.1.2.2).setOther ⟨P, 0, none⟩ _ HNE.out.2.2.2
            · exact (HG2.out.setOther ⟨T, i, none⟩ _ HNE.out.1.1).setOther ⟨P, 0, none⟩ _ HNE.out.2.1
            · exact (HH2.out.setOther ⟨T, i, none⟩ _ HNE.out.1.2.1).setOther ⟨P, 0, none⟩ _ HNE.out.2.2.1
            · have := (HP2.out.setOther ⟨T, i, none⟩ (.int .i64 (x : Int)) hPT).set_ 0 (.int .i64 ((at_ + j : Nat) : Int))
              rw [Int.natCast_add] at this ⊢
              exact this
            · exact (HTB2.out.set_ i (.int .i64 (x : Int))).setOther ⟨P, 0, none⟩ _ hTP
            · intro q hq
              rw [List.length_set]
              exact HQR.out q hq
            · exact (HO2.out.set_ (p := ⟨T, i, none⟩) (by simp) _).set_ (p := ⟨P, 0, none⟩) (by simp) _
            · simp [lenLd]
        · have hres : R = (cs', at_, 15) := by
            rw [← HT.out]
            simp only [takeN, hg]
            unfold nbR
            rw [if_pos rfl, if_neg hh]
            rfl
          have HRES := Lib.hid hres
          rw [decide_eq_false hh] at CH
          clear hrw hg HT hh HTL hj hres hxi
          go_wp2
          go_quiet ((go_at_call 36; exact quietOf CG.out))
          go_wp2_with fail
          all_goals
            refine (CH.out _).mono ?_
            rintro e w2 ⟨rfl, hb2⟩
            have HO2 := Lib.hid ((HO.out.drewN nq).trans (OnlyS.of_below hb2))
            have HTB2 := Lib.hid ((HTB.out.same (w' := wr.drewN nq) rfl).grow hb2)
            have HG2 := Lib.hid ((HLA.out.box.same (w' := wr.drewN nq) rfl).grow hb2)
            have HH2 := Lib.hid ((HLA.out.ptr.same (w' := wr.drewN nq) rfl).grow hb2)
            have HP2 := Lib.hid ((HLA.out.place.same (w' := wr.drewN nq) rfl).grow hb2)
            clear hb2 HO HTB HLA HNB CH CG
            go_wp2
            simp only [Exit.jump]
            go_ret
            rw [HRES.out]
            exact ⟨rfl, HTB2.out, ⟨HG2.out, HH2.out, HP2.out⟩, HO2.out⟩
      · have CG := Lib.hid (lebGet_from hrw HN.out hnc hn1 hat hg)
        have hres : R = (cs', at_, 11) := by
          rw [← HT.out]
          simp only [takeN, hg]
          rfl
        have HRES := Lib.hid hres
        clear hrw hg HT HTL hres
        go_wp2
        go_quiet ((go_at_call 36; exact quietOf CG.out))
        go_wp2
        all_goals
          simp only [Exit.jump]
          go_ret
          rw [HRES.out]
          exact ⟨rfl, HTB.out.same (w' := wr.drewN nq) rfl, ⟨HLA.out.box.same (w' := wr.drewN nq) rfl, HLA.out.ptr.same (w' := wr.drewN nq) rfl, HLA.out.place.same (w' := wr.drewN nq) rfl⟩, HO.out.drewN nq⟩
      · have CG := Lib.hid (lebGet_from hrw HN.out hnc hn1 hat hg)
        have hres : R = (cs', at_, 15) := by
          rw [← HT.out]
          simp only [takeN, hg]
          rfl
        have HRES := Lib.hid hres
        clear hrw hg HT HTL hres
        go_wp2
        go_quiet ((go_at_call 36; exact quietOf CG.out))
        go_wp2
        all_goals
          simp only [Exit.jump]
          go_ret
          rw [HRES.out]
          exact ⟨rfl, HTB.out.same (w' := wr.drewN nq) rfl, ⟨HLA.out.box.same (w' := wr.drewN nq) rfl, HLA.out.ptr.same (w' := wr.drewN nq) rfl, HLA.out.place.same (w' := wr.drewN nq) rfl⟩, HO.out.drewN nq⟩
    | [q1, q2], _ =>
      obtain ⟨hA1, hA2⟩ := hA (by simp)
      subst hA1
      obtain ⟨c0, c1, c2, hdn⟩ := ld_cells hNB hA2
      obtain ⟨hqc, hq40⟩ := hqs q1 (by simp)
      have hqr : ∀ q ∈ ([q2] : List (Nat × Nat × Nat)), q.1 < cs'.length ∧ q.2.2 ≤ 1099511627776 := fun q hq => hqs q (by simp at hq; try simp [hq])
      obtain ⟨i, a, b⟩ := q1
      simp only at c0 c1 c2 hqc hq40
      have hBw : B ≤ wr.heap.size := by have := hTB.lt; have := HBT.out; omega
      have hrw := (HRB.out.below (ho.below (B := B) (by intro k hk; simp at hk; rcases hk with rfl | rfl; exact HBT.out; exact HBP.out) HBW0.out)).more hBw
      have hG := hla.box.cell 0
      have hH := hla.ptr.cell 0
      have hP := hla.place.cell 0
      simp only [List.getElem?_cons_zero] at hG hH hP
      have hati : (at_ : Int) ≤ (n : Int) := by omega
      have hnci : (n : Int) ≤ (c : Int) := by omega
      have HO := Lib.hid ho
      have HLA := Lib.hid hla
      have HTB := Lib.hid hTB
      have HNB := Lib.hid hNB
      have HDN := Lib.hid hdn
      have HNS := Lib.hid hA2
      have HQR := Lib.hid hqr
      have HBW := Lib.hid hBw
      have hto := lget_told (l.drop at_)
      have HTL := Lib.hid hto
      clear hA hA2 hNB hla hTB hqs hqr ho hdn hBw hto
      rcases HTL.out with ⟨x, hg, hx64, hjl, -⟩ | hg | hg
      · obtain ⟨j, hj⟩ : ∃ j, j = (lput x).length := ⟨_, rfl⟩
        rw [← hj] at hg hjl
        rw [List.length_drop, HN.out] at hjl
        have CG := Lib.hid (lebGet_from hrw HN.out hnc hn1 hat hg)
        have hxi : (x : Int) ≤ 18446744073709551615 := by omega
        have CH := Lib.hid (fun W => blkHas_any (some ⟨T, i, none⟩) (a : Int) (b : Int) (v := (x : Int)) (by omega) hxi W)
        rw [hasB_nb hq40] at CH
        by_cases hh : x ≤ 1099511627776 ∧ a ≤ x ∧ x ≤ b
        · have HTK := Lib.hid (show takeN l [q2] (at_ + j) (cs'.set i (.int .i64 (x : Int))) = R by
            rw [← HT.out]
            simp only [takeN, hg]
            unfold nbR
            rw [if_pos rfl, if_pos hh]
            rfl)
          rw [decide_eq_true hh] at CH
          have hx40 : (x : Int) ≤ 1099511627776 := by omega
          have hjn : (at_ : Int) + (j : Int) ≤ 1000000 := by omega
          have hjn2 : at_ + j ≤ n := by omega
          clear hrw hg HT hh HTL hj hxi
          go_wp2
          go_quiet ((go_at_call 36; exact quietOf CG.out))
          go_wp2_with fail
          all_goals
            refine (CH.out _).mono ?_
            rintro e w2 ⟨rfl, hb2⟩
            have HO2 := Lib.hid ((HO.out.drewN nq).trans (OnlyS.of_below hb2))
            have HTB2 := Lib.hid ((HTB.out.same (w' := wr.drewN nq) rfl).grow hb2)
            have HNB2 := Lib.hid ((HNB.out.same (w' := wr.drewN nq) rfl).grow hb2)
            have HG2 := Lib.hid ((HLA.out.box.same (w' := wr.drewN nq) rfl).grow hb2)
            have HH2 := Lib.hid ((HLA.out.ptr.same (w' := wr.drewN nq) rfl).grow hb2)
            have HP2 := Lib.hid ((HLA.out.place.same (w' := wr.drewN nq) rfl).grow hb2)
            clear hb2 HO HTB HLA HNB CH CG c0 c1 c2 hG hH hP
            have c0 := (ld_cells HNB2.out (q := (i, a, b)) (L := [q2]) (T := T) (off := off) (HNS.out)).1
            have hT2 := HTB2.out.cell i
            rw [List.getElem?_eq_getElem hqc] at hT2
            have hf2 := HTB2.out.frozen i
            have hTP := HTPN.out
            have hPT : ¬ P = T := fun h => hTP h.symm
            have hHT : ¬ H = T := HNE.out.1.2.1
            have hTH : ¬ T = H := fun h => hHT h.symm
            have hH := HH2.out.cell 0
            have hP := HP2.out.cell 0
            have hfp := HP2.out.frozen 0
            simp only [List.getElem?_cons_zero] at hH hP
            go_wp2
            go_step3
            refine ⟨rfl, ⟨_, _, _, _, _, _, _, _, _, _, _, _, _, _, _, _, _, _, _, _, _, _, _, _, _, _, _, _, _, _, _, _, _, _, _, _, _, _, _, _, _, _, _, _, _, _, _, ⟨[q2], off + 3, at_ + j, _, NS, cs'.set i (.int .i64 (x : Int)), rfl, fun _ => ⟨rfl, HDN.out⟩, by simp, ?_, ⟨?_, ?_, ?_⟩, hjn2, ?_, HTK, ?_, ?_⟩, rfl⟩, ?_⟩
            · exact (HNB2.out.setOther ⟨T, i, none⟩ _ HNE.out.1.2.2).setOther ⟨P, 0, none⟩ _ HNE.out.2.2.2
            · exact (HG2.out.setOther ⟨T, i, none⟩ _ HNE.out.1.1).setOther ⟨P, 0, none⟩ _ HNE.out.2.1
            · exact (HH2.out.setOther ⟨T, i, none⟩ _ HNE.out.1.2.1).setOther ⟨P, 0, none⟩ _ HNE.out.2.2.1
            · have := (HP2.out.setOther ⟨T, i, none⟩ (.int .i64 (x : Int)) hPT).set_ 0 (.int .i64 ((at_ + j : Nat) : Int))
              rw [Int.natCast_add] at this ⊢
              exact this
            · exact (HTB2.out.set_ i (.int .i64 (x : Int))).setOther ⟨P, 0, none⟩ _ hTP
            · intro q hq
              rw [List.length_set]
              exact HQR.out q hq
            · exact (HO2.out.set_ (p := ⟨T, i, none⟩) (by simp) _).set_ (p := ⟨P, 0, none⟩) (by simp) _
            · simp [lenLd]
        · have hres : R = (cs', at_, 15) := by
            rw [← HT.out]
            simp only [takeN, hg]
            unfold nbR
            rw [if_pos rfl, if_neg hh]
            rfl
          have HRES := Lib.hid hres
          rw [decide_eq_false hh] at CH
          clear hrw hg HT hh HTL hj hres hxi
          go_wp2
          go_quiet ((go_at_call 36; exact quietOf CG.out))
          go_wp2_with fail
          all_goals
            refine (CH.out _).mono ?_
            rintro e w2 ⟨rfl, hb2⟩
            have HO2 := Lib.hid ((HO.out.drewN nq).trans (OnlyS.of_below hb2))
            have HTB2 := Lib.hid ((HTB.out.same (w' := wr.drewN nq) rfl).grow hb2)
            have HG2 := Lib.hid ((HLA.out.box.same (w' := wr.drewN nq) rfl).grow hb2)
            have HH2 := Lib.hid ((HLA.out.ptr.same (w' := wr.drewN nq) rfl).grow hb2)
            have HP2 := Lib.hid ((HLA.out.place.same (w' := wr.drewN nq) rfl).grow hb2)
            clear hb2 HO HTB HLA HNB CH CG
            go_wp2
            simp only [Exit.jump]
            go_ret
            rw [HRES.out]
            exact ⟨rfl, HTB2.out, ⟨HG2.out, HH2.out, HP2.out⟩, HO2.out⟩
      · have CG := Lib.hid (lebGet_from hrw HN.out hnc hn1 hat hg)
        have hres : R = (cs', at_, 11) := by
          rw [← HT.out]
          simp only [takeN, hg]
          rfl
        have HRES := Lib.hid hres
        clear hrw hg HT HTL hres
        go_wp2
        go_quiet ((go_at_call 36; exact quietOf CG.out))
        go_wp2
        all_goals
          simp only [Exit.jump]
          go_ret
          rw [HRES.out]
          exact ⟨rfl, HTB.out.same (w' := wr.drewN nq) rfl, ⟨HLA.out.box.same (w' := wr.drewN nq) rfl, HLA.out.ptr.same (w' := wr.drewN nq) rfl, HLA.out.place.same (w' := wr.drewN nq) rfl⟩, HO.out.drewN nq⟩
      · have CG := Lib.hid (lebGet_from hrw HN.out hnc hn1 hat hg)
        have hres : R = (cs', at_, 15) := by
          rw [← HT.out]
          simp only [takeN, hg]
          rfl
        have HRES := Lib.hid hres
        clear hrw hg HT HTL hres
        go_wp2
        go_quiet ((go_at_call 36; exact quietOf CG.out))
        go_wp2
        all_goals
          simp only [Exit.jump]
          go_ret
          rw [HRES.out]
          exact ⟨rfl, HTB.out.same (w' := wr.drewN nq) rfl, ⟨HLA.out.box.same (w' := wr.drewN nq) rfl, HLA.out.ptr.same (w' := wr.drewN nq) rfl, HLA.out.place.same (w' := wr.drewN nq) rfl⟩, HO.out.drewN nq⟩
  · intro hpass
    go_wp2_with fail
    go_step3
    rename_i hK
    refine hK _ _ (hpass _ _ ?_)
    exact ⟨_, _, _, _, _, _, _, _, _, _, _, _, _, _, _, _, _, _, _, _, _, _, _, _, _, _, _, _, _, _, _, _, _, _, _, _, _, _, _, _, _, _, _, _, _, _, _, ⟨L0, 0, at0, _, nvs T L0, cs, rfl, fun _ => ⟨rfl, rfl⟩, hL, HNB.out, HLA.out, hat, HTB.out, HR0, HQ.out, OnlyS.refl _ _⟩, rfl⟩
end Go.Proofs.Ytcjjlkfenlmmlaa
