/-
  leb.Get of what lies from a place on. · Layer 30: the program: takers of numbers: as they are, as they are laid. · Layer 30: the program: numbers as they are; numbers of a block by either taker. · Layer 30: the program: numbers as they are laid.
-/
import Derived.Test.YtjignfnkcbklkaaQ06
import Derived.Test.YtjignfnkcbklkaaQ08
import Derived.Test.YtjignfnkcbklkaaQ09
namespace Go.Proofs.Ytjignfnkcbklkaa
open Go.RowKit

section
variable {w : World} {B : Nat} {A : Option Addr} {n m : Nat} {l : List UInt8}
theorem rd_from {at_ : Nat} (hr : Rd w B A (bvs l)) (hn : l.length = n) (hnm : n ≤ m) (hat : at_ ≤ n) : Rd w B (if m = at_ then A else Option.map (fun x => x.add at_) A) (bvs (l.drop at_)) := by
  by_cases h : m = at_
  · rw [List.drop_of_length_le (by omega)]; exact Rd.nil_ _ _ _
  · rw [if_neg h, ← bvs_drop]; exact hr.drop at_
theorem lebGet_from {at_ : Nat} {k j e : Nat} (hr : Rd w w.heap.size A (bvs l)) (hn : l.length = n) (hnm : n ≤ m) (hn1 : n ≤ 1000000) (hat : at_ ≤ n) (hg : lget (l.drop at_) = (k, j, e)) (W : World) (hW : W.heap = w.heap) :
    Calls Try.prog 34 #[.slice (if m = at_ then A else Option.map (fun x => x.add at_) A) (n - at_) (m - at_)] W fun e' w' => e' = .returned (.tuple #[.int .u64 k, .int .i64 j, .int .i64 e]) ∧ w' = W :=
  (lebGet_any _ _ _ (l.drop at_) W (rd_from (rd_same (by rw [hW]; exact hr) hW) hn hnm hat) (by rw [List.length_drop, hn]) (by omega) k j e hg).mono fun _ _ h => ⟨h.1, h.2.symm⟩
end
end Go.Proofs.Ytjignfnkcbklkaa
namespace Go.Proofs.Ytjignfnkcbklkaa
open Go.RowKit Go.Sort

def lenLd : Value → Nat
  | .slice _ n _ => n
  | _ => 0
/-- Numbers: where in a block each is kept, and its limits. -/
def nvs30 (T : Nat) (L : List (Nat × Nat × Nat)) : List Value := L.flatMap fun q => [.pointer (some ⟨T, q.1, none⟩), .int .i64 (q.2.1 : Int), .int .i64 (q.2.2 : Int)]
/-- What is taken: the block's cells, how far, and why no further. -/
def takeN (l : List UInt8) : List (Nat × Nat × Nat) → Nat → List Value → List Value × Nat × Nat
  | [], at_, cs => (cs, at_, 0)
  | q :: L, at_, cs => if (nbR (lget (l.drop at_)) q.2.1 q.2.2).2.2 = 0 then takeN l L (at_ + (nbR (lget (l.drop at_)) q.2.1 q.2.2).2.1) (cs.set q.1 (.int .i64 ((nbR (lget (l.drop at_)) q.2.1 q.2.2).1 : Int))) else (cs, at_, (nbR (lget (l.drop at_)) q.2.1 q.2.2).2.2)
/-- What a taker of laid numbers leans on: the boxes of the bytes and of the place's pointer, and the place. -/
structure LaidAt (w : World) (G H P : Nat) (A : Option Addr) (n c at_ : Nat) : Prop where
  box : Blk w G 29 [.slice A n c]
  ptr : Blk w H 85 [.pointer (some ⟨P, 0, none⟩)]
  place : Blk w P 3 [.int .i64 (at_ : Int)]
/-- What holds ahead of each number. -/
def LdRel (w : World) (T N G H P : Nat) (A : Option Addr) (n c : Nat) (l : List UInt8) (tT : TypeId) (R : List Value × Nat × Nat) (s : Value) (wr : World) : Prop :=
  ∃ (L : List (Nat × Nat × Nat)) (off at_ : Nat) (A' : Option Addr) (NS cs : List Value), s = .slice A' L.length L.length ∧ (L ≠ [] → A' = some ⟨N, off, none⟩ ∧ NS.drop off = nvs30 T L) ∧ L.length ≤ 2 ∧ Blk wr N 87 NS ∧ LaidAt wr G H P A n c at_ ∧ at_ ≤ n ∧
    Blk wr T tT cs ∧ Hid (takeN l L at_ cs = R) ∧ (∀ q ∈ L, q.1 < cs.length ∧ q.2.2 ≤ 1099511627776) ∧ OnlyS [T, P] w wr
def LdJ (w : World) (T N G H P : Nat) (A : Option Addr) (n c : Nat) (l : List UInt8) (tT : TypeId) (R : List Value × Nat × Nat) (a : Act) (wr : World) : Prop :=
  ∃ s u5 u6 u7 u8 u9 u10 u11 u12 u13 u14 u15 u16 u17 u18 u19 u20 u21 u22 u23 u24 u25 u26 u27 u28 u29 u30 u31 u32 u33 u34 u35 u36 u37 u38 u39 u40 u41 u42 u43 u44 u45 u46 u47 u48 u49 u50, LdRel w T N G H P A n c l tT R s wr ∧ a = { tmps := #[s, .pointer (some ⟨G, 0, none⟩), .pointer (some ⟨H, 0, none⟩), undef, .int .i64 0, u5, u6, u7, u8, u9, u10, u11, u12, u13, u14, u15, u16, u17, u18, u19, u20, u21, u22, u23, u24, u25, u26, u27, u28, u29, u30, u31, u32, u33, u34, u35, u36, u37, u38, u39, u40, u41, u42, u43, u44, u45, u46, u47, u48, u49, u50], defers := [] }
theorem ld_cells {w : World} {N off T : Nat} {NS : List Value} {q : Nat × Nat × Nat} {L : List (Nat × Nat × Nat)} (h : Blk w N 87 NS) (hd : NS.drop off = nvs30 T (q :: L)) :
    w.cell? ⟨N, off, none⟩ = some (.pointer (some ⟨T, q.1, none⟩)) ∧ w.cell? ⟨N, off + 1, none⟩ = some (.int .i64 (q.2.1 : Int)) ∧ w.cell? ⟨N, off + 2, none⟩ = some (.int .i64 (q.2.2 : Int)) ∧ NS.drop (off + 3) = nvs30 T L := by
  have hd' : NS.drop off = .pointer (some ⟨T, q.1, none⟩) :: .int .i64 (q.2.1 : Int) :: .int .i64 (q.2.2 : Int) :: nvs30 T L := by rw [hd]; simp [nvs30]
  refine ⟨?_, ?_, ?_, ?_⟩
  · rw [h.cell, show NS[off]? = (NS.drop off)[0]? by rw [List.getElem?_drop]; rfl, hd']
    rfl
  · rw [h.cell, show NS[off + 1]? = (NS.drop off)[1]? by rw [List.getElem?_drop], hd']
    rfl
  · rw [h.cell, show NS[off + 2]? = (NS.drop off)[2]? by rw [List.getElem?_drop], hd']
    rfl
  · rw [← List.drop_drop, hd']
    rfl
theorem hasB_nb {k a b : Nat} (hb : b ≤ 1099511627776) : hasB30 (a : Int) (b : Int) (k : Int) = decide (k ≤ 1099511627776 ∧ a ≤ k ∧ k ≤ b) := by
  unfold hasB30
  rw [Bool.eq_iff_iff]
  simp
  omega
set_option maxHeartbeats 4000000 in
set_option maxRecDepth 100000 in
theorem blkLaid_any {w : World} {T N G H P : Nat} {A : Option Addr} {n c at0 B : Nat} {l : List UInt8} {tT : TypeId} {cs : List Value} {L0 : List (Nat × Nat × Nat)} (hr : Rd w B A (bvs l)) (hBT : B ≤ T) (hBP : B ≤ P) (hn : l.length = n) (hnc : n ≤ c) (hn1 : n ≤ 1000000)
    (hL : L0.length ≤ 2) (hN : Blk w N 87 (nvs30 T L0)) (hla : LaidAt w G H P A n c at0) (hat : at0 ≤ n) (hT : Blk w T tT cs) (hq : ∀ q ∈ L0, q.1 < cs.length ∧ q.2.2 ≤ 1099511627776)
    (hTP : T ≠ P) (hTN : tT ≠ 87) (hTG : tT ≠ 29) (hTH : tT ≠ 85) :
    Calls Try.prog 58 #[.slice (some ⟨N, 0, none⟩) L0.length L0.length, .pointer (some ⟨G, 0, none⟩), .pointer (some ⟨H, 0, none⟩)] w fun e w' =>
      e = .returned (.int .i64 ((takeN l L0 at0 cs).2.2 : Int)) ∧ Blk w' T tT (takeN l L0 at0 cs).1 ∧ LaidAt w' G H P A n c (takeN l L0 at0 cs).2.1 ∧ OnlyS [T, P] w w' := by
  obtain ⟨R, hR⟩ : ∃ R, R = takeN l L0 at0 cs := ⟨_, rfl⟩
  rw [← hR]
  have HR0 := Lib.hid hR.symm
  have hGT : G ≠ T := by rintro rfl; have := hT.symm.trans hla.box; simp at this; exact hTG this.2
  have hHT : H ≠ T := by rintro rfl; have := hT.symm.trans hla.ptr; simp at this; exact hTH this.2
  have hNT : N ≠ T := by rintro rfl; have := hT.symm.trans hN; simp at this; exact hTN this.2
  have hGP : G ≠ P := by rintro rfl; have := hla.place.symm.trans hla.box; simp at this
  have hHP : H ≠ P := by rintro rfl; have := hla.place.symm.trans hla.ptr; simp at this
  have hNP : N ≠ P := by rintro rfl; have := hN.symm.trans hla.place; simp at this
  have HNE := Lib.hid (And.intro (And.intro hGT (And.intro hHT hNT)) (And.intro hGP (And.intro hHP hNP)))
  have HTPN := Lib.hid hTP
  have HRB := Lib.hid hr
  have HBT := Lib.hid hBT
  have HBP := Lib.hid hBP
  have HN := Lib.hid hn
  have HNB := Lib.hid hN
  have HLA := Lib.hid hla
  have HTB := Lib.hid hT
  have HQ := Lib.hid hq
  have HBW0 := Lib.hid (show B ≤ w.heap.size by have := hT.lt; omega)
  clear hR hGT hHT hNT hGP hHP hNP hr hBT hBP hn hN hla hT hq hTN hTG hTH
  go_enter Try.func58, Try.ntmps58
  go_wp2_with fail
  refine wp_scope_once 0 (LdJ w T N G H P A n c l tT R) (fun a' _ => lenLd (a'.tmps.getD 0 undef)) rfl ?_ ?_
  · clear HR0 HNB HLA HTB HQ hat
    rintro a' wr ⟨s, u5, u6, u7, u8, u9, u10, u11, u12, u13, u14, u15, u16, u17, u18, u19, u20, u21, u22, u23, u24, u25, u26, u27, u28, u29, u30, u31, u32, u33, u34, u35, u36, u37, u38, u39, u40, u41, u42, u43, u44, u45, u46, u47, u48, u49, u50, hrel, rfl⟩
    obtain ⟨L, off, at_, A', NS, cs', rfl, hA, hl2, hNB, hla, hat, hTB, HT, hqs, ho⟩ := hrel
    match L, hl2 with
    | [], _ =>
      have HO := Lib.hid ho
      have HLA := Lib.hid hla
      have HTB := Lib.hid hTB
      clear hA hNB hla hTB hqs ho hat
      go_wp2_with fail
      simp only [Exit.jump]
      go_ret
      rw [← HT.out]
      exact ⟨rfl, HTB.out, HLA.out, HO.out⟩
    | [q1], _ =>
      obtain ⟨hA1, hA2⟩ := hA (by simp)
      subst hA1
      obtain ⟨c0, c1, c2, hdn⟩ := ld_cells hNB hA2
      obtain ⟨hqc, hq40⟩ := hqs q1 (by simp)
      have hqr : ∀ q ∈ ([] : List (Nat × Nat × Nat)), q.1 < cs'.length ∧ q.2.2 ≤ 1099511627776 := fun q hq => hqs q (by simp at hq; try simp [hq])
      obtain ⟨i, a, b⟩ := q1
      simp only at c0 c1 c2 hqc hq40
      have hBw : B ≤ wr.heap.size := by have := hTB.lt; have := HBT.out; omega
      have hrw := (HRB.out.below (ho.below (B := B) (by intro k hk; simp at hk; rcases hk with rfl | rfl; exact HBT.out; exact HBP.out) HBW0.out)).more hBw
      have hG := hla.box.cell 0
      have hH := hla.ptr.cell 0
      have hP := hla.place.cell 0
      simp only [List.getElem?_cons_zero] at hG hH hP
      have hati : (at_ : Int) ≤ (n : Int) := by omega
      have hnci : (n : Int) ≤ (c : Int) := by omega
      have HO := Lib.hid ho
      have HLA := Lib.hid hla
      have HTB := Lib.hid hTB
      have HNB := Lib.hid hNB
      have HDN := Lib.hid hdn
      have HNS := Lib.hid hA2
      have HQR := Lib.hid hqr
      have HBW := Lib.hid hBw
      have hto := lget_told (l.drop at_)
      have HTL := Lib.hid hto
      clear hA hA2 hNB hla hTB hqs hqr ho hdn hBw hto
      rcases HTL.out with ⟨x, hg, hx64, hjl, -⟩ | hg | hg
      · obtain ⟨j, hj⟩ : ∃ j, j = (lput x).length := ⟨_, rfl⟩
        rw [← hj] at hg hjl
        rw [List.length_drop, HN.out] at hjl
        have CG := Lib.hid (lebGet_from hrw HN.out hnc hn1 hat hg)
        have hxi : (x : Int) ≤ 18446744073709551615 := by omega
        have CH := Lib.hid (fun W => blkHas_any (some ⟨T, i, none⟩) (a : Int) (b : Int) (v := (x : Int)) (by omega) hxi W)
        rw [hasB_nb hq40] at CH
        by_cases hh : x ≤ 1099511627776 ∧ a ≤ x ∧ x ≤ b
        · have HTK := Lib.hid (show takeN l [] (at_ + j) (cs'.set i (.int .i64 (x : Int))) = R by
            rw [← HT.out]
            simp only [takeN, hg]
            unfold nbR
            rw [if_pos rfl, if_pos hh]
            rfl)
          rw [decide_eq_true hh] at CH
          have hx40 : (x : Int) ≤ 1099511627776 := by omega
          have hjn : (at_ : Int) + (j : Int) ≤ 1000000 := by omega
          have hjn2 : at_ + j ≤ n := by omega
          clear hrw hg HT hh HTL hj hxi
          go_wp2
          go_quiet ((go_at_call 34; exact quietOf CG.out))
          go_wp2_with fail
          all_goals
            refine (CH.out _).mono ?_
            rintro e w2 ⟨rfl, hb2⟩
            have HO2 := Lib.hid ((HO.out.drewN nq).trans (OnlyS.of_below hb2))
            have HTB2 := Lib.hid ((HTB.out.same (w' := wr.drewN nq) rfl).grow hb2)
            have HNB2 := Lib.hid ((HNB.out.same (w' := wr.drewN nq) rfl).grow hb2)
            have HG2 := Lib.hid ((HLA.out.box.same (w' := wr.drewN nq) rfl).grow hb2)
            have HH2 := Lib.hid ((HLA.out.ptr.same (w' := wr.drewN nq) rfl).grow hb2)
            have HP2 := Lib.hid ((HLA.out.place.same (w' := wr.drewN nq) rfl).grow hb2)
            clear hb2 HO HTB HLA HNB CH CG c0 c1 c2 hG hH hP
            have c0 := (ld_cells HNB2.out (q := (i, a, b)) (L := []) (T := T) (off := off) (HNS.out)).1
            have hT2 := HTB2.out.cell i
            rw [List.getElem?_eq_getElem hqc] at hT2
            have hf2 := HTB2.out.frozen i
            have hTP := HTPN.out
            have hPT : ¬ P = T := fun h => hTP h.symm
            have hHT : ¬ H = T := HNE.out.1.2.1
            have hTH : ¬ T = H := fun h => hHT h.symm
            have hH := HH2.out.cell 0
            have hP := HP2.out.cell 0
            have hfp := HP2.out.frozen 0
            simp only [List.getElem?_cons_zero] at hH hP
            go_wp2
            go_step3
            refine ⟨rfl, ⟨_, _, _, _, _, _, _, _, _, _, _, _, _, _, _, _, _, _, _, _, _, _, _, _, _, _, _, _, _, _, _, _, _, _, _, _, _, _, _, _, _, _, _, _, _, _, _, ⟨[], off + 3, at_ + j, _, NS, cs'.set i (.int .i64 (x : Int)), rfl, fun h => absurd rfl h, by simp, ?_, ⟨?_, ?_, ?_⟩, hjn2, ?_, HTK, ?_, ?_⟩, rfl⟩, ?_⟩
            · exact (HNB2.out.setOther ⟨T, i, none⟩ _ HNE.out.1.2.2).setOther ⟨P, 0, none⟩ _ HNE.out.2.2.2
            · exact (HG2.out.setOther ⟨T, i, none⟩ _ HNE.out.1.1).setOther ⟨P, 0, none⟩ _ HNE.out.2.1
            · exact (HH2.out.setOther ⟨T, i, none⟩ _ HNE.out.1.2.1).setOther ⟨P, 0, none⟩ _ HNE.out.2.2.1
            · have := (HP2.out.setOther ⟨T, i, none⟩ (.int .i64 (x : Int)) hPT).set_ 0 (.int .i64 ((at_ + j : Nat) : Int))
              rw [Int.natCast_add] at this ⊢
              exact this
            · exact (HTB2.out.set_ i (.int .i64 (x : Int))).setOther ⟨P, 0, none⟩ _ hTP
            · intro q hq
              rw [List.length_set]
              exact HQR.out q hq
            · exact (HO2.out.set_ (p := ⟨T, i, none⟩) (by simp) _).set_ (p := ⟨P, 0, none⟩) (by simp) _
            · simp [lenLd]
        · have hres : R = (cs', at_, 15) := by
            rw [← HT.out]
            simp only [takeN, hg]
            unfold nbR
            rw [if_pos rfl, if_neg hh]
            rfl
          have HRES := Lib.hid hres
          rw [decide_eq_false hh] at CH
          clear hrw hg HT hh HTL hj hres hxi
          go_wp2
          go_quiet ((go_at_call 34; exact quietOf CG.out))
          go_wp2_with fail
          all_goals
            refine (CH.out _).mono ?_
            rintro e w2 ⟨rfl, hb2⟩
            have HO2 := Lib.hid ((HO.out.drewN nq).trans (OnlyS.of_below hb2))
            have HTB2 := Lib.hid ((HTB.out.same (w' := wr.drewN nq) rfl).grow hb2)
            have HG2 := Lib.hid ((HLA.out.box.same (w' := wr.drewN nq) rfl).grow hb2)
            have HH2 := Lib.hid ((HLA.out.ptr.same (w' := wr.drewN nq) rfl).grow hb2)
            have HP2 := Lib.hid ((HLA.out.place.same (w' := wr.drewN nq) rfl).grow hb2)
            clear hb2 HO HTB HLA HNB CH CG
            go_wp2
            simp only [Exit.jump]
            go_ret
            rw [HRES.out]
            exact ⟨rfl, HTB2.out, ⟨HG2.out, HH2.out, HP2.out⟩, HO2.out⟩
      · have CG := Lib.hid (lebGet_from hrw HN.out hnc hn1 hat hg)
        have hres : R = (cs', at_, 11) := by
          rw [← HT.out]
          simp only [takeN, hg]
          rfl
        have HRES := Lib.hid hres
        clear hrw hg HT HTL hres
        go_wp2
        go_quiet ((go_at_call 34; exact quietOf CG.out))
        go_wp2
        all_goals
          simp only [Exit.jump]
          go_ret
          rw [HRES.out]
          exact ⟨rfl, HTB.out.same (w' := wr.drewN nq) rfl, ⟨HLA.out.box.same (w' := wr.drewN nq) rfl, HLA.out.ptr.same (w' := wr.drewN nq) rfl, HLA.out.place.same (w' := wr.drewN nq) rfl⟩, HO.out.drewN nq⟩
      · have CG := Lib.hid (lebGet_from hrw HN.out hnc hn1 hat hg)
        have hres : R = (cs', at_, 15) := by
          rw [← HT.out]
          simp only [takeN, hg]
          rfl
        have HRES := Lib.hid hres
        clear hrw hg HT HTL hres
        go_wp2
        go_quiet ((go_at_call 34; exact quietOf CG.out))
        go_wp2
        all_goals
          simp only [Exit.jump]
          go_ret
          rw [HRES.out]
          exact ⟨rfl, HTB.out.same (w' := wr.drewN nq) rfl, ⟨HLA.out.box.same (w' := wr.drewN nq) rfl, HLA.out.ptr.same (w' := wr.drewN nq) rfl, HLA.out.place.same (w' := wr.drewN nq) rfl⟩, HO.out.drewN nq⟩
    | [q1, q2], _ =>
      obtain ⟨hA1, hA2⟩ := hA (by simp)
      subst hA1
      obtain ⟨c0, c1, c2, hdn⟩ := ld_cells hNB hA2
      obtain ⟨hqc, hq40⟩ := hqs q1 (by simp)
      have hqr : ∀ q ∈ ([q2] : List (Nat × Nat × Nat)), q.1 < cs'.length ∧ q.2.2 ≤ 1099511627776 := fun q hq => hqs q (by simp at hq; try simp [hq])
      obtain ⟨i, a, b⟩ := q1
      simp only at c0 c1 c2 hqc hq40
      have hBw : B ≤ wr.heap.size := by have := hTB.lt; have := HBT.out; omega
      have hrw := (HRB.out.below (ho.below (B := B) (by intro k hk; simp at hk; rcases hk with rfl | rfl; exact HBT.out; exact HBP.out) HBW0.out)).more hBw
      have hG := hla.box.cell 0
      have hH := hla.ptr.cell 0
      have hP := hla.place.cell 0
      simp only [List.getElem?_cons_zero] at hG hH hP
      have hati : (at_ : Int) ≤ (n : Int) := by omega
      have hnci : (n : Int) ≤ (c : Int) := by omega
      have HO := Lib.hid ho
      have HLA := Lib.hid hla
      have HTB := Lib.hid hTB
      have HNB := Lib.hid hNB
      have HDN := Lib.hid hdn
      have HNS := Lib.hid hA2
      have HQR := Lib.hid hqr
      have HBW := Lib.hid hBw
      have hto := lget_told (l.drop at_)
      have HTL := Lib.hid hto
      clear hA hA2 hNB hla hTB hqs hqr ho hdn hBw hto
      rcases HTL.out with ⟨x, hg, hx64, hjl, -⟩ | hg | hg
      · obtain ⟨j, hj⟩ : ∃ j, j = (lput x).length := ⟨_, rfl⟩
        rw [← hj] at hg hjl
        rw [List.length_drop, HN.out] at hjl
        have CG := Lib.hid (lebGet_from hrw HN.out hnc hn1 hat hg)
        have hxi : (x : Int) ≤ 18446744073709551615 := by omega
        have CH := Lib.hid (fun W => blkHas_any (some ⟨T, i, none⟩) (a : Int) (b : Int) (v := (x : Int)) (by omega) hxi W)
        rw [hasB_nb hq40] at CH
        by_cases hh : x ≤ 1099511627776 ∧ a ≤ x ∧ x ≤ b
        · have HTK := Lib.hid (show takeN l [q2] (at_ + j) (cs'.set i (.int .i64 (x : Int))) = R by
            rw [← HT.out]
            simp only [takeN, hg]
            unfold nbR
            rw [if_pos rfl, if_pos hh]
            rfl)
          rw [decide_eq_true hh] at CH
          have hx40 : (x : Int) ≤ 1099511627776 := by omega
          have hjn : (at_ : Int) + (j : Int) ≤ 1000000 := by omega
          have hjn2 : at_ + j ≤ n := by omega
          clear hrw hg HT hh HTL hj hxi
          go_wp2
          go_quiet ((go_at_call 34; exact quietOf CG.out))
          go_wp2_with fail
          all_goals
            refine (CH.out _).mono ?_
            rintro e w2 ⟨rfl, hb2⟩
            have HO2 := Lib.hid ((HO.out.drewN nq).trans (OnlyS.of_below hb2))
            have HTB2 := Lib.hid ((HTB.out.same (w' := wr.drewN nq) rfl).grow hb2)
            have HNB2 := Lib.hid ((HNB.out.same (w' := wr.drewN nq) rfl).grow hb2)
            have HG2 := Lib.hid ((HLA.out.box.same (w' := wr.drewN nq) rfl).grow hb2)
            have HH2 := Lib.hid ((HLA.out.ptr.same (w' := wr.drewN nq) rfl).grow hb2)
            have HP2 := Lib.hid ((HLA.out.place.same (w' := wr.drewN nq) rfl).grow hb2)
            clear hb2 HO HTB HLA HNB CH CG c0 c1 c2 hG hH hP
            have c0 := (ld_cells HNB2.out (q := (i, a, b)) (L := [q2]) (T := T) (off := off) (HNS.out)).1
            have hT2 := HTB2.out.cell i
            rw [List.getElem?_eq_getElem hqc] at hT2
            have hf2 := HTB2.out.frozen i
            have hTP := HTPN.out
            have hPT : ¬ P = T := fun h => hTP h.symm
            have hHT : ¬ H = T := HNE.out.1.2.1
            have hTH : ¬ T = H := fun h => hHT h.symm
            have hH := HH2.out.cell 0
            have hP := HP2.out.cell 0
            have hfp := HP2.out.frozen 0
            simp only [List.getElem?_cons_zero] at hH hP
            go_wp2
            go_step3
            refine ⟨rfl, ⟨_, _, _, _, _, _, _, _, _, _, _, _, _, _, _, _, _, _, _, _, _, _, _, _, _, _, _, _, _, _, _, _, _, _, _, _, _, _, _, _, _, _, _, _, _, _, _, ⟨[q2], off + 3, at_ + j, _, NS, cs'.set i (.int .i64 (x : Int)), rfl, fun _ => ⟨rfl, HDN.out⟩, by simp, ?_, ⟨?_, ?_, ?_⟩, hjn2, ?_, HTK, ?_, ?_⟩, rfl⟩, ?_⟩
            · exact (HNB2.out.setOther ⟨T, i, none⟩ _ HNE.out.1.2.2).setOther ⟨P, 0, none⟩ _ HNE.out.2.2.2
            · exact (HG2.out.setOther ⟨T, i, none⟩ _ HNE.out.1.1).setOther ⟨P, 0, none⟩ _ HNE.out.2.1
            · exact (HH2.out.setOther ⟨T, i, none⟩ _ HNE.out.1.2.1).setOther ⟨P, 0, none⟩ _ HNE.out.2.2.1
            · have := (HP2.out.setOther ⟨T, i, none⟩ (.int .i64 (x : Int)) hPT).set_ 0 (.int .i64 ((at_ + j : Nat) : Int))
              rw [Int.natCast_add] at this ⊢
              exact this
            · exact (HTB2.out.set_ i (.int .i64 (x : Int))).setOther ⟨P, 0, none⟩ _ hTP
            · intro q hq
              rw [List.length_set]
              exact HQR.out q hq
            · exact (HO2.out.set_ (p := ⟨T, i, none⟩) (by simp) _).set_ (p := ⟨P, 0, none⟩) (by simp) _
            · simp [lenLd]
        · have hres : R = (cs', at_, 15) := by
            rw [← HT.out]
            simp only [takeN, hg]
            unfold nbR
            rw [if_pos rfl, if_neg hh]
            rfl
          have HRES := Lib.hid hres
          rw [decide_eq_false hh] at CH
          clear hrw hg HT hh HTL hj hres hxi
          go_wp2
          go_quiet ((go_at_call 34; exact quietOf CG.out))
          go_wp2_with fail
          all_goals
            refine (CH.out _).mono ?_
            rintro e w2 ⟨rfl, hb2⟩
            have HO2 := Lib.hid ((HO.out.drewN nq).trans (OnlyS.of_below hb2))
            have HTB2 := Lib.hid ((HTB.out.same (w' := wr.drewN nq) rfl).grow hb2)
            have HG2 := Lib.hid ((HLA.out.box.same (w' := wr.drewN nq) rfl).grow hb2)
            have HH2 := Lib.hid ((HLA.out.ptr.same (w' := wr.drewN nq) rfl).grow hb2)
            have HP2 := Lib.hid ((HLA.out.place.same (w' := wr.drewN nq) rfl).grow hb2)
            clear hb2 HO HTB HLA HNB CH CG
            go_wp2
            simp only [Exit.jump]
            go_ret
            rw [HRES.out]
            exact ⟨rfl, HTB2.out, ⟨HG2.out, HH2.out, HP2.out⟩, HO2.out⟩
      · have CG := Lib.hid (lebGet_from hrw HN.out hnc hn1 hat hg)
        have hres : R = (cs', at_, 11) := by
          rw [← HT.out]
          simp only [takeN, hg]
          rfl
        have HRES := Lib.hid hres
        clear hrw hg HT HTL hres
        go_wp2
        go_quiet ((go_at_call 34; exact quietOf CG.out))
        go_wp2
        all_goals
          simp only [Exit.jump]
          go_ret
          rw [HRES.out]
          exact ⟨rfl, HTB.out.same (w' := wr.drewN nq) rfl, ⟨HLA.out.box.same (w' := wr.drewN nq) rfl, HLA.out.ptr.same (w' := wr.drewN nq) rfl, HLA.out.place.same (w' := wr.drewN nq) rfl⟩, HO.out.drewN nq⟩
      · have CG := Lib.hid (lebGet_from hrw HN.out hnc hn1 hat hg)
        have hres : R = (cs', at_, 15) := by
          rw [← HT.out]
          simp only [takeN, hg]
          rfl
        have HRES := Lib.hid hres
        clear hrw hg HT HTL hres
        go_wp2
        go_quiet ((go_at_call 34; exact quietOf CG.out))
        go_wp2
        all_goals
          simp only [Exit.jump]
          go_ret
          rw [HRES.out]
          exact ⟨rfl, HTB.out.same (w' := wr.drewN nq) rfl, ⟨HLA.out.box.same (w' := wr.drewN nq) rfl, HLA.out.ptr.same (w' := wr.drewN nq) rfl, HLA.out.place.same (w' := wr.drewN nq) rfl⟩, HO.out.drewN nq⟩
  · intro hpass
    go_wp2_with fail
    go_step3
    rename_i hK
    refine hK _ _ (hpass _ _ ?_)
    exact ⟨_, _, _, _, _, _, _, _, _, _, _, _, _, _, _, _, _, _, _, _, _, _, _, _, _, _, _, _, _, _, _, _, _, _, _, _, _, _, _, _, _, _, _, _, _, _, _, ⟨L0, 0, at0, _, nvs30 T L0, cs, rfl, fun _ => ⟨rfl, rfl⟩, hL, HNB.out, HLA.out, hat, HTB.out, HR0, HQ.out, OnlyS.refl _ _⟩, rfl⟩
end Go.Proofs.Ytjignfnkcbklkaa
namespace Go.Proofs.Ytjignfnkcbklkaa
open Go.RowKit Go.Sort

theorem nvs_cons (T : Nat) (q : Nat × Nat × Nat) (L : List (Nat × Nat × Nat)) : nvs30 T (q :: L) = .pointer (some ⟨T, q.1, none⟩) :: .int .i64 (q.2.1 : Int) :: .int .i64 (q.2.2 : Int) :: nvs30 T L := rfl
theorem nvs30_drop (T : Nat) : ∀ (k : Nat) (L : List (Nat × Nat × Nat)), (nvs30 T L).drop (k * 3) = nvs30 T (L.drop k)
  | 0, L => by simp
  | k + 1, [] => by simp [nvs30]
  | k + 1, q :: L => by
    rw [show (k + 1) * 3 = 3 + k * 3 by omega, ← List.drop_drop, nvs_cons]
    exact nvs30_drop T k L
/-- Are numbers, as they are, within their limits? -/
def asE (xv : Nat → Int) (L : List (Nat × Nat × Nat)) : Bool := L.all fun q => decide ((q.2.1 : Int) ≤ xv q.1 ∧ xv q.1 ≤ (q.2.2 : Int))
theorem hasB_as {x : Int} {a b : Nat} (h0 : -9223372036854775808 ≤ x) (h1 : x ≤ 9223372036854775807) (hb : b ≤ 1099511627776) : hasB30 (a : Int) (b : Int) (IntKind.u64.wrap x) = decide ((a : Int) ≤ x ∧ x ≤ (b : Int)) := by
  unfold hasB30
  rw [IntKind.wrap_u64, Bool.eq_iff_iff]
  simp
  omega
set_option maxHeartbeats 4000000 in
set_option maxRecDepth 100000 in
theorem blkAs_any {W : World} {T N : Nat} {xv : Nat → Int} {L : List (Nat × Nat × Nat)} (hN : Blk W N 87 (nvs30 T L)) (hT : ∀ q ∈ L, W.cell? ⟨T, q.1, none⟩ = some (.int .i64 (xv q.1))) (hTl : T < W.heap.size) (hx : ∀ k, -9223372036854775808 ≤ xv k ∧ xv k ≤ 9223372036854775807)
    (hq : ∀ q ∈ L, q.2.2 ≤ 1099511627776) (hL : L.length ≤ 2) :
    Calls Try.prog 28 #[.slice (some ⟨N, 0, none⟩) L.length L.length] W fun e w' => e = .returned (.int .i64 ((if asE xv L = true then 0 else 15 : Nat) : Int)) ∧ Below W.heap.size W w' := by
  obtain ⟨m, hm⟩ : ∃ m, m = L.length := ⟨_, rfl⟩
  rw [← hm] at hL ⊢
  obtain ⟨R, hR⟩ : ∃ R : Nat, R = if asE xv L = true then 0 else 15 := ⟨_, rfl⟩
  rw [← hR]
  have HRR := Lib.hid hR
  have HM := Lib.hid hm
  have HN := Lib.hid hN
  have HT := Lib.hid hT
  have HX := Lib.hid hx
  have HQ := Lib.hid hq
  clear hm hN hT hx hq hR
  go_enter Try.func28, Try.ntmps28
  go_wp2
  go_loopw [7] (fun i wr => ∃ k : Nat, k ≤ m ∧ i = .int .i64 (k : Int) ∧ asE xv (L.take k) = true ∧ Below W.heap.size W wr) (fun i _ => m - (intOf i).toNat)
  case atStart => exact ⟨0, Nat.zero_le _, rfl, rfl, Below.refl _ _⟩
  case round =>
    obtain ⟨k, hk, rfl, hall, hb⟩ := hrel
    have HA := Lib.hid hall
    have HB := Lib.hid hb
    have hTw := Nat.lt_of_lt_of_le hTl hb.size
    clear hall hb
    by_cases hlt : k < m
    · have hkl : k < L.length := by rw [← HM.out]; exact hlt
      have hdr : (nvs30 T L).drop (k * 3) = nvs30 T (L[k] :: L.drop (k + 1)) := by rw [nvs30_drop, List.drop_eq_getElem_cons hkl]
      obtain ⟨c0, c1, c2, -⟩ := ld_cells (HN.out.grow HB.out) hdr
      have htk : asE xv (L.take (k + 1)) = decide (((L[k]'hkl).2.1 : Int) ≤ xv (L[k]'hkl).1 ∧ xv (L[k]'hkl).1 ≤ ((L[k]'hkl).2.2 : Int)) := by
        unfold asE
        rw [List.take_add_one, List.getElem?_eq_getElem hkl, List.all_append]
        have := HA.out
        unfold asE at this
        rw [this]
        simp
      have hnot : asE xv L = true → decide (((L[k]'hkl).2.1 : Int) ≤ xv (L[k]'hkl).1 ∧ xv (L[k]'hkl).1 ≤ ((L[k]'hkl).2.2 : Int)) = true := fun h => List.all_eq_true.1 h _ (List.getElem_mem hkl)
      have hti := HT.out _ (List.getElem_mem hkl)
      have hq40 := HQ.out _ (List.getElem_mem hkl)
      obtain ⟨⟨i, a, b⟩, hqe⟩ : ∃ q, q = L[k]'hkl := ⟨_, rfl⟩
      rw [← hqe] at c0 c1 c2 htk hnot hti hq40
      simp only at c0 c1 c2 htk hnot hti hq40
      obtain ⟨hx0, hx1⟩ := HX.out i
      obtain ⟨x, hxe⟩ : ∃ x, x = xv i := ⟨_, rfl⟩
      rw [← hxe] at htk hnot hti hx0 hx1
      obtain ⟨o, ho⟩ : ∃ o, o = decide ((a : Int) ≤ x ∧ x ≤ (b : Int)) := ⟨_, rfl⟩
      obtain ⟨u, hu⟩ : ∃ u, IntKind.u64.wrap x = u := ⟨_, rfl⟩
      have CH := Lib.hid (fun w => blkHas_any (some ⟨T, i, none⟩) (a : Int) (b : Int) (v := u) (by rw [← hu, IntKind.wrap_u64]; omega) (by rw [← hu, IntKind.wrap_u64]; omega) w)
      rw [← hu, hasB_as hx0 hx1 hq40, ← ho, hu] at CH
      rw [← ho] at htk hnot
      have hwl : (wr.alloc (.cells #[.pointer (some ⟨T, i, none⟩), .int .i64 (a : Int), .int .i64 (b : Int)] 87)).cell? ⟨T, i, none⟩ = some (.int .i64 x) := by
        rw [World.cell?_alloc_lt _ _ _ hTw]
        exact (HB.out.cell (p := ⟨T, i, none⟩) hTl).trans hti
      have hki : (k : Int) < (m : Int) := by omega
      have HBE := Lib.hid (HB.out.alloc HB.out.size (.cells #[.pointer (some ⟨T, i, none⟩), .int .i64 (a : Int), .int .i64 (b : Int)] 87))
      have HTK := Lib.hid htk
      have HNT := Lib.hid hnot
      have hko : (k : Int) + 1 ≤ 2 := by omega
      clear hdr hqe hxe ho hnot htk hti hx0 hx1 hq40
      cases o with
      | true =>
        go_wp2_with fail
        go_region_with (go_at_call 47; refine (CH.out _).mono ?_; rintro _ w2 ⟨rfl, hb2⟩; have HB2 := Lib.hid hb2; clear hb2)
        all_goals
          go_wp2
          go_roundw
          case rel => exact ⟨k + 1, by omega, by go_num, HTK.out, HBE.out.drew.trans (HB2.out.mono HBE.out.size)⟩
          case measure => simp [intOf]; omega
      | false =>
        go_wp2_with fail
        go_region_with (go_at_call 47; refine (CH.out _).mono ?_; rintro _ w2 ⟨rfl, hb2⟩; have HB2 := Lib.hid hb2; clear hb2)
        all_goals
          go_wp2
          go_ret
          exact ⟨by rw [HRR.out, if_neg (fun h => by have := HNT.out h; cases this)]; rfl, HBE.out.drew.trans (HB2.out.mono HBE.out.size)⟩
    · obtain rfl : k = m := by omega
      go_wp2
      go_ret
      have h := HA.out
      rw [List.take_of_length_le (by rw [← HM.out]; exact Nat.le_refl _)] at h
      exact ⟨by rw [HRR.out, if_pos h]; rfl, HB.out⟩
/-- The values of a block's numbers, by place. -/
def xvB (ra mi co : Int) (k : Nat) : Int := if k = 1 then ra else if k = 2 then mi else if k = 3 then co else 0
theorem xvB_in {ra mi co : Int} (hra : -9223372036854775808 ≤ ra ∧ ra ≤ 9223372036854775807) (hmi : -9223372036854775808 ≤ mi ∧ mi ≤ 9223372036854775807) (hco : -9223372036854775808 ≤ co ∧ co ≤ 9223372036854775807) (k : Nat) : -9223372036854775808 ≤ xvB ra mi co k ∧ xvB ra mi co k ≤ 9223372036854775807 := by
  unfold xvB
  split
  · exact hra
  · split
    · exact hmi
    · split
      · exact hco
      · decide
theorem blk_new1 (W : World) (o : Obj) (cs : Array Value) (t : TypeId) : Blk ((W.alloc o).alloc (.cells cs t)).drew (W.heap.size + 1) t cs.toList := by
  rw [show W.heap.size + 1 = (W.alloc o).heap.size by simp]
  exact Blk.same (heap_alloc_new (W.alloc o) (.cells cs t)) rfl
theorem blk_newd (w : World) (cs : Array Value) (t : TypeId) : Blk (w.alloc (.cells cs t)).drew w.heap.size t cs.toList := Blk.same (heap_alloc_new w (.cells cs t)) rfl
theorem nvs_two (T r : Nat) (h1 : 1 ≤ r) : nvs30 T [(2, 0, 3 * r + 64), (3, 0, r - 1)] = [.pointer (some ⟨T, 2, none⟩), .int .i64 0, .int .i64 (3 * (r : Int) + 64), .pointer (some ⟨T, 3, none⟩), .int .i64 0, .int .i64 ((r : Int) - 1)] := by
  simp only [nvs30, List.flatMap_cons, List.flatMap_nil, List.cons_append, List.nil_append, List.append_nil]
  rw [show ((3 * r + 64 : Nat) : Int) = 3 * (r : Int) + 64 by omega, show ((r - 1 : Nat) : Int) = (r : Int) - 1 by omega]
  rfl
theorem blk_new (w : World) (cs : Array Value) (t : TypeId) {n : Nat} (h : n = w.heap.size) : Blk (w.alloc (.cells cs t)) n t cs.toList := by
  rw [h]
  exact heap_alloc_new _ _
end Go.Proofs.Ytjignfnkcbklkaa
namespace Go.Proofs.Ytjignfnkcbklkaa
open Go.RowKit Go.Sort

theorem LaidAt.grow {w w' : World} {G H P : Nat} {A : Option Addr} {n c at_ : Nat} (h : LaidAt w G H P A n c at_) (hb : Below w.heap.size w w') : LaidAt w' G H P A n c at_ := ⟨h.box.grow hb, h.ptr.grow hb, h.place.grow hb⟩
theorem take_one (l : List UInt8) (i a b at_ : Nat) (cs : List Value) : takeN l [(i, a, b)] at_ cs = if (nbR (lget (l.drop at_)) a b).2.2 = 0 then (cs.set i (.int .i64 ((nbR (lget (l.drop at_)) a b).1 : Int)), at_ + (nbR (lget (l.drop at_)) a b).2.1, 0) else (cs, at_, (nbR (lget (l.drop at_)) a b).2.2) := rfl
section
variable {W : World} {T G H P B b n c mo : Nat} {A : Option Addr} {l : List UInt8} {wd rc md : Int}
set_option maxHeartbeats 4000000 in
set_option maxRecDepth 100000 in
theorem numLd_err {e : Nat} (hT : Blk W T 37 [.int .i64 (mo : Int), .int .i64 0, .int .i64 0, .int .i64 0, .int .u32 0, .int .i64 0, .int .i64 0]) (hla : LaidAt W G H P A n c 1) (hr : Rd W B A (bvs l)) (hBT : B ≤ T) (hBP : B ≤ P) (hn : l.length = n) (hnc : n ≤ c) (hn1 : n ≤ 1000000) (h1n : 1 ≤ n) (hTP : T ≠ P)
    (hb : b ≤ 16777216) (he : (nbR (lget (l.drop 1)) 1 b).2.2 = e) (he0 : e ≠ 0) :
    Calls Try.prog 27 #[.pointer (some ⟨T, 0, none⟩), .agg #[.int .i64 (b : Int), .int .i64 wd, .int .i64 rc, .int .i64 md], .func (.func 58) #[] #[.pointer (some ⟨G, 0, none⟩), .pointer (some ⟨H, 0, none⟩)]] W fun e' w' => e' = .returned (.int .i64 (e : Int)) ∧ OnlyS [T, P] W w' := by
  have hTl := hT.lt
  have hBW : B ≤ W.heap.size := by omega
  have C1 := Lib.hid (fun (w' : World) (N : Nat) (hN : Blk w' N 87 (nvs30 T [(1, 1, b)])) (hb' : Below W.heap.size W w') =>
    show Calls Try.prog 58 #[.slice (some ⟨N, 0, none⟩) 1 1, .pointer (some ⟨G, 0, none⟩), .pointer (some ⟨H, 0, none⟩)] w' fun e' w'' => e' = .returned (.int .i64 (e : Int)) ∧ OnlyS [T, P] w' w'' from
    (blkLaid_any (L0 := [(1, 1, b)]) (hr.below (hb'.mono hBW)) hBT hBP hn hnc hn1 (by simp) hN (hla.grow hb') h1n (hT.grow hb') (by intro q hq; simp at hq; subst hq; simp; omega) hTP (by decide) (by decide) (by decide)).mono fun e' w'' ⟨h1, _, _, h4⟩ => ⟨by rw [h1, take_one, if_neg (by omega), he], h4⟩)
  have HBX := Lib.hid ((Below.refl W.heap.size W).alloc (Nat.le_refl _) (.cells #[.int .i64 (b : Int), .int .i64 wd, .int .i64 rc, .int .i64 md] 23))
  have hei : ¬ (e : Int) = 0 := by omega
  clear hT hla hr he he0
  go_enter Try.func27, Try.ntmps27
  go_wp2_with fail
  go_region_with (go_at_call 58; refine (C1.out _ _ (blk_new1 W _ _ _) (HBX.out.alloc HBX.out.size _).drew).mono ?_; rintro _ w2 ⟨rfl, ho2⟩; have HO2 := Lib.hid ((OnlyS.of_below (S := [T, P]) (HBX.out.alloc HBX.out.size (.cells #[.pointer (some ⟨T, 1, none⟩), .int .i64 1, .int .i64 (b : Int)] 87)).drew).trans ho2); clear ho2)
  go_wp2
  go_ret
  exact ⟨rfl, HO2.out⟩
set_option maxHeartbeats 4000000 in
set_option maxRecDepth 100000 in
theorem numLd_stored {v k : Nat} (hT : Blk W T 37 [.int .i64 0, .int .i64 0, .int .i64 0, .int .i64 0, .int .u32 0, .int .i64 0, .int .i64 0]) (hla : LaidAt W G H P A n c 1) (hr : Rd W B A (bvs l)) (hBT : B ≤ T) (hBP : B ≤ P) (hn : l.length = n) (hnc : n ≤ c) (hn1 : n ≤ 1000000) (h1n : 1 ≤ n) (hTP : T ≠ P)
    (hb : b ≤ 16777216) (he : nbR (lget (l.drop 1)) 1 b = (v, k, 0)) :
    Calls Try.prog 27 #[.pointer (some ⟨T, 0, none⟩), .agg #[.int .i64 (b : Int), .int .i64 wd, .int .i64 rc, .int .i64 md], .func (.func 58) #[] #[.pointer (some ⟨G, 0, none⟩), .pointer (some ⟨H, 0, none⟩)]] W fun e' w' => e' = .returned (.int .i64 0) ∧
      Blk w' T 37 [.int .i64 0, .int .i64 (v : Int), .int .i64 0, .int .i64 (v : Int), .int .u32 0, .int .i64 0, .int .i64 0] ∧ Blk w' P 3 [.int .i64 ((1 + k : Nat) : Int)] ∧ OnlyS [T, P] W w' := by
  have hTl := hT.lt
  have hBW : B ≤ W.heap.size := by omega
  have C1 := Lib.hid (fun (w' : World) (N : Nat) (hN : Blk w' N 87 (nvs30 T [(1, 1, b)])) (hb' : Below W.heap.size W w') =>
    show Calls Try.prog 58 #[.slice (some ⟨N, 0, none⟩) 1 1, .pointer (some ⟨G, 0, none⟩), .pointer (some ⟨H, 0, none⟩)] w' fun e' w'' => e' = .returned (.int .i64 0) ∧
        Blk w'' T 37 [.int .i64 0, .int .i64 (v : Int), .int .i64 0, .int .i64 0, .int .u32 0, .int .i64 0, .int .i64 0] ∧ Blk w'' P 3 [.int .i64 ((1 + k : Nat) : Int)] ∧ OnlyS [T, P] w' w'' from
    (blkLaid_any (L0 := [(1, 1, b)]) (hr.below (hb'.mono hBW)) hBT hBP hn hnc hn1 (by simp) hN (hla.grow hb') h1n (hT.grow hb') (by intro q hq; simp at hq; subst hq; simp; omega) hTP (by decide) (by decide) (by decide)).mono fun e' w'' ⟨h1, h2, h3, h4⟩ => by
      rw [take_one, he, if_pos rfl] at h1 h2 h3
      exact ⟨h1, h2, h3.place, h4⟩)
  have HBX := Lib.hid ((Below.refl W.heap.size W).alloc (Nat.le_refl _) (.cells #[.int .i64 (b : Int), .int .i64 wd, .int .i64 rc, .int .i64 md] 23))
  have HPT := Lib.hid (show P ≠ T from fun h => hTP h.symm)
  clear hT hla hr he
  go_enter Try.func27, Try.ntmps27
  go_wp2_with fail
  go_region_with (go_at_call 58; refine (C1.out _ _ (blk_new1 W _ _ _) (HBX.out.alloc HBX.out.size _).drew).mono ?_; rintro _ w2 ⟨rfl, hT2, hP2, ho2⟩; have HT2 := Lib.hid hT2; have HP2 := Lib.hid hP2; have HO2 := Lib.hid ((OnlyS.of_below (S := [T, P]) (HBX.out.alloc HBX.out.size (.cells #[.pointer (some ⟨T, 1, none⟩), .int .i64 1, .int .i64 (b : Int)] 87)).drew).trans ho2); clear ho2 hT2 hP2)
  have q0 := HT2.out.cell 0
  have q1 := HT2.out.cell 1
  have q2 := HT2.out.cell 2
  have q3 := HT2.out.cell 3
  have f2 := HT2.out.frozen 2
  have f3 := HT2.out.frozen 3
  simp only [List.getElem?_cons_zero, List.getElem?_cons_succ] at q0 q1 q2 q3
  go_wp2
  go_ret
  exact ⟨rfl, (HT2.out.set_ 2 _).set_ 3 _, (HP2.out.setOther ⟨T, 2, none⟩ _ HPT.out).setOther ⟨T, 3, none⟩ _ HPT.out, (HO2.out.set_ (p := ⟨T, 2, none⟩) (by simp) _).set_ (p := ⟨T, 3, none⟩) (by simp) _⟩
set_option maxHeartbeats 4000000 in
set_option maxRecDepth 100000 in
theorem numLd_coded {v k : Nat} (hT : Blk W T 37 [.int .i64 (mo : Int), .int .i64 0, .int .i64 0, .int .i64 0, .int .u32 0, .int .i64 0, .int .i64 0]) (hla : LaidAt W G H P A n c 1) (hr : Rd W B A (bvs l)) (hBT : B ≤ T) (hBP : B ≤ P) (hn : l.length = n) (hnc : n ≤ c) (hn1 : n ≤ 1000000) (h1n : 1 ≤ n) (hTP : T ≠ P)
    (hb : b ≤ 16777216) (he : nbR (lget (l.drop 1)) 1 b = (v, k, 0)) (hv1 : 1 ≤ v) (hvb : v ≤ b) (hkn : 1 + k ≤ n) (hmo : mo ≠ 0) (R : List Value × Nat × Nat)
    (hR : takeN l [(2, 0, 3 * v + 64), (3, 0, v - 1)] (1 + k) [.int .i64 (mo : Int), .int .i64 (v : Int), .int .i64 0, .int .i64 0, .int .u32 0, .int .i64 0, .int .i64 0] = R) :
    Calls Try.prog 27 #[.pointer (some ⟨T, 0, none⟩), .agg #[.int .i64 (b : Int), .int .i64 wd, .int .i64 rc, .int .i64 md], .func (.func 58) #[] #[.pointer (some ⟨G, 0, none⟩), .pointer (some ⟨H, 0, none⟩)]] W fun e' w' => e' = .returned (.int .i64 (R.2.2 : Int)) ∧
      Blk w' T 37 R.1 ∧ Blk w' P 3 [.int .i64 (R.2.1 : Int)] ∧ OnlyS [T, P] W w' := by
  have hTl := hT.lt
  have hBW : B ≤ W.heap.size := by omega
  have C1 := Lib.hid (fun (w' : World) (N : Nat) (hN : Blk w' N 87 (nvs30 T [(1, 1, b)])) (hb' : Below W.heap.size W w') =>
    show Calls Try.prog 58 #[.slice (some ⟨N, 0, none⟩) 1 1, .pointer (some ⟨G, 0, none⟩), .pointer (some ⟨H, 0, none⟩)] w' fun e' w'' => e' = .returned (.int .i64 0) ∧
        Blk w'' T 37 [.int .i64 (mo : Int), .int .i64 (v : Int), .int .i64 0, .int .i64 0, .int .u32 0, .int .i64 0, .int .i64 0] ∧ LaidAt w'' G H P A n c (1 + k) ∧ OnlyS [T, P] w' w'' from
    (blkLaid_any (L0 := [(1, 1, b)]) (hr.below (hb'.mono hBW)) hBT hBP hn hnc hn1 (by simp) hN (hla.grow hb') h1n (hT.grow hb') (by intro q hq; simp at hq; subst hq; simp; omega) hTP (by decide) (by decide) (by decide)).mono fun e' w'' ⟨h1, h2, h3, h4⟩ => by
      rw [take_one, he, if_pos rfl] at h1 h2 h3
      exact ⟨h1, h2, h3, h4⟩)
  have C2 := Lib.hid (fun (w' : World) (N : Nat) (hN : Blk w' N 87 [.pointer (some ⟨T, 2, none⟩), .int .i64 0, .int .i64 (3 * (v : Int) + 64), .pointer (some ⟨T, 3, none⟩), .int .i64 0, .int .i64 ((v : Int) - 1)]) (ho' : OnlyS [T, P] W w')
      (hT' : Blk w' T 37 [.int .i64 (mo : Int), .int .i64 (v : Int), .int .i64 0, .int .i64 0, .int .u32 0, .int .i64 0, .int .i64 0]) (hla' : LaidAt w' G H P A n c (1 + k)) =>
    show Calls Try.prog 58 #[.slice (some ⟨N, 0, none⟩) 2 2, .pointer (some ⟨G, 0, none⟩), .pointer (some ⟨H, 0, none⟩)] w' fun e' w'' => e' = .returned (.int .i64 (R.2.2 : Int)) ∧
        Blk w'' T 37 R.1 ∧ Blk w'' P 3 [.int .i64 (R.2.1 : Int)] ∧ OnlyS [T, P] w' w'' from
    (blkLaid_any (L0 := [(2, 0, 3 * v + 64), (3, 0, v - 1)]) (hr.below (ho'.below (B := B) (by intro k hk; simp at hk; rcases hk with rfl | rfl <;> assumption) hBW)) hBT hBP hn hnc hn1 (by simp) (by rw [nvs_two T v hv1]; exact hN) hla' hkn hT' (by intro q hq; simp at hq; rcases hq with rfl | rfl <;> (simp; omega)) hTP (by decide) (by decide) (by decide)).mono fun e' w'' ⟨h1, h2, h3, h4⟩ => by
      rw [hR] at h1 h2 h3
      exact ⟨h1, h2, h3.place, h4⟩)
  have CM := Lib.hid (fun (w' : World) => recMost_any (v : Int) w')
  rw [show mostR (v : Int) = 3 * (v : Int) + 64 by unfold mostR sizedB; rw [if_pos (by simp; omega)]] at CM
  have HBX := Lib.hid ((Below.refl W.heap.size W).alloc (Nat.le_refl _) (.cells #[.int .i64 (b : Int), .int .i64 wd, .int .i64 rc, .int .i64 md] 23))
  clear hT hla hr he hR
  go_enter Try.func27, Try.ntmps27
  go_wp2_with fail
  go_region_with (go_at_call 58; refine (C1.out _ _ (blk_new1 W _ _ _) (HBX.out.alloc HBX.out.size _).drew).mono ?_; rintro _ w2 ⟨rfl, hT2, hP2, ho2⟩; have HT2 := Lib.hid hT2; have HP2 := Lib.hid hP2; have HO2 := Lib.hid ((OnlyS.of_below (S := [T, P]) (HBX.out.alloc HBX.out.size (.cells #[.pointer (some ⟨T, 1, none⟩), .int .i64 1, .int .i64 (b : Int)] 87)).drew).trans ho2); clear ho2 hT2 hP2)
  have q0 := HT2.out.cell 0
  have q1 := HT2.out.cell 1
  have q2 := HT2.out.cell 2
  have q3 := HT2.out.cell 3
  simp only [List.getElem?_cons_zero, List.getElem?_cons_succ] at q0 q1 q2 q3
  have hw1 : IntKind.i64.wrap ((v : Int) - 1) = (v : Int) - 1 := by rw [IntKind.wrap_i64]; omega
  clear C1
  go_wp2_with fail
  go_region_with (first | (go_at_call 46; refine (CM.out _).mono ?_; rintro _ _ ⟨rfl, rfl⟩) | (go_at_call 58; refine (C2.out _ _ (blk_newd w2 _ _) ((HO2.out.trans (OnlyS.of_below ((Below.refl _ _).alloc (Nat.le_refl _) _))).drew) ((HT2.out.grow ((Below.refl _ _).alloc (Nat.le_refl _) _)).same rfl) (HP2.out.grow ((Below.refl _ _).alloc (Nat.le_refl _) _).drew)).mono ?_; rintro _ w3 ⟨rfl, hT3, hP3, ho3⟩; have HT3 := Lib.hid hT3; have HP3 := Lib.hid hP3; have HO3 := Lib.hid (((HO2.out.trans (OnlyS.of_below ((Below.refl _ _).alloc (Nat.le_refl _) (.cells #[.pointer (some ⟨T, 2, none⟩), .int .i64 0, .int .i64 (3 * (v : Int) + 64), .pointer (some ⟨T, 3, none⟩), .int .i64 0, .int .i64 ((v : Int) - 1)] 87)))).drew).trans ho3); clear hT3 hP3 ho3))
  all_goals
    go_wp2
    go_ret
    exact ⟨rfl, HT3.out, HP3.out, HO3.out⟩
end
end Go.Proofs.Ytjignfnkcbklkaa
