/-
  Layer 23: the program's small functions. · Layer 23: a bank of chances, of the program. · slices.Clone of ints. General: no code of the project. · Layer 24: the program's mixer. · Layer 24: a new mixer.
-/
import Derived.Test.YtflcmmeoppdhdaaGreatR03
import Derived.Test.YtflcmmeoppdhdaaGreatR28
import Derived.StillTailTactics
import Derived.Deep.DeepMust
namespace Go.Proofs.YtflcmmeoppdhdaaGreat
open Go.RowKit Go.Sort

theorem ctxRight_yes (n : Int) (w : World) (h : 1 ≤ n ∧ n ≤ 16) : Calls Tryz.prog 197 #[.int .i64 n] w fun e w' => e = .returned (.bool true) ∧ w' = w := by
  obtain ⟨h1, h2⟩ := h
  go_enter Tryz.func197, Tryz.ntmps197
  go_wp2
  go_ret
  exact ⟨rfl, rfl⟩
theorem place_val (key : Nat) {bits : Nat} (h1 : 1 ≤ bits) (h2 : bits ≤ 16) : wrap64 (2654435761 * (key : Int) % 4294967296 / 2 ^ (32 - bits)) = ((placeC key bits : Nat) : Int) := by
  have e : ((placeC key bits : Nat) : Int) = 2654435761 * (key : Int) % 4294967296 / 2 ^ (32 - bits) := by
    unfold placeC
    rw [Int.natCast_ediv, Int.natCast_emod, Int.natCast_mul, Int.natCast_pow, Int.mul_comm]
    rfl
  have hl := placeC_lt key (show bits ≤ 32 by omega)
  have h3 : 2 ^ bits ≤ 2 ^ 16 := Nat.pow_le_pow_right (by decide) h2
  rw [← e]
  exact IntWalk.wrap64_in _ (by omega)
theorem ctxPlace_any (key bits : Nat) (w : World) (h : 1 ≤ bits ∧ bits ≤ 16) : Calls Tryz.prog 231 #[.int .u32 (key : Int), .int .i64 (bits : Int)] w fun e w' => e = .returned (.int .i64 (placeC key bits : Nat)) ∧ w' = w := by
  have CR := Lib.hid (fun w => ctxRight_yes (bits : Int) w (by omega))
  obtain ⟨h1, h2⟩ := h
  have a1 : (bits : Int) ≤ 16 := by omega
  go_enter Tryz.func231, Tryz.ntmps231
  go_wp2_with fail
  refine (CR.out _).mono ?_
  rintro e w' ⟨rfl, hw⟩
  obtain rfl : _ = w' := hw.symm
  go_wp2
  go_ret
  exact ⟨ret_int (place_val key h1 h2), rfl⟩
theorem ctxAfter_any (p : Nat) (bit : Int) (w : World) (h : ChC p) : Calls Tryz.prog 223 #[.int .u32 (p : Int), .int .i64 bit] w fun e w' => e = .returned (.int .u32 (rawC p bit : Nat)) ∧ w' = w := by
  obtain ⟨h1, h2⟩ := h
  unfold rawC
  by_cases hb : bit = 0
  · subst hb
    rw [if_pos rfl]
    go_enter Tryz.func223, Tryz.ntmps223
    go_wp2
    go_ret
    exact ⟨ret_int (by omega), rfl⟩
  · rw [if_neg hb]
    have hbb : (bit == 0) = false := by simp [hb]
    go_enter Tryz.func223, Tryz.ntmps223
    go_wp2
    go_ret
    exact ⟨ret_int (by omega), rfl⟩
theorem ctxHeld_any (p : Nat) (w : World) : Calls Tryz.prog 222 #[.int .u32 (p : Int), .int .u32 32, .int .u32 65504] w fun e w' => e = .returned (.int .u32 (heldC p : Nat)) ∧ w' = w := by
  go_enter Tryz.func222, Tryz.ntmps222
  go_wp2
  go_ret
  exact ⟨ret_int (by unfold heldC; omega), rfl⟩
end Go.Proofs.YtflcmmeoppdhdaaGreat
namespace Go.Proofs.YtflcmmeoppdhdaaGreat
open Go.RowKit Go.Sort

/-- At F lies a bank of n = 2^bits cells, whose chances are R, in block C. -/
structure IsBank (w : World) (F C bits n : Nat) (R : List Nat) : Prop where
  fb : Blk w F 257 [.int .i64 (bits : Int), .slice (some ⟨C, 0, none⟩) n n]
  cb : Blk w C 116 (cvs R)
  row : RowC n R
  pow : n = 2 ^ bits
  lo : 1 ≤ bits ∧ bits ≤ 16
section
variable {w w' : World} {F C bits n : Nat} {R : List Nat}
theorem IsBank.ne (h : IsBank w F C bits n R) : F ≠ C := blk_ne h.fb h.cb (by decide)
theorem IsBank.grow (h : IsBank w F C bits n R) (hb : Below w.heap.size w w') : IsBank w' F C bits n R := ⟨h.fb.grow hb, h.cb.grow hb, h.row, h.pow, h.lo⟩
theorem IsBank.same (h : IsBank w F C bits n R) (e : w'.heap = w.heap) : IsBank w' F C bits n R := ⟨h.fb.same e, h.cb.same e, h.row, h.pow, h.lo⟩
theorem IsBank.place (h : IsBank w F C bits n R) (key : Nat) : placeC key bits < n := by rw [h.pow]; exact placeC_lt key (by have := h.lo; omega)
set_option maxRecDepth 100000 in
theorem ctxCell_any (key : Nat) (h : IsBank w F C bits n R) :
    Calls Tryz.prog 221 #[.pointer (some ⟨F, 0, none⟩), .int .u32 (key : Int)] w fun e w' => e = .returned (.pointer (some ⟨C, placeC key bits, none⟩)) ∧ ∃ j, w' = w.drewN j := by
  have c0 := h.fb.cell 0
  have c1 := h.fb.cell 1
  simp only [List.getElem?_cons_zero, List.getElem?_cons_succ] at c0 c1
  have CR := Lib.hid (fun w => ctxRight_yes (bits : Int) w (by have := h.lo; omega))
  have CP := Lib.hid (fun W => ctxPlace_any key bits W h.lo)
  have hp := h.place key
  obtain ⟨k, hkk⟩ : ∃ k, k = placeC key bits := ⟨_, rfl⟩
  rw [← hkk] at CP hp ⊢
  have hpi : (k : Int) < (n : Int) := by omega
  clear h hkk
  go_enter Tryz.func221, Tryz.ntmps221
  go_wp2_with fail
  refine (CR.out _).mono ?_
  rintro e w' ⟨rfl, hw⟩
  obtain rfl : _ = w' := hw.symm
  go_wp2
  go_quiet ((go_at_call 231; exact quietOf fun W _ => CP.out W))
  go_wp2
  go_ret
  exact ⟨by simp, _, rfl⟩
set_option maxRecDepth 100000 in
theorem ctxP_any (key : Nat) (h : IsBank w F C bits n R) :
    Calls Tryz.prog 216 #[.pointer (some ⟨F, 0, none⟩), .int .u32 (key : Int)] w fun e w' => e = .returned (.int .i64 (R.getD (placeC key bits) 0 : Nat)) ∧ ∃ j, w' = w.drewN j := by
  have CC := Lib.hid (ctxCell_any key h)
  have hp := h.place key
  obtain ⟨k, hkk⟩ : ∃ k, k = placeC key bits := ⟨_, rfl⟩
  rw [← hkk] at CC hp ⊢
  have c0 := fun (W : World) (e : W.heap = w.heap) => ((h.same e).cb.cell k).trans (cvs_at h.row hp)
  have hx := h.row.get hp
  obtain ⟨x, hxx⟩ : ∃ x, x = R.getD k 0 := ⟨_, rfl⟩
  rw [← hxx] at c0 hx ⊢
  unfold ChC at hx
  clear h hkk hxx hp
  go_enter Tryz.func216, Tryz.ntmps216
  go_wp2_with fail
  refine CC.out.mono ?_
  rintro e w' ⟨rfl, j, hw⟩
  have c1 := c0 w' (by rw [hw]; rfl)
  have HW := Lib.hid hw
  clear c0 hw
  go_wp2
  go_ret
  exact ⟨rfl, j, HW.out⟩
set_option maxRecDepth 100000 in
theorem ctxSeen_any (key : Nat) (bit : Int) (h : IsBank w F C bits n R) :
    Calls Tryz.prog 195 #[.pointer (some ⟨F, 0, none⟩), .int .u32 (key : Int), .int .i64 bit] w fun e w' => (∃ u, e = .returned u) ∧ IsBank w' F C bits n (seenC R (placeC key bits) bit) ∧ TurnsB C C w w' := by
  have CC := Lib.hid (ctxCell_any key h)
  have hp := h.place key
  obtain ⟨k, hkk⟩ : ∃ k, k = placeC key bits := ⟨_, rfl⟩
  rw [← hkk] at CC hp ⊢
  have H := Lib.hid h
  have c0 := fun (W : World) (e : W.heap = w.heap) => ((h.same e).cb.cell k).trans (cvs_at h.row hp)
  have hset := fun (W : World) (e : W.heap = w.heap) => (h.same e).cb.set_ k (.int .u32 (afterC (R.getD k 0) bit : Nat))
  have hfr := fun (W : World) (e : W.heap = w.heap) => (h.same e).cb.frozen k
  simp only [cvs_set] at hset
  have hx := h.row.get hp
  have CA := Lib.hid (fun w => ctxAfter_any (R.getD k 0) bit w hx)
  have CH := Lib.hid (fun w => ctxHeld_any (rawC (R.getD k 0) bit) w)
  unfold seenC
  have HO := Lib.hid (afterC_ok (R.getD k 0) bit)
  have hy : heldC (rawC (R.getD k 0) bit) = afterC (R.getD k 0) bit := rfl
  rw [hy] at CH
  obtain ⟨y, hyy⟩ : ∃ y, y = afterC (R.getD k 0) bit := ⟨_, rfl⟩
  rw [← hyy] at CH hset HO ⊢
  obtain ⟨z, hz⟩ : ∃ z, z = rawC (R.getD k 0) bit := ⟨_, rfl⟩
  rw [← hz] at CA CH
  obtain ⟨x, hxx⟩ : ∃ x, x = R.getD k 0 := ⟨_, rfl⟩
  rw [← hxx] at c0 hx CA
  clear h hkk hy hyy hz hxx hp hx
  go_enter Tryz.func195, Tryz.ntmps195
  go_wp2_with fail
  refine CC.out.mono ?_
  rintro e w' ⟨rfl, j, hw⟩
  have e1 : w'.heap = w.heap := by rw [hw]; rfl
  have c1 := c0 w' e1
  have f1 := hfr w' e1
  have s1 := hset w' e1
  have HS := Lib.hid s1
  have HF := Lib.hid ((H.out.same e1).fb.setOther ⟨C, k, none⟩ (.int .u32 (y : Int)) H.out.ne)
  have HW := Lib.hid hw
  clear c0 hw hfr hset e1 s1
  go_wp2_with fail
  refine (CA.out _).mono ?_
  rintro e w'' ⟨rfl, hw⟩
  obtain rfl : _ = w'' := hw.symm
  go_wp2_with fail
  refine (CH.out _).mono ?_
  rintro e w'' ⟨rfl, hw⟩
  obtain rfl : _ = w'' := hw.symm
  go_wp2
  go_end0
  refine ⟨⟨_, rfl⟩, ⟨HF.out, HS.out, H.out.row.set k HO.out, H.out.pow, H.out.lo⟩, ?_⟩
  rw [HW.out]
  exact (⟨rfl, rfl, rfl, Nat.le_refl _, fun _ _ _ _ => rfl⟩ : TurnsB C C w (w.drewN j)).trans (TurnsB.set_ k _)
end
/-- The first k of n cells are even, the others 0. -/
def evenC (n k : Nat) : List Nat := List.replicate k 32768 ++ List.replicate (n - k) 0
theorem evenC_set {n k : Nat} (h : k < n) : (cvs (evenC n k)).set k (.int .u32 32768) = cvs (evenC n (k + 1)) := by
  obtain ⟨d, hd⟩ : ∃ d, n - k = d + 1 := ⟨n - k - 1, by omega⟩
  have e := cvs_set (evenC n k) k 32768
  refine Eq.trans e ?_
  unfold evenC
  rw [hd, show n - (k + 1) = d by omega, List.set_append_right _ _ (by simp), List.length_replicate, Nat.sub_self, List.replicate_succ (n := d), List.set_cons_zero, List.replicate_succ' (n := k), List.append_assoc]
  rfl
theorem evenC_at {n k : Nat} (h : k < n) : (cvs (evenC n k))[k]? = some (.int .u32 0) := by
  obtain ⟨d, hd⟩ : ∃ d, n - k = d + 1 := ⟨n - k - 1, by omega⟩
  unfold evenC
  rw [cvs, List.getElem?_map, List.getElem?_append_right (by simp), List.length_replicate, Nat.sub_self, hd]
  rfl
theorem evenC_zero (n : Nat) : cvs (evenC n 0) = List.replicate n (.int .u32 0) := by simp [evenC, cvs]
theorem evenC_all (n : Nat) : evenC n n = List.replicate n 32768 := by simp [evenC]
theorem info_u32c : (Tryz.prog.info? 116).map (fun i => (i.zero, i.size, i.bytes)) = some (some (.int .u32 0), 1, 4) := by kernel_rfl
set_option maxRecDepth 100000 in
set_option maxHeartbeats 1000000 in
theorem ctxNew_any (bits n : Nat) (w : World) (h : 1 ≤ bits ∧ bits ≤ 16) (hn : n = 2 ^ bits) :
    Calls Tryz.prog 151 #[.int .i64 (bits : Int)] w fun e w' => ∃ F, e = .returned (.pointer (some ⟨F, 0, none⟩)) ∧ ∃ C, IsBank w' F C bits n (List.replicate n 32768) ∧ (w.heap.size ≤ F ∧ w.heap.size ≤ C) ∧ Below w.heap.size w w' := by
  have CR := Lib.hid (fun w => ctxRight_yes (bits : Int) w (by omega))
  obtain ⟨i0, hi, hz0, hz1, hz2⟩ := info_parts info_u32c
  have hmany : n ≤ 65536 := by rw [hn]; exact Nat.pow_le_pow_right (n := 2) (by decide) h.2
  have hmk := make_eqN (P := Tryz.prog) (t := 255) (e := 116) Tryz.underlying255 hi hz0 rfl hz1 (by rw [hz2]; decide) n (by omega) w
  obtain ⟨w1, hw1⟩ : ∃ w1, w1 = w.alloc (.cells (List.replicate n (Value.int .u32 0)).toArray 116) := ⟨_, rfl⟩
  rw [← hw1] at hmk
  have hsh : wrap64 (2 ^ min bits 64) = (n : Int) := by
    have e : ((n : Nat) : Int) = 2 ^ bits := by rw [hn, Int.natCast_pow]; rfl
    rw [Nat.min_eq_left (by omega), ← e]
    exact IntWalk.wrap64_in _ (by omega)
  have H := Lib.hid (And.intro h hn)
  have hb1 : Below w.heap.size w w1 := by rw [hw1]; exact (Below.refl _ _).alloc (Nat.le_refl _) _
  have hc1 : Blk w1 w.heap.size 116 (cvs (evenC n 0)) := by rw [hw1, evenC_zero]; exact heap_alloc_new w _
  obtain ⟨C, hC⟩ : ∃ C, C = w.heap.size := ⟨_, rfl⟩
  rw [← hC] at hmk hc1
  have hb2 := hb1.alloc hb1.size (.cells #[.int .i64 (bits : Int), .slice (some ⟨C, 0, none⟩) n n] 257)
  have hf2 : Blk (w1.alloc (.cells #[.int .i64 (bits : Int), .slice (some ⟨C, 0, none⟩) n n] 257)) w1.heap.size 257 [.int .i64 (bits : Int), .slice (some ⟨C, 0, none⟩) n n] := heap_alloc_new w1 _
  have hc2 := hc1.grow ((Below.refl w1.heap.size w1).alloc (Nat.le_refl _) (.cells #[.int .i64 (bits : Int), .slice (some ⟨C, 0, none⟩) n n] 257))
  obtain ⟨w2, hw2⟩ : ∃ w2, w2 = w1.alloc (.cells #[.int .i64 (bits : Int), .slice (some ⟨C, 0, none⟩) n n] 257) := ⟨_, rfl⟩
  obtain ⟨F, hF⟩ : ∃ F, F = w1.heap.size := ⟨_, rfl⟩
  rw [← hw2] at hb2 hf2 hc2
  rw [← hF] at hf2
  have H2 := Lib.hid (And.intro hb2 (And.intro hf2 hc2))
  have HFC := Lib.hid (show w.heap.size ≤ F ∧ w.heap.size ≤ C by rw [hF, hC]; exact ⟨hb1.size, Nat.le_refl _⟩)
  have HW := Lib.hid (And.intro hw2 hF)
  have HM := Lib.hid hmany
  clear hb2 hf2 hc2 hw2 hF hC hc1 hb1 hw1 hn h hmany
  go_enter Tryz.func151, Tryz.ntmps151
  go_wp2_with fail
  refine (CR.out _).mono ?_
  rintro e w' ⟨rfl, hw⟩
  obtain rfl : _ = w' := hw.symm
  go_wp2_with fail
  rw [← HW.out.1, ← HW.out.2]
  have c1 := H2.out.2.1.cell 1
  simp only [List.getElem?_cons_zero, List.getElem?_cons_succ] at c1
  go_wp2
  clear c1
  go_loopw [19] (fun ii wr => ∃ k : Nat, k ≤ n ∧ ii = .int .i64 (k : Int) ∧ Blk wr F 257 [.int .i64 (bits : Int), .slice (some ⟨C, 0, none⟩) n n] ∧ Blk wr C 116 (cvs (evenC n k)) ∧ Below w.heap.size w wr) (fun ii _ => n - (intOf ii).toNat)
  case atStart => exact ⟨0, Nat.zero_le _, rfl, H2.out.2.1, H2.out.2.2, H2.out.1⟩
  case round =>
    clear H2 HW hmk
    obtain ⟨k, hk, rfl, hf, hc, hb⟩ := hrel
    have hm := HM.out
    have HB := Lib.hid hb
    have HF := Lib.hid hf
    have HC := Lib.hid hc
    by_cases hlt : k < n
    · have hki : (k : Int) < (n : Int) := by omega
      have c1 := hf.cell 1
      simp only [List.getElem?_cons_zero, List.getElem?_cons_succ] at c1
      have c2 := (hc.cell k).trans (evenC_at hlt)
      have f2 := hc.frozen k
      have hset := hc.set_ k (.int .u32 32768)
      rw [evenC_set hlt] at hset
      have HS := Lib.hid hset
      have HF2 := Lib.hid (hf.setOther ⟨C, k, none⟩ (.int .u32 32768) (blk_ne hf hc (by decide)))
      have HB2 := Lib.hid (hb.setCell (p := ⟨C, k, none⟩) HFC.out.2 (.int .u32 32768))
      clear hset hf hc hb
      go_wp2
      go_roundw
      case rel => exact ⟨k + 1, by omega, by go_num, HF2.out, HS.out, HB2.out⟩
      case measure => simp [intOf]; omega
    · obtain rfl : k = n := by omega
      have hall := HC.out
      rw [evenC_all] at hall
      have HALL := Lib.hid hall
      clear hf hc hb hall
      go_wp2
      go_ret
      exact ⟨F, rfl, C, ⟨HF.out, HALL.out, RowC.even _, H.out.2, H.out.1⟩, HFC.out, HB.out⟩
end Go.Proofs.YtflcmmeoppdhdaaGreat
namespace Go.Proofs.YtflcmmeoppdhdaaGreat
open Go.RowKit Go.Sort

end Go.Proofs.YtflcmmeoppdhdaaGreat
namespace Go.Proofs.YtflcmmeoppdhdaaGreat
open Go.RowKit Go.Sort

set_option maxRecDepth 100000 in
theorem mixHeld_any (p lo hi : Int) (w : World) : Calls Tryz.prog 219 #[.int .i64 p, .int .i64 lo, .int .i64 hi] w fun e w' => e = .returned (.int .i64 (min (max p lo) hi)) ∧ w' = w := by
  go_enter Tryz.func219, Tryz.ntmps219
  go_wp2
  go_ret
  exact ⟨rfl, rfl⟩
set_option maxRecDepth 100000 in
theorem mixChance_any (p : Int) (w : World) : Calls Tryz.prog 218 #[.int .i64 p] w fun e w' => e = .returned (.int .i64 (clM p)) ∧ w' = w := by
  have CH := Lib.hid (fun w => mixHeld_any p 0 65536 w)
  go_enter Tryz.func218, Tryz.ntmps218
  go_wp2_with fail
  refine (CH.out _).mono ?_
  rintro e w' ⟨rfl, hw⟩
  obtain rfl : _ = w' := hw.symm
  go_wp2
  go_ret
  exact ⟨rfl, rfl⟩
set_option maxRecDepth 100000 in
theorem mixWrong_any (p bit : Int) (w : World) (h : 0 ≤ p ∧ p ≤ 65536) : Calls Tryz.prog 220 #[.int .i64 p, .int .i64 bit] w fun e w' => e = .returned (.int .i64 (farM p bit)) ∧ w' = w := by
  obtain ⟨h1, h2⟩ := h
  unfold farM
  by_cases hb : bit = 0
  · subst hb
    rw [if_pos rfl]
    go_enter Tryz.func220, Tryz.ntmps220
    go_wp2
    go_ret
    exact ⟨rfl, rfl⟩
  · rw [if_neg hb]
    have hbb : (bit == 0) = false := by simp [hb]
    go_enter Tryz.func220, Tryz.ntmps220
    go_wp2
    go_ret
    exact ⟨rfl, rfl⟩

/-- A mixer's cells: n weights, noughts up to eight, n. -/
def padM (n : Nat) (W : List Int) : List Int := W ++ List.replicate (8 - n) 0 ++ [(n : Int)]
theorem padM_n {n : Nat} {W : List Int} (h : W.length = n) (h8 : n ≤ 8) : (zvs (padM n W))[8]? = some (.int .i64 (n : Int)) := by
  unfold padM
  rw [zvs_get, List.getElem?_append_right (by simp; omega)]
  simp only [List.length_append, List.length_replicate, h]
  rw [show 8 - (n + (8 - n)) = 0 by omega]
  rfl
theorem padM_at {n k : Nat} {W : List Int} (h : W.length = n) (hk : k < n) : (zvs (padM n W))[k]? = some (.int .i64 (W[k]'(by omega))) := by
  unfold padM
  rw [zvs_get, List.append_assoc, List.getElem?_append_left (by omega), List.getElem?_eq_getElem (by omega)]
  rfl
theorem padM_set {n k : Nat} {W : List Int} (h : W.length = n) (hk : k < n) (x : Int) : (zvs (padM n W)).set k (.int .i64 x) = zvs (padM n (W.set k x)) := by
  unfold padM
  rw [zvs_set, List.append_assoc, List.append_assoc, List.set_append_left _ _ (by omega)]
/-- At F lies a mixer of n weights W. -/
structure IsMix (w : World) (F n : Nat) (W : List Int) : Prop where
  fb : Blk w F 254 (zvs (padM n W))
  wts : WtsM n W
  lo : 1 ≤ n ∧ n ≤ 8
section
variable {w w' : World} {F n : Nat} {W : List Int}
theorem IsMix.grow (h : IsMix w F n W) (hb : Below w.heap.size w w') : IsMix w' F n W := ⟨h.fb.grow hb, h.wts, h.lo⟩
theorem IsMix.same (h : IsMix w F n W) (e : w'.heap = w.heap) : IsMix w' F n W := ⟨h.fb.same e, h.wts, h.lo⟩
theorem IsMix.cell (h : IsMix w F n W) {k : Nat} (hk : k < n) : w.cell? ⟨F, k, none⟩ = some (.int .i64 (W[k]'(by rw [h.wts.len]; exact hk))) := (h.fb.cell k).trans (padM_at h.wts.len hk)
theorem IsMix.count (h : IsMix w F n W) : w.cell? ⟨F, 8, none⟩ = some (.int .i64 (n : Int)) := (h.fb.cell 8).trans (padM_n h.wts.len h.lo.2)

set_option maxRecDepth 100000 in
theorem mixFits_yes (A : Option Addr) (m : Nat) (h : IsMix w F n W) : Calls Tryz.prog 217 #[.pointer (some ⟨F, 0, none⟩), .slice A n m] w fun e w' => e = .returned (.bool true) ∧ w' = w := by
  have c8 := h.count
  have h0 : (0 : Int) < (n : Int) := by have := h.lo; omega
  clear h
  go_enter Tryz.func217, Tryz.ntmps217
  go_wp2
  go_ret
  exact ⟨by simp, rfl⟩
theorem dotM_part {n : Nat} {W L : List Int} (h : WtsM n W) (hl : L.length = n) {k : Nat} (hk : k ≤ n) : 0 ≤ dotM (W.take k) (L.take k) ∧ dotM (W.take k) (L.take k) ≤ 65536 * (W.take k).sum ∧ (k : Int) ≤ (W.take k).sum ∧ (W.take k).sum ≤ 255 * k := by
  have hw : WtsM k (W.take k) := ⟨by simp [h.len]; omega, fun x hx => h.ok x (List.mem_of_mem_take hx)⟩
  have h1 := dotM_ok hw (L := L.take k) (by simp [hl]; omega)
  have h2 := sumM_le hw.ok
  rw [hw.len] at h2
  exact ⟨h1.1, h1.2, h2.1, h2.2⟩
set_option maxRecDepth 100000 in
set_option maxHeartbeats 1000000 in
theorem mixP_any {B : Nat} {A : Option Addr} {m : Nat} {l : List Int} (h : IsMix w F n W) (hr : Rd w B A (zvs l)) (hl : l.length = n) :
    Calls Tryz.prog 193 #[.pointer (some ⟨F, 0, none⟩), .slice A n m] w fun e w' => e = .returned (.int .i64 (mixM W l)) ∧ ∃ j, w' = w.drewN j := by
  have CF := Lib.hid (mixFits_yes A m h)
  have H := Lib.hid h
  have HR := Lib.hid hr
  have HL := Lib.hid hl
  have hlo := h.lo
  have CH := Lib.hid (fun p w => mixChance_any p w)
  clear h hr hl
  go_enter Tryz.func193, Tryz.ntmps193
  go_wp2_with fail
  refine CF.out.mono ?_
  rintro e w' ⟨rfl, hw⟩
  obtain rfl : _ = w' := hw.symm
  go_wp2
  go_loopw [5, 6, 15] (fun ss tt ii wr => ∃ k : Nat, k ≤ n ∧ ss = .int .i64 (dotM (W.take k) (l.take k)) ∧ tt = .int .i64 (W.take k).sum ∧ ii = .int .i64 (k : Int) ∧ ∃ j, wr = w.drewN j) (fun _ _ ii _ => n - (intOf ii).toNat)
  case atStart => exact ⟨0, Nat.zero_le _, by simp [dotM], by simp, rfl, 0, rfl⟩
  case round =>
    obtain ⟨k, hk, rfl, rfl, rfl, j, hwj⟩ := hrel
    have hh : wr.heap = w.heap := by rw [hwj]; rfl
    have HWJ := Lib.hid (show ∃ j, wr = w.drewN j from ⟨j, hwj⟩)
    clear hwj
    have hpart := dotM_part H.out.wts HL.out hk
    obtain ⟨S, hS⟩ : ∃ S, S = dotM (W.take k) (l.take k) := ⟨_, rfl⟩
    obtain ⟨T, hT⟩ : ∃ T, T = (W.take k).sum := ⟨_, rfl⟩
    rw [← hS, ← hT] at hpart ⊢
    have HST := Lib.hid (And.intro hS hT)
    clear hS hT
    by_cases hlt : k < n
    · have hkl : k < l.length := by rw [HL.out]; exact hlt
      have hkw : k < W.length := by rw [H.out.wts.len]; exact hlt
      obtain ⟨ab, ao, rfl, -, hc1⟩ := cell_of_rd (rd_same HR.out hh) hkl
      have hc2 := (H.out.same hh).cell hlt
      have hwk := H.out.wts.ok _ (List.getElem_mem hkw)
      have hsn := dotM_snoc hkw hkl
      have htn := sumM_snoc hkw
      rw [← HST.out.1] at hsn
      rw [← HST.out.2] at htn
      obtain ⟨x, hx⟩ : ∃ x, x = W[k]'hkw := ⟨_, rfl⟩
      obtain ⟨p, hp⟩ : ∃ p, p = l[k]'hkl := ⟨_, rfl⟩
      rw [← hx] at hc2 hwk hsn htn
      rw [← hp] at hc1 hsn
      have hpc := clM_ok p
      have hm0 := Int.mul_nonneg (show 0 ≤ x by omega) hpc.1
      have hm1 := Int.mul_le_mul hwk.2 hpc.2 hpc.1 (show (0 : Int) ≤ 255 by decide)
      have CP := Lib.hid (CH.out p)
      rw [Int.mul_comm x] at hm0 hm1 hsn
      obtain ⟨c, hc⟩ : ∃ c, c = clM p := ⟨_, rfl⟩
      rw [← hc] at CP hm0 hm1 hsn
      obtain ⟨y, hy⟩ : ∃ y, y = c * x := ⟨_, rfl⟩
      have hw1 : IntKind.i64.wrap (c * x) = y := by rw [hy, IntKind.wrap_i64]; omega
      rw [← hy] at hm0 hm1 hsn
      have hw2 : IntKind.i64.wrap (S + y) = S + y := by rw [IntKind.wrap_i64]; omega
      have HSN := Lib.hid (And.intro hsn htn)
      have hki : (k : Int) < (n : Int) := by omega
      clear hx hp hc hy hkl hkw hpc hsn htn hh
      go_wp2
      go_quiet ((go_at_call 218; exact quietOf fun W _ => CP.out W))
      go_wp2
      refine ⟨⟨k + 1, by omega, by rw [HSN.out.1], by rw [HSN.out.2], by go_num, ?_⟩, by simp [intOf]; omega⟩
      obtain ⟨j, hj⟩ := HWJ.out
      exact ⟨j + nq, by rw [hj, World.drewN_drewN]⟩
    · obtain rfl : k = n := by omega
      have hS : S = dotM W l := by rw [HST.out.1, List.take_of_length_le (by rw [H.out.wts.len]; exact Nat.le_refl _), List.take_of_length_le (by rw [HL.out]; exact Nat.le_refl _)]
      have hT : T = W.sum := by rw [HST.out.2, List.take_of_length_le (by rw [H.out.wts.len]; exact Nat.le_refl _)]
      have hM : mixM W l = min (max (S / T) 32) 65504 := by rw [hS, hT]; rfl
      have hT1 : 0 < T := by omega
      have hq0 : 0 ≤ S / T := Int.ediv_nonneg hpart.1 (by omega)
      have hq1 : S / T ≤ 65536 := Int.ediv_le_of_le_mul hT1 hpart.2.1
      have HM := Lib.hid hM
      obtain ⟨q, hq⟩ : ∃ q, q = S / T := ⟨_, rfl⟩
      have hdiv : S.tdiv T = q := by rw [Int.tdiv_eq_ediv_of_nonneg hpart.1, hq]
      rw [← hq] at hq0 hq1 HM
      have CD := Lib.hid (fun w => mixHeld_any q 32 65504 w)
      have HQ := Lib.hid hq
      have hT0 : ¬ (T = 0) := by omega
      have hS0 := hpart.1
      clear hS hT hM hq hpart
      go_wp2_with fail
      refine (CD.out _).mono ?_
      rintro e w' ⟨rfl, hw⟩
      obtain rfl : _ = w' := hw.symm
      go_wp2
      go_ret
      exact ⟨ret_int HM.out.symm, HWJ.out⟩
theorem set_self {α : Type} {l : List α} {k : Nat} {x : α} (h : l[k]? = some x) : l.set k x = l := by
  refine List.ext_getElem? fun j => ?_
  rw [List.getElem?_set]
  by_cases e : k = j
  · subst e
    rw [if_pos rfl, if_pos (List.getElem?_eq_some_iff.1 h).1, h]
  · rw [if_neg e]
theorem rd_turns2 {A : Option Addr} {g : Nat} {t : TypeId} {cs : List Value} (hb : Blk w g t cs) (hne : g ≠ F) (hA : A = some ⟨g, 0, none⟩) : ∀ W, TurnsB F F w W → Rd W W.heap.size A cs := fun W hu => by
  subst hA
  exact Rd.of_blk (hu.blk hb hne hne)
set_option maxRecDepth 100000 in
set_option maxHeartbeats 4000000 in
theorem mixSeen_any {A : Option Addr} {m : Nat} {l : List Int} (bit : Int) (h : IsMix w F n W) (hr : ∀ W, TurnsB F F w W → Rd W W.heap.size A (zvs l)) (hl : l.length = n) :
    Calls Tryz.prog 194 #[.pointer (some ⟨F, 0, none⟩), .slice A n m, .int .i64 bit] w fun e w' => (∃ u, e = .returned u) ∧ IsMix w' F n (seenM W l bit) ∧ TurnsB F F w w' := by
  have CF := Lib.hid (mixFits_yes A m h)
  have CQ := Lib.hid (mixP_any (m := m) h (hr w (TurnsB.refl F F w)) hl)
  have H := Lib.hid h
  have HR := Lib.hid hr
  have HL := Lib.hid hl
  have hlo := h.lo
  have CH := Lib.hid (fun p w => mixChance_any p w)
  have hmx : 0 ≤ mixM W l ∧ mixM W l ≤ 65536 := by have := heldM_ok (dotM W l / W.sum); unfold mixM; omega
  have CW := Lib.hid (fun w => mixWrong_any (mixM W l) bit w hmx)
  obtain ⟨pm, hpm⟩ : ∃ pm, pm = mixM W l := ⟨_, rfl⟩
  obtain ⟨mx, hmxe⟩ : ∃ mx, mx = farM (mixM W l) bit := ⟨_, rfl⟩
  have HMX := Lib.hid hmxe
  rw [← hmxe] at CW
  rw [← hpm] at CQ CW
  clear h hr hl hmx hpm hmxe
  go_enter Tryz.func194, Tryz.ntmps194
  go_wp2_with fail
  refine CF.out.mono ?_
  rintro e w' ⟨rfl, hw⟩
  obtain rfl : _ = w' := hw.symm
  go_wp2_with fail
  refine CQ.out.mono ?_
  rintro e w1 ⟨rfl, j, hwj⟩
  have hh : w1.heap = w.heap := by rw [hwj]; rfl
  have hu : TurnsB F F w w1 := by rw [hwj]; exact ⟨rfl, rfl, rfl, Nat.le_refl _, fun _ _ _ _ => rfl⟩
  have HS0 := Lib.hid (And.intro (H.out.fb.same hh) hu)
  clear hwj hh hu
  go_wp2_with fail
  refine (CW.out _).mono ?_
  rintro e w' ⟨rfl, hw⟩
  obtain rfl : _ = w' := hw.symm
  go_wp2
  go_loopw [21] (fun ii wr => ∃ k : Nat, k ≤ n ∧ ii = .int .i64 (k : Int) ∧ Blk wr F 254 (zvs (padM n (stepM W l bit k))) ∧ TurnsB F F w wr) (fun ii _ => n - (intOf ii).toNat)
  case atStart => exact ⟨0, Nat.zero_le _, rfl, by rw [stepM_zero]; exact HS0.out.1, HS0.out.2⟩
  case round =>
    clear HS0
    obtain ⟨k, hk, rfl, hb, hu⟩ := hrel
    have HB := Lib.hid hb
    have HU := Lib.hid hu
    clear hb hu
    by_cases hlt : k < n
    · have hkl : k < l.length := by rw [HL.out]; exact hlt
      have hkw : k < W.length := by rw [H.out.wts.len]; exact hlt
      have hkey := stepM_succ H.out.wts HL.out bit hlt
      have hat := stepM_get H.out.wts HL.out bit hlt
      have hlen := stepM_len H.out.wts HL.out bit hk
      have hwk := H.out.wts.ok _ (List.getElem_mem hkw)
      have hrd := HR.out wr HU.out
      obtain ⟨ab, ao, rfl, -, hc1⟩ := cell_of_rd hrd hkl
      have hc2 : wr.cell? ⟨F, k, none⟩ = some (.int .i64 (W[k]'hkw)) := by
        rw [HB.out.cell k, padM_at hlen hlt]
        rw [List.getElem?_eq_getElem (by omega)] at hat
        injection hat with hat
        rw [hat]
      have hf2 := HB.out.frozen k
      obtain ⟨x, hx⟩ : ∃ x, x = W[k]'hkw := ⟨_, rfl⟩
      obtain ⟨p, hp⟩ : ∃ p, p = l[k]'hkl := ⟨_, rfl⟩
      rw [← HMX.out] at hkey
      rw [← hx] at hc2 hwk hkey hat
      rw [← hp] at hc1 hkey
      have CP := Lib.hid (CH.out p)
      have CV := Lib.hid (fun w => mixWrong_any (clM p) bit w (clM_ok p))
      obtain ⟨own, hown⟩ : ∃ own, own = farM (clM p) bit := ⟨_, rfl⟩
      rw [← hown] at CV hkey
      obtain ⟨c, hc⟩ : ∃ c, c = clM p := ⟨_, rfl⟩
      rw [← hc] at CP CV
      have hset := HB.out.set_ k (.int .i64 (nextM x own mx))
      rw [padM_set hlen hlt, hkey] at hset
      have hstay : own = mx → Blk wr F 254 (zvs (padM n (stepM W l bit (k + 1)))) := fun e => by
        have hn : nextM x own mx = x := by unfold nextM; rw [if_neg (by omega), if_neg (by omega)]
        rw [← hkey, hn, set_self hat]
        exact HB.out
      have HST := Lib.hid hstay
      have HSE := Lib.hid hset
      have hki : (k : Int) < (n : Int) := by omega
      have hk8 : k < 8 := by omega
      clear hx hp hown hc hkl hkw hkey hat hlen hset hstay hrd
      rcases Int.lt_trichotomy own mx with h1 | h1 | h1
      · have HN := Lib.hid (show nextM x own mx = min (x + 1) 255 by unfold nextM; rw [if_pos h1])
        go_wp2_with fail
        refine (CP.out _).mono ?_
        rintro e w' ⟨rfl, hw⟩
        obtain rfl : _ = w' := hw.symm
        go_wp2_with fail
        refine (CV.out _).mono ?_
        rintro e w' ⟨rfl, hw⟩
        obtain rfl : _ = w' := hw.symm
        go_wp2
        go_region
        go_wp2
        have hse := HSE.out
        rw [HN.out] at hse
        refine ⟨⟨k + 1, by omega, by go_num, hse.same rfl, (HU.out.trans (TurnsB.setT k _)).drew⟩, by simp [intOf]; omega⟩
      · have HN := Lib.hid (HST.out h1)
        clear HSE
        subst h1
        go_wp2_with fail
        refine (CP.out _).mono ?_
        rintro e w' ⟨rfl, hw⟩
        obtain rfl : _ = w' := hw.symm
        go_wp2_with fail
        refine (CV.out _).mono ?_
        rintro e w' ⟨rfl, hw⟩
        obtain rfl : _ = w' := hw.symm
        go_wp2
        refine ⟨⟨k + 1, by omega, by go_num, HN.out, HU.out⟩, by simp [intOf]; omega⟩
      · have HN := Lib.hid (show nextM x own mx = max (x - 1) 1 by unfold nextM; rw [if_neg (by omega), if_pos h1])
        have h2 : ¬ (own < mx) := by omega
        go_wp2_with fail
        refine (CP.out _).mono ?_
        rintro e w' ⟨rfl, hw⟩
        obtain rfl : _ = w' := hw.symm
        go_wp2_with fail
        refine (CV.out _).mono ?_
        rintro e w' ⟨rfl, hw⟩
        obtain rfl : _ = w' := hw.symm
        go_wp2
        go_region
        go_wp2
        have hse := HSE.out
        rw [HN.out] at hse
        refine ⟨⟨k + 1, by omega, by go_num, hse.same rfl, (HU.out.trans (TurnsB.setT k _)).drew⟩, by simp [intOf]; omega⟩
    · obtain rfl : k = n := by omega
      have hb := HB.out
      rw [stepM_all H.out.wts HL.out bit] at hb
      have HB2 := Lib.hid hb
      clear hb
      go_wp2
      go_end0
      exact ⟨⟨_, rfl⟩, ⟨HB2.out, H.out.wts.seen HL.out bit, H.out.lo⟩, HU.out⟩
end
end Go.Proofs.YtflcmmeoppdhdaaGreat
namespace Go.Proofs.YtflcmmeoppdhdaaGreat
open Go.RowKit Go.Sort

/-- The first k of n weights are laid. -/
def newM (n k : Nat) : List Int := List.replicate k 64 ++ List.replicate (n - k) 0
theorem newM_len {n k : Nat} (h : k ≤ n) : (newM n k).length = n := by simp [newM]; omega
theorem newM_set {n k : Nat} (h : k < n) : (newM n k).set k 64 = newM n (k + 1) := by
  obtain ⟨d, hd⟩ : ∃ d, n - k = d + 1 := ⟨n - k - 1, by omega⟩
  unfold newM
  rw [hd, show n - (k + 1) = d by omega, List.set_append_right _ _ (by simp), List.length_replicate, Nat.sub_self, List.replicate_succ (n := d), List.set_cons_zero, List.replicate_succ' (n := k), List.append_assoc]
  rfl
theorem newM_all (n : Nat) : newM n n = List.replicate n 64 := by simp [newM]
theorem newM_zero {n : Nat} (h : n ≤ 8) : zvs (padM n (newM n 0)) = [.int .i64 0, .int .i64 0, .int .i64 0, .int .i64 0, .int .i64 0, .int .i64 0, .int .i64 0, .int .i64 0, .int .i64 (n : Int)] := by
  have e : newM n 0 ++ List.replicate (8 - n) 0 = List.replicate 8 0 := by
    unfold newM
    rw [List.replicate_zero, List.nil_append, List.replicate_append_replicate, show n - 0 + (8 - n) = 8 by omega]
  unfold padM
  rw [e]
  rfl
set_option maxRecDepth 100000 in
set_option maxHeartbeats 1000000 in
theorem mixNew_any (n : Nat) (w : World) (h : 1 ≤ n ∧ n ≤ 8) : Calls Tryz.prog 150 #[.int .i64 (n : Int)] w fun e w' => ∃ F, e = .returned (.pointer (some ⟨F, 0, none⟩)) ∧ IsMix w' F n (List.replicate n 64) ∧ w.heap.size ≤ F ∧ Below w.heap.size w w' := by
  obtain ⟨h1, h2⟩ := h
  have a1 : ¬ ((n : Int) < 1) := by omega
  have a2 : ¬ ((8 : Int) < (n : Int)) := by omega
  obtain ⟨w1, hw1⟩ : ∃ w1, w1 = w.alloc (.cells #[.int .i64 0, .int .i64 0, .int .i64 0, .int .i64 0, .int .i64 0, .int .i64 0, .int .i64 0, .int .i64 0, .int .i64 (n : Int)] 254) := ⟨_, rfl⟩
  have hb1 : Below w.heap.size w w1 := by rw [hw1]; exact (Below.refl _ _).alloc (Nat.le_refl _) _
  have hk1 : Blk w1 w.heap.size 254 (zvs (padM n (newM n 0))) := by rw [hw1, newM_zero h2]; exact heap_alloc_new w _
  obtain ⟨F, hF⟩ : ∃ F, F = w.heap.size := ⟨_, rfl⟩
  rw [← hF] at hk1
  have H1 := Lib.hid (And.intro hb1 hk1)
  have HW := Lib.hid (And.intro hw1 hF)
  have HFL := Lib.hid (show w.heap.size ≤ F by omega)
  clear hb1 hk1 hw1 hF
  go_enter Tryz.func150, Tryz.ntmps150
  go_wp2
  rw [← HW.out.1, ← HW.out.2]
  go_loopw [15] (fun ii wr => ∃ k : Nat, k ≤ n ∧ ii = .int .i64 (k : Int) ∧ Blk wr F 254 (zvs (padM n (newM n k))) ∧ Below w.heap.size w wr) (fun ii _ => n - (intOf ii).toNat)
  case atStart => exact ⟨0, Nat.zero_le _, rfl, H1.out.2, H1.out.1⟩
  case round =>
    clear H1 HW
    obtain ⟨k, hk, rfl, hf, hb⟩ := hrel
    have HB := Lib.hid hb
    have HF := Lib.hid hf
    by_cases hlt : k < n
    · have hki : (k : Int) < (n : Int) := by omega
      have hk8 : k < 8 := by omega
      have hlen := newM_len hk
      have c2 := (hf.cell k).trans (padM_at hlen hlt)
      have f2 := hf.frozen k
      have hset := hf.set_ k (.int .i64 64)
      rw [padM_set hlen hlt, newM_set hlt] at hset
      have HS := Lib.hid hset
      have HB2 := Lib.hid (hb.setCell (p := ⟨F, k, none⟩) HFL.out (.int .i64 64))
      obtain ⟨x, hx⟩ : ∃ x, x = (newM n k)[k]'(by omega) := ⟨_, rfl⟩
      rw [← hx] at c2
      clear hset hf hb hx hlen
      go_wp2
      go_roundw
      case rel => exact ⟨k + 1, by omega, by go_num, HS.out, HB2.out⟩
      case measure => simp [intOf]; omega
    · obtain rfl : k = n := by omega
      have hall := HF.out
      rw [newM_all] at hall
      have HALL := Lib.hid hall
      clear hf hb hall
      go_wp2
      go_ret
      exact ⟨F, rfl, ⟨HALL.out, WtsM.first _, h1, h2⟩, HFL.out, HB.out⟩
end Go.Proofs.YtflcmmeoppdhdaaGreat
