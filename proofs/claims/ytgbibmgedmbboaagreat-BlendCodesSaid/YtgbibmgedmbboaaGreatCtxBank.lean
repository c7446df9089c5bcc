/- Layer 23: the program's small functions. · Layer 23: a bank of chances, of the program. -/
import Derived.Test.YtgbibmgedmbboaaGreatModMath
import Derived.Test.YtgbibmgedmbboaaGreatInts
import Derived.StillTailTactics
namespace Go.Proofs.YtgbibmgedmbboaaGreat
open Go.RowKit Go.Sort

theorem ctxRight_yes (n : Int) (w : World) (h : 1 ≤ n ∧ n ≤ 16) : Calls Tryz.prog 73 #[.int .i64 n] w fun e w' => e = .returned (.bool true) ∧ w' = w := by
  obtain ⟨h1, h2⟩ := h
  go_enter Tryz.func73, Tryz.ntmps73
  go_wp2
  go_ret
  exact ⟨rfl, rfl⟩
theorem ctxRight_no (n : Int) (w : World) (h : ¬ (1 ≤ n ∧ n ≤ 16)) : Calls Tryz.prog 73 #[.int .i64 n] w fun e w' => e = .returned (.bool false) ∧ w' = w := by
  by_cases h1 : 1 ≤ n
  · have h2 : ¬ (n ≤ 16) := by omega
    clear h
    go_enter Tryz.func73, Tryz.ntmps73
    go_wp2
    go_ret
    exact ⟨rfl, rfl⟩
  · clear h
    go_enter Tryz.func73, Tryz.ntmps73
    go_wp2
    go_ret
    exact ⟨rfl, rfl⟩

theorem ctxPlace_bad (key n : Int) (w : World) (h : ¬ (1 ≤ n ∧ n ≤ 16)) : Calls Tryz.prog 107 #[.int .u32 key, .int .i64 n] w fun e w' => e = .returned (.int .i64 0) ∧ w' = w := by
  have CR := Lib.hid (fun w => ctxRight_no n w h)
  clear h
  go_enter Tryz.func107, Tryz.ntmps107
  go_wp2_with fail
  refine (CR.out _).mono ?_
  rintro e w' ⟨rfl, hw⟩
  obtain rfl : _ = w' := hw.symm
  go_wp2
  go_ret
  exact ⟨rfl, rfl⟩
theorem place_val (key : Nat) {bits : Nat} (h1 : 1 ≤ bits) (h2 : bits ≤ 16) : wrap64 (2654435761 * (key : Int) % 4294967296 / 2 ^ (32 - bits)) = ((placeC key bits : Nat) : Int) := by
  have e : ((placeC key bits : Nat) : Int) = 2654435761 * (key : Int) % 4294967296 / 2 ^ (32 - bits) := by
    unfold placeC
    rw [Int.natCast_ediv, Int.natCast_emod, Int.natCast_mul, Int.natCast_pow, Int.mul_comm]
    rfl
  have hl := placeC_lt key (show bits ≤ 32 by omega)
  have h3 : 2 ^ bits ≤ 2 ^ 16 := Nat.pow_le_pow_right (by decide) h2
  rw [← e]
  exact IntWalk.wrap64_in _ (by omega)
theorem ctxPlace_any (key bits : Nat) (w : World) (h : 1 ≤ bits ∧ bits ≤ 16) : Calls Tryz.prog 107 #[.int .u32 (key : Int), .int .i64 (bits : Int)] w fun e w' => e = .returned (.int .i64 (placeC key bits : Nat)) ∧ w' = w := by
  have CR := Lib.hid (fun w => ctxRight_yes (bits : Int) w (by omega))
  obtain ⟨h1, h2⟩ := h
  have a1 : (bits : Int) ≤ 16 := by omega
  go_enter Tryz.func107, Tryz.ntmps107
  go_wp2_with fail
  refine (CR.out _).mono ?_
  rintro e w' ⟨rfl, hw⟩
  obtain rfl : _ = w' := hw.symm
  go_wp2
  go_ret
  exact ⟨ret_int (place_val key h1 h2), rfl⟩
theorem ctxAfter_any (p : Nat) (bit : Int) (w : World) (h : ChC p) : Calls Tryz.prog 100 #[.int .u32 (p : Int), .int .i64 bit] w fun e w' => e = .returned (.int .u32 (rawC p bit : Nat)) ∧ w' = w := by
  obtain ⟨h1, h2⟩ := h
  unfold rawC
  by_cases hb : bit = 0
  · subst hb
    rw [if_pos rfl]
    go_enter Tryz.func100, Tryz.ntmps100
    go_wp2
    go_ret
    exact ⟨ret_int (by omega), rfl⟩
  · rw [if_neg hb]
    have hbb : (bit == 0) = false := by simp [hb]
    go_enter Tryz.func100, Tryz.ntmps100
    go_wp2
    go_ret
    exact ⟨ret_int (by omega), rfl⟩
theorem ctxHeld_any (p : Nat) (w : World) : Calls Tryz.prog 99 #[.int .u32 (p : Int), .int .u32 32, .int .u32 65504] w fun e w' => e = .returned (.int .u32 (heldC p : Nat)) ∧ w' = w := by
  go_enter Tryz.func99, Tryz.ntmps99
  go_wp2
  go_ret
  exact ⟨ret_int (by unfold heldC; omega), rfl⟩
end Go.Proofs.YtgbibmgedmbboaaGreat
namespace Go.Proofs.YtgbibmgedmbboaaGreat
open Go.RowKit Go.Sort

/-- At F lies a bank of n = 2^bits cells, whose chances are R, in block C. -/
structure IsBank (w : World) (F C bits n : Nat) (R : List Nat) : Prop where
  fb : Blk w F 123 [.int .i64 (bits : Int), .slice (some ⟨C, 0, none⟩) n n]
  cb : Blk w C 78 (cvs R)
  row : RowC n R
  pow : n = 2 ^ bits
  lo : 1 ≤ bits ∧ bits ≤ 16
section
variable {w w' : World} {F C bits n : Nat} {R : List Nat}
theorem IsBank.ne (h : IsBank w F C bits n R) : F ≠ C := blk_ne h.fb h.cb (by decide)
theorem IsBank.grow (h : IsBank w F C bits n R) (hb : Below w.heap.size w w') : IsBank w' F C bits n R := ⟨h.fb.grow hb, h.cb.grow hb, h.row, h.pow, h.lo⟩
theorem IsBank.same (h : IsBank w F C bits n R) (e : w'.heap = w.heap) : IsBank w' F C bits n R := ⟨h.fb.same e, h.cb.same e, h.row, h.pow, h.lo⟩
theorem IsBank.place (h : IsBank w F C bits n R) (key : Nat) : placeC key bits < n := by rw [h.pow]; exact placeC_lt key (by have := h.lo; omega)
theorem IsBank.many (h : IsBank w F C bits n R) : n ≤ 65536 := by rw [h.pow]; exact Nat.pow_le_pow_right (n := 2) (by decide) h.lo.2

set_option maxRecDepth 100000 in
theorem ctxCell_nil (key : Int) (w : World) : Calls Tryz.prog 98 #[.pointer none, .int .u32 key] w fun e w' => e = .returned (.pointer none) ∧ w' = w := by
  go_enter Tryz.func98, Tryz.ntmps98
  go_wp2
  go_ret
  exact ⟨rfl, rfl⟩
set_option maxRecDepth 100000 in
theorem ctxCell_any (key : Nat) (h : IsBank w F C bits n R) :
    Calls Tryz.prog 98 #[.pointer (some ⟨F, 0, none⟩), .int .u32 (key : Int)] w fun e w' => e = .returned (.pointer (some ⟨C, placeC key bits, none⟩)) ∧ ∃ j, w' = w.drewN j := by
  have c0 := h.fb.cell 0
  have c1 := h.fb.cell 1
  simp only [List.getElem?_cons_zero, List.getElem?_cons_succ] at c0 c1
  have CR := Lib.hid (fun w => ctxRight_yes (bits : Int) w (by have := h.lo; omega))
  have CP := Lib.hid (fun W => ctxPlace_any key bits W h.lo)
  have hp := h.place key
  obtain ⟨k, hkk⟩ : ∃ k, k = placeC key bits := ⟨_, rfl⟩
  rw [← hkk] at CP hp ⊢
  have hpi : (k : Int) < (n : Int) := by omega
  clear h hkk
  go_enter Tryz.func98, Tryz.ntmps98
  go_wp2_with fail
  refine (CR.out _).mono ?_
  rintro e w' ⟨rfl, hw⟩
  obtain rfl : _ = w' := hw.symm
  go_wp2
  go_quiet ((go_at_call 107; exact quietOf fun W _ => CP.out W))
  go_wp2
  go_ret
  exact ⟨by simp, _, rfl⟩
set_option maxRecDepth 100000 in
theorem ctxP_nil (key : Int) (w : World) : Calls Tryz.prog 93 #[.pointer none, .int .u32 key] w fun e w' => e = .returned (.int .i64 0) ∧ w' = w := by
  have CC := Lib.hid (ctxCell_nil key)
  go_enter Tryz.func93, Tryz.ntmps93
  go_wp2_with fail
  refine (CC.out _).mono ?_
  rintro e w' ⟨rfl, hw⟩
  obtain rfl : _ = w' := hw.symm
  go_wp2
  go_ret
  exact ⟨rfl, rfl⟩
set_option maxRecDepth 100000 in
theorem ctxSeen_nil (key bit : Int) (w : World) : Calls Tryz.prog 71 #[.pointer none, .int .u32 key, .int .i64 bit] w fun e w' => (∃ u, e = .returned u) ∧ w' = w := by
  have CC := Lib.hid (ctxCell_nil key)
  go_enter Tryz.func71, Tryz.ntmps71
  go_wp2_with fail
  refine (CC.out _).mono ?_
  rintro e w' ⟨rfl, hw⟩
  obtain rfl : _ = w' := hw.symm
  go_wp2
  go_end0
  exact ⟨⟨_, rfl⟩, rfl⟩
set_option maxRecDepth 100000 in
theorem ctxP_any (key : Nat) (h : IsBank w F C bits n R) :
    Calls Tryz.prog 93 #[.pointer (some ⟨F, 0, none⟩), .int .u32 (key : Int)] w fun e w' => e = .returned (.int .i64 (R.getD (placeC key bits) 0 : Nat)) ∧ ∃ j, w' = w.drewN j := by
  have CC := Lib.hid (ctxCell_any key h)
  have hp := h.place key
  obtain ⟨k, hkk⟩ : ∃ k, k = placeC key bits := ⟨_, rfl⟩
  rw [← hkk] at CC hp ⊢
  have c0 := fun (W : World) (e : W.heap = w.heap) => ((h.same e).cb.cell k).trans (cvs_at h.row hp)
  have hx := h.row.get hp
  obtain ⟨x, hxx⟩ : ∃ x, x = R.getD k 0 := ⟨_, rfl⟩
  rw [← hxx] at c0 hx ⊢
  unfold ChC at hx
  clear h hkk hxx hp
  go_enter Tryz.func93, Tryz.ntmps93
  go_wp2_with fail
  refine CC.out.mono ?_
  rintro e w' ⟨rfl, j, hw⟩
  have c1 := c0 w' (by rw [hw]; rfl)
  have HW := Lib.hid hw
  clear c0 hw
  go_wp2
  go_ret
  exact ⟨rfl, j, HW.out⟩
set_option maxRecDepth 100000 in
theorem ctxSeen_any (key : Nat) (bit : Int) (h : IsBank w F C bits n R) :
    Calls Tryz.prog 71 #[.pointer (some ⟨F, 0, none⟩), .int .u32 (key : Int), .int .i64 bit] w fun e w' => (∃ u, e = .returned u) ∧ IsBank w' F C bits n (seenC R (placeC key bits) bit) ∧ TurnsB C C w w' := by
  have CC := Lib.hid (ctxCell_any key h)
  have hp := h.place key
  obtain ⟨k, hkk⟩ : ∃ k, k = placeC key bits := ⟨_, rfl⟩
  rw [← hkk] at CC hp ⊢
  have H := Lib.hid h
  have c0 := fun (W : World) (e : W.heap = w.heap) => ((h.same e).cb.cell k).trans (cvs_at h.row hp)
  have hset := fun (W : World) (e : W.heap = w.heap) => (h.same e).cb.set_ k (.int .u32 (afterC (R.getD k 0) bit : Nat))
  have hfr := fun (W : World) (e : W.heap = w.heap) => (h.same e).cb.frozen k
  simp only [cvs_set] at hset
  have hx := h.row.get hp
  have CA := Lib.hid (fun w => ctxAfter_any (R.getD k 0) bit w hx)
  have CH := Lib.hid (fun w => ctxHeld_any (rawC (R.getD k 0) bit) w)
  unfold seenC
  have HO := Lib.hid (afterC_ok (R.getD k 0) bit)
  have hy : heldC (rawC (R.getD k 0) bit) = afterC (R.getD k 0) bit := rfl
  rw [hy] at CH
  obtain ⟨y, hyy⟩ : ∃ y, y = afterC (R.getD k 0) bit := ⟨_, rfl⟩
  rw [← hyy] at CH hset HO ⊢
  obtain ⟨z, hz⟩ : ∃ z, z = rawC (R.getD k 0) bit := ⟨_, rfl⟩
  rw [← hz] at CA CH
  obtain ⟨x, hxx⟩ : ∃ x, x = R.getD k 0 := ⟨_, rfl⟩
  rw [← hxx] at c0 hx CA
  clear h hkk hy hyy hz hxx hp hx
  go_enter Tryz.func71, Tryz.ntmps71
  go_wp2_with fail
  refine CC.out.mono ?_
  rintro e w' ⟨rfl, j, hw⟩
  have e1 : w'.heap = w.heap := by rw [hw]; rfl
  have c1 := c0 w' e1
  have f1 := hfr w' e1
  have s1 := hset w' e1
  have HS := Lib.hid s1
  have HF := Lib.hid ((H.out.same e1).fb.setOther ⟨C, k, none⟩ (.int .u32 (y : Int)) H.out.ne)
  have HW := Lib.hid hw
  clear c0 hw hfr hset e1 s1
  go_wp2_with fail
  refine (CA.out _).mono ?_
  rintro e w'' ⟨rfl, hw⟩
  obtain rfl : _ = w'' := hw.symm
  go_wp2_with fail
  refine (CH.out _).mono ?_
  rintro e w'' ⟨rfl, hw⟩
  obtain rfl : _ = w'' := hw.symm
  go_wp2
  go_end0
  refine ⟨⟨_, rfl⟩, ⟨HF.out, HS.out, H.out.row.set k HO.out, H.out.pow, H.out.lo⟩, ?_⟩
  rw [HW.out]
  exact (⟨rfl, rfl, rfl, Nat.le_refl _, fun _ _ _ _ => rfl⟩ : TurnsB C C w (w.drewN j)).trans (TurnsB.set_ k _)
end
set_option maxRecDepth 100000 in
theorem ctxNew_bad (n : Int) (w : World) (h : ¬ (1 ≤ n ∧ n ≤ 16)) : Calls Tryz.prog 36 #[.int .i64 n] w fun e w' => e = .returned (.pointer none) ∧ w' = w := by
  have CR := Lib.hid (fun w => ctxRight_no n w h)
  clear h
  go_enter Tryz.func36, Tryz.ntmps36
  go_wp2_with fail
  refine (CR.out _).mono ?_
  rintro e w' ⟨rfl, hw⟩
  obtain rfl : _ = w' := hw.symm
  go_wp2
  go_ret
  exact ⟨rfl, rfl⟩
/-- The first k of n cells are even, the others 0. -/
def evenC (n k : Nat) : List Nat := List.replicate k 32768 ++ List.replicate (n - k) 0
theorem evenC_set {n k : Nat} (h : k < n) : (cvs (evenC n k)).set k (.int .u32 32768) = cvs (evenC n (k + 1)) := by
  obtain ⟨d, hd⟩ : ∃ d, n - k = d + 1 := ⟨n - k - 1, by omega⟩
  have e := cvs_set (evenC n k) k 32768
  refine Eq.trans e ?_
  unfold evenC
  rw [hd, show n - (k + 1) = d by omega, List.set_append_right _ _ (by simp), List.length_replicate, Nat.sub_self, List.replicate_succ (n := d), List.set_cons_zero, List.replicate_succ' (n := k), List.append_assoc]
  rfl
theorem evenC_at {n k : Nat} (h : k < n) : (cvs (evenC n k))[k]? = some (.int .u32 0) := by
  obtain ⟨d, hd⟩ : ∃ d, n - k = d + 1 := ⟨n - k - 1, by omega⟩
  unfold evenC
  rw [cvs, List.getElem?_map, List.getElem?_append_right (by simp), List.length_replicate, Nat.sub_self, hd]
  rfl
theorem evenC_zero (n : Nat) : cvs (evenC n 0) = List.replicate n (.int .u32 0) := by simp [evenC, cvs]
theorem evenC_all (n : Nat) : evenC n n = List.replicate n 32768 := by simp [evenC]
theorem info_u32c : (Tryz.prog.info? 78).map (fun i => (i.zero, i.size, i.bytes)) = some (some (.int .u32 0), 1, 4) := by kernel_rfl
set_option maxRecDepth 100000 in
set_option maxHeartbeats 1000000 in
theorem ctxNew_any (bits n : Nat) (w : World) (h : 1 ≤ bits ∧ bits ≤ 16) (hn : n = 2 ^ bits) :
    Calls Tryz.prog 36 #[.int .i64 (bits : Int)] w fun e w' => ∃ F, e = .returned (.pointer (some ⟨F, 0, none⟩)) ∧ ∃ C, IsBank w' F C bits n (List.replicate n 32768) ∧ (w.heap.size ≤ F ∧ w.heap.size ≤ C) ∧ Below w.heap.size w w' := by
  have CR := Lib.hid (fun w => ctxRight_yes (bits : Int) w (by omega))
  obtain ⟨i0, hi, hz0, hz1, hz2⟩ := info_parts info_u32c
  have hmany : n ≤ 65536 := by rw [hn]; exact Nat.pow_le_pow_right (n := 2) (by decide) h.2
  have hmk := make_eqN (P := Tryz.prog) (t := 121) (e := 78) Tryz.underlying121 hi hz0 rfl hz1 (by rw [hz2]; decide) n (by omega) w
  obtain ⟨w1, hw1⟩ : ∃ w1, w1 = w.alloc (.cells (List.replicate n (Value.int .u32 0)).toArray 78) := ⟨_, rfl⟩
  rw [← hw1] at hmk
  have hsh : wrap64 (2 ^ min bits 64) = (n : Int) := by
    have e : ((n : Nat) : Int) = 2 ^ bits := by rw [hn, Int.natCast_pow]; rfl
    rw [Nat.min_eq_left (by omega), ← e]
    exact IntWalk.wrap64_in _ (by omega)
  have H := Lib.hid (And.intro h hn)
  have hb1 : Below w.heap.size w w1 := by rw [hw1]; exact (Below.refl _ _).alloc (Nat.le_refl _) _
  have hc1 : Blk w1 w.heap.size 78 (cvs (evenC n 0)) := by rw [hw1, evenC_zero]; exact heap_alloc_new w _
  obtain ⟨C, hC⟩ : ∃ C, C = w.heap.size := ⟨_, rfl⟩
  rw [← hC] at hmk hc1
  have hb2 := hb1.alloc hb1.size (.cells #[.int .i64 (bits : Int), .slice (some ⟨C, 0, none⟩) n n] 123)
  have hf2 : Blk (w1.alloc (.cells #[.int .i64 (bits : Int), .slice (some ⟨C, 0, none⟩) n n] 123)) w1.heap.size 123 [.int .i64 (bits : Int), .slice (some ⟨C, 0, none⟩) n n] := heap_alloc_new w1 _
  have hc2 := hc1.grow ((Below.refl w1.heap.size w1).alloc (Nat.le_refl _) (.cells #[.int .i64 (bits : Int), .slice (some ⟨C, 0, none⟩) n n] 123))
  obtain ⟨w2, hw2⟩ : ∃ w2, w2 = w1.alloc (.cells #[.int .i64 (bits : Int), .slice (some ⟨C, 0, none⟩) n n] 123) := ⟨_, rfl⟩
  obtain ⟨F, hF⟩ : ∃ F, F = w1.heap.size := ⟨_, rfl⟩
  rw [← hw2] at hb2 hf2 hc2
  rw [← hF] at hf2
  have H2 := Lib.hid (And.intro hb2 (And.intro hf2 hc2))
  have HFC := Lib.hid (show w.heap.size ≤ F ∧ w.heap.size ≤ C by rw [hF, hC]; exact ⟨hb1.size, Nat.le_refl _⟩)
  have HW := Lib.hid (And.intro hw2 hF)
  have HM := Lib.hid hmany
  clear hb2 hf2 hc2 hw2 hF hC hc1 hb1 hw1 hn h hmany
  go_enter Tryz.func36, Tryz.ntmps36
  go_wp2_with fail
  refine (CR.out _).mono ?_
  rintro e w' ⟨rfl, hw⟩
  obtain rfl : _ = w' := hw.symm
  go_wp2_with fail
  rw [← HW.out.1, ← HW.out.2]
  have c1 := H2.out.2.1.cell 1
  simp only [List.getElem?_cons_zero, List.getElem?_cons_succ] at c1
  go_wp2
  clear c1
  go_loopw [19] (fun ii wr => ∃ k : Nat, k ≤ n ∧ ii = .int .i64 (k : Int) ∧ Blk wr F 123 [.int .i64 (bits : Int), .slice (some ⟨C, 0, none⟩) n n] ∧ Blk wr C 78 (cvs (evenC n k)) ∧ Below w.heap.size w wr) (fun ii _ => n - (intOf ii).toNat)
  case atStart => exact ⟨0, Nat.zero_le _, rfl, H2.out.2.1, H2.out.2.2, H2.out.1⟩
  case round =>
    clear H2 HW hmk
    obtain ⟨k, hk, rfl, hf, hc, hb⟩ := hrel
    have hm := HM.out
    have HB := Lib.hid hb
    have HF := Lib.hid hf
    have HC := Lib.hid hc
    by_cases hlt : k < n
    · have hki : (k : Int) < (n : Int) := by omega
      have c1 := hf.cell 1
      simp only [List.getElem?_cons_zero, List.getElem?_cons_succ] at c1
      have c2 := (hc.cell k).trans (evenC_at hlt)
      have f2 := hc.frozen k
      have hset := hc.set_ k (.int .u32 32768)
      rw [evenC_set hlt] at hset
      have HS := Lib.hid hset
      have HF2 := Lib.hid (hf.setOther ⟨C, k, none⟩ (.int .u32 32768) (blk_ne hf hc (by decide)))
      have HB2 := Lib.hid (hb.setCell (p := ⟨C, k, none⟩) HFC.out.2 (.int .u32 32768))
      clear hset hf hc hb
      go_wp2
      go_roundw
      case rel => exact ⟨k + 1, by omega, by go_num, HF2.out, HS.out, HB2.out⟩
      case measure => simp [intOf]; omega
    · obtain rfl : k = n := by omega
      have hall := HC.out
      rw [evenC_all] at hall
      have HALL := Lib.hid hall
      clear hf hc hb hall
      go_wp2
      go_ret
      exact ⟨F, rfl, C, ⟨HF.out, HALL.out, RowC.even _, H.out.2, H.out.1⟩, HFC.out, HB.out⟩
end Go.Proofs.YtgbibmgedmbboaaGreat
