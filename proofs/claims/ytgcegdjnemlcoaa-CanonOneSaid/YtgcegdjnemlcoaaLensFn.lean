/- Layer 20: the program's lens of counts. -/
import Derived.Test.YtgcegdjnemlcoaaLensOf
import Derived.Deep.DeepCutAuto
namespace Go.Proofs.Ytgcegdjnemlcoaa
open Go.RowKit Go.Sort Go.Shelf

/-- What is left of the depths, from place r on, in another block than g. -/
def LeftAt (w : World) (g : Nat) (d : Nat → Nat) (N r : Nat) (v : Value) : Prop :=
  ∃ A n c, v = .slice A n c ∧ n + r = N ∧ n ≤ c ∧ ∀ j, j < n → ∃ b off, A = some ⟨b, off, none⟩ ∧ b ≠ g ∧ b < w.heap.size ∧ w.cell? ⟨b, off + j, none⟩ = some (.int .i64 (d (r + j) : Int))
/-- Lens of the first k counts, noughts behind. -/
def lensK (d : Nat → Nat) (c : List Int) (k : Nat) : List Int := (lensF d c 0).take k ++ List.replicate (c.length - k) 0
theorem lensK_zero (d : Nat → Nat) (c : List Int) : lensK d c 0 = List.replicate c.length 0 := by simp [lensK]
theorem lensK_all (d : Nat → Nat) (c : List Int) : lensK d c c.length = lensF d c 0 := by simp [lensK, List.take_of_length_le, lensF_len]
theorem lensK_len (d : Nat → Nat) (c : List Int) {k : Nat} (h : k ≤ c.length) : (lensK d c k).length = c.length := by simp [lensK, lensF_len]; omega
theorem lensK_step (d : Nat → Nat) (c : List Int) {k : Nat} (h : k < c.length) (x : Int) (hx : (lensF d c 0)[k]? = some x) : (lensK d c k).set k x = lensK d c (k + 1) := by
  unfold lensK
  have hl : ((lensF d c 0).take k).length = k := by simp [lensF_len]; omega
  rw [List.set_append_right _ _ (by omega), hl, Nat.sub_self, List.take_add_one, hx]
  have e : c.length - k = (c.length - (k + 1)) + 1 := by omega
  rw [e, List.replicate_succ, List.set_cons_zero, List.append_assoc]
  rfl
theorem lensK_skip (d : Nat → Nat) (c : List Int) {k : Nat} (h : k < c.length) (hx : (lensF d c 0)[k]? = some 0) : lensK d c k = lensK d c (k + 1) := by
  rw [← lensK_step d c h 0 hx]
  unfold lensK
  have hl : ((lensF d c 0).take k).length = k := by simp [lensF_len]; omega
  rw [List.set_append_right _ _ (by omega), hl, Nat.sub_self]
  have e : c.length - k = (c.length - (k + 1)) + 1 := by omega
  rw [e, List.replicate_succ, List.set_cons_zero]
theorem zvs_at (l : List Int) {k : Nat} (h : k < l.length) : (zvs l)[k]? = some (.int .i64 (l.getD k 0)) := by
  simp [zvs, List.getD_eq_getElem?_getD, h]
/-- What a row of lens is. -/
def LensV (B : Nat) (out : List Int) (v : Value) (w : World) : Prop := ∃ g n, v = .slice (some ⟨g, 0, none⟩) n n ∧ n = out.length ∧ B ≤ g ∧ Blk w g 3 (zvs out)
section
variable {w : World} {A : Option Addr} {n m : Nat} {c : List Int}
/-- When the depths are there. -/
def LensStart (w : World) (c : List Int) (n : Nat) (s3 s4 : Value) (wx : World) : Prop :=
  ∃ (g : Nat) (f : For), s3 = .slice (some ⟨g, 0, none⟩) n n ∧ w.heap.size ≤ g ∧ Blk wx g 3 (zvs (List.replicate n 0)) ∧ Huff (For.start (posL c).length (wtL c)) f ∧ (posL c).length ≤ f.N ∧ f.N ≤ 8192 ∧ (∀ i, i < f.N → f.d i ≤ 8192) ∧ LeftAt wx g f.d f.N 0 s4 ∧ Below w.heap.size w wx
theorem left_start {w : World} {B : Nat} {g : Nat} {f : For} {v : Value} (ho : w.ownsRow B 3 1 v f.N (plv (depL f.d f.N 0))) (hne : ∀ b, v.ownBlock = some b → b ≠ g) : LeftAt w g f.d f.N 0 v := by
  obtain ⟨A, c, rfl, hnc, hcm, hG⟩ := own_form ho
  refine ⟨A, f.N, c, rfl, rfl, hnc, fun j hj => ?_⟩
  rcases hG with e | ⟨b, rfl, h1, h2⟩
  · omega
  · refine ⟨b, 0, rfl, hne b rfl, h2, ?_⟩
    have := own_at ho (plv_get (depL f.d f.N 0) j (by rw [depL_len]; exact hj))
    rw [depL_get _ _ hj, if_pos (Nat.zero_le _)] at this
    simpa using this
theorem LeftAt.set {w : World} {g N r i : Nat} {d : Nat → Nat} {v u : Value} (h : LeftAt w g d N r v) : LeftAt (w.setCell ⟨g, i, none⟩ u) g d N r v := by
  obtain ⟨A, n, c, h1, h2, h3, h4⟩ := h
  refine ⟨A, n, c, h1, h2, h3, fun j hj => ?_⟩
  obtain ⟨b, off, e1, e2, e3, e4⟩ := h4 j hj
  exact ⟨b, off, e1, e2, by simpa [World.setCell] using e3, by rw [World.cell?_setCell_other _ _ _ _ (by intro e; injection e with e _; exact e2 e.symm)]; exact e4⟩
theorem lens_start1 {W w1 : World} {v : Value} (hW : Below w.heap.size w W) (hg : W.heap[w.heap.size]? = some (.cells (plv (List.replicate n 0)).toArray 3 (0, 0))) (hd : DepsV W.heap.size c v w1) (hb : Below W.heap.size W w1) :
    LensStart w c n (.slice (some ⟨w.heap.size, 0, none⟩) n n) v w1 := by
  obtain ⟨f, h1, h2, h3, h4, h5⟩ := hd
  have hlt : w.heap.size < W.heap.size := (Array.getElem?_eq_some_iff.1 hg).1
  have hg2 : Blk W w.heap.size 3 (zvs (List.replicate n 0)) := by
    unfold Blk; rw [hg]; simp [plv]
  exact ⟨w.heap.size, f, rfl, Nat.le_refl _, hg2.grow hb, h1, h2, h3, h4, left_start h5 (fun b hb2 => by have := own_block h5 b hb2; omega), hW.trans (hb.mono (Nat.le_of_lt hlt))⟩
theorem lens_start2 {W w1 : World} {v : Value} (hW : Below w.heap.size w W) (hs : W.heap.size = w.heap.size) (hd : DepsV W.heap.size c v w1) (hb : Below W.heap.size W w1) :
    LensStart w c n (.slice (some ⟨w1.heap.size, 0, none⟩) n n) v (w1.alloc (.cells (plv (List.replicate n 0)).toArray 3)) := by
  obtain ⟨f, h1, h2, h3, h4, h5⟩ := hd
  have hsz := hb.size
  refine ⟨w1.heap.size, f, rfl, by omega, ?_, h1, h2, h3, h4, left_start (h5.alloc _) (fun b hb2 => by have := (h5.lt b hb2).2; omega), ((hW.trans (by rw [← hs]; exact hb)).alloc (by omega) _)⟩
  have := heap_alloc_new w1 (.cells (plv (List.replicate n 0)).toArray 3)
  unfold Blk
  rw [this]
  simp [plv]
set_option maxHeartbeats 2000000 in
set_option maxRecDepth 100000 in
theorem lens_lensOf (hr : Rd w w.heap.size A (zvs c)) (hn : c.length = n) (hn1 : n ≤ 4096) (hc : ∀ x ∈ c, 0 ≤ x ∧ x ≤ 1099511627776) (hsum : c.sum ≤ 9007199254740992) :
    Calls Try.prog 23 #[.slice A n m] w fun e w' => ∃ v out, e = .returned v ∧ DeepR c out ∧ LensV w.heap.size out v w' ∧ Below w.heap.size w w' := by
  have C := Lib.hid (fun W (hb : Below w.heap.size w W) => lens_depths (m := m) (w := W) ((hr.below hb).more hb.size) hn hn1 hc hsum)
  have hmk := fun W => make_eqI n (by omega) W
  have HR := Lib.hid hr
  have HC := Lib.hid hn
  have HX := Lib.hid hc
  clear hr hn hc hsum
  go_enter Try.func23, Try.ntmps23
  go_upto_region 1 with fail
  go_cut [3, 4] (fun s3 s4 wx => LensStart w c n s3 s4 wx)
  case first =>
    go_region_with (go_at_call 33; refine (C.out _ (by first | exact Below.refl _ _ | exact (Below.refl _ _).drew | exact (Below.refl _ _).drew.alloc (Nat.le_refl _) _)).mono ?_; rintro _ w1 ⟨v1, rfl, hd1, hb1⟩; have HD1 := Lib.hid hd1; have HB1 := Lib.hid hb1; clear hd1 hb1)
    all_goals (go_wp2_with fail)
    all_goals go_meet
    · exact lens_start1 (W := (w.drew.alloc (.cells (plv (List.replicate n 0)).toArray 3))) ((Below.refl _ _).drew.alloc (Nat.le_refl _) _) (heap_alloc_new w.drew _) HD1.out HB1.out
    · exact lens_start2 (W := w.drew) (Below.refl _ _).drew rfl HD1.out HB1.out
  obtain ⟨g, f, rfl, hg, hblk, hhuff, hLN, hN8, hd8, hleft, hb⟩ := hcut
  have HB1 := Lib.hid hb
  have HBL := Lib.hid hblk
  have HLF := Lib.hid hleft
  have HH := Lib.hid (And.intro hhuff (And.intro hLN (And.intro hN8 hd8)))
  clear hb hblk hleft hhuff hLN hN8 hd8 C hmk
  go_wp2
  go_loopw [4, 14] (fun s4 i wr => ∃ k : Nat, k ≤ n ∧ i = .int .i64 (k : Int) ∧ Blk wr g 3 (zvs (lensK f.d c k)) ∧ LeftAt wr g f.d f.N (rankL c k) s4 ∧ Below w.heap.size w wr) (fun _ i _ => n - (intOf i).toNat)
  case atStart => exact ⟨0, Nat.zero_le _, rfl, by rw [lensK_zero, HC.out]; exact HBL.out, by simpa [rankL, posL] using HLF.out, HB1.out⟩
  case round =>
    clear HBL HLF HB1
    obtain ⟨k, hk, rfl, hblk, hleft, hb⟩ := hrel
    obtain ⟨A4, n4, c4, rfl, hn4, hnc4, hcell4⟩ := id hleft
    have HBL := Lib.hid hblk
    have HLF := Lib.hid hleft
    have HB := Lib.hid hb
    by_cases hlt : k < n
    · have hkc : k < c.length := by have := HC.out; omega
      obtain ⟨b, off, rfl, -, hcell⟩ := cell_of_rd (HR.out.below hb) hkc
      have hki : (k : Int) < (n : Int) := by omega
      have hx := HX.out _ (List.getElem_mem hkc)
      have hget := lensF_get f.d c 0 k hkc
      rw [Nat.zero_add] at hget
      by_cases h0 : 0 < c[k]
      · have hrl := rankL_lt c hkc h0
        have hrs := rankL_succ c k hkc
        rw [if_pos h0] at hget hrs
        have hn4p : 0 < n4 := by have := HH.out.2.1; omega
        obtain ⟨b4, o4, rfl, hb4g, hb4s, hc4⟩ := hcell4 0 hn4p
        have hd8 := HH.out.2.2.2 (rankL c k) (by have := HH.out.2.1; omega)
        rw [Nat.add_zero, Nat.add_zero] at hc4
        have hck := hblk.cell k
        rw [zvs_at _ (by rw [lensK_len _ _ (by omega)]; exact hkc)] at hck
        have hfk := hblk.frozen k
        have hgs := hblk.lt
        have hset := hblk.set_ k (.int .i64 ((max (f.d (rankL c k)) 1 : Nat) : Int))
        rw [zvs_set, lensK_step f.d c hkc _ hget] at hset
        have HSET := Lib.hid hset
        have hle : LeftAt (wr.setCell ⟨g, k, none⟩ (.int .i64 ((max (f.d (rankL c k)) 1 : Nat) : Int))) g f.d f.N (rankL c k) (.slice (some ⟨b4, o4, none⟩) n4 c4) := hleft.set
        obtain ⟨A5, n5, c5, e5, -, -, hcell5⟩ := hle
        injection e5 with e51 e52 e53
        subst e51 e52 e53
        have HC5 := Lib.hid hcell5
        have HB5 := Lib.hid (hb.setCell (p := ⟨g, k, none⟩) hg (.int .i64 ((max (f.d (rankL c k)) 1 : Nat) : Int)))
        obtain ⟨D, hD⟩ : ∃ D, D = f.d (rankL c k) := ⟨_, rfl⟩
        rw [← hD] at hc4 hd8 HSET HC5 HB5
        have hmax : max (D : Int) 1 = ((max D 1 : Nat) : Int) := by omega
        obtain ⟨M, hM⟩ : ∃ M, M = max D 1 := ⟨_, rfl⟩
        rw [← hM] at hmax HSET HC5 HB5
        obtain ⟨x, hxx⟩ : ∃ x, x = c[k]'hkc := ⟨_, rfl⟩
        rw [← hxx] at hcell h0
        obtain ⟨y, hy⟩ : ∃ y, y = (lensK f.d c k).getD k 0 := ⟨_, rfl⟩
        rw [← hy] at hck
        have HRS := Lib.hid (And.intro hrs hn4)
        clear hblk hleft hb hget hrl hrs hxx hx hy hset hcell4 hcell5 hD hM HBL HLF HB hn4
        go_wp2
        refine ⟨⟨k + 1, by omega, by go_num, HSET.out, ⟨_, n4 - 1, c4 - 1, rfl, by have := HRS.out; omega, by omega, fun j hj => ?_⟩, HB5.out⟩, by simp [intOf]; omega⟩
        obtain ⟨b, off, e1, e2, e3, e4⟩ := HC5.out (j + 1) (by omega)
        injection e1 with e1
        injection e1 with e5 e6
        subst e5 e6
        refine ⟨b4, o4 + 1, if_neg (by omega), e2, e3, ?_⟩
        rw [HRS.out.1, show o4 + 1 + j = o4 + (j + 1) by omega, show rankL c k + 1 + j = rankL c k + (j + 1) by omega]
        exact e4
      · have hrs := rankL_skip hkc h0
        rw [if_neg h0] at hget
        have HEND := Lib.hid (And.intro (show Blk wr g 3 (zvs (lensK f.d c (k + 1))) by rw [← lensK_skip f.d c hkc hget]; exact hblk) (show LeftAt wr g f.d f.N (rankL c (k + 1)) (.slice A4 n4 c4) by rw [hrs]; exact hleft))
        obtain ⟨x, hxx⟩ : ∃ x, x = c[k]'hkc := ⟨_, rfl⟩
        rw [← hxx] at hcell h0
        clear hblk hleft hb hget hrs hxx hx hcell4 HBL HLF hn4
        go_wp2
        go_roundw
        case rel => exact ⟨k + 1, by omega, by go_num, HEND.out.1, HEND.out.2, HB.out⟩
        case measure => simp [intOf]; omega
    · obtain rfl : k = n := by omega
      have hkl : c.length = k := HC.out
      rw [← hkl, lensK_all] at hblk
      have HEND := Lib.hid (show LensV w.heap.size (lensF f.d c 0) (.slice (some ⟨g, 0, none⟩) k k) wr from ⟨g, k, rfl, by rw [lensF_len, hkl], hg, hblk⟩)
      clear hblk hleft hb hcell4 hkl hn4 HBL HLF
      go_wp2
      go_ret
      exact ⟨_, _, rfl, ⟨f, HH.out.1, rfl⟩, HEND.out, HB.out⟩
end
end Go.Proofs.Ytgcegdjnemlcoaa
