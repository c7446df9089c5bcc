/-
  Layer 20: the program's depths, lens, halves. · Layer 20: the program's lens of counts. · Layer 20: the program's Of. · Layer 21: the reference's Check and Codes. · Layer 21: where the library's slices.SortFunc lies in this program: its functions and types by their numbers (of this seat: the plain text of the guide's own tool).
-/
import Derived.Test.YtflcmmeoppdhdaaGreatR10
import Derived.Test.YtflcmmeoppdhdaaGreatR14
import Derived.Test.YtflcmmeoppdhdaaGreatR16
import Derived.Deep.DeepCutAuto
import Derived.Deep.LoopGhost
import Derived.Test.YtflcmmeoppdhdaaGreatProg
import Derived.Shelf.SlSortCmp.Whole1
namespace Go.Proofs.YtflcmmeoppdhdaaGreat
open Go.RowKit Go.Sort Go.Shelf

/-- Depths from place k on, noughts ahead. -/
def depL (d : Nat → Nat) (N k : Nat) : List Nat := (List.range N).map fun j => if k ≤ j then d j else 0
theorem depL_len (d : Nat → Nat) (N k : Nat) : (depL d N k).length = N := by simp [depL]
theorem depL_get (d : Nat → Nat) {N : Nat} (k : Nat) {j : Nat} (h : j < N) : (depL d N k).getD j 0 = if k ≤ j then d j else 0 := by
  simp [depL, List.getD_eq_getElem?_getD, h]
theorem depL_start (d : Nat → Nat) {N k : Nat} (h : ∀ j, j < N → k ≤ j → d j = 0) : List.replicate N 0 = depL d N k := by
  apply List.ext_getElem (by simp [depL])
  intro i h1 h2
  simp only [List.length_replicate] at h1
  simp only [depL, List.getElem_replicate, List.getElem_map, List.getElem_range]
  split
  · exact (h i h1 (by assumption)).symm
  · rfl
theorem depL_set (d : Nat → Nat) (N k : Nat) : (depL d N (k + 1)).set k (d k) = depL d N k := by
  apply List.ext_getElem (by simp [depL])
  intro i h1 h2
  rw [List.getElem_set]
  simp only [depL, List.getElem_map, List.getElem_range]
  by_cases e : k = i
  · subst e; rw [if_pos rfl, if_pos (Nat.le_refl _)]
  · rw [if_neg e]
    by_cases h : k ≤ i
    · rw [if_pos (by omega), if_pos h]
    · rw [if_neg (by omega), if_neg h]
theorem TreeDone.small {c : List Int} {ab : List Nat} {g : For} (h : TreeDone c ab g) : ∀ n i, i < g.N → g.N - i ≤ n → g.d i ≤ g.N - 1 - i := by
  intro n
  induction n with
  | zero => intro i h1 h2; omega
  | succ n ih =>
    intro i h1 h2
    by_cases e : i = g.N - 1
    · subst e; rw [h.top (by omega)]; omega
    · obtain ⟨h3, h4, h5⟩ := h.low i (by omega)
      have := ih _ h4 (by omega)
      omega
/-- What depths tells. -/
def DepsV (B : Nat) (c : List Int) (v : Value) (w : World) : Prop :=
  ∃ g, Huff (For.start (posL c).length (wtL c)) g ∧ (posL c).length ≤ g.N ∧ g.N ≤ 8192 ∧ (∀ i, i < g.N → g.d i ≤ 8192) ∧ w.ownsRow B 3 1 v g.N (plv (depL g.d g.N 0))
section
variable {w : World} {A : Option Addr} {n m : Nat} {c : List Int}
set_option maxHeartbeats 2000000 in
set_option maxRecDepth 100000 in
theorem lens_depths (hr : Rd w w.heap.size A (zvs c)) (hn : c.length = n) (hn1 : n ≤ 4096) (hc : ∀ x ∈ c, 0 ≤ x ∧ x ≤ 1099511627776) (hsum : c.sum ≤ 9007199254740992) :
    Calls Tryz.prog 198 #[.slice A n m] w fun e w' => ∃ v, e = .returned v ∧ DepsV w.heap.size c v w' ∧ Below w.heap.size w w' := by
  have C := Lib.hid (lens_tree (m := m) hr hn hn1 hc hsum)
  have hL : (posL c).length ≤ 4096 := by have := rankL_le c c.length; rw [rankL_all] at this; omega
  have HL := Lib.hid hL
  clear hr hn hn1 hc hsum hL
  go_enter Tryz.func198, Tryz.ntmps198
  go_wp2_with fail
  refine C.out.mono ?_
  rintro _ w1 ⟨g, ab, v, rfl, ht, hown, hb⟩
  clear C
  obtain ⟨A1, c1, rfl, hnc, hcm, hG⟩ := own_form hown
  obtain ⟨N, hN⟩ : ∃ N, N = g.N := ⟨_, rfl⟩
  have hlen := ht.len
  rw [← hN] at hlen
  rw [hlen] at hown hnc hG ⊢
  have hN8 : N ≤ 8192 := by have := ht.few; have := HL.out; omega
  have hmk := fun W => make_eqI N (by omega) W
  have HT := Lib.hid (And.intro ht (And.intro hN hlen))
  have HOWN := Lib.hid hown
  have HB := Lib.hid hb
  have hbs := hb.size
  clear ht hown hb hN hlen
  go_wp2
  have hl0 : (plv (List.replicate N 0)).length = N := by simp [plv_length]
  have h1 := own_full w1 (base := w.heap.size) (e := 3) (xs := plv (List.replicate N 0)) hl0 (by simp only [maxLen]; omega) hbs
  have HOW1 := Lib.hid (HOWN.out.alloc (.cells (plv (List.replicate N 0)).toArray 3))
  have HB1 := Lib.hid (HB.out.alloc hbs (.cells (plv (List.replicate N 0)).toArray 3))
  have hGne : N = 0 ∨ ∃ a, A1 = some ⟨a, 0, none⟩ ∧ w.heap.size ≤ a ∧ a < w1.heap.size := by
    rcases hG with e | ⟨a, e1, e2, e3⟩
    · exact .inl e
    · exact .inr ⟨a, e1, e2, e3⟩
  obtain ⟨G, hGe⟩ : ∃ G, G = w1.heap.size := ⟨_, rfl⟩
  rw [← hGe] at h1 hGne ⊢
  have hGlt : G < (w1.alloc (.cells (plv (List.replicate N 0)).toArray 3)).heap.size := by simp; omega
  have hBG : w.heap.size ≤ G := by omega
  generalize w1.alloc (.cells (plv (List.replicate N 0)).toArray 3) = W1 at h1 HOW1 HB1 hGlt ⊢
  clear hmk hl0 HOWN HB hbs hGe hG
  have hst : N = 0 ∨ ∃ K, N = K + 1 ∧ W1.ownsRow w.heap.size 3 1 (.slice (some ⟨G, 0, none⟩) N N) N (plv (depL g.d N K)) := by
    by_cases e : N = 0
    · exact .inl e
    · refine .inr ⟨N - 1, by omega, ?_⟩
      rw [← depL_start g.d (fun j hj hk => by
        have := HT.out.1.top (by have := HT.out.2.1; omega)
        rw [← HT.out.2.1] at this
        rw [show j = N - 1 by omega]; exact this)]
      exact h1
  have HST := Lib.hid hst
  have H1 := Lib.hid h1
  clear hst h1
  by_cases hN0 : N = 0
  · subst hN0
    have HEND := Lib.hid (show DepsV w.heap.size c (.slice (some ⟨G, 0, none⟩) 0 0) W1 from ⟨g, HT.out.1.huff, HT.out.1.most, by have := HT.out.2.1; omega, fun i hi => by have := HT.out.2.1; omega, by rw [← HT.out.2.1]; exact H1.out⟩)
    clear HST HT HOW1 H1 hGne
    go_loopw [5] (fun v wr => v = .int .i64 (-2) ∧ wr = W1) (fun _ _ => 0)
    case atStart => exact ⟨rfl, rfl⟩
    case round =>
      obtain ⟨rfl, rfl⟩ := hrel
      go_wp2
      go_ret
      exact ⟨_, rfl, HEND.out, HB1.out⟩
  · obtain ⟨K, rfl⟩ : ∃ K, N = K + 1 := ⟨N - 1, by omega⟩
    obtain ⟨a, rfl, ha1, ha2⟩ : ∃ a, A1 = some ⟨a, 0, none⟩ ∧ w.heap.size ≤ a ∧ a < G := hGne.elim (fun e => absurd e hN0) id
    have hst2 : W1.ownsRow w.heap.size 3 1 (.slice (some ⟨G, 0, none⟩) (K + 1) (K + 1)) (K + 1) (plv (depL g.d (K + 1) K)) := by
      rcases HST.out with e | ⟨K', e, h⟩
      · omega
      · obtain rfl : K = K' := by omega
        exact h
    have HST2 := Lib.hid hst2
    clear hst2 HST H1 hGne hN0
    go_loopw [5] (fun v wr => ∃ k : Nat, k ≤ K ∧ v = .int .i64 ((k : Int) - 1) ∧ wr.ownsRow w.heap.size 3 1 (.slice (some ⟨G, 0, none⟩) (K + 1) (K + 1)) (K + 1) (plv (depL g.d (K + 1) k)) ∧ wr.ownsRow w.heap.size 3 1 (.slice (some ⟨a, 0, none⟩) (K + 1) c1) (K + 1) (plv ab) ∧ Below w.heap.size w wr) (fun v _ => (intOf v + 1).toNat)
    case atStart => exact ⟨K, Nat.le_refl _, by congr 1; omega, HST2.out, HOW1.out, HB1.out⟩
    case round =>
      clear HST2 HOW1 HB1
      obtain ⟨k, hk, rfl, ho, hoa, hb⟩ := hrel
      have HO := Lib.hid ho
      have HOA := Lib.hid hoa
      have HB := Lib.hid hb
      cases k with
      | zero =>
        have HEND := Lib.hid (show DepsV w.heap.size c (.slice (some ⟨G, 0, none⟩) (K + 1) (K + 1)) wr from ⟨g, HT.out.1.huff, HT.out.1.most, by have := HT.out.2.1; omega, fun i hi => by have := HT.out.1.small _ i hi (Nat.le_refl _); have := HT.out.2.1; omega, by rw [← HT.out.2.1]; exact ho⟩)
        clear ho hoa hb
        go_wp2
        go_ret
        exact ⟨_, rfl, HEND.out, HB.out⟩
      | succ k =>
        obtain ⟨q1, q2, q3⟩ := HT.out.1.low k (by have := HT.out.2.1; omega)
        have hkab : k < ab.length := by have := HT.out.2.2; omega
        obtain ⟨q, hq⟩ : ∃ q, q = ab.getD k 0 := ⟨_, rfl⟩
        have hcA := own_at hoa (plv_get ab k hkab)
        rw [← hq] at q1 q2 q3 hcA
        have hqN : q < K + 1 := by have := HT.out.2.1; omega
        have hcQ := own_at ho (plv_get (depL g.d (K + 1) (k + 1)) q (by rw [depL_len]; exact hqN))
        rw [depL_get _ _ hqN, if_pos (by omega)] at hcQ
        have hcK := own_at ho (plv_get (depL g.d (K + 1) (k + 1)) k (by rw [depL_len]; omega))
        have hfK := ho.frozenAt k
        have hdq := HT.out.1.small _ q q2 (Nat.le_refl _)
        obtain ⟨D, hD⟩ : ∃ D, D = g.d q := ⟨_, rfl⟩
        have hD8 : D ≤ 8192 := by have := HT.out.2.1; omega
        rw [← hD] at hcQ q3
        have hst := ho.stored k (.int .i64 ((D + 1 : Nat) : Int))
        rw [plv_set, ← q3, depL_set] at hst
        rw [q3] at hst
        have HS1 := Lib.hid hst.1
        have HS2 := Lib.hid (hoa.kept hst.2 (.inr (by show some a ≠ some G; intro e; injection e with e; omega)))
        have HB2 := Lib.hid (hb.setCell (p := ⟨G, k, none⟩) hBG (.int .i64 ((D + 1 : Nat) : Int)))
        have e1 : ((k + 1 : Nat) : Int) - 1 = (k : Int) := by omega
        have e2 : ((D + 1 : Nat) : Int) = (D : Int) + 1 := by omega
        rw [e1]
        simp only [e2] at HS1 HS2 HB2
        clear ho hoa hb hst hq hD q1 q2 q3 hdq e1 e2 HO HOA HB
        go_wp2
        go_roundw
        case rel => exact ⟨k, by omega, rfl, HS1.out, HS2.out, HB2.out⟩
        case measure => simp [intOf]
end
end Go.Proofs.YtflcmmeoppdhdaaGreat
namespace Go.Proofs.YtflcmmeoppdhdaaGreat
open Go.RowKit Go.Sort Go.Shelf

/-- What is left of the depths, from place r on, in another block than g. -/
def LeftAt (w : World) (g : Nat) (d : Nat → Nat) (N r : Nat) (v : Value) : Prop :=
  ∃ A n c, v = .slice A n c ∧ n + r = N ∧ n ≤ c ∧ ∀ j, j < n → ∃ b off, A = some ⟨b, off, none⟩ ∧ b ≠ g ∧ b < w.heap.size ∧ w.cell? ⟨b, off + j, none⟩ = some (.int .i64 (d (r + j) : Int))
/-- Lens of the first k counts, noughts behind. -/
def lensK (d : Nat → Nat) (c : List Int) (k : Nat) : List Int := (lensF d c 0).take k ++ List.replicate (c.length - k) 0
theorem lensK_zero (d : Nat → Nat) (c : List Int) : lensK d c 0 = List.replicate c.length 0 := by simp [lensK]
theorem lensK_all (d : Nat → Nat) (c : List Int) : lensK d c c.length = lensF d c 0 := by simp [lensK, List.take_of_length_le, lensF_len]
theorem lensK_len (d : Nat → Nat) (c : List Int) {k : Nat} (h : k ≤ c.length) : (lensK d c k).length = c.length := by simp [lensK, lensF_len]; omega
theorem lensK_step (d : Nat → Nat) (c : List Int) {k : Nat} (h : k < c.length) (x : Int) (hx : (lensF d c 0)[k]? = some x) : (lensK d c k).set k x = lensK d c (k + 1) := by
  unfold lensK
  have hl : ((lensF d c 0).take k).length = k := by simp [lensF_len]; omega
  rw [List.set_append_right _ _ (by omega), hl, Nat.sub_self, List.take_add_one, hx]
  have e : c.length - k = (c.length - (k + 1)) + 1 := by omega
  rw [e, List.replicate_succ, List.set_cons_zero, List.append_assoc]
  rfl
theorem lensK_skip (d : Nat → Nat) (c : List Int) {k : Nat} (h : k < c.length) (hx : (lensF d c 0)[k]? = some 0) : lensK d c k = lensK d c (k + 1) := by
  rw [← lensK_step d c h 0 hx]
  unfold lensK
  have hl : ((lensF d c 0).take k).length = k := by simp [lensF_len]; omega
  rw [List.set_append_right _ _ (by omega), hl, Nat.sub_self]
  have e : c.length - k = (c.length - (k + 1)) + 1 := by omega
  rw [e, List.replicate_succ, List.set_cons_zero]
theorem zvs_at (l : List Int) {k : Nat} (h : k < l.length) : (zvs l)[k]? = some (.int .i64 (l.getD k 0)) := by
  simp [zvs, List.getD_eq_getElem?_getD, h]
/-- What a row of lens is. -/
def LensV (B : Nat) (out : List Int) (v : Value) (w : World) : Prop := ∃ g n, v = .slice (some ⟨g, 0, none⟩) n n ∧ n = out.length ∧ B ≤ g ∧ Blk w g 3 (zvs out)
section
variable {w : World} {A : Option Addr} {n m : Nat} {c : List Int}
/-- When the depths are there. -/
def LensStart (w : World) (c : List Int) (n : Nat) (s3 s4 : Value) (wx : World) : Prop :=
  ∃ (g : Nat) (f : For), s3 = .slice (some ⟨g, 0, none⟩) n n ∧ w.heap.size ≤ g ∧ Blk wx g 3 (zvs (List.replicate n 0)) ∧ Huff (For.start (posL c).length (wtL c)) f ∧ (posL c).length ≤ f.N ∧ f.N ≤ 8192 ∧ (∀ i, i < f.N → f.d i ≤ 8192) ∧ LeftAt wx g f.d f.N 0 s4 ∧ Below w.heap.size w wx
theorem left_start {w : World} {B : Nat} {g : Nat} {f : For} {v : Value} (ho : w.ownsRow B 3 1 v f.N (plv (depL f.d f.N 0))) (hne : ∀ b, v.ownBlock = some b → b ≠ g) : LeftAt w g f.d f.N 0 v := by
  obtain ⟨A, c, rfl, hnc, hcm, hG⟩ := own_form ho
  refine ⟨A, f.N, c, rfl, rfl, hnc, fun j hj => ?_⟩
  rcases hG with e | ⟨b, rfl, h1, h2⟩
  · omega
  · refine ⟨b, 0, rfl, hne b rfl, h2, ?_⟩
    have := own_at ho (plv_get (depL f.d f.N 0) j (by rw [depL_len]; exact hj))
    rw [depL_get _ _ hj, if_pos (Nat.zero_le _)] at this
    simpa using this
theorem LeftAt.set {w : World} {g N r i : Nat} {d : Nat → Nat} {v u : Value} (h : LeftAt w g d N r v) : LeftAt (w.setCell ⟨g, i, none⟩ u) g d N r v := by
  obtain ⟨A, n, c, h1, h2, h3, h4⟩ := h
  refine ⟨A, n, c, h1, h2, h3, fun j hj => ?_⟩
  obtain ⟨b, off, e1, e2, e3, e4⟩ := h4 j hj
  exact ⟨b, off, e1, e2, by simpa [World.setCell] using e3, by rw [World.cell?_setCell_other _ _ _ _ (by intro e; injection e with e _; exact e2 e.symm)]; exact e4⟩
theorem lens_start1 {W w1 : World} {v : Value} (hW : Below w.heap.size w W) (hg : W.heap[w.heap.size]? = some (.cells (plv (List.replicate n 0)).toArray 3 (0, 0))) (hd : DepsV W.heap.size c v w1) (hb : Below W.heap.size W w1) :
    LensStart w c n (.slice (some ⟨w.heap.size, 0, none⟩) n n) v w1 := by
  obtain ⟨f, h1, h2, h3, h4, h5⟩ := hd
  have hlt : w.heap.size < W.heap.size := (Array.getElem?_eq_some_iff.1 hg).1
  have hg2 : Blk W w.heap.size 3 (zvs (List.replicate n 0)) := by
    unfold Blk; rw [hg]; simp [plv]
  exact ⟨w.heap.size, f, rfl, Nat.le_refl _, hg2.grow hb, h1, h2, h3, h4, left_start h5 (fun b hb2 => by have := own_block h5 b hb2; omega), hW.trans (hb.mono (Nat.le_of_lt hlt))⟩
theorem lens_start2 {W w1 : World} {v : Value} (hW : Below w.heap.size w W) (hs : W.heap.size = w.heap.size) (hd : DepsV W.heap.size c v w1) (hb : Below W.heap.size W w1) :
    LensStart w c n (.slice (some ⟨w1.heap.size, 0, none⟩) n n) v (w1.alloc (.cells (plv (List.replicate n 0)).toArray 3)) := by
  obtain ⟨f, h1, h2, h3, h4, h5⟩ := hd
  have hsz := hb.size
  refine ⟨w1.heap.size, f, rfl, by omega, ?_, h1, h2, h3, h4, left_start (h5.alloc _) (fun b hb2 => by have := (h5.lt b hb2).2; omega), ((hW.trans (by rw [← hs]; exact hb)).alloc (by omega) _)⟩
  have := heap_alloc_new w1 (.cells (plv (List.replicate n 0)).toArray 3)
  unfold Blk
  rw [this]
  simp [plv]
set_option maxHeartbeats 2000000 in
set_option maxRecDepth 100000 in
theorem lens_lensOf (hr : Rd w w.heap.size A (zvs c)) (hn : c.length = n) (hn1 : n ≤ 4096) (hc : ∀ x ∈ c, 0 ≤ x ∧ x ≤ 1099511627776) (hsum : c.sum ≤ 9007199254740992) :
    Calls Tryz.prog 154 #[.slice A n m] w fun e w' => ∃ v out, e = .returned v ∧ DeepR c out ∧ LensV w.heap.size out v w' ∧ Below w.heap.size w w' := by
  have C := Lib.hid (fun W (hb : Below w.heap.size w W) => lens_depths (m := m) (w := W) ((hr.below hb).more hb.size) hn hn1 hc hsum)
  have hmk := fun W => make_eqI n (by omega) W
  have HR := Lib.hid hr
  have HC := Lib.hid hn
  have HX := Lib.hid hc
  clear hr hn hc hsum
  go_enter Tryz.func154, Tryz.ntmps154
  go_upto_region 1 with fail
  go_cut [3, 4] (fun s3 s4 wx => LensStart w c n s3 s4 wx)
  case first =>
    go_region_with (go_at_call 198; refine (C.out _ (by first | exact Below.refl _ _ | exact (Below.refl _ _).drew | exact (Below.refl _ _).drew.alloc (Nat.le_refl _) _)).mono ?_; rintro _ w1 ⟨v1, rfl, hd1, hb1⟩; have HD1 := Lib.hid hd1; have HB1 := Lib.hid hb1; clear hd1 hb1)
    all_goals (go_wp2_with fail)
    all_goals go_meet
    · exact lens_start1 (W := (w.drew.alloc (.cells (plv (List.replicate n 0)).toArray 3))) ((Below.refl _ _).drew.alloc (Nat.le_refl _) _) (heap_alloc_new w.drew _) HD1.out HB1.out
    · exact lens_start2 (W := w.drew) (Below.refl _ _).drew rfl HD1.out HB1.out
  obtain ⟨g, f, rfl, hg, hblk, hhuff, hLN, hN8, hd8, hleft, hb⟩ := hcut
  have HB1 := Lib.hid hb
  have HBL := Lib.hid hblk
  have HLF := Lib.hid hleft
  have HH := Lib.hid (And.intro hhuff (And.intro hLN (And.intro hN8 hd8)))
  clear hb hblk hleft hhuff hLN hN8 hd8 C hmk
  go_wp2
  go_loopw [4, 14] (fun s4 i wr => ∃ k : Nat, k ≤ n ∧ i = .int .i64 (k : Int) ∧ Blk wr g 3 (zvs (lensK f.d c k)) ∧ LeftAt wr g f.d f.N (rankL c k) s4 ∧ Below w.heap.size w wr) (fun _ i _ => n - (intOf i).toNat)
  case atStart => exact ⟨0, Nat.zero_le _, rfl, by rw [lensK_zero, HC.out]; exact HBL.out, by simpa [rankL, posL] using HLF.out, HB1.out⟩
  case round =>
    clear HBL HLF HB1
    obtain ⟨k, hk, rfl, hblk, hleft, hb⟩ := hrel
    obtain ⟨A4, n4, c4, rfl, hn4, hnc4, hcell4⟩ := id hleft
    have HBL := Lib.hid hblk
    have HLF := Lib.hid hleft
    have HB := Lib.hid hb
    by_cases hlt : k < n
    · have hkc : k < c.length := by have := HC.out; omega
      obtain ⟨b, off, rfl, -, hcell⟩ := cell_of_rd (HR.out.below hb) hkc
      have hki : (k : Int) < (n : Int) := by omega
      have hx := HX.out _ (List.getElem_mem hkc)
      have hget := lensF_get f.d c 0 k hkc
      rw [Nat.zero_add] at hget
      by_cases h0 : 0 < c[k]
      · have hrl := rankL_lt c hkc h0
        have hrs := rankL_succ c k hkc
        rw [if_pos h0] at hget hrs
        have hn4p : 0 < n4 := by have := HH.out.2.1; omega
        obtain ⟨b4, o4, rfl, hb4g, hb4s, hc4⟩ := hcell4 0 hn4p
        have hd8 := HH.out.2.2.2 (rankL c k) (by have := HH.out.2.1; omega)
        rw [Nat.add_zero, Nat.add_zero] at hc4
        have hck := hblk.cell k
        rw [zvs_at _ (by rw [lensK_len _ _ (by omega)]; exact hkc)] at hck
        have hfk := hblk.frozen k
        have hgs := hblk.lt
        have hset := hblk.set_ k (.int .i64 ((max (f.d (rankL c k)) 1 : Nat) : Int))
        rw [zvs_set, lensK_step f.d c hkc _ hget] at hset
        have HSET := Lib.hid hset
        have hle : LeftAt (wr.setCell ⟨g, k, none⟩ (.int .i64 ((max (f.d (rankL c k)) 1 : Nat) : Int))) g f.d f.N (rankL c k) (.slice (some ⟨b4, o4, none⟩) n4 c4) := hleft.set
        obtain ⟨A5, n5, c5, e5, -, -, hcell5⟩ := hle
        injection e5 with e51 e52 e53
        subst e51 e52 e53
        have HC5 := Lib.hid hcell5
        have HB5 := Lib.hid (hb.setCell (p := ⟨g, k, none⟩) hg (.int .i64 ((max (f.d (rankL c k)) 1 : Nat) : Int)))
        obtain ⟨D, hD⟩ : ∃ D, D = f.d (rankL c k) := ⟨_, rfl⟩
        rw [← hD] at hc4 hd8 HSET HC5 HB5
        have hmax : max (D : Int) 1 = ((max D 1 : Nat) : Int) := by omega
        obtain ⟨M, hM⟩ : ∃ M, M = max D 1 := ⟨_, rfl⟩
        rw [← hM] at hmax HSET HC5 HB5
        obtain ⟨x, hxx⟩ : ∃ x, x = c[k]'hkc := ⟨_, rfl⟩
        rw [← hxx] at hcell h0
        obtain ⟨y, hy⟩ : ∃ y, y = (lensK f.d c k).getD k 0 := ⟨_, rfl⟩
        rw [← hy] at hck
        have HRS := Lib.hid (And.intro hrs hn4)
        clear hblk hleft hb hget hrl hrs hxx hx hy hset hcell4 hcell5 hD hM HBL HLF HB hn4
        go_wp2
        refine ⟨⟨k + 1, by omega, by go_num, HSET.out, ⟨_, n4 - 1, c4 - 1, rfl, by have := HRS.out; omega, by omega, fun j hj => ?_⟩, HB5.out⟩, by simp [intOf]; omega⟩
        obtain ⟨b, off, e1, e2, e3, e4⟩ := HC5.out (j + 1) (by omega)
        injection e1 with e1
        injection e1 with e5 e6
        subst e5 e6
        refine ⟨b4, o4 + 1, if_neg (by omega), e2, e3, ?_⟩
        rw [HRS.out.1, show o4 + 1 + j = o4 + (j + 1) by omega, show rankL c k + 1 + j = rankL c k + (j + 1) by omega]
        exact e4
      · have hrs := rankL_skip hkc h0
        rw [if_neg h0] at hget
        have HEND := Lib.hid (And.intro (show Blk wr g 3 (zvs (lensK f.d c (k + 1))) by rw [← lensK_skip f.d c hkc hget]; exact hblk) (show LeftAt wr g f.d f.N (rankL c (k + 1)) (.slice A4 n4 c4) by rw [hrs]; exact hleft))
        obtain ⟨x, hxx⟩ : ∃ x, x = c[k]'hkc := ⟨_, rfl⟩
        rw [← hxx] at hcell h0
        clear hblk hleft hb hget hrs hxx hx hcell4 HBL HLF hn4
        go_wp2
        go_roundw
        case rel => exact ⟨k + 1, by omega, by go_num, HEND.out.1, HEND.out.2, HB.out⟩
        case measure => simp [intOf]; omega
    · obtain rfl : k = n := by omega
      have hkl : c.length = k := HC.out
      rw [← hkl, lensK_all] at hblk
      have HEND := Lib.hid (show LensV w.heap.size (lensF f.d c 0) (.slice (some ⟨g, 0, none⟩) k k) wr from ⟨g, k, rfl, by rw [lensF_len, hkl], hg, hblk⟩)
      clear hblk hleft hb hcell4 hkl hn4 HBL HLF
      go_wp2
      go_ret
      exact ⟨_, _, rfl, ⟨f, HH.out.1, rfl⟩, HEND.out, HB.out⟩
end
end Go.Proofs.YtflcmmeoppdhdaaGreat
namespace Go.Proofs.YtflcmmeoppdhdaaGreat
open Go.RowKit Go.Sort Go.Shelf

set_option maxRecDepth 100000 in
theorem lensWrong_any (x : Int) (w : World) : Calls Tryz.prog 153 #[.int .i64 x] w fun e w' => e = .returned (.bool (nBad x)) ∧ w' = w := by
  unfold nBad
  go_enter Tryz.func153, Tryz.ntmps153
  by_cases h : x < 0
  · rw [decide_eq_true h, Bool.true_or]
    go_wp2
    go_ret
    exact ⟨rfl, rfl⟩
  · rw [decide_eq_false h, Bool.false_or]
    go_wp2
    go_ret
    exact ⟨rfl, rfl⟩
def longB (x : Int) : Bool := decide (15 < x)
set_option maxRecDepth 100000 in
theorem lensLong_any (x : Int) (w : World) : Calls Tryz.prog 155 #[.int .i64 x] w fun e w' => e = .returned (.bool (longB x)) ∧ w' = w := by
  unfold longB
  go_enter Tryz.func155, Tryz.ntmps155
  go_wp2
  go_ret
  exact ⟨rfl, rfl⟩
theorem short_iff (o : List Int) : o.any longB = false ↔ Short o := by
  unfold Short
  rw [List.any_eq_false]
  constructor
  · intro h x hx
    have := h x hx
    simp [longB] at this
    exact this
  · intro h x hx
    have := h x hx
    simp [longB]
    omega
/-- Counts that may be. -/
def Good (c : List Int) : Prop := ∀ x ∈ c, 0 ≤ x ∧ x ≤ 1099511627776
theorem good_half {c : List Int} (h : Good c) : Good (c.map halfI) := fun x hx => by
  obtain ⟨y, hy, rfl⟩ := List.mem_map.1 hx
  have := h y hy
  have := half_le this.1
  omega
theorem good_bad {c : List Int} : c.any nBad = false ↔ Good c := by
  unfold Good
  rw [List.any_eq_false]
  constructor
  · intro h x hx
    have := h x hx
    simp [nBad] at this
    omega
  · intro h x hx
    have := h x hx
    simp [nBad]
    omega
theorem good_sum {c : List Int} (h : Good c) : 0 ≤ c.sum ∧ c.sum ≤ 1099511627776 * c.length := by
  induction c with
  | nil => simp
  | cons x c ih =>
    have h1 := ih fun y hy => h y (List.mem_cons_of_mem _ hy)
    have h2 := h x List.mem_cons_self
    rw [List.sum_cons, List.length_cons]
    omega
theorem LensV.rd {B : Nat} {o : List Int} {v : Value} {w : World} (h : LensV B o v w) : ∃ A n, v = .slice A n n ∧ o.length = n ∧ Rd w w.heap.size A (zvs o) := by
  obtain ⟨g, n, rfl, hn, -, hb⟩ := h
  exact ⟨_, n, rfl, hn.symm, Rd.of_blk hb⟩
theorem LensV.more {B B' : Nat} {o : List Int} {v : Value} {w : World} (h : LensV B o v w) (hB : B' ≤ B) : LensV B' o v w := by
  obtain ⟨g, n, rfl, hn, h1, h2⟩ := h
  exact ⟨g, n, rfl, hn, by omega, h2⟩
/-- The halves of the first k. -/
def halfK (c : List Int) (k : Nat) : List Int := (c.take k).map halfI ++ List.replicate (c.length - k) 0
theorem halfK_zero (c : List Int) : halfK c 0 = List.replicate c.length 0 := by simp [halfK]
theorem halfK_all (c : List Int) : halfK c c.length = c.map halfI := by simp [halfK]
theorem halfK_len (c : List Int) {k : Nat} (h : k ≤ c.length) : (halfK c k).length = c.length := by simp [halfK]; omega
theorem halfK_set (c : List Int) {k : Nat} (h : k < c.length) : (halfK c k).set k (halfI c[k]) = halfK c (k + 1) := by
  unfold halfK
  have hl : ((c.take k).map halfI).length = k := by simp; omega
  rw [List.set_append_right _ _ (by omega), hl, Nat.sub_self, List.take_add_one, List.getElem?_eq_getElem h]
  have e : c.length - k = (c.length - (k + 1)) + 1 := by omega
  rw [e, List.replicate_succ, List.set_cons_zero, List.map_append, List.append_assoc]
  rfl
section
variable {w : World} {A : Option Addr} {n m : Nat} {c : List Int}
set_option maxHeartbeats 1000000 in
set_option maxRecDepth 100000 in
theorem lens_halves (hr : Rd w w.heap.size A (zvs c)) (hn : c.length = n) (hn1 : n ≤ 4096) (hc : Good c) :
    Calls Tryz.prog 156 #[.slice A n m] w fun e w' => ∃ v, e = .returned v ∧ LensV w.heap.size (c.map halfI) v w' ∧ Below w.heap.size w w' := by
  have hmk := fun W => make_eqI n (by omega) W
  have HR := Lib.hid hr
  have HC := Lib.hid hn
  have HX := Lib.hid hc
  clear hr hn hc
  go_enter Tryz.func156, Tryz.ntmps156
  go_wp2
  go_loopw [11] (fun i wr => ∃ k : Nat, k ≤ n ∧ i = .int .i64 (k : Int) ∧ Blk wr w.heap.size 3 (zvs (halfK c k)) ∧ Below w.heap.size w wr) (fun i _ => n - (intOf i).toNat)
  case atStart => exact ⟨0, Nat.zero_le _, rfl, by
    have := heap_alloc_new w (.cells (plv (List.replicate n 0)).toArray 3)
    unfold Blk
    rw [this, halfK_zero, HC.out]
    simp [plv], (Below.refl _ _).alloc (Nat.le_refl _) _⟩
  case round =>
    clear hmk
    obtain ⟨k, hk, rfl, hblk, hb⟩ := hrel
    have HBL := Lib.hid hblk
    have HB := Lib.hid hb
    by_cases hlt : k < n
    · have hkc : k < c.length := by have := HC.out; omega
      obtain ⟨b, off, rfl, -, hcell⟩ := cell_of_rd (HR.out.below hb) hkc
      have hx := HX.out _ (List.getElem_mem hkc)
      have hki : (k : Int) < (n : Int) := by omega
      have hset := hblk.set_ k (.int .i64 (halfI c[k]))
      rw [zvs_set, halfK_set c hkc] at hset
      have hck := hblk.cell k
      rw [zvs_at _ (by rw [halfK_len _ (by omega)]; exact hkc)] at hck
      have hfk := hblk.frozen k
      have hgs := hblk.lt
      have HB5 := Lib.hid (hb.setCell (p := ⟨w.heap.size, k, none⟩) (Nat.le_refl _) (.int .i64 (halfI c[k])))
      have e1 : (c[k] + 1).tdiv 2 = halfI c[k] := by unfold halfI; rw [Int.tdiv_eq_ediv_of_nonneg (by omega)]
      obtain ⟨y, hy⟩ : ∃ y, y = (halfK c k).getD k 0 := ⟨_, rfl⟩
      rw [← hy] at hck
      obtain ⟨h, hh⟩ : ∃ h, h = halfI c[k] := ⟨_, rfl⟩
      have hh2 := half_le hx.1
      rw [← hh] at hset HB5 e1 hh2
      obtain ⟨x, hxx⟩ : ∃ x, x = c[k]'hkc := ⟨_, rfl⟩
      rw [← hxx] at hcell hx e1 hh2
      have HS := Lib.hid hset
      clear hblk hb hset hy hh hxx HBL HB
      go_wp2
      go_roundw
      case rel => exact ⟨k + 1, by omega, by go_num, HS.out, HB5.out⟩
      case measure => simp [intOf]; omega
    · obtain rfl : k = n := by omega
      have hkl : c.length = k := HC.out
      rw [← hkl, halfK_all] at hblk
      have HEND := Lib.hid (show LensV w.heap.size (c.map halfI) (.slice (some ⟨w.heap.size, 0, none⟩) k k) wr from ⟨w.heap.size, k, rfl, by simp [hkl], Nat.le_refl _, hblk⟩)
      clear hblk hb hkl HBL
      go_wp2
      go_ret
      exact ⟨_, rfl, HEND.out, HB.out⟩
end
end Go.Proofs.YtflcmmeoppdhdaaGreat
namespace Go.Proofs.YtflcmmeoppdhdaaGreat
open Go.RowKit Go.Sort Go.Shelf

section
variable {w : World} {A : Option Addr} {n m : Nat} {l : List Int}
/-- Numbers as they are, of either sign, those below 0 as 0. -/
def natL (l : List Int) : List Nat := l.map Int.toNat
theorem natL_len (l : List Int) : (natL l).length = l.length := List.length_map ..
theorem natL_get (l : List Int) {i : Nat} (h : i < l.length) : (natL l).getD i 0 = (l[i]).toNat := by unfold natL; simp [List.getD_eq_getElem?_getD, h]
theorem zvs_getC (l : List Int) {k : Nat} {x : Int} (h : l[k]? = some x) : (zvs l)[k]? = some (.int .i64 x) := by rw [zvs_get, h]; rfl
end
end Go.Proofs.YtflcmmeoppdhdaaGreat
namespace Go.Proofs.YtflcmmeoppdhdaaGreat
open Go.Shelf Go.Proofs
def sortI_ren : Go.Shelf.Ren := ⟨fun | 6 => 199 | 15 => 226 | 14 => 225 | 28 => 243 | 29 => 244 | 20 => 235 | 21 => 236 | 22 => 237 | 23 => 238 | 24 => 239 | 25 => 240 | 26 => 241 | 27 => 242 | 46 => 247 | 47 => 248 | 48 => 249 | 49 => 250 | 50 => 251 | 57 => 254 | n => n, fun | 22 => 53 | 24 => 3 | 25 => 84 | 3 => 3 | 39 => 209 | 0 => 0 | 53 => 116 | 55 => 88 | 4 => 4 | 46 => 288 | 45 => 287 | 50 => 30 | 5 => 5 | 9 => 9 | 66 => 295 | 70 => 299 | 76 => 307 | 77 => 58 | n => n, fun | n => n⟩
theorem sortI : SlLaysF.n6 Tryz.prog sortI_ren := {
  mixed := by kernel_rfl
  f6 := ⟨Tryz.f199.name, by decide, Tryz.func199.trans (congrArg some (by kernel_rfl))⟩
  f14 := ⟨Tryz.f225.name, by decide, Tryz.func225.trans (congrArg some (by kernel_rfl))⟩
  f15 := Tryz.func226.trans (congrArg some (by kernel_rfl))
  f20 := ⟨Tryz.f235.name, by decide, Tryz.func235.trans (congrArg some (by kernel_rfl))⟩
  f21 := ⟨Tryz.f236.name, by decide, Tryz.func236.trans (congrArg some (by kernel_rfl))⟩
  f22 := ⟨Tryz.f237.name, by decide, Tryz.func237.trans (congrArg some (by kernel_rfl))⟩
  f23 := ⟨Tryz.f238.name, by decide, Tryz.func238.trans (congrArg some (by kernel_rfl))⟩
  f24 := ⟨Tryz.f239.name, by decide, Tryz.func239.trans (congrArg some (by kernel_rfl))⟩
  f25 := ⟨Tryz.f240.name, by decide, Tryz.func240.trans (congrArg some (by kernel_rfl))⟩
  f26 := ⟨Tryz.f241.name, by decide, Tryz.func241.trans (congrArg some (by kernel_rfl))⟩
  f27 := ⟨Tryz.f242.name, by decide, Tryz.func242.trans (congrArg some (by kernel_rfl))⟩
  f28 := Tryz.func243.trans (congrArg some (by kernel_rfl))
  f29 := Tryz.func244.trans (congrArg some (by kernel_rfl))
  f46 := ⟨Tryz.f247.name, by decide, Tryz.func247.trans (congrArg some (by kernel_rfl))⟩
  f47 := Tryz.func248.trans (congrArg some (by kernel_rfl))
  f48 := Tryz.func249.trans (congrArg some (by kernel_rfl))
  f49 := ⟨Tryz.f250.name, by decide, Tryz.func250.trans (congrArg some (by kernel_rfl))⟩
  f50 := ⟨Tryz.f251.name, by decide, Tryz.func251.trans (congrArg some (by kernel_rfl))⟩
  f57 := ⟨Tryz.f254.name, by decide, Tryz.func254.trans (congrArg some (by kernel_rfl))⟩
  t0 := Tryz.underlying0
  a0 := Tryz.isAgg0
  z0 := Tryz.sizeOf0
  v0 := Tryz.zeroValue0
  t3 := Tryz.underlying3
  a3 := Tryz.isAgg3
  z3 := Tryz.sizeOf3
  v3 := Tryz.zeroValue3
  t4 := Tryz.underlying4
  a4 := Tryz.isAgg4
  z4 := Tryz.sizeOf4
  v4 := Tryz.zeroValue4
  t5 := Tryz.underlying5
  a5 := Tryz.isAgg5
  z5 := Tryz.sizeOf5
  v5 := Tryz.zeroValue5
  t9 := Tryz.underlying9
  a9 := Tryz.isAgg9
  z9 := Tryz.sizeOf9
  v9 := Tryz.zeroValue9
  t22 := Tryz.underlying53
  a22 := Tryz.isAgg53
  z22 := Tryz.sizeOf53
  v22 := Tryz.zeroValue53
  a24 := Tryz.isAgg3
  z24 := Tryz.sizeOf3
  t25 := Tryz.underlying84
  a25 := Tryz.isAgg84
  z25 := Tryz.sizeOf84
  v25 := Tryz.zeroValue84
  t39 := Tryz.underlying209
  a39 := Tryz.isAgg209
  z39 := Tryz.sizeOf209
  v39 := Tryz.zeroValue209
  t45 := Tryz.underlying287
  a45 := Tryz.isAgg287
  z45 := Tryz.sizeOf287
  v45 := Tryz.zeroValue287
  t46 := Tryz.underlying288
  a46 := Tryz.isAgg288
  z46 := Tryz.sizeOf288
  v46 := Tryz.zeroValue288
  t50 := Tryz.underlying30
  a50 := Tryz.isAgg30
  z50 := Tryz.sizeOf30
  v50 := Tryz.zeroValue30
  t53 := Tryz.underlying116
  a53 := Tryz.isAgg116
  z53 := Tryz.sizeOf116
  v53 := Tryz.zeroValue116
  t55 := Tryz.underlying88
  a55 := Tryz.isAgg88
  z55 := Tryz.sizeOf88
  v55 := Tryz.zeroValue88
  t66 := Tryz.underlying295
  a66 := Tryz.isAgg295
  z66 := Tryz.sizeOf295
  v66 := Tryz.zeroValue295
  t70 := Tryz.underlying299
  a70 := Tryz.isAgg299
  z70 := Tryz.sizeOf299
  v70 := Tryz.zeroValue299
  t76 := Tryz.underlying307
  a76 := Tryz.isAgg307
  z76 := Tryz.sizeOf307
  v76 := Tryz.zeroValue307
  t77 := Tryz.underlying58
  a77 := Tryz.isAgg58
  z77 := Tryz.sizeOf58
  v77 := Tryz.zeroValue58 }
end Go.Proofs.YtflcmmeoppdhdaaGreat
