/- Layer 20: the program's depths, lens, halves. -/
import Derived.Test.YtgcegdjnemlcoaaLensTree
namespace Go.Proofs.Ytgcegdjnemlcoaa
open Go.RowKit Go.Sort Go.Shelf

/-- Depths from place k on, noughts ahead. -/
def depL (d : Nat → Nat) (N k : Nat) : List Nat := (List.range N).map fun j => if k ≤ j then d j else 0
theorem depL_len (d : Nat → Nat) (N k : Nat) : (depL d N k).length = N := by simp [depL]
theorem depL_get (d : Nat → Nat) {N : Nat} (k : Nat) {j : Nat} (h : j < N) : (depL d N k).getD j 0 = if k ≤ j then d j else 0 := by
  simp [depL, List.getD_eq_getElem?_getD, h]
theorem depL_start (d : Nat → Nat) {N k : Nat} (h : ∀ j, j < N → k ≤ j → d j = 0) : List.replicate N 0 = depL d N k := by
  apply List.ext_getElem (by simp [depL])
  intro i h1 h2
  simp only [List.length_replicate] at h1
  simp only [depL, List.getElem_replicate, List.getElem_map, List.getElem_range]
  split
  · exact (h i h1 (by assumption)).symm
  · rfl
theorem depL_set (d : Nat → Nat) (N k : Nat) : (depL d N (k + 1)).set k (d k) = depL d N k := by
  apply List.ext_getElem (by simp [depL])
  intro i h1 h2
  rw [List.getElem_set]
  simp only [depL, List.getElem_map, List.getElem_range]
  by_cases e : k = i
  · subst e; rw [if_pos rfl, if_pos (Nat.le_refl _)]
  · rw [if_neg e]
    by_cases h : k ≤ i
    · rw [if_pos (by omega), if_pos h]
    · rw [if_neg (by omega), if_neg h]
theorem TreeDone.small {c : List Int} {ab : List Nat} {g : For} (h : TreeDone c ab g) : ∀ n i, i < g.N → g.N - i ≤ n → g.d i ≤ g.N - 1 - i := by
  intro n
  induction n with
  | zero => intro i h1 h2; omega
  | succ n ih =>
    intro i h1 h2
    by_cases e : i = g.N - 1
    · subst e; rw [h.top (by omega)]; omega
    · obtain ⟨h3, h4, h5⟩ := h.low i (by omega)
      have := ih _ h4 (by omega)
      omega
/-- What depths tells. -/
def DepsV (B : Nat) (c : List Int) (v : Value) (w : World) : Prop :=
  ∃ g, Huff (For.start (posL c).length (wtL c)) g ∧ (posL c).length ≤ g.N ∧ g.N ≤ 8192 ∧ (∀ i, i < g.N → g.d i ≤ 8192) ∧ w.ownsRow B 3 1 v g.N (plv (depL g.d g.N 0))
section
variable {w : World} {A : Option Addr} {n m : Nat} {c : List Int}
set_option maxHeartbeats 2000000 in
set_option maxRecDepth 100000 in
theorem lens_depths (hr : Rd w w.heap.size A (zvs c)) (hn : c.length = n) (hn1 : n ≤ 4096) (hc : ∀ x ∈ c, 0 ≤ x ∧ x ≤ 1099511627776) (hsum : c.sum ≤ 9007199254740992) :
    Calls Try.prog 33 #[.slice A n m] w fun e w' => ∃ v, e = .returned v ∧ DepsV w.heap.size c v w' ∧ Below w.heap.size w w' := by
  have C := Lib.hid (lens_tree (m := m) hr hn hn1 hc hsum)
  have hL : (posL c).length ≤ 4096 := by have := rankL_le c c.length; rw [rankL_all] at this; omega
  have HL := Lib.hid hL
  clear hr hn hn1 hc hsum hL
  go_enter Try.func33, Try.ntmps33
  go_wp2_with fail
  refine C.out.mono ?_
  rintro _ w1 ⟨g, ab, v, rfl, ht, hown, hb⟩
  clear C
  obtain ⟨A1, c1, rfl, hnc, hcm, hG⟩ := own_form hown
  obtain ⟨N, hN⟩ : ∃ N, N = g.N := ⟨_, rfl⟩
  have hlen := ht.len
  rw [← hN] at hlen
  rw [hlen] at hown hnc hG ⊢
  have hN8 : N ≤ 8192 := by have := ht.few; have := HL.out; omega
  have hmk := fun W => make_eqI N (by omega) W
  have HT := Lib.hid (And.intro ht (And.intro hN hlen))
  have HOWN := Lib.hid hown
  have HB := Lib.hid hb
  have hbs := hb.size
  clear ht hown hb hN hlen
  go_wp2
  have hl0 : (plv (List.replicate N 0)).length = N := by simp [plv_length]
  have h1 := own_full w1 (base := w.heap.size) (e := 3) (xs := plv (List.replicate N 0)) hl0 (by simp only [maxLen]; omega) hbs
  have HOW1 := Lib.hid (HOWN.out.alloc (.cells (plv (List.replicate N 0)).toArray 3))
  have HB1 := Lib.hid (HB.out.alloc hbs (.cells (plv (List.replicate N 0)).toArray 3))
  have hGne : N = 0 ∨ ∃ a, A1 = some ⟨a, 0, none⟩ ∧ w.heap.size ≤ a ∧ a < w1.heap.size := by
    rcases hG with e | ⟨a, e1, e2, e3⟩
    · exact .inl e
    · exact .inr ⟨a, e1, e2, e3⟩
  obtain ⟨G, hGe⟩ : ∃ G, G = w1.heap.size := ⟨_, rfl⟩
  rw [← hGe] at h1 hGne ⊢
  have hGlt : G < (w1.alloc (.cells (plv (List.replicate N 0)).toArray 3)).heap.size := by simp; omega
  have hBG : w.heap.size ≤ G := by omega
  generalize w1.alloc (.cells (plv (List.replicate N 0)).toArray 3) = W1 at h1 HOW1 HB1 hGlt ⊢
  clear hmk hl0 HOWN HB hbs hGe hG
  have hst : N = 0 ∨ ∃ K, N = K + 1 ∧ W1.ownsRow w.heap.size 3 1 (.slice (some ⟨G, 0, none⟩) N N) N (plv (depL g.d N K)) := by
    by_cases e : N = 0
    · exact .inl e
    · refine .inr ⟨N - 1, by omega, ?_⟩
      rw [← depL_start g.d (fun j hj hk => by
        have := HT.out.1.top (by have := HT.out.2.1; omega)
        rw [← HT.out.2.1] at this
        rw [show j = N - 1 by omega]; exact this)]
      exact h1
  have HST := Lib.hid hst
  have H1 := Lib.hid h1
  clear hst h1
  by_cases hN0 : N = 0
  · subst hN0
    have HEND := Lib.hid (show DepsV w.heap.size c (.slice (some ⟨G, 0, none⟩) 0 0) W1 from ⟨g, HT.out.1.huff, HT.out.1.most, by have := HT.out.2.1; omega, fun i hi => by have := HT.out.2.1; omega, by rw [← HT.out.2.1]; exact H1.out⟩)
    clear HST HT HOW1 H1 hGne
    go_loopw [5] (fun v wr => v = .int .i64 (-2) ∧ wr = W1) (fun _ _ => 0)
    case atStart => exact ⟨rfl, rfl⟩
    case round =>
      obtain ⟨rfl, rfl⟩ := hrel
      go_wp2
      go_ret
      exact ⟨_, rfl, HEND.out, HB1.out⟩
  · obtain ⟨K, rfl⟩ : ∃ K, N = K + 1 := ⟨N - 1, by omega⟩
    obtain ⟨a, rfl, ha1, ha2⟩ : ∃ a, A1 = some ⟨a, 0, none⟩ ∧ w.heap.size ≤ a ∧ a < G := hGne.elim (fun e => absurd e hN0) id
    have hst2 : W1.ownsRow w.heap.size 3 1 (.slice (some ⟨G, 0, none⟩) (K + 1) (K + 1)) (K + 1) (plv (depL g.d (K + 1) K)) := by
      rcases HST.out with e | ⟨K', e, h⟩
      · omega
      · obtain rfl : K = K' := by omega
        exact h
    have HST2 := Lib.hid hst2
    clear hst2 HST H1 hGne hN0
    go_loopw [5] (fun v wr => ∃ k : Nat, k ≤ K ∧ v = .int .i64 ((k : Int) - 1) ∧ wr.ownsRow w.heap.size 3 1 (.slice (some ⟨G, 0, none⟩) (K + 1) (K + 1)) (K + 1) (plv (depL g.d (K + 1) k)) ∧ wr.ownsRow w.heap.size 3 1 (.slice (some ⟨a, 0, none⟩) (K + 1) c1) (K + 1) (plv ab) ∧ Below w.heap.size w wr) (fun v _ => (intOf v + 1).toNat)
    case atStart => exact ⟨K, Nat.le_refl _, by congr 1; omega, HST2.out, HOW1.out, HB1.out⟩
    case round =>
      clear HST2 HOW1 HB1
      obtain ⟨k, hk, rfl, ho, hoa, hb⟩ := hrel
      have HO := Lib.hid ho
      have HOA := Lib.hid hoa
      have HB := Lib.hid hb
      cases k with
      | zero =>
        have HEND := Lib.hid (show DepsV w.heap.size c (.slice (some ⟨G, 0, none⟩) (K + 1) (K + 1)) wr from ⟨g, HT.out.1.huff, HT.out.1.most, by have := HT.out.2.1; omega, fun i hi => by have := HT.out.1.small _ i hi (Nat.le_refl _); have := HT.out.2.1; omega, by rw [← HT.out.2.1]; exact ho⟩)
        clear ho hoa hb
        go_wp2
        go_ret
        exact ⟨_, rfl, HEND.out, HB.out⟩
      | succ k =>
        obtain ⟨q1, q2, q3⟩ := HT.out.1.low k (by have := HT.out.2.1; omega)
        have hkab : k < ab.length := by have := HT.out.2.2; omega
        obtain ⟨q, hq⟩ : ∃ q, q = ab.getD k 0 := ⟨_, rfl⟩
        have hcA := own_at hoa (plv_get ab k hkab)
        rw [← hq] at q1 q2 q3 hcA
        have hqN : q < K + 1 := by have := HT.out.2.1; omega
        have hcQ := own_at ho (plv_get (depL g.d (K + 1) (k + 1)) q (by rw [depL_len]; exact hqN))
        rw [depL_get _ _ hqN, if_pos (by omega)] at hcQ
        have hcK := own_at ho (plv_get (depL g.d (K + 1) (k + 1)) k (by rw [depL_len]; omega))
        have hfK := ho.frozenAt k
        have hdq := HT.out.1.small _ q q2 (Nat.le_refl _)
        obtain ⟨D, hD⟩ : ∃ D, D = g.d q := ⟨_, rfl⟩
        have hD8 : D ≤ 8192 := by have := HT.out.2.1; omega
        rw [← hD] at hcQ q3
        have hst := ho.stored k (.int .i64 ((D + 1 : Nat) : Int))
        rw [plv_set, ← q3, depL_set] at hst
        rw [q3] at hst
        have HS1 := Lib.hid hst.1
        have HS2 := Lib.hid (hoa.kept hst.2 (.inr (by show some a ≠ some G; intro e; injection e with e; omega)))
        have HB2 := Lib.hid (hb.setCell (p := ⟨G, k, none⟩) hBG (.int .i64 ((D + 1 : Nat) : Int)))
        have e1 : ((k + 1 : Nat) : Int) - 1 = (k : Int) := by omega
        have e2 : ((D + 1 : Nat) : Int) = (D : Int) + 1 := by omega
        rw [e1]
        simp only [e2] at HS1 HS2 HB2
        clear ho hoa hb hst hq hD q1 q2 q3 hdq e1 e2 HO HOA HB
        go_wp2
        go_roundw
        case rel => exact ⟨k, by omega, rfl, HS1.out, HS2.out, HB2.out⟩
        case measure => simp [intOf]
end
end Go.Proofs.Ytgcegdjnemlcoaa
