/- Contracts of layer 15: give, Make, Of, Letter, Bits. -/
import Derived.Test.YtfdgnhfppginiaaSlotFn
import Derived.Test.YtfdgnhfppginiaaNormParts
namespace Go.Proofs.Ytfdgnhfppginiaa
open Go.RowKit Go.Sort Go.Shelf

/-- Whose each number is, while letter k has had j of its numbers. -/
def hRow (c : List Int) (k j T : Nat) : List Nat := sRow c k ++ List.replicate j k ++ List.replicate (T - (sRow c k).length - j) 0
theorem hRow_len {c : List Int} {k j T : Nat} (h : (sRow c k).length + j ≤ T) : (hRow c k j T).length = T := by simp [hRow]; omega
theorem hRow_zero (c : List Int) (T : Nat) : hRow c 0 0 T = List.replicate T 0 := by simp [hRow, sRow]
theorem hRow_set {c : List Int} {k j T : Nat} (h : (sRow c k).length + j < T) : (hRow c k j T).set ((sRow c k).length + j) k = hRow c k (j + 1) T := by
  unfold hRow
  have e : T - (sRow c k).length - j = (T - (sRow c k).length - (j + 1)) + 1 := by omega
  have hl : (sRow c k ++ List.replicate j k).length = (sRow c k).length + j := by simp
  rw [List.set_append_right _ _ (by rw [hl]; exact Nat.le_refl _), hl, Nat.sub_self, e, List.replicate_succ, List.set_cons_zero, List.replicate_succ']
  simp
theorem hRow_next (c : List Int) (k T : Nat) : hRow c k (c.getD k 0).toNat T = hRow c (k + 1) 0 T := by
  unfold hRow
  simp only [sRow, List.length_append, List.length_replicate, List.replicate_zero, List.append_nil, Nat.sub_zero]
  congr 2
  omega
theorem hRow_all {c : List Int} {k T : Nat} (h : (sRow c k).length = T) : hRow c k 0 T = sRow c k := by simp [hRow, h]
/-- Where the first k letters begin, and the next one. -/
def fRow2 (c : List Int) (k : Nat) : List Int := (List.range (c.length + 1)).map fun j => if j ≤ k then fPre c j else 0
theorem fRow2_len (c : List Int) (k : Nat) : (fRow2 c k).length = c.length + 1 := by simp [fRow2]
theorem fRow2_zero (c : List Int) : fRow2 c 0 = List.replicate (c.length + 1) 0 := by
  refine List.eq_replicate_iff.2 ⟨fRow2_len c 0, fun x hx => ?_⟩
  obtain ⟨j, -, rfl⟩ := List.mem_map.1 hx
  by_cases h : j ≤ 0
  · rw [if_pos h, show j = 0 by omega, fPre_zero]
  · rw [if_neg h]
theorem fRow2_get (c : List Int) (k j : Nat) (h : j < c.length + 1) : (fRow2 c k)[j]? = some (if j ≤ k then fPre c j else 0) := by
  unfold fRow2
  rw [List.getElem?_map, List.getElem?_range h]
  rfl
theorem fRow2_set (c : List Int) (k : Nat) : (fRow2 c k).set (k + 1) (fPre c (k + 1)) = fRow2 c (k + 1) := by
  refine List.ext_getElem? fun j => ?_
  by_cases hj : j < c.length + 1
  · rw [fRow2_get c (k + 1) j hj]
    by_cases e : k + 1 = j
    · subst e
      rw [List.getElem?_set_self (by rw [fRow2_len]; exact hj), if_pos (Nat.le_refl _)]
    · rw [List.getElem?_set_ne e, fRow2_get c k j hj]
      by_cases h1 : j ≤ k
      · rw [if_pos h1, if_pos (by omega)]
      · rw [if_neg h1, if_neg (by omega)]
  · rw [List.getElem?_eq_none (by rw [List.length_set, fRow2_len]; omega), List.getElem?_eq_none (by rw [fRow2_len]; omega)]

/-- At P lie numbers that are being shared out: letters below k have theirs. -/
structure Shares (w : World) (P F H : Nat) (c : List Int) (k b T : Nat) : Prop where
  pb : Blk w P 103 [.slice (some ⟨F, 0, none⟩) (c.length + 1 : Nat) (c.length + 1), .slice (some ⟨H, 0, none⟩) T T, .int .i64 (b : Int)]
  fb : Blk w F 3 (zvs (fRow2 c k))
  hb : Blk w H 30 (hvs (hRow c k 0 T))
theorem blk_types {w : World} {g g' : Nat} {t t' : TypeId} {cs cs' : List Value} (h : Blk w g t cs) (h' : Blk w g' t' cs') (hne : t ≠ t') : g ≠ g' := fun e => by
  subst e
  exact h.ofType.ne hne h'.ofType
theorem Shares.grow {w w' : World} {P F H : Nat} {c : List Int} {k b T : Nat} (h : Shares w P F H c k b T) (hb : Below w.heap.size w w') : Shares w' P F H c k b T := ⟨h.pb.grow hb, h.fb.grow hb, h.hb.grow hb⟩
theorem Shares.same {w w' : World} {P F H : Nat} {c : List Int} {k b T : Nat} (h : Shares w P F H c k b T) (e : w'.heap = w.heap) : Shares w' P F H c k b T := ⟨h.pb.same e, h.fb.same e, h.hb.same e⟩

section
variable {w : World} {P F H b T : Nat} {c : List Int}
set_option maxRecDepth 100000 in
set_option maxHeartbeats 2000000 in
theorem slotGive_any (k : Nat) (h : Shares w P F H c k b T) (hc : ∀ x ∈ c, 0 ≤ x) (hs : c.sum = (T : Int)) (hT : T ≤ 65536) (hl : c.length ≤ 4096) (hk : k < c.length) :
    Calls Try.prog 71 #[.pointer (some ⟨P, 0, none⟩), .int .i64 (k : Int), .int .i64 (c[k]'hk)] w fun e w' => (∃ u, e = .returned u) ∧ Shares w' P F H c (k + 1) b T ∧ TurnsB F H w w' := by
  have hPF := blk_types h.pb h.fb (by decide)
  have hPH := blk_types h.pb h.hb (by decide)
  have hFH := blk_types h.fb h.hb (by decide)
  have hx0 := hc _ (List.getElem_mem hk)
  have hsl := sRow_len hc k (by omega)
  have hsn := fPre_succ c k hk
  have hle := fPre_le hc (k + 1)
  rw [hs] at hle
  have hnx := hRow_next c k T
  rw [show c.getD k 0 = c[k] by simp [List.getD_eq_getElem?_getD, hk]] at hnx
  obtain ⟨x, hx⟩ := Int.eq_ofNat_of_zero_le hx0
  rw [hx] at hsn hnx ⊢
  rw [Int.toNat_natCast] at hnx
  have HSET := Lib.hid (fun (j : Nat) (h : (sRow c k).length + j < T) => hRow_set h)
  have HLEN := Lib.hid (fun (j : Nat) (h : (sRow c k).length + j ≤ T) => hRow_len h)
  obtain ⟨p, hp⟩ : ∃ p, p = (sRow c k).length := ⟨_, rfl⟩
  rw [← hp] at hsl HSET HLEN
  rw [← hsl] at hsn
  have hpx : p + x ≤ T := by omega
  have hfs := fRow2_set c k
  rw [hsn] at hfs
  have HFS := Lib.hid hfs
  have HNX := Lib.hid hnx
  have HSH := Lib.hid h
  have c0 := h.pb.cell 0
  have c1 := h.pb.cell 1
  simp only [List.getElem?_cons_zero, List.getElem?_cons_succ] at c0 c1
  have f0 := h.fb.cell k
  rw [zvs_get, fRow2_get c k k (by omega), if_pos (Nat.le_refl _), ← hsl] at f0
  simp only [Option.map_some] at f0
  obtain ⟨n, hn⟩ : ∃ n, n = c.length := ⟨_, rfl⟩
  rw [← hn] at c0 hl
  have hkn : (k : Int) < (n : Int) + 1 := by omega
  have hkn2 : (k : Int) + 1 < (n : Int) + 1 := by omega
  have HN := Lib.hid hn
  clear h hfs hnx hsl hsn hle hx hx0 hp hs
  go_enter Try.func71, Try.ntmps71
  go_wp2
  clear c0 c1 f0
  go_loopw [16] (fun i wr => ∃ j : Nat, j ≤ x ∧ i = .int .i64 (j : Int) ∧ Blk wr H 30 (hvs (hRow c k j T)) ∧ TurnsB F H w wr ∧ (wr.heap[F]? = w.heap[F]?)) (fun i _ => x - (intOf i).toNat)
  case atStart => exact ⟨0, Nat.zero_le _, rfl, HSH.out.hb, TurnsB.refl _ _ _, rfl⟩
  case round =>
    obtain ⟨j, hj, rfl, hblk, hu, hF⟩ := hrel
    have HU := Lib.hid hu
    have HF := Lib.hid hF
    have hpb := HU.out.blk HSH.out.pb hPF hPH
    have c0 := hpb.cell 0
    have c1 := hpb.cell 1
    simp only [List.getElem?_cons_zero, List.getElem?_cons_succ] at c0 c1
    rw [← HN.out] at c0
    clear hu hF hpb
    by_cases hlt : j < x
    · have hlen := HLEN.out j (by omega)
      have hset := hblk.set_ (p + j) (.int .u16 (k : Int))
      rw [hvs_set, HSET.out j (by omega)] at hset
      have hgc := hblk.cell (p + j)
      have hgf := hblk.frozen (p + j)
      rw [hvs_get _ _ (by rw [hlen]; omega)] at hgc
      obtain ⟨y, hy⟩ : ∃ y, y = (hRow c k j T)[p + j]'(by rw [hlen]; omega) := ⟨_, rfl⟩
      rw [← hy] at hgc
      have HST := Lib.hid hset
      have HU2 := Lib.hid (HU.out.trans (TurnsB.set_ (p + j) (.int .u16 (k : Int))))
      have HF2 := Lib.hid (show (wr.setCell ⟨H, p + j, none⟩ (.int .u16 (k : Int))).heap[F]? = w.heap[F]? from (heap_setCell_other wr ⟨H, p + j, none⟩ F _ hFH).trans HF.out)
      have hji : (j : Int) < (x : Int) := by omega
      have hpj : (p : Int) + (j : Int) < (T : Int) := by omega
      clear hset hblk hlen hy
      go_wp2
      go_roundw
      case rel => exact ⟨j + 1, by omega, by go_num, HST.out, HU2.out, HF2.out⟩
      case measure => simp [intOf]; omega
    · obtain rfl : j = x := by omega
      rw [HNX.out] at hblk
      have hfb : Blk wr F 3 (zvs (fRow2 c k)) := HF.out.trans HSH.out.fb
      have hset := hfb.set_ (k + 1) (.int .i64 ((p : Int) + (j : Int)))
      rw [zvs_set, HFS.out] at hset
      have hgc := hfb.cell (k + 1)
      have hgf := hfb.frozen (k + 1)
      rw [zvs_get, fRow2_get c k (k + 1) (by have := HN.out; omega)] at hgc
      simp only [Option.map_some] at hgc
      have HRES := Lib.hid (show Shares (wr.setCell ⟨F, k + 1, none⟩ (.int .i64 ((p : Int) + (j : Int)))) P F H c (k + 1) b T from
        ⟨(HU.out.blk HSH.out.pb hPF hPH).setOther _ _ hPF, hset, hblk.setOther _ _ (fun e => hFH e.symm)⟩)
      have HU2 := Lib.hid (HU.out.trans (TurnsB.setT (k + 1) (.int .i64 ((p : Int) + (j : Int)))))
      clear hset hblk hfb
      go_wp2
      go_end0
      exact ⟨⟨_, rfl⟩, HRES.out, HU2.out⟩
end
end Go.Proofs.Ytfdgnhfppginiaa
