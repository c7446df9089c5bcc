/- slices.Reverse of bytes, over a row of one's own. -/
import Derived.Test.YtfdgnhfppginiaaInts
import Derived.Lib.OwnBridge
import Derived.Lib.SlicesMore
import Derived.Sort.WalkB12
import Derived.Deep.LoopGhost
import Derived.BigRegion
namespace Go.Proofs.Ytfdgnhfppginiaa
open Go.RowKit Go.Sort Go.Lib

abbrev encB : Int → Value := fun x => Value.int .u8 x
set_option maxHeartbeats 2000000 in
set_option maxRecDepth 100000 in
theorem rev_arr (blk cap : Nat) (d : Array Int) (w : World) (hH : Holds encB w blk 0 d) (hsz : d.size ≤ 1000000) :
    Calls Try.prog 74 #[.slice (some ⟨blk, 0, none⟩) d.size cap] w fun e w' => e = .returned (.tuple #[]) ∧ ∃ n, w' = putRow encB (Sort.ahead w n) blk 0 d.reverse := by
  go_enter Try.func74, Try.ntmps74
  go_wp2
  go_loopg [2, 3] d.size (fun k s2 s3 wr => ∃ (i jn : Nat) (jz : Int) (dk : Array Int) (n : Nat), s2 = .int .i64 i ∧ s3 = .int .i64 jz ∧ ((i : Int) < jz → jz = jn ∧ jn < d.size) ∧ (¬ (i : Int) < jz → ¬ i < jn) ∧ jn - i ≤ k ∧
    dk.size = d.size ∧ wr = putRow encB (Sort.ahead w n) blk 0 dk ∧ reverseLoop i jn dk = reverseLoop 0 (d.size - 1) d)
  case atStart => exact ⟨0, d.size - 1, (d.size : Int) - 1, d, 0, rfl, rfl, fun h => ⟨by omega, by omega⟩, fun h => by omega, by omega, rfl, (putRow_self encB w blk 0 d hH).symm, rfl⟩
  case round =>
    obtain ⟨i, jn, jz, dk, n, rfl, rfl, h1, h2, hk, hds, hwr, heq⟩ := hrel
    by_cases hlt : (i : Int) < jz
    · obtain ⟨rfl, hjn⟩ := h1 hlt
      have hij : i < jn := by omega
      have hHk : Holds encB wr blk 0 dk := by rw [hwr]; exact holds_putRow encB _ blk 0 d dk (holds_ahead encB w n blk 0 d hH) hds
      obtain ⟨ci, fi⟩ := hHk i (by omega)
      obtain ⟨cj, fj⟩ := hHk jn (by omega)
      rw [Nat.zero_add] at ci fi cj fj
      have hii : (i : Int) < (d.size : Int) := by omega
      have hjj : (jn : Int) < (d.size : Int) := by omega
      have A := Lib.hid hwr
      have HEQ := Lib.hid heq
      have HDS := Lib.hid hds
      have hne : i ≠ jn := by omega
      clear hwr hHk hH h1 h2 heq hds
      go_wp2
      go_region
      all_goals go_wp2
      all_goals go_roundg (jn - 1 - (i + 1))
      case measure => omega
      case rel =>
        have heq := HEQ.out
        rw [reverseLoop, if_pos hij] at heq
        have hsw := swap_world encB (blk := blk) (off := 0) (show i < dk.size by have := HDS.out; omega) (show jn < dk.size by have := HDS.out; omega) A.out (x := encB dk[jn]!) (y := encB dk[i]!) rfl rfl
        rw [Nat.zero_add, Nat.zero_add] at hsw
        exact ⟨i + 1, jn - 1, (jn : Int) - 1, swp dk i jn, n + 1, by simp, rfl, fun h => ⟨by omega, by omega⟩, fun h => by omega, Nat.le_refl _, by rw [size_swp]; exact HDS.out, hsw, heq⟩
    · have hnot := h2 hlt
      go_wp2
      refine bodyPost_end (results_none rfl _ _ _) rfl ?_
      refine ⟨rfl, n, ?_⟩
      rw [reverseLoop, if_neg hnot] at heq
      rw [← Lib.reverseLoop_reverse, ← heq]
theorem bvs_enc (l : List UInt8) : bvs l = (l.map fun b => (b.toNat : Int)).map encB := by simp [bvs, encB]
/-- Of a row of one's own. -/
theorem rev_own {w : World} {B cap : Nat} {A : Option Addr} {l : List UInt8} (h : w.ownsRow B 5 1 (.slice A l.length cap) l.length (bvs l)) (hl : l.length ≤ 1000000) (hne : l ≠ []) :
    Calls Try.prog 74 #[.slice A l.length cap] w fun e w' => e = .returned (.tuple #[]) ∧ w'.ownsRow B 5 1 (.slice A l.length cap) l.length (bvs l.reverse) ∧ Below B w w' ∧ OnlyT B [5] w w' := by
  have h0 := h
  rw [bvs_enc] at h
  obtain ⟨g, c2, hv, hg, hgl, hn, hc, hlen, hH⟩ := holds_of_ownsRow h (fun e => by
    injection e with _ e2 _
    exact hne (List.length_eq_zero_iff.1 e2))
  injection hv with e1 _ e3
  subst e1 e3
  have hs : ((l.map fun b => (b.toNat : Int)).toArray).size = l.length := by simp
  have hC := rev_arr g cap (l.map fun b => (b.toNat : Int)).toArray w hH (by rw [hs]; exact hl)
  rw [hs] at hC
  refine hC.mono ?_
  rintro e w' ⟨rfl, n, rfl⟩
  have hrev : (l.map fun b => (b.toNat : Int)).toArray.reverse = (l.reverse.map fun b => (b.toNat : Int)).toArray := by simp
  rw [hrev]
  have hown := ownsRow_putRow (q := n) (k := l.length) (ys := l.reverse.map fun b => (b.toNat : Int)) h (by simp) (Nat.le_refl _)
  rw [List.take_of_length_le (by simp), ← bvs_enc] at hown
  have hb := below_putRow (enc := encB) (q := n) (d := (l.reverse.map fun b => (b.toNat : Int)).toArray) (Below.refl B w) hg
  refine ⟨rfl, hown, hb, ⟨hb.os, hb.tape, hb.output, hb.size, fun k hk hkt => ?_⟩⟩
  have hty := (own_type h0 g rfl).2
  have hgk : g ≠ k := fun e => by
    subst e
    rcases hkt with h1 | h1
    · omega
    · exact h1 _ (by simp) hty
  simp [putRow, mapBlock, Sort.ahead, Array.getElem?_modify, hgk]
end Go.Proofs.Ytfdgnhfppginiaa
