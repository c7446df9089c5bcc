/- Layer 19: the program takes bytes as they are. -/
import Derived.Test.YtfdgnhfppginiaaRiceWds
import Derived.Test.YtfdgnhfppginiaaRdrOwn
namespace Go.Proofs.Ytfdgnhfppginiaa
open Go.RowKit Go.Sort

theorem restF_stuck : ∀ (m : Nat) (s : List Bool × Nat), s.2 ≠ 0 → (restF m s).2 = s
  | 0, _, _ => rfl
  | m + 1, s, h => by
    have h4 : getS s 8 = s := by unfold getS; rw [if_neg h]
    rw [restF, h4]
    exact restF_stuck m s h
/-- If no error is told behind so many bytes, there were as many. -/
theorem restF_few : ∀ (m : Nat) (s : List Bool × Nat), (restF m s).2.2 = 0 → s.2 = 0 ∧ 8 * m ≤ s.1.length
  | 0, s, h => ⟨h, by omega⟩
  | m + 1, s, h => by
    rw [restF] at h
    obtain ⟨h1, h2⟩ := restF_few m _ h
    obtain ⟨h3, h4⟩ := getS_err h1
    have h5 : (getS s 8).1.length + 8 = s.1.length := by
      unfold getS at h1 ⊢
      rw [if_pos h3] at h1 ⊢
      by_cases h8 : 8 ≤ s.1.length
      · rw [if_pos h8]; simp; omega
      · rw [if_neg h8] at h1; cases h1
    exact ⟨h3, by omega⟩
theorem restF_less : ∀ (m : Nat) (s : List Bool × Nat), (restF m s).2.1.length ≤ s.1.length
  | 0, _ => Nat.le_refl _
  | m + 1, s => by
    rw [restF]
    refine Nat.le_trans (restF_less m _) ?_
    unfold getS
    split
    · split
      · simp
      · exact Nat.le_refl _
    · exact Nat.le_refl _
def RPRel (w : World) (g n a : Nat) (A : Option Addr) (c : Nat) (bs R : List UInt8) (SE : List Bool × Nat) (i : Value) (wr : World) : Prop :=
  ∃ (j : Nat) (rs : List UInt8) (s : List Bool × Nat), j ≤ n ∧ i = .int .i64 (j : Int) ∧ rs.length = j ∧ rs ++ (restF (n - j) s).1 = R ∧ (restF (n - j) s).2 = SE ∧ Blk wr a 5 (bvs (rs ++ List.replicate (n - j) 0)) ∧ RdrA wr g A c bs s.1 s.2 ∧ OnlyT g [121] w wr
theorem info_u8n : (Try.prog.info? 5).map (fun i => (i.zero, i.size, i.bytes)) = some (some (.int .u8 0), 1, 1) := by kernel_rfl
set_option maxHeartbeats 2000000 in
set_option maxRecDepth 100000 in
theorem ricePlain_any {g n : Nat} {s0 : List Bool × Nat} (w : World) (hn : n ≤ 8) (hr : RdrIs w g s0.1 s0.2) (hg : g < w.heap.size) :
    Calls Try.prog 47 #[.pointer (some ⟨g, 0, none⟩), .int .i64 (n : Int)] w fun e w' => ∃ a, e = .returned (.slice (some ⟨a, 0, none⟩) n n) ∧ w.heap.size ≤ a ∧ Blk w' a 5 (bvs (restF n s0).1) ∧ RdrIs w' g (restF n s0).2.1 (restF n s0).2.2 ∧ OnlyT g [121] w w' := by
  obtain ⟨j0, hj0, hy0, hy1, hy2⟩ := info_parts info_u8n
  obtain ⟨Z, hZ⟩ : ∃ Z, Z = (List.replicate n (Value.int .u8 0)).toArray := ⟨_, rfl⟩
  have hmk := fun W' => make_eq (P := Try.prog) (t := 22) (e := 5) Try.underlying22 hj0 hy0 rfl hy1 (by rw [hy2]; decide) n (by omega) W'
  rw [← hZ] at hmk
  obtain ⟨A, c, bs, hra⟩ := hr.at_
  have hrow : bs = [] ∨ ∃ b off, A = some ⟨b, off, none⟩ ∧ b ≠ w.heap.size := hra.row.imp id fun ⟨b, off, e, h⟩ => ⟨b, off, e, by omega⟩
  have HROW := Lib.hid hrow
  have hb1 : Below w.heap.size w (w.alloc (.cells Z 5)) := (Below.refl _ _).alloc (Nat.le_refl _) _
  have hk1 : Blk (w.alloc (.cells Z 5)) w.heap.size 5 (bvs ([] ++ List.replicate (n - 0) 0)) := by
    have := heap_alloc_new w (.cells Z 5)
    rw [hZ] at this ⊢
    simpa [Blk, bvs] using this
  have HREL := Lib.hid (show RPRel w g n w.heap.size A c bs (restF n s0).1 (restF n s0).2 (.int .i64 ((0 : Nat) : Int)) _ from ⟨0, [], s0, Nat.zero_le _, rfl, rfl, rfl, rfl, hk1, hra.only (OnlyT.of_below (B := w.heap.size) (ts := []) hb1) (by simp) (by simp), OnlyT.of_below hb1⟩)
  have hgn : g ≠ w.heap.size := by omega
  have hn0 : (0 : Int) ≤ (n : Int) := by omega
  have hn8 : (n : Int) ≤ 8 := by omega
  obtain ⟨R, hR⟩ : ∃ R, R = (restF n s0).1 := ⟨_, rfl⟩
  obtain ⟨SE, hSE⟩ : ∃ SE, SE = (restF n s0).2 := ⟨_, rfl⟩
  rw [← hR, ← hSE] at HREL ⊢
  clear hZ hra hrow hb1 hk1 hr hj0 hy0 hy1 hy2 hR hSE
  go_enter Try.func47, Try.ntmps47
  go_wp2
  clear hmk
  go_loopw [11] (RPRel w g n w.heap.size A c bs R SE) (fun i _ => n - (intOf i).toNat)
  case atStart => exact HREL.out
  case round =>
    clear HREL
    obtain ⟨j, rs, s, hj, rfl, hrs, hR, hS, hbl, hrd, hot⟩ := hrel
    have HBL := Lib.hid hbl
    have HOT := Lib.hid hot
    by_cases hlt : j < n
    · obtain ⟨t, ht⟩ : ∃ t, n - j = t + 1 := ⟨n - j - 1, by omega⟩
      rw [ht] at hR hS
      have cg := aGet_st g 8 s wr hrd (by decide)
      have hgv := getV_lt s 8
      simp only [restF] at hR hS
      obtain ⟨gv, hgv2⟩ : ∃ gv, gv = getV s 8 := ⟨_, rfl⟩
      obtain ⟨s2, hs2⟩ : ∃ s2, s2 = getS s 8 := ⟨_, rfl⟩
      rw [← hgv2] at cg hgv hR
      rw [← hs2] at cg hR hS
      have CG := Lib.hid cg
      have HH := Lib.hid (And.intro hrs (And.intro hR (And.intro hS (show j < n ∧ n - (j + 1) = t from ⟨hlt, by omega⟩))))
      have hji : (j : Int) < (n : Int) := by omega
      have hg256 : gv < 256 := by simpa using hgv
      have hgw : IntKind.u8.wrap (gv : Int) = (gv : Int) := by rw [IntKind.wrap_u8]; omega
      have h8 : (UInt8.ofNat gv).toNat = gv := by simp [UInt8.toNat_ofNat']; omega
      have HT := Lib.hid ht
      clear hrs hR hS hbl hrd hot cg hgv hgv2 hs2 hj hlt ht
      go_wp2_with fail
      refine CG.out.mono ?_
      rintro _ w5 ⟨rfl, hrd5, ho5⟩
      obtain ⟨w6, hw6⟩ : ∃ w6, w6 = w5.setCell ⟨w.heap.size, j, none⟩ (.int .u8 (gv : Int)) := ⟨_, rfl⟩
      have hbl5 : Blk w5 w.heap.size 5 (bvs (rs ++ List.replicate (n - j) 0)) := HBL.out.only ho5 (by decide)
      have hda : w5.cell? ⟨w.heap.size, j, none⟩ = some (.int .u8 0) := by
        rw [hbl5.cell j, HT.out]; have := HH.out.1; simp [bvs, ← this]
      have hfa := hbl5.frozen j
      have hset := hbl5.set_ j (.int .u8 (gv : Int))
      have he : (bvs (rs ++ List.replicate (n - j) 0)).set j (.int .u8 (gv : Int)) = bvs ((rs ++ [UInt8.ofNat gv]) ++ List.replicate (n - (j + 1)) 0) := by
        have h1 := HH.out.1
        rw [HT.out, HH.out.2.2.2.2, List.replicate_succ, ← h1, bvs_append, List.set_append_right _ _ (by simp [bvs]), show rs.length - (bvs rs).length = 0 by simp [bvs], List.append_assoc, bvs_append, bvs_append]
        simp [bvs, h8]
      rw [he] at hset
      have HSET := Lib.hid hset
      have HRD := Lib.hid (hrd5.setOther (r := w.heap.size) (i := j) HROW.out hgn (.int .u8 (gv : Int)))
      have HOT5 := Lib.hid ((HOT.out.trans ho5).set_new (p := ⟨w.heap.size, j, none⟩) (Nat.le_refl _) (.int .u8 (gv : Int)))
      clear hrd5 ho5 hbl5 hset he hw6 CG HBL HOT
      go_wp2
      go_roundw
      case rel => exact ⟨j + 1, rs ++ [UInt8.ofNat gv], s2, by have := HH.out.2.2.2.1; omega, by go_num, by rw [List.length_append, List.length_singleton, HH.out.1], by rw [HH.out.2.2.2.2, List.append_assoc]; exact HH.out.2.1, by rw [HH.out.2.2.2.2]; exact HH.out.2.2.1, HSET.out, HRD.out, HOT5.out⟩
      case measure => have := HH.out.2.2.2.1; simp [intOf]; omega
    · obtain rfl : j = n := by omega
      rw [Nat.sub_self] at hR hS hbl
      simp only [restF, List.append_nil, List.replicate_zero] at hR hS hbl
      subst hR hS
      have HE := Lib.hid (And.intro hbl (And.intro hrd.is hot))
      clear hbl hrd hot HBL HOT
      go_wp2
      go_ret
      exact ⟨_, rfl, Nat.le_refl _, HE.out.1, HE.out.2.1, HE.out.2.2⟩
end Go.Proofs.Ytfdgnhfppginiaa
