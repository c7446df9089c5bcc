/- Law FoldNear. -/
import Derived.Test.YtgfbdopeepppkaaFoldLaws
import Derived.Deep.DeepCutAuto
namespace Go.Proofs.Ytgfbdopeepppkaa
open Go.RowKit

/-- How near a word is to 0, round. -/
def nearN (P x : Nat) : Nat := if x = 0 then 0 else min x (P - x)
theorem near_fold {W : Nat} (hW : IsW W) (x y : Nat) (hx : x < 256 ^ W) (hy : y < 256 ^ W) (h : nearN (256 ^ W) x < nearN (256 ^ W) y) : foldN (256 ^ W) x < foldN (256 ^ W) y := by
  unfold nearN at h
  unfold foldN
  rcases isW_pow hW with e | e | e | e <;> rw [e] at hx hy h ⊢ <;> split at h <;> split at h <;> split <;> split <;> omega
theorem fold_inj {W : Nat} (hW : IsW W) (x y : Nat) (hx : x < 256 ^ W) (hy : y < 256 ^ W) (h : foldN (256 ^ W) x = foldN (256 ^ W) y) : x = y := by
  rw [← unfold_foldN hW x hx, h, unfold_foldN hW y hy]
theorem fold_two (W a b : Nat) : foldW W [a, b] = [foldN (256 ^ W) (a % 256 ^ W), foldN (256 ^ W) (b % 256 ^ W)] := by
  simp [foldW, rowOf, foldAt, List.range_succ]

set_option maxHeartbeats 4000000 in
set_option maxRecDepth 100000 in
theorem foldNear_law (a b u : Nat) (w : World) (ha : a < 18446744073709551616) (hb : b < 18446744073709551616) :
    Calls Try.prog 8 #[.int .u64 (a : Int), .int .u64 (b : Int), .int .u8 (u : Int)] w (Yes w) := by
  obtain ⟨V, hV, hw⟩ := width_of u
  have HW := Lib.hid hw
  have hM2 := mask_is V hV
  have c1 := fun W' => refMask_any (V : Int) W' (by have := hV.pos; omega)
  have hma := mask_and' V a hV ha
  have hmb := mask_and' V b hV hb
  obtain ⟨M, hM⟩ : ∃ M, M = maskN (V : Int) := ⟨_, rfl⟩
  rw [← hM] at c1 hM2 hma hmb
  have hcel := fun (w : World) (v : Value) (h : IsCells (wvs [a, b]) v w) => fFold_cells (V : Int) [a, b] v w h (by simp) (by intro x hx; simp at hx; rcases hx with rfl | rfl <;> assumption)
  rw [ofW_of hV, fold_two] at hcel
  have hx : a % 256 ^ V < 256 ^ V := Nat.mod_lt _ pow_pos'
  have hy : b % 256 ^ V < 256 ^ V := Nat.mod_lt _ pow_pos'
  obtain ⟨x, hxx⟩ : ∃ x, x = a % 256 ^ V := ⟨_, rfl⟩
  obtain ⟨y, hyy⟩ : ∃ y, y = b % 256 ^ V := ⟨_, rfl⟩
  rw [← hxx] at hma hcel hx
  rw [← hyy] at hmb hcel hy
  have hnear := near_fold hV x y hx hy
  have hinj := fold_inj hV x y hx hy
  have heqv : x = y → foldN (256 ^ V) x = foldN (256 ^ V) y := fun e => by rw [e]
  have hMl : 256 ^ V ≤ 18446744073709551616 := by
    rcases isW_pow hV with e | e | e | e <;> rw [e] <;> omega
  obtain ⟨P, hP⟩ : ∃ P, P = 256 ^ V := ⟨_, rfl⟩
  rw [← hP] at hM2 hcel hx hy hnear hinj heqv hMl
  obtain ⟨p, hp⟩ : ∃ p, p = foldN P x := ⟨_, rfl⟩
  obtain ⟨q, hq⟩ : ∃ q, q = foldN P y := ⟨_, rfl⟩
  rw [← hp, ← hq] at hcel hnear hinj heqv
  have C1 := Lib.hid c1
  have C2 := Lib.hid hcel
  have HN := Lib.hid hnear
  have HI := Lib.hid hinj
  have HE := Lib.hid heqv
  have HM2 := Lib.hid hM2
  have hL := cells_new w [a, b] 28
  have HL := Lib.hid hL
  clear c1 hcel hnear hinj heqv hM hM2 hw hp hq hP hxx hyy hV ha hb hL
  go_enter Try.func8, Try.ntmps8
  go_wp2_with fail
  simp only [HW.out]
  refine (C1.out _).mono ?_
  rintro e w' ⟨rfl, rfl⟩
  go_wp2_with fail
  refine (C2.out _ _ HL.out).mono ?_
  rintro e w1 ⟨v1, rfl, ⟨A1, c1, rfl, _, hr1⟩, hb1⟩
  obtain ⟨ab, ao, rfl, hab, hcl⟩ := hr1.at_ (by simp [wvs])
  have hc0 : w1.cell? ⟨ab, ao, none⟩ = some (.int .u64 (p : Int)) := hcl 0 _ rfl
  have hc1 : w1.cell? ⟨ab, ao + 1, none⟩ = some (.int .u64 (q : Int)) := hcl 1 _ rfl
  have HBB := Lib.hid (((Below.refl w.heap.size w).alloc (Nat.le_refl _) (.cells (wvs [a, b]).toArray 28)).trans (hb1.mono (by simp)))
  clear hcl hr1 hb1
  have hlen : (wvs [p, q]).length = 2 := rfl
  rw [hlen]
  have hm1 : IntKind.u64.wrap ((M : Int) - (x : Int)) = ((M - x : Nat) : Int) := by have := HM2.out; rw [IntKind.wrap_u64]; omega
  have hm2 : IntKind.u64.wrap ((M : Int) - (y : Int)) = ((M - y : Nat) : Int) := by have := HM2.out; rw [IntKind.wrap_u64]; omega
  obtain ⟨N0, hN0⟩ : ∃ N0, N0 = min x ((M - x + 1) % 18446744073709551616) := ⟨_, rfl⟩
  obtain ⟨F0, hF0⟩ : ∃ F0, F0 = min y ((M - y + 1) % 18446744073709551616) := ⟨_, rfl⟩
  obtain ⟨N, hN⟩ : ∃ N, N = nearN P x := ⟨_, rfl⟩
  obtain ⟨F, hF⟩ : ∃ F, F = nearN P y := ⟨_, rfl⟩
  have hNN : N = if x = 0 then 0 else N0 := by
    have := HM2.out
    rw [hN, hN0]
    unfold nearN
    split <;> omega
  have hFF : F = if y = 0 then 0 else F0 := by
    have := HM2.out
    rw [hF, hF0]
    unfold nearN
    split <;> omega
  have HN0 := Lib.hid hN0
  have HF0 := Lib.hid hF0
  have HNN := Lib.hid hNN
  have HFF := Lib.hid hFF
  have h12 : N < F → p < q := fun h => HN.out (by rw [← hN, ← hF]; exact h)
  have H12 := Lib.hid h12
  clear hN0 hF0 hNN hFF hN hF h12 HN hx hy hMl
  go_upto_region 7 with fail
  go_cut [12, 13] (fun s12 s13 wx => s12 = .int .u64 (N0 : Int) ∧ s13 = .int .u64 (F0 : Int) ∧ wx = w1)
  case first =>
    go_wp2_with fail
    all_goals (go_meet; refine ⟨congrArg _ ?_, congrArg _ ?_, rfl⟩)
    all_goals (have e1 := HN0.out; have e2 := HF0.out; simp only [IntKind.wrap_u64] at *; omega)
  obtain ⟨rfl, rfl, rfl⟩ := hcut
  clear hm1 hm2
  go_upto_if 46 with fail
  go_cut [12] (fun s12 wx => s12 = .int .u64 (N : Int) ∧ wx = wc)
  case first =>
    go_wp2_with fail
    all_goals (go_meet; refine ⟨congrArg _ ?_, rfl⟩)
    all_goals (have e1 := HNN.out; rename_i hq; first | (rw [e1, if_pos (by simpa using hq)]; rfl) | (rw [e1, if_neg (by simpa using hq)]))
  obtain ⟨rfl, rfl⟩ := hcut
  go_upto_if 48 with fail
  go_cut [13] (fun s13 wx => s13 = .int .u64 (F : Int) ∧ wx = wc)
  case first =>
    go_wp2_with fail
    all_goals (go_meet; refine ⟨congrArg _ ?_, rfl⟩)
    all_goals (have e1 := HFF.out; rename_i hq; first | (rw [e1, if_pos (by simpa using hq)]; rfl) | (rw [e1, if_neg (by simpa using hq)]))
  obtain ⟨rfl, rfl⟩ := hcut
  go_upto_region 12 with fail
  clear HN0 HF0 HNN HFF HW C1 C2 HL HM2 hma hmb
  by_cases h1 : F ≤ N
  · by_cases h2 : x = y
    · have h3 : p = q := HE.out h2
      refine wp_region_grow [⟨49, [], .is (.int .u64 (N : Int))⟩,
        ⟨50, [], .is (.int .u64 (F : Int))⟩,
        ⟨51, [0, 1], .is (.bool true)⟩,
        ⟨52, [2], .is (.bool true)⟩,
        ⟨53, [3], .is (undef)⟩,
        ⟨54, [4, 3], .is (undef)⟩,
        ⟨55, [5, 3], .is (undef)⟩,
        ⟨56, [3], .is (undef)⟩,
        ⟨57, [7, 3], .is (undef)⟩,
        ⟨58, [8, 3], .is (undef)⟩,
        ⟨59, [6, 9, 3], .is (undef)⟩,
        ⟨60, [3, 10], .is (.bool true)⟩,
        ⟨61, [11], .is (.bool true)⟩,
        ⟨62, [12], .is (.int .u64 (x : Int))⟩,
        ⟨63, [12], .is (.int .u64 (y : Int))⟩,
        ⟨64, [13, 14, 12], .is (.bool false)⟩,
        ⟨65, [15, 12], .is (.bool false)⟩,
        ⟨66, [16], .is (.slice (some ⟨ab, ao, none⟩) 2 c1)⟩,
        ⟨67, [17, 16], .is (.pointer (some ⟨ab, ao, none⟩))⟩,
        ⟨68, [18, 16], .is (.int .u64 (p : Int))⟩,
        ⟨69, [16], .is (.slice (some ⟨ab, ao, none⟩) 2 c1)⟩,
        ⟨70, [20, 16], .is (.pointer (some ⟨ab, ao + 1, none⟩))⟩,
        ⟨71, [21, 16], .is (.int .u64 (q : Int))⟩,
        ⟨72, [19, 22, 16], .is (.bool true)⟩,
        ⟨73, [16, 23, 12], .is (.bool true)⟩,
        ⟨74, [12, 24], .is (.bool true)⟩,
        ⟨75, [25], .is (.bool true)⟩,
        ⟨76, [26], .is (.int .u64 (x : Int))⟩,
        ⟨77, [26], .is (.int .u64 (y : Int))⟩,
        ⟨78, [27, 28, 26], .is (.bool true)⟩,
        ⟨79, [29, 26], .is (.bool true)⟩,
        ⟨80, [30], .is (undef)⟩,
        ⟨81, [31, 30], .is (undef)⟩,
        ⟨82, [32, 30], .is (undef)⟩,
        ⟨83, [30], .is (undef)⟩,
        ⟨84, [34, 30], .is (undef)⟩,
        ⟨85, [35, 30], .is (undef)⟩,
        ⟨86, [33, 36, 30], .is (undef)⟩,
        ⟨87, [30, 37, 26], .is (.bool true)⟩,
        ⟨88, [26, 38], .is (.bool true)⟩,
        ⟨89, [39], .is (.bool true)⟩,
        ⟨90, [40], .is (.bool true)⟩,
        ⟨91, [40, 41], .is (.bool true)⟩,
        ⟨6, [42], .is (.bool true)⟩]
        [(12, .int .u64 (N : Int)), (13, .int .u64 (F : Int)), (9, .int .u64 (x : Int)), (10, .int .u64 (y : Int)), (11, .slice (some ⟨ab, ao, none⟩) 2 c1)] (by kernel_rfl) (by kernel_rfl) (by kernel_rfl) (by kernel_rfl) (by kernel_rfl) ⟨rfl, rfl, rfl, rfl, rfl, trivial⟩ ?_ ?_
      · repeat' (first | exact OblGAll.nil | refine OblGAll.cons ?_ ?_)
        all_goals (intro ev yi W' hB hc hf ho hn; simp only [OutsSay, NeedSay, rowAt, Fact.says, and_true] at ho hn)
        all_goals (have k0 := (hB.cell (p := ⟨ab, ao, none⟩) hab).trans hc0; have k1 := (hB.cell (p := ⟨ab, ao + 1, none⟩) hab).trans hc1)
        all_goals (try (first | (simp [OpSays, execOp, Region.wanted, Fact.says, boolOf, go_sem, ho, hc, k0, k1, hn, h1, h2, h3, Below.refl]; done)))
        · rw [if_pos (by simp [Region.wanted, hn, boolOf])]
          exact says_call Try.call18 (vs := #[]) rfl hf (by simp) ((foldKnown_any W').mono fun _ _ h => ⟨_, h.1, rfl, h.2⟩)
      · intro X w4 hb4 hx
        have h43 : X 43 = .bool true := hx 43 (by decide)
        clear hx
        have H43 := Lib.hid h43
        have hb5 := HBB.out.trans (hb4.mono HBB.out.size)
        clear h43 hb4
        simp only [layAll, List.setIfInBounds_toArray, List.set_cons_succ, List.set_cons_zero]
        go_wp2
        go_ret
        exact ⟨congrArg Ending.returned H43.out, hb5⟩

    · have h3 : ¬ (p = q) := fun h => h2 (HI.out h)
      have h6 : ((x : Int) == (y : Int)) = false := by rw [beq_eq_false_iff_ne]; omega
      have h8 : ((x : Int) != (y : Int)) = true := by rw [bne_iff_ne]; omega
      have h9 : ((p : Int) != (q : Int)) = true := by rw [bne_iff_ne]; omega
      refine wp_region_grow [⟨49, [], .is (.int .u64 (N : Int))⟩,
        ⟨50, [], .is (.int .u64 (F : Int))⟩,
        ⟨51, [0, 1], .is (.bool true)⟩,
        ⟨52, [2], .is (.bool true)⟩,
        ⟨53, [3], .is (undef)⟩,
        ⟨54, [4, 3], .is (undef)⟩,
        ⟨55, [5, 3], .is (undef)⟩,
        ⟨56, [3], .is (undef)⟩,
        ⟨57, [7, 3], .is (undef)⟩,
        ⟨58, [8, 3], .is (undef)⟩,
        ⟨59, [6, 9, 3], .is (undef)⟩,
        ⟨60, [3, 10], .is (.bool true)⟩,
        ⟨61, [11], .is (.bool true)⟩,
        ⟨62, [12], .is (.int .u64 (x : Int))⟩,
        ⟨63, [12], .is (.int .u64 (y : Int))⟩,
        ⟨64, [13, 14, 12], .is (.bool true)⟩,
        ⟨65, [15, 12], .is (.bool true)⟩,
        ⟨66, [16], .is (undef)⟩,
        ⟨67, [17, 16], .is (undef)⟩,
        ⟨68, [18, 16], .is (undef)⟩,
        ⟨69, [16], .is (undef)⟩,
        ⟨70, [20, 16], .is (undef)⟩,
        ⟨71, [21, 16], .is (undef)⟩,
        ⟨72, [19, 22, 16], .is (undef)⟩,
        ⟨73, [16, 23, 12], .is (.bool true)⟩,
        ⟨74, [12, 24], .is (.bool true)⟩,
        ⟨75, [25], .is (.bool true)⟩,
        ⟨76, [26], .is (.int .u64 (x : Int))⟩,
        ⟨77, [26], .is (.int .u64 (y : Int))⟩,
        ⟨78, [27, 28, 26], .is (.bool false)⟩,
        ⟨79, [29, 26], .is (.bool false)⟩,
        ⟨80, [30], .is (.slice (some ⟨ab, ao, none⟩) 2 c1)⟩,
        ⟨81, [31, 30], .is (.pointer (some ⟨ab, ao, none⟩))⟩,
        ⟨82, [32, 30], .is (.int .u64 (p : Int))⟩,
        ⟨83, [30], .is (.slice (some ⟨ab, ao, none⟩) 2 c1)⟩,
        ⟨84, [34, 30], .is (.pointer (some ⟨ab, ao + 1, none⟩))⟩,
        ⟨85, [35, 30], .is (.int .u64 (q : Int))⟩,
        ⟨86, [33, 36, 30], .is (.bool true)⟩,
        ⟨87, [30, 37, 26], .is (.bool true)⟩,
        ⟨88, [26, 38], .is (.bool true)⟩,
        ⟨89, [39], .is (.bool true)⟩,
        ⟨90, [40], .is (.bool true)⟩,
        ⟨91, [40, 41], .is (.bool true)⟩,
        ⟨6, [42], .is (.bool true)⟩]
        [(12, .int .u64 (N : Int)), (13, .int .u64 (F : Int)), (9, .int .u64 (x : Int)), (10, .int .u64 (y : Int)), (11, .slice (some ⟨ab, ao, none⟩) 2 c1)] (by kernel_rfl) (by kernel_rfl) (by kernel_rfl) (by kernel_rfl) (by kernel_rfl) ⟨rfl, rfl, rfl, rfl, rfl, trivial⟩ ?_ ?_
      · repeat' (first | exact OblGAll.nil | refine OblGAll.cons ?_ ?_)
        all_goals (intro ev yi W' hB hc hf ho hn; simp only [OutsSay, NeedSay, rowAt, Fact.says, and_true] at ho hn)
        all_goals (have k0 := (hB.cell (p := ⟨ab, ao, none⟩) hab).trans hc0; have k1 := (hB.cell (p := ⟨ab, ao + 1, none⟩) hab).trans hc1)
        all_goals (try (first | (simp [OpSays, execOp, Region.wanted, Fact.says, boolOf, go_sem, ho, hc, k0, k1, hn, h1, h6, Below.refl]; done) | (simp [OpSays, execOp, Region.wanted, Fact.says, boolOf, go_sem, hn, h8, Below.refl]; done) | (simp [OpSays, execOp, Region.wanted, Fact.says, boolOf, go_sem, hn, h9, Below.refl]; done)))
        · rw [if_pos (by simp [Region.wanted, hn, boolOf])]
          exact says_call Try.call18 (vs := #[]) rfl hf (by simp) ((foldKnown_any W').mono fun _ _ h => ⟨_, h.1, rfl, h.2⟩)
      · intro X w4 hb4 hx
        have h43 : X 43 = .bool true := hx 43 (by decide)
        clear hx
        have H43 := Lib.hid h43
        have hb5 := HBB.out.trans (hb4.mono HBB.out.size)
        clear h43 hb4
        simp only [layAll, List.setIfInBounds_toArray, List.set_cons_succ, List.set_cons_zero]
        go_wp2
        go_ret
        exact ⟨congrArg Ending.returned H43.out, hb5⟩

  · have h5 : p < q := H12.out (by omega)
    by_cases h2 : x = y
    · have h3 : p = q := HE.out h2
      omega
    · have h6 : ((x : Int) == (y : Int)) = false := by rw [beq_eq_false_iff_ne]; omega
      have h8 : ((x : Int) != (y : Int)) = true := by rw [bne_iff_ne]; omega
      have h9 : ((p : Int) != (q : Int)) = true := by rw [bne_iff_ne]; omega
      refine wp_region_grow [⟨49, [], .is (.int .u64 (N : Int))⟩,
        ⟨50, [], .is (.int .u64 (F : Int))⟩,
        ⟨51, [0, 1], .is (.bool false)⟩,
        ⟨52, [2], .is (.bool false)⟩,
        ⟨53, [3], .is (.slice (some ⟨ab, ao, none⟩) 2 c1)⟩,
        ⟨54, [4, 3], .is (.pointer (some ⟨ab, ao, none⟩))⟩,
        ⟨55, [5, 3], .is (.int .u64 (p : Int))⟩,
        ⟨56, [3], .is (.slice (some ⟨ab, ao, none⟩) 2 c1)⟩,
        ⟨57, [7, 3], .is (.pointer (some ⟨ab, ao + 1, none⟩))⟩,
        ⟨58, [8, 3], .is (.int .u64 (q : Int))⟩,
        ⟨59, [6, 9, 3], .is (.bool true)⟩,
        ⟨60, [3, 10], .is (.bool true)⟩,
        ⟨61, [11], .is (.bool true)⟩,
        ⟨62, [12], .is (.int .u64 (x : Int))⟩,
        ⟨63, [12], .is (.int .u64 (y : Int))⟩,
        ⟨64, [13, 14, 12], .is (.bool true)⟩,
        ⟨65, [15, 12], .is (.bool true)⟩,
        ⟨66, [16], .is (undef)⟩,
        ⟨67, [17, 16], .is (undef)⟩,
        ⟨68, [18, 16], .is (undef)⟩,
        ⟨69, [16], .is (undef)⟩,
        ⟨70, [20, 16], .is (undef)⟩,
        ⟨71, [21, 16], .is (undef)⟩,
        ⟨72, [19, 22, 16], .is (undef)⟩,
        ⟨73, [16, 23, 12], .is (.bool true)⟩,
        ⟨74, [12, 24], .is (.bool true)⟩,
        ⟨75, [25], .is (.bool true)⟩,
        ⟨76, [26], .is (.int .u64 (x : Int))⟩,
        ⟨77, [26], .is (.int .u64 (y : Int))⟩,
        ⟨78, [27, 28, 26], .is (.bool false)⟩,
        ⟨79, [29, 26], .is (.bool false)⟩,
        ⟨80, [30], .is (.slice (some ⟨ab, ao, none⟩) 2 c1)⟩,
        ⟨81, [31, 30], .is (.pointer (some ⟨ab, ao, none⟩))⟩,
        ⟨82, [32, 30], .is (.int .u64 (p : Int))⟩,
        ⟨83, [30], .is (.slice (some ⟨ab, ao, none⟩) 2 c1)⟩,
        ⟨84, [34, 30], .is (.pointer (some ⟨ab, ao + 1, none⟩))⟩,
        ⟨85, [35, 30], .is (.int .u64 (q : Int))⟩,
        ⟨86, [33, 36, 30], .is (.bool true)⟩,
        ⟨87, [30, 37, 26], .is (.bool true)⟩,
        ⟨88, [26, 38], .is (.bool true)⟩,
        ⟨89, [39], .is (.bool true)⟩,
        ⟨90, [40], .is (.bool true)⟩,
        ⟨91, [40, 41], .is (.bool true)⟩,
        ⟨6, [42], .is (.bool true)⟩]
        [(12, .int .u64 (N : Int)), (13, .int .u64 (F : Int)), (9, .int .u64 (x : Int)), (10, .int .u64 (y : Int)), (11, .slice (some ⟨ab, ao, none⟩) 2 c1)] (by kernel_rfl) (by kernel_rfl) (by kernel_rfl) (by kernel_rfl) (by kernel_rfl) ⟨rfl, rfl, rfl, rfl, rfl, trivial⟩ ?_ ?_
      · repeat' (first | exact OblGAll.nil | refine OblGAll.cons ?_ ?_)
        all_goals (intro ev yi W' hB hc hf ho hn; simp only [OutsSay, NeedSay, rowAt, Fact.says, and_true] at ho hn)
        all_goals (have k0 := (hB.cell (p := ⟨ab, ao, none⟩) hab).trans hc0; have k1 := (hB.cell (p := ⟨ab, ao + 1, none⟩) hab).trans hc1)
        all_goals (try (first | (simp [OpSays, execOp, Region.wanted, Fact.says, boolOf, go_sem, ho, hc, k0, k1, hn, h1, h5, h6, Below.refl]; done) | (simp [OpSays, execOp, Region.wanted, Fact.says, boolOf, go_sem, hn, h8, Below.refl]; done) | (simp [OpSays, execOp, Region.wanted, Fact.says, boolOf, go_sem, hn, h9, Below.refl]; done)))
        · rw [if_pos (by simp [Region.wanted, hn, boolOf])]
          exact says_call Try.call18 (vs := #[]) rfl hf (by simp) ((foldKnown_any W').mono fun _ _ h => ⟨_, h.1, rfl, h.2⟩)
      · intro X w4 hb4 hx
        have h43 : X 43 = .bool true := hx 43 (by decide)
        clear hx
        have H43 := Lib.hid h43
        have hb5 := HBB.out.trans (hb4.mono HBB.out.size)
        clear h43 hb4
        simp only [layAll, List.setIfInBounds_toArray, List.set_cons_succ, List.set_cons_zero]
        go_wp2
        go_ret
        exact ⟨congrArg Ending.returned H43.out, hb5⟩

end Go.Proofs.Ytgfbdopeepppkaa
