/- The walks of layer 2's laws. -/
import Derived.Test.YtgchomeipmjifaaLebKnown
import Derived.OpenShut
namespace Go.Proofs.Ytgchomeipmjifaa
open Go.RowKit

/-- A slice of bytes that came in reads as a list of bytes. -/
theorem rd_of_row {w : World} {a : Option Addr} {len cap : Nat} {zs : List Int}
    (h : (a = none ∧ len = 0 ∧ cap = 0 ∧ zs = []) ∨ ∃ x, a = some x ∧ len ≤ cap ∧ cap ≤ maxLen ∧ zs.length = cap ∧ (∀ i, i < zs.length → w.cell? (x.add i) = some (.int .u8 (zs.getD i 0))) ∧ ∀ n ∈ zs, (Lit.int .u8 n).wf = true) :
    ∃ l : List UInt8, l.length = len ∧ len ≤ cap ∧ cap ≤ 9223372036854775807 ∧ Rd w w.heap.size a (bvs l) := by
  rcases h with ⟨rfl, rfl, rfl, rfl⟩ | ⟨x, rfl, hlc, hcm, hz, hcell, hwf⟩
  · exact ⟨[], rfl, Nat.le_refl _, by omega, Rd.nil_ _ _ _⟩
  · simp only [maxLen] at hcm
    refine ⟨(zs.take len).map fun z => UInt8.ofNat z.toNat, by simp; omega, hlc, by omega, fun k u hu => ?_⟩
    have hk : k < len := by
      have := (List.getElem?_eq_some_iff.1 hu).1
      simp [bvs] at this
      omega
    obtain ⟨b, off, rfl, hc⟩ := ints_at hcell (by omega)
    have hck := hc k (by omega)
    have hz0 : zs[k]? = some zs[k] := by simp
    have hw : 0 ≤ zs[k] ∧ zs[k] ≤ 255 := by
      have := hwf zs[k] (List.getElem_mem _)
      simpa [Lit.wf, IntKind.min, IntKind.max, IntKind.signed, IntKind.bits] using this
    have he : u = .int .u8 (zs.getD k 0) := by
      simp [bvs, hk, hz0] at hu
      rw [← hu]
      simp [List.getD_eq_getElem?_getD, hz0]
      omega
    subst he
    exact ⟨b, off, rfl, World.block_lt_of_cell? w _ hck, hck⟩

/-- A counter from 0 to K. -/
def CountTo (K : Nat) (v : Value) : Prop := ∃ k : Nat, k ≤ K ∧ v = .int .i64 k

/-- What a law's walk takes from its slices: what is no longer than 100. -/
theorem lget_bound (l : List UInt8) : (lget l).1 < 18446744073709551616 := by
  rcases lget_told l with ⟨n, h, hb, _⟩ | h | h <;> rw [h] <;> first | exact hb | decide

set_option maxHeartbeats 1000000 in
set_option maxRecDepth 100000 in
theorem lebGets_any (A : Option Addr) (n c : Nat) (l : List UInt8) (w : World) (hr : Rd w w.heap.size A (bvs l)) (hn : l.length = n) (hn1 : n ≤ 9223372036854775807) :
    Calls Try.prog 8 #[.slice A n c] w (Yes w) := by
  have hmb := lget_bound l
  obtain ⟨m, j, e, hg⟩ : ∃ m j e, lget l = (m, j, e) := ⟨_, _, _, rfl⟩
  have hy : (e = 0) ∨ (unfoldI m = 0 ∧ e ≠ 0) := by
    rcases lget_told l with ⟨n, h, _⟩ | h | h
    · rw [h] at hg; injection hg with h1 h2; injection h2 with h2 h3; exact .inl h3.symm
    · rw [h] at hg; injection hg with h1 h2; injection h2 with h2 h3; subst h1 h3; exact .inr ⟨by decide, by decide⟩
    · rw [h] at hg; injection hg with h1 h2; injection h2 with h2 h3; subst h1 h3; exact .inr ⟨by decide, by decide⟩
  have hm : m < 18446744073709551616 := by rw [hg] at hmb; exact hmb
  have c1 := fun (c : Nat) (W : World) (h : Rd W W.heap.size A (bvs l)) => lebGet_any A n c l W h hn hn1 m j e hg
  have c2 := fun (c : Nat) (W : World) (h : Rd W W.heap.size A (bvs l)) => refGet_any A n c l W h hn hn1 m j e hg
  have c3 := fun (c : Nat) (W : World) (h : Rd W W.heap.size A (bvs l)) => lebGetInt_any A n c l W h hn hn1 m j e hg hm
  have C1 := Lib.hid c1
  have C2 := Lib.hid c2
  have C3 := Lib.hid c3
  clear c1 c2 c3 hg hmb
  have HN := Lib.hid hn
  clear hn
  by_cases h100 : (100 : Int) < n
  · go_enter Try.func8, Try.ntmps8
    go_wp2_with (go_at_call 31; refine (lebKnown_any _).mono ?_; rintro e w' ⟨rfl, hb⟩)
    go_ret
    exact ⟨rfl, hb⟩
  · rcases hy with rfl | ⟨hu, he⟩
    · go_enter Try.func8, Try.ntmps8
      go_wp2_with (first
        | (go_at_call 40; refine (C1.out _ _ hr).mono ?_; rintro e w' ⟨rfl, rfl⟩)
        | (go_at_call 41; refine (C2.out _ _ hr).mono ?_; rintro e w' ⟨rfl, rfl⟩)
        | (go_at_call 42; refine (C3.out _ _ hr).mono ?_; rintro e w' ⟨rfl, rfl⟩)
        | (go_at_call 38; refine (refUnfold_any _ _ (by omega) (by omega)).mono ?_; rintro e w' ⟨rfl, rfl⟩)
        | (go_at_call 31; refine (lebKnown_any _).mono ?_; rintro e w' ⟨rfl, hb⟩))
      go_ret
      exact ⟨rfl, hb⟩
    · have he0 : ((e : Int) == 0) = false := by rw [beq_eq_false_iff_ne]; omega
      clear he
      have HU := Lib.hid hu
      clear hu
      go_enter Try.func8, Try.ntmps8
      go_wp2_with (first
        | (go_at_call 40; refine (C1.out _ _ hr).mono ?_; rintro e w' ⟨rfl, rfl⟩)
        | (go_at_call 41; refine (C2.out _ _ hr).mono ?_; rintro e w' ⟨rfl, rfl⟩)
        | (go_at_call 42; refine (C3.out _ _ hr).mono ?_; rintro e w' ⟨rfl, rfl⟩; rw [HU.out])
        | (go_at_call 31; refine (lebKnown_any _).mono ?_; rintro e w' ⟨rfl, hb⟩))
      go_ret
      exact ⟨rfl, hb⟩

set_option maxHeartbeats 1000000 in
set_option maxRecDepth 100000 in
theorem lebOne_any (A : Option Addr) (n c : Nat) (l : List UInt8) (w : World) (hr : Rd w w.heap.size A (bvs l)) (hn : l.length = n) (hnc : n ≤ c) :
    Calls Try.prog 10 #[.slice A n c] w (Yes w) := by
  by_cases h100 : (100 : Int) < n
  · go_enter Try.func10, Try.ntmps10
    go_wp2_with (go_at_call 31; refine (lebKnown_any _).mono ?_; rintro e w' ⟨rfl, hb⟩)
    go_ret
    exact ⟨rfl, hb⟩
  · rcases lget_told l with ⟨m, hg, hm, hKn, ht⟩ | hg | hg
    · obtain ⟨K, hK⟩ : ∃ K, K = (lput m).length := ⟨_, rfl⟩
      have c1 := fun (c : Nat) (W : World) (h : Rd W W.heap.size A (bvs l)) => lebGet_any A n c l W h hn (by omega) m _ 0 hg
      have c4 := fun (W : World) => lebPut_any none 0 0 [] m W (Rd.nil_ _ _ _) rfl (by decide) (by omega) (by omega)
      simp only [List.nil_append, Int.toNat_natCast] at c4
      have hr2 : Rd w w.heap.size A (bvs (lput m)) := by rw [← ht, ← bvs_take]; exact hr.take _
      have hK1 := lput_pos m
      rw [← hK] at c1 hK1 hKn
      have hKn' : (K : Int) ≤ (n : Int) := by omega
      have hK1' : (1 : Int) ≤ (K : Int) := by omega
      have hKc' : (K : Int) ≤ (c : Int) := by omega
      have C1 := Lib.hid c1
      have C4 := Lib.hid c4
      have HK := Lib.hid hK
      have HR2 := Lib.hid hr2
      have HN := Lib.hid hn
      clear c1 c4 hK hr2 hg ht hKn hK1 hn
      go_enter Try.func10, Try.ntmps10
      go_wp2_with (first
        | (go_at_call 40; refine (C1.out _ _ hr).mono ?_; rintro e w' ⟨rfl, rfl⟩))
      refine wp_region_grow [⟨27, [], .is (.int .i64 K)⟩,
    ⟨28, [0], .is (.bool true)⟩,
    ⟨29, [1], .is (.bool true)⟩,
    ⟨30, [2], .is (.int .i64 K)⟩,
    ⟨31, [2], .is (.slice A n c)⟩,
    ⟨32, [4, 2], .is (.int .i64 n)⟩,
    ⟨33, [3, 5, 2], .is (.bool true)⟩,
    ⟨34, [2, 6], .is (.bool true)⟩,
    ⟨35, [7], .is (.bool true)⟩,
    ⟨36, [8], .is (.int .u64 m)⟩,
    ⟨37, [9, 8], .bytes (lput m)⟩,
    ⟨38, [10, 8], .is (.string ⟨(lput m).toArray⟩)⟩,
    ⟨39, [8], .is (.slice A n c)⟩,
    ⟨40, [8], .is (.int .i64 K)⟩,
    ⟨41, [12, 13, 8], .bytes (lput m)⟩,
    ⟨42, [14, 8], .is (.string ⟨(lput m).toArray⟩)⟩,
    ⟨43, [11, 15, 8], .is (.bool true)⟩,
    ⟨44, [8, 16], .is (.bool true)⟩,
    ⟨45, [17], .is (.bool true)⟩,
    ⟨46, [18], .is (.bool true)⟩,
    ⟨47, [18, 19], .is (.bool true)⟩,
    ⟨2, [20], .is (.bool true)⟩]
        [(4, .int .i64 K), (0, .slice A n c), (3, .int .u64 m)] (by kernel_rfl) (by kernel_rfl) (by kernel_rfl) (by kernel_rfl) (by kernel_rfl) ⟨rfl, rfl, rfl, trivial⟩ ?_ ?_
      · repeat' (first | exact OblGAll.nil | refine OblGAll.cons ?_ ?_)
        all_goals (intro ev yi w1 hB hc hf ho hn; simp only [OutsSay, NeedSay, rowAt, Fact.says, and_true] at ho hn)
        all_goals (try ((simp [OpSays, execOp, Region.wanted, Fact.says, boolOf, go_sem, ho, hn, hc, hK1', hKn', Below.refl]; done)))
        · rw [if_pos (by simp [Region.wanted, hn, boolOf])]
          exact says_call Try.call33 rfl hf (by simp only [List.map_toArray, List.map_cons, List.map_nil, hc, hn]) ((C4.out w1).mono fun _ _ => NewB.says)
        · rw [if_pos (by simp [Region.wanted, hn, boolOf])]
          exact says_str rfl Try.underlying25 Try.underlying5 Try.underlying9 hn.1 ⟨rfl, Below.refl _ _⟩
        · rw [if_pos (by simp [Region.wanted, hn, boolOf])]
          have hKc : K ≤ c := by omega
          simp [OpSays, execOp, go_sem, hn, hKc]
          refine ⟨⟨A, c, by rw [HK.out], by rw [← HK.out]; exact hKc, (HR2.out.below hB).more hB.size⟩, Below.refl _ _⟩
        · rw [if_pos (by simp [Region.wanted, hn, boolOf])]
          exact says_str rfl Try.underlying25 Try.underlying5 Try.underlying9 hn.1 ⟨rfl, Below.refl _ _⟩
        · rw [if_pos (by simp [Region.wanted, hn, boolOf])]
          exact says_call Try.call31 (vs := #[]) rfl hf (by simp) ((lebKnown_any w1).mono fun _ _ h => ⟨_, h.1, rfl, h.2⟩)
      · intro x w4 hb4 hx
        have h21 : x 21 = .bool true := hx 21 (by decide)
        clear hx
        have H21 := Lib.hid h21
        clear h21
        simp only [layAll, List.setIfInBounds_toArray, List.set_cons_succ, List.set_cons_zero]
        go_wp2
        go_ret
        exact ⟨congrArg Ending.returned H21.out, hb4⟩
    all_goals
      have c1 := fun (c : Nat) (W : World) (h : Rd W W.heap.size A (bvs l)) => lebGet_any A n c l W h hn (by omega) 0 0 _ hg
      have C1 := Lib.hid c1
      have HN := Lib.hid hn
      clear c1 hg hn
      go_enter Try.func10, Try.ntmps10
      go_wp2_with (first
        | (go_at_call 40; refine (C1.out _ _ hr).mono ?_; rintro e w' ⟨rfl, rfl⟩)
        | (go_at_call 31; refine (lebKnown_any _).mono ?_; rintro e w' ⟨rfl, hb⟩))
      go_ret
      exact ⟨rfl, hb⟩

set_option maxHeartbeats 1000000 in
set_option maxRecDepth 100000 in
theorem lebBack_any (N : Nat) (i : Int) (A : Option Addr) (n c : Nat) (l : List UInt8) (w : World) (hN : N < 18446744073709551616) (hi0 : -9223372036854775808 ≤ i) (hi1 : i ≤ 9223372036854775807)
    (hr : Rd w w.heap.size A (bvs l)) (hn : l.length = n) :
    Calls Try.prog 9 #[.int .u64 N, .int .i64 i, .slice A n c] w (Yes w) := by
  by_cases h100 : (100 : Int) < n
  · go_enter Try.func9, Try.ntmps9
    go_wp2_with (go_at_call 31; refine (lebKnown_any _).mono ?_; rintro e w' ⟨rfl, hb⟩)
    go_ret
    exact ⟨rfl, hb⟩
  · obtain ⟨i0, hi, hz0, hz1, hz2⟩ := info_parts info_u8
    obtain ⟨K, hK⟩ : ∃ K, K = (lput N).length := ⟨_, rfl⟩
    have hKpos := lput_pos N
    have hK10 := lput_le N hN
    rw [← hK] at hKpos hK10
    have c4 := fun (W : World) => lebPut_any none 0 0 [] N W (Rd.nil_ _ _ _) rfl (by decide) (by omega) (by omega)
    simp only [List.nil_append, Int.toNat_natCast] at c4
    have c1 := fun (A : Option Addr) (c : Nat) (W : World) (h : Rd W W.heap.size A (bvs (lput N ++ l))) => lebGet_any A (K + n) c (lput N ++ l) W h (by rw [List.length_append, hn, hK]) (by omega) _ _ _ (lget_put N l hN)
    rw [← hK] at c1
    have c2 := fun (at_ : Nat) (hat : at_ < K) (A : Option Addr) (c : Nat) (W : World) (h : Rd W W.heap.size A (bvs ((lput N).take at_))) => lebGet_any A at_ c ((lput N).take at_) W h (by rw [List.length_take, ← hK]; omega) (by omega) _ _ _ (lget_cut N at_ hN (by rw [← hK]; exact hat))
    have hfr := foldI_range i hi0 hi1
    obtain ⟨M, hM⟩ : ∃ M : Nat, M = (foldI i).toNat := ⟨_, rfl⟩
    have hM1 : M < 18446744073709551616 := by omega
    have hMi : (M : Int) = foldI i := by omega
    have c5 := fun (W : World) => lebPutInt_any none 0 0 [] i W (Rd.nil_ _ _ _) rfl (by decide) hi0 hi1
    rw [← hM] at c5
    simp only [List.nil_append] at c5
    have c6 := fun (A : Option Addr) (n c : Nat) (W : World) (h : Rd W W.heap.size A (bvs (lput M))) (hn : (lput M).length = n) => lebGetInt_any A n c (lput M) W h hn (by have := lput_le M hM1; omega) _ _ _ (by have := lget_put M [] hM1; rwa [List.append_nil] at this) hM1
    rw [hMi, unfold_fold] at c6
    have c7 := fun (W : World) => lebFold_any i W hi0 hi1
    have c8 := fun (W : World) => lebUnfold_any (foldI i) W hfr.1 hfr.2
    rw [unfold_fold] at c8
    have hc1l : (bvs (lput N)).length = K * 1 := by rw [bvs_length, ← hK, Nat.mul_one]
    have hc2l : (bvs l).length = n * 1 := by rw [bvs_length, hn, Nat.mul_one]
    have C1 := Lib.hid c1
    have C2 := Lib.hid c2
    have C4 := Lib.hid c4
    have C5 := Lib.hid c5
    have C6 := Lib.hid c6
    have C7 := Lib.hid c7
    have C8 := Lib.hid c8
    have HC1 := Lib.hid hc1l
    have HC2 := Lib.hid hc2l
    have HK := Lib.hid hK
    clear c1 c2 c4 c5 c6 c7 c8 hK hn hM hMi hfr hM1 hc1l hc2l hN
    have hKi : (1 : Int) ≤ (K : Int) := by omega
    have hKi2 : (K : Int) ≤ 10 := by omega
    have hKz : ((K : Int) == 0) = false := by rw [beq_eq_false_iff_ne]; omega
    go_enter Try.func9, Try.ntmps9
    go_wp2_with (first
      | (go_at_call 33; go_must (refine (C4.out _).mono ?_; rintro e w1 ⟨v1, rfl, hown1, hb1⟩; rw [← HK.out] at hown1; obtain ⟨A1, k1, rfl, hk1, -, -⟩ := own_form hown1; have HR1 := Lib.hid (Rd.of_own hown1); clear hown1))
      | ((with_reducible show wpList _ _ _ (({ dst := some 27, op := _, type := _, pos := _, after := _, guard := _ } : Oper) :: _) _ _); go_must (refine wpList_app rfl (.tmp 25) (.tmp 26) 25 rfl w1.heap.size 5 i0 (.int .u8 0) 1 1 Try.underlying25 hi hz0 hz1 hz2 rfl (by decide) _ 0 [] rfl (World.ownsRow_made w1 #[] 0 (Nat.le_refl _) (Nat.zero_le _) rfl) w1.heap.size _ K _ (bvs (lput N)) rfl (HR1.out.alloc (Nat.le_refl _) _) HC1.out (bvs_one _) (by simp only [maxLen]; omega) (by omega) (by simp) ?_; intro v2 w2 hown2 hg2; rw [Nat.zero_add, List.nil_append] at hown2; have hb2 : Below w1.heap.size w1 w2 := ((Below.refl _ _).alloc (Nat.le_refl _) _).grown hg2 (by simp) (own_block (World.ownsRow_made (e := 5) (size := 1) w1 #[] 0 (Nat.le_refl _) (Nat.zero_le _) rfl)); clear hg2))
      | ((with_reducible show wpList _ _ _ (({ dst := some 29, op := _, type := _, pos := _, after := _, guard := _ } : Oper) :: _) _ _); go_must (refine wpList_app rfl (.tmp 27) (.tmp 28) 25 rfl w1.heap.size 5 i0 (.int .u8 0) 1 1 Try.underlying25 hi hz0 hz1 hz2 rfl (by decide) _ K _ rfl hown2 w.heap.size _ n _ (bvs l) rfl ((hr.below hb1).below (hb2.mono hb1.size)) HC2.out (bvs_one _) (by simp only [maxLen]; omega) (by omega) hb2.size ?_; intro v3 w3 hown3 hg3; rw [← bvs_append] at hown3; have hb3 : Below w1.heap.size w1 w3 := hb2.grown hg3 hb2.size (own_block hown2); obtain ⟨A3, k3, rfl, hk3, -, -⟩ := own_form hown3; have HR3 := Lib.hid (Rd.of_own hown3); clear hown2 hown3 hg3 hb2))
      | (go_at_call 40; go_must (refine (C1.out _ _ _ HR3.out).mono ?_; rintro e w' ⟨rfl, rfl⟩)))
    have HCUT : ∀ at_ : Nat, at_ < K → Hid (Rd w3 w3.heap.size A1 (bvs ((lput N).take at_))) := fun at_ _ => by
      rw [← bvs_take]
      exact ((HR1.out.below hb3).more hb3.size).take _
    go_loop [11] (CountTo K) (fun i => K - (intOf i).toNat)
    case atStart => exact ⟨0, Nat.zero_le _, rfl⟩
    case round =>
      obtain ⟨at_, hat, rfl⟩ := hrel
      by_cases hlt : at_ < K
      · have HC := HCUT at_ hlt
        clear HCUT
        have hak : (at_ : Int) ≤ (k1 : Int) := by omega
        have hakn : at_ ≤ k1 := by omega
        have c2 := C2.out at_ hlt
        have C2' := Lib.hid c2
        clear c2
        go_wp2_with (go_at_call 40; go_must (refine (C2'.out _ _ _ HC.out).mono ?_; rintro e w' ⟨rfl, rfl⟩))
        go_round
        case rel => exact ⟨at_ + 1, by omega, by go_num⟩
        case measure => simp [intOf]; omega
      · obtain rfl : at_ = K := by omega
        clear HCUT
        go_wp2_with (first
          | (go_at_call 39; go_must (refine (C5.out _).mono ?_; rintro e w4 ⟨v4, rfl, hown4, hb4⟩; obtain ⟨M4, hM4⟩ : ∃ M4, (lput M).length = M4 := ⟨_, rfl⟩; rw [hM4] at hown4; obtain ⟨A4, k4, rfl, hk4, -, -⟩ := own_form hown4; have HR4 := Lib.hid (Rd.of_own hown4); have HM4 := Lib.hid hM4; clear hown4 hM4))
          | (go_at_call 42; go_must (refine (C6.out _ _ _ _ HR4.out HM4.out).mono ?_; rintro e w' ⟨rfl, rfl⟩))
          | (go_at_call 35; go_must (refine (C7.out _).mono ?_; rintro e w' ⟨rfl, rfl⟩))
          | (go_at_call 37; go_must (refine (C8.out _).mono ?_; rintro e w' ⟨rfl, rfl⟩))
          | (go_at_call 31; go_must (refine (lebKnown_any _).mono ?_; rintro e w5 ⟨rfl, hb5⟩)))
        go_ret
        refine ⟨rfl, ?_⟩
        have h1 := hb1.size
        have h3 := hb3.size
        have h4 := hb4.size
        exact ((hb1.trans (hb3.mono h1)).trans (hb4.mono (by omega))).trans (hb5.mono (by omega))
end Go.Proofs.Ytgchomeipmjifaa
