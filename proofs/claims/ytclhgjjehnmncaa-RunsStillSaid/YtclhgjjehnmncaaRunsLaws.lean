/- Laws of layer 10. -/
import Derived.Test.YtclhgjjehnmncaaRunsRPk
import Derived.Test.YtclhgjjehnmncaaRunsRUn
import Derived.Test.YtclhgjjehnmncaaRegion2
import Derived.Test.YtclhgjjehnmncaaArg
namespace Go.Proofs.Ytclhgjjehnmncaa
open Go.RowKit

theorem bytes_row {w : World} {A : Option Addr} {n c : Nat} {l : List UInt8} (hr : Rd w w.heap.size A (bvs l)) (hn : l.length = n) (hnc : n ≤ c) : IsBytes l (.slice A n c) w := by
  subst hn
  exact ⟨A, c, rfl, hnc, hr⟩
/-- 'string(b)' behind a guard that wants it, met in a walk. -/
theorem wpList_strW {P : Program} {w : World} {ops : Array Oper} {rest : List Oper} {o : Oper} {a : Act} {Q : Exit → Act → World → Prop} (hw : Region.wanted o (yielded ops a.tmps) = true) (src dst e : TypeId) (x : Operand)
    (ho : o.op = .convert src dst x) (hs : P.underlying src = some (.slice e)) (he : P.underlying e = some (.int .u8)) (hd : P.underlying dst = some .string)
    (l : List UInt8) (hx : IsBytes l (a.eval x) w)
    (h : wpList P ops Q rest (a.put o.dst (.string ⟨l.toArray⟩)) w) : wpList P ops Q (o :: rest) a w := by
  obtain ⟨A, c, hv, _, hr⟩ := hx
  refine wpList_step fun K hK => ?_
  rw [if_pos hw]
  unfold Oper.wp
  simp only [execOp, ho, hv, Sem.run_bind, run_str w src dst e hs he hd _ A l c hr _ rfl, Result.andThen_ok, Sem.run_pure]
  exact hK _ _ h
theorem pPack_bytes (l : List UInt8) (v : Value) (w : World) (h : IsBytes l v w) (hb : l.length ≤ 100000) :
    Calls Try.prog 8 #[v] w fun e w'' => ∃ v, e = .returned v ∧ (Fact.bytes (packL l)).says v w'' ∧ Below w.heap.size w w'' := by
  obtain ⟨A, c, rfl, hc, hr⟩ := h
  exact (runsPack_any A l.length c l w hr rfl hc (by omega)).mono fun _ _ => NewBs.says
theorem fPack_bytes (l : List UInt8) (v : Value) (w : World) (h : IsBytes l v w) (hb : l.length ≤ 100000) :
    Calls Try.prog 9 #[v] w fun e w'' => ∃ v, e = .returned v ∧ (Fact.bytes (packL l)).says v w'' ∧ Below w.heap.size w w'' := by
  obtain ⟨A, c, rfl, hc, hr⟩ := h
  exact (refPack_any A l.length c l w hr rfl hc (by omega)).mono fun _ _ => NewBs.says
theorem pUnp_bytes (l : List UInt8) (v : Value) (n : Int) (w : World) (h : IsBytes l v w) (hb : l.length ≤ 100000) (R : List UInt8 × Nat) (hR : unpackR l n = R) :
    Calls Try.prog 12 #[v, .int .i64 n] w (UnpAns w R) := by
  obtain ⟨A, c, rfl, hc, hr⟩ := h
  subst hR
  exact runsUnpack_any A l.length c l n w hr rfl hc (by omega)
theorem fUnp_bytes (l : List UInt8) (v : Value) (n : Int) (w : World) (h : IsBytes l v w) (hb : l.length ≤ 100000) (R : List UInt8 × Nat) (hR : unpackR l n = R) :
    Calls Try.prog 13 #[v, .int .i64 n] w (UnpAns w R) := by
  obtain ⟨A, c, rfl, hc, hr⟩ := h
  subst hR
  exact refUnpack_any A l.length c l n w hr rfl hc (by omega)
theorem k_pack : packL [7, 7, 7, 7, 1] = [129, 7, 0, 1] := by decide
theorem k_unp : unpackR [129, 7, 0, 1] 5 = ([7, 7, 7, 7, 1], 0) := by decide
theorem k_most : mostI 129 = 131 := by decide
set_option maxHeartbeats 1000000 in
set_option maxRecDepth 100000 in
theorem runsKnown_any (w : World) : Calls Try.prog 7 #[] w (Yes w) := by
  have c1 := fun (v : Value) (w : World) (h : IsBytes [7, 7, 7, 7, 1] v w) => pPack_bytes [7, 7, 7, 7, 1] v w h (by decide)
  rw [k_pack] at c1
  have c2 := fun (v : Value) (w : World) (h : IsBytes [129, 7, 0, 1] v w) => pUnp_bytes [129, 7, 0, 1] v 5 w h (by decide) _ k_unp
  have c3 := fun (w : World) => runsMost_any 129 w
  rw [k_most] at c3
  have C1 := Lib.hid c1
  have C2 := Lib.hid c2
  have C3 := Lib.hid c3
  clear c1 c2 c3
  go_enter Try.func7, Try.ntmps7
  go_wp2_with fail
  refine (C2.out _ _ ⟨_, 4, rfl, by decide, Rd.new w _ _⟩).mono ?_
  rintro e w1 ⟨v, rfl, hv, hb⟩
  have HV := Lib.hid hv
  have HB := Lib.hid (((Below.refl _ _).alloc (Nat.le_refl _) _).trans (hb.mono (by simp)))
  clear hv hb C2
  go_wp2
  refine wp_region_grow [⟨8, [], .bytes [7, 7, 7, 7, 1]⟩,
    ⟨9, [0], .bytes [129, 7, 0, 1]⟩,
    ⟨10, [1], .is (.string ⟨#[129, 7, 0, 1]⟩)⟩,
    ⟨11, [], .bytes [129, 7, 0, 1]⟩,
    ⟨12, [3], .is (.string ⟨#[129, 7, 0, 1]⟩)⟩,
    ⟨13, [2, 4], .is (.bool true)⟩,
    ⟨14, [5], .is (.bool true)⟩,
    ⟨15, [6], .is (.int .i64 0)⟩,
    ⟨16, [7, 6], .is (.bool true)⟩,
    ⟨17, [6, 8], .is (.bool true)⟩,
    ⟨18, [9], .is (.bool true)⟩,
    ⟨19, [10], .is (v)⟩,
    ⟨20, [11, 10], .is (.string ⟨#[7, 7, 7, 7, 1]⟩)⟩,
    ⟨21, [10], .bytes [7, 7, 7, 7, 1]⟩,
    ⟨22, [13, 10], .is (.string ⟨#[7, 7, 7, 7, 1]⟩)⟩,
    ⟨23, [12, 14, 10], .is (.bool true)⟩,
    ⟨24, [10, 15], .is (.bool true)⟩,
    ⟨25, [16], .is (.bool true)⟩,
    ⟨26, [17], .is (.int .i64 131)⟩,
    ⟨27, [18, 17], .is (.bool true)⟩,
    ⟨28, [17, 19], .is (.bool true)⟩,
    ⟨0, [20], .is (.bool true)⟩]
    [(2, .int .i64 0), (1, v)] (by kernel_rfl) (by kernel_rfl) (by kernel_rfl) (by kernel_rfl) (by kernel_rfl) ⟨rfl, rfl, trivial⟩ ?_ ?_
  · repeat' (first | exact OblGAll.nil | refine OblGAll.cons ?_ ?_)
    all_goals (intro ev yi w' hB hc hf ho hn; simp only [OutsSay, NeedSay, rowAt, Fact.says, and_true] at ho hn)
    all_goals (try ((simp [OpSays, execOp, Region.wanted, Fact.says, boolOf, go_sem, ho, hn, hc, Below.refl]; done)))
    · rw [if_pos (by simp [Region.wanted])]
      simp [OpSays, execOp, go_sem, hc]
      exact ⟨⟨_, 5, rfl, by decide, Rd.new w' _ _⟩, (Below.refl _ _).alloc (Nat.le_refl _) _⟩
    · rw [if_pos (by simp [Region.wanted])]
      exact says_call Try.call8 (vs := #[ev (.tmp 8)]) rfl hf (by simp) (C1.out _ w' hn.1)
    · rw [if_pos (by simp [Region.wanted])]
      exact says_str rfl Try.underlying22 Try.underlying5 Try.underlying9 hn.1 ⟨rfl, Below.refl _ _⟩
    · rw [if_pos (by simp [Region.wanted])]
      simp [OpSays, execOp, go_sem, hc]
      exact ⟨⟨_, 4, rfl, by decide, Rd.new w' _ _⟩, (Below.refl _ _).alloc (Nat.le_refl _) _⟩
    · rw [if_pos (by simp [Region.wanted])]
      exact says_str rfl Try.underlying22 Try.underlying5 Try.underlying9 hn.1 ⟨rfl, Below.refl _ _⟩
    · rw [if_pos (by simp [Region.wanted, hn, boolOf])]
      exact says_str rfl Try.underlying22 Try.underlying5 Try.underlying9 (by rw [hn.1]; exact HV.out.grow hB) ⟨rfl, Below.refl _ _⟩
    · rw [if_pos (by simp [Region.wanted, hn, boolOf])]
      simp [OpSays, execOp, go_sem, hc]
      exact ⟨⟨_, 5, rfl, by decide, Rd.new w' _ _⟩, (Below.refl _ _).alloc (Nat.le_refl _) _⟩
    · rw [if_pos (by simp [Region.wanted, hn, boolOf])]
      exact says_str rfl Try.underlying22 Try.underlying5 Try.underlying9 hn.1 ⟨rfl, Below.refl _ _⟩
    · rw [if_pos (by simp [Region.wanted, hn, boolOf])]
      exact says_call Try.call10 (vs := #[.int .i64 129]) rfl hf (by simp [hc]) ((C3.out w').mono fun _ _ h => ⟨_, h.1, rfl, h.2 ▸ Below.refl _ _⟩)
  · intro X w4 hb4 hx
    have hlast : X 21 = .bool true := hx 21 (by decide)
    clear hx
    have HL := Lib.hid hlast
    clear hlast
    simp only [layAll, List.setIfInBounds_toArray, List.set_cons_succ, List.set_cons_zero]
    go_wp2
    go_ret
    exact ⟨congrArg Ending.returned HL.out, HB.out.trans (hb4.mono HB.out.size)⟩
set_option maxHeartbeats 1000000 in
set_option maxRecDepth 100000 in
theorem runsPacks_core (A : Option Addr) (c : Nat) (l : List UInt8) (n : Int) (w : World) (hr : Rd w w.heap.size A (bvs l)) (hnc : l.length ≤ c) (hs : (l.length : Int) ≤ 1000) :
    Calls Try.prog 3 #[.slice A l.length c, .int .i64 n] w (Yes w) := by
  have HR0 := Lib.hid (bytes_row hr rfl hnc)
  have c1 := fun (v : Value) (w : World) (h : IsBytes l v w) => pPack_bytes l v w h (by omega)
  have c2 := fun (v : Value) (w : World) (h : IsBytes l v w) => fPack_bytes l v w h (by omega)
  have c3 := fun (w : World) => runsMost_any (l.length : Int) w
  have hle0 : ((packL l).length : Int) ≤ mostI (l.length : Int) := by
    have := packL_le l
    unfold mostI
    split
    · rename_i h
      have h0 : l.length = 0 := by omega
      have : packL l = [] := by rw [List.length_eq_zero_iff.1 h0]; rfl
      rw [this]; simp
    · omega
  obtain ⟨Q, hQ⟩ : ∃ Q, Q = packL l := ⟨_, rfl⟩
  obtain ⟨M, hM⟩ : ∃ M, M = mostI (l.length : Int) := ⟨_, rfl⟩
  rw [← hQ] at c1 c2 hle0
  rw [← hM] at c3 hle0
  have C1 := Lib.hid c1
  have C2 := Lib.hid c2
  have C3 := Lib.hid c3
  have HLE := Lib.hid hle0
  clear hr hnc c1 c2 c3 hQ hM hle0
  go_enter Try.func3, Try.ntmps3
  go_wp2_with fail
  refine (C1.out _ _ HR0.out).mono ?_
  rintro e w1 ⟨v, rfl, hv, hb⟩
  have HR := Lib.hid (HR0.out.grow hb)
  have HB := Lib.hid hb
  clear hb C1 HR0
  obtain ⟨A1, c1, rfl, hc1, hr1⟩ := hv
  have HV := Lib.hid (bytes_row hr1 rfl hc1)
  clear hr1
  go_wp2
  have hle := HLE.out
  refine wp_region_grow [⟨12, [], .is (.slice A1 Q.length c1)⟩,
    ⟨13, [0], .is (.string ⟨(Q).toArray⟩)⟩,
    ⟨14, [], .is (.slice A l.length c)⟩,
    ⟨15, [2], .bytes (Q)⟩,
    ⟨16, [3], .is (.string ⟨(Q).toArray⟩)⟩,
    ⟨17, [1, 4], .is (.bool true)⟩,
    ⟨18, [5], .is (.bool true)⟩,
    ⟨19, [6], .is (.slice A1 Q.length c1)⟩,
    ⟨20, [7, 6], .is (.int .i64 (Q.length : Nat))⟩,
    ⟨21, [6], .is (.slice A l.length c)⟩,
    ⟨22, [9, 6], .is (.int .i64 (l.length : Nat))⟩,
    ⟨23, [10, 6], .is (.int .i64 M)⟩,
    ⟨24, [8, 11, 6], .is (.bool true)⟩,
    ⟨25, [6, 12], .is (.bool true)⟩,
    ⟨26, [13], .is (.bool true)⟩,
    ⟨27, [14], .is (.int .i64 n)⟩,
    ⟨28, [15, 14], .is (.int .i64 (mostI n))⟩,
    ⟨29, [14], .is (.int .i64 n)⟩,
    ⟨30, [17, 14], .is (.int .i64 (mostI n))⟩,
    ⟨31, [16, 18, 14], .is (.bool true)⟩,
    ⟨32, [14, 19], .is (.bool true)⟩,
    ⟨33, [20], .is (.bool true)⟩,
    ⟨34, [21], .is (.bool true)⟩,
    ⟨35, [21, 22], .is (.bool true)⟩,
    ⟨4, [23], .is (.bool true)⟩]
    [(5, .slice A1 Q.length c1), (0, .slice A l.length c), (1, .int .i64 n)] (by kernel_rfl) (by kernel_rfl) (by kernel_rfl) (by kernel_rfl) (by kernel_rfl) ⟨rfl, rfl, rfl, trivial⟩ ?_ ?_
  · repeat' (first | exact OblGAll.nil | refine OblGAll.cons ?_ ?_)
    all_goals (intro ev yi w' hB hc hf ho hn; simp only [OutsSay, NeedSay, rowAt, Fact.says, and_true] at ho hn)
    all_goals (try ((simp [OpSays, execOp, Region.wanted, Fact.says, boolOf, go_sem, ho, hn, hc, Below.refl, hle]; done)))
    · rw [if_pos (by simp [Region.wanted])]
      exact says_str rfl Try.underlying22 Try.underlying5 Try.underlying9 (by rw [hn.1]; exact HV.out.grow hB) ⟨rfl, Below.refl _ _⟩
    · rw [if_pos (by simp [Region.wanted])]
      exact says_call Try.call9 (vs := #[.slice A l.length c]) rfl hf (by simp [hn]) (C2.out _ w' (HR.out.grow hB))
    · rw [if_pos (by simp [Region.wanted])]
      exact says_str rfl Try.underlying22 Try.underlying5 Try.underlying9 hn.1 ⟨rfl, Below.refl _ _⟩
    · rw [if_pos (by simp [Region.wanted, hn, boolOf])]
      exact says_call Try.call10 (vs := #[.int .i64 (l.length : Nat)]) rfl hf (by simp [hn]) ((C3.out w').mono fun _ _ h => ⟨_, h.1, rfl, h.2 ▸ Below.refl _ _⟩)
    · rw [if_pos (by simp [Region.wanted, hn, boolOf])]
      exact says_call Try.call10 (vs := #[.int .i64 n]) rfl hf (by simp [hn]) ((runsMost_any n w').mono fun _ _ h => ⟨_, h.1, rfl, h.2 ▸ Below.refl _ _⟩)
    · rw [if_pos (by simp [Region.wanted, hn, boolOf])]
      exact says_call Try.call11 (vs := #[.int .i64 n]) rfl hf (by simp [hn]) ((refMost_any n w').mono fun _ _ h => ⟨_, h.1, rfl, h.2 ▸ Below.refl _ _⟩)
    · rw [if_pos (by simp [Region.wanted, hn, boolOf])]
      exact says_call Try.call7 (vs := #[]) rfl hf (by simp) ((runsKnown_any w').mono fun _ _ h => ⟨_, h.1, rfl, h.2⟩)
  · intro X w4 hb4 hx
    have hlast : X 24 = .bool true := hx 24 (by decide)
    clear hx
    have HL := Lib.hid hlast
    clear hlast
    simp only [layAll, List.setIfInBounds_toArray, List.set_cons_succ, List.set_cons_zero]
    go_wp2
    go_ret
    exact ⟨congrArg Ending.returned HL.out, HB.out.trans (hb4.mono HB.out.size)⟩
theorem runsPacks_law (A : Option Addr) (n0 c : Nat) (l : List UInt8) (n : Int) (w : World) (hr : Rd w w.heap.size A (bvs l)) (hn : l.length = n0) (hnc : n0 ≤ c) :
    Calls Try.prog 3 #[.slice A n0 c, .int .i64 n] w (Yes w) := by
  subst hn
  by_cases hs : (l.length : Int) ≤ 1000
  · exact runsPacks_core A c l n w hr hnc hs
  · clear hr
    go_enter Try.func3, Try.ntmps3
    go_wp2_with (go_at_call 7; go_must (refine (runsKnown_any _).mono ?_; rintro e w' ⟨rfl, hb⟩))
    go_ret
    exact ⟨rfl, hb⟩
set_option maxHeartbeats 1000000 in
set_option maxRecDepth 100000 in
theorem runsUnpacks_core (A : Option Addr) (c : Nat) (l : List UInt8) (n : Int) (w : World) (hr : Rd w w.heap.size A (bvs l)) (hnc : l.length ≤ c) (hs : (l.length : Int) ≤ 500) :
    Calls Try.prog 4 #[.slice A l.length c, .int .i64 n] w (Yes w) := by
  have HR0 := Lib.hid (bytes_row hr rfl hnc)
  obtain ⟨o, f, hR⟩ : ∃ o f, unpackR l n = (o, f) := ⟨_, _, rfl⟩
  have C1 := Lib.hid (fun (v : Value) (w : World) (h : IsBytes l v w) => pUnp_bytes l v n w h (by omega) _ hR)
  have C2 := Lib.hid (fun (v : Value) (w : World) (h : IsBytes l v w) => fUnp_bytes l v n w h (by omega) _ hR)
  clear hr hnc hR
  go_enter Try.func4, Try.ntmps4
  go_wp2_with fail
  refine (C1.out _ _ HR0.out).mono ?_
  rintro e w1 ⟨v1, rfl, hv1, hb1⟩
  have HR1 := Lib.hid (HR0.out.grow hb1)
  have HV1 := Lib.hid hv1
  have HB1 := Lib.hid hb1
  clear hv1 hb1 C1 HR0
  go_wp2_with fail
  refine (C2.out _ _ HR1.out).mono ?_
  rintro e w2 ⟨v2, rfl, hv2, hb2⟩
  have HV := Lib.hid (HV1.out.grow hb2)
  have HV2 := Lib.hid hv2
  have HB2 := Lib.hid (HB1.out.trans (hb2.mono HB1.out.size))
  clear hv2 hb2 C2 HR1 HV1 HB1
  go_wp2_with (first
    | ((with_reducible show wpList _ _ _ (({ dst := some 26, op := _, type := _, pos := _, after := _, guard := _ } : Oper) :: _) _ _); go_must (refine wpList_strW rfl 22 9 5 (.tmp 25) rfl Try.underlying22 Try.underlying5 Try.underlying9 _ HV.out ?_))
    | ((with_reducible show wpList _ _ _ (({ dst := some 28, op := _, type := _, pos := _, after := _, guard := _ } : Oper) :: _) _ _); go_must (refine wpList_strW rfl 22 9 5 (.tmp 27) rfl Try.underlying22 Try.underlying5 Try.underlying9 _ HV2.out ?_))
    | (go_at_call 7; go_must (refine (runsKnown_any _).mono ?_; rintro e w3 ⟨rfl, hb3⟩)))
  go_ret
  exact ⟨rfl, HB2.out.trans (hb3.mono HB2.out.size)⟩
theorem runsUnpacks_law (A : Option Addr) (n0 c : Nat) (l : List UInt8) (n : Int) (w : World) (hr : Rd w w.heap.size A (bvs l)) (hn : l.length = n0) (hnc : n0 ≤ c) :
    Calls Try.prog 4 #[.slice A n0 c, .int .i64 n] w (Yes w) := by
  subst hn
  by_cases hs : (l.length : Int) ≤ 500
  · exact runsUnpacks_core A c l n w hr hnc hs
  · clear hr
    go_enter Try.func4, Try.ntmps4
    go_wp2_with (go_at_call 7; go_must (refine (runsKnown_any _).mono ?_; rintro e w' ⟨rfl, hb⟩))
    go_ret
    exact ⟨rfl, hb⟩
end Go.Proofs.Ytclhgjjehnmncaa
