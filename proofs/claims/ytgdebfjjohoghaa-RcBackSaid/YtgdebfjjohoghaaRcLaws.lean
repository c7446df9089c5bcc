/- Layer 17: the fixed calls; the law RcPuts. -/
import Derived.Test.YtgdebfjjohoghaaRcPFind
import Derived.Test.YtgdebfjjohoghaaRcLay
namespace Go.Proofs.Ytgdebfjjohoghaa
open Go.RowKit Go.Sort Go.Shelf

theorem EncAt.far {w w' : World} {E L R : Nat} {o : List Nat} (h : EncAt w E L R o) (hb : Below w.heap.size w w') : EncAt w' E L R o := h.below hb
theorem k_moves : Moves (0 + 1 * (4294967295 / 2)) (1 * (4294967295 / 2)) [] 2147483647 2147483647 := Moves.stop 2147483647 2147483647 (by decide) (by decide)
theorem encPut_k {w : World} {E : Nat} (h : EncAt w E 0 4294967295 []) :
    Calls Try.prog 10 #[.pointer (some ⟨E, 0, none⟩), .int .i64 1, .int .i64 1, .int .i64 2] w fun e w' => e = .returned (.int .i64 0) ∧ EncAt w' E 2147483647 2147483647 [] ∧ OnlyT E encT w w' :=
  encPut_ok (low := 1) (size := 1) (total := 2) h (by decide) span_start (by decide) (by decide) (by decide) (by decide) k_moves
theorem decFind_k {w : World} {D K : Nat} (h : DecAt w D K 0 4294967295 (2147483647, [], 0)) :
    Calls Try.prog 15 #[.pointer (some ⟨D, 0, none⟩), .int .i64 2] w fun e w' => e = .returned (.int .i64 1) ∧ DecAt w' D K 0 4294967295 (2147483647, [], 0) ∧ TurnsB D D w w' :=
  decFind_ok 2 h span_start (by decide) (by decide) (by decide)
theorem decTake_k {w : World} {D K : Nat} (h : DecAt w D K 0 4294967295 (2147483647, [], 0)) :
    Calls Try.prog 17 #[.pointer (some ⟨D, 0, none⟩), .int .i64 1, .int .i64 1, .int .i64 2] w fun e w' => e = .returned (.int .i64 0) ∧ DecAt w' D K 2147483647 2147483647 (2147483647, [], 0) ∧ TurnsB D D w w' :=
  decTake_ok (low := 1) (size := 1) (total := 2) h span_start (by decide) (by decide) (by decide) (by decide) k_moves
def NewEnc (B : Nat) (v : Value) (w : World) : Prop := ∃ E, v = .pointer (some ⟨E, 0, none⟩) ∧ B ≤ E ∧ EncAt w E 0 4294967295 []
theorem NewEnc.grow (B : Nat) (v : Value) (w w' : World) (h : NewEnc B v w) (hb : Below w.heap.size w w') : NewEnc B v w' := by
  obtain ⟨E, h1, h2, h3⟩ := h
  exact ⟨E, h1, h2, h3.below hb⟩
theorem encBytes_says {w : World} {E L R : Nat} {o : List Nat} (h : EncAt w E L R o) (hL : L < 4294967296) (ho : o.length ≤ 90000) :
    Calls Try.prog 11 #[.pointer (some ⟨E, 0, none⟩)] w fun e w' => ∃ v, e = .returned v ∧ (Fact.bytes (u8s (o ++ be4 L))).says v w' ∧ Below w.heap.size w w' :=
  (encBytes_any h hL ho).mono fun e w' ⟨v, h1, h2, h3⟩ => ⟨v, h1, IsBytes.of_own (by rw [u8s_length]; exact h2), h3⟩
theorem k_bytes : u8s ([] ++ be4 2147483647) = [127, 255, 255, 255] := by decide
theorem k_noughts : u8s ([] ++ be4 0) = [0, 0, 0, 0] := by decide
theorem k_four : comesS 4 (0, ([127, 255, 255, 255] : List UInt8).map UInt8.toNat, 0) = (2147483647, [], 0) := by decide
set_option maxHeartbeats 2000000 in
set_option maxRecDepth 100000 in
theorem rcKnown_any (w : World) : Calls Try.prog 7 #[] w (Yes w) := by
  go_enter Try.func7, Try.ntmps7
  go_wp2_with fail
  refine (rcBegin_any w).mono ?_
  rintro _ w1 ⟨E, rfl, hE, he1, hb1⟩
  have C := Lib.hid (encPut_k he1)
  have HB := Lib.hid hb1
  have HE := Lib.hid hE
  have hEs := he1.lt
  clear he1 hb1 hE
  go_wp2_with fail
  refine C.out.mono ?_
  rintro _ w2 ⟨rfl, he2, ho2⟩
  have HB2 := Lib.hid (HB.out.trans ((ho2.below (Nat.le_of_lt hEs)).mono HE.out))
  have HE2 := Lib.hid he2
  have C2 := Lib.hid (encBytes_any he2 (by decide) (by decide))
  clear he2 ho2 hEs C HB
  go_wp2_with fail
  refine C2.out.mono ?_
  rintro _ w3 ⟨v, rfl, hown, hb3⟩
  have hlen : ([] ++ be4 2147483647).length = 4 := rfl
  rw [hlen, k_bytes] at hown
  obtain ⟨Av, cv, rfl, -, -, -⟩ := own_form hown
  have C3 := Lib.hid (decRead_any (w := w3) (m := cv) [127, 255, 255, 255] (Rd.of_own hown) rfl (by decide))
  rw [k_four] at C3
  have HE3 := Lib.hid (HE2.out.below hb3)
  have HB3 := Lib.hid (HB2.out.trans (hb3.mono HB2.out.size))
  clear hlen hown hb3 C2 HE2 HB2
  go_wp2_with fail
  refine C3.out.mono ?_
  rintro _ w4 ⟨D, rfl, hD, hd4, hb4⟩
  have C4 := Lib.hid (decFind_k hd4)
  have HB4 := Lib.hid hb4
  have HD := Lib.hid hD
  clear hd4 hb4 hD C3
  go_wp2_with fail
  refine C4.out.mono ?_
  rintro _ w5 ⟨rfl, hd5, ht5⟩
  have C5 := Lib.hid (decTake_k hd5)
  have HB5 := Lib.hid (HB4.out.trans (ht5.below HD.out HD.out HB4.out.size))
  clear hd5 ht5 HB4 C4
  go_wp2_with fail
  refine C5.out.mono ?_
  rintro _ w6 ⟨rfl, hd6, ht6⟩
  have HB6 := Lib.hid (HB5.out.trans (ht6.below HD.out HD.out HB5.out.size))
  have HE6 := Lib.hid (HE3.out.below HB6.out)
  have HD6 := Lib.hid hd6
  have HBW := Lib.hid (HB3.out.trans (HB6.out.mono HB3.out.size))
  clear hd6 ht6 C5 HB5 HB6 HE3 HB3 HD HE
  go_wp2
  refine wp_region_grow [⟨16, [], .is (.int .i64 0)⟩,
    ⟨17, [0], .is (.bool true)⟩,
    ⟨18, [1], .is (.bool true)⟩,
    ⟨19, [2], .is (.pointer (some ⟨E, 0, none⟩))⟩,
    ⟨20, [3, 2], .bytes [127, 255, 255, 255]⟩,
    ⟨21, [4, 2], .is (.string ⟨#[127, 255, 255, 255]⟩)⟩,
    ⟨22, [2], .bytes [127, 255, 255, 255]⟩,
    ⟨23, [6, 2], .is (.string ⟨#[127, 255, 255, 255]⟩)⟩,
    ⟨24, [5, 7, 2], .is (.bool true)⟩,
    ⟨25, [2, 8], .is (.bool true)⟩,
    ⟨26, [9], .is (.bool true)⟩,
    ⟨27, [10], .such (NewEnc w6.heap.size) (NewEnc.grow w6.heap.size)⟩,
    ⟨28, [11, 10], .bytes [0, 0, 0, 0]⟩,
    ⟨29, [12, 10], .is (.string ⟨#[0, 0, 0, 0]⟩)⟩,
    ⟨30, [13, 10], .is (.bool true)⟩,
    ⟨31, [10, 14], .is (.bool true)⟩,
    ⟨32, [15], .is (.bool true)⟩,
    ⟨33, [16], .is (.int .i64 1)⟩,
    ⟨34, [17, 16], .is (.bool true)⟩,
    ⟨35, [16, 18], .is (.bool true)⟩,
    ⟨36, [19], .is (.bool true)⟩,
    ⟨37, [20], .is (.int .i64 0)⟩,
    ⟨38, [21, 20], .is (.bool true)⟩,
    ⟨39, [20, 22], .is (.bool true)⟩,
    ⟨40, [23], .is (.bool true)⟩,
    ⟨41, [24], .is (.pointer (some ⟨D, 0, none⟩))⟩,
    ⟨42, [25, 24], .is (.int .i64 0)⟩,
    ⟨43, [26, 24], .is (.bool true)⟩,
    ⟨44, [24, 27], .is (.bool true)⟩,
    ⟨0, [28], .is (.bool true)⟩]
    [(2, .int .i64 0), (1, .pointer (some ⟨E, 0, none⟩)), (4, .int .i64 1), (5, .int .i64 0), (3, .pointer (some ⟨D, 0, none⟩))] (by kernel_rfl) (by kernel_rfl) (by kernel_rfl) (by kernel_rfl) (by kernel_rfl) ⟨rfl, rfl, rfl, rfl, rfl, trivial⟩ ?_ ?_
  · repeat' (first | exact OblGAll.nil | refine OblGAll.cons ?_ ?_)
    all_goals (intro ev yi w' hB hc hf ho hn; simp only [OutsSay, NeedSay, rowAt, Fact.says, and_true] at ho hn)
    all_goals (try ((simp [OpSays, execOp, Region.wanted, Fact.says, boolOf, go_sem, ho, hn, hc, Below.refl]; done)))
    · rw [if_pos (by simp [Region.wanted, hn, boolOf])]
      exact says_call Try.call11 (vs := #[.pointer (some ⟨E, 0, none⟩)]) rfl hf (by simp [hn]) (by have h := encBytes_says (HE6.out.below hB) (by decide) (by decide); rw [k_bytes] at h; exact h)
    · rw [if_pos (by simp [Region.wanted, hn, boolOf])]
      exact says_str rfl Try.underlying31 Try.underlying5 Try.underlying9 hn.1 ⟨rfl, Below.refl _ _⟩
    · rw [if_pos (by simp [Region.wanted, hn, boolOf])]
      simp [OpSays, execOp, go_sem, hc]
      exact ⟨⟨_, 4, rfl, by decide, Rd.new w' _ _⟩, (Below.refl _ _).alloc (Nat.le_refl _) _⟩
    · rw [if_pos (by simp [Region.wanted, hn, boolOf])]
      exact says_str rfl Try.underlying31 Try.underlying5 Try.underlying9 hn.1 ⟨rfl, Below.refl _ _⟩
    · rw [if_pos (by simp [Region.wanted, hn, boolOf])]
      exact says_call Try.call8 (vs := #[]) rfl hf (by simp) ((rcBegin_any w').mono fun _ _ ⟨E', h1, h2, h3, h4⟩ => ⟨_, h1, ⟨E', rfl, Nat.le_trans hB.size h2, h3⟩, h4⟩)
    · rw [if_pos (by simp [Region.wanted, hn, boolOf])]
      exact says_call Try.call11 (vs := #[ev (.tmp 27)]) rfl hf (by simp) (by obtain ⟨E', h1, h2, h3⟩ := hn.1; rw [h1]; have h := encBytes_says h3 (by decide) (by decide); rw [k_noughts] at h; exact h)
    · rw [if_pos (by simp [Region.wanted, hn, boolOf])]
      exact says_str rfl Try.underlying31 Try.underlying5 Try.underlying9 hn.1 ⟨rfl, Below.refl _ _⟩
    · rw [if_pos (by simp [Region.wanted, hn, boolOf])]
      exact says_call Try.call20 (vs := #[.pointer (some ⟨D, 0, none⟩)]) rfl hf (by simp [hn]) ((decDone_any (HD6.out.below hB)).mono fun _ _ h => ⟨_, h.1, rfl, by rw [h.2]; exact Below.refl _ _⟩)
  · intro X w4 hb4 hx
    have hlast : X 29 = .bool true := hx 29 (by decide)
    clear hx
    have HL := Lib.hid hlast
    clear hlast
    simp only [layAll, List.setIfInBounds_toArray, List.set_cons_succ, List.set_cons_zero]
    go_wp2
    go_ret
    exact ⟨congrArg Ending.returned HL.out, HBW.out.trans (hb4.mono HBW.out.size)⟩
end Go.Proofs.Ytgdebfjjohoghaa
