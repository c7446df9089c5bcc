/- Layer 26: the law BlendCodes. -/
import Derived.Test.YtgbibmgedmbboaaGreatBlendLaw
import Derived.Test.YtgbibmgedmbboaaGreatBlendRef
namespace Go.Proofs.YtgbibmgedmbboaaGreat
open Go.RowKit Go.Sort

set_option maxHeartbeats 4000000 in
set_option maxRecDepth 100000 in
theorem blendCodes_law (A : Option Addr) (L c : Nat) (l : List UInt8) (w : World) (hr : Rd w w.heap.size A (bvs l)) (hL : l.length = L) (hLc : L ≤ c) (hL63 : L ≤ 9223372036854775807) :
    Calls Tryz.prog 3 #[.slice A L c] w (Yes w) := by
  subst hL
  have CK := Lib.hid blendKnown_any
  by_cases h200 : 200 < l.length
  · have h2 : (200 : Int) < (l.length : Int) := by omega
    clear hr
    go_enter Tryz.func3, Tryz.ntmps3
    go_wp2_with fail
    refine (CK.out _).mono ?_
    rintro e w' ⟨rfl, hb⟩
    go_wp2
    go_ret
    exact ⟨rfl, hb⟩
  · have h2 : ¬ (200 : Int) < (l.length : Int) := by omega
    have HR := Lib.hid (bytes_row hr rfl hLc)
    obtain ⟨P, hP⟩ := bldQ_some bitWay newD_ok l (by omega)
    obtain ⟨Q, hQ⟩ := bldQ_some letWay noneF_inv l (by omega)
    have C1 := Lib.hid (fun (W : World) (h : IsBytes l (.slice A l.length c) W) => blendCode_q hP (by omega) _ h)
    have C2 := Lib.hid (fun (W : World) (h : IsBytes l (.slice A l.length c) W) => refCode_q hP (by omega) _ h)
    have C3 := Lib.hid (fun (W : World) (h : IsBytes l (.slice A l.length c) W) => blendAdapt_q hQ (by omega) _ h)
    have C4 := Lib.hid (fun (W : World) (h : IsBytes l (.slice A l.length c) W) => refAdapt_q hQ (by omega) _ h)
    clear hr hP hQ h200
    go_enter Tryz.func3, Tryz.ntmps3
    go_wp2
    refine wp_region_grow [⟨7, [], .is (.slice A l.length c)⟩,
      ⟨8, [0], .bytes (P)⟩,
      ⟨9, [1], .is (.string ⟨(P).toArray⟩)⟩,
      ⟨10, [], .is (.slice A l.length c)⟩,
      ⟨11, [3], .bytes (P)⟩,
      ⟨12, [4], .is (.string ⟨(P).toArray⟩)⟩,
      ⟨13, [2, 5], .is (.bool true)⟩,
      ⟨14, [6], .is (.bool true)⟩,
      ⟨15, [7], .is (.slice A l.length c)⟩,
      ⟨16, [8, 7], .bytes (Q)⟩,
      ⟨17, [9, 7], .is (.string ⟨(Q).toArray⟩)⟩,
      ⟨18, [7], .is (.slice A l.length c)⟩,
      ⟨19, [11, 7], .bytes (Q)⟩,
      ⟨20, [12, 7], .is (.string ⟨(Q).toArray⟩)⟩,
      ⟨21, [10, 13, 7], .is (.bool true)⟩,
      ⟨22, [7, 14], .is (.bool true)⟩,
      ⟨23, [15], .is (.bool true)⟩,
      ⟨24, [16], .is (.bool true)⟩,
      ⟨25, [16, 17], .is (.bool true)⟩,
      ⟨2, [18], .is (.bool true)⟩]
      [(0, .slice A l.length c)] (by kernel_rfl) (by kernel_rfl) (by kernel_rfl) (by kernel_rfl) (by kernel_rfl) ⟨rfl, trivial⟩ ?_ ?_
    · repeat' (first | exact OblGAll.nil | refine OblGAll.cons ?_ ?_)
      all_goals (intro ev yi w' hB hc hf ho hn; simp only [OutsSay, NeedSay, rowAt, Fact.says, and_true] at ho hn)
      all_goals (try ((simp [OpSays, execOp, Region.wanted, Fact.says, boolOf, go_sem, ho, hn, hc, Below.refl]; done)))
      · rw [if_pos (by simp [Region.wanted])]
        exact says_call Tryz.call5 (vs := #[.slice A l.length c]) rfl hf (by simp [hn]) ((C1.out w' (HR.out.grow hB)).mono fun _ _ => newBl_says)
      · rw [if_pos (by simp [Region.wanted])]
        exact says_str rfl Tryz.underlying22 Tryz.underlying5 Tryz.underlying9 hn.1 ⟨rfl, Below.refl _ _⟩
      · rw [if_pos (by simp [Region.wanted])]
        exact says_call Tryz.call6 (vs := #[.slice A l.length c]) rfl hf (by simp [hn]) ((C2.out w' (HR.out.grow hB)).mono fun _ _ => newBl_says)
      · rw [if_pos (by simp [Region.wanted])]
        exact says_str rfl Tryz.underlying22 Tryz.underlying5 Tryz.underlying9 hn.1 ⟨rfl, Below.refl _ _⟩
      · rw [if_pos (by simp [Region.wanted, hn, boolOf])]
        exact says_call Tryz.call7 (vs := #[.slice A l.length c]) rfl hf (by simp [hn]) ((C3.out w' (HR.out.grow hB)).mono fun _ _ => newBl_says)
      · rw [if_pos (by simp [Region.wanted, hn, boolOf])]
        exact says_str rfl Tryz.underlying22 Tryz.underlying5 Tryz.underlying9 hn.1 ⟨rfl, Below.refl _ _⟩
      · rw [if_pos (by simp [Region.wanted, hn, boolOf])]
        exact says_call Tryz.call8 (vs := #[.slice A l.length c]) rfl hf (by simp [hn]) ((C4.out w' (HR.out.grow hB)).mono fun _ _ => newBl_says)
      · rw [if_pos (by simp [Region.wanted, hn, boolOf])]
        exact says_str rfl Tryz.underlying22 Tryz.underlying5 Tryz.underlying9 hn.1 ⟨rfl, Below.refl _ _⟩
      · rw [if_pos (by simp [Region.wanted, hn, boolOf])]
        exact says_call Tryz.call4 (vs := #[]) rfl hf (by simp) ((CK.out w').mono fun _ _ h => ⟨_, h.1, rfl, h.2⟩)
    · intro X w4 hb4 hx
      have hlast : X 19 = .bool true := hx 19 (by decide)
      clear hx
      have HL := Lib.hid hlast
      clear hlast
      simp only [layAll, List.setIfInBounds_toArray, List.set_cons_succ, List.set_cons_zero]
      go_wp2
      go_ret
      exact ⟨congrArg Ending.returned HL.out, hb4⟩
end Go.Proofs.YtgbibmgedmbboaaGreat
