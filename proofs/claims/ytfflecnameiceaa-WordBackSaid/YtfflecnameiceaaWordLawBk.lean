/- Law WordBack. -/
import Derived.Test.YtfflecnameiceaaWordLay
import Derived.Test.YtfflecnameiceaaWordSame
import Derived.Test.YtfflecnameiceaaWordKnown
namespace Go.Proofs.Ytfflecnameiceaa
open Go.RowKit

/-- What was laid of words is taken as what fits. -/
theorem back_words (V : Nat) (hV : IsW V) (l : List Nat) : wordsN ((layW V l ++ []).length / V) V (layW V l ++ []) = fitW V l ∧ (layW V l ++ []).drop ((layW V l ++ []).length / V * V) = [] := by
  have hp := hV.pos.1
  have e : (layW V l ++ []).length / V = l.length := by rw [List.append_nil, layW_len, Nat.mul_div_cancel _ (by omega)]
  rw [e]
  refine ⟨words_layW V l [], ?_⟩
  rw [List.drop_of_length_le]
  rw [List.append_nil, layW_len]
  exact Nat.le_refl _
/-- What was taken is laid as it was. -/
theorem back_bytes (V : Nat) (b : List UInt8) : layW V (wordsN (b.length / V) V b) ++ b.drop (b.length / V * V) = b := by
  rw [layW_words _ _ _ (Nat.div_mul_le_self _ _), List.take_append_drop]
theorem NewBs.says' {w : World} {l : List UInt8} {e : Ending} {w' : World} (h : NewBs w l e w') : ∃ v, e = .returned v ∧ (Fact.bytes l).says v w' ∧ Below w.heap.size w w' := h

set_option maxHeartbeats 1000000 in
set_option maxRecDepth 100000 in
theorem wordBack_core (V : Nat) (hV : IsW V) (A : Option Addr) (n c : Nat) (b : List UInt8) (B : Option Addr) (m d : Nat) (l : List Nat) (u : Nat) (w : World) (hr : Rd w w.heap.size A (bvs b)) (hn : b.length = n) (hnc : n ≤ c) (hr2 : Rd w w.heap.size B (wvs l)) (hm : l.length = m)
    (hlt64 : ∀ x ∈ l, x < 18446744073709551616) (h6 : (n : Int) ≤ 600) (h1 : (m : Int) ≤ 100) (hs : wrap64 (2 ^ (u % 4)) = (V : Int)) :
    Calls Try.prog 9 #[.slice A n c, .slice B m d, .int .u8 (u : Int)] w (Yes w) := by
  subst hn hm
  have hp := hV.pos
  obtain ⟨hbw, hbn⟩ := back_words V hV l
  have hbb := back_bytes V b
  have hwl := words_lt (b.length / V) V b hp.2
  have hwn := wordsN_len (b.length / V) V b
  have hrl : (b.drop (b.length / V * V)).length < V := by
    rw [List.length_drop]
    have := Nat.div_add_mod b.length V
    have h2 := Nat.mod_lt b.length (show V > 0 by omega)
    rw [Nat.mul_comm] at this
    omega
  have hdl := Nat.div_le_self b.length V
  have c1 := fun (W : World) (h : Rd W W.heap.size A (bvs b)) => wordTake_any V hV A b.length c b W h rfl hnc (by omega)
  have c2 := fun (W : World) (h : Rd W W.heap.size B (wvs l)) => wordLay_any V hV B l.length d l none 0 0 [] W h rfl hlt64 (Rd.nil_ _ _ _) rfl (by omega) (by omega)
  obtain ⟨L, hL⟩ : ∃ L, L = layW V l ++ [] := ⟨_, rfl⟩
  have hLl : L.length ≤ 800 := by
    rw [hL, List.append_nil, layW_len]
    exact Nat.le_trans (Nat.mul_le_mul (show l.length ≤ 100 by omega) hp.2) (by omega)
  rw [← hL] at hbw hbn c2
  have c3 := fun (A : Option Addr) (c : Nat) (W : World) (h : Rd W W.heap.size A (bvs L)) (hc : L.length ≤ c) => wordTake_any V hV A L.length c L W h rfl hc (by omega)
  rw [hbw, hbn] at c3
  have c4 := fun (W : World) (h : Rd W W.heap.size B (wvs l)) => refFit_any V hV B l.length d l W h rfl (by omega) hlt64
  obtain ⟨ws, hws⟩ : ∃ ws, ws = wordsN (b.length / V) V b := ⟨_, rfl⟩
  obtain ⟨rest, hrest⟩ : ∃ rest, rest = b.drop (b.length / V * V) := ⟨_, rfl⟩
  obtain ⟨fs, hfs⟩ : ∃ fs, fs = fitW V l := ⟨_, rfl⟩
  have hfl : fs.length = l.length := by rw [hfs, fitW_len]
  rw [← hws, ← hrest] at hbb c1
  rw [← hws] at hwl hwn
  rw [← hrest] at hrl
  rw [← hfs] at c3 c4
  have c5 := fun (A1 : Option Addr) (c1 : Nat) (A2 : Option Addr) (c2 : Nat) (W : World) (h : Rd W W.heap.size A1 (wvs ws)) (h2 : Rd W W.heap.size A2 (bvs rest)) => wordLay_any V hV A1 ws.length c1 ws A2 rest.length c2 rest W h rfl hwl h2 rfl (by omega) (by omega)
  rw [hbb] at c5
  have c6 := fun (A : Option Addr) (c : Nat) (A2 : Option Addr) (c2 : Nat) (W : World) (h : Rd W W.heap.size A (wvs fs)) (h2 : Rd W W.heap.size A2 (wvs fs)) => refSame_any A fs.length c A2 c2 fs W h h2 rfl (by omega)
  have C1 := Lib.hid c1
  have C2 := Lib.hid c2
  have C3 := Lib.hid c3
  have C4 := Lib.hid c4
  have C5 := Lib.hid c5
  have C6 := Lib.hid c6
  have hrl' : (rest.length : Int) < (V : Int) := by omega
  clear c1 c2 c3 c4 c5 c6 hL hws hrest hfs hbw hbn hbb hwl hwn hrl hdl hfl hLl hlt64
  go_enter Try.func9, Try.ntmps9
  go_wp2_with fail
  simp only [hs]
  clear hs
  refine (C1.out _ hr).mono ?_
  rintro e w1 ⟨v1, v2, rfl, hv1, hv2, hb1⟩
  have HV1 := Lib.hid hv1
  have HV2 := Lib.hid hv2
  have HRB := Lib.hid ((hr2.below hb1).more hb1.size)
  have HRA := Lib.hid ((hr.below hb1).more hb1.size)
  have HB1 := Lib.hid hb1
  clear hr hr2 hv1 hv2 hb1
  go_wp2_with fail
  refine (C2.out _ HRB.out).mono ?_
  rintro e w2 ⟨v3, rfl, ⟨A5, c5, rfl, hc5, hr5⟩, hb2⟩
  have HR5 := Lib.hid hr5
  have HB2 := Lib.hid hb2
  clear hr5 hb2
  go_wp2_with fail
  refine (C3.out _ _ _ HR5.out hc5).mono ?_
  rintro e w3 ⟨v4, v5, rfl, hv4, hv5, hb3⟩
  have hb23 := HB2.out.trans (hb3.mono HB2.out.size)
  have hbb := HB1.out.trans (hb23.mono HB1.out.size)
  obtain ⟨A1, c1, rfl, _, hr1⟩ := HV1.out.grow hb23
  obtain ⟨A2, c2, rfl, _, hr2⟩ := HV2.out.grow hb23
  obtain ⟨A3, c3, rfl, _, hr3⟩ := hv4
  obtain ⟨A4, c4, rfl, _, _⟩ := hv5
  have hrB := (HRB.out.below hb23).more hb23.size
  have hrA := (HRA.out.below hb23).more hb23.size
  rw [wvs_length, wvs_length]
  have HBB := Lib.hid hbb
  clear hb23 hb3 hbb hc5
  go_wp2
  have hnc' : b.length ≤ c := hnc
  refine wp_region_grow [⟨38, [], .is (.slice A1 ws.length c1)⟩,
    ⟨39, [], .is (.int .i64 (V : Int))⟩,
    ⟨40, [], .is (.slice A2 rest.length c2)⟩,
    ⟨41, [0, 1, 2], .bytes b⟩,
    ⟨42, [3], .is (.string ⟨b.toArray⟩)⟩,
    ⟨43, [], .bytes b⟩,
    ⟨44, [5], .is (.string ⟨b.toArray⟩)⟩,
    ⟨45, [4, 6], .is (.bool true)⟩,
    ⟨46, [7], .is (.bool true)⟩,
    ⟨47, [8], .is (.slice A2 rest.length c2)⟩,
    ⟨48, [9, 8], .is (.int .i64 (rest.length : Int))⟩,
    ⟨49, [8], .is (.int .i64 (V : Int))⟩,
    ⟨50, [10, 11, 8], .is (.bool true)⟩,
    ⟨51, [8, 12], .is (.bool true)⟩,
    ⟨52, [13], .is (.bool true)⟩,
    ⟨53, [14], .is (.slice A3 fs.length c3)⟩,
    ⟨54, [14], .is (.slice B l.length d)⟩,
    ⟨55, [14], .is (.int .i64 (V : Int))⟩,
    ⟨56, [16, 17, 14], .cells (wvs fs)⟩,
    ⟨57, [15, 18, 14], .is (.bool true)⟩,
    ⟨58, [14, 19], .is (.bool true)⟩,
    ⟨59, [20], .is (.bool true)⟩,
    ⟨60, [21], .is (.slice A4 0 c4)⟩,
    ⟨61, [22, 21], .is (.int .i64 0)⟩,
    ⟨62, [23, 21], .is (.bool true)⟩,
    ⟨63, [21, 24], .is (.bool true)⟩,
    ⟨64, [25], .is (.bool true)⟩,
    ⟨65, [26], .is (.bool true)⟩,
    ⟨66, [26, 27], .is (.bool true)⟩,
    ⟨6, [28], .is (.bool true)⟩]
    [(8, .slice A1 ws.length c1), (7, .int .i64 (V : Int)), (9, .slice A2 rest.length c2), (0, .slice A b.length c), (10, .slice A3 fs.length c3), (1, .slice B l.length d), (11, .slice A4 0 c4)] (by kernel_rfl) (by kernel_rfl) (by kernel_rfl) (by kernel_rfl) (by kernel_rfl) ⟨rfl, rfl, rfl, rfl, rfl, rfl, rfl, trivial⟩ ?_ ?_
  · repeat' (first | exact OblGAll.nil | refine OblGAll.cons ?_ ?_)
    all_goals (intro ev yi W' hB hc hf ho hn; simp only [OutsSay, NeedSay, rowAt, Fact.says, and_true] at ho hn)
    all_goals (try ((simp [OpSays, execOp, Region.wanted, Fact.says, boolOf, go_sem, ho, hn, hc, hrl', Below.refl]; done)))
    · rw [if_pos (by simp [Region.wanted])]
      exact says_call Try.call28 (vs := #[.slice A1 ws.length c1, .int .i64 (V : Int), .slice A2 rest.length c2]) rfl hf (by simp [hn]) ((C5.out A1 c1 A2 c2 W' ((hr1.below hB).more hB.size) ((hr2.below hB).more hB.size)).mono fun _ _ => NewBs.says')
    · rw [if_pos (by simp [Region.wanted])]
      exact says_str rfl Try.underlying23 Try.underlying5 Try.underlying9 hn.1 ⟨rfl, Below.refl _ _⟩
    · rw [if_pos (by simp [Region.wanted])]
      simp [OpSays, execOp, go_sem, ho]
      exact ⟨⟨A, c, rfl, hnc', (hrA.below hB).more hB.size⟩, Below.refl _ _⟩
    · rw [if_pos (by simp [Region.wanted])]
      exact says_str rfl Try.underlying23 Try.underlying5 Try.underlying9 hn.1 ⟨rfl, Below.refl _ _⟩
    · rw [if_pos (by simp [Region.wanted, hn, boolOf])]
      exact says_call Try.call30 (vs := #[.slice B l.length d, .int .i64 (V : Int)]) rfl hf (by simp [hn]) ((C4.out W' ((hrB.below hB).more hB.size)).mono fun _ _ h => h)
    · rw [if_pos (by simp [Region.wanted, hn, boolOf])]
      obtain ⟨A6, c6, hv6, _, hr6⟩ := hn.2.2.1
      rw [wvs_length] at hv6
      exact says_call Try.call23 (vs := #[.slice A3 fs.length c3, .slice A6 fs.length c6]) rfl hf (by simp [hn, hv6]) ((C6.out A3 c3 A6 c6 W' ((hr3.below hB).more hB.size) hr6).mono fun _ _ h => ⟨_, h.1, rfl, h.2⟩)
    · rw [if_pos (by simp [Region.wanted, hn, boolOf])]
      exact says_call Try.call20 (vs := #[]) rfl hf (by simp) ((wordKnown_any W').mono fun _ _ h => ⟨_, h.1, rfl, h.2⟩)
  · intro X w4 hb4 hx
    have h29 : X 29 = .bool true := hx 29 (by decide)
    clear hx
    have H29 := Lib.hid h29
    have hb5 := HBB.out.trans (hb4.mono HBB.out.size)
    clear h29 hb4
    simp only [layAll, List.setIfInBounds_toArray, List.set_cons_succ, List.set_cons_zero]
    go_wp2
    go_ret
    exact ⟨congrArg Ending.returned H29.out, hb5⟩

theorem wordBack_long (A : Option Addr) (n c : Nat) (B : Option Addr) (m d : Nat) (u : Int) (w : World) (h : (600 : Int) < (n : Int) ∨ (100 : Int) < (m : Int)) :
    Calls Try.prog 9 #[.slice A n c, .slice B m d, .int .u8 u] w (Yes w) := by
  by_cases h1 : (600 : Int) < (n : Int)
  · go_enter Try.func9, Try.ntmps9
    go_wp2_with (go_at_call 20; go_must (refine (wordKnown_any _).mono ?_; rintro e w' ⟨rfl, hb⟩))
    go_ret
    exact ⟨rfl, hb⟩
  · have h2 : (100 : Int) < (m : Int) := by omega
    go_enter Try.func9, Try.ntmps9
    go_wp2_with (go_at_call 20; go_must (refine (wordKnown_any _).mono ?_; rintro e w' ⟨rfl, hb⟩))
    go_ret
    exact ⟨rfl, hb⟩
theorem wordBack_law (A : Option Addr) (n c : Nat) (b : List UInt8) (B : Option Addr) (m d : Nat) (l : List Nat) (u : Nat) (w : World) (hr : Rd w w.heap.size A (bvs b)) (hn : b.length = n) (hnc : n ≤ c) (hr2 : Rd w w.heap.size B (wvs l)) (hm : l.length = m)
    (hlt64 : ∀ x ∈ l, x < 18446744073709551616) :
    Calls Try.prog 9 #[.slice A n c, .slice B m d, .int .u8 (u : Int)] w (Yes w) := by
  by_cases h : (600 : Int) < (n : Int) ∨ (100 : Int) < (m : Int)
  · exact wordBack_long A n c B m d _ w h
  · have hk : ∀ r : Nat, r < 4 → wrap64 (2 ^ r) = ((2 ^ r : Nat) : Int) ∧ IsW (2 ^ r) := by
      intro r hr
      rcases (show r = 0 ∨ r = 1 ∨ r = 2 ∨ r = 3 by omega) with rfl | rfl | rfl | rfl
      · exact ⟨IntWalk.wrap64_in _ (by decide), .inl rfl⟩
      · exact ⟨IntWalk.wrap64_in _ (by decide), .inr (.inl rfl)⟩
      · exact ⟨IntWalk.wrap64_in _ (by decide), .inr (.inr (.inl rfl))⟩
      · exact ⟨IntWalk.wrap64_in _ (by decide), .inr (.inr (.inr rfl))⟩
    obtain ⟨h1, h2⟩ := hk (u % 4) (by omega)
    exact wordBack_core (2 ^ (u % 4)) h2 A n c b B m d l u w hr hn hnc hr2 hm hlt64 (by omega) (by omega) h1
end Go.Proofs.Ytfflecnameiceaa
