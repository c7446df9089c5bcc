/- Contracts of layer 4: words, slices.Clone, Take of the code. -/
import Derived.Test.YtcjjlkfenlmmlaaWordRow
namespace Go.Proofs.Ytcjjlkfenlmmlaa
open Go.RowKit

set_option maxRecDepth 100000 in
theorem wordWordsF_any (W : Nat) (hW : IsW W) (A : Option Addr) (n c m : Nat) (l : List UInt8) (w : World) (hr : Rd w w.heap.size A (bvs l)) (hn : l.length = n) (hm : n = m * W) (hnc : n ≤ c) (hb1 : n ≤ 100000) :
    Calls Try.prog 42 #[.slice A n c, .int .i64 (W : Int)] w (NewWF w (wordsN m W l)) := by
  rcases hW with rfl | rfl | rfl | rfl
  · have c1 := row_u8 A n c m l w hr hn hm hnc hb1
    have C1 := Lib.hid c1
    clear c1 hn hm
    go_enter Try.func42, Try.ntmps42
    go_wp2_with (go_at_call 44; go_must (refine C1.out.mono ?_; rintro e w' ⟨v, rfl, h1, h2⟩))
    go_ret
    exact ⟨v, rfl, h1, h2⟩
  · have c1 := row_u16 A n c m l w hr hn hm hnc hb1
    have C1 := Lib.hid c1
    clear c1 hn hm
    go_enter Try.func42, Try.ntmps42
    go_wp2_with (go_at_call 45; go_must (refine C1.out.mono ?_; rintro e w' ⟨v, rfl, h1, h2⟩))
    go_ret
    exact ⟨v, rfl, h1, h2⟩
  · have c1 := row_u32 A n c m l w hr hn hm hnc hb1
    have C1 := Lib.hid c1
    clear c1 hn hm
    go_enter Try.func42, Try.ntmps42
    go_wp2_with (go_at_call 46; go_must (refine C1.out.mono ?_; rintro e w' ⟨v, rfl, h1, h2⟩))
    go_ret
    exact ⟨v, rfl, h1, h2⟩
  · have c1 := row_u64 A n c m l w hr hn hm hnc hb1
    have C1 := Lib.hid c1
    clear c1 hn hm
    go_enter Try.func42, Try.ntmps42
    go_wp2_with (go_at_call 47; go_must (refine C1.out.mono ?_; rintro e w' ⟨v, rfl, h1, h2⟩))
    go_ret
    exact ⟨v, rfl, h1, h2⟩

theorem wordWords_any (W : Nat) (hW : IsW W) (A : Option Addr) (n c m : Nat) (l : List UInt8) (w : World) (hr : Rd w w.heap.size A (bvs l)) (hn : l.length = n) (hm : n = m * W) (hnc : n ≤ c) (hb1 : n ≤ 100000) :
    Calls Try.prog 42 #[.slice A n c, .int .i64 (W : Int)] w (NewW w (wordsN m W l)) := (wordWordsF_any W hW A n c m l w hr hn hm hnc hb1).mono fun _ _ h => h.w

theorem info_u8w : (Try.prog.info? 5).map (fun i => (i.zero, i.size, i.bytes)) = some (some (.int .u8 0), 1, 1) := by kernel_rfl
/-- Bytes in a row that is new. -/
def FreshB (B : Nat) (l : List UInt8) (v : Value) (w : World) : Prop := IsBytes l v w ∧ FreshV B v
theorem FreshB.grow (B : Nat) (l : List UInt8) (v : Value) (w w' : World) (h : FreshB B l v w) (hb : Below w.heap.size w w') : FreshB B l v w' := ⟨h.1.grow hb, h.2⟩
def NewBF (w : World) (l : List UInt8) (e : Ending) (w' : World) : Prop := ∃ v, e = .returned v ∧ FreshB w.heap.size l v w' ∧ Below w.heap.size w w'
theorem fresh_own {w : World} {base e size n : Nat} {v : Value} {xs : List Value} (h : w.ownsRow base e size v n xs) : FreshV base v := by
  rcases h.2 with ⟨rfl, _⟩ | ⟨g, cap, cur, rfl, hb, _⟩
  · exact FreshV.nil _
  · exact FreshV.at_ hb
theorem size_u8w : (Try.prog.info? 5).map (·.size) = some 1 := by kernel_rfl

set_option maxRecDepth 100000 in
set_option maxHeartbeats 400000 in
theorem wcloneF_any (A : Option Addr) (n c : Nat) (l : List UInt8) (w : World) (hr : Rd w w.heap.size A (bvs l)) (hn : l.length = n) (hb1 : n ≤ 100000) :
    Calls Try.prog 43 #[.slice A n c] w (NewBF w l) := by
  obtain ⟨i0, hi, hz0, hz1, hz2⟩ := info_parts info_u8w
  cases A with
  | none =>
    have hl : l = [] := by
      cases l with
      | nil => rfl
      | cons a r => obtain ⟨_, _, e', _⟩ := hr 0 _ (bvs_get (a :: r) 0 (by simp)); cases e'
    subst hl
    have hnil := fun W => Lib.run_eql_slice_nil (P := Try.prog) W 32 5 none n c 0 0 Try.underlying32
    clear hn
    go_enter Try.func43, Try.ntmps43
    go_wp2
    go_ret
    exact ⟨.slice none 0 0, rfl, ⟨⟨none, 0, rfl, Nat.le_refl _, Rd.nil_ _ _ _⟩, FreshV.nil _⟩, Below.refl _ _⟩
  | some ad =>
    subst hn
    have hnil := fun W => Lib.run_eql_slice_nil (P := Try.prog) W 32 5 (some ad) l.length c 0 0 Try.underlying32
    have hnews : (bvs l).length = l.length * 1 := by rw [bvs_length, Nat.mul_one]
    have HNEWS := Lib.hid hnews
    clear hnews
    go_enter Try.func43, Try.ntmps43
    go_wp2_with ((with_reducible show wpList _ _ _ (({ dst := some 7, op := _, type := _, pos := _, after := _, guard := _ } : Oper) :: _) _ _); go_must (refine wpList_app rfl (.tmp 5) (.tmp 6) 32 rfl w.heap.size 5 i0 (.int .u8 0) 1 1 Try.underlying32 hi hz0 hz1 hz2 rfl (by decide) _ 0 [] rfl (World.ownsRow_made w #[] 0 (Nat.le_refl _) (Nat.zero_le _) rfl) w.heap.size (some ad) l.length c (bvs l) rfl (hr.alloc (Nat.le_refl _) _) HNEWS.out (bvs_one _) (by simp only [maxLen]; omega) (by omega) (by simp) ?_; intro v2 w2 hown2 hg2; rw [Nat.zero_add, List.nil_append] at hown2; have hb2 : Below w.heap.size w w2 := ((Below.refl _ _).alloc (Nat.le_refl _) _).grown hg2 (by simp) (own_block (World.ownsRow_made (e := 5) (size := 1) w #[] 0 (Nat.le_refl _) (Nat.zero_le _) rfl)); clear hg2))
    go_ret
    exact ⟨v2, rfl, ⟨IsBytes.of_own hown2, fresh_own hown2⟩, hb2⟩

/-- What hands back words, and the bytes that are left, in new memory. -/
theorem wclone_any (A : Option Addr) (n c : Nat) (l : List UInt8) (w : World) (hr : Rd w w.heap.size A (bvs l)) (hn : l.length = n) (hb1 : n ≤ 100000) :
    Calls Try.prog 43 #[.slice A n c] w (NewBs w l) := (wcloneF_any A n c l w hr hn hb1).mono fun _ _ h => by
  obtain ⟨v, he, h1, h2⟩ := h
  exact ⟨v, he, h1.1, h2⟩
def NewTake (w : World) (ws : List Nat) (l : List UInt8) (e : Ending) (w' : World) : Prop :=
  ∃ v1 v2, e = .returned (.tuple #[v1, v2]) ∧ IsCells (wvs ws) v1 w' ∧ IsBytes l v2 w' ∧ Below w.heap.size w w'

def NewTakeF (w : World) (ws : List Nat) (l : List UInt8) (e : Ending) (w' : World) : Prop :=
  ∃ v1 v2, e = .returned (.tuple #[v1, v2]) ∧ FreshC w.heap.size (wvs ws) v1 w' ∧ FreshB w.heap.size l v2 w' ∧ Below w.heap.size w w'
theorem NewTakeF.t {w : World} {ws : List Nat} {l : List UInt8} {e : Ending} {w' : World} (h : NewTakeF w ws l e w') : NewTake w ws l e w' := by
  obtain ⟨v1, v2, he, h1, h2, h3⟩ := h
  exact ⟨v1, v2, he, h1.1, h2.1, h3⟩

set_option maxRecDepth 100000 in
theorem wordTakeF_wrong (A : Option Addr) (n c : Nat) (W : Int) (w : World) (hW : rightB W = false) :
    Calls Try.prog 37 #[.slice A n c, .int .i64 W] w (NewTakeF w [] []) := by
  have c1 := wordRight_any W false hW.symm
  have C1 := Lib.hid c1
  clear c1
  go_enter Try.func37, Try.ntmps37
  go_wp2_with (go_at_call 41; go_must (refine (C1.out _).mono ?_; rintro e w' ⟨rfl, rfl⟩))
  go_ret2
  exact ⟨.slice none 0 0, .slice none 0 0, rfl, ⟨⟨none, 0, rfl, Nat.le_refl _, Rd.nil_ _ _ _⟩, FreshV.nil _⟩, ⟨⟨none, 0, rfl, Nat.le_refl _, Rd.nil_ _ _ _⟩, FreshV.nil _⟩, Below.refl _ _⟩
theorem wordTake_wrong (A : Option Addr) (n c : Nat) (W : Int) (w : World) (hW : rightB W = false) :
    Calls Try.prog 37 #[.slice A n c, .int .i64 W] w (NewTake w [] []) := (wordTakeF_wrong A n c W w hW).mono fun _ _ h => h.t

set_option maxHeartbeats 1000000 in
set_option maxRecDepth 100000 in
theorem wordTakeF_any (W : Nat) (hW : IsW W) (A : Option Addr) (n c : Nat) (l : List UInt8) (w : World) (hr : Rd w w.heap.size A (bvs l)) (hn : l.length = n) (hnc : n ≤ c) (hb1 : n ≤ 100000) :
    Calls Try.prog 37 #[.slice A n c, .int .i64 (W : Int)] w (NewTakeF w (wordsN (n / W) W l) (l.drop (n / W * W))) := by
  subst hn
  obtain ⟨m, hm⟩ : ∃ m, m = l.length / W := ⟨_, rfl⟩
  obtain ⟨q, hq⟩ : ∃ q, q = m * W := ⟨_, rfl⟩
  have hdm := Nat.div_add_mod l.length W
  rw [← hm, Nat.mul_comm, ← hq] at hdm
  have hW1 := hW.pos
  have hql : q ≤ l.length := by omega
  have hqc : q ≤ c := by omega
  have hend : (l.length : Int) - (l.length : Int) % (W : Int) = (q : Int) := by
    have : ((l.length : Int) % (W : Int)) = ((l.length % W : Nat) : Int) := by simp
    rw [this]; omega
  rw [← hm, ← hq]
  have hws := wordsN_take m W l
  rw [← hq] at hws
  obtain ⟨ws, hwse⟩ : ∃ ws, ws = wordsN m W l := ⟨_, rfl⟩
  rw [← hwse] at hws
  rw [← hwse]
  have hlq : (l.take q).length = q := by rw [List.length_take]; omega
  have c1 := wordRight_any (W : Int) true hW.right
  have c2 := fun (A : Option Addr) (c : Nat) (W' : World) (h : Rd W' W'.heap.size A (bvs (l.take q))) (hc : q ≤ c) => wordWordsF_any W hW A q c m (l.take q) W' h hlq hq hc (by omega)
  rw [hws] at c2
  have C1 := Lib.hid c1
  have C2 := Lib.hid c2
  have hWi : (1 : Int) ≤ (W : Int) := by omega
  clear c1 c2 hws hwse hlq hq hm hdm
  go_enter Try.func37, Try.ntmps37
  go_wp2_with (go_at_call 41; go_must (refine (C1.out _).mono ?_; rintro e w' ⟨rfl, rfl⟩))
  clear hend
  refine wp_region_grow [⟨17, [], .is (.slice A l.length c)⟩,
    ⟨18, [], .is (.int .i64 (q : Int))⟩,
    ⟨19, [0, 1], .is (.slice A q c)⟩,
    ⟨20, [], .is (.int .i64 (W : Int))⟩,
    ⟨21, [2, 3], .such (FreshC w.heap.size (wvs ws)) (FreshC.grow w.heap.size (wvs ws))⟩,
    ⟨22, [], .is (.slice A l.length c)⟩,
    ⟨23, [], .is (.int .i64 (q : Int))⟩,
    ⟨24, [5, 6], .bytes (l.drop q)⟩,
    ⟨25, [7], .such (FreshB w.heap.size (l.drop q)) (FreshB.grow w.heap.size (l.drop q))⟩,
    ⟨4, [4], .such (FreshC w.heap.size (wvs ws)) (FreshC.grow w.heap.size (wvs ws))⟩,
    ⟨5, [8], .such (FreshB w.heap.size (l.drop q)) (FreshB.grow w.heap.size (l.drop q))⟩]
    [(0, .slice A l.length c), (6, .int .i64 (q : Int)), (1, .int .i64 (W : Int))] (by kernel_rfl) (by kernel_rfl) (by kernel_rfl) (by kernel_rfl) (by kernel_rfl) ⟨rfl, rfl, rfl, trivial⟩ ?_ ?_
  · repeat' (first | exact OblGAll.nil | refine OblGAll.cons ?_ ?_)
    all_goals (intro ev yi W' hB _ hf ho hn; simp only [OutsSay, NeedSay, rowAt, Fact.says, and_true] at ho hn)
    all_goals (rw [if_pos (by simp [Region.wanted])])
    all_goals (try ((simp [OpSays, execOp, Fact.says, go_sem, ho, hn, hqc, Below.refl]; done)))
    · exact says_call Try.call42 (vs := #[.slice A q c, .int .i64 (W : Int)]) rfl hf (by simp [hn]) ((C2.out A c W' (by rw [← bvs_take]; exact ((hr.below hB).more hB.size).take q) hqc).mono fun _ _ h => by obtain ⟨v, he, h1, h2⟩ := h; exact ⟨v, he, ⟨h1.1, h1.2.low hB.size⟩, h2⟩)
    · refine says_from rfl Try.underlying32 size_u8w hn.1 hn.2.2.1 ((hr.below hB).more hB.size) (bvs_length l) hnc hql fun A' c' h1 h2 => ⟨⟨A', c', ?_, ?_, ?_⟩, Below.refl _ _⟩
      · rw [List.length_drop]
      · rw [List.length_drop]; exact h1
      · rw [← bvs_drop]; exact h2
    · obtain ⟨A', c', hv, h1, h2⟩ := hn.1
      rw [List.length_drop] at hv h1
      exact says_call Try.call43 (vs := #[.slice A' (l.length - q) c']) rfl hf (by simp [hv]) ((wcloneF_any A' (l.length - q) c' (l.drop q) W' h2 (List.length_drop) (by omega)).mono fun _ _ h => by obtain ⟨v, he, h1, h2⟩ := h; exact ⟨v, he, ⟨h1.1, h1.2.low hB.size⟩, h2⟩)
  · intro X w4 hb4 hx
    have h9 : FreshC w.heap.size (wvs ws) (X 9) w4 := hx 9 (by decide)
    have h10 : FreshB w.heap.size (l.drop q) (X 10) w4 := hx 10 (by decide)
    clear hx
    have H9 := Lib.hid h9
    have H10 := Lib.hid h10
    clear h9 h10
    simp only [layAll, List.setIfInBounds_toArray, List.set_cons_succ, List.set_cons_zero]
    go_wp2
    go_ret2
    exact ⟨_, _, rfl, H9.out, H10.out, hb4⟩
theorem wordTake_any (W : Nat) (hW : IsW W) (A : Option Addr) (n c : Nat) (l : List UInt8) (w : World) (hr : Rd w w.heap.size A (bvs l)) (hn : l.length = n) (hnc : n ≤ c) (hb1 : n ≤ 100000) :
    Calls Try.prog 37 #[.slice A n c, .int .i64 (W : Int)] w (NewTake w (wordsN (n / W) W l) (l.drop (n / W * W))) := (wordTakeF_any W hW A n c l w hr hn hnc hb1).mono fun _ _ h => h.t
end Go.Proofs.Ytcjjlkfenlmmlaa
