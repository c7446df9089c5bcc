/-
  Contracts of layer 4: words, slices.Clone, Take of the code. · Contracts of layer 4: Lay of the code and of the reference. · Contracts of layer 3's table: Make, More, Of. · A scope in which the run jumps back to one label. · Layer 11: how many bytes become of so many at most. · A slice of slices of bytes that came in.
-/
import Derived.Test.YtjignfnkcbklkaaQ04
import Derived.Test.YtjignfnkcbklkaaQ05
import Derived.ScopeJumps
import Derived.WalkMore
import Derived.Test.YtjignfnkcbklkaaProg
import Derived.Deep.Matrix
namespace Go.Proofs.Ytjignfnkcbklkaa
open Go.RowKit

set_option maxRecDepth 100000 in
theorem wordWordsF_any (W : Nat) (hW : IsW W) (A : Option Addr) (n c m : Nat) (l : List UInt8) (w : World) (hr : Rd w w.heap.size A (bvs l)) (hn : l.length = n) (hm : n = m * W) (hnc : n ≤ c) (hb1 : n ≤ 100000) :
    Calls Try.prog 60 #[.slice A n c, .int .i64 (W : Int)] w (NewWF w (wordsN m W l)) := by
  rcases hW with rfl | rfl | rfl | rfl
  · have c1 := row_u8 A n c m l w hr hn hm hnc hb1
    have C1 := Lib.hid c1
    clear c1 hn hm
    go_enter Try.func60, Try.ntmps60
    go_wp2_with (go_at_call 62; go_must (refine C1.out.mono ?_; rintro e w' ⟨v, rfl, h1, h2⟩))
    go_ret
    exact ⟨v, rfl, h1, h2⟩
  · have c1 := row_u16 A n c m l w hr hn hm hnc hb1
    have C1 := Lib.hid c1
    clear c1 hn hm
    go_enter Try.func60, Try.ntmps60
    go_wp2_with (go_at_call 63; go_must (refine C1.out.mono ?_; rintro e w' ⟨v, rfl, h1, h2⟩))
    go_ret
    exact ⟨v, rfl, h1, h2⟩
  · have c1 := row_u32 A n c m l w hr hn hm hnc hb1
    have C1 := Lib.hid c1
    clear c1 hn hm
    go_enter Try.func60, Try.ntmps60
    go_wp2_with (go_at_call 64; go_must (refine C1.out.mono ?_; rintro e w' ⟨v, rfl, h1, h2⟩))
    go_ret
    exact ⟨v, rfl, h1, h2⟩
  · have c1 := row_u64 A n c m l w hr hn hm hnc hb1
    have C1 := Lib.hid c1
    clear c1 hn hm
    go_enter Try.func60, Try.ntmps60
    go_wp2_with (go_at_call 65; go_must (refine C1.out.mono ?_; rintro e w' ⟨v, rfl, h1, h2⟩))
    go_ret
    exact ⟨v, rfl, h1, h2⟩

theorem info_u8w : (Try.prog.info? 5).map (fun i => (i.zero, i.size, i.bytes)) = some (some (.int .u8 0), 1, 1) := by kernel_rfl
/-- Bytes in a row that is new. -/
def FreshB (B : Nat) (l : List UInt8) (v : Value) (w : World) : Prop := IsBytes l v w ∧ FreshV B v
theorem FreshB.grow (B : Nat) (l : List UInt8) (v : Value) (w w' : World) (h : FreshB B l v w) (hb : Below w.heap.size w w') : FreshB B l v w' := ⟨h.1.grow hb, h.2⟩
def NewBF (w : World) (l : List UInt8) (e : Ending) (w' : World) : Prop := ∃ v, e = .returned v ∧ FreshB w.heap.size l v w' ∧ Below w.heap.size w w'
theorem fresh_own {w : World} {base e size n : Nat} {v : Value} {xs : List Value} (h : w.ownsRow base e size v n xs) : FreshV base v := by
  rcases h.2 with ⟨rfl, _⟩ | ⟨g, cap, cur, rfl, hb, _⟩
  · exact FreshV.nil _
  · exact FreshV.at_ hb
theorem size_u8w : (Try.prog.info? 5).map (·.size) = some 1 := by kernel_rfl

set_option maxRecDepth 100000 in
set_option maxHeartbeats 400000 in
theorem wcloneF_any (A : Option Addr) (n c : Nat) (l : List UInt8) (w : World) (hr : Rd w w.heap.size A (bvs l)) (hn : l.length = n) (hb1 : n ≤ 100000) :
    Calls Try.prog 61 #[.slice A n c] w (NewBF w l) := by
  obtain ⟨i0, hi, hz0, hz1, hz2⟩ := info_parts info_u8w
  cases A with
  | none =>
    have hl : l = [] := by
      cases l with
      | nil => rfl
      | cons a r => obtain ⟨_, _, e', _⟩ := hr 0 _ (bvs_get (a :: r) 0 (by simp)); cases e'
    subst hl
    have hnil := fun W => Lib.run_eql_slice_nil (P := Try.prog) W 29 5 none n c 0 0 Try.underlying29
    clear hn
    go_enter Try.func61, Try.ntmps61
    go_wp2
    go_ret
    exact ⟨.slice none 0 0, rfl, ⟨⟨none, 0, rfl, Nat.le_refl _, Rd.nil_ _ _ _⟩, FreshV.nil _⟩, Below.refl _ _⟩
  | some ad =>
    subst hn
    have hnil := fun W => Lib.run_eql_slice_nil (P := Try.prog) W 29 5 (some ad) l.length c 0 0 Try.underlying29
    have hnews : (bvs l).length = l.length * 1 := by rw [bvs_length, Nat.mul_one]
    have HNEWS := Lib.hid hnews
    clear hnews
    go_enter Try.func61, Try.ntmps61
    go_wp2_with ((with_reducible show wpList _ _ _ (({ dst := some 7, op := _, type := _, pos := _, after := _, guard := _ } : Oper) :: _) _ _); go_must (refine wpList_app rfl (.tmp 5) (.tmp 6) 29 rfl w.heap.size 5 i0 (.int .u8 0) 1 1 Try.underlying29 hi hz0 hz1 hz2 rfl (by decide) _ 0 [] rfl (World.ownsRow_made w #[] 0 (Nat.le_refl _) (Nat.zero_le _) rfl) w.heap.size (some ad) l.length c (bvs l) rfl (hr.alloc (Nat.le_refl _) _) HNEWS.out (bvs_one _) (by simp only [maxLen]; omega) (by omega) (by simp) ?_; intro v2 w2 hown2 hg2; rw [Nat.zero_add, List.nil_append] at hown2; have hb2 : Below w.heap.size w w2 := ((Below.refl _ _).alloc (Nat.le_refl _) _).grown hg2 (by simp) (own_block (World.ownsRow_made (e := 5) (size := 1) w #[] 0 (Nat.le_refl _) (Nat.zero_le _) rfl)); clear hg2))
    go_ret
    exact ⟨v2, rfl, ⟨IsBytes.of_own hown2, fresh_own hown2⟩, hb2⟩

def NewTake (w : World) (ws : List Nat) (l : List UInt8) (e : Ending) (w' : World) : Prop :=
  ∃ v1 v2, e = .returned (.tuple #[v1, v2]) ∧ IsCells (wvs ws) v1 w' ∧ IsBytes l v2 w' ∧ Below w.heap.size w w'

def NewTakeF (w : World) (ws : List Nat) (l : List UInt8) (e : Ending) (w' : World) : Prop :=
  ∃ v1 v2, e = .returned (.tuple #[v1, v2]) ∧ FreshC w.heap.size (wvs ws) v1 w' ∧ FreshB w.heap.size l v2 w' ∧ Below w.heap.size w w'
theorem NewTakeF.t {w : World} {ws : List Nat} {l : List UInt8} {e : Ending} {w' : World} (h : NewTakeF w ws l e w') : NewTake w ws l e w' := by
  obtain ⟨v1, v2, he, h1, h2, h3⟩ := h
  exact ⟨v1, v2, he, h1.1, h2.1, h3⟩

set_option maxHeartbeats 1000000 in
set_option maxRecDepth 100000 in
theorem wordTakeF_any (W : Nat) (hW : IsW W) (A : Option Addr) (n c : Nat) (l : List UInt8) (w : World) (hr : Rd w w.heap.size A (bvs l)) (hn : l.length = n) (hnc : n ≤ c) (hb1 : n ≤ 100000) :
    Calls Try.prog 59 #[.slice A n c, .int .i64 (W : Int)] w (NewTakeF w (wordsN (n / W) W l) (l.drop (n / W * W))) := by
  subst hn
  obtain ⟨m, hm⟩ : ∃ m, m = l.length / W := ⟨_, rfl⟩
  obtain ⟨q, hq⟩ : ∃ q, q = m * W := ⟨_, rfl⟩
  have hdm := Nat.div_add_mod l.length W
  rw [← hm, Nat.mul_comm, ← hq] at hdm
  have hW1 := hW.pos
  have hql : q ≤ l.length := by omega
  have hqc : q ≤ c := by omega
  have hend : (l.length : Int) - (l.length : Int) % (W : Int) = (q : Int) := by
    have : ((l.length : Int) % (W : Int)) = ((l.length % W : Nat) : Int) := by simp
    rw [this]; omega
  rw [← hm, ← hq]
  have hws := wordsN_take m W l
  rw [← hq] at hws
  obtain ⟨ws, hwse⟩ : ∃ ws, ws = wordsN m W l := ⟨_, rfl⟩
  rw [← hwse] at hws
  rw [← hwse]
  have hlq : (l.take q).length = q := by rw [List.length_take]; omega
  have c1 := wordRight_any (W : Int) true hW.right
  have c2 := fun (A : Option Addr) (c : Nat) (W' : World) (h : Rd W' W'.heap.size A (bvs (l.take q))) (hc : q ≤ c) => wordWordsF_any W hW A q c m (l.take q) W' h hlq hq hc (by omega)
  rw [hws] at c2
  have C1 := Lib.hid c1
  have C2 := Lib.hid c2
  have hWi : (1 : Int) ≤ (W : Int) := by omega
  clear c1 c2 hws hwse hlq hq hm hdm
  go_enter Try.func59, Try.ntmps59
  go_wp2_with (go_at_call 41; go_must (refine (C1.out _).mono ?_; rintro e w' ⟨rfl, rfl⟩))
  clear hend
  refine wp_region_grow [⟨17, [], .is (.slice A l.length c)⟩,
    ⟨18, [], .is (.int .i64 (q : Int))⟩,
    ⟨19, [0, 1], .is (.slice A q c)⟩,
    ⟨20, [], .is (.int .i64 (W : Int))⟩,
    ⟨21, [2, 3], .such (FreshC w.heap.size (wvs ws)) (FreshC.grow w.heap.size (wvs ws))⟩,
    ⟨22, [], .is (.slice A l.length c)⟩,
    ⟨23, [], .is (.int .i64 (q : Int))⟩,
    ⟨24, [5, 6], .bytes (l.drop q)⟩,
    ⟨25, [7], .such (FreshB w.heap.size (l.drop q)) (FreshB.grow w.heap.size (l.drop q))⟩,
    ⟨4, [4], .such (FreshC w.heap.size (wvs ws)) (FreshC.grow w.heap.size (wvs ws))⟩,
    ⟨5, [8], .such (FreshB w.heap.size (l.drop q)) (FreshB.grow w.heap.size (l.drop q))⟩]
    [(0, .slice A l.length c), (6, .int .i64 (q : Int)), (1, .int .i64 (W : Int))] (by kernel_rfl) (by kernel_rfl) (by kernel_rfl) (by kernel_rfl) (by kernel_rfl) ⟨rfl, rfl, rfl, trivial⟩ ?_ ?_
  · repeat' (first | exact OblGAll.nil | refine OblGAll.cons ?_ ?_)
    all_goals (intro ev yi W' hB _ hf ho hn; simp only [OutsSay, NeedSay, rowAt, Fact.says, and_true] at ho hn)
    all_goals (rw [if_pos (by simp [Region.wanted])])
    all_goals (try ((simp [OpSays, execOp, Fact.says, go_sem, ho, hn, hqc, Below.refl]; done)))
    · exact says_call Try.call60 (vs := #[.slice A q c, .int .i64 (W : Int)]) rfl hf (by simp [hn]) ((C2.out A c W' (by rw [← bvs_take]; exact ((hr.below hB).more hB.size).take q) hqc).mono fun _ _ h => by obtain ⟨v, he, h1, h2⟩ := h; exact ⟨v, he, ⟨h1.1, h1.2.low hB.size⟩, h2⟩)
    · refine says_from rfl Try.underlying29 size_u8w hn.1 hn.2.2.1 ((hr.below hB).more hB.size) (bvs_length l) hnc hql fun A' c' h1 h2 => ⟨⟨A', c', ?_, ?_, ?_⟩, Below.refl _ _⟩
      · rw [List.length_drop]
      · rw [List.length_drop]; exact h1
      · rw [← bvs_drop]; exact h2
    · obtain ⟨A', c', hv, h1, h2⟩ := hn.1
      rw [List.length_drop] at hv h1
      exact says_call Try.call61 (vs := #[.slice A' (l.length - q) c']) rfl hf (by simp [hv]) ((wcloneF_any A' (l.length - q) c' (l.drop q) W' h2 (List.length_drop) (by omega)).mono fun _ _ h => by obtain ⟨v, he, h1, h2⟩ := h; exact ⟨v, he, ⟨h1.1, h1.2.low hB.size⟩, h2⟩)
  · intro X w4 hb4 hx
    have h9 : FreshC w.heap.size (wvs ws) (X 9) w4 := hx 9 (by decide)
    have h10 : FreshB w.heap.size (l.drop q) (X 10) w4 := hx 10 (by decide)
    clear hx
    have H9 := Lib.hid h9
    have H10 := Lib.hid h10
    clear h9 h10
    simp only [layAll, List.setIfInBounds_toArray, List.set_cons_succ, List.set_cons_zero]
    go_wp2
    go_ret2
    exact ⟨_, _, rfl, H9.out, H10.out, hb4⟩
theorem wordTake_any (W : Nat) (hW : IsW W) (A : Option Addr) (n c : Nat) (l : List UInt8) (w : World) (hr : Rd w w.heap.size A (bvs l)) (hn : l.length = n) (hnc : n ≤ c) (hb1 : n ≤ 100000) :
    Calls Try.prog 59 #[.slice A n c, .int .i64 (W : Int)] w (NewTake w (wordsN (n / W) W l) (l.drop (n / W * W))) := (wordTakeF_any W hW A n c l w hr hn hnc hb1).mono fun _ _ h => h.t
end Go.Proofs.Ytjignfnkcbklkaa
namespace Go.Proofs.Ytjignfnkcbklkaa
open Go.RowKit

/-- What holds at the head of a round over the words: the words ahead are laid. -/
def LayRelW (w : World) (W : Nat) (ws : List Nat) (v i : Value) (wr : World) : Prop :=
  ∃ (k : Nat) (out : List UInt8), k ≤ ws.length ∧ i = .int .i64 k ∧ Hid (out = layW W (ws.take k)) ∧ out.length = k * W ∧ wr.ownsRow w.heap.size 5 1 v out.length (bvs out) ∧ Below w.heap.size w wr
/-- .. over a word's bytes. -/
def LayByte (w : World) (W x n0 : Nat) (out : List UInt8) (v t j : Value) (wr : World) : Prop :=
  ∃ (k : Nat) (o : List UInt8), k ≤ W ∧ j = .int .i64 k ∧ t = .int .u64 ((x / 256 ^ k : Nat) : Int) ∧ Hid (o = out ++ leB k x) ∧ o.length = n0 + k ∧ wr.ownsRow w.heap.size 5 1 v o.length (bvs o) ∧ Below w.heap.size w wr

set_option maxHeartbeats 1000000 in
set_option maxRecDepth 100000 in
theorem wordLay_any (W : Nat) (hW : IsW W) (A : Option Addr) (n c : Nat) (ws : List Nat) (A2 : Option Addr) (r c2 : Nat) (rest : List UInt8) (w : World) (hr : Rd w w.heap.size A (wvs ws)) (hn : ws.length = n) (hlt64 : ∀ x ∈ ws, x < 18446744073709551616) (hr2 : Rd w w.heap.size A2 (bvs rest)) (hrl : rest.length = r) (hb1 : n ≤ 100000) (hb2 : r ≤ 100000) :
    Calls Try.prog 43 #[.slice A n c, .int .i64 (W : Int), .slice A2 r c2] w (NewBs w (layW W ws ++ rest)) := by
  obtain ⟨j0, hj, hy0, hy1, hy2⟩ := info_parts info_u8w
  subst hn hrl
  have hW1 := hW.pos
  have c1 := wordRight_any (W : Int) true hW.right
  have C1 := Lib.hid c1
  have H64 := Lib.hid hlt64
  clear c1 hW hlt64
  go_enter Try.func43, Try.ntmps43
  have hprod : ws.length * W ≤ 800000 := by
    have : ws.length * W ≤ 100000 * 8 := Nat.mul_le_mul hb1 hW1.2
    omega
  obtain ⟨S, hS⟩ : ∃ S, S = ws.length * W := ⟨_, rfl⟩
  rw [← hS] at hprod
  have hSi : (ws.length : Int) * (W : Int) = (S : Int) := by rw [hS]; simp
  have HS := Lib.hid hS
  clear hS
  go_wp2_with (first
    | (go_at_call 41; go_must (refine (C1.out _).mono ?_; rintro e w' ⟨rfl, rfl⟩))
    | (at_make; go_must (refine wpList_mk rfl (.const (.int .i64 0)) (.tmp 19) 29 rfl w.heap.size 5 j0 (.int .u8 0) 1 Try.underlying29 hj hy0 rfl hy1 hy2 .i64 .i64 0 _ rfl rfl 0 (S + rest.length) rfl (by omega) (by omega) (by omega) (by simp only [maxLen]; omega) (Nat.le_refl _) ?_; intro w0 hg0 hown0 hgr0; have hb0 : Below w.heap.size w w0 := (Below.refl _ _).grown hgr0 (Nat.le_refl _) (by simp); clear hg0 hgr0)))
  clear hSi
  go_loopw [7, 23] (LayRelW w W ws) (fun _ i _ => ws.length - (intOf i).toNat)
  case atStart => exact ⟨0, [], Nat.zero_le _, rfl, rfl, by simp, by simpa [bvs] using hown0, hb0⟩
  case round =>
    obtain ⟨k, out, hk, rfl, HO, hol, hown, hb⟩ := hrel
    have hbs := hb.size
    have hkW : k * W ≤ 800000 := by
      have : k * W ≤ 100000 * 8 := Nat.mul_le_mul (by omega) hW1.2
      omega
    by_cases hlt : k < ws.length
    · obtain ⟨ab, ao, rfl, hab, hcell0⟩ := hr k _ (wvs_get ws k hlt)
      have hcell := (hb.cell (p := ⟨ab, ao + k, none⟩) hab).trans hcell0
      obtain ⟨x, hx⟩ : ∃ x, x = ws[k] := ⟨_, rfl⟩
      have hx64 : x < 18446744073709551616 := by rw [hx]; exact H64.out _ (List.getElem_mem _)
      rw [← hx] at hcell
      have hnext : Hid (layW W (ws.take (k + 1)) = out ++ leB W x) := by rw [layW_snoc W ws k hlt, HO.out, hx]; exact rfl
      have hd : decide ((k : Int) < (ws.length : Int)) = true := by rw [decide_eq_true_eq]; omega
      clear hx hcell0
      go_wp2
      go_loopw [7, 9, 28] (LayByte w W x (k * W) out) (fun _ _ i _ => W - (intOf i).toNat)
      case atStart => exact ⟨0, out, Nat.zero_le _, rfl, by simp, by simp [leB, Hid], by omega, hown, hb⟩
      case round =>
        clear hown hb hcell
        obtain ⟨j, o, hjW, rfl, rfl, Ho, hoL, hown, hb⟩ := hrel
        have hbs := hb.size
        by_cases hjl : j < W
        · obtain ⟨y, hy⟩ : ∃ y, y = x / 256 ^ j := ⟨_, rfl⟩
          have hy64 : y < 18446744073709551616 := by rw [hy]; exact Nat.lt_of_le_of_lt (Nat.div_le_self _ _) hx64
          have hyn : Hid (x / 256 ^ (j + 1) = y / 256) := by rw [hy, Nat.div_div_eq_div_mul, Nat.pow_succ]; exact rfl
          have hsn : Hid (out ++ leB (j + 1) x = o ++ [UInt8.ofNat (y % 256)]) := by rw [leB_snoc, Ho.out, ← hy, List.append_assoc]; exact rfl
          rw [← hy]
          clear hy Ho
          go_wp2_with ((with_reducible show wpList _ _ _ (({ dst := some 34, op := _, type := _, pos := _, after := _, guard := _ } : Oper) :: _) _ _); go_must (refine wpList_app rfl (.tmp 30) (.tmp 33) 29 rfl w.heap.size 5 j0 (.int .u8 0) 1 1 Try.underlying29 hj hy0 hy1 hy2 rfl (by decide) _ _ _ rfl (hown.alloc _) _ _ 1 1 _ rfl (Rd.new _ _ _) rfl (by intro u hu; simp at hu; subst hu; rfl) (by simp only [maxLen]; omega) (by omega) (by simp; omega) ?_; intro v1 w1 hown1 hg1; have hb1 : Below w.heap.size w w1 := (hb.alloc hbs _).grown hg1 (by simp; omega) (own_block hown); clear hg1 hown hb))
          have hown2 : w1.ownsRow w.heap.size 5 1 v1 (o ++ [UInt8.ofNat (y % 256)]).length (bvs (o ++ [UInt8.ofNat (y % 256)])) := by
            rw [bvs_push, List.length_append]; exact hown1
          clear hown1
          go_roundw
          case rel => exact ⟨j + 1, o ++ [UInt8.ofNat (y % 256)], by omega, by go_num, by rw [hyn.out]; go_num, hsn.out.symm, by rw [List.length_append]; simp only [List.length_cons, List.length_nil]; omega, hown2, hb1⟩
          case measure => simp [intOf]; omega
        · obtain rfl : j = W := by omega
          go_wp2
          go_roundw
          case rel => exact ⟨k + 1, o, by omega, by go_num, by rw [Ho.out, ← hnext.out]; exact rfl, by rw [hoL, Nat.add_mul, Nat.one_mul], hown, hb⟩
          case measure => simp [intOf]; omega
    · obtain rfl : k = ws.length := by omega
      rw [List.take_length] at HO
      have hnews : (bvs rest).length = rest.length * 1 := by rw [bvs_length, Nat.mul_one]
      have HNEWS := Lib.hid hnews
      clear hnews
      go_wp2_with ((with_reducible show wpList _ _ _ (({ dst := some 41, op := _, type := _, pos := _, after := _, guard := _ } : Oper) :: _) _ _); go_must (refine wpList_app rfl (.tmp 39) (.tmp 40) 29 rfl w.heap.size 5 j0 (.int .u8 0) 1 1 Try.underlying29 hj hy0 hy1 hy2 rfl (by decide) _ _ _ rfl hown w.heap.size A2 rest.length c2 (bvs rest) rfl (hr2.below hb) HNEWS.out (bvs_one _) (by simp only [maxLen]; omega) (by omega) hbs ?_; intro v1 w1 hown1 hg1; have hb1 : Below w.heap.size w w1 := hb.grown hg1 hbs (own_block hown); clear hg1 hown hb))
      go_ret
      refine ⟨v1, rfl, ?_, hb1⟩
      rw [← HO.out]
      apply IsBytes.of_own (base := w.heap.size) (e := 5)
      rw [List.length_append, bvs_append]
      exact hown1
end Go.Proofs.Ytjignfnkcbklkaa
namespace Go.Proofs.Ytjignfnkcbklkaa
open Go.RowKit

/-- The table's cells: the first k are laid. -/
def tabC (k : Nat) : List Value := (List.range 256).map fun i => .int .u32 (if i < k then ((steps 8 (BitVec.ofNat 32 i)).toNat : Int) else 0)
def tab0 : Array Value := (tabC 0).toArray
theorem zeroTable (w : World) : Sem.run Try.prog (zeroValue 98) w = .ok (.agg tab0) w := by kernel_rfl

theorem tabC_get (k i : Nat) (h : i < 256) : (tabC k)[i]? = some (.int .u32 (if i < k then ((steps 8 (BitVec.ofNat 32 i)).toNat : Int) else 0)) := by simp [tabC, h]
theorem tabC_set (k : Nat) (h : k < 256) : (tabC k).set k (.int .u32 ((steps 8 (BitVec.ofNat 32 k)).toNat : Int)) = tabC (k + 1) := by
  apply List.ext_getElem?
  intro i
  rw [List.getElem?_set]
  by_cases hi : i < 256
  · rw [tabC_get _ _ hi, tabC_get _ _ hi]
    by_cases e : k = i
    · subst e
      rw [if_pos rfl, if_pos (by simpa [tabC] using hi), if_pos (by omega)]
    · rw [if_neg e]
      by_cases g : i < k
      · rw [if_pos g, if_pos (by omega)]
      · rw [if_neg g, if_neg (by omega)]
  · have hl : ∀ j, (tabC j).length = 256 := fun j => by simp [tabC]
    rw [if_neg (by omega), List.getElem?_eq_none (by rw [hl]; omega), List.getElem?_eq_none (by rw [hl]; omega)]

/-- A table lies at this place. -/
def IsTab (w : World) (g : Nat) : Prop := Blk w g 98 (tabC 256)
/-- What hands back a new table. -/
def NewTab (w : World) (e : Ending) (w' : World) : Prop := ∃ g, e = .returned (.pointer (some ⟨g, 0, none⟩)) ∧ w.heap.size ≤ g ∧ IsTab w' g ∧ Below w.heap.size w w'
/-- What holds at the head of a round of Make. -/
def MakeRel (w : World) (i : Value) (wr : World) : Prop := ∃ k : Nat, k ≤ 256 ∧ i = .int .i64 k ∧ Blk wr w.heap.size 98 (tabC k) ∧ Below w.heap.size w wr

set_option maxHeartbeats 400000 in
set_option maxRecDepth 100000 in
theorem crcMake_any (w : World) : Calls Try.prog 44 #[] w (NewTab w) := by
  have hz := zeroTable
  go_enter Try.func44, Try.ntmps44
  go_wp2
  clear hz
  go_loopw [6] (MakeRel w) (fun i _ => 256 - (intOf i).toNat)
  case atStart => exact ⟨0, Nat.zero_le _, rfl, heap_alloc_new w _, (Below.refl _ _).alloc (Nat.le_refl _) _⟩
  case round =>
    obtain ⟨k, hk, rfl, hblk, hb⟩ := hrel
    by_cases hlt : k < 256
    · have hcell := hblk.cell k
      rw [tabC_get k k hlt, if_neg (Nat.lt_irrefl k)] at hcell
      have hfr := hblk.frozen k
      have hset := hblk.set_ k (.int .u32 ((steps 8 (BitVec.ofNat 32 k)).toNat : Int))
      rw [tabC_set k hlt] at hset
      obtain ⟨F, hF⟩ : ∃ F, F = steps 8 (BitVec.ofNat 32 k) := ⟨_, rfl⟩
      rw [← hF] at hset
      have HSET := Lib.hid hset
      have HF : Hid (steps (8 - 0) (BitVec.ofNat 32 k) = F) := hF.symm
      have HK : Hid (Value.int .u32 (k : Int) = .int .u32 ((BitVec.ofNat 32 k).toNat : Int)) := by
        show _ = _
        rw [BitVec.toNat_ofNat, Nat.mod_eq_of_lt (by omega)]
      have hd : decide ((k : Int) < 256) = true := by rw [decide_eq_true_eq]; omega
      clear hset hF hblk
      go_wp2
      go_loop [3, 11] (StepsRel 8 F) (fun _ i => 8 - (intOf i).toNat)
      case atStart => exact ⟨0, _, Nat.zero_le _, HK.out, rfl, HF⟩
      case round =>
        obtain ⟨m, x, hm, rfl, rfl, Hrel⟩ := hrel
        by_cases hmlt : m < 8
        · have Hn := StepsRel.next Hrel hmlt
          clear Hrel
          go_wp2_with (go_at_call 54; go_must (refine (crcStep_any _ _).mono ?_; rintro e w' ⟨rfl, rfl⟩))
          go_round
          case rel => exact ⟨m + 1, step x, by omega, rfl, by go_num, Hn⟩
          case measure => simp [intOf]; omega
        · obtain rfl : m = 8 := by omega
          have hx : x = F := by have := Hrel.out; rwa [Nat.sub_self] at this
          subst hx
          clear Hrel HF
          go_wp2
          go_roundw
          case rel => exact ⟨k + 1, by omega, by go_num, HSET.out, hb.setCell (Nat.le_refl _) _⟩
          case measure => simp [intOf]; omega
    · obtain rfl : k = 256 := by omega
      go_wp2
      go_ret
      exact ⟨_, rfl, Nat.le_refl _, hblk, hb⟩

/- the table's place in a step -/
theorem xor_lt256 (a b : Nat) (ha : a < 256) (hb : b < 256) : a ^^^ b < 256 := Nat.xor_lt_two_pow (n := 8) ha hb
theorem shr8_u32 (r : BitVec 32) : (r.toNat : Int) / (256 : Int) = ((r >>> 8).toNat : Int) := by
  rw [BitVec.toNat_ushiftRight, Nat.shiftRight_eq_div_pow]; omega

set_option maxHeartbeats 400000 in
set_option maxRecDepth 100000 in
theorem crcMore_any (g : Nat) (s : BitVec 32) (A : Option Addr) (n c : Nat) (l : List UInt8) (w : World) (ht : IsTab w g) (hr : Rd w w.heap.size A (bvs l)) (hn : l.length = n) (hn1 : n ≤ 9223372036854775807) :
    Calls Try.prog 55 #[.pointer (some ⟨g, 0, none⟩), .int .u32 (s.toNat : Int), .slice A n c] w fun e w' => e = .returned (.int .u32 ((more s l).toNat : Int)) ∧ w = w' := by
  subst hn
  have hnot := not_u32 s
  have hsg := u32_plain
  obtain ⟨M, hM⟩ : ∃ M, M = more s l := ⟨_, rfl⟩
  rw [← hM]
  obtain ⟨q, hq⟩ : ∃ q, q = ~~~ s := ⟨_, rfl⟩
  rw [← hq] at hnot
  unfold more at hM
  rw [← hq] at hM
  have HM := Lib.hid hM
  clear hM hq
  go_enter Try.func55, Try.ntmps55
  go_wp2
  go_loop [7, 16] (MoreRel l q) (fun _ i => l.length - (intOf i).toNat)
  case atStart => exact ⟨0, Nat.zero_le _, rfl, rfl⟩
  case round =>
    obtain ⟨k, hk, rfl, rfl⟩ := hrel
    clear hnot
    by_cases hlt : k < l.length
    · obtain ⟨ab, ao, rfl, _, hcell⟩ := hr k _ (bvs_get l k hlt)
      have hsn := reg_snoc q l k hlt
      obtain ⟨x, hx⟩ : ∃ x, x = reg q (l.take k) := ⟨_, rfl⟩
      obtain ⟨b, hb⟩ : ∃ b, b = l[k] := ⟨_, rfl⟩
      rw [← hb] at hcell
      rw [← hx, ← hb] at hsn
      rw [← hx]
      have hb8 := b.toNat_lt
      obtain ⟨j, hj⟩ : ∃ j, j = (x.toNat % 256) ^^^ b.toNat := ⟨_, rfl⟩
      have hj256 : j < 256 := by rw [hj]; exact xor_lt256 _ _ (by omega) (by omega)
      have hx8 : bits .xor .u8 ((x.toNat : Int) % 256) (b.toNat : Int) = (j : Int) := by
        rw [show (x.toNat : Int) % 256 = ((x.toNat % 256 : Nat) : Int) by omega, u8_xor_nat _ _ (by omega) (by omega), hj]
      have htab := ht.cell j
      rw [tabC_get 256 j hj256, if_pos hj256] at htab
      obtain ⟨y, hy⟩ : ∃ y, y = steps 8 (BitVec.ofNat 32 j) := ⟨_, rfl⟩
      rw [← hy] at htab
      have hts : (x >>> 8) ^^^ y = steps 8 (x ^^^ BitVec.ofNat 32 b.toNat) := by
        rw [hy, hj]; exact table_step x b
      rw [← hsn] at hts
      obtain ⟨z, hz⟩ : ∃ z, z = x >>> 8 := ⟨_, rfl⟩
      have hsh := shr8_u32 x
      rw [← hz] at hsh hts
      have hxor := xor_u32 z y
      rw [hts] at hxor
      have HX := Lib.hid hxor
      have hx1 : (x.toNat : Int) ≤ 4294967295 := by have := x.isLt; omega
      have hx0 : (0 : Int) ≤ (x.toNat : Int) := by omega
      have hb255 : (b.toNat : Int) ≤ 255 := by omega
      have hb0 : 0 ≤ (b.toNat : Int) := by omega
      have HSH := Lib.hid hsh
      clear hsn hx hb hy hj hz hxor hts hsh hb8
      go_wp2
      go_round
      case rel => exact ⟨k + 1, by omega, by go_num, by rw [← HX.out, ← HSH.out]⟩
      case measure => simp [intOf]; omega
    · obtain rfl : k = l.length := by omega
      rw [List.take_length]
      obtain ⟨x, hx⟩ : ∃ x, x = reg q l := ⟨_, rfl⟩
      have hm : M = ~~~ x := by rw [HM.out, hx]
      rw [← hx]
      have hnot := not_u32 x
      rw [← hm] at hnot
      clear hx hm
      go_wp2
      go_ret
      exact ⟨rfl, rfl⟩

theorem crcOf_any (g : Nat) (A : Option Addr) (n c : Nat) (l : List UInt8) (w : World) (ht : IsTab w g) (hr : Rd w w.heap.size A (bvs l)) (hn : l.length = n) (hn1 : n ≤ 9223372036854775807) :
    Calls Try.prog 45 #[.pointer (some ⟨g, 0, none⟩), .slice A n c] w fun e w' => e = .returned (.int .u32 ((crcOf l).toNat : Int)) ∧ w = w' := by
  have c1 := crcMore_any g 0#32 A n c l w ht hr hn hn1
  have C1 := Lib.hid c1
  clear c1 hn
  go_enter Try.func45, Try.ntmps45
  go_wp2_with (go_at_call 55; go_must (refine C1.out.mono ?_; rintro e w' ⟨rfl, rfl⟩))
  go_ret
  exact ⟨rfl, rfl⟩
end Go.Proofs.Ytjignfnkcbklkaa
namespace Go.Proofs.Ytjignfnkcbklkaa
open Go.RowKit

/-- A scope in which the run jumps back to one label: the first pass as all the others. -/
theorem wp_scope_once {P : Program} {a : Act} {w : World} {Q : Exit → Act → World → Prop} {c rest : Code} (l : Nat) (J : Act → World → Prop) (μ : Act → World → Nat) (hf : findLabel c l = some (Code.skip.seq rest))
    (pass : ∀ a w, J a w → rest.wp P (Exit.jump l (fun a' w' => J a' w' ∧ μ a' w' < μ a w) Q) a w)
    (first : (∀ a w, J a w → rest.wp P (Exit.jump l J Q) a w) → c.wp P (Exit.jump l J Q) a w) : (Code.scope c).wp P Q a w :=
  wp_scope_jumps l J μ hf (first fun a w h => wp_mono (pass a w h) fun e a' w' hq => by
    cases e with
    | goto l' => exact ⟨hq.1, hq.2.1⟩
    | _ => exact hq) fun a w h => wp_seq (wp_skip (pass a w h))
end Go.Proofs.Ytjignfnkcbklkaa
namespace Go.Proofs.Ytjignfnkcbklkaa
open Go.RowKit

def sizedB (n : Int) : Bool := decide (0 ≤ n) && decide (n ≤ 16777216)
def mostR (n : Int) : Int := if sizedB n = true then 3 * n + 64 else 0
set_option maxHeartbeats 1000000 in
theorem sized_any (n : Int) (w : World) : Calls Try.prog 56 #[.int .i64 n] w fun e w' => e = .returned (.bool (sizedB n)) ∧ w = w' := by
  by_cases h0 : 0 ≤ n
  · by_cases h1 : n ≤ 16777216
    · have hz : sizedB n = true := by simp [sizedB, h0, h1]
      rw [hz]
      clear hz
      go_enter Try.func56, Try.ntmps56
      go_wp2
      go_ret
      exact ⟨rfl, rfl⟩
    · have hz : sizedB n = false := by simp [sizedB, h1]
      rw [hz]
      clear hz
      go_enter Try.func56, Try.ntmps56
      go_wp2
      go_ret
      exact ⟨rfl, rfl⟩
  · have hz : sizedB n = false := by simp [sizedB, h0]
    rw [hz]
    clear hz
    go_enter Try.func56, Try.ntmps56
    go_wp2
    go_ret
    exact ⟨rfl, rfl⟩
set_option maxHeartbeats 1000000 in
theorem recMost_any (n : Int) (w : World) : Calls Try.prog 46 #[.int .i64 n] w fun e w' => e = .returned (.int .i64 (mostR n)) ∧ w = w' := by
  have C1 := Lib.hid (fun (w' : World) => sized_any n w')
  unfold mostR
  cases hz : sizedB n with
  | true =>
    rw [hz] at C1
    have h0 : 0 ≤ n ∧ n ≤ 16777216 := by simpa [sizedB] using hz
    obtain ⟨h0, h1⟩ := h0
    rw [if_pos rfl]
    clear hz
    go_enter Try.func46, Try.ntmps46
    go_wp2_with fail
    refine (C1.out _).mono ?_
    rintro e w' ⟨rfl, rfl⟩
    go_wp2
    go_ret
    exact ⟨ret_int (by omega), rfl⟩
  | false =>
    rw [hz] at C1
    rw [if_neg (by decide)]
    clear hz
    go_enter Try.func46, Try.ntmps46
    go_wp2_with fail
    refine (C1.out _).mono ?_
    rintro e w' ⟨rfl, rfl⟩
    go_wp2
    go_ret
    exact ⟨rfl, rfl⟩
end Go.Proofs.Ytjignfnkcbklkaa
namespace Go.Proofs.Ytjignfnkcbklkaa
open Go.RowKit

/-- A slice of bytes, and the bytes. -/
structure BRow where
  A : Option Addr
  n : Nat
  c : Nat
  l : List UInt8
def BRow.val (r : BRow) : Value := .slice r.A r.n r.c
/-- It can be read. -/
def BRow.ok (w : World) (B : Nat) (r : BRow) : Prop := r.l.length = r.n ∧ r.n ≤ r.c ∧ r.c ≤ 9223372036854775807 ∧ Rd w B r.A (bvs r.l)
/-- Slices of bytes can be read from A on. -/
def RdRows (w : World) (B : Nat) (A : Option Addr) (rs : List BRow) : Prop := Rd w B A (rs.map BRow.val) ∧ ∀ r ∈ rs, r.ok w B
theorem RdRows.below {w w' : World} {B : Nat} {A : Option Addr} {rs : List BRow} (h : RdRows w B A rs) (hb : Below B w w') : RdRows w' B A rs :=
  ⟨h.1.below hb, fun r hr => ⟨(h.2 r hr).1, (h.2 r hr).2.1, (h.2 r hr).2.2.1, (h.2 r hr).2.2.2.below hb⟩⟩
theorem RdRows.more {w : World} {B B' : Nat} {A : Option Addr} {rs : List BRow} (h : RdRows w B A rs) (hb : B ≤ B') : RdRows w B' A rs :=
  ⟨h.1.more hb, fun r hr => ⟨(h.2 r hr).1, (h.2 r hr).2.1, (h.2 r hr).2.2.1, (h.2 r hr).2.2.2.more hb⟩⟩

section
variable {P : Program} {H : Type} {enc : TypeId × Value → H} {w : World} {base : Nat} {held : Bool}
theorem rows_of {t e q : TypeId} {fuel : Nat} {a : Option Addr} {len cap : Nat} {x : DataW H × List MemPlace} (ht : P.underlying t = some (.slice e)) (he : P.underlying e = some (.slice q)) (hq : P.underlying q = some (.int .u8))
    (ce : P.cellsOf e = 1) (cq : P.cellsOf q = 1) (h : DataW.trod enc P w base (fun _ => true) held fuel t [.slice a len cap] = some x) :
    ∃ rs : List BRow, rs.length = len ∧ len ≤ 9223372036854775807 ∧ RdRows w w.heap.size a rs := by
  rcases Deep.open_int_rows ht he hq ce cq h with ⟨hcs, _⟩ | ⟨ad, l, c, A, L, C, Z, hcs, _, hl, hm, _, hrow⟩
  · simp at hcs
    obtain ⟨rfl, rfl, rfl⟩ := hcs
    exact ⟨[], rfl, by omega, Rd.nil_ _ _ _, fun _ h => by simp at h⟩
  · simp at hcs
    obtain ⟨rfl, rfl, rfl⟩ := hcs
    simp only [maxLen] at hm
    have each : ∀ r, r < cap → ∃ b : BRow, b.val = .slice (A r) (L r) (C r) ∧ b.ok w w.heap.size := by
      intro r hr
      obtain ⟨_, hLC, hCm, hZ, hwf, hnil, hcell⟩ := hrow r hr
      have := rd_of_row (w := w) (a := A r) (len := L r) (cap := C r) (zs := Z r) (by
        cases hA : A r with
        | none =>
          have h0 := hnil hA
          refine .inl ⟨rfl, by omega, h0, ?_⟩
          rw [h0] at hZ
          exact List.length_eq_zero_iff.1 hZ
        | some a' => exact .inr ⟨a', rfl, hLC, hCm, hZ, fun i hi => (hcell a' hA).2 i (by omega), hwf⟩)
      obtain ⟨l, h1, h2, h3, h4⟩ := this
      exact ⟨⟨A r, L r, C r, l⟩, rfl, h1, h2, h3, h4⟩
    have pick : ∀ n, n ≤ cap → ∃ rs : List BRow, rs.length = n ∧ (∀ r, r < n → ∃ b, rs[r]? = some b ∧ b.val = .slice (A r) (L r) (C r)) ∧ ∀ b ∈ rs, b.ok w w.heap.size := by
      intro n
      induction n with
      | zero => intro _; exact ⟨[], rfl, fun r h => by omega, fun b h => by simp at h⟩
      | succ n ih =>
        intro hn
        obtain ⟨rs, h1, h2, h3⟩ := ih (by omega)
        obtain ⟨b, hb1, hb2⟩ := each n (by omega)
        refine ⟨rs ++ [b], by simp [h1], fun r hr => ?_, fun x hx => ?_⟩
        · by_cases e : r = n
          · subst e
            exact ⟨b, by simp [← h1], hb1⟩
          · obtain ⟨b', g1, g2⟩ := h2 r (by omega)
            exact ⟨b', by rw [List.getElem?_append_left (by omega)]; exact g1, g2⟩
        · rcases List.mem_append.1 hx with g | g
          · exact h3 x g
          · simp at g; subst g; exact hb2
    obtain ⟨rs, h1, h2, h3⟩ := pick len (by omega)
    refine ⟨rs, h1, by omega, fun k u hu => ?_, h3⟩
    rw [List.getElem?_map] at hu
    have hk : k < len := by
      rcases Nat.lt_or_ge k len with g | g
      · exact g
      · rw [List.getElem?_eq_none (by omega)] at hu; simp at hu
    obtain ⟨b, g1, g2⟩ := h2 k hk
    rw [g1] at hu
    injection hu with hu
    subst hu
    have hc := (hrow k (by omega)).1
    rw [g2]
    obtain ⟨b0, o0, p0⟩ := ad
    have hspot : p0 = none := by
      have h0 := World.cell?_spot (hrow 0 (by omega)).1
      simpa [Addr.add] using h0
    subst hspot
    rw [Addr.add_lit] at hc
    exact ⟨b0, o0, rfl, World.block_lt_of_cell? w _ hc, hc⟩
end
end Go.Proofs.Ytjignfnkcbklkaa
