/- Layer 20: the reference's Of. -/
import Derived.Test.YtjncmfoommlldaaLRefDep
import Derived.Test.YtjncmfoommlldaaLensTree
import Derived.Deep.LoopGhost
namespace Go.Proofs.Ytjncmfoommlldaa
open Go.RowKit Go.Sort Go.Shelf

/-- The first j halved, the others as they were. -/
def inH (c : List Int) (j : Nat) : List Int := (c.take j).map halfI ++ c.drop j
theorem inH_zero (c : List Int) : inH c 0 = c := by simp [inH]
theorem inH_all (c : List Int) : inH c c.length = c.map halfI := by simp [inH]
theorem inH_len (c : List Int) {j : Nat} (h : j ≤ c.length) : (inH c j).length = c.length := by simp [inH]; omega
theorem inH_get (c : List Int) {j : Nat} (h : j < c.length) : (inH c j)[j]? = some c[j] := by
  have hl : ((c.take j).map halfI).length = j := by simp; omega
  unfold inH
  rw [List.getElem?_append_right (by omega), hl, Nat.sub_self, List.drop_eq_getElem_cons h]; rfl
theorem inH_set (c : List Int) {j : Nat} (h : j < c.length) : (inH c j).set j (halfI c[j]) = inH c (j + 1) := by
  have hl : ((c.take j).map halfI).length = j := by simp; omega
  unfold inH
  rw [List.set_append_right _ _ (by omega), hl, Nat.sub_self, List.drop_eq_getElem_cons h, List.set_cons_zero, List.take_add_one, List.getElem?_eq_getElem h, List.map_append, List.append_assoc]
  rfl
/-- The greatest, 0 if there is none above it. -/
def mxL (l : List Int) : Int := l.foldl max 0
theorem mxL_take (l : List Int) {j : Nat} (h : j < l.length) : mxL (l.take (j + 1)) = max (mxL (l.take j)) l[j] := by
  unfold mxL; rw [List.take_add_one, List.getElem?_eq_getElem h, List.foldl_append]; rfl
theorem foldl_max_le (l : List Int) : ∀ a M : Int, l.foldl max a ≤ M ↔ a ≤ M ∧ ∀ x ∈ l, x ≤ M := by
  induction l with
  | nil => intro a M; simp
  | cons x l ih =>
    intro a M
    rw [List.foldl_cons, ih]
    constructor
    · rintro ⟨h1, h2⟩
      refine ⟨by omega, fun y hy => ?_⟩
      rcases List.mem_cons.1 hy with rfl | hy
      · omega
      · exact h2 y hy
    · rintro ⟨h1, h2⟩
      exact ⟨by have := h2 x List.mem_cons_self; omega, fun y hy => h2 y (List.mem_cons_of_mem _ hy)⟩
theorem mxL_short (o : List Int) : mxL o ≤ 15 ↔ Short o := by
  unfold mxL Short; rw [foldl_max_le]; exact ⟨fun h => h.2, fun h => ⟨by decide, h⟩⟩
theorem zvs_get' (l : List Int) {k : Nat} {x : Int} (h : l[k]? = some x) : (zvs l)[k]? = some (.int .i64 x) := by rw [zvs_get, h]; rfl
theorem own_blk {w : World} {base n c g : Nat} {xs : List Value} (ho : w.ownsRow base 3 1 (.slice (some ⟨g, 0, none⟩) n c) n xs) : base ≤ g ∧ g < w.heap.size := ho.lt g rfl
section
variable {w : World} {A : Option Addr} {n m : Nat} {c : List Int}
set_option maxHeartbeats 4000000 in
set_option maxRecDepth 100000 in
theorem ref_Of (hr : Rd w w.heap.size A (zvs c)) (hn : c.length = n) (hn1 : n ≤ 1500) :
    Calls Try.prog 10 #[.slice A n m] w fun e w' => ((e = .returned (.slice none 0 0) ∧ c.any nBad = true) ∨ ∃ v out, e = .returned v ∧ c.any nBad = false ∧ LensOfR c out ∧ LensV w.heap.size out v w') ∧ Below w.heap.size w w' := by
  obtain ⟨i1, hi1, hy0, hy1, hy2⟩ := info_parts info_int12
  have HR := Lib.hid hr
  have HC := Lib.hid hn
  clear hr hn
  go_enter Try.func10, Try.ntmps10
  go_wp2
  go_loopw [3, 4] (fun v i wr => ∃ k : Nat, k ≤ n ∧ i = .int .i64 (k : Int) ∧ Good (c.take k) ∧ wr.ownsRow w.heap.size 3 1 v k (zvs (c.take k)) ∧ Below w.heap.size w wr) (fun _ i _ => n - (intOf i).toNat)
  case atStart => exact ⟨0, Nat.zero_le _, rfl, fun x hx => by simp at hx, World.ownsRow_nil _ _ _ _, Below.refl _ _⟩
  case round =>
    obtain ⟨k, hk, rfl, hg, hown, hb⟩ := hrel
    obtain ⟨A1, c1, rfl, hnc, hcm, hG⟩ := own_form hown
    have hbs := hb.size
    have HG := Lib.hid hg
    have HOWN := Lib.hid hown
    have HB := Lib.hid hb
    by_cases hlt : k < n
    · have hkc : k < c.length := by have := HC.out; omega
      obtain ⟨b, off, rfl, -, hcell⟩ := cell_of_rd (HR.out.below hb) hkc
      have hki : (k : Int) < (n : Int) := by omega
      have htk : c.take (k + 1) = c.take k ++ [c[k]] := by rw [List.take_add_one, List.getElem?_eq_getElem hkc]; rfl
      have hmem : c[k] ∈ c := List.getElem_mem hkc
      obtain ⟨x, hxx⟩ : ∃ x, x = c[k]'hkc := ⟨_, rfl⟩
      rw [← hxx] at hcell htk hmem
      have HTK := Lib.hid (And.intro htk hmem)
      clear hg hown hb htk hmem hxx
      by_cases hbad : nBad x = true
      · have HEND := Lib.hid (show c.any nBad = true from List.any_eq_true.2 ⟨x, HTK.out.2, hbad⟩)
        by_cases h0 : x < 0
        · clear hbad
          go_wp2
          go_ret
          exact ⟨.inl ⟨rfl, by first | exact HEND.out | simpa using HEND.out⟩, HB.out⟩
        · have h1 : 1099511627776 < x := by simp [nBad] at hbad; omega
          clear hbad
          go_wp2
          go_ret
          exact ⟨.inl ⟨rfl, by first | exact HEND.out | simpa using HEND.out⟩, HB.out⟩
      · have h0 : ¬ x < 0 := by simp [nBad] at hbad; omega
        have h1 : ¬ 1099511627776 < x := by simp [nBad] at hbad; omega
        have HGN := Lib.hid (show Good (c.take (k + 1)) from fun y hy => by
          rw [HTK.out.1] at hy
          rcases List.mem_append.1 hy with h | h
          · exact HG.out y h
          · rw [List.mem_singleton] at h; omega)
        clear hbad
        go_wp2_with ((with_reducible show wpList _ _ _ (({ dst := some 36, op := _, type := _, pos := _, after := _, guard := _ } : Oper) :: _) _ _); go_must (refine wpList_app rfl (.tmp 30) (.tmp 35) 29 rfl w.heap.size 3 i1 (.int .i64 0) 1 8 Try.underlying29 hi1 hy0 hy1 hy2 rfl (by decide) _ _ _ rfl (HOWN.out.alloc _) _ _ 1 1 [Value.int .i64 x] rfl (Rd.new _ _ _) rfl (by intro u hu; simp at hu; subst hu; rfl) (by simp only [maxLen]; omega) (by omega) (by simp; omega) ?_; intro v2 w2 hown2 hg2; have hb2 := (HB.out.alloc hbs (.cells #[.int .i64 x] 3)).grown hg2 (by simp; omega) (own_block HOWN.out); clear hg2))
        have HEND := Lib.hid (And.intro (show w2.ownsRow w.heap.size 3 1 v2 (k + 1) (zvs (c.take (k + 1))) by
          rw [HTK.out.1]
          have e : zvs (c.take k ++ [x]) = zvs (c.take k) ++ [.int .i64 x] := by simp [zvs]
          rw [e]; exact hown2) hb2)
        clear hown2 hb2
        go_wp2
        go_roundw
        case rel => exact ⟨k + 1, by omega, by go_num, HGN.out, HEND.out.1, HEND.out.2⟩
        case measure => simp [intOf]; omega
    · obtain rfl : k = n := by omega
      rw [List.take_of_length_le (by have := HC.out; omega)] at hg hown
      have HG2 := Lib.hid hg
      have HOWN2 := Lib.hid hown
      obtain ⟨v3, hv3⟩ : ∃ v, v = Value.slice A1 k c1 := ⟨_, rfl⟩
      have hnb := good_bad.2 hg
      have HNB := Lib.hid hnb
      clear hg hown hb HG HOWN hnb hi1 hy0 hy1 hy2
      go_wp2
      go_loopg [] (c.sum.toNat) (fun gg wr => ∃ cur : List Int, wr.ownsRow w.heap.size 3 1 (.slice A1 k c1) k (zvs cur) ∧ cur.length = k ∧ Good cur ∧ (∀ r, LensOfR cur r → LensOfR c r) ∧ Below w.heap.size w wr ∧ cur.sum.toNat = gg)
      case atStart => exact ⟨c, HOWN2.out, HC.out, HG2.out, fun _ h => h, HB.out, rfl⟩
      case round =>
        clear HOWN2 HG2
        obtain ⟨cur, hown, hlen, hg, hway, hb, hgg⟩ := hrel
        have C := Lib.hid (ref_depths (m := c1) (Rd.of_own hown) hlen (by omega) hg)
        have HREL := Lib.hid (And.intro hown (And.intro hlen (And.intro hg (And.intro hway (And.intro hb hgg)))))
        obtain ⟨Wr, hWr⟩ : ∃ W, W = wr := ⟨_, rfl⟩
        subst hWr
        clear hown hlen hg hway hb hgg
        go_wp2_with fail
        refine C.out.mono ?_
        rintro _ w2 ⟨v2, o, rfl, hd, hlv, hb2⟩
        obtain ⟨g2, n2, rfl, hn2, hg2, hblk2⟩ := id hlv
        have HD := Lib.hid hd
        have hol : o.length = k := by rw [hd.len]; exact HREL.out.2.1
        obtain rfl : k = n2 := by omega
        have HBLK := Lib.hid hblk2
        have HB2 := Lib.hid hb2
        have HLV := Lib.hid (hlv.more (HREL.out.2.2.2.2.1.size))
        have HOL := Lib.hid hol
        clear hd hlv hb2 hg2 hblk2 hn2 hol C
        go_wp2
        go_loopw [6, 7] (fun d i wq => ∃ j : Nat, j ≤ k ∧ d = .int .i64 (mxL (o.take j)) ∧ i = .int .i64 (j : Int) ∧ wq = w2) (fun _ i _ => k - (intOf i).toNat)
        case atStart => exact ⟨0, Nat.zero_le _, rfl, rfl, rfl⟩
        case round =>
          obtain ⟨j, hj, rfl, rfl, hwq⟩ := hrel
          subst hwq
          by_cases hjk : j < k
          · have hjo : j < o.length := by have := HOL.out; omega
            have hcell := HBLK.out.cell j
            rw [zvs_get' o (List.getElem?_eq_getElem hjo)] at hcell
            have hm := mxL_take o hjo
            obtain ⟨x, hx⟩ : ∃ x, x = o[j]'hjo := ⟨_, rfl⟩
            obtain ⟨mx, hmx⟩ : ∃ mx, mx = mxL (o.take j) := ⟨_, rfl⟩
            rw [← hx] at hcell hm
            rw [← hmx] at hm ⊢
            have HM := Lib.hid hm
            have hki : (j : Int) < (k : Int) := by omega
            clear hx hmx hm
            go_wp2
            go_roundw
            case rel => exact ⟨j + 1, by omega, by rw [HM.out], by go_num, by first | trivial | rfl⟩
            case measure => simp [intOf]; omega
          · obtain rfl : k = j := by omega
            rw [List.take_of_length_le (by have := HOL.out; omega)]
            obtain ⟨mx, hmx⟩ : ∃ mx, mx = mxL o := ⟨_, rfl⟩
            rw [← hmx]
            have hms := mxL_short o
            rw [← hmx] at hms
            by_cases hs : mx ≤ 15
            · have HEND := Lib.hid (And.intro HNB.out (And.intro (HREL.out.2.2.2.1 o (.done _ o HD.out (hms.1 hs))) (And.intro HLV.out (HREL.out.2.2.2.2.1.trans (HB2.out.mono HREL.out.2.2.2.2.1.size)))))
              clear hmx hms
              go_wp2
              go_ret
              exact ⟨.inr ⟨_, o, rfl, by first | exact HEND.out.1 | simpa using HEND.out.1, HEND.out.2.1, HEND.out.2.2.1⟩, HEND.out.2.2.2⟩
            · have hns : ¬ Short o := fun h => hs (hms.2 h)
              have HLESS := Lib.hid (deep_less HD.out (fun x hx => (HREL.out.2.2.1 x hx).1) (by rw [HREL.out.2.1]; exact hn1) hns)
              have HNS := Lib.hid hns
              have HOWN3 := Lib.hid (own_kept HREL.out.1 HB2.out)
              have HB3 := Lib.hid (HREL.out.2.2.2.2.1.trans (HB2.out.mono HREL.out.2.2.2.2.1.size))
              clear hmx hms hns
              go_wp2
              go_loopw [8] (fun i wq => ∃ j : Nat, j ≤ k ∧ i = .int .i64 (j : Int) ∧ wq.ownsRow w.heap.size 3 1 (.slice A1 k c1) k (zvs (inH cur j)) ∧ Below w.heap.size w wq) (fun i _ => k - (intOf i).toNat)
              case atStart => exact ⟨0, Nat.zero_le _, rfl, by rw [inH_zero]; exact HOWN3.out, HB3.out⟩
              case round =>
                clear HOWN3 HB3
                obtain ⟨j, hj, rfl, hown, hb⟩ := hrel
                have HOWN := Lib.hid hown
                have HB9 := Lib.hid hb
                by_cases hjk : j < k
                · obtain ⟨g, rfl, hgB⟩ : ∃ g, A1 = some ⟨g, 0, none⟩ ∧ w.heap.size ≤ g := by
                    rcases hG with h | h
                    · omega
                    · obtain ⟨g, h1, h2, -⟩ := h; exact ⟨g, h1, h2⟩
                  have hjc : j < cur.length := by have := HREL.out.2.1; omega
                  have hgood := HREL.out.2.2.1 _ (List.getElem_mem hjc)
                  have hcell := own_at hown (zvs_get' _ (inH_get cur hjc))
                  have hfr := hown.frozenAt j
                  have hset := hown.stored j (.int .i64 (halfI cur[j]))
                  rw [zvs_set, inH_set cur hjc] at hset
                  have e1 : (cur[j] + 1).tdiv 2 = halfI cur[j] := by unfold halfI; rw [Int.tdiv_eq_ediv_of_nonneg (by omega)]
                  have hb5 := hb.setCell (p := ⟨g, j, none⟩) hgB (.int .i64 (halfI cur[j]))
                  obtain ⟨h, hh⟩ : ∃ h, h = halfI cur[j] := ⟨_, rfl⟩
                  have hh2 := half_le hgood.1
                  rw [← hh] at hset hb5 e1 hh2
                  obtain ⟨x, hx⟩ : ∃ x, x = cur[j]'hjc := ⟨_, rfl⟩
                  rw [← hx] at hcell e1 hh2 hgood
                  have HS := Lib.hid (And.intro hset.1 hb5)
                  have hki : (j : Int) < (k : Int) := by omega
                  clear hown hb hset hb5 hh hx HOWN HB9
                  go_wp2
                  go_roundw
                  case rel => exact ⟨j + 1, by omega, by go_num, HS.out.1, HS.out.2⟩
                  case measure => simp [intOf]; omega
                · obtain rfl : k = j := by omega
                  rw [show inH cur k = cur.map halfI from by rw [← HREL.out.2.1, inH_all]] at hown
                  have HOWN4 := Lib.hid hown
                  clear hown hb HOWN
                  go_wp2
                  go_roundg ((cur.map halfI).sum.toNat)
                  case measure =>
                    have h1 := HLESS.out
                    have h2 := (good_sum (good_half HREL.out.2.2.1)).1
                    have h3 := HREL.out.2.2.2.2.2
                    omega
                  case rel => exact ⟨cur.map halfI, HOWN4.out, by rw [List.length_map]; exact HREL.out.2.1, good_half HREL.out.2.2.1, fun r hr => HREL.out.2.2.2.1 r (.half cur o r HD.out HNS.out hr), HB9.out, rfl⟩
end
end Go.Proofs.Ytjncmfoommlldaa
