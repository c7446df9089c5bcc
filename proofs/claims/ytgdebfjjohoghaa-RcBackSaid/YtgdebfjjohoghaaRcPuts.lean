/- Layer 17: the law RcPuts. -/
import Derived.Test.YtgdebfjjohoghaaRcLaws
import Derived.Test.YtgdebfjjohoghaaPartArg
import Derived.Test.YtgdebfjjohoghaaRegionSeq
namespace Go.Proofs.Ytgdebfjjohoghaa
open Go.RowKit Go.Sort Go.Shelf

/-- What holds at the head of a round of RcPuts. -/
def PutsRel (w : World) (E : Nat) (ss : List S3) (i : Value) (wr : World) : Prop :=
  ∃ (k L R : Nat) (o : List Nat), k ≤ ss.length ∧ i = .int .i64 (k : Int) ∧ Enc (partsOf (ss.take k)) L R o ∧ EncAt wr E L R o ∧ Below w.heap.size w wr
theorem RdS3.more_ {w w' w2 : World} {A : Option Addr} {ss : List S3} (h : RdS3 w2 w.heap.size A ss) (hs : w.heap.size ≤ w2.heap.size) (hb : Below w2.heap.size w2 w') : RdS3 w' w'.heap.size A ss := fun i s hi => by
  obtain ⟨b, off, e, hlt, h0, h1, h2⟩ := h i s hi
  have hl : b < w2.heap.size := by omega
  exact ⟨b, off, e, Nat.lt_of_lt_of_le hl hb.size, (hb.cell (p := ⟨b, _, none⟩) hl).trans h0, (hb.cell (p := ⟨b, _, none⟩) hl).trans h1, (hb.cell (p := ⟨b, _, none⟩) hl).trans h2⟩
theorem encT_only {w w' : World} {E B : Nat} (h : OnlyT E encT w w') (hB : B ≤ E) (hE : E ≤ w.heap.size) : Below B w w' := (h.below hE).mono hB
/-- Put of the program, whatever the part. -/
theorem encPut_one {w : World} {E L R : Nat} {o : List Nat} {ss : List S3} {k : Nat} {s : S3} (hk : k < ss.length) (hs : s = ss[k]) (hok : S3Ok s) (hl : ss.length ≤ 1000) (henc : Enc (partsOf (ss.take k)) L R o) (h : EncAt w E L R o) :
    ∃ L' R' o', Enc (partsOf (ss.take (k + 1))) L' R' o' ∧ Calls Try.prog 10 #[.pointer (some ⟨E, 0, none⟩), .int .i64 s.kind, .int .i64 s.i, .int .i64 s.n] w fun e w' => e = .returned (.int .i64 (if mayP s.kind s.i s.n = true then 0 else 2)) ∧ EncAt w' E L' R' o' ∧ OnlyT E encT w w' := by
  have hsn := take_snocS ss hk
  rw [← hs] at hsn
  have hins := henc.inside (partsOf_ok _)
  have hol : o.length ≤ 90000 := by
    have h1 := hins.2.2.2
    have h2 := partsOf_len (ss.take k)
    rw [List.length_take] at h2
    omega
  have hR2 : R < 4294967296 := by obtain ⟨⟨a, b, c, d⟩, _⟩ := hins; omega
  cases hmay : mayP s.kind s.i s.n with
  | false =>
    refine ⟨L, R, o, ?_, ?_⟩
    · rw [hsn, partsOf_snoc, hmay]; simpa using henc
    · exact (encPut_arg _ _ _ hok.2.1.2 h hins.2.1 hR2 hmay).mono fun e w' ⟨h1, h2⟩ => ⟨by rw [h1]; rfl, by rw [h2]; exact h, by rw [h2]; exact OnlyT.refl _ _ _⟩
  | true =>
    obtain ⟨hpk, e1, e2, e3⟩ := partOf_ok (s := s) hmay
    obtain ⟨o2, L', R', hmv, henc2⟩ := henc.more (partsOf_ok _) hpk
    refine ⟨L', R', o ++ o2, ?_, ?_⟩
    · rw [hsn, partsOf_snoc, hmay, if_pos rfl]; exact henc2
    · rw [← e1, ← e2, ← e3]
      exact (encPut_ok h hol hins.1 hins.2.1 hpk.1 hpk.2.1 hpk.2.2 hmv).mono fun e w' ⟨h1, h2⟩ => ⟨by rw [h1]; rfl, h2⟩
set_option maxHeartbeats 2000000 in
set_option maxRecDepth 100000 in
theorem rcPuts_law (A : Option Addr) (n m : Nat) (ss : List S3) (w : World) (hr : RdS3 w w.heap.size A ss) (hn : ss.length = n) (hok : ∀ s ∈ ss, S3Ok s) (h63 : n ≤ 9223372036854775807) :
    Calls Try.prog 3 #[.slice A n m] w (Yes w) := by
  have CK := Lib.hid rcKnown_any
  by_cases h200 : 200 < n
  · have h2 : (200 : Int) < (n : Int) := by omega
    clear hr hn hok
    go_enter Try.func3, Try.ntmps3
    go_wp2_with fail
    refine (CK.out _).mono ?_
    rintro e w' ⟨rfl, hb⟩
    go_wp2
    go_ret
    exact ⟨rfl, hb⟩
  · have h2 : ¬ ((200 : Int) < (n : Int)) := by omega
    have HR := Lib.hid hr
    have HN := Lib.hid hn
    have HOK := Lib.hid hok
    clear hr hn hok h63
    go_enter Try.func3, Try.ntmps3
    go_wp2_with fail
    refine (rcBegin_any w).mono ?_
    rintro _ w1 ⟨E, rfl, hE, he1, hb1⟩
    have HREL := Lib.hid (show PutsRel w E ss (.int .i64 ((0 : Nat) : Int)) w1 from ⟨0, 0, 4294967295, [], Nat.zero_le _, rfl, by simpa [partsOf] using Enc.nil, he1, hb1⟩)
    have HE := Lib.hid hE
    clear he1 hb1 hE
    go_wp2
    go_loopw [4] (PutsRel w E ss) (fun i _ => n - (intOf i).toNat)
    case atStart => exact HREL.out
    case round =>
      clear HREL
      obtain ⟨k, L, R, o, hk, rfl, henc, hat, hb⟩ := hrel
      have HEN := Lib.hid henc
      have HAT := Lib.hid hat
      have HB := Lib.hid hb
      clear henc hat hb
      by_cases hlt : k < n
      · have hks : k < ss.length := by have := HN.out; omega
        obtain ⟨ab, ao, rfl, hab, hc0, hc1, hc2⟩ := HR.out k ss[k] (List.getElem?_eq_getElem hks)
        obtain ⟨s, hs⟩ : ∃ s, s = ss[k]'hks := ⟨_, rfl⟩
        have hsok : S3Ok s := HOK.out s (by rw [hs]; exact List.getElem_mem hks)
        rw [← hs] at hc0 hc1 hc2
        have hl1000 : ss.length ≤ 1000 := by have := HN.out; omega
        have CM := Lib.hid (fun W => rcMay_any s.kind s.i s.n W)
        have CP := Lib.hid (fun (W : World) (h : EncAt W E L R o) => encPut_one hks hs hsok hl1000 HEN.out h)
        have hd0 := (HB.out.cell (p := ⟨ab, _, none⟩) hab).trans hc0
        have hd1 := (HB.out.cell (p := ⟨ab, _, none⟩) hab).trans hc1
        have hd2 := (HB.out.cell (p := ⟨ab, _, none⟩) hab).trans hc2
        have HC0 := Lib.hid hc0
        have HC1 := Lib.hid hc1
        have HC2 := Lib.hid hc2
        obtain ⟨lo, sz, to⟩ := s
        dsimp only at CM CP hd0 hd1 hd2 HC0 HC1 HC2
        have hki : (k : Int) < (n : Int) := by omega
        clear hc0 hc1 hc2 hs hsok hl1000
        obtain ⟨mb, hmb⟩ : ∃ mb, mb = mayP lo sz to := ⟨_, rfl⟩
        rw [← hmb] at CM CP
        go_wp2_with fail
        refine (CM.out _).mono ?_
        rintro _ w2 ⟨rfl, hb2⟩
        have hw2 := HB.out.trans (hb2.mono HB.out.size)
        have hd0 := (hw2.cell (p := ⟨ab, _, none⟩) hab).trans HC0.out
        have hd1 := (hw2.cell (p := ⟨ab, _, none⟩) hab).trans HC1.out
        have hd2 := (hw2.cell (p := ⟨ab, _, none⟩) hab).trans HC2.out
        have HAT2 := Lib.hid (HAT.out.below hb2)
        have HB2 := Lib.hid hw2
        clear hb2 hw2 CM HAT HB hmb
        obtain ⟨L', R', o', hen2, CP2⟩ := CP.out w2.drew (HAT2.out.same rfl)
        have HEN2 := Lib.hid hen2
        have CQ := Lib.hid CP2
        clear hen2 CP2 CP
        cases mb with
        | true =>
          go_wp2
          refine wp_region_seq [⟨22, [], .pointer (some ⟨E, 0, none⟩), 0, 0, none⟩,
              ⟨23, [], .slice (some ⟨ab, ao, none⟩) n m, 0, 0, none⟩,
              ⟨24, [], .int .i64 (k : Int), 0, 0, none⟩,
              ⟨25, [1, 2], .pointer (some ⟨ab, ao + k * 3, none⟩), 0, 0, none⟩,
              ⟨26, [3], .pointer (some ⟨ab, ao + k * 3, none⟩), 0, 0, none⟩,
              ⟨27, [4], .int .i64 lo, 0, 0, none⟩,
              ⟨28, [], .slice (some ⟨ab, ao, none⟩) n m, 0, 0, none⟩,
              ⟨29, [], .int .i64 (k : Int), 0, 0, none⟩,
              ⟨30, [6, 7], .pointer (some ⟨ab, ao + k * 3, none⟩), 0, 0, none⟩,
              ⟨31, [8], .pointer (some ⟨ab, ao + k * 3 + 1, none⟩), 0, 0, none⟩,
              ⟨32, [9], .int .i64 sz, 0, 0, none⟩,
              ⟨33, [], .slice (some ⟨ab, ao, none⟩) n m, 0, 0, none⟩,
              ⟨34, [], .int .i64 (k : Int), 0, 0, none⟩,
              ⟨35, [11, 12], .pointer (some ⟨ab, ao + k * 3, none⟩), 0, 0, none⟩,
              ⟨36, [13], .pointer (some ⟨ab, ao + k * 3 + 2, none⟩), 0, 0, none⟩,
              ⟨37, [14], .int .i64 to, 0, 0, none⟩,
              ⟨38, [0, 5, 10, 15], .int .i64 0, 0, 0, some 0⟩,
              ⟨39, [], .int .i64 0, 0, 1, none⟩,
              ⟨40, [16, 17], .bool false, 1, 1, none⟩] 1 (OneG w2.drew fun W => EncAt W E L' R' o' ∧ OnlyT E encT w2.drew W)
            [(3, .pointer (some ⟨E, 0, none⟩)), (0, .slice (some ⟨ab, ao, none⟩) n m), (4, .int .i64 (k : Int)), (5, .int .i64 0)] (OneG.zero _ _) (by kernel_rfl) (by kernel_rfl) (by kernel_rfl) (by kernel_rfl) (by kernel_rfl) (by kernel_rfl) ⟨rfl, rfl, rfl, rfl, trivial⟩ ?_ ?_
          · repeat' (first | exact OblSAll.nil | refine OblSAll.cons ?_ ?_)
            all_goals (intro ev yi w' c hG hcc hc hf ho hn; simp only [OutsSay, NeedV, rowS, and_true] at ho hn hcc)
            all_goals (try ((simp [OpSays, execOp, Region.wanted, go_sem, ho, hn, hG, hki]; done)))
            · rw [if_pos (by simp [Region.wanted])]
              obtain rfl : c = 0 := by omega
              obtain rfl : w' = w2.drew := hG
              simp [OpSays, execOp, go_sem, hn, hd0, OneG]
            · rw [if_pos (by simp [Region.wanted])]
              obtain rfl : c = 0 := by omega
              obtain rfl : w' = w2.drew := hG
              simp [OpSays, execOp, go_sem, hn, hd1, OneG]
            · rw [if_pos (by simp [Region.wanted])]
              obtain rfl : c = 0 := by omega
              obtain rfl : w' = w2.drew := hG
              simp [OpSays, execOp, go_sem, hn, hd2, OneG]
            · rw [if_pos (by simp [Region.wanted])]
              exact says_call Try.call10 (vs := #[.pointer (some ⟨E, 0, none⟩), .int .i64 lo, .int .i64 sz, .int .i64 to]) rfl hf (by simp [hn]) (by rw [hcc] at hG; rw [show w' = w2.drew from hG]; exact CQ.out.mono fun _ _ h => ⟨_, h.1, rfl, h.2⟩)
          · intro wE hGE
            simp only [layAll, rowS, List.setIfInBounds_toArray, List.set_cons_succ, List.set_cons_zero]
            have hq : EncAt wE E L' R' o' ∧ OnlyT E encT w2.drew wE := hGE
            have HQ := Lib.hid hq
            clear hq hGE hd0 hd1 hd2
            go_wp2
            go_roundw
            case rel => exact ⟨k + 1, L', R', o', by omega, by go_num, HEN2.out, HQ.out.1, HB2.out.drew.trans (encT_only HQ.out.2 HE.out (Nat.le_of_lt HAT2.out.lt))⟩
            case measure => simp [intOf]; omega
        | false =>
          go_wp2
          refine wp_region_seq [⟨22, [], .pointer (some ⟨E, 0, none⟩), 0, 0, none⟩,
              ⟨23, [], .slice (some ⟨ab, ao, none⟩) n m, 0, 0, none⟩,
              ⟨24, [], .int .i64 (k : Int), 0, 0, none⟩,
              ⟨25, [1, 2], .pointer (some ⟨ab, ao + k * 3, none⟩), 0, 0, none⟩,
              ⟨26, [3], .pointer (some ⟨ab, ao + k * 3, none⟩), 0, 0, none⟩,
              ⟨27, [4], .int .i64 lo, 0, 0, none⟩,
              ⟨28, [], .slice (some ⟨ab, ao, none⟩) n m, 0, 0, none⟩,
              ⟨29, [], .int .i64 (k : Int), 0, 0, none⟩,
              ⟨30, [6, 7], .pointer (some ⟨ab, ao + k * 3, none⟩), 0, 0, none⟩,
              ⟨31, [8], .pointer (some ⟨ab, ao + k * 3 + 1, none⟩), 0, 0, none⟩,
              ⟨32, [9], .int .i64 sz, 0, 0, none⟩,
              ⟨33, [], .slice (some ⟨ab, ao, none⟩) n m, 0, 0, none⟩,
              ⟨34, [], .int .i64 (k : Int), 0, 0, none⟩,
              ⟨35, [11, 12], .pointer (some ⟨ab, ao + k * 3, none⟩), 0, 0, none⟩,
              ⟨36, [13], .pointer (some ⟨ab, ao + k * 3 + 2, none⟩), 0, 0, none⟩,
              ⟨37, [14], .int .i64 to, 0, 0, none⟩,
              ⟨38, [0, 5, 10, 15], .int .i64 2, 0, 0, some 0⟩,
              ⟨39, [], .int .i64 2, 0, 1, none⟩,
              ⟨40, [16, 17], .bool false, 1, 1, none⟩] 1 (OneG w2.drew fun W => EncAt W E L' R' o' ∧ OnlyT E encT w2.drew W)
            [(3, .pointer (some ⟨E, 0, none⟩)), (0, .slice (some ⟨ab, ao, none⟩) n m), (4, .int .i64 (k : Int)), (5, .int .i64 2)] (OneG.zero _ _) (by kernel_rfl) (by kernel_rfl) (by kernel_rfl) (by kernel_rfl) (by kernel_rfl) (by kernel_rfl) ⟨rfl, rfl, rfl, rfl, trivial⟩ ?_ ?_
          · repeat' (first | exact OblSAll.nil | refine OblSAll.cons ?_ ?_)
            all_goals (intro ev yi w' c hG hcc hc hf ho hn; simp only [OutsSay, NeedV, rowS, and_true] at ho hn hcc)
            all_goals (try ((simp [OpSays, execOp, Region.wanted, go_sem, ho, hn, hG, hki]; done)))
            · rw [if_pos (by simp [Region.wanted])]
              obtain rfl : c = 0 := by omega
              obtain rfl : w' = w2.drew := hG
              simp [OpSays, execOp, go_sem, hn, hd0, OneG]
            · rw [if_pos (by simp [Region.wanted])]
              obtain rfl : c = 0 := by omega
              obtain rfl : w' = w2.drew := hG
              simp [OpSays, execOp, go_sem, hn, hd1, OneG]
            · rw [if_pos (by simp [Region.wanted])]
              obtain rfl : c = 0 := by omega
              obtain rfl : w' = w2.drew := hG
              simp [OpSays, execOp, go_sem, hn, hd2, OneG]
            · rw [if_pos (by simp [Region.wanted])]
              exact says_call Try.call10 (vs := #[.pointer (some ⟨E, 0, none⟩), .int .i64 lo, .int .i64 sz, .int .i64 to]) rfl hf (by simp [hn]) (by rw [hcc] at hG; rw [show w' = w2.drew from hG]; exact CQ.out.mono fun _ _ h => ⟨_, h.1, rfl, h.2⟩)
          · intro wE hGE
            simp only [layAll, rowS, List.setIfInBounds_toArray, List.set_cons_succ, List.set_cons_zero]
            have hq : EncAt wE E L' R' o' ∧ OnlyT E encT w2.drew wE := hGE
            have HQ := Lib.hid hq
            clear hq hGE hd0 hd1 hd2
            go_wp2
            go_roundw
            case rel => exact ⟨k + 1, L', R', o', by omega, by go_num, HEN2.out, HQ.out.1, HB2.out.drew.trans (encT_only HQ.out.2 HE.out (Nat.le_of_lt HAT2.out.lt))⟩
            case measure => simp [intOf]; omega
      · obtain rfl : n = k := by have := HN.out; omega
        have HE2 := Lib.hid (show Enc (partsOf ss) L R o by have h := HEN.out; rw [List.take_of_length_le (by have := HN.out; omega)] at h; exact h)
        have hins := HE2.out.inside (partsOf_ok _)
        have hol : o.length ≤ 90000 := by
          have h1 := hins.2.2.2
          have h2 := partsOf_len ss
          have := HN.out
          omega
        have C1 := Lib.hid (fun (W : World) (h : EncAt W E L R o) => encBytes_says h hins.1.1 hol)
        have C2 := Lib.hid (fun (W : World) (h : RdS3 W W.heap.size A ss) => rcLay_any (w := W) (m := m) h HN.out (by omega))
        have HWR := Lib.hid (HR.out.below HB.out)
        obtain ⟨Q, hQ⟩ : ∃ Q, Q = u8s (o ++ be4 L) := ⟨_, rfl⟩
        rw [← hQ] at C1
        have HQ := Lib.hid hQ
        clear HEN hins hol hQ HOK h2 h200
        go_wp2
        refine wp_region_grow [⟨41, [], .is (.pointer (some ⟨E, 0, none⟩))⟩,
          ⟨42, [0], .bytes Q⟩,
          ⟨43, [1], .is (.string ⟨Q.toArray⟩)⟩,
          ⟨44, [], .is (.slice A n m)⟩,
          ⟨45, [3], .bytes Q⟩,
          ⟨46, [4], .is (.string ⟨Q.toArray⟩)⟩,
          ⟨47, [2, 5], .is (.bool true)⟩,
          ⟨48, [6], .is (.bool true)⟩,
          ⟨49, [7], .is (.bool true)⟩,
          ⟨50, [7, 8], .is (.bool true)⟩,
          ⟨2, [9], .is (.bool true)⟩]
          [(3, .pointer (some ⟨E, 0, none⟩)), (0, .slice A n m)] (by kernel_rfl) (by kernel_rfl) (by kernel_rfl) (by kernel_rfl) (by kernel_rfl) ⟨rfl, rfl, trivial⟩ ?_ ?_
        · repeat' (first | exact OblGAll.nil | refine OblGAll.cons ?_ ?_)
          all_goals (intro ev yi w' hB hc hf ho hn; simp only [OutsSay, NeedSay, rowAt, Fact.says, and_true] at ho hn)
          all_goals (try ((simp [OpSays, execOp, Region.wanted, Fact.says, boolOf, go_sem, ho, hn, hc, Below.refl]; done)))
          · rw [if_pos (by simp [Region.wanted])]
            exact says_call Try.call11 (vs := #[.pointer (some ⟨E, 0, none⟩)]) rfl hf (by simp [hn]) (C1.out w' (HAT.out.below hB))
          · rw [if_pos (by simp [Region.wanted])]
            exact says_str rfl Try.underlying31 Try.underlying5 Try.underlying9 hn.1 ⟨rfl, Below.refl _ _⟩
          · rw [if_pos (by simp [Region.wanted])]
            exact says_call Try.call12 (vs := #[.slice A n m]) rfl hf (by simp [hn]) ((C2.out w' (HWR.out.more_ HB.out.size hB)).mono fun _ _ ⟨v, L2, R2, o2, h1, h2, h3, h4⟩ => ⟨v, h2, by obtain ⟨-, -, rfl⟩ := HE2.out.one h1 rfl; obtain ⟨rfl, -, -⟩ := HE2.out.one h1 rfl; rw [show Q = _ from HQ.out]; exact IsBytes.of_own (by rw [u8s_length]; exact h3), h4⟩)
          · rw [if_pos (by simp [Region.wanted])]
            exact says_str rfl Try.underlying31 Try.underlying5 Try.underlying9 hn.1 ⟨rfl, Below.refl _ _⟩
          · rw [if_pos (by simp [Region.wanted, hn, boolOf])]
            exact says_call Try.call7 (vs := #[]) rfl hf (by simp) ((CK.out w').mono fun _ _ h => ⟨_, h.1, rfl, h.2⟩)
        · intro X w4 hb4 hx
          have hlast : X 10 = .bool true := hx 10 (by decide)
          clear hx
          have HL := Lib.hid hlast
          clear hlast
          simp only [layAll, List.setIfInBounds_toArray, List.set_cons_succ, List.set_cons_zero]
          go_wp2
          go_ret
          exact ⟨congrArg Ending.returned HL.out, HB.out.trans (hb4.mono HB.out.size)⟩
end Go.Proofs.Ytgdebfjjohoghaa
