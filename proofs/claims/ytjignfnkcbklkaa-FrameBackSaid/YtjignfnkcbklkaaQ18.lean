/-
  Layer 32: the program: Parse, whole. · Layer 32: Parse, program and reference: both tell parseB. · Layer 32: what Parse may tell: four options, blocks that lie within the bytes. · Layer 32: the fixed calls.
-/
import Derived.Test.YtjignfnkcbklkaaQ08
import Derived.Test.YtjignfnkcbklkaaQ10
import Derived.Test.YtjignfnkcbklkaaQ13
import Derived.Test.YtjignfnkcbklkaaQ16
import Derived.Test.YtjignfnkcbklkaaQ17
import Derived.Scope
import Derived.WalkMore
import Derived.Deep.RegionHeld3
namespace Go.Proofs.Ytjignfnkcbklkaa
open Go.RowKit Go.Sort Go.Shelf
attribute [local go_sem] Oper.semAt_some

set_option maxRecDepth 100000 in
set_option maxHeartbeats 2000000 in
theorem frmParse_bad (A : Option Addr) (n c : Nat) (l : List UInt8) (W : World) (hr : Rd W W.heap.size A (bvs l)) (hn : l.length = n) (hnc : n ≤ c) (hn1 : n ≤ 10000) {m j e0 e : Nat} (hg : lget (l.drop 7) = (m, j, e0)) (hP : getP l m j e0 = ([0, 0, 0, 0], 0, e)) (he : e ≠ 0) :
    Calls Try.prog 10 #[.slice A n c] W (StrOut W (noStream e)) := by
  obtain ⟨w1, hw1⟩ : ∃ w1, w1 = (W.alloc (.cells #[.int .i64 0, .int .i64 0, .int .i64 0, .int .i64 0, .slice none 0 0, .int .i64 0, .int .u32 0] 27)).alloc (.cells #[.int .i64 0] 32) := ⟨_, rfl⟩
  have hB1 : Below W.heap.size W w1 := by rw [hw1]; exact ((Below.refl _ _).alloc (Nat.le_refl _) _).alloc (by simp) _
  have h2 : Blk w1 W.heap.size 27 [.int .i64 0, .int .i64 0, .int .i64 0, .int .i64 0, .slice none 0 0, .int .i64 0, .int .u32 0] := by rw [hw1]; exact (blk_new W _ _ rfl).grow ((Below.refl _ _).alloc (Nat.le_refl _) _)
  have h3 : Blk w1 (W.heap.size + 1) 32 [.int .i64 0] := by rw [hw1]; exact blk_new _ _ _ (by simp)
  have C := Lib.hid (hdGet_any A n c l w1 ((hr.below hB1).more hB1.size) hn hnc hn1 hg)
  rw [hP] at C
  unfold GetOut at C
  rw [show optA ([0, 0, 0, 0], 0, e).1 = .agg #[.int .i64 0, .int .i64 0, .int .i64 0, .int .i64 0] from rfl] at C
  have HW1 := Lib.hid hw1
  have HB1 := Lib.hid hB1
  have H2 := Lib.hid h2
  have H3 := Lib.hid h3
  have hei : ¬ (e : Int) = 0 := by omega
  clear hr hw1 hB1 h2 h3 hP hg
  go_enter Try.func10, Try.ntmps10
  go_wp2_with fail
  rw [← HW1.out]
  refine wp_scope_straight ?_
  go_wp2_with fail
  refine C.out.mono ?_
  rintro _ w2 ⟨rfl, hb2⟩
  have H22 := Lib.hid (H2.out.grow hb2)
  have H32 := Lib.hid (H3.out.grow hb2)
  have HB2 := Lib.hid (HB1.out.trans (hb2.mono HB1.out.size))
  have hE := (alloc7 (alloc7 H22.out (.cells #[.int .i64 0, .int .i64 0, .int .i64 0, .int .i64 0] 23)) (.cells #[.int .i64 0] 3))
  have hK := (alloc7 (alloc7 H32.out (.cells #[.int .i64 0, .int .i64 0, .int .i64 0, .int .i64 0] 23)) (.cells #[.int .i64 0] 3))
  have hEB := (HB2.out.alloc HB2.out.size (.cells #[.int .i64 0, .int .i64 0, .int .i64 0, .int .i64 0] 23)).alloc (by have := HB2.out.size; simp; omega) (.cells #[.int .i64 0] 3)
  obtain ⟨w6, hw6⟩ : ∃ w6, w6 = ((w2.alloc (.cells #[.int .i64 0, .int .i64 0, .int .i64 0, .int .i64 0] 23)).alloc (.cells #[.int .i64 0] 3)).setRow W.heap.size #[.int .i64 0, .int .i64 0, .int .i64 0, .int .i64 0, .slice none 0 0, .int .i64 0, .int .u32 0] := ⟨_, rfl⟩
  have h6 : Blk w6 W.heap.size 27 [.int .i64 0, .int .i64 0, .int .i64 0, .int .i64 0, .slice none 0 0, .int .i64 0, .int .u32 0] := by rw [hw6]; exact hE.setRow_ _
  have hK6 : Blk w6 (W.heap.size + 1) 32 [.int .i64 0] := by rw [hw6]; exact hK.rowOther _ (by omega)
  have hb6 : Below W.heap.size W w6 := by rw [hw6]; exact below_setRow hEB (Nat.le_refl _) _
  have H1C := Lib.hid (show (#[.int .i64 0, .int .i64 0, .int .i64 0, .int .i64 0, .slice none 0 0, .int .i64 0, .int .u32 0] : Array Value).all (·.oneCell') = true by simp [Value.oneCell'])
  have HE := Lib.hid hE
  have H6 := Lib.hid h6
  have HK6 := Lib.hid hK6
  have HB6 := Lib.hid hb6
  have HW6 := Lib.hid hw6
  have k0 := hK6.cell 0
  have k1 := hK6.frozen 0
  simp only [List.getElem?_cons_zero] at k0
  clear hb2 C hE hK hEB h6 hK6 hb6 hw6
  go_wp2_with ((with_reducible show wpList _ _ _ (({ dst := none, op := .store 27 _ _, type := _, pos := _, after := _, guard := _ } : Oper) :: _) _ _); refine wpList_store_row rfl 27 (.tmp 2) (.tmp 18) rfl W.heap.size _ rfl rfl 27 _ HE.out size_str rfl H1C.out ?_; rw [← HW6.out])
  refine bodyPost_ret (results_row_box Try.results10 _ _ W.heap.size (W.heap.size + 1) _ (.int .i64 (e : Int)) rfl rfl (load_str (H6.out.setOther ⟨W.heap.size + 1, 0, none⟩ _ (by simp)) rfl) ((HK6.out.set_ 0 _).cell 0) (plain_errno _)) rfl ?_
  exact ⟨_, rfl, nilBlks _, HB6.out.setCell (p := ⟨W.heap.size + 1, 0, none⟩) (by simp) _⟩
set_option maxRecDepth 100000 in
set_option maxHeartbeats 8000000 in
theorem frmParse_ok (A : Option Addr) (n c : Nat) (l : List UInt8) (W : World) (hr : Rd W W.heap.size A (bvs l)) (hn : l.length = n) (hnc : n ≤ c) (hn1 : n ≤ 10000) {m j e0 : Nat} (hg : lget (l.drop 7) = (m, j, e0)) {b u r md p0 : Nat} (hP : getP l m j e0 = ([(b : Int), (u : Int), (r : Int), (md : Int)], p0, 0)) (hb : b ≤ 16777216) (hp0 : p0 ≤ n) :
    Calls Try.prog 10 #[.slice A n c] W (StrOut W (endR l [(b : Int), (u : Int), (r : Int), (md : Int)] (parL l b (n + 1) p0 0 []))) := by
  obtain ⟨i0, z0, hi0, hz0, hz1, hz2, hz3⟩ := info_blk
  obtain ⟨w1, hw1⟩ : ∃ w1, w1 = (W.alloc (.cells #[.int .i64 0, .int .i64 0, .int .i64 0, .int .i64 0, .slice none 0 0, .int .i64 0, .int .u32 0] 27)).alloc (.cells #[.int .i64 0] 32) := ⟨_, rfl⟩
  have hB1 : Below W.heap.size W w1 := by rw [hw1]; exact ((Below.refl _ _).alloc (Nat.le_refl _) _).alloc (by simp) _
  have h2 : Blk w1 W.heap.size 27 [.int .i64 0, .int .i64 0, .int .i64 0, .int .i64 0, .slice none 0 0, .int .i64 0, .int .u32 0] := by rw [hw1]; exact (blk_new W _ _ rfl).grow ((Below.refl _ _).alloc (Nat.le_refl _) _)
  have h3 : Blk w1 (W.heap.size + 1) 32 [.int .i64 0] := by rw [hw1]; exact blk_new _ _ _ (by simp)
  have C := Lib.hid (hdGet_any A n c l w1 ((hr.below hB1).more hB1.size) hn hnc hn1 hg)
  rw [hP] at C
  unfold GetOut at C
  rw [show optA ([(b : Int), (u : Int), (r : Int), (md : Int)], p0, 0).1 = .agg #[.int .i64 (b : Int), .int .i64 (u : Int), .int .i64 (r : Int), .int .i64 (md : Int)] from rfl] at C
  have HR := Lib.hid hr
  have HN := Lib.hid hn
  have HW1 := Lib.hid hw1
  have HB1 := Lib.hid hB1
  have H2 := Lib.hid h2
  have H3 := Lib.hid h3
  have HP0 := Lib.hid (And.intro hnc (And.intro hn1 (And.intro hb hp0)))
  clear hr hw1 hB1 h2 h3 hP hg hn hnc hn1 hb hp0
  refine (callsIn_wide (n := 4)).1 ?_
  refine callsIn_of_wp_marks Try.func10 rfl trivial ?_ rfl
  simp only [Try.ntmps10, List.size_toArray, List.length_cons, List.length_nil, Nat.reduceAdd, Nat.reduceSub, Array.replicate_succ, Array.replicate_zero, List.push_toArray, List.append_toArray, List.nil_append, List.cons_append]
  gi_wp2_with fail
  rw [← HW1.out]
  refine wpIn_wide.2 (wp_scope_straight ((wpIn_wide (n := 4)).1 ?_))
  gi_wp2_with fail
  refine ⟨trivial, (callsIn_wide.2 C.out).mono ?_⟩
  rintro _ w2 ⟨rfl, hb2⟩
  have H22 := Lib.hid (H2.out.grow hb2)
  have H32 := Lib.hid (H3.out.grow hb2)
  have HB2 := Lib.hid (HB1.out.trans (hb2.mono HB1.out.size))
  have HS2 := Lib.hid (show W.heap.size + 2 ≤ w2.heap.size from H32.out.lt)
  clear hb2 C HB1 H2 H3
  obtain ⟨B4, hB4⟩ : ∃ B4, B4 = w2.heap.size := ⟨_, rfl⟩
  obtain ⟨w5, hw5⟩ : ∃ w5, w5 = ((w2.alloc (.cells #[.int .i64 (b : Int), .int .i64 (u : Int), .int .i64 (r : Int), .int .i64 (md : Int)] 23)).alloc (.cells #[.int .i64 (p0 : Int)] 3)).alloc (.cells #[.int .i64 (b : Int), .int .i64 (u : Int), .int .i64 (r : Int), .int .i64 (md : Int), .slice none 0 0, .int .i64 0, .int .u32 0] 27) := ⟨_, rfl⟩
  have hB25 : Below w2.heap.size w2 w5 := by rw [hw5]; exact (((Below.refl _ _).alloc (Nat.le_refl _) _).alloc (by simp) _).alloc (by simp; omega) _
  have h5 : Blk w5 (B4 + 1) 3 [.int .i64 (p0 : Int)] := by rw [hw5]; exact (blk_new _ _ _ (by rw [hB4]; simp)).grow ((Below.refl _ _).alloc (Nat.le_refl _) _)
  have h7 : Blk w5 (B4 + 1 + 1) 27 [.int .i64 (b : Int), .int .i64 (u : Int), .int .i64 (r : Int), .int .i64 (md : Int), .slice none 0 0, .int .i64 0, .int .u32 0] := by rw [hw5]; exact blk_new _ _ _ (by rw [hB4]; simp)
  have h4 : Blk w5 B4 23 [.int .i64 (b : Int), .int .i64 (u : Int), .int .i64 (r : Int), .int .i64 (md : Int)] := by rw [hw5]; exact (blk_new _ _ _ hB4).grow (((Below.refl _ _).alloc (Nat.le_refl _) _).alloc (by simp) _)
  have hs5 : w5.heap.size = B4 + 3 := by rw [hw5, hB4]; simp
  have HW5 := Lib.hid (And.intro hw5 hs5)
  have HB5 := Lib.hid (HB2.out.trans (hB25.mono HB2.out.size))
  have H25 := Lib.hid (H22.out.grow hB25)
  have H35 := Lib.hid (H32.out.grow hB25)
  have H5 := Lib.hid h5
  have H7 := Lib.hid h7
  have HB4 := Lib.hid hB4
  have CB := Lib.hid (fun w => frmBlocks_any A n c (b : Int) (u : Int) (r : Int) (md : Int) (p0 : Int) w)
  rw [← hB4] at HS2
  have h45 := h4
  clear hw5 hB25 h5 h7 h4 hs5 H22 H32 HB2 hB4
  gi_wp2_with fail
  refine wpIn_label ?_
  rename_i K1 hK1
  refine hK1 _ _ ?_
  rw [← HW5.out.1, ← HB4.out]
  have q0 := h45.cell 0
  have q1 := h45.cell 1
  have q2 := h45.cell 2
  have q3 := h45.cell 3
  have q5 := H5.out.cell 0
  simp only [List.getElem?_cons_zero, List.getElem?_cons_succ] at q0 q1 q2 q3 q5
  gi_wp2_with fail
  refine ⟨trivial, (callsIn_wide.2 (CB.out w5)).mono ?_⟩
  rintro _ w6 ⟨rfl, hs6, hbs, hbo, hbp, hb6⟩
  rw [HW5.out.2] at hs6 hbs hbo hbp ⊢
  have hbw := HB5.out.trans (hb6.mono HB5.out.size)
  have HPB := Lib.hid (⟨rfl, rfl, by have := HS2.out; omega, rfl, by omega, by omega⟩ : ParB W w6.heap.size W.heap.size (W.heap.size + 1) (B4 + 1) (B4 + 1 + 1) (B4 + 3 + 1 + 1))
  have HV := Lib.hid (⟨H5.out.grow hb6, H7.out.grow hb6, World.ownsRow_nil _ _ _ _, H25.out.grow hb6, H35.out.grow hb6, hbw⟩ : ParV W l b n w6.heap.size W.heap.size (W.heap.size + 1) (B4 + 1) (B4 + 1 + 1) (b : Int) (u : Int) (r : Int) (md : Int) p0 0 [] (.slice none 0 0) w6)
  have HHN := Lib.hid (blocks1_hands 3 (by omega) (n₀ := W.heap.size) (Bs := B4 + 3) (Bo := B4 + 3 + 1) (Bp := B4 + 3 + 1 + 1) (p0 := p0) (b := b) (w := w6) HN.out HP0.out.1 (by have := HP0.out.2.1; omega) HP0.out.2.2.1 HP0.out.2.2.2 hbw.size (by have := HS2.out; omega) ⟨hbs, hbo, hbp, HR.out.below hbw⟩)
  have HSZ := Lib.hid (And.intro hs6 (And.intro hbs.lt (And.intro hbo.lt hbp.lt)))
  obtain ⟨xs, hxs⟩ : ∃ xs, xs = itemsF l b (n + 1) p0 0 := ⟨_, rfl⟩
  rw [← hxs] at HHN
  have HXS := Lib.hid hxs
  clear hs6 hbs hbo hbp hb6 hbw hxs q0 q1 q2 q3 q5 h45 CB HB5 H25 H35 H5 H7 HW1 HW5
  gi_wp2
  refine wpIn_range_stop (by omega) (gf := 38) (lb := #[.pointer (some ⟨B4 + 3, 0, none⟩), .pointer (some ⟨B4 + 3 + 1, 0, none⟩), .pointer (some ⟨B4 + 3 + 1 + 1, 0, none⟩)]) rfl (enters_of Try.func38 (by kernel_rfl) rfl)
    HHN.out (fun k hk => ?_) (fun k hk => by simp at hk; rw [hk]; exact HSZ.out.2.2.2) (fun _ => rfl)
    (ParI W l b n p0 w6.heap.size W.heap.size (W.heap.size + 1) (B4 + 1) (B4 + 1 + 1) (b : Int) (u : Int) (r : Int) (md : Int) xs) (mineF W.heap.size (W.heap.size + 1) (B4 + 1) (B4 + 1 + 1))
    (fun s A C h hu => parI_turns HPB.out h hu) (fun s A k h hk => parI_mine HPB.out h hk)
    (ParX W l b n p0 w6.heap.size W.heap.size (W.heap.size + 1) (B4 + 1) (B4 + 1 + 1) (b : Int) (u : Int) (r : Int) (md : Int)) (fun c s A C h hu => parX_turns HPB.out h hu)
    ⟨n + 1, p0, 0, [], .slice none 0 0, fun rest h => by rw [← HXS.out]; exact h.symm, rfl, HP0.out.2.2.2, by omega, by omega, by simp, HV.out⟩
    (ParAt w6.heap.size) (fun x g A C h hu => ⟨h.1, hu.blk h.2 (by have := HPB.out.h0; have := h.1; simp; omega)⟩) ?_ ?_ ?_ ?_ ?_
  · rcases hk with h | rfl | rfl | rfl
    · have := HV.out.below.size; omega
    · exact HSZ.out.2.1
    · exact HSZ.out.2.2.1
    · exact HSZ.out.2.2.2
  rotate_left
  · intro lq x Wd K hs hK
    simp only [encF, blkF]
    gi_wp2
    obtain ⟨g, hg⟩ : ∃ g, g = Wd.heap.size := ⟨_, rfl⟩
    rw [← hg]
    refine hK g _ (Nat.le_of_eq hg.symm) ((Below.refl _ _).alloc (Nat.le_refl _) _) ⟨by rw [hg]; exact hs, blk_new _ _ _ hg⟩
  · rintro lq pre x rest g Wd hx ⟨k, p, tt, bs, v, hrest, hpar, hpn, hpk, htt, hbl, hV⟩ ⟨hg0, hgb⟩ hgm hsz
    have hr := hrest _ hx.symm
    obtain ⟨k, rfl⟩ : ∃ k', k = k' + 1 := ⟨k - 1, by omega⟩
    unfold itemsF at hr
    have hHP := HP0.out
    obtain ⟨Av, cv, rfl, -, -, -⟩ := own_form hV.own
    have c5 := hV.b5.cell 0
    have f5 := hV.b5.frozen 0
    have c70 := hV.b7.cell 4
    have c71 := hV.b7.cell 5
    have f70 := hV.b7.frozen 4
    have f71 := hV.b7.frozen 5
    simp only [List.getElem?_cons_zero, List.getElem?_cons_succ] at c5 c70 c71
    rcases blkAt_told l hHP.2.2.1 (show p ≤ l.length by rw [HN.out]; exact hpn) with ⟨⟨mo, ra, mi, co, su⟩, fr, hba, ho⟩ | ⟨e, hba, he⟩
    · rw [hba] at hr
      simp only [if_true] at hr
      injection hr with hx1 hr2
      subst hx1
      simp only [blkF] at hgb
      have x0 := hgb.cell 0
      have x1 := hgb.cell 1
      have x2 := hgb.cell 2
      have x3 := hgb.cell 3
      have x4 := hgb.cell 4
      have x5 := hgb.cell 5
      have x6 := hgb.cell 6
      simp only [List.getElem?_cons_zero, List.getElem?_cons_succ] at x0 x1 x2 x3 x4 x5 x6
      have hra : ra ≤ 16777216 := ho.ra
      have hco : co ≤ 16777216 := ho.co
      have hle : fr + co ≤ n := by have := ho.le; rw [HN.out] at this; exact this
      have hlt : p < fr := ho.lt
      have hbl2 : bs.length ≤ 10000 := by omega
      have htt2 : tt ≤ 167772160000 := by omega
      have hn1 : n ≤ 10000 := hHP.2.1
      have hgB : B4 + 1 + 1 < g := by have := HPB.out.h0; omega
      have hgN : ¬ B4 + 1 + 1 = g := by omega
      have hgN2 : ¬ g = B4 + 1 + 1 := by omega
      have hgrow4 : ∀ (o : Obj) (w4 : World) (_ : Unit), (Wd.alloc o).grownBy w4 (Value.slice Av bs.length cv).ownBlock → Blk w4 g 37 [.int .i64 (mo : Int), .int .i64 (ra : Int), .int .i64 (mi : Int), .int .i64 (co : Int), .int .u32 (su : Int), .int .i64 (fr : Int), .int .i64 (tt : Int)] := fun o w4 _ hgr => by
        refine (hgr.block g (by have := hgb.lt; simp; omega) (fun e => hgm (.inr (.inr (.inr (.inr ⟨bs.length, cv, ?_⟩)))))).trans ((Below.heap_alloc _ _ _ hgb.lt).trans hgb)
        rw [c70]
        have : Av = some ⟨g, 0, none⟩ := own_addr hV.own e
        rw [this]
      have hgrow4 := fun o w4 h => hgrow4 o w4 () h
      have HGR := Lib.hid hgrow4
      have HVV := Lib.hid hV
      have HGG := Lib.hid hgb
      have HX := Lib.hid (And.intro hx hr2)
      have HPR := Lib.hid (hpar.trans (parL_step (k := k) (t := tt) (acc := bs) hba))
      have HBD := Lib.hid (And.intro hpk (And.intro htt hbl))
      clear hrest hpar hpn hpk htt hbl hV hgb hba ho hx hr2 hHP hgrow4 hgm
      gi_wp2_with (gi_at_builtin; refine wpListIn_append_own _ rfl _ _ 24 rfl w6.heap.size 37 i0 z0 7 56 Try.underlying24 hi0 hz0 hz1 hz2 hz3 (by decide) _ bs.length (blksC bs) rfl (HVV.out.own.alloc _) ⟨Wd.heap.size, 0, none⟩ 1 1 [.int .i64 (mo : Int), .int .i64 (ra : Int), .int .i64 (mi : Int), .int .i64 (co : Int), .int .u32 (su : Int), .int .i64 (fr : Int), .int .i64 (tt : Int)] rfl rfl (cells_new32 (blk_new Wd _ _ rfl)) (oneCell_blkF (mo, ra, mi, co, su) fr tt) (by simp only [maxLen]; omega) (by omega) (by simp; omega) ?_; intro v4 w4 hown4 hg4 _; obtain ⟨A4, c4, rfl, -, -, -⟩ := own_form hown4; obtain ⟨d7, d5, k1, k2, k3⟩ := parV_more (q := ((mo, ra, mi, co, su), fr, tt)) (p' := fr + co) (tt' := tt + ra) HPB.out HVV.out hsz hown4 hg4; have c74 := d7.cell 4; have c75 := d7.cell 5; have f74 := d7.frozen 4; have f75 := d7.frozen 5; have c55 := d5.cell 0; have f55 := d5.frozen 0; have hgg4 := HGR.out _ w4 hg4; have z1 := hgg4.cell 1; have z3 := hgg4.cell 3; have z5 := hgg4.cell 5; have HR4 := Lib.hid (And.intro k1 (And.intro k2 k3)); simp only [List.getElem?_cons_zero, List.getElem?_cons_succ] at c74 c75 c55 z1 z3 z5; clear d7 d5 k1 k2 k3 hgg4)
      obtain ⟨hx, hr2⟩ := HX.out
      obtain ⟨hpk, htt, hbl⟩ := HBD.out
      simp only [← Int.natCast_add]
      refine ⟨HR4.out.1, HR4.out.2.1, k, fr + co, tt + ra, _, _, fun rest2 h2 => ?_, HPR.out, hle, by omega, step_sum htt hra hlt, ?_, HR4.out.2.2⟩
      · have h3 := hx.trans h2
        rw [List.append_assoc] at h3
        have h4 := List.append_cancel_left h3
        simp only [List.singleton_append, List.cons.injEq, true_and] at h4
        rw [← h4]
        exact hr2
      · rw [List.length_append, List.length_singleton]
        omega
    · have he0 : e ≠ 0 := by omega
      rw [hba] at hr
      simp only at hr
      rw [if_neg he0] at hr
      injection hr with hx1 hr2
      subst hx1
      simp only [blkF, noFive] at hgb
      by_cases h14 : e = 14
      · subst h14
        have HPR := Lib.hid (hpar.trans (parL_end (k := k) (t := tt) (acc := bs) hba (by decide)))
        have HVV := Lib.hid hV
        have HBD := Lib.hid (And.intro hpn (And.intro htt hbl))
        clear hrest hpar hpn hpk htt hbl hV hgb hba hx hr2 hHP he hgm c5 f5 c70 c71 f70 f71
        gi_wp2
        exact ⟨KeepsFrom.refl _ _, .inl ⟨p, tt, bs, _, rfl, HPR.out, HBD.out.1, HBD.out.2.1, HBD.out.2.2, HVV.out⟩⟩
      · have hei : ¬ (e : Int) = 0 := by omega
        have hei2 : ¬ (e : Int) = 14 := by omega
        have HPR := Lib.hid (hpar.trans (parL_end (k := k) (t := tt) (acc := bs) hba he0))
        have HVV := Lib.hid hV
        have H1C := Lib.hid (show (#[.int .i64 0, .int .i64 0, .int .i64 0, .int .i64 0, .slice none 0 0, .int .i64 0, .int .u32 0] : Array Value).all (·.oneCell') = true by simp [Value.oneCell'])
        obtain ⟨w8, hw8⟩ : ∃ w8, w8 = Wd.setRow W.heap.size #[.int .i64 0, .int .i64 0, .int .i64 0, .int .i64 0, .slice none 0 0, .int .i64 0, .int .u32 0] := ⟨_, rfl⟩
        have h28 : Blk w8 W.heap.size 27 [.int .i64 0, .int .i64 0, .int .i64 0, .int .i64 0, .slice none 0 0, .int .i64 0, .int .u32 0] := by rw [hw8]; exact hV.b2.setRow_ _
        have h38 : Blk w8 (W.heap.size + 1) 32 [.int .i64 0] := by rw [hw8]; exact hV.b3.rowOther _ (by omega)
        have hb8 : Below W.heap.size W w8 := by rw [hw8]; exact below_setRow hV.below (Nat.le_refl _) _
        have k0 := h38.cell 0
        have k1 := h38.frozen 0
        simp only [List.getElem?_cons_zero] at k0
        have H28 := Lib.hid h28
        have H38 := Lib.hid h38
        have HB8 := Lib.hid hb8
        have HW8 := Lib.hid hw8
        clear hrest hpar hpn hpk htt hbl hV hgb hba hx hr2 hHP he hgm c5 f5 c70 c71 f70 f71 hw8 h28 h38 hb8
        gi_wp2_with ((with_reducible show wpListIn _ _ _ _ _ (({ dst := none, op := .store 27 _ _, type := _, pos := _, after := _, guard := _ } : Oper) :: _) _ _); refine wpListIn_store_row32 rfl 27 (.tmp 2) (.tmp 29) rfl W.heap.size _ rfl rfl 27 _ HVV.out.b2 size_str rfl H1C.out ?_; rw [← HW8.out])
        refine ⟨by rw [HW8.out]; exact keepsFrom_two HVV.out.b2 HVV.out.b3 _ _, .inr ⟨p, tt, bs, e, rfl, HPR.out, h14, H28.out.setOther ⟨W.heap.size + 1, 0, none⟩ _ (by simp), H38.out.set_ 0 _, HB8.out.setCell (p := ⟨W.heap.size + 1, 0, none⟩) (by simp) _⟩⟩
  · rintro D Wd hD ⟨k, p, tt, bs, v, hrest, -, hpn, hpk, -, -, -⟩ hDef
    exfalso
    have hr := hrest [] (by simp)
    obtain ⟨k, rfl⟩ : ∃ k', k = k' + 1 := ⟨k - 1, by omega⟩
    unfold itemsF at hr
    cases hr
  · rintro D cd pre Wd hD - hX hDef
    rcases hX with ⟨p, tt, bs, v, rfl, hpar, hpn, htt, hbl, hV⟩ | ⟨p, tt, bs, e, rfl, hpar, he14, h2, h3, hb⟩
    · obtain ⟨Av, cv, rfl, -, -, -⟩ := own_form hV.own
      obtain ⟨⟨sm, e2⟩, hE⟩ : ∃ q, q = endE (l.drop p) tt := ⟨_, rfl⟩
      have hres : endR l [(b : Int), (u : Int), (r : Int), (md : Int)] (bs, tt, p, 14) = if e2 ≠ 0 then noStream e2 else ([(b : Int), (u : Int), (r : Int), (md : Int)], bs, tt, sm, 0) := by
        unfold endR
        simp only
        rw [if_neg (fun h => h rfl), ← hE]
      have HPAR := Lib.hid (hpar.symm ▸ hres : endR l [(b : Int), (u : Int), (r : Int), (md : Int)] (parL l b (n + 1) p0 0 []) = _)
      have hD2 : W.heap.size + 1 < D ∧ B4 + 1 + 1 < D := by have := HPB.out.h5; have := HPB.out.h7; have := HPB.out.hp; have := HPB.out.h0; omega
      have hD3 := (Array.getElem?_eq_some_iff.1 hDef).1
      have hHP := HP0.out
      have CE := Lib.hid (frmEnd_any (if c = p then A else Option.map (fun x => x.add p) A) (n - p) (c - p) tt (l.drop p) Wd.drew (rd_from (((HR.out.below hV.below).more hV.below.size).drew) HN.out hHP.1 hpn) (by rw [List.length_drop, HN.out]) (by omega) (by omega))
      rw [← hE] at CE
      simp only at CE
      obtain ⟨A3, hA3⟩ : ∃ A3, A3 = (if c = p then A else Option.map (fun x => x.add p) A) := ⟨_, rfl⟩
      rw [← hA3] at CE
      have HA3 := Lib.hid hA3
      have c5 : Wd.drew.cell? ⟨B4 + 1, 0, none⟩ = _ := hV.b5.cell 0
      have c75 : Wd.drew.cell? ⟨B4 + 1 + 1, 5, none⟩ = _ := hV.b7.cell 5
      simp only [List.getElem?_cons_zero, List.getElem?_cons_succ] at c5 c75
      have HVV := Lib.hid hV
      have HDF := Lib.hid hDef
      have HD := Lib.hid (And.intro hD2 hD3)
      have H1Z := Lib.hid (show (#[.int .i64 0, .int .i64 0, .int .i64 0, .int .i64 0, .slice none 0 0, .int .i64 0, .int .u32 0] : Array Value).all (·.oneCell') = true by simp [Value.oneCell'])
      have hpi : (p : Int) ≤ (n : Int) := by omega
      have hci : (n : Int) ≤ (c : Int) := by have := hHP.1; omega
      clear hA3 hE hres hV hDef hpar hD2 hD3 hHP
      gi_wp2_with fail
      refine wpIn_wide.2 (wp_region_noPanic ?_)
      go_region_with (go_at_call 23; rw [← HA3.out]; (with_reducible refine CE.out.mono ?_); rintro _ w9 ⟨rfl, hb9⟩; have hb9' : Below Wd.heap.size Wd w9 := (Below.refl _ _).drew.trans hb9; have hx7 := HVV.out.b7.grow hb9'; have x6 := hx7.cell 6; have f6 := hx7.frozen 6; simp only [List.getElem?_cons_zero, List.getElem?_cons_succ] at x6; have HB9 := Lib.hid hb9'; clear hx7 hb9 hb9')
      all_goals
        refine NoPanic.normal ?_
        clear CE HA3 c5 c75
        obtain ⟨wA, hwA⟩ : ∃ wA, wA = w9.setCell ⟨B4 + 1 + 1, 6, none⟩ (.int .u32 (sm : Int)) := ⟨_, rfl⟩
        obtain ⟨hD1, hD2, hD3⟩ : W.heap.size + 1 < D ∧ B4 + 1 + 1 < D ∧ D < Wd.heap.size := ⟨HD.out.1.1, HD.out.1.2, HD.out.2⟩
        have hBlt : W.heap.size + 1 < B4 + 1 + 1 := by have := HPB.out.h5; omega
        have hsA : Wd.heap.size ≤ wA.heap.size := by rw [hwA]; have := HB9.out.size; simpa [World.setCell] using this
        have hvA : Blk wA (B4 + 1 + 1) 27 [.int .i64 (b : Int), .int .i64 (u : Int), .int .i64 (r : Int), .int .i64 (md : Int), .slice Av bs.length cv, .int .i64 (tt : Int), .int .u32 (sm : Int)] := by rw [hwA]; exact (HVV.out.b7.grow HB9.out).set_ 6 _
        have h2A : Blk wA W.heap.size 27 [.int .i64 0, .int .i64 0, .int .i64 0, .int .i64 0, .slice none 0 0, .int .i64 0, .int .u32 0] := by rw [hwA]; exact (HVV.out.b2.grow HB9.out).setOther _ _ (by simp; omega)
        have h3A : Blk wA (W.heap.size + 1) 32 [.int .i64 0] := by rw [hwA]; exact (HVV.out.b3.grow HB9.out).setOther _ _ (by simp; omega)
        have hbA : Below W.heap.size W wA := by rw [hwA]; exact (HVV.out.below.trans (HB9.out.mono HVV.out.below.size)).setCell (p := ⟨B4 + 1 + 1, 6, none⟩) (by simp; omega) _
        have hoA : wA.ownsRow w6.heap.size 37 7 (.slice Av bs.length cv) bs.length (blksC bs) := by
          rw [hwA]
          have h0 := own_kept HVV.out.own HB9.out
          refine ⟨h0.1, ?_⟩
          rcases h0.2 with hn | ⟨q, cap, cur, eq, hbq, hgq, rest⟩
          · exact .inl hn
          · exact .inr ⟨q, cap, cur, eq, hbq, (Below.heap_setCell _ _ _ _ (by have := HPB.out.h0; have := HPB.out.hp; simp; omega)).trans hgq, rest⟩
        have hDA : wA.heap[D]? = some (.deferred (some [])) := by rw [hwA]; exact (Below.heap_setCell _ _ _ _ (by simp; omega)).trans ((HB9.out.block D hD3).trans HDF.out)
        rw [← hwA]
        by_cases he : e2 = 0
        · subst he
          have H1V := Lib.hid (show (#[.int .i64 (b : Int), .int .i64 (u : Int), .int .i64 (r : Int), .int .i64 (md : Int), .slice Av bs.length cv, .int .i64 (tt : Int), .int .u32 (sm : Int)] : Array Value).all (·.oneCell') = true by simp [Value.oneCell'])
          have x0 := hvA.cell 0
          have x1 := hvA.cell 1
          have x2 := hvA.cell 2
          have x3 := hvA.cell 3
          have x4 := hvA.cell 4
          have x5 := hvA.cell 5
          have x6 := hvA.cell 6
          simp only [List.getElem?_cons_zero, List.getElem?_cons_succ] at x0 x1 x2 x3 x4 x5 x6
          obtain ⟨wC, hwC⟩ : ∃ wC, wC = wA.setRow W.heap.size #[.int .i64 (b : Int), .int .i64 (u : Int), .int .i64 (r : Int), .int .i64 (md : Int), .slice Av bs.length cv, .int .i64 (tt : Int), .int .u32 (sm : Int)] := ⟨_, rfl⟩
          have h2C : Blk wC W.heap.size 27 [.int .i64 (b : Int), .int .i64 (u : Int), .int .i64 (r : Int), .int .i64 (md : Int), .slice Av bs.length cv, .int .i64 (tt : Int), .int .u32 (sm : Int)] := by rw [hwC]; exact h2A.setRow_ _
          have h3C : Blk wC (W.heap.size + 1) 32 [.int .i64 0] := by rw [hwC]; exact h3A.rowOther _ (by omega)
          have hbC : Below W.heap.size W wC := by rw [hwC]; exact below_setRow hbA (Nat.le_refl _) _
          have hDC : wC.heap[D]? = some (.deferred (some [])) := by rw [hwC]; exact (setRow_other wA W.heap.size D _ (by omega)).trans hDA
          have hblk : ∀ k, W.heap.size + 1 < k → wC.heap[k]? = wA.heap[k]? := fun k hk => by rw [hwC]; exact setRow_other wA W.heap.size k _ (by omega)
          have k0 := h3C.cell 0
          have k1 := h3C.frozen 0
          simp only [List.getElem?_cons_zero] at k0
          have g2 : Blk ((wC.setCell ⟨W.heap.size + 1, 0, none⟩ (.int .i64 (0))).putObj D (.deferred none)) W.heap.size 27 [.int .i64 (b : Int), .int .i64 (u : Int), .int .i64 (r : Int), .int .i64 (md : Int), .slice Av bs.length cv, .int .i64 (tt : Int), .int .u32 (sm : Int)] := (World.putObj_heap_other (by omega)).trans (h2C.setOther _ _ (by simp))
          have g3 : Blk ((wC.setCell ⟨W.heap.size + 1, 0, none⟩ (.int .i64 (0))).putObj D (.deferred none)) (W.heap.size + 1) 32 [.int .i64 (0)] := (World.putObj_heap_other (by omega)).trans (h3C.set_ 0 _)
          have gD : (wC.setCell ⟨W.heap.size + 1, 0, none⟩ (.int .i64 (0))).heap[D]? = some (.deferred (some [])) := (Below.heap_setCell _ _ _ _ (by simp; omega)).trans hDC
          have gB : Below W.heap.size W ((wC.setCell ⟨W.heap.size + 1, 0, none⟩ (.int .i64 (0))).putObj D (.deferred none)) := (hbC.setCell (p := ⟨W.heap.size + 1, 0, none⟩) (by simp) _).trans (belowK_b (w := W) (Nat.le_refl _) _ D _ (.deferred none) (by omega) gD rfl rfl)
          have gO : ((wC.setCell ⟨W.heap.size + 1, 0, none⟩ (.int .i64 0)).putObj D (.deferred none)).ownsRow w6.heap.size 37 7 (.slice Av bs.length cv) bs.length (blksC bs) := by
            refine ⟨hoA.1, ?_⟩
            rcases hoA.2 with hn | ⟨q, cap, cur, eq, hbq, hgq, rest⟩
            · exact .inl hn
            · refine .inr ⟨q, cap, cur, eq, hbq, ?_, rest⟩
              have hq : q ≠ D := fun e => by
                rw [e, hDA] at hgq
                cases hgq
              have hw6 := HPB.out.h0
              have hwp := HPB.out.hp
              exact (World.putObj_heap_other hq).trans ((Below.heap_setCell _ _ _ _ (by simp; omega)).trans ((hblk q (by omega)).trans hgq))
          have GO := Lib.hid gO
          clear gO
          have G2 := Lib.hid g2
          have G3 := Lib.hid g3
          have GD := Lib.hid gD
          have GB := Lib.hid gB
          have H2A := Lib.hid h2A
          have HWC := Lib.hid hwC
          clear g2 g3 gD gB h2A h3A hbA hoA hDA hwA hwC h2C h3C hbC hDC hblk hsA hD1 hD2 hD3 hBlt
          gi_wp2_with ((with_reducible show wpListIn _ _ _ _ _ (({ dst := none, op := .store 27 _ _, type := _, pos := _, after := _, guard := _ } : Oper) :: _) _ _); refine wpListIn_store_row32 rfl 27 (.tmp 2) (.tmp 66) rfl W.heap.size _ rfl rfl 27 _ H2A.out size_str rfl H1V.out ?_; rw [← HWC.out])
          refine ⟨by simp, .inl ⟨_, _, rfl, run_takeDeferred GD.out, ?_⟩⟩
          refine ⟨_, results_row_box Try.results10 _ _ W.heap.size (W.heap.size + 1) _ (.int .i64 (0)) rfl rfl (load_str G2.out rfl) (G3.out.cell 0) (plain_errno _), ?_⟩
          rw [HPAR.out, if_neg (fun h => h rfl)]
          exact ⟨_, rfl, IsBlks.of_own GO.out, GB.out⟩
        · have hei : ¬ (e2 : Int) = 0 := by omega
          obtain ⟨wC, hwC⟩ : ∃ wC, wC = wA.setRow W.heap.size #[.int .i64 0, .int .i64 0, .int .i64 0, .int .i64 0, .slice none 0 0, .int .i64 0, .int .u32 0] := ⟨_, rfl⟩
          have h2C : Blk wC W.heap.size 27 [.int .i64 0, .int .i64 0, .int .i64 0, .int .i64 0, .slice none 0 0, .int .i64 0, .int .u32 0] := by rw [hwC]; exact h2A.setRow_ _
          have h3C : Blk wC (W.heap.size + 1) 32 [.int .i64 0] := by rw [hwC]; exact h3A.rowOther _ (by omega)
          have hbC : Below W.heap.size W wC := by rw [hwC]; exact below_setRow hbA (Nat.le_refl _) _
          have hDC : wC.heap[D]? = some (.deferred (some [])) := by rw [hwC]; exact (setRow_other wA W.heap.size D _ (by omega)).trans hDA
          have hblk : ∀ k, W.heap.size + 1 < k → wC.heap[k]? = wA.heap[k]? := fun k hk => by rw [hwC]; exact setRow_other wA W.heap.size k _ (by omega)
          have k0 := h3C.cell 0
          have k1 := h3C.frozen 0
          simp only [List.getElem?_cons_zero] at k0
          have g2 : Blk ((wC.setCell ⟨W.heap.size + 1, 0, none⟩ (.int .i64 (e2 : Int))).putObj D (.deferred none)) W.heap.size 27 [.int .i64 0, .int .i64 0, .int .i64 0, .int .i64 0, .slice none 0 0, .int .i64 0, .int .u32 0] := (World.putObj_heap_other (by omega)).trans (h2C.setOther _ _ (by simp))
          have g3 : Blk ((wC.setCell ⟨W.heap.size + 1, 0, none⟩ (.int .i64 (e2 : Int))).putObj D (.deferred none)) (W.heap.size + 1) 32 [.int .i64 (e2 : Int)] := (World.putObj_heap_other (by omega)).trans (h3C.set_ 0 _)
          have gD : (wC.setCell ⟨W.heap.size + 1, 0, none⟩ (.int .i64 (e2 : Int))).heap[D]? = some (.deferred (some [])) := (Below.heap_setCell _ _ _ _ (by simp; omega)).trans hDC
          have gB : Below W.heap.size W ((wC.setCell ⟨W.heap.size + 1, 0, none⟩ (.int .i64 (e2 : Int))).putObj D (.deferred none)) := (hbC.setCell (p := ⟨W.heap.size + 1, 0, none⟩) (by simp) _).trans (belowK_b (w := W) (Nat.le_refl _) _ D _ (.deferred none) (by omega) gD rfl rfl)
          have G2 := Lib.hid g2
          have G3 := Lib.hid g3
          have GD := Lib.hid gD
          have GB := Lib.hid gB
          have H2A := Lib.hid h2A
          have HWC := Lib.hid hwC
          clear g2 g3 gD gB h2A h3A hbA hoA hDA hwA hwC h2C h3C hbC hDC hblk hsA hD1 hD2 hD3 hBlt
          gi_wp2_with ((with_reducible show wpListIn _ _ _ _ _ (({ dst := none, op := .store 27 _ _, type := _, pos := _, after := _, guard := _ } : Oper) :: _) _ _); refine wpListIn_store_row32 rfl 27 (.tmp 2) (.tmp 64) rfl W.heap.size _ rfl rfl 27 _ H2A.out size_str rfl H1Z.out ?_; rw [← HWC.out])
          refine ⟨by simp, .inl ⟨_, _, rfl, run_takeDeferred GD.out, ?_⟩⟩
          refine ⟨_, results_row_box Try.results10 _ _ W.heap.size (W.heap.size + 1) _ (.int .i64 (e2 : Int)) rfl rfl (load_str G2.out rfl) (G3.out.cell 0) (plain_errno _), ?_⟩
          rw [HPAR.out, if_pos he]
          exact ⟨_, rfl, nilBlks _, GB.out⟩
    · rw [hpar]
      have hD2 : W.heap.size + 1 < D := by have := HPB.out.h5; have := HPB.out.h7; have := HPB.out.hp; have := HPB.out.h0; omega
      have hE : endR l [(b : Int), (u : Int), (r : Int), (md : Int)] (bs, tt, p, e) = noStream e := by unfold endR; rw [if_pos he14]
      rw [hE]
      have g2 : Blk (Wd.putObj D (.deferred none)) W.heap.size 27 _ := (World.putObj_heap_other (by omega)).trans h2
      have g3 : Blk (Wd.putObj D (.deferred none)) (W.heap.size + 1) 32 _ := (World.putObj_heap_other (by omega)).trans h3
      have HF := Lib.hid (hb.trans (belowK_b (w := W) (Nat.le_refl _) Wd D _ (.deferred none) (by omega) hDef rfl rfl))
      have HG2 := Lib.hid g2
      have HG3 := Lib.hid g3
      have HDF := Lib.hid hDef
      clear hpar h2 h3 hb g2 g3 hDef hE
      gi_wp2
      refine ⟨by simp, .inl ⟨_, _, rfl, run_takeDeferred HDF.out, ?_⟩⟩
      exact ⟨_, results_row_box Try.results10 _ _ W.heap.size (W.heap.size + 1) _ (.int .i64 (e : Int)) rfl rfl (load_str HG2.out rfl) (HG3.out.cell 0) (plain_errno _), _, rfl, nilBlks _, HF.out⟩
end Go.Proofs.Ytjignfnkcbklkaa
namespace Go.Proofs.Ytjignfnkcbklkaa
open Go.RowKit Go.Sort

theorem frmParse_any (A : Option Addr) (n c : Nat) (l : List UInt8) (W : World) (hr : Rd W W.heap.size A (bvs l)) (hn : l.length = n) (hnc : n ≤ c) (hn1 : n ≤ 10000) : Calls Try.prog 10 #[.slice A n c] W (StrOut W (parseB l)) := by
  obtain ⟨⟨m, j, e0⟩, hg⟩ : ∃ r, lget (l.drop 7) = r := ⟨_, rfl⟩
  rw [← parse_of hg]
  rcases getP_told l m j e0 with ⟨b, u, r, md, p0, hP, hb, -, -, -, hp0, -⟩ | ⟨e, hP, he, -⟩
  · have h := frmParse_ok A n c l W hr hn hnc hn1 hg hP hb (by rw [← hn]; exact hp0)
    unfold parseR
    rw [hP, if_neg (fun h => h rfl), hn]
    exact h
  · have h := frmParse_bad A n c l W hr hn hnc hn1 hg hP he
    unfold parseR
    rw [hP, if_pos he]
    exact h
end Go.Proofs.Ytjignfnkcbklkaa
namespace Go.Proofs.Ytjignfnkcbklkaa
open Go.RowKit Go.Sort

/-- Parse's call, of what is told. -/
theorem frmParse_told {l : List UInt8} {n : Nat} (hn : l.length = n) (hn1 : n ≤ 10000) {o0 o1 o2 o3 : Int} {bs : List Blk7} {tt su e N : Nat} (h : parseB l = ([o0, o1, o2, o3], bs, tt, su, e)) (hN : bs.length = N) {A : Option Addr} {c : Nat} (hnc : n ≤ c) (w : World) (hr : Rd w w.heap.size A (bvs l)) :
    Calls Try.prog 10 #[.slice A n c] w fun e' w' => ∃ A2 c2, e' = .returned (.tuple #[.agg #[.int .i64 o0, .int .i64 o1, .int .i64 o2, .int .i64 o3, .slice A2 N c2, .int .i64 (tt : Int), .int .u32 (su : Int)], .int .i64 (e : Int)]) ∧ Rd w' w'.heap.size A2 (blksI (bs.map B7.of)) ∧ Below w.heap.size w w' := by
  have h2 := frmParse_any A n c l w hr hn hnc hn1
  rw [h] at h2
  refine Calls.mono h2 ?_
  rintro e w' ⟨v, rfl, ⟨A2, c2, rfl, -, hrd⟩, hbw⟩
  simp only at hrd
  rw [blksC_of] at hrd
  subst hN
  exact ⟨A2, c2, rfl, hrd, hbw⟩
end Go.Proofs.Ytjignfnkcbklkaa
namespace Go.Proofs.Ytjignfnkcbklkaa
open Go.RowKit Go.Sort

/-- The stream of the fixed calls, as it is put. -/
def knX : List BP := [(⟨0, 1, 0, 1, 0, 0, 0⟩, [7])]
def knL : List UInt8 := (putR 9 1 0 0 1 1 knX 0).1
theorem kn_put : putR 9 1 0 0 1 1 knX 0 = (knL, 0) := by decide +kernel
theorem kn_len : knL.length = 25 := by decide +kernel
theorem kn_parse : parseB knL = ([9, 1, 0, 0], [((0, 1, 0, 1, 0), 18, 0)], 1, 0, 0) := by kernel_rfl
theorem kn_pay : payR knL [⟨0, 1, 0, 1, 0, 18, 0⟩] 0 = [7] := by decide +kernel
theorem kn_putC {A1 A2 A0 : Option Addr} (w : World) (hb : Rd w w.heap.size A2 (blksI [⟨0, 1, 0, 1, 0, 0, 0⟩])) (hr : Rd w w.heap.size A1 [.slice A0 1 1]) (h0 : Rd w w.heap.size A0 (bvs [7])) :
    Calls Try.prog 7 #[.agg #[.int .i64 9, .int .i64 1, .int .i64 0, .int .i64 0, .slice A2 1 1, .int .i64 0, .int .u32 0], .slice A1 1 1] w fun e w' => ∃ A c, e = .returned (.tuple #[.slice A 25 c, .int .i64 0]) ∧ 25 ≤ c ∧ Rd w' w'.heap.size A (bvs knL) ∧ Below w.heap.size w w' := by
  have h := frmPut_any (b := 9) (u := 1) (r := 0) (m := 0) (tt := 0) (su := 0) (A2 := A2) (A1 := A1) (c2 := 1) (c1 := 1) (bs := [⟨0, 1, 0, 1, 0, 0, 0⟩]) (rs := [⟨A0, 1, 1, [7]⟩]) w hb
    ⟨hr, fun r hr2 => by rw [List.mem_singleton.1 hr2]; exact ⟨rfl, Nat.le_refl _, (by show (1 : Nat) ≤ 9223372036854775807; decide), h0⟩⟩ (by simp) (by simp) (fun x hx => by rw [List.mem_singleton.1 hx]; exact ⟨⟨by decide, by decide⟩, ⟨by decide, by decide⟩, ⟨by decide, by decide⟩, ⟨by decide, by decide⟩, by decide, by decide⟩) (by decide)
  rw [show putR 9 1 0 0 (List.length ([⟨0, 1, 0, 1, 0, 0, 0⟩] : List B7)) (List.length ([⟨A0, 1, 1, [7]⟩] : List BRow)) (([⟨0, 1, 0, 1, 0, 0, 0⟩] : List B7).zip (([⟨A0, 1, 1, [7]⟩] : List BRow).map BRow.l)) 0 = (knL, 0) from kn_put] at h
  refine Calls.mono h ?_
  rintro e w' ⟨v, rfl, ⟨A, c, rfl, hc, hrd⟩, hbw⟩
  rw [kn_len] at hc ⊢
  exact ⟨A, c, rfl, hc, hrd, hbw⟩
theorem kn_parseC {A : Option Addr} {c : Nat} (w : World) (hc : 25 ≤ c) (hr : Rd w w.heap.size A (bvs knL)) :
    Calls Try.prog 10 #[.slice A 25 c] w fun e w' => ∃ A2 c2, e = .returned (.tuple #[.agg #[.int .i64 9, .int .i64 1, .int .i64 0, .int .i64 0, .slice A2 1 c2, .int .i64 1, .int .u32 0], .int .i64 0]) ∧ Rd w' w'.heap.size A2 (blksI [⟨0, 1, 0, 1, 0, 18, 0⟩]) ∧ Below w.heap.size w w' := by
  have h := frmParse_any A 25 c knL w hr kn_len hc (by decide)
  rw [kn_parse] at h
  refine Calls.mono h ?_
  rintro e w' ⟨v, rfl, ⟨A2, c2, rfl, -, hrd⟩, hbw⟩
  exact ⟨A2, c2, rfl, hrd, hbw⟩
theorem kn_payC {A A2 : Option Addr} {c c2 : Nat} (w : World) (hc : 25 ≤ c) (hr : Rd w w.heap.size A (bvs knL)) (hb : Rd w w.heap.size A2 (blksI [⟨0, 1, 0, 1, 0, 18, 0⟩])) :
    Calls Try.prog 9 #[.slice A 25 c, .agg #[.int .i64 9, .int .i64 1, .int .i64 0, .int .i64 0, .slice A2 1 c2, .int .i64 1, .int .u32 0], .int .i64 0] w fun e w' => ∃ v, e = .returned v ∧ IsBytes [7] v w' ∧ Below w.heap.size w w' := by
  have h := frmPay_any (o0 := 9) (o1 := 1) (o2 := 0) (o3 := 0) (tt := 1) (su := 0) (c2 := c2) 0 w hr kn_len hc (by decide) hb (fun x hx => by rw [List.mem_singleton.1 hx]; decide)
  rw [kn_pay] at h
  exact h
set_option maxRecDepth 100000 in
set_option maxHeartbeats 4000000 in
theorem known32_any (W : World) : Calls Try.prog 6 #[] W fun e w' => e = .returned (.bool true) ∧ Below W.heap.size W w' := by
  obtain ⟨w1, hw1⟩ : ∃ w1, w1 = W.alloc (.cells #[.int .i64 0, .int .i64 1, .int .i64 0, .int .i64 1, .int .u32 0, .int .i64 0, .int .i64 0] 37) := ⟨_, rfl⟩
  obtain ⟨w2, hw2⟩ : ∃ w2, w2 = w1.alloc (.cells #[.int .i64 9, .int .i64 1, .int .i64 0, .int .i64 0, .slice (some ⟨W.heap.size, 0, none⟩) 1 1, .int .i64 0, .int .u32 0] 27) := ⟨_, rfl⟩
  obtain ⟨w3, hw3⟩ : ∃ w3, w3 = w2.alloc (.cells #[.int .u8 7] 5) := ⟨_, rfl⟩
  obtain ⟨w4, hw4⟩ : ∃ w4, w4 = w3.alloc (.cells #[.slice (some ⟨W.heap.size + 1 + 1, 0, none⟩) 1 1] 29) := ⟨_, rfl⟩
  have s1 : w1.heap.size = W.heap.size + 1 := by rw [hw1]; simp
  have s2 : w2.heap.size = W.heap.size + 1 + 1 := by rw [hw2]; simp [s1]
  have s3 : w3.heap.size = W.heap.size + 1 + 1 + 1 := by rw [hw3]; simp [s2]
  have b1 : Below W.heap.size W w1 := by rw [hw1]; exact (Below.refl _ _).alloc (Nat.le_refl _) _
  have b2 : Below w1.heap.size w1 w2 := by rw [hw2]; exact (Below.refl _ _).alloc (Nat.le_refl _) _
  have b3 : Below w2.heap.size w2 w3 := by rw [hw3]; exact (Below.refl _ _).alloc (Nat.le_refl _) _
  have b4 : Below w3.heap.size w3 w4 := by rw [hw4]; exact (Below.refl _ _).alloc (Nat.le_refl _) _
  have b34 := b3.trans (b4.mono b3.size)
  have b24 := b2.trans (b34.mono b2.size)
  have r0 : Rd w1 w1.heap.size (some ⟨W.heap.size, 0, none⟩) (blksI [⟨0, 1, 0, 1, 0, 0, 0⟩]) := by rw [hw1]; exact Rd.new W _ _
  have r2 : Rd w3 w3.heap.size (some ⟨W.heap.size + 1 + 1, 0, none⟩) (bvs [7]) := by rw [hw3, ← s2]; exact Rd.new w2 _ _
  have r3 : Rd w4 w4.heap.size (some ⟨W.heap.size + 1 + 1 + 1, 0, none⟩) [.slice (some ⟨W.heap.size + 1 + 1, 0, none⟩) 1 1] := by rw [hw4, ← s3]; exact Rd.new w3 _ _
  have C1 := Lib.hid (kn_putC w4 ((r0.below b24).more b24.size) r3 ((r2.below b4).more b4.size))
  have HB4 := Lib.hid (b1.trans (b24.mono b1.size))
  have HW := Lib.hid (show (((W.alloc (.cells #[.int .i64 0, .int .i64 1, .int .i64 0, .int .i64 1, .int .u32 0, .int .i64 0, .int .i64 0] 37)).alloc (.cells #[.int .i64 9, .int .i64 1, .int .i64 0, .int .i64 0, .slice (some ⟨W.heap.size, 0, none⟩) 1 1, .int .i64 0, .int .u32 0] 27)).alloc (.cells #[.int .u8 7] 5)).alloc (.cells #[.slice (some ⟨W.heap.size + 1 + 1, 0, none⟩) 1 1] 29) = w4 by rw [hw4, hw3, hw2, hw1])
  clear hw1 hw2 hw3 hw4 s1 s2 s3 b1 b2 b3 b4 b34 b24 r0 r2 r3
  go_enter Try.func6, Try.ntmps6
  go_wp2_with fail
  rw [HW.out]
  refine C1.out.mono ?_
  rintro _ w5 ⟨A5, c5, rfl, hc5, hr5, hb5⟩
  have C2 := Lib.hid (kn_parseC w5 hc5 hr5)
  have HB5 := Lib.hid (HB4.out.trans (hb5.mono HB4.out.size))
  have HR5 := Lib.hid hr5
  have HC5 := Lib.hid hc5
  clear C1 HW HB4 hr5 hb5 hc5
  go_wp2_with fail
  refine C2.out.mono ?_
  rintro _ w6 ⟨A6, c6, rfl, hr6, hb6⟩
  obtain ⟨w7, hw7⟩ : ∃ w7, w7 = w6.alloc (.cells #[.int .i64 9, .int .i64 1, .int .i64 0, .int .i64 0, .slice A6 1 c6, .int .i64 1, .int .u32 0] 27) := ⟨_, rfl⟩
  obtain ⟨G, hG⟩ : ∃ G, G = w6.heap.size := ⟨_, rfl⟩
  have b7 : Below w6.heap.size w6 w7 := by rw [hw7]; exact (Below.refl _ _).alloc (Nat.le_refl _) _
  have hs7 : Blk w7 G 27 [.int .i64 9, .int .i64 1, .int .i64 0, .int .i64 0, .slice A6 1 c6, .int .i64 1, .int .u32 0] := by rw [hw7]; exact blk_new _ _ _ hG
  have hr7 := (hr6.below b7).more b7.size
  have b57 := hb6.trans (b7.mono hb6.size)
  have C3 := Lib.hid (kn_payC (c2 := c6) w7 HC5.out ((HR5.out.below b57).more b57.size) hr7)
  have HB7 := Lib.hid (HB5.out.trans (b57.mono HB5.out.size))
  obtain ⟨b, off, rfl, -, -, -, -, -, -, x5, -⟩ := rd_blk hr7 (i := 0) rfl
  simp only [Nat.zero_mul, Nat.add_zero] at x5
  have z0 := hs7.cell 0
  have z1 := hs7.cell 1
  have z2 := hs7.cell 2
  have z3 := hs7.cell 3
  have z4 := hs7.cell 4
  have z5 := hs7.cell 5
  have z6 := hs7.cell 6
  simp only [List.getElem?_cons_zero, List.getElem?_cons_succ] at z0 z1 z2 z3 z4 z5 z6
  have HW7 := Lib.hid hw7
  have HG := Lib.hid hG
  clear hw7 hG b7 hs7 hr7 b57 hr6 hb6 C2 HB5 HR5 HC5
  go_wp2_with (first
    | ((with_reducible show wpList _ _ _ (({ dst := some 23, op := _, type := _, pos := _, after := _, guard := _ } : Oper) :: _) _ _); rw [← HW7.out, ← HG.out])
    | ((with_reducible show wpList _ _ _ (({ dst := some 26, op := _, type := _, pos := _, after := _, guard := _ } : Oper) :: _) _ _); rw [← HW7.out, ← HG.out])
    | ((with_reducible show wpList _ _ _ (({ dst := some 34, op := _, type := _, pos := _, after := _, guard := _ } : Oper) :: _) _ _); rw [← HW7.out, ← HG.out]))
  refine C3.out.mono ?_
  rintro _ w8 ⟨v8, rfl, hv8, hb8⟩
  have HX := Lib.hid hv8
  have HB8 := Lib.hid (HB7.out.trans (hb8.mono HB7.out.size))
  clear C3 hv8 hb8 HB7 z0 z1 z2 z3 z4 z5 z6 x5
  go_wp2_with ((with_reducible show wpList _ _ _ (({ dst := some 56, op := _, type := _, pos := _, after := _, guard := _ } : Oper) :: _) _ _); go_must (refine wpList_strW rfl 29 9 5 (.tmp 55) rfl Try.underlying29 Try.underlying5 Try.underlying9 _ HX.out ?_))
  go_ret
  exact ⟨rfl, HB8.out⟩
end Go.Proofs.Ytjignfnkcbklkaa
