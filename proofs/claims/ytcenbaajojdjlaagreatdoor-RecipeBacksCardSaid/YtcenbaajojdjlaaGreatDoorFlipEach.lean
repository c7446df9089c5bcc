/- Contracts of layer 7: Flip, Back. -/
import Derived.Test.YtcenbaajojdjlaaGreatDoorFlipSeq
namespace Go.Proofs.YtcenbaajojdjlaaGreatDoor
open Go.RowKit Go.Shelf
attribute [local go_sem] Oper.semAt_some

theorem blk_grownBy {W W' : World} {row : Option Nat} {g : Nat} {t : TypeId} {cs : List Value} (h : Blk W g t cs) (hg : W.grownBy W' row) (hne : some g ≠ row) : Blk W' g t cs := (hg.block g (Blk.lt h) hne).trans h
/-- Between two rounds: the box of the row, the box of what lives from word to word, the mask. -/
def SeqI (w : World) (BR BO BA BM M n : Nat) (f : List Nat → List Nat) (s : List Nat → Nat) (pre : List U64) (W : World) : Prop :=
  (∃ v, Boxed W BO 53 v ∧ W.ownsRow w.heap.size 63 1 v pre.length (wvs (f (vals pre))) ∧ v = .slice (some ⟨BR, 0, none⟩) pre.length n) ∧ One W BA (s (vals pre)) ∧ One W BM M ∧ Below w.heap.size w W
theorem seqI_own (w : World) (BR BO BA BM M n : Nat) (f : List Nat → List Nat) (s : List Nat → Nat) (B : Nat) (hB : w.heap.size ≤ B) : OwnFrom B (SeqI w BR BO BA BM M n f s) :=
  OwnFrom.and (Own.from (holdsRow_own w.heap.size BO 53 63 1 (fun pre => List.length pre) (fun pre => wvs (f (vals pre))) (fun pre v => v = .slice (some ⟨BR, 0, none⟩) pre.length n)) _)
    (OwnFrom.and (Own.from (boxed_own BA 63 (fun pre => .int .u64 (s (vals pre) : Int))) _) (OwnFrom.and (Own.from (boxed_own BM 63 (fun _ => .int .u64 (M : Int))) _) (ownFrom_below (Nat.le_refl _) hB)))

section
variable {w W w4 : World} {BR BO BA BM M n : Nat} {f : List Nat → List Nat} {s : List Nat → Nat} {pre : List U64} {x : U64} {tmp : Obj}
/-- A round that appends, and then stores. -/
theorem seqI_after {y : Int} {z : Nat} {ys : List Nat} (hv : Boxed W BO 53 (.slice (some ⟨BR, 0, none⟩) pre.length n)) (hrow : W.ownsRow w.heap.size 63 1 (.slice (some ⟨BR, 0, none⟩) pre.length n) pre.length (wvs ys)) (ha : One W BA z) (hm : One W BM M) (hB : Below w.heap.size w W)
    (hO : w.heap.size ≤ BO) (hA : w.heap.size ≤ BA) (n1 : BA ≠ BR) (n2 : BM ≠ BR) (n3 : BA ≠ BO) (n4 : BM ≠ BO) (n5 : BM ≠ BA)
    (hown : w4.ownsRow w.heap.size 63 1 (.slice (some ⟨BR, 0, none⟩) (pre.length + 1) n) (pre.length + 1) (wvs ys ++ [.int .u64 y])) (hg : (W.alloc tmp).grownBy w4 (some BR))
    (hf : wvs ys ++ [.int .u64 y] = wvs (f (vals (pre ++ [x])))) (hs : s (vals (pre ++ [x])) = x.1) :
    Boxed w4 BO 53 (.slice (some ⟨BR, 0, none⟩) pre.length n) ∧ One (w4.setCell ⟨BO, 0, none⟩ (.slice (some ⟨BR, 0, none⟩) (pre.length + 1) n)) BA z ∧
      KeepsOthers W ((w4.setCell ⟨BO, 0, none⟩ (.slice (some ⟨BR, 0, none⟩) (pre.length + 1) n)).setCell ⟨BA, 0, none⟩ (.int .u64 (x.1 : Int))) ∧
      KeepsM w.heap.size BM M W ((w4.setCell ⟨BO, 0, none⟩ (.slice (some ⟨BR, 0, none⟩) (pre.length + 1) n)).setCell ⟨BA, 0, none⟩ (.int .u64 (x.1 : Int))) ∧
      SeqI w BR BO BA BM M n f s (pre ++ [x]) ((w4.setCell ⟨BO, 0, none⟩ (.slice (some ⟨BR, 0, none⟩) (pre.length + 1) n)).setCell ⟨BA, 0, none⟩ (.int .u64 (x.1 : Int))) := by
  obtain ⟨hv1, hv2, hr2, hk2, hb2⟩ := hv.appended (by decide) hrow hB.size hO hown hg
  have ha1 : One w4 BA z := blk_grownBy (Blk.alloc_ ha tmp) hg (fun e => n1 (by cases e; rfl))
  have hm1 : One w4 BM M := blk_grownBy (Blk.alloc_ hm tmp) hg (fun e => n2 (by cases e; rfl))
  have ha2 : One (w4.setCell ⟨BO, 0, none⟩ (.slice (some ⟨BR, 0, none⟩) (pre.length + 1) n)) BA z := Blk.setOther ha1 _ _ n3
  have hm2 : One (w4.setCell ⟨BO, 0, none⟩ (.slice (some ⟨BR, 0, none⟩) (pre.length + 1) n)) BM M := Blk.setOther hm1 _ _ n4
  have hm3 : One ((w4.setCell ⟨BO, 0, none⟩ (.slice (some ⟨BR, 0, none⟩) (pre.length + 1) n)).setCell ⟨BA, 0, none⟩ (.int .u64 (x.1 : Int))) BM M := Blk.setOther hm2 _ _ n5
  have hb3 := hb2.setCell (p := ⟨BA, 0, none⟩) hA (.int .u64 (x.1 : Int))
  have hr3 := hr2.kept (grownBy_setCell' _ BA (.int .u64 (x.1 : Int))) (.inr (by simp [Value.ownBlock]; omega))
  rw [hf] at hr3
  refine ⟨hv1, ha2, hk2.trans (KeepsOthers.setCell _ _ _), ⟨hb3, fun _ => hm3⟩, ⟨_, hv2.other (fun e => n3 e.symm) _, ?_, ?_⟩, ?_, hm3, hB.trans hb3⟩
  · rw [List.length_append, List.length_singleton]; exact hr3
  · rw [List.length_append, List.length_singleton]
  · rw [hs]; exact ha2.set_ x.1
/-- A round that stores, and then appends. -/
theorem seqI_ahead {y : Nat} {z : Nat} {ys : List Nat} (hv : Boxed W BO 53 (.slice (some ⟨BR, 0, none⟩) pre.length n)) (hrow : W.ownsRow w.heap.size 63 1 (.slice (some ⟨BR, 0, none⟩) pre.length n) pre.length (wvs ys)) (ha : One W BA z) (hm : One W BM M) (hB : Below w.heap.size w W)
    (hO : w.heap.size ≤ BO) (hA : w.heap.size ≤ BA) (n1 : BA ≠ BR) (n2 : BM ≠ BR) (n3 : BA ≠ BO) (n4 : BM ≠ BO) (n5 : BM ≠ BA)
    (hown : w4.ownsRow w.heap.size 63 1 (.slice (some ⟨BR, 0, none⟩) (pre.length + 1) n) (pre.length + 1) (wvs ys ++ [.int .u64 (y : Int)])) (hg : ((W.setCell ⟨BA, 0, none⟩ (.int .u64 (y : Int))).alloc tmp).grownBy w4 (some BR))
    (hf : wvs ys ++ [.int .u64 (y : Int)] = wvs (f (vals (pre ++ [x])))) (hs : s (vals (pre ++ [x])) = y) :
    Boxed w4 BO 53 (.slice (some ⟨BR, 0, none⟩) pre.length n) ∧
      KeepsOthers W (w4.setCell ⟨BO, 0, none⟩ (.slice (some ⟨BR, 0, none⟩) (pre.length + 1) n)) ∧
      KeepsM w.heap.size BM M W (w4.setCell ⟨BO, 0, none⟩ (.slice (some ⟨BR, 0, none⟩) (pre.length + 1) n)) ∧
      SeqI w BR BO BA BM M n f s (pre ++ [x]) (w4.setCell ⟨BO, 0, none⟩ (.slice (some ⟨BR, 0, none⟩) (pre.length + 1) n)) := by
  have hb0 := (Below.refl w.heap.size W).setCell (p := ⟨BA, 0, none⟩) hA (.int .u64 (y : Int))
  have hr0 := hrow.kept (grownBy_setCell' _ BA (.int .u64 (y : Int))) (.inr (by simp [Value.ownBlock]; omega))
  have hv0 := hv.other (fun e => n3 e.symm) (.int .u64 (y : Int))
  have ha0 := ha.set_ y
  have hm0 : One (W.setCell ⟨BA, 0, none⟩ (.int .u64 (y : Int))) BM M := Blk.setOther hm _ _ n5
  have hB0 := hB.trans hb0
  obtain ⟨hv1, hv2, hr2, hk2, hb2⟩ := hv0.appended (by decide) hr0 hB0.size hO hown hg
  have ha1 : One w4 BA y := blk_grownBy (Blk.alloc_ ha0 tmp) hg (fun e => n1 (by cases e; rfl))
  have hm1 : One w4 BM M := blk_grownBy (Blk.alloc_ hm0 tmp) hg (fun e => n2 (by cases e; rfl))
  have ha2 : One (w4.setCell ⟨BO, 0, none⟩ (.slice (some ⟨BR, 0, none⟩) (pre.length + 1) n)) BA y := Blk.setOther ha1 _ _ n3
  have hm2 : One (w4.setCell ⟨BO, 0, none⟩ (.slice (some ⟨BR, 0, none⟩) (pre.length + 1) n)) BM M := Blk.setOther hm1 _ _ n4
  rw [hf] at hr2
  refine ⟨hv1, (KeepsOthers.setCell _ _ _).trans hk2, ⟨hb0.trans hb2, fun _ => hm2⟩, ⟨_, hv2, ?_, ?_⟩, ?_, hm2, hB0.trans hb2⟩
  · rw [List.length_append, List.length_singleton]; exact hr2
  · rw [List.length_append, List.length_singleton]
  · rw [hs]; exact ha2
end

/-- What hands back words in a row of new memory. -/
def NewO (w : World) (ws : List Nat) (e : Ending) (w' : World) : Prop := ∃ v, e = .returned v ∧ w'.ownsRow w.heap.size 63 1 v ws.length (wvs ws) ∧ Below w.heap.size w w'
theorem NewO.new {w w' : World} {ws : List Nat} {e : Ending} (h : NewO w ws e w') : NewW w ws e w' := by
  obtain ⟨v, rfl, h1, h2⟩ := h
  exact NewW.of_own h1 h2
theorem flip_one (p : List U64) (x : U64) : wvs (flipW 8 (vals p)) ++ [.int .u64 (bits .xor .u64 (x.1 : Int) (ahead (vals p) p.length : Int))] = wvs (flipW 8 (vals (p ++ [x]))) := by
  have ha := ahead_lt (vals p) _ (by decide) (vals_lt p) p.length
  rw [vals_snoc, flip_snoc, wvs_snoc, u64_xor_nat _ _ x.2 ha, vals_len, Nat.mod_eq_of_lt (xor_lt 8 _ _ x.2 ha)]
theorem back_one (p : List U64) (x : U64) : wvs (backW 8 (vals p)) ++ [.int .u64 ((xorTo (vals (p ++ [x])) (p.length + 1) : Nat) : Int)] = wvs (backW 8 (vals (p ++ [x]))) := by
  have ha := xorTo_lt (vals p) (vals_lt p) p.length
  rw [vals_snoc, back_snoc, wvs_snoc, ← vals_len p, xorTo_last, Nat.mod_eq_of_lt (xor_lt 8 _ _ (by rw [vals_len]; exact ha) x.2)]
theorem back_two (p : List U64) (x : U64) : bits .xor .u64 ((xorTo (vals p) p.length : Nat) : Int) (x.1 : Int) = ((xorTo (vals (p ++ [x])) (p.length + 1) : Nat) : Int) := by
  have ha := xorTo_lt (vals p) (vals_lt p) p.length
  rw [u64_xor_nat _ _ ha x.2, vals_snoc, ← vals_len p, xorTo_last]

theorem flipFlip_wrong (a : Value) (W : Int) (w : World) (hW : rightB W = false) :
    Calls Tryz.prog 30 #[a, .int .i64 W] w (NewW w []) := by
  have c1 := wordRight_any W false hW.symm
  have C1 := Lib.hid c1
  clear c1
  go_enter Tryz.func30, Tryz.ntmps30
  go_wp2_with (go_at_call 22; go_must (refine (C1.out _).mono ?_; rintro e w' ⟨rfl, rfl⟩))
  go_ret
  exact ⟨.slice none 0 0, rfl, ⟨none, 0, rfl, Nat.le_refl _, Rd.nil_ _ _ _⟩, Below.refl _ _⟩
set_option maxRecDepth 100000 in
set_option maxHeartbeats 2000000 in
theorem flipFlip_own (W : Nat) (hW : IsW W) (A : Option Addr) (n c : Nat) (ws : List Nat) (w : World) (hr : Rd w w.heap.size A (wvs ws)) (hn : ws.length = n) (hb1 : n ≤ 1000000000000) (hlt64 : ∀ x ∈ ws, x < 18446744073709551616) :
    Calls Tryz.prog 30 #[.slice A n c, .int .i64 (W : Int)] w (NewO w (flipW W ws)) := by
  obtain ⟨i0, hi, hz0, hz1, hz2⟩ := info_parts info_u64r
  subst hn
  have H64 := Lib.hid hlt64
  have HWW := Lib.hid hW
  have c1 := wordRight_any (W : Int) true hW.right
  have C1 := Lib.hid c1
  have c2 := fun w => fitting_any (W : Int) A ws.length c w
  have C2 := Lib.hid c2
  clear hlt64 hW c1 c2
  refine (callsIn_wide (n := 4)).1 ?_
  refine callsIn_of_wp_marks Tryz.func30 rfl trivial ?_ rfl
  simp only [Tryz.ntmps30, List.size_toArray, List.length_cons, List.length_nil, Nat.reduceAdd, Nat.reduceSub, Array.replicate_succ, Array.replicate_zero, List.push_toArray, List.append_toArray, List.nil_append, List.cons_append]
  gi_wp2_with (first
    | (refine ⟨trivial, ?_⟩; gi_at_call 22; refine (callsIn_wide.2 (C1.out _)).mono ?_; rintro e w' ⟨rfl, rfl⟩)
    | (gi_at_make; refine wpListIn_make_own _ rfl _ _ 53 rfl w.heap.size 63 i0 (.int .u64 0) 1 Tryz.underlying53 hi hz0 hz1 .i64 .i64 _ ws.length rfl rfl rfl (by rw [hz2]; omega) (by simp only [maxLen]; omega) (Nat.le_refl _) ?_; intro w1 hown1 hg1)
    | (refine ⟨trivial, ?_⟩; gi_at_call 63; refine (callsIn_wide.2 (C2.out _)).mono ?_; rintro e w3 ⟨rfl, hb3, hs3, hbl, hbm⟩))
  have hB1 : Below w.heap.size w w1 := (Below.refl _ _).grown hg1 (Nat.le_refl _) (by simp)
  have hlt1 := (hown1.lt _ rfl).2
  have hA2 := one_new (w1.alloc (.cells #[.slice (some ⟨w.heap.size, 0, none⟩) 0 ws.length] 53)) 0
  have hO2 := (Boxed.new w1 53 (.slice (some ⟨w.heap.size, 0, none⟩) 0 ws.length)).alloc (.cells #[.int .u64 0] 63)
  have hrow2 := (hown1.alloc (.cells #[.slice (some ⟨w.heap.size, 0, none⟩) 0 ws.length] 53)).alloc (.cells #[.int .u64 0] 63)
  have hB2 := (hB1.alloc hB1.size (.cells #[.slice (some ⟨w.heap.size, 0, none⟩) 0 ws.length] 53)).alloc (by have := hB1.size; simp; omega) (.cells #[.int .u64 0] 63)
  have hs2 : w1.heap.size + 1 + 1 = ((w1.alloc (.cells #[.slice (some ⟨w.heap.size, 0, none⟩) 0 ws.length] 53)).alloc (.cells #[.int .u64 0] 63)).heap.size := by simp
  simp only [World.size_alloc] at hs3 hbl hbm hA2
  have hrow3 := own_kept hrow2 hb3
  have hO3 : Boxed w3 w1.heap.size 53 (.slice (some ⟨w.heap.size, 0, none⟩) 0 ws.length) := (hb3.block w1.heap.size (by rw [← hs2]; omega)).trans hO2
  have hA3 : One w3 (w1.heap.size + 1) 0 := (hb3.block (w1.heap.size + 1) (by rw [← hs2]; omega)).trans hA2
  have hB3 := hB2.trans (hb3.mono hB2.size)
  have hr3 := hr.below hB3
  obtain ⟨BO, hBO⟩ : ∃ BO, BO = w1.heap.size := ⟨_, rfl⟩
  obtain ⟨BR, hBR⟩ : ∃ BR, BR = w.heap.size := ⟨_, rfl⟩
  have hsz := hB1.size
  clear hA2 hO2 hrow2 hB2 hs2 hb3 hown1 hB1 hg1
  rw [← hBO] at hbl hbm hO3 hA3 hsz
  rw [← hBO]
  have e1 : (Addr.mk w.heap.size 0 none) = ⟨BR, 0, none⟩ := by rw [hBR]
  rw [e1] at hO3 hrow3
  rw [e1]
  have hlt2 : BR < BO := by rw [hBO, hBR]; exact hlt1
  clear hBO hBR e1 hlt1 hs3
  refine wpIn_rangeFunc_ownG rfl (by omega) (gf := 87) (lb := #[.pointer (some ⟨BO + 1 + 1, 0, none⟩), .pointer (some ⟨BO + 1 + 1 + 1, 0, none⟩)]) rfl trivial (enters_of Tryz.func87 (by kernel_rfl) rfl)
    (fit_stops 3 (by omega) (BO + 1 + 1) (BO + 1 + 1 + 1) w.heap.size W HWW.out A c ws hb1 H64.out w3 hbl hbm hB3.size hr3) KeepsM.trans (KeepsM.put hB3.size) (Below.refl _ _) (fun _ => rfl)
    (SeqI w BR BO (BO + 1) (BO + 1 + 1 + 1) (maskN (W : Int)) ws.length (flipW 8) (fun p => ahead p p.length))
    (fun _ _ _ => False) (seqI_own _ _ _ _ _ _ _ _ _ _ hB3.size)
    (fun _ _ _ _ _ hs _ _ => hs)
    ⟨⟨_, hO3, hrow3, rfl⟩, hA3, hbm, hB3⟩
    (fun x => { tmps := #[.slice A ws.length c, .int .i64 (W : Int), undef, undef, .slice none 0 0, .pointer (some ⟨BO, 0, none⟩), .pointer (some ⟨BO + 1, 0, none⟩), .int .u64 (x.1 : Int), .int .i64 (W : Int), .bool true, .bool false, .slice A ws.length c, .int .i64 ws.length, .slice (some ⟨BR, 0, none⟩) 0 ws.length, .slice A ws.length c, .int .i64 (W : Int), .func (.func 87) #[] #[.pointer (some ⟨BO + 1 + 1, 0, none⟩), .pointer (some ⟨BO + 1 + 1 + 1, 0, none⟩)], .int .u64 (x.1 : Int), undef, undef, undef, undef, undef, undef, undef, undef], defers := [] }) ?assign ?body ?done ?stop
  case assign =>
    intro l x Wd K hK
    gi_wp2
    exact hK
  case body =>
    rintro l pre x Wd ⟨⟨v, hv, hrow, rfl⟩, ha, hm, hB⟩ hlt
    have hc := hv.cell
    have hac := ha.cell
    have haf := ha.frozen
    dsimp only at hac
    rw [vals_len] at hac
    have hy := flip_one pre x
    have hs : ahead (vals (pre ++ [x])) (vals (pre ++ [x])).length = x.1 := by rw [vals_snoc, List.length_append, List.length_singleton, ahead_last]
    gi_wp2_with (gi_at_builtin; refine wpListIn_append_fits _ rfl _ _ 53 rfl w.heap.size 63 i0 1 Tryz.underlying53 hi hz1 BR pre.length ws.length _ rfl (hrow.alloc _) ⟨Wd.heap.size, 0, none⟩ 1 1 [.int .u64 (bits .xor .u64 (x.1 : Int) (ahead (vals pre) pre.length : Int))] rfl rfl (cell_one_new _ _ _) (by simp [Value.oneCell']) (by omega) ?_; intro w4 hown4 hg4; obtain ⟨hv1, ha2, hk5, hm5, hI5⟩ := seqI_after (f := flipW 8) (s := fun p => ahead p p.length) hv hrow ha hm hB (by omega) (by omega) (by omega) (by omega) (by omega) (by omega) (by omega) hown4 hg4 hy hs; have hc1 := hv1.cell; have hf1 := hv1.frozen; have hc2 := ha2.cell; have hf2 := ha2.frozen)
    exact ⟨hk5.from _, hm5, hI5⟩
  case done =>
    rintro D ys Wd hD rfl ⟨⟨v, hv, hrow, rfl⟩, _, _, hB⟩ hK
    have hc := hv.cell
    gi_wp2
    refine ⟨by simp, .inl ⟨_, _, rfl, run_takeDeferred hK, ?_⟩⟩
    refine ⟨_, results_tmp rfl _ _ _, ?_⟩
    rw [vals_fit HWW.out, flip_fit HWW.out] at hrow
    refine ⟨_, rfl, ?_, (hB.trans (belowK_b (w := w) (Nat.le_refl _) Wd D _ _ (by have := hB3.size; omega) hK rfl rfl))⟩
    rw [flipW_len, fitU_len]
    rw [fitU_len] at hrow
    exact ownsRow_putObj hrow _ hK rfl
  case stop =>
    rintro D cc pre Wd _ _ h _
    exact h.elim
theorem flipFlip_right (W : Nat) (hW : IsW W) (A : Option Addr) (n c : Nat) (ws : List Nat) (w : World) (hr : Rd w w.heap.size A (wvs ws)) (hn : ws.length = n) (hb1 : n ≤ 1000000000000) (hlt64 : ∀ x ∈ ws, x < 18446744073709551616) :
    Calls Tryz.prog 30 #[.slice A n c, .int .i64 (W : Int)] w (NewW w (flipW W ws)) :=
  (flipFlip_own W hW A n c ws w hr hn hb1 hlt64).mono fun _ _ => NewO.new
theorem flipFlip_any (W : Int) (A : Option Addr) (n c : Nat) (ws : List Nat) (w : World) (hr : Rd w w.heap.size A (wvs ws)) (hn : ws.length = n) (hb1 : n ≤ 1000000000000) (hlt64 : ∀ x ∈ ws, x < 18446744073709551616) :
    Calls Tryz.prog 30 #[.slice A n c, .int .i64 W] w (NewW w (ofW flipW W ws)) := by
  cases hR : rightB W with
  | true =>
    obtain ⟨V, rfl, hV⟩ := isW_of hR
    rw [ofW_of hV]
    exact flipFlip_right V hV A n c ws w hr hn hb1 hlt64
  | false =>
    unfold ofW
    rw [hR, if_neg (by decide)]
    exact flipFlip_wrong _ W w hR
theorem flipBack_wrong (a : Value) (W : Int) (w : World) (hW : rightB W = false) :
    Calls Tryz.prog 31 #[a, .int .i64 W] w (NewW w []) := by
  have c1 := wordRight_any W false hW.symm
  have C1 := Lib.hid c1
  clear c1
  go_enter Tryz.func31, Tryz.ntmps31
  go_wp2_with (go_at_call 22; go_must (refine (C1.out _).mono ?_; rintro e w' ⟨rfl, rfl⟩))
  go_ret
  exact ⟨.slice none 0 0, rfl, ⟨none, 0, rfl, Nat.le_refl _, Rd.nil_ _ _ _⟩, Below.refl _ _⟩
set_option maxRecDepth 100000 in
set_option maxHeartbeats 2000000 in
theorem flipBack_own (W : Nat) (hW : IsW W) (A : Option Addr) (n c : Nat) (ws : List Nat) (w : World) (hr : Rd w w.heap.size A (wvs ws)) (hn : ws.length = n) (hb1 : n ≤ 1000000000000) (hlt64 : ∀ x ∈ ws, x < 18446744073709551616) :
    Calls Tryz.prog 31 #[.slice A n c, .int .i64 (W : Int)] w (NewO w (backW W ws)) := by
  obtain ⟨i0, hi, hz0, hz1, hz2⟩ := info_parts info_u64r
  subst hn
  have H64 := Lib.hid hlt64
  have HWW := Lib.hid hW
  have c1 := wordRight_any (W : Int) true hW.right
  have C1 := Lib.hid c1
  have c2 := fun w => fitting_any (W : Int) A ws.length c w
  have C2 := Lib.hid c2
  clear hlt64 hW c1 c2
  refine (callsIn_wide (n := 4)).1 ?_
  refine callsIn_of_wp_marks Tryz.func31 rfl trivial ?_ rfl
  simp only [Tryz.ntmps31, List.size_toArray, List.length_cons, List.length_nil, Nat.reduceAdd, Nat.reduceSub, Array.replicate_succ, Array.replicate_zero, List.push_toArray, List.append_toArray, List.nil_append, List.cons_append]
  gi_wp2_with (first
    | (refine ⟨trivial, ?_⟩; gi_at_call 22; refine (callsIn_wide.2 (C1.out _)).mono ?_; rintro e w' ⟨rfl, rfl⟩)
    | (gi_at_make; refine wpListIn_make_own _ rfl _ _ 53 rfl w.heap.size 63 i0 (.int .u64 0) 1 Tryz.underlying53 hi hz0 hz1 .i64 .i64 _ ws.length rfl rfl rfl (by rw [hz2]; omega) (by simp only [maxLen]; omega) (Nat.le_refl _) ?_; intro w1 hown1 hg1)
    | (refine ⟨trivial, ?_⟩; gi_at_call 63; refine (callsIn_wide.2 (C2.out _)).mono ?_; rintro e w3 ⟨rfl, hb3, hs3, hbl, hbm⟩))
  have hB1 : Below w.heap.size w w1 := (Below.refl _ _).grown hg1 (Nat.le_refl _) (by simp)
  have hlt1 := (hown1.lt _ rfl).2
  have hA2 := one_new (w1.alloc (.cells #[.slice (some ⟨w.heap.size, 0, none⟩) 0 ws.length] 53)) 0
  have hO2 := (Boxed.new w1 53 (.slice (some ⟨w.heap.size, 0, none⟩) 0 ws.length)).alloc (.cells #[.int .u64 0] 63)
  have hrow2 := (hown1.alloc (.cells #[.slice (some ⟨w.heap.size, 0, none⟩) 0 ws.length] 53)).alloc (.cells #[.int .u64 0] 63)
  have hB2 := (hB1.alloc hB1.size (.cells #[.slice (some ⟨w.heap.size, 0, none⟩) 0 ws.length] 53)).alloc (by have := hB1.size; simp; omega) (.cells #[.int .u64 0] 63)
  have hs2 : w1.heap.size + 1 + 1 = ((w1.alloc (.cells #[.slice (some ⟨w.heap.size, 0, none⟩) 0 ws.length] 53)).alloc (.cells #[.int .u64 0] 63)).heap.size := by simp
  simp only [World.size_alloc] at hs3 hbl hbm hA2
  have hrow3 := own_kept hrow2 hb3
  have hO3 : Boxed w3 w1.heap.size 53 (.slice (some ⟨w.heap.size, 0, none⟩) 0 ws.length) := (hb3.block w1.heap.size (by rw [← hs2]; omega)).trans hO2
  have hA3 : One w3 (w1.heap.size + 1) 0 := (hb3.block (w1.heap.size + 1) (by rw [← hs2]; omega)).trans hA2
  have hB3 := hB2.trans (hb3.mono hB2.size)
  have hr3 := hr.below hB3
  obtain ⟨BO, hBO⟩ : ∃ BO, BO = w1.heap.size := ⟨_, rfl⟩
  obtain ⟨BR, hBR⟩ : ∃ BR, BR = w.heap.size := ⟨_, rfl⟩
  have hsz := hB1.size
  clear hA2 hO2 hrow2 hB2 hs2 hb3 hown1 hB1 hg1
  rw [← hBO] at hbl hbm hO3 hA3 hsz
  rw [← hBO]
  have e1 : (Addr.mk w.heap.size 0 none) = ⟨BR, 0, none⟩ := by rw [hBR]
  rw [e1] at hO3 hrow3
  rw [e1]
  have hlt2 : BR < BO := by rw [hBO, hBR]; exact hlt1
  clear hBO hBR e1 hlt1 hs3
  refine wpIn_rangeFunc_ownG rfl (by omega) (gf := 87) (lb := #[.pointer (some ⟨BO + 1 + 1, 0, none⟩), .pointer (some ⟨BO + 1 + 1 + 1, 0, none⟩)]) rfl trivial (enters_of Tryz.func87 (by kernel_rfl) rfl)
    (fit_stops 3 (by omega) (BO + 1 + 1) (BO + 1 + 1 + 1) w.heap.size W HWW.out A c ws hb1 H64.out w3 hbl hbm hB3.size hr3) KeepsM.trans (KeepsM.put hB3.size) (Below.refl _ _) (fun _ => rfl)
    (SeqI w BR BO (BO + 1) (BO + 1 + 1 + 1) (maskN (W : Int)) ws.length (backW 8) (fun p => xorTo p p.length))
    (fun _ _ _ => False) (seqI_own _ _ _ _ _ _ _ _ _ _ hB3.size)
    (fun _ _ _ _ _ hs _ _ => hs)
    ⟨⟨_, hO3, hrow3, rfl⟩, hA3, hbm, hB3⟩
    (fun x => { tmps := #[.slice A ws.length c, .int .i64 (W : Int), undef, undef, .slice none 0 0, .pointer (some ⟨BO, 0, none⟩), .pointer (some ⟨BO + 1, 0, none⟩), .int .u64 (x.1 : Int), .int .i64 (W : Int), .bool true, .bool false, .slice A ws.length c, .int .i64 ws.length, .slice (some ⟨BR, 0, none⟩) 0 ws.length, .slice A ws.length c, .int .i64 (W : Int), .func (.func 87) #[] #[.pointer (some ⟨BO + 1 + 1, 0, none⟩), .pointer (some ⟨BO + 1 + 1 + 1, 0, none⟩)], .int .u64 (x.1 : Int), undef, undef, undef, undef, undef, undef, undef, undef], defers := [] }) ?assign ?body ?done ?stop
  case assign =>
    intro l x Wd K hK
    gi_wp2
    exact hK
  case body =>
    rintro l pre x Wd ⟨⟨v, hv, hrow, rfl⟩, ha, hm, hB⟩ hlt
    have hc := hv.cell
    have hac := ha.cell
    have haf := ha.frozen
    dsimp only at hac
    rw [vals_len] at hac
    obtain ⟨Y, hY⟩ : ∃ Y, Y = xorTo (vals (pre ++ [x])) (pre.length + 1) := ⟨_, rfl⟩
    have hy1 := back_one pre x
    have hy2 := back_two pre x
    rw [← hY] at hy1 hy2
    have hs : xorTo (vals (pre ++ [x])) (vals (pre ++ [x])).length = Y := by rw [hY, vals_snoc, List.length_append, List.length_singleton, vals_len]
    obtain ⟨z, hz⟩ : ∃ z, z = xorTo (vals pre) pre.length := ⟨_, rfl⟩
    rw [← hz] at hac hy2
    have ha0 := ha.set_ Y
    have hac0 := ha0.cell
    have haf0 := ha0.frozen
    have hc0 := (hv.other (B' := BO + 1) (by omega) (.int .u64 (Y : Int))).cell
    have hr0 := hrow.kept (grownBy_setCell' Wd (BO + 1) (.int .u64 (Y : Int))) (.inr (by simp [Value.ownBlock]; omega))
    have HY := Lib.hid hy1
    have HS := Lib.hid hs
    have HA := Lib.hid ha
    have hsz0 : (Wd.setCell ⟨BO + 1, 0, none⟩ (.int .u64 (Y : Int))).heap.size = Wd.heap.size := Array.size_modify ..
    have hnew := cell_one_new (Wd.setCell ⟨BO + 1, 0, none⟩ (.int .u64 (Y : Int))) (.int .u64 (Y : Int)) 63
    rw [hsz0] at hnew
    have HNEW := Lib.hid hnew
    clear hY hz hy1 hs ha0 ha hc haf0 hsz0 hnew
    gi_wp2_with (gi_at_builtin; refine wpListIn_append_fits _ rfl _ _ 53 rfl w.heap.size 63 i0 1 Tryz.underlying53 hi hz1 BR pre.length ws.length _ rfl (hr0.alloc _) ⟨Wd.heap.size, 0, none⟩ 1 1 [.int .u64 (Y : Int)] rfl rfl HNEW.out (by simp [Value.oneCell']) (by omega) ?_; intro w4 hown4 hg4; obtain ⟨hv1, hk5, hm5, hI5⟩ := seqI_ahead (f := backW 8) (s := fun p => xorTo p p.length) hv hrow HA.out hm hB (by omega) (by omega) (by omega) (by omega) (by omega) (by omega) (by omega) hown4 hg4 HY.out HS.out; have hc1 := hv1.cell; have hf1 := hv1.frozen)
    exact ⟨hk5.from _, hm5, hI5⟩
  case done =>
    rintro D ys Wd hD rfl ⟨⟨v, hv, hrow, rfl⟩, _, _, hB⟩ hK
    have hc := hv.cell
    gi_wp2
    refine ⟨by simp, .inl ⟨_, _, rfl, run_takeDeferred hK, ?_⟩⟩
    refine ⟨_, results_tmp rfl _ _ _, ?_⟩
    rw [vals_fit HWW.out, back_fit HWW.out] at hrow
    refine ⟨_, rfl, ?_, (hB.trans (belowK_b (w := w) (Nat.le_refl _) Wd D _ _ (by have := hB3.size; omega) hK rfl rfl))⟩
    rw [backW_len, fitU_len]
    rw [fitU_len] at hrow
    exact ownsRow_putObj hrow _ hK rfl
  case stop =>
    rintro D cc pre Wd _ _ h _
    exact h.elim
theorem flipBack_right (W : Nat) (hW : IsW W) (A : Option Addr) (n c : Nat) (ws : List Nat) (w : World) (hr : Rd w w.heap.size A (wvs ws)) (hn : ws.length = n) (hb1 : n ≤ 1000000000000) (hlt64 : ∀ x ∈ ws, x < 18446744073709551616) :
    Calls Tryz.prog 31 #[.slice A n c, .int .i64 (W : Int)] w (NewW w (backW W ws)) :=
  (flipBack_own W hW A n c ws w hr hn hb1 hlt64).mono fun _ _ => NewO.new
theorem flipBack_any (W : Int) (A : Option Addr) (n c : Nat) (ws : List Nat) (w : World) (hr : Rd w w.heap.size A (wvs ws)) (hn : ws.length = n) (hb1 : n ≤ 1000000000000) (hlt64 : ∀ x ∈ ws, x < 18446744073709551616) :
    Calls Tryz.prog 31 #[.slice A n c, .int .i64 W] w (NewW w (ofW backW W ws)) := by
  cases hR : rightB W with
  | true =>
    obtain ⟨V, rfl, hV⟩ := isW_of hR
    rw [ofW_of hV]
    exact flipBack_right V hV A n c ws w hr hn hb1 hlt64
  | false =>
    unfold ofW
    rw [hR, if_neg (by decide)]
    exact flipBack_wrong _ W w hR
end Go.Proofs.YtcenbaajojdjlaaGreatDoor
