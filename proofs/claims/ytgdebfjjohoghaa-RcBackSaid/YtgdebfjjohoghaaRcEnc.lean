/- Layer 17: the program's encoder: Begin, lay, Put, Bytes. -/
import Derived.Test.YtgdebfjjohoghaaRcNarrow
import Derived.Test.YtgdebfjjohoghaaRcDec
import Derived.Test.YtgdebfjjohoghaaU8s
import Derived.Test.YtgdebfjjohoghaaCloneB
import Derived.Deep.AppendLies
import Derived.Deep.RegionLaw
import Derived.BigRegion
namespace Go.Proofs.Ytgdebfjjohoghaa
open Go.RowKit Go.Sort Go.Shelf

/-- The program's encoder at E: a span, and the bytes that went out, in a row of its own. -/
def EncAt (w : World) (E L R : Nat) (o : List Nat) : Prop :=
  ∃ v, Blk w E 54 [.int .u32 (L : Int), .int .u32 (R : Int), v] ∧ w.ownsRow (E + 1) 5 1 v o.length (bvs (u8s o))
def encT : List TypeId := [54, 5]
section
variable {w : World} {E L R : Nat} {o : List Nat}
theorem EncAt.only {B : Nat} {ts : List TypeId} {w' : World} (h : EncAt w E L R o) (ho : OnlyT B ts w w') (h1 : 54 ∉ ts) (h2 : 5 ∉ ts) : EncAt w' E L R o := by
  obtain ⟨v, hb, hown⟩ := h
  exact ⟨v, hb.only ho h1, own_only hown ho h2⟩
theorem EncAt.below {w' : World} (h : EncAt w E L R o) (hb : Below w.heap.size w w') : EncAt w' E L R o := by
  obtain ⟨v, hbl, hown⟩ := h
  exact ⟨v, hbl.grow hb, own_kept hown hb⟩
theorem EncAt.same {w' : World} (h : EncAt w E L R o) (e : w'.heap = w.heap) : EncAt w' E L R o := by
  obtain ⟨v, hbl, hown⟩ := h
  refine ⟨v, hbl.same e, hown.1, ?_⟩
  rw [e]; exact hown.2
theorem EncAt.lt (h : EncAt w E L R o) : E < w.heap.size := by
  obtain ⟨v, hbl, -⟩ := h
  exact hbl.lt
theorem own_setCell {base e size n : Nat} {v : Value} {xs : List Value} {p : Addr} {u : Value} (h : w.ownsRow base e size v n xs) (hp : p.block < base) : (w.setCell p u).ownsRow base e size v n xs := by
  refine ⟨h.1, ?_⟩
  rcases h.2 with h0 | ⟨g, cap, cur, rfl, hbg, hg, rest⟩
  · exact .inl h0
  · exact .inr ⟨g, cap, cur, rfl, hbg, by rw [Below.heap_setCell w p u g (by omega)]; exact hg, rest⟩
theorem encLay_end {A1 : Option Addr} {c1 x g7 cap7 : Nat} {w7 : World} (hown : w.ownsRow (E + 1) 5 1 (.slice A1 o.length c1) o.length (bvs (u8s o))) (hx : x < 256)
    (hb7 : Blk w7 E 54 [.int .u32 (L : Int), .int .u32 (R : Int), .slice A1 o.length c1]) (hg7 : World.grownBy (w.drew.alloc (.cells #[.int .u8 (x : Int)] 5)) w7 (Value.slice A1 o.length c1).ownBlock)
    (hown7 : w7.ownsRow (E + 1) 5 1 (.slice (some ⟨g7, 0, none⟩) (o.length + 1) cap7) (o.length + 1) (bvs (u8s o) ++ [.int .u8 (x : Int)])) :
    EncAt (w7.setCell ⟨E, 2, none⟩ (.slice (some ⟨g7, 0, none⟩) (o.length + 1) cap7)) E L R (o ++ [x]) ∧ OnlyT E encT w (w7.setCell ⟨E, 2, none⟩ (.slice (some ⟨g7, 0, none⟩) (o.length + 1) cap7)) := by
  have h1 : OnlyT E encT w (w.drew.alloc (.cells #[.int .u8 (x : Int)] 5)) := OnlyT.of_below ((Below.refl _ _).drew.alloc (Nat.le_refl _) _)
  have h2 : OnlyT E encT (w.drew.alloc (.cells #[.int .u8 (x : Int)] 5)) w7 := OnlyT.grown hg7 (fun k hk => by
    obtain ⟨a, b⟩ := own_type (own_kept hown ((Below.refl w.heap.size w).drew.alloc (Nat.le_refl _) (.cells #[.int .u8 (x : Int)] 5))) k hk
    exact ⟨by omega, b⟩) (by simp [encT])
  refine ⟨⟨_, hb7.set_ 2 _, ?_⟩, (h1.trans h2).trans (OnlyT.set_ hb7 (Nat.le_refl _) _ (by simp [encT]))⟩
  rw [bvs_u8s o hx, List.length_append, List.length_singleton]
  exact own_setCell hown7 (Nat.lt_succ_self _)
set_option maxHeartbeats 2000000 in
set_option maxRecDepth 100000 in
theorem encLay_any (h : EncAt w E L R o) (hL : L < 4294967296) (ho : o.length ≤ 100000) :
    Calls Try.prog 24 #[.pointer (some ⟨E, 0, none⟩)] w fun e w' => e = .returned (.tuple #[]) ∧ EncAt w' E L R (o ++ [L / 16777216]) ∧ OnlyT E encT w w' := by
  obtain ⟨v, hb, hown⟩ := h
  obtain ⟨A1, c1, rfl, -, -, -⟩ := own_form hown
  obtain ⟨i0, hi0, hz0, hz1, hz2⟩ := info_parts info_u8r
  obtain ⟨x, hx, hx2⟩ : ∃ x, x = L / 16777216 ∧ x < 256 := ⟨_, rfl, by omega⟩
  have e1 : IntKind.u32.wrap ((L : Int) / 16777216) = (x : Int) := by rw [IntKind.wrap_u32]; omega
  have e2 : IntKind.u8.wrap (x : Int) = (x : Int) := by rw [IntKind.wrap_u8]; omega
  have hc0 := hb.cell 0
  have hc2 := hb.cell 2
  have hf2 := hb.frozen 2
  simp only [List.getElem?_cons_zero, List.getElem?_cons_succ] at hc0 hc2
  have HB := Lib.hid hb
  have HOWN := Lib.hid hown
  have HO := Lib.hid ho
  rw [← hx]
  have HX := Lib.hid hx2
  have hgl : E < w.heap.size := hb.lt
  clear hb hown ho hx hx2 hL
  go_enter Try.func24, Try.ntmps24
  go_wp2
  go_region_law (refine step_append_lies _ (by rfl) _ _ _ (by rfl) (E + 1) 5 i0 (.int .u8 0) 1 1 Try.underlying31 hi0 hz0 hz1 hz2 rfl (by decide) _ _ _ (by rfl) ((own_drew HOWN.out).alloc _) _ 1 1 [.int .u8 (x : Int)] (by rfl) (by rfl) (World.news_of_block (heap_alloc_new _ _)) (by intro u hu; simp at hu; subst hu; rfl) (by decide) (by simp only [maxLen]; have := HO.out; omega) (by have := HO.out; omega) (by have := HB.out.lt; simp; omega) _ rfl ?_; intro g7 cap7 w7 hown7 hgr7 hat7 hlt7; have hrow := own_block HOWN.out; have hb7 : Blk w7 E 54 [.int .u32 (L : Int), .int .u32 (R : Int), .slice A1 o.length c1] := blk_row ((HB.out.same (w' := w.drew) rfl).alloc_ _) hgr7 (fun r e => by have := hrow r e; omega); have hc7 := hb7.cell 2; have hf7 := hb7.frozen 2; simp only [List.getElem?_cons_zero, List.getElem?_cons_succ] at hc7; have HB7 := Lib.hid hb7; have HG7 := Lib.hid hgr7; have HOWN7 := Lib.hid hown7; clear hb7 hgr7 hown7 hat7 hlt7 hrow)
  all_goals (go_wp2; refine bodyPost_end (results_none rfl _ _ _) rfl ?_; refine ⟨rfl, ?_⟩)
  all_goals exact encLay_end HOWN.out HX.out HB7.out HG7.out HOWN7.out
theorem span_size : (Try.prog.info? 51).map (·.size) = some 2 := by kernel_rfl
set_option maxHeartbeats 1000000 in
theorem rcFirst_any (w : World) : Calls Try.prog 21 #[] w fun e w' => e = .returned (.agg #[.int .u32 0, .int .u32 4294967295]) ∧ Below w.heap.size w w' := by
  have hb := (Below.refl w.heap.size w).alloc (Nat.le_refl _) (.cells #[.int .u32 0, .int .u32 4294967295] 51)
  go_enter Try.func21, Try.ntmps21
  go_wp2
  exact bodyPost_ret (v := .agg #[.int .u32 0, .int .u32 4294967295]) (results_cell_row Try.results21 _ _ w.heap.size 51 _ (0, 0) _ rfl (heap_alloc_new w _) Try.underlying51 rfl span_size) rfl ⟨rfl, hb⟩
set_option maxHeartbeats 1000000 in
theorem rcBegin_any (w : World) : Calls Try.prog 8 #[] w fun e w' => ∃ E, e = .returned (.pointer (some ⟨E, 0, none⟩)) ∧ w.heap.size ≤ E ∧ EncAt w' E 0 4294967295 [] ∧ Below w.heap.size w w' := by
  have C := Lib.hid (rcFirst_any w)
  go_enter Try.func8, Try.ntmps8
  go_wp2_with fail
  refine C.out.mono ?_
  rintro _ w1 ⟨rfl, hb⟩
  go_wp2
  go_ret
  exact ⟨w1.heap.size, rfl, hb.size, ⟨.slice none 0 0, heap_alloc_new w1 _, World.ownsRow_nil _ _ _ _⟩, hb.alloc hb.size _⟩
set_option maxHeartbeats 1000000 in
theorem encPut_nil (low size total : Int) (w : World) : Calls Try.prog 10 #[.pointer none, .int .i64 low, .int .i64 size, .int .i64 total] w fun e w' => e = .returned (.int .i64 1) ∧ w' = w := by
  go_enter Try.func10, Try.ntmps10
  go_wp2
  go_ret
  exact ⟨rfl, rfl⟩
set_option maxHeartbeats 1000000 in
theorem encBytes_nil (w : World) : Calls Try.prog 11 #[.pointer none] w fun e w' => e = .returned (.slice none 0 0) ∧ w' = w := by
  go_enter Try.func11, Try.ntmps11
  go_wp2
  go_ret
  exact ⟨rfl, rfl⟩
set_option maxHeartbeats 1000000 in
theorem encPut_arg (low size total : Int) (hs : size ≤ 9223372036854775807) (h : EncAt w E L R o) (hR : 65536 ≤ R) (hR2 : R < 4294967296) (hm : mayP low size total = false) :
    Calls Try.prog 10 #[.pointer (some ⟨E, 0, none⟩), .int .i64 low, .int .i64 size, .int .i64 total] w fun e w' => e = .returned (.int .i64 2) ∧ w' = w := by
  obtain ⟨v, hb, -⟩ := h
  have C := Lib.hid (spMay_any (w := w) (g := E) low size total hs hR hR2 (hb.cell 1))
  rw [hm] at C
  have hgl := hb.lt
  clear hb hR hR2 hm hs
  go_enter Try.func10, Try.ntmps10
  go_wp2_with fail
  refine C.out.mono ?_
  rintro _ w0 ⟨rfl, hw0⟩
  subst w0
  go_wp2
  go_ret
  exact ⟨rfl, rfl⟩
theorem enc_span (ho : o.length ≤ 90000) : SpanJ E 24 (fun o2 L' R' w' => EncAt w' E L' R' (o ++ o2) ∧ OnlyT E encT w w') where
  cell0 := fun {o2 L' R' w'} ⟨⟨v, hb, _⟩, _⟩ => hb.cell 0
  cell1 := fun {o2 L' R' w'} ⟨⟨v, hb, _⟩, _⟩ => hb.cell 1
  frozen0 := fun {o2 L' R' w'} ⟨⟨v, hb, _⟩, _⟩ => hb.frozen 0
  frozen1 := fun {o2 L' R' w'} ⟨⟨v, hb, _⟩, _⟩ => hb.frozen 1
  set0 := fun {o2 L' R' w'} L2 ⟨⟨v, hb, hown⟩, ho⟩ => ⟨⟨v, hb.set_ 0 _, own_setCell hown (Nat.lt_succ_self _)⟩, ho.trans (OnlyT.set_ hb (Nat.le_refl _) _ (by simp [encT]))⟩
  set1 := fun {o2 L' R' w'} R2 ⟨⟨v, hb, hown⟩, ho⟩ => ⟨⟨v, hb.set_ 1 _, own_setCell hown (Nat.lt_succ_self _)⟩, ho.trans (OnlyT.set_ hb (Nat.le_refl _) _ (by simp [encT]))⟩
  drew := fun {o2 L' R' w'} ⟨h, ho⟩ => ⟨h.same rfl, ho.drew⟩
  move := fun {o2 L' R' w'} ⟨h2, ho2⟩ hL h7 => (encLay_any h2 hL (by rw [List.length_append]; omega)).mono fun e w2 ⟨h3, h4, h5⟩ => ⟨h3, by rw [← List.append_assoc]; exact h4, ho2.trans h5⟩
set_option maxHeartbeats 1000000 in
theorem encPut_ok {low size total A B : Nat} {o2 : List Nat} (h : EncAt w E L R o) (ho : o.length ≤ 90000) (hi : InSpan L R) (hR : 65536 ≤ R) (h1 : 1 ≤ size) (h2 : low + size ≤ total) (h3 : total ≤ 65536) (hm : Moves (L + low * (R / total)) (size * (R / total)) o2 A B) :
    Calls Try.prog 10 #[.pointer (some ⟨E, 0, none⟩), .int .i64 (low : Int), .int .i64 (size : Int), .int .i64 (total : Int)] w fun e w' => e = .returned (.int .i64 0) ∧ EncAt w' E A B (o ++ o2) ∧ OnlyT E encT w w' := by
  have hR2 : R < 4294967296 := by obtain ⟨a, b, c, d⟩ := hi; omega
  obtain ⟨v, hb, -⟩ := id h
  have C := Lib.hid (spMay_any (w := w) (g := E) (low : Int) (size : Int) (total : Int) (by omega) hR hR2 (hb.cell 1))
  rw [mayP_iff.2 ⟨h1, h2, h3⟩] at C
  have D := Lib.hid (spNarrow_any (w := w) (enc_span ho) (enters_of Try.func24 (by kernel_rfl) rfl) ⟨by rw [List.append_nil]; exact h, OnlyT.refl _ _ _⟩ hi hR h1 h2 h3 hm)
  clear hb hR hR2 hm hi h1 h2 h3 h ho
  go_enter Try.func10, Try.ntmps10
  go_wp2_with fail
  refine C.out.mono ?_
  rintro _ w0 ⟨rfl, hw0⟩
  subst w0
  go_wp2_with fail
  refine D.out.mono ?_
  rintro _ w2 ⟨rfl, h4, h5⟩
  have H := Lib.hid (And.intro h4 h5)
  clear h4 h5 C D
  go_wp2
  go_ret
  exact ⟨rfl, H.out⟩
set_option maxHeartbeats 1000000 in
set_option maxRecDepth 100000 in
theorem encBytes_any (h : EncAt w E L R o) (hL : L < 4294967296) (ho : o.length ≤ 90000) :
    Calls Try.prog 11 #[.pointer (some ⟨E, 0, none⟩)] w fun e w' => ∃ v, e = .returned v ∧ w'.ownsRow w.heap.size 5 1 v (o ++ be4 L).length (bvs (u8s (o ++ be4 L))) ∧ Below w.heap.size w w' := by
  obtain ⟨i0, hi0, hz0, hz1, hz2⟩ := info_parts info_u8r
  obtain ⟨v, hb, hown⟩ := h
  obtain ⟨A1, c1, rfl, -, -, -⟩ := own_form hown
  have C := Lib.hid (clone_all A1 o.length c1 (u8s o) w (Rd.of_own hown) (u8s_length o) (by omega))
  have hc2 := hb.cell 2
  simp only [List.getElem?_cons_zero, List.getElem?_cons_succ] at hc2
  have HB := Lib.hid hb
  have hgl := hb.lt
  have HO := Lib.hid ho
  have HL := Lib.hid hL
  clear hb hown ho hL
  go_enter Try.func11, Try.ntmps11
  go_wp2_with fail
  refine C.out.mono ?_
  rintro _ w1 ⟨v1, rfl, hown1, hb1⟩
  rw [u8s_length] at hown1
  have HREL := Lib.hid (And.intro hown1 hb1)
  clear hown1 hb1 C hc2
  go_wp2
  go_loopw [3, 12] (fun b i wr => ∃ k : Nat, k ≤ 4 ∧ i = .int .i64 (k : Int) ∧ wr.ownsRow w.heap.size 5 1 b (o ++ (be4 L).take k).length (bvs (u8s (o ++ (be4 L).take k))) ∧ Below w.heap.size w wr) (fun _ i _ => 4 - (intOf i).toNat)
  case atStart => exact ⟨0, by decide, rfl, by simpa using HREL.out.1, HREL.out.2⟩
  case round =>
    clear HREL
    obtain ⟨k, hk, rfl, hown, hbl⟩ := hrel
    obtain ⟨A2, c2, rfl, -, -, -⟩ := own_form hown
    have HOWN := Lib.hid hown
    have HBL := Lib.hid hbl
    have hc0 := (HB.out.below hbl hgl).cell 0
    simp only [List.getElem?_cons_zero] at hc0
    clear hown hbl
    rcases (by omega : k = 0 ∨ k = 1 ∨ k = 2 ∨ k = 3 ∨ k = 4) with rfl | rfl | rfl | rfl | rfl
    · obtain ⟨s, hs⟩ : ∃ s, s = L % 4294967296 := ⟨_, rfl⟩
      obtain ⟨b, hb⟩ : ∃ b, b = s / 16777216 := ⟨_, rfl⟩
      have hlt : b < 256 := by omega
      have hbe : (be4 L).take 1 = (be4 L).take 0 ++ [b] := by have := HL.out; simp [be4]; omega
      have HBE := Lib.hid hbe
      have e1 : (L : Int) % 4294967296 = (s : Int) := by omega
      have e2 : (s : Int) / 16777216 = (b : Int) := by omega
      have e3 : IntKind.u32.wrap ((s : Int) / 16777216) = (b : Int) := by rw [IntKind.wrap_u32]; omega
      have e4 : IntKind.u8.wrap (b : Int) = (b : Int) := by rw [IntKind.wrap_u8]; omega
      have HLT := Lib.hid hlt
      have hl1 : (o ++ (be4 L).take 0).length ≤ 100000 := by have := HO.out; simp [be4]; omega
      clear hs hb hlt hbe hk
      go_wp2_with ((with_reducible show wpList _ _ _ (({ dst := some 27, op := _, type := _, pos := _, after := _, guard := _ } : Oper) :: _) _ _); go_must (refine wpList_app rfl (.tmp 15) (.tmp 26) 31 rfl w.heap.size 5 i0 (.int .u8 0) 1 1 Try.underlying31 hi0 hz0 hz1 hz2 rfl (by decide) _ _ _ rfl (HOWN.out.alloc _) _ _ 1 1 _ rfl (Rd.new _ _ _) rfl (by intro u hu; simp at hu; subst hu; rfl) (by simp only [maxLen]; omega) (by omega) (by have := HBL.out.size; simp; omega) ?_; intro v3 w3 hown3 hg3; have hrow := own_block HOWN.out; have hb3 := (HBL.out.alloc HBL.out.size (.cells #[.int .u8 (b : Int)] 5)).grown hg3 (by have := HBL.out.size; simp; omega) hrow; clear hg3 hrow))
      have HB3 := Lib.hid hb3
      have h3 : w3.ownsRow w.heap.size 5 1 v3 (o ++ (be4 L).take 1).length (bvs (u8s (o ++ (be4 L).take 1))) := by
        rw [HBE.out, ← List.append_assoc, bvs_u8s _ HLT.out, List.length_append, List.length_singleton]; exact hown3
      have H3 := Lib.hid h3
      clear h3 hown3 hb3 hl1 e1 e2 e3 e4 HLT
      go_wp2
      go_roundw
      case rel => exact ⟨1, by decide, rfl, H3.out, HB3.out⟩
      case measure => simp [intOf]
    · obtain ⟨s, hs⟩ : ∃ s, s = L * 256 % 4294967296 := ⟨_, rfl⟩
      obtain ⟨b, hb⟩ : ∃ b, b = s / 16777216 := ⟨_, rfl⟩
      have hlt : b < 256 := by omega
      have hbe : (be4 L).take 2 = (be4 L).take 1 ++ [b] := by have := HL.out; simp [be4]; omega
      have HBE := Lib.hid hbe
      have e1 : (L : Int) * 256 % 4294967296 = (s : Int) := by omega
      have e2 : (s : Int) / 16777216 = (b : Int) := by omega
      have e3 : IntKind.u32.wrap ((s : Int) / 16777216) = (b : Int) := by rw [IntKind.wrap_u32]; omega
      have e4 : IntKind.u8.wrap (b : Int) = (b : Int) := by rw [IntKind.wrap_u8]; omega
      have HLT := Lib.hid hlt
      have hl1 : (o ++ (be4 L).take 1).length ≤ 100000 := by have := HO.out; simp [be4]; omega
      clear hs hb hlt hbe hk
      go_wp2_with ((with_reducible show wpList _ _ _ (({ dst := some 27, op := _, type := _, pos := _, after := _, guard := _ } : Oper) :: _) _ _); go_must (refine wpList_app rfl (.tmp 15) (.tmp 26) 31 rfl w.heap.size 5 i0 (.int .u8 0) 1 1 Try.underlying31 hi0 hz0 hz1 hz2 rfl (by decide) _ _ _ rfl (HOWN.out.alloc _) _ _ 1 1 _ rfl (Rd.new _ _ _) rfl (by intro u hu; simp at hu; subst hu; rfl) (by simp only [maxLen]; omega) (by omega) (by have := HBL.out.size; simp; omega) ?_; intro v3 w3 hown3 hg3; have hrow := own_block HOWN.out; have hb3 := (HBL.out.alloc HBL.out.size (.cells #[.int .u8 (b : Int)] 5)).grown hg3 (by have := HBL.out.size; simp; omega) hrow; clear hg3 hrow))
      have HB3 := Lib.hid hb3
      have h3 : w3.ownsRow w.heap.size 5 1 v3 (o ++ (be4 L).take 2).length (bvs (u8s (o ++ (be4 L).take 2))) := by
        rw [HBE.out, ← List.append_assoc, bvs_u8s _ HLT.out, List.length_append, List.length_singleton]; exact hown3
      have H3 := Lib.hid h3
      clear h3 hown3 hb3 hl1 e1 e2 e3 e4 HLT
      go_wp2
      go_roundw
      case rel => exact ⟨2, by decide, rfl, H3.out, HB3.out⟩
      case measure => simp [intOf]
    · obtain ⟨s, hs⟩ : ∃ s, s = L * 65536 % 4294967296 := ⟨_, rfl⟩
      obtain ⟨b, hb⟩ : ∃ b, b = s / 16777216 := ⟨_, rfl⟩
      have hlt : b < 256 := by omega
      have hbe : (be4 L).take 3 = (be4 L).take 2 ++ [b] := by have := HL.out; simp [be4]; omega
      have HBE := Lib.hid hbe
      have e1 : (L : Int) * 65536 % 4294967296 = (s : Int) := by omega
      have e2 : (s : Int) / 16777216 = (b : Int) := by omega
      have e3 : IntKind.u32.wrap ((s : Int) / 16777216) = (b : Int) := by rw [IntKind.wrap_u32]; omega
      have e4 : IntKind.u8.wrap (b : Int) = (b : Int) := by rw [IntKind.wrap_u8]; omega
      have HLT := Lib.hid hlt
      have hl1 : (o ++ (be4 L).take 2).length ≤ 100000 := by have := HO.out; simp [be4]; omega
      clear hs hb hlt hbe hk
      go_wp2_with ((with_reducible show wpList _ _ _ (({ dst := some 27, op := _, type := _, pos := _, after := _, guard := _ } : Oper) :: _) _ _); go_must (refine wpList_app rfl (.tmp 15) (.tmp 26) 31 rfl w.heap.size 5 i0 (.int .u8 0) 1 1 Try.underlying31 hi0 hz0 hz1 hz2 rfl (by decide) _ _ _ rfl (HOWN.out.alloc _) _ _ 1 1 _ rfl (Rd.new _ _ _) rfl (by intro u hu; simp at hu; subst hu; rfl) (by simp only [maxLen]; omega) (by omega) (by have := HBL.out.size; simp; omega) ?_; intro v3 w3 hown3 hg3; have hrow := own_block HOWN.out; have hb3 := (HBL.out.alloc HBL.out.size (.cells #[.int .u8 (b : Int)] 5)).grown hg3 (by have := HBL.out.size; simp; omega) hrow; clear hg3 hrow))
      have HB3 := Lib.hid hb3
      have h3 : w3.ownsRow w.heap.size 5 1 v3 (o ++ (be4 L).take 3).length (bvs (u8s (o ++ (be4 L).take 3))) := by
        rw [HBE.out, ← List.append_assoc, bvs_u8s _ HLT.out, List.length_append, List.length_singleton]; exact hown3
      have H3 := Lib.hid h3
      clear h3 hown3 hb3 hl1 e1 e2 e3 e4 HLT
      go_wp2
      go_roundw
      case rel => exact ⟨3, by decide, rfl, H3.out, HB3.out⟩
      case measure => simp [intOf]
    · obtain ⟨s, hs⟩ : ∃ s, s = L * 16777216 % 4294967296 := ⟨_, rfl⟩
      obtain ⟨b, hb⟩ : ∃ b, b = s / 16777216 := ⟨_, rfl⟩
      have hlt : b < 256 := by omega
      have hbe : (be4 L).take 4 = (be4 L).take 3 ++ [b] := by have := HL.out; simp [be4]; omega
      have HBE := Lib.hid hbe
      have e1 : (L : Int) * 16777216 % 4294967296 = (s : Int) := by omega
      have e2 : (s : Int) / 16777216 = (b : Int) := by omega
      have e3 : IntKind.u32.wrap ((s : Int) / 16777216) = (b : Int) := by rw [IntKind.wrap_u32]; omega
      have e4 : IntKind.u8.wrap (b : Int) = (b : Int) := by rw [IntKind.wrap_u8]; omega
      have HLT := Lib.hid hlt
      have hl1 : (o ++ (be4 L).take 3).length ≤ 100000 := by have := HO.out; simp [be4]; omega
      clear hs hb hlt hbe hk
      go_wp2_with ((with_reducible show wpList _ _ _ (({ dst := some 27, op := _, type := _, pos := _, after := _, guard := _ } : Oper) :: _) _ _); go_must (refine wpList_app rfl (.tmp 15) (.tmp 26) 31 rfl w.heap.size 5 i0 (.int .u8 0) 1 1 Try.underlying31 hi0 hz0 hz1 hz2 rfl (by decide) _ _ _ rfl (HOWN.out.alloc _) _ _ 1 1 _ rfl (Rd.new _ _ _) rfl (by intro u hu; simp at hu; subst hu; rfl) (by simp only [maxLen]; omega) (by omega) (by have := HBL.out.size; simp; omega) ?_; intro v3 w3 hown3 hg3; have hrow := own_block HOWN.out; have hb3 := (HBL.out.alloc HBL.out.size (.cells #[.int .u8 (b : Int)] 5)).grown hg3 (by have := HBL.out.size; simp; omega) hrow; clear hg3 hrow))
      have HB3 := Lib.hid hb3
      have h3 : w3.ownsRow w.heap.size 5 1 v3 (o ++ (be4 L).take 4).length (bvs (u8s (o ++ (be4 L).take 4))) := by
        rw [HBE.out, ← List.append_assoc, bvs_u8s _ HLT.out, List.length_append, List.length_singleton]; exact hown3
      have H3 := Lib.hid h3
      clear h3 hown3 hb3 hl1 e1 e2 e3 e4 HLT
      go_wp2
      go_roundw
      case rel => exact ⟨4, by decide, rfl, H3.out, HB3.out⟩
      case measure => simp [intOf]
    · have h4 : (be4 L).take 4 = be4 L := rfl
      rw [h4] at HOWN
      clear h4 hk hc0
      go_wp2
      go_ret
      exact ⟨_, rfl, HOWN.out, HBL.out⟩
end
end Go.Proofs.Ytgdebfjjohoghaa
