/-
  Layer 26's reference: parts, Code, Adapt. · Layer 27: the reference's Code, by any mode. · Layer 27: the modes' names: Name, Find; the reference's Names. · Layer 27: the fixed calls.
-/
import Derived.Test.YtflcmmeoppdhdaaGreatQ34
import Derived.Test.YtflcmmeoppdhdaaGreatQ35
import Derived.Test.YtflcmmeoppdhdaaGreatQ36
import Derived.Test.YtflcmmeoppdhdaaGreatQ37
import Derived.Lib.SlBytesConst
namespace Go.Proofs.YtflcmmeoppdhdaaGreat
open Go.RowKit Go.Sort

/-- A part, as three numbers. -/
def partS (p : RcPart) : S3 := ⟨(p.low : Int), (p.size : Int), (p.total : Int)⟩
theorem partsOf_S : ∀ (ps : List RcPart), (∀ p ∈ ps, p.ok) → partsOf (ps.map partS) = ps
  | [], _ => rfl
  | p :: ps, h => by
    have h1 := partsOf_S ps fun q hq => h q (by simp [hq])
    have hm : mayP (p.low : Int) (p.size : Int) (p.total : Int) = true := mayP_iff.2 (h p (by simp))
    unfold partsOf at h1 ⊢
    rw [List.map_cons, List.filter_cons_of_pos (by exact hm), List.map_cons, h1]
    simp [partOf, partS]
/-- Parts as cells. -/
def psV (ps : List RcPart) : List Value := s3vs (ps.map partS)
theorem psV_snoc (ps : List RcPart) (p : RcPart) : psV (ps ++ [p]) = psV ps ++ [.int .i64 (p.low : Int), .int .i64 (p.size : Int), .int .i64 (p.total : Int)] := by
  unfold psV; rw [List.map_append, List.map_cons, List.map_nil, s3vs_snoc]; rfl
theorem part26_info : (Tryz.prog.info? 64).map (fun i => (i.zero, i.size, i.bytes)) = some (some (.agg #[.int .i64 0, .int .i64 0, .int .i64 0]), 3, 24) := by kernel_rfl
theorem part26_size : (Tryz.prog.info? 64).map (·.size) = some 3 := by kernel_rfl
section
variable {w w' : World} {B : Nat} {ts : List TypeId}
/-- The types of the blocks that a plain model turns. -/
def refT : List TypeId := [113, 3]
theorem GBank.onlyT {M g bits n m : Nat} {R : List Nat} (h : GBank w M g bits n m R) (ho : OnlyT B ts w w') (h1 : 169 ∉ ts) (h2 : 3 ∉ ts) : GBank w' M g bits n m R := ⟨h.mb.only ho h1, own_only h.own ho h2, h.row, h.pow, h.lo⟩
theorem IsRef.onlyT {r : RefA} {gw mw : Nat} {s : ModD} (h : IsRef w r gw mw s) (ho : OnlyT B ts w w') (h1 : 113 ∉ ts) (h2 : 169 ∉ ts) (h3 : 3 ∉ ts) : IsRef w' r gw mw s :=
  ⟨h.mb.only ho h1, h.b1.onlyT ho h2 h3, h.b2.onlyT ho h2 h3, h.b3.onlyT ho h2 h3, own_only h.wo ho h3, h.ok, h.n⟩
theorem IsRef.turned {r : RefA} {gw mw : Nat} {s : ModD} (h : IsRef w r gw mw s) (hu : OnlyS r.all w w') (hlo : ∀ k ∈ r.every, B ≤ k) : OnlyT B refT w w' :=
  hu.onlyT fun g hg => ⟨hlo g (by simp only [RefA.all, RefA.every, List.mem_cons, List.not_mem_nil, or_false] at hg ⊢; omega), by
    simp only [RefA.all, List.mem_cons, List.not_mem_nil, or_false] at hg
    rcases hg with rfl | rfl | rfl | rfl
    · exact ⟨_, by simp [refT], h.mb.ofType⟩
    · exact ⟨_, by simp [refT], (own_type h.b1.own _ rfl).2⟩
    · exact ⟨_, by simp [refT], (own_type h.b2.own _ rfl).2⟩
    · exact ⟨_, by simp [refT], (own_type h.b3.own _ rfl).2⟩⟩
theorem RF.onlyT {M n : Nat} {v : Value} {c : List Int} {st mo : Int} {B' : Nat} (h : RF w B' M n v c st mo) (ho : OnlyT B ts w w') (h1 : 101 ∉ ts) (h2 : 3 ∉ ts) : RF w' B' M n v c st mo :=
  ⟨h.mb.only ho h1, own_only h.own ho h2, h.len, h.lo⟩
set_option maxHeartbeats 1000000 in
set_option maxRecDepth 100000 in
theorem refPart_any (s : ModD) (b : Nat) (hb : b < 2) (w : World) : Calls Tryz.prog 39 #[.int .i64 s.chance, .int .i64 (b : Int)] w fun e w' => e = .returned (.agg #[.int .i64 ((bitP s b).low : Int), .int .i64 ((bitP s b).size : Int), .int .i64 ((bitP s b).total : Int)]) ∧ Below w.heap.size w w' := by
  have hch := s.chance_ok
  unfold bitP
  obtain ⟨p, hp⟩ := Int.eq_ofNat_of_zero_le (show 0 ≤ s.chance by omega)
  rw [hp] at hch ⊢
  rw [Int.toNat_natCast]
  have hb0 : Below w.heap.size w (w.alloc (.cells #[.int .i64 0, .int .i64 0, .int .i64 0] 64)) := (Below.refl _ _).alloc (Nat.le_refl _) _
  rcases (by omega : b = 0 ∨ b = 1) with rfl | rfl
  · have e : ((65536 - p : Nat) : Int) = 65536 - (p : Int) := by omega
    rw [if_pos rfl]
    simp only [e]
    go_enter Tryz.func39, Tryz.ntmps39
    go_wp2
    exact bodyPost_ret (v := .agg #[.int .i64 (p : Int), .int .i64 (65536 - (p : Int)), .int .i64 65536]) (results_cell_row Tryz.results39 _ _ w.heap.size 64 _ (0, 0) _ rfl (heap_alloc_new w _) Tryz.underlying64 rfl part26_size) rfl ⟨rfl, (Below.refl _ _).alloc (Nat.le_refl _) _⟩
  · rw [if_neg (by decide)]
    go_enter Tryz.func39, Tryz.ntmps39
    go_wp2
    exact bodyPost_ret (v := .agg #[.int .i64 0, .int .i64 (p : Int), .int .i64 65536]) (results_cell_row Tryz.results39 _ _ w.heap.size 64 _ (0, 0) _ rfl (heap_alloc_new w _) Tryz.underlying64 rfl part26_size) rfl ⟨rfl, (Below.refl _ _).alloc (Nat.le_refl _) _⟩
/-- What stands behind parts, on the plain side. -/
structure CodR (w wr : World) (r : RefA) (gw mw : Nat) (s : ModD) (ps : List RcPart) (v : Value) : Prop where
  m : IsRef wr r gw mw s
  own : wr.ownsRow w.heap.size 64 3 v ps.length (psV ps)
  below : Below w.heap.size w wr
theorem CodR.grow {w wr w' : World} {r : RefA} {gw mw : Nat} {s : ModD} {ps : List RcPart} {v : Value} (h : CodR w wr r gw mw s ps v) (hb : Below wr.heap.size wr w') : CodR w w' r gw mw s ps v :=
  ⟨h.m.grow hb, own_kept h.own hb, h.below.trans (hb.mono h.below.size)⟩
theorem CodR.more {w wr w' : World} {r : RefA} {gw mw : Nat} {s : ModD} {ps : List RcPart} {p : RcPart} {v v' : Value} {o : Obj} (h : CodR w wr r gw mw s ps v)
    (hown : w'.ownsRow w.heap.size 64 3 v' (ps.length + 1) (psV ps ++ [.int .i64 (p.low : Int), .int .i64 (p.size : Int), .int .i64 (p.total : Int)])) (hg : (wr.alloc o).grownBy w' v.ownBlock) : CodR w w' r gw mw s (ps ++ [p]) v' := by
  have ha : OnlyT w.heap.size [64] wr (wr.alloc o) := OnlyT.of_below ((Below.refl _ _).alloc (Nat.le_refl _) _)
  have ht : OnlyT w.heap.size [64] (wr.alloc o) w' := OnlyT.grown hg (own_type (h.own.alloc _)) (by simp)
  refine ⟨h.m.onlyT (ha.trans ht) (by decide) (by decide) (by decide), ?_, h.below.trans ((ha.trans ht).below h.below.size)⟩
  rw [List.length_append, List.length_singleton, psV_snoc]
  exact hown
theorem CodR.seen {w wr w' : World} {r : RefA} {gw mw gw' mw' : Nat} {s s' : ModD} {ps : List RcPart} {v : Value} (h : CodR w wr r gw mw s ps v) (hlo : ∀ k ∈ r.every, w.heap.size ≤ k) (hm : IsRef w' r gw' mw' s') (hu : OnlyS r.all wr w') : CodR w w' r gw' mw' s' ps v :=
  have ht := h.m.turned hu hlo
  ⟨hm, own_only h.own ht (by decide), h.below.trans (ht.below h.below.size)⟩
set_option maxHeartbeats 4000000 in
set_option maxRecDepth 100000 in
theorem refBlCode_any {A : Option Addr} {n m : Nat} {l : List UInt8} (hr : Rd w w.heap.size A (bvs l)) (hn : l.length = n) (h1 : 1 ≤ n) (hn1 : n ≤ 200) :
    Calls Tryz.prog 22 #[.slice A n m] w fun e w' => ∃ (v : Value) (L R : Nat) (o : List Nat), Enc (bitWay.all newD (l.map UInt8.toNat)) L R o ∧ e = .returned v ∧ w'.ownsRow w.heap.size 5 1 v (o ++ be4 L).length (bvs (u8s (o ++ be4 L))) ∧ Below w.heap.size w w' := by
  obtain ⟨i0, hi0, hz0, hz1, hz2⟩ := info_parts part26_info
  have HRD := Lib.hid hr
  have HN := Lib.hid hn
  have HN1 := Lib.hid hn1
  have h0 : ¬ ((n : Int) = 0) := by omega
  have h0' : 0 < (n : Int) := by omega
  clear hr hn hn1 h1
  go_enter Tryz.func22, Tryz.ntmps22
  go_wp2_with fail
  refine (refNew_any w).mono ?_
  rintro e w1 ⟨r, gw, mw, rfl, hm1, hlo1, -, hb1⟩
  have HLO := Lib.hid hlo1
  have HREL := Lib.hid (⟨hm1, World.ownsRow_nil _ _ _ _, hb1⟩ : CodR w w1 r gw mw newD [] (.slice none 0 0))
  clear hm1 hlo1 hb1 h0 h0'
  go_wp2
  go_loopw [4, 5] (fun v i wr => ∃ (k gw mw : Nat) (s : ModD) (ps : List RcPart), k ≤ n ∧ i = .int .i64 (k : Int) ∧ Hid (s = bitWay.seen newD ((l.take k).map UInt8.toNat) ∧ ps = bitWay.all newD ((l.take k).map UInt8.toNat)) ∧ CodR w wr r gw mw s ps v) (fun _ i _ => n - (intOf i).toNat)
  case atStart => exact ⟨0, gw, mw, newD, [], Nat.zero_le _, rfl, Lib.hid ⟨rfl, rfl⟩, HREL.out⟩
  case round =>
    clear HREL
    obtain ⟨k, gw, mw, s, ps, hk, rfl, HSP, hrel⟩ := hrel
    have HR := Lib.hid hrel
    obtain ⟨Av, cv, rfl, -, -, -⟩ := own_form hrel.own
    clear hrel
    by_cases hlt : k < n
    · have hkl : k < l.length := by rw [HN.out]; exact hlt
      obtain ⟨ab, ao, rfl, hab, hcell0⟩ := HRD.out k _ (bvs_get l k hkl)
      have hsn := map_take_snoc hkl
      obtain ⟨c, hc⟩ : ∃ c, c = l[k].toNat := ⟨_, rfl⟩
      have hc256 : c < 256 := by rw [hc]; exact l[k].toNat_lt
      rw [← hc] at hcell0 hsn
      have HC0 := Lib.hid (fun (W : World) (h : Below w.heap.size w W) => (h.cell (p := ⟨ab, ao + k, none⟩) hab).trans hcell0)
      have hlen := (Way.all_len (V := bitWay) newD ((l.take k).map UInt8.toNat)).2
      rw [List.length_map, List.length_take, ← HSP.out.2] at hlen
      have HSN := Lib.hid (show runK s c 8 = bitWay.seen newD ((l.take (k + 1)).map UInt8.toNat) ∧ ps ++ bitsP s c 8 = bitWay.all newD ((l.take (k + 1)).map UInt8.toNat) by
        rw [hsn, Way.seen_snoc, Way.all_snoc, ← HSP.out.1, ← HSP.out.2]; exact ⟨rfl, rfl⟩)
      have HPSL := Lib.hid (show ps.length ≤ 1600 by have := HN1.out; omega)
      have hki : (k : Int) < (n : Int) := by omega
      have hk1 : k < 200 := by have := HN1.out; omega
      clear hcell0 hkl hc hlen hsn HSP
      go_wp2
      go_loopw [4, 6] (fun v j wr2 => ∃ (q gw mw : Nat) (s2 : ModD) (p2 : List RcPart), q ≤ 8 ∧ j = .int .i64 (q : Int) ∧ Hid (s2 = runK s c q ∧ p2 = ps ++ bitsP s c q) ∧ CodR w wr2 r gw mw s2 p2 v) (fun _ j _ => 8 - (intOf j).toNat)
      case atStart => exact ⟨0, gw, mw, s, ps, Nat.zero_le _, rfl, Lib.hid ⟨rfl, by simp [bitsP]⟩, HR.out⟩
      case round =>
        clear HR
        obtain ⟨q, gw, mw, s2, p2, hq, rfl, HQ, hrel⟩ := hrel
        have HR := Lib.hid hrel
        have hcell := HC0.out _ hrel.below
        obtain ⟨Av, cv, rfl, -, -, -⟩ := own_form hrel.own
        clear hrel
        by_cases hq8 : q < 8
        · have hqi : (q : Int) < 8 := by omega
          have hb2 := bitD_lt c q
          have CB := Lib.hid (fun W => refBit_any c q W hc256 hq8)
          obtain ⟨b, hb⟩ : ∃ b, b = bitD c q := ⟨_, rfl⟩
          rw [← hb] at CB hb2
          have HQ1 := Lib.hid (show s2.seen (b : Int) = runK s c (q + 1) ∧ p2 ++ [bitP s2 b] = ps ++ bitsP s c (q + 1) by
            rw [HQ.out.1, HQ.out.2, hb]
            refine ⟨rfl, ?_⟩
            rw [bitsP_snoc, ← List.append_assoc])
          have CP := Lib.hid (refP_any HR.out.m)
          have CQ := Lib.hid (fun W => refPart_any s2 b hb2 W)
          have hpl : p2.length ≤ 1608 := by rw [HQ.out.2, List.length_append, bitsP_len]; have := HPSL.out; omega
          have HB2 := Lib.hid (show (-128 : Int) ≤ (b : Int) ∧ (b : Int) ≤ 127 by omega)
          obtain ⟨⟨lo, sz, tot⟩, hp⟩ : ∃ p, p = bitP s2 b := ⟨_, rfl⟩
          rw [← hp] at CQ HQ1
          dsimp only at CQ
          obtain ⟨p, hpp⟩ : ∃ p, p = s2.chance := ⟨_, rfl⟩
          rw [← hpp] at CP CQ
          clear hp hpp hb hb2 HQ
          go_wp2_with fail
          refine (CB.out _).mono ?_
          rintro e w' ⟨rfl, hw⟩
          obtain rfl : _ = w' := hw.symm
          clear hcell CB
          go_wp2_with fail
          refine CP.out.mono ?_
          rintro e w3 ⟨rfl, hb3⟩
          have HR3 := Lib.hid (HR.out.grow hb3)
          clear hb3 CP HR
          go_wp2_with fail
          refine (CQ.out _).mono ?_
          rintro e w4 ⟨rfl, hb4⟩
          have HR4 := Lib.hid (HR3.out.grow hb4)
          have hs4 := HR4.out.below.size
          clear hb4 CQ HR3
          go_wp2_with ((with_reducible show wpList _ _ _ (({ dst := some 34, op := _, type := _, pos := _, after := _, guard := _ } : Oper) :: _) _ _); go_must (refine wpList_app rfl (.tmp 28) (.tmp 33) 62 rfl w.heap.size 64 i0 (.agg #[.int .i64 0, .int .i64 0, .int .i64 0]) 3 24 Tryz.underlying62 hi0 hz0 hz1 hz2 rfl (by decide) _ _ _ rfl (HR4.out.own.alloc _) _ _ 1 1 _ rfl (Rd.new _ _ _) rfl (by intro u hu; simp at hu; rcases hu with rfl | rfl | rfl <;> rfl) (by simp only [maxLen]; omega) (by omega) (by simp; omega) ?_; intro v5 w5 hown5 hg5; have HR5 := Lib.hid (CodR.more (p := ⟨lo, sz, tot⟩) HR4.out hown5 hg5); clear hown5 hg5))
          have CS := Lib.hid (refSeen_any (b : Int) HB2.out HR5.out.m)
          clear HR4 hs4
          refine CS.out.mono ?_
          rintro e w6 ⟨⟨u, rfl⟩, gw', mw', hm6, -, hu6⟩
          have HR6 := Lib.hid (HR5.out.seen HLO.out hm6 hu6)
          clear hm6 hu6 CS HR5
          go_wp2
          go_roundw
          case rel => exact ⟨q + 1, gw', mw', _, _, by omega, by go_num, HQ1, HR6.out⟩
          case measure => simp [intOf]; omega
        · obtain rfl : q = 8 := by omega
          have HF := Lib.hid (show s2 = bitWay.seen newD ((l.take (k + 1)).map UInt8.toNat) ∧ p2 = bitWay.all newD ((l.take (k + 1)).map UInt8.toNat) from ⟨HQ.out.1.trans HSN.out.1, HQ.out.2.trans HSN.out.2⟩)
          clear hcell HQ
          go_wp2
          go_roundw
          case rel => exact ⟨k + 1, gw, mw, s2, p2, by omega, by go_num, HF, HR.out⟩
          case measure => simp [intOf]; omega
    · obtain rfl : k = n := by omega
      have htk : l.take k = l := List.take_of_length_le (by rw [HN.out]; exact Nat.le_refl _)
      rw [htk] at HSP
      have hok := Way.all_ok (V := bitWay) (l.map UInt8.toNat) newD_ok (u8_lt l)
      have hlen := (Way.all_len (V := bitWay) newD (l.map UInt8.toNat)).2
      rw [List.length_map, HN.out] at hlen
      rw [← HSP.out.2] at hok hlen
      have cl := rcLay_any (m := cv) (RdS3.of_rd (ss := ps.map partS) (Rd.of_own HR.out.own)) (List.length_map _) (by have := HN1.out; omega)
      rw [partsOf_S _ hok] at cl
      have CL := Lib.hid cl
      have HB := Lib.hid HR.out.below
      clear htk hok hlen cl
      go_wp2_with fail
      refine CL.out.mono ?_
      rintro e w3 ⟨v, L, R, o, hen, rfl, hown, hb3⟩
      have HF := Lib.hid (And.intro (show Enc (bitWay.all newD (l.map UInt8.toNat)) L R o by rw [← HSP.out.2]; exact hen) (And.intro (own_more hown HB.out.size) (HB.out.trans (hb3.mono HB.out.size))))
      clear hen hown hb3 CL
      go_wp2
      go_ret
      exact ⟨v, L, R, o, HF.out.1, rfl, HF.out.2.1, HF.out.2.2⟩
/-- What stands behind parts, on the plain side, letter by letter. -/
structure AdpR (w wr : World) (M : Nat) (v0 : Value) (c : List Int) (ps : List RcPart) (v : Value) : Prop where
  f : RF wr w.heap.size M 256 v0 c 24 16384
  own : wr.ownsRow w.heap.size 64 3 v ps.length (psV ps)
  below : Below w.heap.size w wr
theorem AdpR.grow {w wr w' : World} {M : Nat} {v0 v : Value} {c : List Int} {ps : List RcPart} (h : AdpR w wr M v0 c ps v) (hb : Below wr.heap.size wr w') : AdpR w w' M v0 c ps v :=
  ⟨h.f.grow hb, own_kept h.own hb, h.below.trans (hb.mono h.below.size)⟩
theorem AdpR.more {w wr w' : World} {M : Nat} {v0 v v' : Value} {c : List Int} {ps : List RcPart} {p : RcPart} {o : Obj} (h : AdpR w wr M v0 c ps v)
    (hown : w'.ownsRow w.heap.size 64 3 v' (ps.length + 1) (psV ps ++ [.int .i64 (p.low : Int), .int .i64 (p.size : Int), .int .i64 (p.total : Int)])) (hg : (wr.alloc o).grownBy w' v.ownBlock) : AdpR w w' M v0 c (ps ++ [p]) v' := by
  have ha : OnlyT w.heap.size [64] wr (wr.alloc o) := OnlyT.of_below ((Below.refl _ _).alloc (Nat.le_refl _) _)
  have ht : OnlyT w.heap.size [64] (wr.alloc o) w' := OnlyT.grown hg (own_type (h.own.alloc _)) (by simp)
  refine ⟨h.f.onlyT (ha.trans ht) (by decide) (by decide), ?_, h.below.trans ((ha.trans ht).below h.below.size)⟩
  rw [List.length_append, List.length_singleton, psV_snoc]
  exact hown
theorem AdpR.seen {w wr w' : World} {M : Nat} {v0 v v0' : Value} {c c' : List Int} {ps : List RcPart} (h : AdpR w wr M v0 c ps v) (hm : RF w' w.heap.size M 256 v0' c' 24 16384) (ht : OnlyT w.heap.size rfT wr w') : AdpR w w' M v0' c' ps v :=
  ⟨hm, own_only h.own ht (by decide), h.below.trans (ht.below h.below.size)⟩
set_option maxHeartbeats 2000000 in
set_option maxRecDepth 100000 in
theorem refBlOf_any {M : Nat} {v0 : Value} {c : List Int} {k : Nat} (h : RF w B M 256 v0 c 24 16384) (hi : InvF c) (hk : k < 256) :
    Calls Tryz.prog 34 #[.pointer (some ⟨M, 0, none⟩), .int .i64 (k : Int)] w fun e w' => e = .returned (.agg #[.int .i64 ((letP c k).low : Int), .int .i64 ((letP c k).size : Int), .int .i64 ((letP c k).total : Int)]) ∧ Below w.heap.size w w' := by
  obtain ⟨v1, v2, v3, -⟩ := letP_vals hi hk
  have hk' : k < c.length := by rw [hi.1.1]; exact hk
  have hnn : ∀ x ∈ c, 0 ≤ x := fun x hx => Int.le_trans (by decide) (hi.1.2 x hx)
  have hs : c.sum ≤ 1000000000 := Int.le_trans hi.2 (by decide)
  obtain ⟨A, m, rfl, -, -, hform⟩ := own_form h.own
  obtain ⟨g, rfl, -, -⟩ : ∃ g, A = some ⟨g, 0, none⟩ ∧ B ≤ g ∧ g < w.heap.size := by
    rcases hform with h | h
    · omega
    · exact h
  obtain ⟨w1, hw1⟩ : ∃ w1, w1 = w.alloc (.cells #[.int .i64 0, .int .i64 0, .int .i64 0] 64) := ⟨_, rfl⟩
  have hb1 : Below w.heap.size w w1 := by rw [hw1]; exact (Below.refl _ _).alloc (Nat.le_refl _) _
  have hc1 : Blk w1 w.heap.size 64 [.int .i64 0, .int .i64 0, .int .i64 0] := by rw [hw1]; exact heap_alloc_new w _
  have h1 := (h.grow hb1).same (w' := w1.drew) rfl
  have CB := Lib.hid (fun (W : World) (h : RF W B M 256 (.slice (some ⟨g, 0, none⟩) 256 m) c 24 16384) => rBelow_any (w := W) (m := m) (k : Int) (Rd.of_own h.own) h.len hnn hs (by decide) k (by omega))
  have CT := Lib.hid (fun (W : World) (h : RF W B M 256 (.slice (some ⟨g, 0, none⟩) 256 m) c 24 16384) => rTotal_any h hnn hs (by decide))
  rw [← v1] at CB
  rw [← v3] at CT
  have hcell : w1.drew.cell? ⟨g, k, none⟩ = some (.int .i64 ((letP c k).size : Int)) := by
    rw [h1.own.cellAt k (by omega), zvs_get, List.getElem?_eq_getElem hk', v2, getD_at hk']; rfl
  have hm0 := h1.mb.cell 0
  simp only [List.getElem?_cons_zero] at hm0
  have HCELL := Lib.hid hcell
  have H1 := Lib.hid h1
  have HB1 := Lib.hid hb1
  have HC1 := Lib.hid (hc1.same (w' := w1.drew) rfl)
  have HW := Lib.hid hw1
  have hki : (k : Int) < 256 := by omega
  obtain ⟨⟨lo, sz, tot⟩, hp⟩ : ∃ p, p = letP c k := ⟨_, rfl⟩
  rw [← hp] at CB CT HCELL hcell ⊢
  dsimp only at CB CT HCELL hcell ⊢
  clear v1 v2 v3 hk' hnn hs hform hw1 hb1 hc1 h1 h hi hp
  go_enter Tryz.func34, Tryz.ntmps34
  go_wp2
  rw [← HW.out]
  go_region_with (first
    | (go_at_call 63; refine (CT.out _ H1.out).mono ?_; rintro e w2 ⟨rfl, hb2⟩; have H2 := Lib.hid (H1.out.grow hb2); have hm2 := H2.out.mb.cell 0; have hc2 := (hb2.cell (p := ⟨g, k, none⟩) (World.block_lt_of_cell? _ _ HCELL.out)).trans HCELL.out; have HC2 := Lib.hid (HC1.out.grow hb2); have r0 := HC2.out.cell 0; have r1 := HC2.out.cell 1; have r2 := HC2.out.cell 2; have f0 := HC2.out.frozen 0; have f1 := HC2.out.frozen 1; have f2 := HC2.out.frozen 2; simp only [List.getElem?_cons_zero, List.getElem?_cons_succ] at hm2 r0 r1 r2; have HB2 := Lib.hid hb2; clear hb2)
    | (go_at_call 62; first | (refine (CB.out _ H2.out).mono ?_; rintro e w' ⟨rfl, hw⟩; obtain rfl : _ = w' := hw.symm) | (refine (CB.out _ H1.out).mono ?_; rintro e w' ⟨rfl, hw⟩; obtain rfl : _ = w' := hw.symm)))
  all_goals
    have hs2 := ((HC2.out.set_ 0 (.int .i64 (lo : Int))).set_ 1 (.int .i64 (sz : Int))).set_ 2 (.int .i64 (tot : Int))
    simp only [List.set_cons_zero, List.set_cons_succ] at hs2
    have hbb := (((HB1.out.drew.trans (HB2.out.mono HB1.out.size)).setCell (p := ⟨w.heap.size, 0, none⟩) (Nat.le_refl _) (.int .i64 (lo : Int))).setCell (p := ⟨w.heap.size, 1, none⟩) (Nat.le_refl _) (.int .i64 (sz : Int))).setCell (p := ⟨w.heap.size, 2, none⟩) (Nat.le_refl _) (.int .i64 (tot : Int))
    have HS2 := Lib.hid hs2
    have HBB := Lib.hid hbb
    clear hs2 hbb H1 H2 HC1 HC2 HB2 HB1 hm0 hm2 hc2 hcell r0 r1 r2 f0 f1 f2 CT CB
    go_wp2
    exact bodyPost_ret (v := .agg #[.int .i64 (lo : Int), .int .i64 (sz : Int), .int .i64 (tot : Int)]) (results_cell_row Tryz.results34 _ _ w.heap.size 64 _ (0, 0) _ rfl HS2.out Tryz.underlying64 rfl part26_size) rfl ⟨rfl, HBB.out⟩
set_option maxHeartbeats 4000000 in
set_option maxRecDepth 100000 in
theorem refAdapt_any {A : Option Addr} {n m : Nat} {l : List UInt8} (hr : Rd w w.heap.size A (bvs l)) (hn : l.length = n) (h1 : 1 ≤ n) (hn1 : n ≤ 200) :
    Calls Tryz.prog 21 #[.slice A n m] w fun e w' => ∃ (v : Value) (L R : Nat) (o : List Nat), Enc (letWay.all noneF (l.map UInt8.toNat)) L R o ∧ e = .returned v ∧ w'.ownsRow w.heap.size 5 1 v (o ++ be4 L).length (bvs (u8s (o ++ be4 L))) ∧ Below w.heap.size w w' := by
  obtain ⟨i0, hi0, hz0, hz1, hz2⟩ := info_parts part26_info
  have HRD := Lib.hid hr
  have HN := Lib.hid hn
  have HN1 := Lib.hid hn1
  have h0 : ¬ ((n : Int) = 0) := by omega
  have h0' : 0 < (n : Int) := by omega
  clear hr hn hn1 h1
  go_enter Tryz.func21, Tryz.ntmps21
  go_wp2_with fail
  refine (rNew_any 256 24 16384 w (by decide)).mono ?_
  rintro e w1 ⟨M, rfl, ⟨v0, hm1⟩, hb1⟩
  have HREL := Lib.hid (⟨hm1, World.ownsRow_nil _ _ _ _, hb1⟩ : AdpR w w1 M v0 noneF [] (.slice none 0 0))
  clear hm1 hb1 h0 h0'
  go_wp2
  go_loopw [4, 5] (fun v i wr => ∃ (k : Nat) (v0 : Value) (c : List Int) (ps : List RcPart), k ≤ n ∧ i = .int .i64 (k : Int) ∧ Hid (c = letWay.seen noneF ((l.take k).map UInt8.toNat) ∧ ps = letWay.all noneF ((l.take k).map UInt8.toNat)) ∧ AdpR w wr M v0 c ps v) (fun _ i _ => n - (intOf i).toNat)
  case atStart => exact ⟨0, v0, noneF, [], Nat.zero_le _, rfl, Lib.hid ⟨rfl, rfl⟩, HREL.out⟩
  case round =>
    clear HREL
    obtain ⟨k, v0, c, ps, hk, rfl, HSP, hrel⟩ := hrel
    have HR := Lib.hid hrel
    obtain ⟨Av, cv, rfl, -, -, -⟩ := own_form hrel.own
    have hbl := hrel.below
    clear hrel
    by_cases hlt : k < n
    · have hkl : k < l.length := by rw [HN.out]; exact hlt
      obtain ⟨ab, ao, rfl, hab, hcell0⟩ := HRD.out k _ (bvs_get l k hkl)
      have hsn := map_take_snoc hkl
      obtain ⟨b, hb⟩ : ∃ b, b = l[k].toNat := ⟨_, rfl⟩
      have hb256 : b < 256 := by rw [hb]; exact l[k].toNat_lt
      rw [← hb] at hcell0 hsn
      have HC0 := Lib.hid (fun (W : World) (h : Below w.heap.size w W) => (h.cell (p := ⟨ab, ao + k, none⟩) hab).trans hcell0)
      have hcell := HC0.out _ hbl
      have hlen := (Way.all_len (V := letWay) noneF ((l.take k).map UInt8.toNat)).2
      rw [List.length_map, List.length_take, ← HSP.out.2] at hlen
      have hinv : InvF c := by rw [HSP.out.1]; exact Way.seen_inv (V := letWay) _ noneF_inv (u8_lt _)
      have HSN := Lib.hid (show letNext c b = letWay.seen noneF ((l.take (k + 1)).map UInt8.toNat) ∧ ps ++ [letP c b] = letWay.all noneF ((l.take (k + 1)).map UInt8.toNat) by
        rw [hsn, Way.seen_snoc, Way.all_snoc, ← HSP.out.1, ← HSP.out.2]; exact ⟨rfl, rfl⟩)
      have hpl : ps.length ≤ 1600 := by have := HN1.out; omega
      have hki : (k : Int) < (n : Int) := by omega
      have hk1 : k < 200 := by have := HN1.out; omega
      have hbw : IntKind.i64.wrap (b : Int) = (b : Int) := by rw [IntKind.wrap_i64]; omega
      have CO := Lib.hid (refBlOf_any HR.out.f hinv hb256)
      have HI := Lib.hid hinv
      obtain ⟨⟨lo, sz, tot⟩, hp⟩ : ∃ p, p = letP c b := ⟨_, rfl⟩
      rw [← hp] at CO HSN
      dsimp only at CO
      clear hcell0 hkl hb hlen hsn HSP hinv hp hbl
      go_wp2_with fail
      refine CO.out.mono ?_
      rintro e w4 ⟨rfl, hb4⟩
      have HR4 := Lib.hid (HR.out.grow hb4)
      have hs4 := HR4.out.below.size
      clear hb4 CO HR hcell
      go_wp2_with ((with_reducible show wpList _ _ _ (({ dst := some 25, op := _, type := _, pos := _, after := _, guard := _ } : Oper) :: _) _ _); go_must (refine wpList_app rfl (.tmp 16) (.tmp 24) 62 rfl w.heap.size 64 i0 (.agg #[.int .i64 0, .int .i64 0, .int .i64 0]) 3 24 Tryz.underlying62 hi0 hz0 hz1 hz2 rfl (by decide) _ _ _ rfl (HR4.out.own.alloc _) _ _ 1 1 _ rfl (Rd.new _ _ _) rfl (by intro u hu; simp at hu; rcases hu with rfl | rfl | rfl <;> rfl) (by simp only [maxLen]; omega) (by omega) (by simp; omega) ?_; intro v5 w5 hown5 hg5; have HR5 := Lib.hid (AdpR.more (p := ⟨lo, sz, tot⟩) HR4.out hown5 hg5); have hcell := HC0.out _ HR5.out.below; clear hown5 hg5))
      have hbc : b < c.length := by rw [HI.out.1.1]; exact hb256
      have CS := Lib.hid (rSeen_anyT b HR5.out.f HI.out.1 hbc (by decide) (by have := HI.out.2; omega) (by decide) (by decide) (by decide) (by decide) HR5.out.below.size)
      clear HR4 hs4
      refine CS.out.mono ?_
      rintro e w6 ⟨⟨u, rfl⟩, ⟨r, v0', hsh, hm6⟩, ht6⟩
      have hnx := (letNext_shrunk HI.out hb256).1
      rw [getD_at hbc] at hnx
      have hre := hnx.one hsh
      have HR6 := Lib.hid (show AdpR w w6 M v0' (letNext c b) (ps ++ [⟨lo, sz, tot⟩]) v5 from HR5.out.seen (by rw [hre]; exact hm6) ht6)
      clear hsh hm6 ht6 CS HR5 hnx hre hcell hbc
      go_wp2
      go_roundw
      case rel => exact ⟨k + 1, v0', _, _, by omega, by go_num, HSN, HR6.out⟩
      case measure => simp [intOf]; omega
    · obtain rfl : k = n := by omega
      have htk : l.take k = l := List.take_of_length_le (by rw [HN.out]; exact Nat.le_refl _)
      rw [htk] at HSP
      have hok := Way.all_ok (V := letWay) (l.map UInt8.toNat) noneF_inv (u8_lt l)
      have hlen := (Way.all_len (V := letWay) noneF (l.map UInt8.toNat)).2
      rw [List.length_map, HN.out] at hlen
      rw [← HSP.out.2] at hok hlen
      have cl := rcLay_any (m := cv) (RdS3.of_rd (ss := ps.map partS) (Rd.of_own HR.out.own)) (List.length_map _) (by have := HN1.out; omega)
      rw [partsOf_S _ hok] at cl
      have CL := Lib.hid cl
      have HB := Lib.hid HR.out.below
      clear htk hok hlen cl hbl
      go_wp2_with fail
      refine CL.out.mono ?_
      rintro e w3 ⟨v, L, R, o, hen, rfl, hown, hb3⟩
      have HF := Lib.hid (And.intro (show Enc (letWay.all noneF (l.map UInt8.toNat)) L R o by rw [← HSP.out.2]; exact hen) (And.intro (own_more hown HB.out.size) (HB.out.trans (hb3.mono HB.out.size))))
      clear hen hown hb3 CL
      go_wp2
      go_ret
      exact ⟨v, L, R, o, HF.out.1, rfl, HF.out.2.1, HF.out.2.2⟩
set_option maxRecDepth 100000 in
theorem refBlCode_nil (A : Option Addr) (m : Nat) (w : World) : Calls Tryz.prog 22 #[.slice A (0 : Nat) m] w fun e w' => e = .returned (.slice none 0 0) ∧ w' = w := by
  go_enter Tryz.func22, Tryz.ntmps22
  go_wp2
  go_ret
  exact ⟨rfl, rfl⟩
set_option maxRecDepth 100000 in
theorem refAdapt_nil (A : Option Addr) (m : Nat) (w : World) : Calls Tryz.prog 21 #[.slice A (0 : Nat) m] w fun e w' => e = .returned (.slice none 0 0) ∧ w' = w := by
  go_enter Tryz.func21, Tryz.ntmps21
  go_wp2
  go_ret
  exact ⟨rfl, rfl⟩
theorem refCode_q {l Q : List UInt8} (hQ : BldQ bitWay newD l Q) (hl : l.length ≤ 200) (v : Value) (h : IsBytes l v w) : Calls Tryz.prog 22 #[v] w (NewBl w Q) := by
  obtain ⟨A, c, rfl, hc, hr⟩ := h
  rcases hQ with ⟨rfl, rfl⟩ | ⟨h1, T, hT, rfl, -⟩
  · refine (refBlCode_nil A c w).mono ?_
    rintro e w' ⟨rfl, rfl⟩
    exact ⟨_, rfl, nilBytes _, Below.refl _ _⟩
  · refine (refBlCode_any (m := c) hr rfl (List.length_pos_iff.2 h1) hl).mono ?_
    rintro e w' ⟨v, L, R, o, hen, rfl, hown, hb⟩
    rw [hT.one hen.bytes]
    exact ⟨v, rfl, own_bytes hown, hb⟩
theorem refAdapt_q {l Q : List UInt8} (hQ : BldQ letWay noneF l Q) (hl : l.length ≤ 200) (v : Value) (h : IsBytes l v w) : Calls Tryz.prog 21 #[v] w (NewBl w Q) := by
  obtain ⟨A, c, rfl, hc, hr⟩ := h
  rcases hQ with ⟨rfl, rfl⟩ | ⟨h1, T, hT, rfl, -⟩
  · refine (refAdapt_nil A c w).mono ?_
    rintro e w' ⟨rfl, rfl⟩
    exact ⟨_, rfl, nilBytes _, Below.refl _ _⟩
  · refine (refAdapt_any (m := c) hr rfl (List.length_pos_iff.2 h1) hl).mono ?_
    rintro e w' ⟨v, L, R, o, hen, rfl, hown, hb⟩
    rw [hT.one hen.bytes]
    exact ⟨v, rfl, own_bytes hown, hb⟩
end
end Go.Proofs.YtflcmmeoppdhdaaGreat
namespace Go.Proofs.YtflcmmeoppdhdaaGreat
open Go.RowKit Go.Sort Go.Shelf

section
variable {V : Nat} {l Q : List UInt8} {v : Value} {w : World}
set_option maxRecDepth 100000 in
set_option maxHeartbeats 1000000 in
theorem mdsRef_rice (hV : IsW V) (C : Calls Tryz.prog 19 #[v, .int .i64 (V : Int)] w (NewM w Q)) : Calls Tryz.prog 9 #[.int .i64 1, v, .int .i64 (V : Int)] w (SaysM w Q 0) := by
  have CR := Lib.hid (refRight_any (V : Int) true hV.right)
  have C1 := Lib.hid C
  clear C hV
  go_enter Tryz.func9, Tryz.ntmps9
  go_wp2_with fail
  refine (CR.out _).mono ?_
  rintro e w2 ⟨rfl, hw⟩
  subst hw
  go_wp2_with fail
  refine C1.out.mono ?_
  rintro e w3 ⟨v', rfl, hv, hb⟩
  have HV := Lib.hid (And.intro hv hb)
  clear hv hb
  go_wp2
  go_ret2
  exact ⟨v', rfl, HV.out⟩
set_option maxRecDepth 100000 in
set_option maxHeartbeats 1000000 in
theorem mdsRef_rans (hV : IsW V) (C : Calls Tryz.prog 20 #[v] w (NewM w Q)) : Calls Tryz.prog 9 #[.int .i64 2, v, .int .i64 (V : Int)] w (SaysM w Q 0) := by
  have CR := Lib.hid (refRight_any (V : Int) true hV.right)
  have C1 := Lib.hid C
  clear C hV
  go_enter Tryz.func9, Tryz.ntmps9
  go_wp2_with fail
  refine (CR.out _).mono ?_
  rintro e w2 ⟨rfl, hw⟩
  subst hw
  go_wp2_with fail
  refine C1.out.mono ?_
  rintro e w3 ⟨v', rfl, hv, hb⟩
  have HV := Lib.hid (And.intro hv hb)
  clear hv hb
  go_wp2
  go_ret2
  exact ⟨v', rfl, HV.out⟩
set_option maxRecDepth 100000 in
set_option maxHeartbeats 1000000 in
theorem mdsRef_adapt (hV : IsW V) (C : Calls Tryz.prog 21 #[v] w (NewM w Q)) : Calls Tryz.prog 9 #[.int .i64 3, v, .int .i64 (V : Int)] w (SaysM w Q 0) := by
  have CR := Lib.hid (refRight_any (V : Int) true hV.right)
  have C1 := Lib.hid C
  clear C hV
  go_enter Tryz.func9, Tryz.ntmps9
  go_wp2_with fail
  refine (CR.out _).mono ?_
  rintro e w2 ⟨rfl, hw⟩
  subst hw
  go_wp2_with fail
  refine C1.out.mono ?_
  rintro e w3 ⟨v', rfl, hv, hb⟩
  have HV := Lib.hid (And.intro hv hb)
  clear hv hb
  go_wp2
  go_ret2
  exact ⟨v', rfl, HV.out⟩
set_option maxRecDepth 100000 in
set_option maxHeartbeats 1000000 in
theorem mdsRef_blend (hV : IsW V) (C : Calls Tryz.prog 22 #[v] w (NewM w Q)) : Calls Tryz.prog 9 #[.int .i64 4, v, .int .i64 (V : Int)] w (SaysM w Q 0) := by
  have CR := Lib.hid (refRight_any (V : Int) true hV.right)
  have C1 := Lib.hid C
  clear C hV
  go_enter Tryz.func9, Tryz.ntmps9
  go_wp2_with fail
  refine (CR.out _).mono ?_
  rintro e w2 ⟨rfl, hw⟩
  subst hw
  go_wp2_with fail
  refine C1.out.mono ?_
  rintro e w3 ⟨v', rfl, hv, hb⟩
  have HV := Lib.hid (And.intro hv hb)
  clear hv hb
  go_wp2
  go_ret2
  exact ⟨v', rfl, HV.out⟩
set_option maxRecDepth 100000 in
set_option maxHeartbeats 1000000 in
theorem mdsRef_huff (hV : IsW V) (C : Calls Tryz.prog 23 #[v] w (NewM w Q)) : Calls Tryz.prog 9 #[.int .i64 5, v, .int .i64 (V : Int)] w (SaysM w Q 0) := by
  have CR := Lib.hid (refRight_any (V : Int) true hV.right)
  have C1 := Lib.hid C
  clear C hV
  go_enter Tryz.func9, Tryz.ntmps9
  go_wp2_with fail
  refine (CR.out _).mono ?_
  rintro e w2 ⟨rfl, hw⟩
  subst hw
  go_wp2_with fail
  refine C1.out.mono ?_
  rintro e w3 ⟨v', rfl, hv, hb⟩
  have HV := Lib.hid (And.intro hv hb)
  clear hv hb
  go_wp2
  go_ret2
  exact ⟨v', rfl, HV.out⟩
set_option maxRecDepth 100000 in
set_option maxHeartbeats 1000000 in
theorem mdsRef_stored (hV : IsW V) (h : IsBytes l v w) (hl : l.length ≤ 1000) : Calls Tryz.prog 9 #[.int .i64 0, v, .int .i64 (V : Int)] w (SaysM w l 0) := by
  have CR := Lib.hid (refRight_any (V : Int) true hV.right)
  obtain ⟨i0, hi, hz0, hz1, hz2⟩ := info_parts info_u8'
  obtain ⟨A, c, rfl, hc, hr⟩ := h
  obtain ⟨n, hn⟩ : ∃ n, l.length = n := ⟨_, rfl⟩
  rw [hn] at hl ⊢
  have HCL := Lib.hid (show (bvs l).length = n * 1 by rw [bvs_length, hn, Nat.mul_one])
  have HN := Lib.hid hn
  have HR := Lib.hid (hr.below ((Below.refl w.heap.size w).alloc (Nat.le_refl _) (.cells #[] 5)))
  clear hr hc hn
  go_enter Tryz.func9, Tryz.ntmps9
  go_wp2_with fail
  refine (CR.out _).mono ?_
  rintro e w2 ⟨rfl, hw⟩
  subst hw
  go_wp2_with ((with_reducible show wpList _ _ _ (({ dst := some 43, op := _, type := _, pos := _, after := _, guard := _ } : Oper) :: _) _ _); go_must (refine wpList_app rfl (.tmp 41) (.tmp 42) 22 rfl w.heap.size 5 i0 (.int .u8 0) 1 1 Tryz.underlying22 hi hz0 hz1 hz2 rfl (by decide) _ 0 [] rfl (World.ownsRow_made w #[] 0 (Nat.le_refl _) (Nat.zero_le _) rfl) w.heap.size _ n _ (bvs l) rfl HR.out HCL.out (bvs_one _) (by simp only [maxLen]; omega) (by omega) (by simp) ?_; intro v2 w2 hown2 hg2; rw [Nat.zero_add, List.nil_append] at hown2; have hb2 : Below w.heap.size w w2 := ((Below.refl _ _).alloc (Nat.le_refl _) _).grown hg2 (by simp) (own_block (World.ownsRow_made (e := 5) (size := 1) w #[] 0 (Nat.le_refl _) (Nat.zero_le _) rfl))))
  go_ret2
  exact ⟨_, rfl, IsBytes.of_own (by rw [HN.out]; exact hown2), hb2⟩
/-- **P27.1**: the reference's Code, by any mode. -/
theorem mdsRef_q {k : Nat} (hk : k ≤ 5) (hV : IsW V) (hQ : ModeQ k V l Q) (hl : l.length ≤ 200) (h : IsBytes l v w) : Calls Tryz.prog 9 #[.int .i64 (k : Int), v, .int .i64 (V : Int)] w (SaysM w Q 0) := by
  rcases (show k = 0 ∨ k = 1 ∨ k = 2 ∨ k = 3 ∨ k = 4 ∨ k = 5 by omega) with rfl | rfl | rfl | rfl | rfl | rfl
  · rw [show Q = l from hQ]
    exact mdsRef_stored hV h (by omega)
  · exact mdsRef_rice hV ((riceRCode_says (V : Int) h (by omega) hQ).mono fun _ _ => newBy_m)
  · exact mdsRef_rans hV (ransRef_q hQ (by omega) v w h)
  · exact mdsRef_adapt hV (refAdapt_q hQ hl v h)
  · exact mdsRef_blend hV (refCode_q hQ hl v h)
  · exact mdsRef_huff hV (huffRef_q hQ (by omega) v w h)
end
end Go.Proofs.YtflcmmeoppdhdaaGreat
namespace Go.Proofs.YtflcmmeoppdhdaaGreat
open Go.RowKit Go.Sort Go.Shelf

/-- The name of mode k. -/
def nmA : Nat → ByteArray
  | 0 => ⟨#[115, 116, 111, 114, 101, 100]⟩
  | 1 => ⟨#[114, 105, 99, 101]⟩
  | 2 => ⟨#[114, 97, 110, 115]⟩
  | 3 => ⟨#[97, 100, 97, 112, 116]⟩
  | 4 => ⟨#[98, 108, 101, 110, 100]⟩
  | 5 => ⟨#[104, 117, 102, 102]⟩
  | _ => ⟨#[97, 117, 116, 111]⟩
theorem size_names : (Tryz.prog.info? 28).map (·.size) = some 7 := by kernel_rfl
def namesV : Value := .agg #[.string (nmA 0), .string (nmA 1), .string (nmA 2), .string (nmA 3), .string (nmA 4), .string (nmA 5), .string (nmA 6)]
def namesL : List Value := [.string (nmA 0), .string (nmA 1), .string (nmA 2), .string (nmA 3), .string (nmA 4), .string (nmA 5), .string (nmA 6)]
theorem names_at {k : Nat} (hk : k < 7) : namesL[k]? = some (.string (nmA k)) := by
  rcases (show k = 0 ∨ k = 1 ∨ k = 2 ∨ k = 3 ∨ k = 4 ∨ k = 5 ∨ k = 6 by omega) with rfl | rfl | rfl | rfl | rfl | rfl | rfl <;> rfl
theorem names_idx {k : Nat} (hk : k < 7) (w : World) : (Instr.index 28 namesV (.int .i64 (k : Int))).run Tryz.prog w = .ok (.string (nmA k)) w := by
  rcases (show k = 0 ∨ k = 1 ∨ k = 2 ∨ k = 3 ∨ k = 4 ∨ k = 5 ∨ k = 6 by omega) with rfl | rfl | rfl | rfl | rfl | rfl | rfl
  all_goals kernel_rfl
set_option maxRecDepth 100000 in
set_option maxHeartbeats 1000000 in
theorem modeNames_any (w : World) : Calls Tryz.prog 24 #[] w fun e w' => e = .returned namesV ∧ Below w.heap.size w w' := by
  go_enter Tryz.func24, Tryz.ntmps24
  go_wp2
  exact bodyPost_ret (v := namesV) (results_cell_row Tryz.results24 _ _ w.heap.size 28 _ (0, 0) _ rfl (heap_alloc_new w _) Tryz.underlying28 rfl size_names) rfl ⟨rfl, (Below.refl _ _).alloc (Nat.le_refl _) _⟩
/-- The names as a row in new memory. -/
theorem names_row (w : World) : Blk (w.alloc (.cells #[.string (nmA 0), .string (nmA 1), .string (nmA 2), .string (nmA 3), .string (nmA 4), .string (nmA 5), .string (nmA 6)] 28)) w.heap.size 28 namesL ∧ Below w.heap.size w (w.alloc (.cells #[.string (nmA 0), .string (nmA 1), .string (nmA 2), .string (nmA 3), .string (nmA 4), .string (nmA 5), .string (nmA 6)] 28)) :=
  ⟨heap_alloc_new w _, (Below.refl _ _).alloc (Nat.le_refl _) _⟩
def nameOf (m : Int) : ByteArray := if 0 ≤ m ∧ m < 7 then nmA m.toNat else ⟨#[]⟩
set_option maxRecDepth 100000 in
set_option maxHeartbeats 1000000 in
theorem mdsName_any (m : Int) (w : World) : Calls Tryz.prog 12 #[.int .i64 m] w fun e w' => e = .returned (.string (nameOf m)) ∧ Below w.heap.size w w' := by
  have CN := Lib.hid modeNames_any
  unfold namesV at CN
  by_cases h : 0 ≤ m ∧ m < 7
  · have ho : nameOf m = nmA m.toNat := if_pos h
    obtain ⟨k, rfl⟩ := Int.eq_ofNat_of_zero_le h.1
    have ha := names_at (show k < 7 by omega)
    have h0 : ¬ (k : Int) < 0 := by omega
    have h1 : (k : Int) < 7 := h.2
    have h2 : decide ((k : Int) < 0) = false := by simp
    have h3 : decide (7 ≤ (k : Int)) = false := by simp; omega
    rw [Int.toNat_natCast] at ho
    rw [ho]
    obtain ⟨V, hV⟩ : ∃ V, V = nmA k := ⟨_, rfl⟩
    rw [← hV] at ha ⊢
    have HA := Lib.hid ha
    clear hV ha ho h
    go_enter Tryz.func12, Tryz.ntmps12
    go_wp2_with fail
    refine (CN.out _).mono ?_
    rintro e w1 ⟨rfl, hb⟩
    obtain ⟨hr2, hb2⟩ := names_row w1
    have hc := hr2.cell k
    rw [HA.out] at hc
    have HB2 := Lib.hid (hb.trans (hb2.mono hb.size))
    clear hr2 hb2 hb
    go_wp2
    go_ret
    exact ⟨rfl, HB2.out⟩
  · have ho : nameOf m = ⟨#[]⟩ := if_neg h
    rw [ho]
    have h2 : (decide (m < 0) || decide (7 ≤ m)) = true := by
      by_cases h : m < 0
      · simp [h]
      · simp [show (7 : Int) ≤ m by omega]
    clear h ho
    go_enter Tryz.func12, Tryz.ntmps12
    go_wp2_with fail
    refine (CN.out _).mono ?_
    rintro e w1 ⟨rfl, hb⟩
    obtain ⟨hr2, hb2⟩ := names_row w1
    have HB2 := Lib.hid (hb.trans (hb2.mono hb.size))
    clear hr2 hb2 hb
    go_wp2
    all_goals
      go_ret
      exact ⟨rfl, HB2.out⟩
/-- Of seven modes p has this name (7: none). -/
def NameAt (s : ByteArray) (p : Nat) : Prop := p ≤ 7 ∧ ∀ k, k < 7 → ((nmA k).toList == s.toList) = decide (k = p)
theorem nmA_apart : ∀ k, k < 7 → ∀ j, j < 7 → ((nmA k).data.toList == (nmA j).data.toList) = decide (k = j) := by decide
theorem nameAt_self {p : Nat} (hp : p < 7) : NameAt (nmA p) p := ⟨by omega, fun k hk => by rw [ByteArray.toList_eq, ByteArray.toList_eq]; exact nmA_apart k hk p hp⟩
set_option maxRecDepth 100000 in
set_option maxHeartbeats 2000000 in
theorem mdsFind_any {s : ByteArray} {p : Nat} (hp : NameAt s p) (w : World) : Calls Tryz.prog 11 #[.string s] w fun e w' => e = .returned (.tuple #[.int .i64 ((if p < 7 then p else 0 : Nat) : Int), .bool (decide (p < 7))]) ∧ Below w.heap.size w w' := by
  have CN := Lib.hid modeNames_any
  have HP := Lib.hid hp
  obtain ⟨N, hN⟩ : ∃ N, N = namesV := ⟨_, rfl⟩
  obtain ⟨a, ha⟩ : ∃ a : Nat, a = if p < 7 then p else 0 := ⟨_, rfl⟩
  obtain ⟨d, hd⟩ : ∃ d : Bool, d = decide (p < 7) := ⟨_, rfl⟩
  have HX := Lib.hid (fun (k : Nat) (hk : k < 7) (w : World) => names_idx hk w)
  rw [← hN] at CN HX
  rw [← ha, ← hd]
  have HA := Lib.hid (And.intro ha hd)
  clear hN hp ha hd
  go_enter Tryz.func11, Tryz.ntmps11
  go_wp2_with fail
  refine (CN.out _).mono ?_
  rintro e w1 ⟨rfl, hb⟩
  have HB := Lib.hid hb
  clear hb
  go_wp2
  go_loopw [7] (fun i wr => ∃ k : Nat, k ≤ 7 ∧ i = .int .i64 (k : Int) ∧ k ≤ p ∧ wr = w1) (fun i _ => 7 - (intOf i).toNat)
  case atStart => exact ⟨0, by decide, rfl, Nat.zero_le _, rfl⟩
  case round =>
    obtain ⟨k, hk, rfl, hkp, rfl⟩ := hrel
    have HK := Lib.hid hkp
    clear hkp
    by_cases hlt : k < 7
    · have hx := HX.out k hlt wr
      have he := HP.out.2 k hlt
      obtain ⟨x, hx2⟩ : ∃ x, x = nmA k := ⟨_, rfl⟩
      rw [← hx2] at hx he
      have hki : (k : Int) < 7 := by omega
      clear hx2
      by_cases hpk : k = p
      · have heq : (x.toList == s.toList) = true := by rw [he]; simp [hpk]
        have hp7 : p < 7 := by omega
        have HPK := Lib.hid hpk
        have HP7 := Lib.hid hp7
        clear he hp7 hpk
        go_wp2
        go_ret2
        refine ⟨?_, HB.out⟩
        rw [HA.out.1, HA.out.2, if_pos HP7.out, HPK.out]
        simp [HP7.out]
      · have heq : (x.toList == s.toList) = false := by rw [he]; simp [hpk]
        have HN := Lib.hid hpk
        clear he hpk
        go_wp2
        go_roundw
        case rel => exact ⟨k + 1, by omega, by go_num, by have := HK.out; have := HN.out; omega, trivial⟩
        case measure => simp [intOf]; omega
    · obtain rfl : k = 7 := by omega
      have hp7 : p = 7 := by have := HP.out.1; have := HK.out; omega
      have HP7 := Lib.hid hp7
      clear hp7
      go_wp2
      go_ret2
      refine ⟨?_, HB.out⟩
      rw [HA.out.1, HA.out.2, HP7.out]
      rfl
end Go.Proofs.YtflcmmeoppdhdaaGreat
namespace Go.Proofs.YtflcmmeoppdhdaaGreat
open Go.RowKit Go.Sort Go.Shelf

theorem rd_newM (w : World) (cs : Array Value) (t : TypeId) (fr : Nat × Nat) : Rd (w.alloc (.cells cs t fr)) (w.alloc (.cells cs t fr)).heap.size (some ⟨w.heap.size, 0, none⟩) cs.toList := fun k u hu => by
  refine ⟨w.heap.size, 0, rfl, by simp, ?_⟩
  rw [Nat.zero_add, World.cell?_alloc_mark]
  rw [← hu]; simp
set_option maxRecDepth 100000 in
set_option maxHeartbeats 2000000 in
theorem mdsKnown_any (w : World) : Calls Tryz.prog 7 #[] w (Yes w) := by
  have C1 : Hid (∀ (v : Value) (W' : World), IsBytes [97] v W' → Calls Tryz.prog 8 #[.int .i64 0, v, .int .i64 1] W' (SaysM W' [97] 0)) := fun v W' h =>
    mdsCode_any (k := 0) (by decide) (V := 1) (.inl rfl) (v := v) (fun W2 hb => theyCode_any (l := [97]) 1 (h.grow hb) (by decide))
  have C2 := Lib.hid (mdsFind_any (nameAt_self (p := 4) (by decide)))
  have C3 := Lib.hid (mdsName_any 2)
  rw [show nameOf 2 = (⟨#[114, 97, 110, 115]⟩ : ByteArray) from rfl] at C3
  rw [show nmA 4 = (⟨#[98, 108, 101, 110, 100]⟩ : ByteArray) from rfl] at C2
  have hcv := fun (w : World) (C : Array Value) (n c : Nat) => Lib.run_convert_bytes_const (P := Tryz.prog) w 22 5 C n c Tryz.underlying22 Tryz.underlying5
  go_enter Tryz.func7, Tryz.ntmps7
  go_wp2_with fail
  have hk : IsBytes [97] (.slice (some ⟨w.heap.size, 0, none⟩) 1 1) (w.alloc (.cells #[.int .u8 97] 5 (1, 2))) := ⟨_, 1, rfl, by decide, rd_newM w #[.int .u8 97] _ _⟩
  refine (C1.out _ _ hk).mono ?_
  rintro e w1 ⟨v, rfl, hv, hb⟩
  have HV := Lib.hid hv
  have HB := Lib.hid (((Below.refl _ _).alloc (Nat.le_refl _) _).trans (hb.mono (by simp)))
  clear hv hb C1 hk hcv
  go_wp2_with fail
  refine (C2.out _).mono ?_
  rintro e w2 ⟨rfl, hb⟩
  have HV2 := Lib.hid (HV.out.grow hb)
  have HB2 := Lib.hid (HB.out.trans (hb.mono HB.out.size))
  clear hb
  go_wp2_with ((with_reducible show wpList _ _ _ (({ dst := some 19, op := _, type := _, pos := _, after := _, guard := _ } : Oper) :: _) _ _); go_must (refine wpList_strW rfl 22 9 5 (.tmp 18) rfl Tryz.underlying22 Tryz.underlying5 Tryz.underlying9 _ HV2.out ?_))
  refine (C3.out _).mono ?_
  rintro e w3 ⟨rfl, hb⟩
  have HB3 := Lib.hid (HB2.out.trans (hb.mono HB2.out.size))
  clear hb
  go_wp2
  go_ret
  exact ⟨rfl, HB3.out⟩
end Go.Proofs.YtflcmmeoppdhdaaGreat
