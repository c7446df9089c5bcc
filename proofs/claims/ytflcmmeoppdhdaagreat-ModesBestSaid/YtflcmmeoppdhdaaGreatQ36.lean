/-
  Layer 25: the reference's model: keys, chances, P. · Layer 25: the reference's model: Seen and New.
-/
import Derived.Test.YtflcmmeoppdhdaaGreatQ30
import Derived.Test.YtflcmmeoppdhdaaGreatQ35
namespace Go.Proofs.YtflcmmeoppdhdaaGreat
open Go.RowKit Go.Sort

/-- A plain bank whose row lies in block g. -/
structure GBank (w : World) (M g bits n m : Nat) (R : List Nat) : Prop where
  mb : Blk w M 169 [.int .i64 (bits : Int), .slice (some ⟨g, 0, none⟩) n m]
  own : w.ownsRow g 3 1 (.slice (some ⟨g, 0, none⟩) n m) n (ivsN R)
  row : RowC n R
  pow : n = 2 ^ bits
  lo : 1 ≤ bits ∧ bits ≤ 16
theorem own_atM {w : World} {B g n m size : Nat} {t : TypeId} {xs : List Value} (h : w.ownsRow B t size (.slice (some ⟨g, 0, none⟩) n m) n xs) (B' : Nat) (hB : B' ≤ g) : w.ownsRow B' t size (.slice (some ⟨g, 0, none⟩) n m) n xs := by
  refine ⟨h.1, ?_⟩
  rcases h.2 with ⟨h0, _⟩ | ⟨g', cap, cur, e, _, rest⟩
  · cases h0
  · refine .inr ⟨g', cap, cur, e, ?_, rest⟩
    injection e with e _ _
    injection e with e
    injection e with e _ _
    omega
theorem own_onlyS {w w' : World} {S : List Nat} {B g n m size : Nat} {t : TypeId} {xs : List Value} (h : w.ownsRow B t size (.slice (some ⟨g, 0, none⟩) n m) n xs) (hu : OnlyS S w w') (hg : g ∉ S) : w'.ownsRow B t size (.slice (some ⟨g, 0, none⟩) n m) n xs := by
  refine ⟨h.1, ?_⟩
  rcases h.2 with ⟨h0, _⟩ | ⟨g', cap, cur, e, hb, hg', rest⟩
  · cases h0
  · refine .inr ⟨g', cap, cur, e, hb, ?_, rest⟩
    injection e with e _ _
    injection e with e
    injection e with e _ _
    subst e
    exact (hu.block _ (Array.getElem?_eq_some_iff.1 hg').1 hg).trans hg'
theorem own_lt {w : World} {B g n m size : Nat} {t : TypeId} {xs : List Value} (h : w.ownsRow B t size (.slice (some ⟨g, 0, none⟩) n m) n xs) : g < w.heap.size := by
  rcases h.2 with ⟨h0, _⟩ | ⟨g', cap, cur, e, hb, hg', rest⟩
  · cases h0
  · injection e with e _ _
    injection e with e
    injection e with e _ _
    subst e
    exact (Array.getElem?_eq_some_iff.1 hg').1
section
variable {w w' : World} {M g bits n m : Nat} {R : List Nat} {S : List Nat}
theorem GBank.rb (h : GBank w M g bits n m R) : RBank w 0 M bits n (.slice (some ⟨g, 0, none⟩) n m) R := ⟨h.mb, own_atM h.own 0 (Nat.zero_le _), h.row, h.pow, h.lo, Nat.zero_le _⟩
theorem GBank.of {B : Nat} (h : RBank w B M bits n (.slice (some ⟨g, 0, none⟩) n m) R) : GBank w M g bits n m R := ⟨h.mb, own_atM h.own g (Nat.le_refl _), h.row, h.pow, h.lo⟩
theorem GBank.only (h : GBank w M g bits n m R) (hu : OnlyS S w w') (h1 : M ∉ S) (h2 : g ∉ S) : GBank w' M g bits n m R := ⟨hu.blk h.mb h1, own_onlyS h.own hu h2, h.row, h.pow, h.lo⟩
end
/-- Where the parts of a plain model lie: itself, its banks and their rows. -/
structure RefA where
  M : Nat
  M1 : Nat
  g1 : Nat
  m1 : Nat
  M2 : Nat
  g2 : Nat
  m2 : Nat
  M3 : Nat
  g3 : Nat
  m3 : Nat
def RefA.all (r : RefA) : List Nat := [r.M, r.g1, r.g2, r.g3]
def RefA.every (r : RefA) : List Nat := [r.M, r.g1, r.g2, r.g3, r.M1, r.M2, r.M3]
def refC (r : RefA) (gw mw : Nat) (p : PosD) : List Value := [.int .i64 (p.node : Int), .int .i64 (p.last : Int), .int .i64 (p.ahead : Int), .pointer (some ⟨r.M1, 0, none⟩), .pointer (some ⟨r.M2, 0, none⟩), .pointer (some ⟨r.M3, 0, none⟩), .slice (some ⟨gw, 0, none⟩) 3 mw]
/-- A plain model lies there, and knows s. -/
structure IsRef (w : World) (r : RefA) (gw mw : Nat) (s : ModD) : Prop where
  mb : Blk w r.M 113 (refC r gw mw s.p)
  b1 : GBank w r.M1 r.g1 9 512 r.m1 s.A
  b2 : GBank w r.M2 r.g2 11 2048 r.m2 s.B
  b3 : GBank w r.M3 r.g3 13 8192 r.m3 s.C
  wo : w.ownsRow gw 3 1 (.slice (some ⟨gw, 0, none⟩) 3 mw) 3 (zvs s.W)
  ok : s.ok
  n : r.g1 ≠ r.g2 ∧ r.g1 ≠ r.g3 ∧ r.g2 ≠ r.g3 ∧ gw ≠ r.g1 ∧ gw ≠ r.g2 ∧ gw ≠ r.g3
/-- A slice of three. -/
def IsL3 (xs : List Value) (v : Value) (w : World) : Prop := ∃ A c, v = .slice A 3 c ∧ Rd w w.heap.size A xs
theorem IsL3.grow (xs : List Value) : ∀ v w w', IsL3 xs v w → Below w.heap.size w w' → IsL3 xs v w' := fun _ _ _ ⟨A, c, hv, hr⟩ hb => ⟨A, c, hv, (hr.below hb).more hb.size⟩
section
variable {w w' : World} {r : RefA} {gw mw : Nat} {s : ModD} {S : List Nat}
theorem IsRef.only (h : IsRef w r gw mw s) (hu : OnlyS S w w') (hd : ∀ k ∈ r.every, k ∉ S) (hw : gw ∉ S) : IsRef w' r gw mw s := by
  simp only [RefA.every, List.mem_cons, List.not_mem_nil, or_false, forall_eq_or_imp, forall_eq] at hd
  obtain ⟨d1, d2, d3, d4, d5, d6, d7⟩ := hd
  exact ⟨hu.blk h.mb d1, h.b1.only hu d5 d2, h.b2.only hu d6 d3, h.b3.only hu d7 d4, own_onlyS h.wo hu hw, h.ok, h.n⟩
theorem IsRef.grow (h : IsRef w r gw mw s) (hb : Below w.heap.size w w') : IsRef w' r gw mw s := h.only (S := []) (OnlyS.of_below hb) (fun _ _ => List.not_mem_nil) List.not_mem_nil
set_option maxRecDepth 100000 in
set_option maxHeartbeats 1000000 in
theorem refKeys_any {gw mw : Nat} {p : PosD} (hb : Blk w r.M 113 (refC r gw mw p)) (ho : p.ok) :
    Calls Tryz.prog 71 #[.pointer (some ⟨r.M, 0, none⟩)] w fun e w' => e = .returned (keysV p) ∧ Below w.heap.size w w' := by
  obtain ⟨o1, o2, o3, o4⟩ := ho
  unfold keysV PosD.k1 PosD.k2 PosD.k3
  unfold refC at hb
  obtain ⟨n, l, h⟩ := p
  simp only at *
  obtain ⟨w1, hw1⟩ : ∃ w1, w1 = w.alloc (.cells #[.int .u32 0, .int .u32 0, .int .u32 0] 117) := ⟨_, rfl⟩
  have hb1 := hb.alloc_ (.cells #[.int .u32 0, .int .u32 0, .int .u32 0] 117)
  have hr1 : Blk (w.alloc (.cells #[.int .u32 0, .int .u32 0, .int .u32 0] 117)) w.heap.size 117 [.int .u32 0, .int .u32 0, .int .u32 0] := heap_alloc_new w _
  have hbel := (Below.refl w.heap.size w).alloc (Nat.le_refl _) (.cells #[.int .u32 0, .int .u32 0, .int .u32 0] 117)
  have c0 := hb1.cell 0
  have c1 := hb1.cell 1
  have c2 := hb1.cell 2
  simp only [List.getElem?_cons_zero, List.getElem?_cons_succ] at c0 c1 c2
  rw [← hw1] at hr1 hbel
  obtain ⟨g, hg⟩ : ∃ g, g = w.heap.size := ⟨_, rfl⟩
  have HC := Lib.hid (show w1.cell? ⟨r.M, 0, none⟩ = _ ∧ w1.cell? ⟨r.M, 1, none⟩ = _ ∧ w1.cell? ⟨r.M, 2, none⟩ = _ by rw [hw1]; exact ⟨c0, c1, c2⟩)
  have HR := Lib.hid (show Blk w1 g 117 [.int .u32 0, .int .u32 0, .int .u32 0] by rw [hg]; exact hr1)
  have HBL := Lib.hid (And.intro hbel (Nat.le_of_eq hg.symm))
  have HW := Lib.hid (And.intro hw1 hg)
  clear hb hb1 hr1 hbel hw1 hg
  go_enter Tryz.func71, Tryz.ntmps71
  go_wp2
  rw [← HW.out.1, ← HW.out.2]
  clear c0 c1 c2
  obtain ⟨c0, c1, c2⟩ := HC.out
  have hr := HR.out
  have d0 := hr.cell 0
  have d1 := hr.cell 1
  have d2 := hr.cell 2
  have f0 := hr.frozen 0
  have f1 := hr.frozen 1
  have f2 := hr.frozen 2
  simp only [List.getElem?_cons_zero, List.getElem?_cons_succ] at d0 d1 d2
  clear hr
  go_quiet (fail)
  generalize nq = nq1
  go_wp2
  go_quiet (fail)
  go_wp2
  have hfin := ((((HR.out.same (show (w1.drewN (nq1 + nq)).heap = w1.heap from rfl)).set_ 0 (.int .u32 (n : Int))).set_ 1 (.int .u32 (65536 + 256 * (l : Int) + (n : Int)))).set_ 2 (.int .u32 (16777216 + 65536 * (h : Int) + 256 * (l : Int) + (n : Int))))
  refine bodyPost_ret (v := .agg #[.int .u32 (n : Int), .int .u32 (65536 + 256 * (l : Int) + (n : Int)), .int .u32 (16777216 + 65536 * (h : Int) + 256 * (l : Int) + (n : Int))]) (results_cell_row Tryz.results71 _ _ g 117 _ (0, 0) _ rfl hfin Tryz.underlying117 rfl size_keys) rfl ⟨?_, ?_⟩
  · rw [show ((65536 + 256 * l + n : Nat) : Int) = 65536 + 256 * (l : Int) + (n : Int) by omega, show ((16777216 + 65536 * h + 256 * l + n : Nat) : Int) = 16777216 + 65536 * (h : Int) + 256 * (l : Int) + (n : Int) by omega]
  · exact (((below_drewn HBL.out.1).setCell (p := ⟨g, 0, none⟩) HBL.out.2 _).setCell (p := ⟨g, 1, none⟩) HBL.out.2 _).setCell (p := ⟨g, 2, none⟩) HBL.out.2 _
set_option maxRecDepth 100000 in
set_option maxHeartbeats 2000000 in
theorem refChances_any (h : IsRef w r gw mw s) :
    Calls Tryz.prog 70 #[.pointer (some ⟨r.M, 0, none⟩)] w fun e w' => ∃ v, e = .returned v ∧ IsL3 (zvs s.ch) v w' ∧ Below w.heap.size w w' := by
  have CK := Lib.hid (refKeys_any h.mb h.ok.pos)
  have CP1 := Lib.hid (fun (W : World) (hb : Below w.heap.size w W) => cP_any s.p.k1 (h.grow hb).b1.rb (by have := h.ok.pos.n2; unfold PosD.k1; omega))
  have CP2 := Lib.hid (fun (W : World) (hb : Below w.heap.size w W) => cP_any s.p.k2 (h.grow hb).b2.rb h.ok.pos.k2_lt)
  have CP3 := Lib.hid (fun (W : World) (hb : Below w.heap.size w W) => cP_any s.p.k3 (h.grow hb).b3.rb h.ok.pos.k3_lt)
  have hch : zvs s.ch = [.int .i64 ((s.A.getD (placeC s.p.k1 9) 0 : Nat) : Int), .int .i64 ((s.B.getD (placeC s.p.k2 11) 0 : Nat) : Int), .int .i64 ((s.C.getD (placeC s.p.k3 13) 0 : Nat) : Int)] := rfl
  obtain ⟨xs, hxs⟩ : ∃ xs, xs = zvs s.ch := ⟨_, rfl⟩
  rw [← hxs] at hch ⊢
  obtain ⟨c1, hc1⟩ : ∃ c, c = s.A.getD (placeC s.p.k1 9) 0 := ⟨_, rfl⟩
  obtain ⟨c2, hc2⟩ : ∃ c, c = s.B.getD (placeC s.p.k2 11) 0 := ⟨_, rfl⟩
  obtain ⟨c3, hc3⟩ : ∃ c, c = s.C.getD (placeC s.p.k3 13) 0 := ⟨_, rfl⟩
  rw [← hc1] at CP1 hch
  rw [← hc2] at CP2 hch
  rw [← hc3] at CP3 hch
  subst hch
  obtain ⟨k1, hk1⟩ : ∃ k, k = s.p.k1 := ⟨_, rfl⟩
  obtain ⟨k2, hk2⟩ : ∃ k, k = s.p.k2 := ⟨_, rfl⟩
  obtain ⟨k3, hk3⟩ : ∃ k, k = s.p.k3 := ⟨_, rfl⟩
  unfold keysV at CK
  rw [← hk1] at CP1 CK
  rw [← hk2] at CP2 CK
  rw [← hk3] at CP3 CK
  have H := Lib.hid h.mb
  clear h hk1 hk2 hk3 hc1 hc2 hc3 hxs
  go_enter Tryz.func70, Tryz.ntmps70
  go_wp2_with fail
  refine CK.out.mono ?_
  rintro e w1 ⟨rfl, hb1⟩
  obtain ⟨w2, hw2, hk2, hb2⟩ := row3 117 (.int .u32 (k1 : Int)) (.int .u32 (k2 : Int)) (.int .u32 (k3 : Int)) w1
  have hb12 := hb1.trans (hb2.mono hb1.size)
  have hm2 := H.out.grow hb12
  obtain ⟨gk, hgk⟩ : ∃ g, g = w1.heap.size := ⟨_, rfl⟩
  rw [← hgk] at hk2
  have HH := Lib.hid (And.intro hk2 (And.intro hm2 hb12))
  have HW := Lib.hid (And.intro hw2 hgk)
  clear hb1 hw2 hk2 hb2 hb12 hm2 hgk
  go_wp2
  rw [← HW.out.1, ← HW.out.2]
  refine wp_region_grow [⟨6, [], .is (.pointer (some ⟨r.M, 0, none⟩))⟩,
      ⟨7, [0], .is (.pointer (some ⟨r.M, 0, none⟩))⟩,
      ⟨8, [1], .is (.pointer (some ⟨r.M, 3, none⟩))⟩,
      ⟨9, [2], .is (.pointer (some ⟨r.M1, 0, none⟩))⟩,
      ⟨10, [], .is (.pointer (some ⟨gk, 0, none⟩))⟩,
      ⟨11, [4], .is (.int .u32 (k1 : Int))⟩,
      ⟨12, [3, 5], .is (.int .i64 (c1 : Int))⟩,
      ⟨13, [], .is (.pointer (some ⟨r.M, 0, none⟩))⟩,
      ⟨14, [7], .is (.pointer (some ⟨r.M, 0, none⟩))⟩,
      ⟨15, [8], .is (.pointer (some ⟨r.M, 4, none⟩))⟩,
      ⟨16, [9], .is (.pointer (some ⟨r.M2, 0, none⟩))⟩,
      ⟨17, [], .is (.pointer (some ⟨gk, 1, none⟩))⟩,
      ⟨18, [11], .is (.int .u32 (k2 : Int))⟩,
      ⟨19, [10, 12], .is (.int .i64 (c2 : Int))⟩,
      ⟨20, [], .is (.pointer (some ⟨r.M, 0, none⟩))⟩,
      ⟨21, [14], .is (.pointer (some ⟨r.M, 0, none⟩))⟩,
      ⟨22, [15], .is (.pointer (some ⟨r.M, 5, none⟩))⟩,
      ⟨23, [16], .is (.pointer (some ⟨r.M3, 0, none⟩))⟩,
      ⟨24, [], .is (.pointer (some ⟨gk, 2, none⟩))⟩,
      ⟨25, [18], .is (.int .u32 (k3 : Int))⟩,
      ⟨26, [17, 19], .is (.int .i64 (c3 : Int))⟩,
      ⟨27, [6, 13, 20], .cells [.int .i64 (c1 : Int), .int .i64 (c2 : Int), .int .i64 (c3 : Int)]⟩,
      ⟨2, [21], .cells [.int .i64 (c1 : Int), .int .i64 (c2 : Int), .int .i64 (c3 : Int)]⟩]
      [(0, .pointer (some ⟨r.M, 0, none⟩)), (3, .pointer (some ⟨gk, 0, none⟩))] (by kernel_rfl) (by kernel_rfl) (by kernel_rfl) (by kernel_rfl) (by kernel_rfl) ⟨rfl, rfl, trivial⟩ ?_ ?_
  · repeat' (first | exact OblGAll.nil | refine OblGAll.cons ?_ ?_)
    all_goals (intro ev yi w' hB hc hf ho hn; simp only [OutsSay, NeedSay, rowAt, Fact.says, and_true] at ho hn)
    all_goals (have hm := HH.out.2.1.grow hB; have hk := HH.out.1.grow hB; have q3 := hm.cell 3; have q4 := hm.cell 4; have q5 := hm.cell 5; have z0 := hk.cell 0; have z1 := hk.cell 1; have z2 := hk.cell 2; simp only [refC, List.getElem?_cons_zero, List.getElem?_cons_succ] at q3 q4 q5 z0 z1 z2; have hbw := HH.out.2.2.trans (hB.mono HH.out.2.2.size); clear hm hk)
    all_goals (try ((simp [OpSays, execOp, Region.wanted, Fact.says, go_sem, ho, hn, hc, Below.refl, q3, q4, q5, z0, z1, z2]; done)))
    · rw [if_pos (by simp [Region.wanted])]
      exact says_call Tryz.call107 (vs := #[.pointer (some ⟨r.M1, 0, none⟩), .int .u32 (k1 : Int)]) rfl hf (by simp [hn]) ((CP1.out w' hbw).mono fun e w2 ⟨h1, j, h2⟩ => ⟨_, h1, rfl, by rw [h2]; exact below_drawn _ _⟩)
    · rw [if_pos (by simp [Region.wanted])]
      exact says_call Tryz.call107 (vs := #[.pointer (some ⟨r.M2, 0, none⟩), .int .u32 (k2 : Int)]) rfl hf (by simp [hn]) ((CP2.out w' hbw).mono fun e w2 ⟨h1, j, h2⟩ => ⟨_, h1, rfl, by rw [h2]; exact below_drawn _ _⟩)
    · rw [if_pos (by simp [Region.wanted])]
      exact says_call Tryz.call107 (vs := #[.pointer (some ⟨r.M3, 0, none⟩), .int .u32 (k3 : Int)]) rfl hf (by simp [hn]) ((CP3.out w' hbw).mono fun e w2 ⟨h1, j, h2⟩ => ⟨_, h1, rfl, by rw [h2]; exact below_drawn _ _⟩)
    · rw [if_pos (by simp [Region.wanted])]
      simp [OpSays, execOp, Fact.says, go_sem, hn]
      exact ⟨⟨_, 3, rfl, Nat.le_refl _, Rd.new w' _ _⟩, (Below.refl _ _).alloc (Nat.le_refl _) _⟩
  · intro X w4 hb4 hx
    have hlast : IsCells [.int .i64 (c1 : Int), .int .i64 (c2 : Int), .int .i64 (c3 : Int)] (X 22) w4 := hx 22 (by show 22 < 23; decide)
    clear hx
    have HL := Lib.hid hlast
    have HB4 := Lib.hid (HH.out.2.2.trans (hb4.mono HH.out.2.2.size))
    clear hlast hb4
    simp only [layAll, List.setIfInBounds_toArray, List.set_cons_succ, List.set_cons_zero]
    go_wp2
    go_ret
    obtain ⟨A, c, hv, hc, hr⟩ := HL.out
    exact ⟨_, rfl, ⟨A, c, hv, hr⟩, HB4.out⟩
theorem IsRef.w3 (h : IsRef w r gw mw s) (hb : Below w.heap.size w w') : Rd w' w'.heap.size (some ⟨gw, 0, none⟩) (zvs s.W) := Rd.of_own (h.grow hb).wo
set_option maxRecDepth 100000 in
set_option maxHeartbeats 2000000 in
theorem refP_any (h : IsRef w r gw mw s) :
    Calls Tryz.prog 40 #[.pointer (some ⟨r.M, 0, none⟩)] w fun e w' => e = .returned (.int .i64 s.chance) ∧ Below w.heap.size w w' := by
  have CC := Lib.hid (fun (W : World) (hb : Below w.heap.size w W) => refChances_any (h.grow hb))
  have CP := Lib.hid (fun (W : World) (hb : Below w.heap.size w W) A c (hr : Rd W W.heap.size A (zvs s.ch)) => xP_any (m := mw) (m' := c) h.ok.w (by decide) (h.w3 hb) hr s.ch_len)
  have HM := Lib.hid h.mb
  have hp : mixM s.W s.ch = s.chance := rfl
  rw [hp] at CP
  obtain ⟨xs, hxs⟩ : ∃ xs, xs = zvs s.ch := ⟨_, rfl⟩
  rw [← hxs] at CC CP
  obtain ⟨p, hpp⟩ : ∃ p, p = s.chance := ⟨_, rfl⟩
  rw [← hpp] at CP ⊢
  clear h hp hxs hpp
  go_enter Tryz.func40, Tryz.ntmps40
  go_wp2
  refine wp_region_grow [⟨3, [], .is (.pointer (some ⟨r.M, 0, none⟩))⟩,
      ⟨4, [0], .is (.pointer (some ⟨r.M, 0, none⟩))⟩,
      ⟨5, [1], .is (.pointer (some ⟨r.M, 6, none⟩))⟩,
      ⟨6, [2], .is (.slice (some ⟨gw, 0, none⟩) 3 mw)⟩,
      ⟨7, [], .is (.pointer (some ⟨r.M, 0, none⟩))⟩,
      ⟨8, [4], .such (IsL3 xs) (IsL3.grow xs)⟩,
      ⟨9, [3, 5], .is (.int .i64 p)⟩,
      ⟨2, [6], .is (.int .i64 p)⟩]
      [(0, .pointer (some ⟨r.M, 0, none⟩))] (by kernel_rfl) (by kernel_rfl) (by kernel_rfl) (by kernel_rfl) (by kernel_rfl) ⟨rfl, trivial⟩ ?_ ?_
  · repeat' (first | exact OblGAll.nil | refine OblGAll.cons ?_ ?_)
    all_goals (intro ev yi w' hB hc hf ho hn; simp only [OutsSay, NeedSay, rowAt, Fact.says, and_true] at ho hn)
    all_goals (have q6 := (HM.out.grow hB).cell 6; simp only [refC, List.getElem?_cons_zero, List.getElem?_cons_succ] at q6)
    all_goals (try ((simp [OpSays, execOp, Region.wanted, Fact.says, go_sem, ho, hn, Below.refl, q6]; done)))
    · rw [if_pos (by simp [Region.wanted])]
      exact says_call Tryz.call70 (vs := #[.pointer (some ⟨r.M, 0, none⟩)]) rfl hf (by simp [hn]) ((CC.out w' hB).mono fun e w2 ⟨v, h1, h2, h3⟩ => ⟨v, h1, h2, h3⟩)
    · rw [if_pos (by simp [Region.wanted])]
      obtain ⟨hn1, _, ⟨A, c, hv, hr⟩, _⟩ := hn
      exact says_call Tryz.call69 (vs := #[.slice (some ⟨gw, 0, none⟩) 3 mw, .slice A 3 c]) rfl hf (by simp [hn1, hv]) ((CP.out w' hB A c hr).mono fun e w2 ⟨h1, j, h2⟩ => ⟨_, h1, rfl, by rw [h2]; exact below_drawn _ _⟩)
  · intro X w4 hb4 hx
    have hlast : X 7 = .int .i64 p := hx 7 (by decide)
    clear hx
    have HL := Lib.hid hlast
    have HB4 := Lib.hid hb4
    clear hlast hb4
    simp only [layAll, List.setIfInBounds_toArray, List.set_cons_succ, List.set_cons_zero, Nat.zero_add, Nat.reduceAdd]
    rw [HL.out]
    go_wp2
    go_ret
    exact ⟨rfl, HB4.out⟩
end
end Go.Proofs.YtflcmmeoppdhdaaGreat
namespace Go.Proofs.YtflcmmeoppdhdaaGreat
open Go.RowKit Go.Sort

theorem own_some {w : World} {B n size : Nat} {t : TypeId} {v : Value} {xs : List Value} (h : w.ownsRow B t size v n xs) (hn : 0 < n) : ∃ g m, v = .slice (some ⟨g, 0, none⟩) n m ∧ B ≤ g := by
  obtain ⟨A, m, rfl, -, -, hform⟩ := own_form h
  rcases hform with h0 | ⟨g, rfl, hg, -⟩
  · omega
  · exact ⟨g, m, rfl, hg⟩
theorem blk_own_ne {w : World} {M B g n m : Nat} {t : TypeId} {cs xs : List Value} (h : Blk w M t cs) (ho : w.ownsRow B 3 1 (.slice (some ⟨g, 0, none⟩) n m) n xs) (hne : t ≠ 3) : M ≠ g := fun e => own_ne h ho hne g rfl e.symm
/-- What holds while a plain model's banks follow. -/
structure RefJ (w wr : World) (r : RefA) (gw mw : Nat) (s : ModD) (W : List Int) (gk : Nat) (A B C : List Nat) : Prop where
  mb : Blk wr r.M 113 (refC r gw mw s.p)
  b1 : GBank wr r.M1 r.g1 9 512 r.m1 A
  b2 : GBank wr r.M2 r.g2 11 2048 r.m2 B
  b3 : GBank wr r.M3 r.g3 13 8192 r.m3 C
  wo : wr.ownsRow gw 3 1 (.slice (some ⟨gw, 0, none⟩) 3 mw) 3 (zvs W)
  kb : Blk wr gk 117 [.int .u32 (s.p.k1 : Int), .int .u32 (s.p.k2 : Int), .int .u32 (s.p.k3 : Int)]
  on : OnlyS r.all w wr
  n : r.g1 ≠ r.g2 ∧ r.g1 ≠ r.g3 ∧ r.g2 ≠ r.g3 ∧ gw ≠ r.g1 ∧ gw ≠ r.g2 ∧ gw ≠ r.g3
  new : w.heap.size ≤ gw
section
variable {w w' wr : World} {r : RefA} {gw mw gk : Nat} {s : ModD} {S : List Nat} {W : List Int} {A B C R : List Nat}
theorem GBank.turned {M g bits n m M' g' bits' n' m' : Nat} {R R' : List Nat} (h : GBank w M g bits n m R) (h' : GBank w M' g' bits' n' m' R') (hu : TurnsB g' g' w w') (hne : g ≠ g') : GBank w' M g bits n m R :=
  h.only (OnlyS.of_turns hu (List.mem_singleton.2 rfl)) (ne_one (blk_own_ne h.mb h'.own (by decide))) (ne_one hne)
theorem RefJ.rest (h : RefJ w wr r gw mw s W gk A B C) {M g bits n m : Nat} (hb : GBank wr M g bits n m R) (hu : TurnsB g g wr w') (hg : g ∈ r.all) (hw : gw ≠ g) :
    Blk w' r.M 113 (refC r gw mw s.p) ∧ w'.ownsRow gw 3 1 (.slice (some ⟨gw, 0, none⟩) 3 mw) 3 (zvs W) ∧ Blk w' gk 117 [.int .u32 (s.p.k1 : Int), .int .u32 (s.p.k2 : Int), .int .u32 (s.p.k3 : Int)] ∧ OnlyS r.all w w' :=
  have ho : OnlyS [g] wr w' := OnlyS.of_turns hu (List.mem_singleton.2 rfl)
  ⟨ho.blk h.mb (ne_one (blk_own_ne h.mb hb.own (by decide))), own_onlyS h.wo ho (ne_one hw), ho.blk h.kb (ne_one (blk_own_ne h.kb hb.own (by decide))), h.on.trans (OnlyS.of_turns hu hg)⟩
theorem RefJ.one (h : RefJ w wr r gw mw s W gk A B C) (hb : GBank w' r.M1 r.g1 9 512 r.m1 R) (hu : TurnsB r.g1 r.g1 wr w') : RefJ w w' r gw mw s W gk R B C :=
  have q := h.rest h.b1 hu (by simp [RefA.all]) h.n.2.2.2.1
  ⟨q.1, hb, h.b2.turned h.b1 hu h.n.1.symm, h.b3.turned h.b1 hu h.n.2.1.symm, q.2.1, q.2.2.1, q.2.2.2, h.n, h.new⟩
theorem RefJ.two (h : RefJ w wr r gw mw s W gk A B C) (hb : GBank w' r.M2 r.g2 11 2048 r.m2 R) (hu : TurnsB r.g2 r.g2 wr w') : RefJ w w' r gw mw s W gk A R C :=
  have q := h.rest h.b2 hu (by simp [RefA.all]) h.n.2.2.2.2.1
  ⟨q.1, h.b1.turned h.b2 hu h.n.1, hb, h.b3.turned h.b2 hu h.n.2.2.1.symm, q.2.1, q.2.2.1, q.2.2.2, h.n, h.new⟩
theorem RefJ.three (h : RefJ w wr r gw mw s W gk A B C) (hb : GBank w' r.M3 r.g3 13 8192 r.m3 R) (hu : TurnsB r.g3 r.g3 wr w') : RefJ w w' r gw mw s W gk A B R :=
  have q := h.rest h.b3 hu (by simp [RefA.all]) h.n.2.2.2.2.2
  ⟨q.1, h.b1.turned h.b3 hu h.n.2.1, h.b2.turned h.b3 hu h.n.2.2.1, hb, q.2.1, q.2.2.1, q.2.2.2, h.n, h.new⟩
theorem RefJ.same (h : RefJ w wr r gw mw s W gk A B C) (e : w'.heap = wr.heap) (ho : OnlyS r.all w w') : RefJ w w' r gw mw s W gk A B C :=
  ⟨h.mb.same e, GBank.of (h.b1.rb.same e), GBank.of (h.b2.rb.same e), GBank.of (h.b3.rb.same e), ⟨h.wo.1, by have := h.wo.2; rw [← e] at this; exact this⟩, h.kb.same e, ho, h.n, h.new⟩
theorem RefJ.start (h : IsRef w r gw mw s) {w3 w4 : World} {g4 m4 : Nat} {W2 : List Int} (hb13 : Below w.heap.size w w3) (hb4 : Below w3.heap.size w3 w4)
    (hk : Blk w3 gk 117 [.int .u32 (s.p.k1 : Int), .int .u32 (s.p.k2 : Int), .int .u32 (s.p.k3 : Int)])
    (ho4 : w4.ownsRow w3.heap.size 3 1 (.slice (some ⟨g4, 0, none⟩) 3 m4) 3 (zvs W2)) (hg4 : w3.heap.size ≤ g4) :
    RefJ w (w4.setCell ⟨r.M, 6, none⟩ (.slice (some ⟨g4, 0, none⟩) 3 m4)) r g4 m4 s W2 gk s.A s.B s.C := by
  have hb14 := hb13.trans (hb4.mono hb13.size)
  have h4 := h.grow hb14
  have ho : OnlyS [r.M] w4 (w4.setCell ⟨r.M, 6, none⟩ (.slice (some ⟨g4, 0, none⟩) 3 m4)) := (OnlyS.refl [r.M] w4).set_ (p := ⟨r.M, 6, none⟩) (List.mem_singleton.2 rfl) _
  have hs := hb13.size
  have l1 := own_lt h.b1.own
  have l2 := own_lt h.b2.own
  have l3 := own_lt h.b3.own
  have l0 := h.mb.lt
  exact ⟨h4.mb.set_ 6 _, h4.b1.only ho (ne_one (blk_ne h4.b1.mb h4.mb (by decide))) (ne_one (blk_own_ne h4.mb h4.b1.own (by decide)).symm),
    h4.b2.only ho (ne_one (blk_ne h4.b2.mb h4.mb (by decide))) (ne_one (blk_own_ne h4.mb h4.b2.own (by decide)).symm),
    h4.b3.only ho (ne_one (blk_ne h4.b3.mb h4.mb (by decide))) (ne_one (blk_own_ne h4.mb h4.b3.own (by decide)).symm),
    own_onlyS (own_atM ho4 g4 (Nat.le_refl _)) ho (ne_one (by omega)), ho.blk (hk.grow hb4) (ne_one (blk_ne (hk.grow hb4) h4.mb (by decide))),
    (OnlyS.of_below hb14).trans (ho.mono fun k hk => by rw [List.mem_singleton.1 hk]; simp [RefA.all]),
    ⟨h.n.1, h.n.2.1, h.n.2.2.1, by omega, by omega, by omega⟩, by omega⟩
theorem RefJ.end_ {bit : Int} (h : RefJ w wr r gw mw s (seenM s.W s.ch bit) gk (seenC s.A (placeC s.p.k1 9) bit) (seenC s.B (placeC s.p.k2 11) bit) (seenC s.C (placeC s.p.k3 13) bit)) (hok : s.ok)
    (hb : Blk w' r.M 113 (refC r gw mw (s.p.step bit))) (ho : OnlyS [r.M] wr w') : ∃ gw' mw', IsRef w' r gw' mw' (s.seen bit) ∧ w.heap.size ≤ gw' ∧ OnlyS r.all w w' :=
  ⟨gw, mw, ⟨hb, h.b1.only ho (ne_one (blk_ne h.b1.mb h.mb (by decide))) (ne_one (blk_own_ne h.mb h.b1.own (by decide)).symm),
    h.b2.only ho (ne_one (blk_ne h.b2.mb h.mb (by decide))) (ne_one (blk_own_ne h.mb h.b2.own (by decide)).symm),
    h.b3.only ho (ne_one (blk_ne h.b3.mb h.mb (by decide))) (ne_one (blk_own_ne h.mb h.b3.own (by decide)).symm),
    own_onlyS h.wo ho (ne_one (blk_own_ne h.mb h.wo (by decide)).symm), hok.seen bit, h.n⟩, h.new, h.on.trans (ho.mono fun k hk => by rw [List.mem_singleton.1 hk]; simp [RefA.all])⟩
set_option maxHeartbeats 4000000 in
set_option maxRecDepth 100000 in
theorem refSeen_any (bit : Int) (hbit : -128 ≤ bit ∧ bit ≤ 127) (h : IsRef w r gw mw s) :
    Calls Tryz.prog 41 #[.pointer (some ⟨r.M, 0, none⟩), .int .i64 bit] w fun e w' => (∃ u, e = .returned u) ∧ ∃ gw' mw', IsRef w' r gw' mw' (s.seen bit) ∧ w.heap.size ≤ gw' ∧ OnlyS r.all w w' := by
  have CK := Lib.hid (refKeys_any h.mb h.ok.pos)
  have CC := Lib.hid (fun (W : World) (hb : Below w.heap.size w W) => refChances_any (h.grow hb))
  have CX := Lib.hid (fun (W : World) (hb : Below w.heap.size w W) A c (hr : Rd W W.heap.size A (zvs s.ch)) => xSeen_any (m := mw) (m' := c) bit h.ok.w (by decide) (h.w3 hb) hr s.ch_len)
  have H := Lib.hid h
  clear h
  go_enter Tryz.func41, Tryz.ntmps41
  go_wp2_with fail
  refine CK.out.mono ?_
  rintro e w1 ⟨rfl, hb1⟩
  unfold keysV
  obtain ⟨w2, hw2, hk2, hb2⟩ := row3 117 (.int .u32 (s.p.k1 : Int)) (.int .u32 (s.p.k2 : Int)) (.int .u32 (s.p.k3 : Int)) w1
  have hb12 := hb1.trans (hb2.mono hb1.size)
  have hm2 := (H.out.grow hb12).mb
  obtain ⟨gk, hgk⟩ : ∃ g, g = w1.heap.size := ⟨_, rfl⟩
  rw [← hgk] at hk2
  have d6 := hm2.cell 6
  simp only [refC, List.getElem?_cons_zero, List.getElem?_cons_succ] at d6
  have HB2 := Lib.hid (And.intro hb12 hk2)
  have HW := Lib.hid (And.intro hw2 hgk)
  clear hb1 hb2 hb12 hm2 hk2 hw2 hgk
  obtain ⟨k1, hk1⟩ : ∃ k, k = s.p.k1 := ⟨_, rfl⟩
  obtain ⟨k2, hk2⟩ : ∃ k, k = s.p.k2 := ⟨_, rfl⟩
  obtain ⟨k3, hk3⟩ : ∃ k, k = s.p.k3 := ⟨_, rfl⟩
  have hk4 : k1 < 4294967296 ∧ k2 < 4294967296 ∧ k3 < 4294967296 := by
    rw [hk1, hk2, hk3]
    exact ⟨by have := H.out.ok.pos.n2; unfold PosD.k1; omega, H.out.ok.pos.k2_lt, H.out.ok.pos.k3_lt⟩
  have HK4 := Lib.hid hk4
  rw [← hk1, ← hk2, ← hk3] at HW ⊢
  have HKS := Lib.hid (And.intro hk1 (And.intro hk2 hk3))
  clear hk1 hk2 hk3 hk4
  go_wp2
  rw [← HW.out.1, ← HW.out.2]
  go_region_with (first
    | (go_at_call 70; refine (CC.out _ (by first | exact HB2.out.1 | exact HB2.out.1.drew)).mono ?_; rintro _ w3 ⟨v3, rfl, ⟨A3, c3, rfl, hr3⟩, hb3⟩; have hb13 := HB2.out.1.trans ((show Below w2.heap.size w2 w3 from ⟨hb3.os, hb3.tape, hb3.output, hb3.size, hb3.block⟩).mono HB2.out.1.size); have dd6 := (H.out.grow hb13).mb.cell 6; simp only [refC, List.getElem?_cons_zero, List.getElem?_cons_succ] at dd6; have HB3 := Lib.hid (And.intro hb13 (And.intro hr3 hb3)); clear hb13 hr3 hb3)
    | (go_at_call 72; refine (CX.out _ HB3.out.1 _ _ HB3.out.2.1).mono ?_; rintro _ w4 ⟨v4, rfl, ho4, hb4⟩; obtain ⟨g4, m4, rfl, hg4⟩ := own_some ho4 (by decide); have hb14 := HB3.out.1.trans (hb4.mono HB3.out.1.size); have de6 := (H.out.grow hb14).mb.cell 6; have df6 := (H.out.grow hb14).mb.frozen 6; simp only [refC, List.getElem?_cons_zero, List.getElem?_cons_succ] at de6; have HB4 := Lib.hid (And.intro hb14 (And.intro ho4 (And.intro hg4 hb4))); clear hb14 ho4 hg4 hb4))
  all_goals (
    have hj := RefJ.start (W2 := seenM s.W s.ch bit) H.out HB3.out.1 HB4.out.2.2.2 (HB2.out.2.grow (show Below w2.heap.size w2 w3 from ⟨HB3.out.2.2.os, HB3.out.2.2.tape, HB3.out.2.2.output, HB3.out.2.2.size, HB3.out.2.2.block⟩)) HB4.out.2.1 HB4.out.2.2.1
    obtain ⟨W1, hW1⟩ : ∃ W1, W1 = w4.setCell ⟨r.M, 6, none⟩ (.slice (some ⟨g4, 0, none⟩) 3 m4) := ⟨_, rfl⟩
    rw [← hW1] at hj ⊢
    have HJ1 := Lib.hid hj
    clear hj hW1 HB3 HB4 HB2 HW CX CC de6 df6 dd6 d6
    go_wp2
    have c1 := HJ1.out.mb.cell 3
    have z1 := HJ1.out.kb.cell 0
    simp only [refC, List.getElem?_cons_zero, List.getElem?_cons_succ] at c1 z1
    rw [← HKS.out.1] at z1
    have CS1 := Lib.hid (cSeen_any (w := W1.drew) k1 bit (HJ1.out.b1.rb.same rfl) HK4.out.1)
    refine wp_region_still_tail 7 (by kernel_rfl) (by kernel_rfl) ?_
    simp only [List.take_succ_cons, List.take_zero, List.drop_succ_cons, List.drop_zero]
    repeat still_step
    refine wpStill_nil ?_
    change wpList _ _ _ _ _ W1.drew
    go_wp2_with fail
    refine CS1.out.mono ?_
    rintro _ W2 ⟨⟨u1, rfl⟩, hb, -, hu⟩
    have HJ2 := Lib.hid ((HJ1.out.same (w' := W1.drew) rfl HJ1.out.on.drew).one (GBank.of hb) (hu _ _ _ rfl))
    clear c1 z1 hb hu
    go_wp2
    have c2 := HJ2.out.mb.cell 4
    have z2 := HJ2.out.kb.cell 1
    simp only [refC, List.getElem?_cons_zero, List.getElem?_cons_succ] at c2 z2
    rw [← HKS.out.2.1] at z2
    have CS2 := Lib.hid (cSeen_any (w := W2.drew) k2 bit (HJ2.out.b2.rb.same rfl) HK4.out.2.1)
    refine wp_region_still_tail 7 (by kernel_rfl) (by kernel_rfl) ?_
    simp only [List.take_succ_cons, List.take_zero, List.drop_succ_cons, List.drop_zero]
    repeat still_step
    refine wpStill_nil ?_
    change wpList _ _ _ _ _ W2.drew
    go_wp2_with fail
    refine CS2.out.mono ?_
    rintro _ W3 ⟨⟨u2, rfl⟩, hb, -, hu⟩
    have HJ3 := Lib.hid ((HJ2.out.same (w' := W2.drew) rfl HJ2.out.on.drew).two (GBank.of hb) (hu _ _ _ rfl))
    clear c2 z2 hb hu
    go_wp2
    have c3 := HJ3.out.mb.cell 5
    have z3 := HJ3.out.kb.cell 2
    simp only [refC, List.getElem?_cons_zero, List.getElem?_cons_succ] at c3 z3
    rw [← HKS.out.2.2] at z3
    have CS3 := Lib.hid (cSeen_any (w := W3.drew) k3 bit (HJ3.out.b3.rb.same rfl) HK4.out.2.2)
    refine wp_region_still_tail 7 (by kernel_rfl) (by kernel_rfl) ?_
    simp only [List.take_succ_cons, List.take_zero, List.drop_succ_cons, List.drop_zero]
    repeat still_step
    refine wpStill_nil ?_
    change wpList _ _ _ _ _ W3.drew
    go_wp2_with fail
    refine CS3.out.mono ?_
    rintro _ W4 ⟨⟨u3, rfl⟩, hb, -, hu⟩
    have HJ4 := Lib.hid ((HJ3.out.same (w' := W3.drew) rfl HJ3.out.on.drew).three (GBank.of hb) (hu _ _ _ rfl))
    clear c3 z3 hb hu
    have hj4 := HJ4.out
    rw [HKS.out.1, HKS.out.2.1, HKS.out.2.2] at hj4
    have HEND := Lib.hid (fun (w' : World) h1 h2 => hj4.end_ (w' := w') H.out.ok h1 h2)
    have hmb := hj4.mb
    have hstep : s.p.step bit = if 256 ≤ nodeD s.p.node bit then ⟨1, nodeD s.p.node bit - 256, s.p.last⟩ else ⟨nodeD s.p.node bit, s.p.last, s.p.ahead⟩ := rfl
    rw [hstep] at HEND
    unfold nodeD at HEND
    unfold refC at HEND hmb
    have o2 := H.out.ok.pos.n2
    have o3 := H.out.ok.pos.l
    obtain ⟨n, hn⟩ : ∃ n, n = s.p.node := ⟨_, rfl⟩
    obtain ⟨l, hl⟩ : ∃ n, n = s.p.last := ⟨_, rfl⟩
    obtain ⟨hd, hh⟩ : ∃ n, n = s.p.ahead := ⟨_, rfl⟩
    rw [← hn, ← hl, ← hh] at HEND hmb
    rw [← hn] at o2
    rw [← hl] at o3
    have HMB := Lib.hid hmb
    have c0 := hmb.cell 0
    have c1 := hmb.cell 1
    have c2 := hmb.cell 2
    have f0 := hmb.frozen 0
    have f1 := hmb.frozen 1
    have f2 := hmb.frozen 2
    simp only [List.getElem?_cons_zero, List.getElem?_cons_succ] at c0 c1 c2
    clear hj4 hstep hn hl hh hmb HJ4 HJ3 HJ2 HJ1 CS1 CS2 CS3 CK HKS HK4
    by_cases h0 : bit = 0
    · subst h0
      rw [if_pos rfl] at HEND
      by_cases h1 : 256 ≤ 2 * n + 0
      · rw [if_pos h1] at HEND
        have h2 : 256 ≤ 2 * (n : Int) := by omega
        have HN := Lib.hid (show 2 * (n : Int) + min 0 1 - 256 = ((2 * n + 0 - 256 : Nat) : Int) by omega)
        clear h1
        go_wp2
        go_end0
        refine ⟨⟨_, rfl⟩, HEND.out _ ?_ ?_⟩
        · rw [HN.out]; exact ((((HMB.out.set_ 0 _).set_ 2 _).set_ 1 _).set_ 0 _)
        · exact (((((OnlyS.refl [r.M] W4).set_ (p := ⟨r.M, 0, none⟩) (List.mem_singleton.2 rfl) _).set_ (p := ⟨r.M, 2, none⟩) (List.mem_singleton.2 rfl) _).set_ (p := ⟨r.M, 1, none⟩) (List.mem_singleton.2 rfl) _).set_ (p := ⟨r.M, 0, none⟩) (List.mem_singleton.2 rfl) _)
      · rw [if_neg h1] at HEND
        have h2 : ¬ (256 ≤ 2 * (n : Int)) := by omega
        have HN := Lib.hid (show 2 * (n : Int) + min 0 1 = ((2 * n + 0 : Nat) : Int) by omega)
        clear h1
        go_wp2
        go_end0
        refine ⟨⟨_, rfl⟩, HEND.out _ ?_ ?_⟩
        · rw [HN.out]; exact (HMB.out.set_ 0 _)
        · exact ((OnlyS.refl [r.M] W4).set_ (p := ⟨r.M, 0, none⟩) (List.mem_singleton.2 rfl) _)
    · rw [if_neg h0] at HEND
      have hy1 : 0 < bit * bit := by
        rcases Int.lt_or_gt_of_ne h0 with g | g
        · exact Int.mul_pos_of_neg_of_neg g g
        · exact Int.mul_pos g g
      have hy2 : bit * bit ≤ 16384 := by
        have a1 := Int.natAbs_mul_self (a := bit)
        have a2 : bit.natAbs ≤ 128 := by omega
        have a3 := Nat.mul_le_mul a2 a2
        omega
      obtain ⟨y, hy⟩ : ∃ y, y = bit * bit := ⟨_, rfl⟩
      rw [← hy] at hy1 hy2
      have hw1 : IntKind.i64.wrap (bit * bit) = y := by rw [← hy, IntKind.wrap_i64]; omega
      clear hy
      by_cases h1 : 256 ≤ 2 * n + 1
      · rw [if_pos h1] at HEND
        have h2 : 256 ≤ 2 * (n : Int) + 1 := by omega
        have HN := Lib.hid (show 2 * (n : Int) + min y 1 - 256 = ((2 * n + 1 - 256 : Nat) : Int) by omega)
        clear h1
        go_wp2
        go_end0
        refine ⟨⟨_, rfl⟩, HEND.out _ ?_ ?_⟩
        · rw [HN.out]; exact ((((HMB.out.set_ 0 _).set_ 2 _).set_ 1 _).set_ 0 _)
        · exact (((((OnlyS.refl [r.M] W4).set_ (p := ⟨r.M, 0, none⟩) (List.mem_singleton.2 rfl) _).set_ (p := ⟨r.M, 2, none⟩) (List.mem_singleton.2 rfl) _).set_ (p := ⟨r.M, 1, none⟩) (List.mem_singleton.2 rfl) _).set_ (p := ⟨r.M, 0, none⟩) (List.mem_singleton.2 rfl) _)
      · rw [if_neg h1] at HEND
        have h2 : ¬ (256 ≤ 2 * (n : Int) + 1) := by omega
        have HN := Lib.hid (show 2 * (n : Int) + min y 1 = ((2 * n + 1 : Nat) : Int) by omega)
        clear h1
        go_wp2
        go_end0
        refine ⟨⟨_, rfl⟩, HEND.out _ ?_ ?_⟩
        · rw [HN.out]; exact (HMB.out.set_ 0 _)
        · exact ((OnlyS.refl [r.M] W4).set_ (p := ⟨r.M, 0, none⟩) (List.mem_singleton.2 rfl) _)
    )
/-- A plain bank that has been made. -/
theorem gbank_new {w1 w2 : World} {B M bits n : Nat} {v : Value} {R : List Nat} (h : RBank w2 B M bits n v R) (hB : w1.heap.size ≤ B) : ∃ g m, v = .slice (some ⟨g, 0, none⟩) n m ∧ GBank w2 M g bits n m R ∧ w1.heap.size ≤ M ∧ w1.heap.size ≤ g ∧ g < w2.heap.size := by
  obtain ⟨g, m, rfl, hg, hl, -⟩ := h.at_
  exact ⟨g, m, rfl, GBank.of h, Nat.le_trans hB h.low, Nat.le_trans hB hg, hl⟩
theorem GBank.grow {M g bits n m : Nat} (h : GBank w M g bits n m R) (hb : Below w.heap.size w w') : GBank w' M g bits n m R := h.only (S := []) (OnlyS.of_below hb) List.not_mem_nil List.not_mem_nil
set_option maxRecDepth 100000 in
set_option maxHeartbeats 2000000 in
theorem refNew_any (w : World) : Calls Tryz.prog 37 #[] w fun e w' => ∃ (r : RefA) (gw mw : Nat), e = .returned (.pointer (some ⟨r.M, 0, none⟩)) ∧ IsRef w' r gw mw newD ∧ (∀ k ∈ r.every, w.heap.size ≤ k) ∧ w.heap.size ≤ gw ∧ Below w.heap.size w w' := by
  have C1 := Lib.hid (fun W => cNew_any 9 512 W (by decide) (by decide))
  have C2 := Lib.hid (fun W => cNew_any 11 2048 W (by decide) (by decide))
  have C3 := Lib.hid (fun W => cNew_any 13 8192 W (by decide) (by decide))
  have CX := Lib.hid (fun W => xNew_any 3 W (by decide))
  go_enter Tryz.func37, Tryz.ntmps37
  go_wp2_with fail
  refine (C1.out _).mono ?_
  rintro e w1 ⟨M1, rfl, ⟨v1, h1⟩, hb1⟩
  obtain ⟨g1, m1, rfl, hg1⟩ := gbank_new h1 (Nat.le_refl _)
  have H1 := Lib.hid (And.intro hg1 hb1)
  clear h1 hg1 hb1
  go_wp2_with fail
  refine (C2.out _).mono ?_
  rintro e w2 ⟨M2, rfl, ⟨v2, h2⟩, hb2⟩
  obtain ⟨g2, m2, rfl, hg2⟩ := gbank_new h2 (Nat.le_refl _)
  have H2 := Lib.hid (And.intro hg2 hb2)
  clear h2 hg2 hb2
  go_wp2_with fail
  refine (C3.out _).mono ?_
  rintro e w3 ⟨M3, rfl, ⟨v3, h3⟩, hb3⟩
  obtain ⟨g3, m3, rfl, hg3⟩ := gbank_new h3 (Nat.le_refl _)
  have H3 := Lib.hid (And.intro hg3 hb3)
  clear h3 hg3 hb3
  go_wp2_with fail
  refine (CX.out _).mono ?_
  rintro e w4 ⟨v4, rfl, ho4, hb4⟩
  obtain ⟨g4, m4, rfl, hg4⟩ := own_some ho4 (by decide)
  have H4 := Lib.hid (And.intro ho4 (And.intro hg4 hb4))
  clear ho4 hg4 hb4
  obtain ⟨w5, hw5⟩ : ∃ w5, w5 = w4.alloc (.cells #[.int .i64 1, .int .i64 0, .int .i64 0, .pointer (some ⟨M1, 0, none⟩), .pointer (some ⟨M2, 0, none⟩), .pointer (some ⟨M3, 0, none⟩), .slice (some ⟨g4, 0, none⟩) 3 m4] 113) := ⟨_, rfl⟩
  have hm5 : Blk w5 w4.heap.size 113 [.int .i64 1, .int .i64 0, .int .i64 0, .pointer (some ⟨M1, 0, none⟩), .pointer (some ⟨M2, 0, none⟩), .pointer (some ⟨M3, 0, none⟩), .slice (some ⟨g4, 0, none⟩) 3 m4] := by rw [hw5]; exact heap_alloc_new w4 _
  have hb5 : Below w4.heap.size w4 w5 := by rw [hw5]; exact (Below.refl w4.heap.size w4).alloc (Nat.le_refl _) _
  obtain ⟨M, hM⟩ : ∃ M, M = w4.heap.size := ⟨_, rfl⟩
  rw [← hM] at hm5
  have hfin : IsRef w5 ⟨M, M1, g1, m1, M2, g2, m2, M3, g3, m3⟩ g4 m4 newD ∧ (∀ k ∈ (⟨M, M1, g1, m1, M2, g2, m2, M3, g3, m3⟩ : RefA).every, w.heap.size ≤ k) ∧ w.heap.size ≤ g4 ∧ Below w.heap.size w w5 := by
    obtain ⟨⟨p1, q1, r1, t1⟩, b1⟩ := H1.out
    obtain ⟨⟨p2, q2, r2, t2⟩, b2⟩ := H2.out
    obtain ⟨⟨p3, q3, r3, t3⟩, b3⟩ := H3.out
    obtain ⟨o4, l4, b4⟩ := H4.out
    have s1 := b1.size
    have s2 := b2.size
    have s3 := b3.size
    have s4 := b4.size
    have b13 := b1.trans ((b2.trans (b3.mono s2)).mono s1)
    have ho5 : OnlyS [] w4 w5 := OnlyS.of_below hb5
    refine ⟨⟨hm5, ((p1.grow b2).grow b3 |>.grow b4).grow hb5, ((p2.grow b3).grow b4).grow hb5, (p3.grow b4).grow hb5, own_onlyS (own_atM o4 g4 (Nat.le_refl _)) ho5 List.not_mem_nil, newD_ok, ⟨?_, ?_, ?_, ?_, ?_, ?_⟩⟩, fun k hk => ?_, by omega, b13.trans ((b4.trans (hb5.mono s4)).mono b13.size)⟩
    · show g1 ≠ g2; omega
    · show g1 ≠ g3; omega
    · show g2 ≠ g3; omega
    · show g4 ≠ g1; omega
    · show g4 ≠ g2; omega
    · show g4 ≠ g3; omega
    · simp only [RefA.every, List.mem_cons, List.not_mem_nil, or_false] at hk
      omega
  have HFIN := Lib.hid hfin
  have HW := Lib.hid (And.intro hw5 hM)
  clear hw5 hm5 hb5 hM hfin
  go_wp2
  go_ret
  rw [← HW.out.1, ← HW.out.2]
  exact ⟨_, g4, m4, rfl, HFIN.out⟩
end
end Go.Proofs.YtflcmmeoppdhdaaGreat
