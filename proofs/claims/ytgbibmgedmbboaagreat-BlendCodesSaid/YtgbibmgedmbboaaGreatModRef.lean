/- Layer 25: the reference's model: keys, chances, P. -/
import Derived.Test.YtgbibmgedmbboaaGreatModNew
import Derived.Test.YtgbibmgedmbboaaGreatCtxRef
import Derived.Test.YtgbibmgedmbboaaGreatMixRef2
namespace Go.Proofs.YtgbibmgedmbboaaGreat
open Go.RowKit Go.Sort

/-- A plain bank whose row lies in block g. -/
structure GBank (w : World) (M g bits n m : Nat) (R : List Nat) : Prop where
  mb : Blk w M 125 [.int .i64 (bits : Int), .slice (some ⟨g, 0, none⟩) n m]
  own : w.ownsRow g 3 1 (.slice (some ⟨g, 0, none⟩) n m) n (ivs R)
  row : RowC n R
  pow : n = 2 ^ bits
  lo : 1 ≤ bits ∧ bits ≤ 16
theorem own_at {w : World} {B g n m size : Nat} {t : TypeId} {xs : List Value} (h : w.ownsRow B t size (.slice (some ⟨g, 0, none⟩) n m) n xs) (B' : Nat) (hB : B' ≤ g) : w.ownsRow B' t size (.slice (some ⟨g, 0, none⟩) n m) n xs := by
  refine ⟨h.1, ?_⟩
  rcases h.2 with ⟨h0, _⟩ | ⟨g', cap, cur, e, _, rest⟩
  · cases h0
  · refine .inr ⟨g', cap, cur, e, ?_, rest⟩
    injection e with e _ _
    injection e with e
    injection e with e _ _
    omega
theorem own_onlyS {w w' : World} {S : List Nat} {B g n m size : Nat} {t : TypeId} {xs : List Value} (h : w.ownsRow B t size (.slice (some ⟨g, 0, none⟩) n m) n xs) (hu : OnlyS S w w') (hg : g ∉ S) : w'.ownsRow B t size (.slice (some ⟨g, 0, none⟩) n m) n xs := by
  refine ⟨h.1, ?_⟩
  rcases h.2 with ⟨h0, _⟩ | ⟨g', cap, cur, e, hb, hg', rest⟩
  · cases h0
  · refine .inr ⟨g', cap, cur, e, hb, ?_, rest⟩
    injection e with e _ _
    injection e with e
    injection e with e _ _
    subst e
    exact (hu.block _ (Array.getElem?_eq_some_iff.1 hg').1 hg).trans hg'
theorem own_lt {w : World} {B g n m size : Nat} {t : TypeId} {xs : List Value} (h : w.ownsRow B t size (.slice (some ⟨g, 0, none⟩) n m) n xs) : g < w.heap.size := by
  rcases h.2 with ⟨h0, _⟩ | ⟨g', cap, cur, e, hb, hg', rest⟩
  · cases h0
  · injection e with e _ _
    injection e with e
    injection e with e _ _
    subst e
    exact (Array.getElem?_eq_some_iff.1 hg').1
section
variable {w w' : World} {M g bits n m : Nat} {R : List Nat} {S : List Nat}
theorem GBank.rb (h : GBank w M g bits n m R) : RBank w 0 M bits n (.slice (some ⟨g, 0, none⟩) n m) R := ⟨h.mb, own_at h.own 0 (Nat.zero_le _), h.row, h.pow, h.lo, Nat.zero_le _⟩
theorem GBank.of {B : Nat} (h : RBank w B M bits n (.slice (some ⟨g, 0, none⟩) n m) R) : GBank w M g bits n m R := ⟨h.mb, own_at h.own g (Nat.le_refl _), h.row, h.pow, h.lo⟩
theorem GBank.only (h : GBank w M g bits n m R) (hu : OnlyS S w w') (h1 : M ∉ S) (h2 : g ∉ S) : GBank w' M g bits n m R := ⟨hu.blk h.mb h1, own_onlyS h.own hu h2, h.row, h.pow, h.lo⟩
theorem GBank.ne (h : GBank w M g bits n m R) : M ≠ g := fun e => own_ne h.mb h.own (by decide) g rfl e.symm
end
/-- Where the parts of a plain model lie: itself, its banks and their rows. -/
structure RefA where
  M : Nat
  M1 : Nat
  g1 : Nat
  m1 : Nat
  M2 : Nat
  g2 : Nat
  m2 : Nat
  M3 : Nat
  g3 : Nat
  m3 : Nat
def RefA.all (r : RefA) : List Nat := [r.M, r.g1, r.g2, r.g3]
def RefA.every (r : RefA) : List Nat := [r.M, r.g1, r.g2, r.g3, r.M1, r.M2, r.M3]
def refC (r : RefA) (gw mw : Nat) (p : PosD) : List Value := [.int .i64 (p.node : Int), .int .i64 (p.last : Int), .int .i64 (p.ahead : Int), .pointer (some ⟨r.M1, 0, none⟩), .pointer (some ⟨r.M2, 0, none⟩), .pointer (some ⟨r.M3, 0, none⟩), .slice (some ⟨gw, 0, none⟩) 3 mw]
/-- A plain model lies there, and knows s. -/
structure IsRef (w : World) (r : RefA) (gw mw : Nat) (s : ModD) : Prop where
  mb : Blk w r.M 75 (refC r gw mw s.p)
  b1 : GBank w r.M1 r.g1 9 512 r.m1 s.A
  b2 : GBank w r.M2 r.g2 11 2048 r.m2 s.B
  b3 : GBank w r.M3 r.g3 13 8192 r.m3 s.C
  wo : w.ownsRow gw 3 1 (.slice (some ⟨gw, 0, none⟩) 3 mw) 3 (zvs s.W)
  ok : s.ok
  n : r.g1 ≠ r.g2 ∧ r.g1 ≠ r.g3 ∧ r.g2 ≠ r.g3 ∧ gw ≠ r.g1 ∧ gw ≠ r.g2 ∧ gw ≠ r.g3
/-- A slice of three. -/
def IsL3 (xs : List Value) (v : Value) (w : World) : Prop := ∃ A c, v = .slice A 3 c ∧ Rd w w.heap.size A xs
theorem IsL3.grow (xs : List Value) : ∀ v w w', IsL3 xs v w → Below w.heap.size w w' → IsL3 xs v w' := fun _ _ _ ⟨A, c, hv, hr⟩ hb => ⟨A, c, hv, (hr.below hb).more hb.size⟩
section
variable {w w' : World} {r : RefA} {gw mw : Nat} {s : ModD} {S : List Nat}
theorem IsRef.only (h : IsRef w r gw mw s) (hu : OnlyS S w w') (hd : ∀ k ∈ r.every, k ∉ S) (hw : gw ∉ S) : IsRef w' r gw mw s := by
  simp only [RefA.every, List.mem_cons, List.not_mem_nil, or_false, forall_eq_or_imp, forall_eq] at hd
  obtain ⟨d1, d2, d3, d4, d5, d6, d7⟩ := hd
  exact ⟨hu.blk h.mb d1, h.b1.only hu d5 d2, h.b2.only hu d6 d3, h.b3.only hu d7 d4, own_onlyS h.wo hu hw, h.ok, h.n⟩
theorem IsRef.grow (h : IsRef w r gw mw s) (hb : Below w.heap.size w w') : IsRef w' r gw mw s := h.only (S := []) (OnlyS.of_below hb) (fun _ _ => List.not_mem_nil) List.not_mem_nil
theorem IsRef.same (h : IsRef w r gw mw s) (e : w'.heap = w.heap) : IsRef w' r gw mw s :=
  ⟨h.mb.same e, GBank.of (h.b1.rb.same e), GBank.of (h.b2.rb.same e), GBank.of (h.b3.rb.same e), ⟨h.wo.1, by have := h.wo.2; rw [← e] at this; exact this⟩, h.ok, h.n⟩
set_option maxRecDepth 100000 in
set_option maxHeartbeats 1000000 in
theorem refKeys_any {gw mw : Nat} {p : PosD} (hb : Blk w r.M 75 (refC r gw mw p)) (ho : p.ok) :
    Calls Tryz.prog 41 #[.pointer (some ⟨r.M, 0, none⟩)] w fun e w' => e = .returned (keysV p) ∧ Below w.heap.size w w' := by
  obtain ⟨o1, o2, o3, o4⟩ := ho
  unfold keysV PosD.k1 PosD.k2 PosD.k3
  unfold refC at hb
  obtain ⟨n, l, h⟩ := p
  simp only at *
  obtain ⟨w1, hw1⟩ : ∃ w1, w1 = w.alloc (.cells #[.int .u32 0, .int .u32 0, .int .u32 0] 79) := ⟨_, rfl⟩
  have hb1 := hb.alloc_ (.cells #[.int .u32 0, .int .u32 0, .int .u32 0] 79)
  have hr1 : Blk (w.alloc (.cells #[.int .u32 0, .int .u32 0, .int .u32 0] 79)) w.heap.size 79 [.int .u32 0, .int .u32 0, .int .u32 0] := heap_alloc_new w _
  have hbel := (Below.refl w.heap.size w).alloc (Nat.le_refl _) (.cells #[.int .u32 0, .int .u32 0, .int .u32 0] 79)
  have c0 := hb1.cell 0
  have c1 := hb1.cell 1
  have c2 := hb1.cell 2
  simp only [List.getElem?_cons_zero, List.getElem?_cons_succ] at c0 c1 c2
  rw [← hw1] at hr1 hbel
  obtain ⟨g, hg⟩ : ∃ g, g = w.heap.size := ⟨_, rfl⟩
  have HC := Lib.hid (show w1.cell? ⟨r.M, 0, none⟩ = _ ∧ w1.cell? ⟨r.M, 1, none⟩ = _ ∧ w1.cell? ⟨r.M, 2, none⟩ = _ by rw [hw1]; exact ⟨c0, c1, c2⟩)
  have HR := Lib.hid (show Blk w1 g 79 [.int .u32 0, .int .u32 0, .int .u32 0] by rw [hg]; exact hr1)
  have HBL := Lib.hid (And.intro hbel (Nat.le_of_eq hg.symm))
  have HW := Lib.hid (And.intro hw1 hg)
  clear hb hb1 hr1 hbel hw1 hg
  go_enter Tryz.func41, Tryz.ntmps41
  go_wp2
  rw [← HW.out.1, ← HW.out.2]
  clear c0 c1 c2
  obtain ⟨c0, c1, c2⟩ := HC.out
  have hr := HR.out
  have d0 := hr.cell 0
  have d1 := hr.cell 1
  have d2 := hr.cell 2
  have f0 := hr.frozen 0
  have f1 := hr.frozen 1
  have f2 := hr.frozen 2
  simp only [List.getElem?_cons_zero, List.getElem?_cons_succ] at d0 d1 d2
  clear hr
  go_quiet (fail)
  generalize nq = nq1
  go_wp2
  go_quiet (fail)
  go_wp2
  have hfin := ((((HR.out.same (show (w1.drewN (nq1 + nq)).heap = w1.heap from rfl)).set_ 0 (.int .u32 (n : Int))).set_ 1 (.int .u32 (65536 + 256 * (l : Int) + (n : Int)))).set_ 2 (.int .u32 (16777216 + 65536 * (h : Int) + 256 * (l : Int) + (n : Int))))
  refine bodyPost_ret (v := .agg #[.int .u32 (n : Int), .int .u32 (65536 + 256 * (l : Int) + (n : Int)), .int .u32 (16777216 + 65536 * (h : Int) + 256 * (l : Int) + (n : Int))]) (results_cell_row Tryz.results41 _ _ g 79 _ (0, 0) _ rfl hfin Tryz.underlying79 rfl size_keys) rfl ⟨?_, ?_⟩
  · rw [show ((65536 + 256 * l + n : Nat) : Int) = 65536 + 256 * (l : Int) + (n : Int) by omega, show ((16777216 + 65536 * h + 256 * l + n : Nat) : Int) = 16777216 + 65536 * (h : Int) + 256 * (l : Int) + (n : Int) by omega]
  · exact (((below_drewn HBL.out.1).setCell (p := ⟨g, 0, none⟩) HBL.out.2 _).setCell (p := ⟨g, 1, none⟩) HBL.out.2 _).setCell (p := ⟨g, 2, none⟩) HBL.out.2 _
set_option maxRecDepth 100000 in
set_option maxHeartbeats 2000000 in
theorem refChances_any (h : IsRef w r gw mw s) :
    Calls Tryz.prog 40 #[.pointer (some ⟨r.M, 0, none⟩)] w fun e w' => ∃ v, e = .returned v ∧ IsL3 (zvs s.ch) v w' ∧ Below w.heap.size w w' := by
  have CK := Lib.hid (refKeys_any h.mb h.ok.pos)
  have CP1 := Lib.hid (fun (W : World) (hb : Below w.heap.size w W) => cP_any s.p.k1 (h.grow hb).b1.rb (by have := h.ok.pos.n2; unfold PosD.k1; omega))
  have CP2 := Lib.hid (fun (W : World) (hb : Below w.heap.size w W) => cP_any s.p.k2 (h.grow hb).b2.rb h.ok.pos.k2_lt)
  have CP3 := Lib.hid (fun (W : World) (hb : Below w.heap.size w W) => cP_any s.p.k3 (h.grow hb).b3.rb h.ok.pos.k3_lt)
  have hch : zvs s.ch = [.int .i64 ((s.A.getD (placeC s.p.k1 9) 0 : Nat) : Int), .int .i64 ((s.B.getD (placeC s.p.k2 11) 0 : Nat) : Int), .int .i64 ((s.C.getD (placeC s.p.k3 13) 0 : Nat) : Int)] := rfl
  obtain ⟨xs, hxs⟩ : ∃ xs, xs = zvs s.ch := ⟨_, rfl⟩
  rw [← hxs] at hch ⊢
  obtain ⟨c1, hc1⟩ : ∃ c, c = s.A.getD (placeC s.p.k1 9) 0 := ⟨_, rfl⟩
  obtain ⟨c2, hc2⟩ : ∃ c, c = s.B.getD (placeC s.p.k2 11) 0 := ⟨_, rfl⟩
  obtain ⟨c3, hc3⟩ : ∃ c, c = s.C.getD (placeC s.p.k3 13) 0 := ⟨_, rfl⟩
  rw [← hc1] at CP1 hch
  rw [← hc2] at CP2 hch
  rw [← hc3] at CP3 hch
  subst hch
  obtain ⟨k1, hk1⟩ : ∃ k, k = s.p.k1 := ⟨_, rfl⟩
  obtain ⟨k2, hk2⟩ : ∃ k, k = s.p.k2 := ⟨_, rfl⟩
  obtain ⟨k3, hk3⟩ : ∃ k, k = s.p.k3 := ⟨_, rfl⟩
  unfold keysV at CK
  rw [← hk1] at CP1 CK
  rw [← hk2] at CP2 CK
  rw [← hk3] at CP3 CK
  have H := Lib.hid h.mb
  clear h hk1 hk2 hk3 hc1 hc2 hc3 hxs
  go_enter Tryz.func40, Tryz.ntmps40
  go_wp2_with fail
  refine CK.out.mono ?_
  rintro e w1 ⟨rfl, hb1⟩
  obtain ⟨w2, hw2, hk2, hb2⟩ := row3 79 (.int .u32 (k1 : Int)) (.int .u32 (k2 : Int)) (.int .u32 (k3 : Int)) w1
  have hb12 := hb1.trans (hb2.mono hb1.size)
  have hm2 := H.out.grow hb12
  obtain ⟨gk, hgk⟩ : ∃ g, g = w1.heap.size := ⟨_, rfl⟩
  rw [← hgk] at hk2
  have HH := Lib.hid (And.intro hk2 (And.intro hm2 hb12))
  have HW := Lib.hid (And.intro hw2 hgk)
  clear hb1 hw2 hk2 hb2 hb12 hm2 hgk
  go_wp2
  rw [← HW.out.1, ← HW.out.2]
  refine wp_region_grow [⟨6, [], .is (.pointer (some ⟨r.M, 0, none⟩))⟩,
      ⟨7, [0], .is (.pointer (some ⟨r.M, 0, none⟩))⟩,
      ⟨8, [1], .is (.pointer (some ⟨r.M, 3, none⟩))⟩,
      ⟨9, [2], .is (.pointer (some ⟨r.M1, 0, none⟩))⟩,
      ⟨10, [], .is (.pointer (some ⟨gk, 0, none⟩))⟩,
      ⟨11, [4], .is (.int .u32 (k1 : Int))⟩,
      ⟨12, [3, 5], .is (.int .i64 (c1 : Int))⟩,
      ⟨13, [], .is (.pointer (some ⟨r.M, 0, none⟩))⟩,
      ⟨14, [7], .is (.pointer (some ⟨r.M, 0, none⟩))⟩,
      ⟨15, [8], .is (.pointer (some ⟨r.M, 4, none⟩))⟩,
      ⟨16, [9], .is (.pointer (some ⟨r.M2, 0, none⟩))⟩,
      ⟨17, [], .is (.pointer (some ⟨gk, 1, none⟩))⟩,
      ⟨18, [11], .is (.int .u32 (k2 : Int))⟩,
      ⟨19, [10, 12], .is (.int .i64 (c2 : Int))⟩,
      ⟨20, [], .is (.pointer (some ⟨r.M, 0, none⟩))⟩,
      ⟨21, [14], .is (.pointer (some ⟨r.M, 0, none⟩))⟩,
      ⟨22, [15], .is (.pointer (some ⟨r.M, 5, none⟩))⟩,
      ⟨23, [16], .is (.pointer (some ⟨r.M3, 0, none⟩))⟩,
      ⟨24, [], .is (.pointer (some ⟨gk, 2, none⟩))⟩,
      ⟨25, [18], .is (.int .u32 (k3 : Int))⟩,
      ⟨26, [17, 19], .is (.int .i64 (c3 : Int))⟩,
      ⟨27, [6, 13, 20], .cells [.int .i64 (c1 : Int), .int .i64 (c2 : Int), .int .i64 (c3 : Int)]⟩,
      ⟨2, [21], .cells [.int .i64 (c1 : Int), .int .i64 (c2 : Int), .int .i64 (c3 : Int)]⟩]
      [(0, .pointer (some ⟨r.M, 0, none⟩)), (3, .pointer (some ⟨gk, 0, none⟩))] (by kernel_rfl) (by kernel_rfl) (by kernel_rfl) (by kernel_rfl) (by kernel_rfl) ⟨rfl, rfl, trivial⟩ ?_ ?_
  · repeat' (first | exact OblGAll.nil | refine OblGAll.cons ?_ ?_)
    all_goals (intro ev yi w' hB hc hf ho hn; simp only [OutsSay, NeedSay, rowAt, Fact.says, and_true] at ho hn)
    all_goals (have hm := HH.out.2.1.grow hB; have hk := HH.out.1.grow hB; have q3 := hm.cell 3; have q4 := hm.cell 4; have q5 := hm.cell 5; have z0 := hk.cell 0; have z1 := hk.cell 1; have z2 := hk.cell 2; simp only [refC, List.getElem?_cons_zero, List.getElem?_cons_succ] at q3 q4 q5 z0 z1 z2; have hbw := HH.out.2.2.trans (hB.mono HH.out.2.2.size); clear hm hk)
    all_goals (try ((simp [OpSays, execOp, Region.wanted, Fact.says, go_sem, ho, hn, hc, Below.refl, q3, q4, q5, z0, z1, z2]; done)))
    · rw [if_pos (by simp [Region.wanted])]
      exact says_call Tryz.call75 (vs := #[.pointer (some ⟨r.M1, 0, none⟩), .int .u32 (k1 : Int)]) rfl hf (by simp [hn]) ((CP1.out w' hbw).mono fun e w2 ⟨h1, j, h2⟩ => ⟨_, h1, rfl, by rw [h2]; exact below_drawn _ _⟩)
    · rw [if_pos (by simp [Region.wanted])]
      exact says_call Tryz.call75 (vs := #[.pointer (some ⟨r.M2, 0, none⟩), .int .u32 (k2 : Int)]) rfl hf (by simp [hn]) ((CP2.out w' hbw).mono fun e w2 ⟨h1, j, h2⟩ => ⟨_, h1, rfl, by rw [h2]; exact below_drawn _ _⟩)
    · rw [if_pos (by simp [Region.wanted])]
      exact says_call Tryz.call75 (vs := #[.pointer (some ⟨r.M3, 0, none⟩), .int .u32 (k3 : Int)]) rfl hf (by simp [hn]) ((CP3.out w' hbw).mono fun e w2 ⟨h1, j, h2⟩ => ⟨_, h1, rfl, by rw [h2]; exact below_drawn _ _⟩)
    · rw [if_pos (by simp [Region.wanted])]
      simp [OpSays, execOp, Fact.says, go_sem, hn]
      exact ⟨⟨_, 3, rfl, Nat.le_refl _, Rd.new w' _ _⟩, (Below.refl _ _).alloc (Nat.le_refl _) _⟩
  · intro X w4 hb4 hx
    have hlast : IsCells [.int .i64 (c1 : Int), .int .i64 (c2 : Int), .int .i64 (c3 : Int)] (X 22) w4 := hx 22 (by show 22 < 23; decide)
    clear hx
    have HL := Lib.hid hlast
    have HB4 := Lib.hid (HH.out.2.2.trans (hb4.mono HH.out.2.2.size))
    clear hlast hb4
    simp only [layAll, List.setIfInBounds_toArray, List.set_cons_succ, List.set_cons_zero]
    go_wp2
    go_ret
    obtain ⟨A, c, hv, hc, hr⟩ := HL.out
    exact ⟨_, rfl, ⟨A, c, hv, hr⟩, HB4.out⟩
theorem IsRef.w3 (h : IsRef w r gw mw s) (hb : Below w.heap.size w w') : Rd w' w'.heap.size (some ⟨gw, 0, none⟩) (zvs s.W) := Rd.of_own (h.grow hb).wo
set_option maxRecDepth 100000 in
set_option maxHeartbeats 2000000 in
theorem refP_any (h : IsRef w r gw mw s) :
    Calls Tryz.prog 17 #[.pointer (some ⟨r.M, 0, none⟩)] w fun e w' => e = .returned (.int .i64 s.chance) ∧ Below w.heap.size w w' := by
  have CC := Lib.hid (fun (W : World) (hb : Below w.heap.size w W) => refChances_any (h.grow hb))
  have CP := Lib.hid (fun (W : World) (hb : Below w.heap.size w W) A c (hr : Rd W W.heap.size A (zvs s.ch)) => xP_any (m := mw) (m' := c) h.ok.w (by decide) (h.w3 hb) hr s.ch_len)
  have HM := Lib.hid h.mb
  have hp : mixM s.W s.ch = s.chance := rfl
  rw [hp] at CP
  obtain ⟨xs, hxs⟩ : ∃ xs, xs = zvs s.ch := ⟨_, rfl⟩
  rw [← hxs] at CC CP
  obtain ⟨p, hpp⟩ : ∃ p, p = s.chance := ⟨_, rfl⟩
  rw [← hpp] at CP ⊢
  clear h hp hxs hpp
  go_enter Tryz.func17, Tryz.ntmps17
  go_wp2
  refine wp_region_grow [⟨3, [], .is (.pointer (some ⟨r.M, 0, none⟩))⟩,
      ⟨4, [0], .is (.pointer (some ⟨r.M, 0, none⟩))⟩,
      ⟨5, [1], .is (.pointer (some ⟨r.M, 6, none⟩))⟩,
      ⟨6, [2], .is (.slice (some ⟨gw, 0, none⟩) 3 mw)⟩,
      ⟨7, [], .is (.pointer (some ⟨r.M, 0, none⟩))⟩,
      ⟨8, [4], .such (IsL3 xs) (IsL3.grow xs)⟩,
      ⟨9, [3, 5], .is (.int .i64 p)⟩,
      ⟨2, [6], .is (.int .i64 p)⟩]
      [(0, .pointer (some ⟨r.M, 0, none⟩))] (by kernel_rfl) (by kernel_rfl) (by kernel_rfl) (by kernel_rfl) (by kernel_rfl) ⟨rfl, trivial⟩ ?_ ?_
  · repeat' (first | exact OblGAll.nil | refine OblGAll.cons ?_ ?_)
    all_goals (intro ev yi w' hB hc hf ho hn; simp only [OutsSay, NeedSay, rowAt, Fact.says, and_true] at ho hn)
    all_goals (have q6 := (HM.out.grow hB).cell 6; simp only [refC, List.getElem?_cons_zero, List.getElem?_cons_succ] at q6)
    all_goals (try ((simp [OpSays, execOp, Region.wanted, Fact.says, go_sem, ho, hn, Below.refl, q6]; done)))
    · rw [if_pos (by simp [Region.wanted])]
      exact says_call Tryz.call40 (vs := #[.pointer (some ⟨r.M, 0, none⟩)]) rfl hf (by simp [hn]) ((CC.out w' hB).mono fun e w2 ⟨v, h1, h2, h3⟩ => ⟨v, h1, h2, h3⟩)
    · rw [if_pos (by simp [Region.wanted])]
      obtain ⟨hn1, _, ⟨A, c, hv, hr⟩, _⟩ := hn
      exact says_call Tryz.call39 (vs := #[.slice (some ⟨gw, 0, none⟩) 3 mw, .slice A 3 c]) rfl hf (by simp [hn1, hv]) ((CP.out w' hB A c hr).mono fun e w2 ⟨h1, j, h2⟩ => ⟨_, h1, rfl, by rw [h2]; exact below_drawn _ _⟩)
  · intro X w4 hb4 hx
    have hlast : X 7 = .int .i64 p := hx 7 (by decide)
    clear hx
    have HL := Lib.hid hlast
    have HB4 := Lib.hid hb4
    clear hlast hb4
    simp only [layAll, List.setIfInBounds_toArray, List.set_cons_succ, List.set_cons_zero, Nat.zero_add, Nat.reduceAdd]
    rw [HL.out]
    go_wp2
    go_ret
    exact ⟨rfl, HB4.out⟩
end
end Go.Proofs.YtgbibmgedmbboaaGreat
