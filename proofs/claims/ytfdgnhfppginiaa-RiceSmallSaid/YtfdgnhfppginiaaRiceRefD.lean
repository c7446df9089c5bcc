/- Layer 19: the reference's Decode. -/
import Derived.Test.YtfdgnhfppginiaaRiceRefB
import Derived.Test.YtfdgnhfppginiaaWordLay
namespace Go.Proofs.Ytfdgnhfppginiaa
open Go.RowKit Go.Sort

/-- So many bytes more, and what is left. -/
def restF : Nat → (List Bool × Nat) → List UInt8 × (List Bool × Nat)
  | 0, s => ([], s)
  | m + 1, s => (UInt8.ofNat (getV s 8) :: (restF m (getS s 8)).1, (restF m (getS s 8)).2)
theorem restF_len : ∀ (m : Nat) (s : List Bool × Nat), (restF m s).1.length = m
  | 0, _ => rfl
  | m + 1, s => by rw [restF, List.length_cons, restF_len m]
/-- What Decode tells: bytes, and an error. -/
def riceOut (W n : Nat) (o : Option (List Nat × (List Bool × Nat))) : List UInt8 × Nat := match o with
  | none => ([], 16)
  | some (X, s) => if doneE (restF (n % W) s).2 = 0 then (layW W X ++ (restF (n % W) s).1, 0) else ([], 16)
def aheadO (X : List Nat) (o : Option (List Nat × (List Bool × Nat))) : Option (List Nat × (List Bool × Nat)) := o.map fun p => (X ++ p.1, p.2)
theorem aheadO_none (X : List Nat) : aheadO X none = none := rfl
theorem aheadO_cons (X : List Nat) (v : Nat) (o : Option (List Nat × (List Bool × Nat))) : aheadO X (o.map fun p => (v :: p.1, p.2)) = aheadO (X ++ [v]) o := by
  cases o with
  | none => rfl
  | some p => simp [aheadO]
theorem RiceR.next {D k A N K : Nat} {s : List Bool × Nat} {o : Option (List Nat × (List Bool × Nat))} (h : RiceR D (k + 1) A N s o) (hK : IsK A N K) :
    (riceV D K s = none → o = none) ∧ ∀ v s', riceV D K s = some (v, s') → ∃ o2, RiceR D k (behindA A N v) (behindN N) s' o2 ∧ o = o2.map fun p => (v :: p.1, p.2) := by
  cases h with
  | bad _ _ _ k2 _ hk hv =>
    obtain rfl := hK.one hk
    exact ⟨fun _ => rfl, fun v s' e => by rw [hv] at e; cases e⟩
  | word _ _ _ k2 v2 _ s2 o2 hk hv hr =>
    obtain rfl := hK.one hk
    refine ⟨fun e => by rw [hv] at e; (cases e), fun v s' e => ?_⟩
    rw [hv, Option.some.injEq, Prod.mk.injEq] at e
    obtain ⟨rfl, rfl⟩ := e
    exact ⟨o2, hr, rfl⟩
theorem lt_snoc' {M x : Nat} {X : List Nat} (h : ∀ y ∈ X, y < M) (hx : x < M) : ∀ y ∈ X ++ [x], y < M := by
  intro y hy
  rcases List.mem_append.1 hy with h1 | h1
  · exact h y h1
  · rw [List.mem_singleton.1 h1]; exact hx
theorem wvs_snoc' (X : List Nat) (x : Nat) : wvs (X ++ [x]) = wvs X ++ [.int .u64 (x : Int)] := by simp [wvs]
/-- What Decode hands back. -/
def RDSays (w : World) (Q : List UInt8 × Nat) (e : Ending) (w' : World) : Prop := ∃ v, e = .returned (.tuple #[v, .int .i64 (Q.2 : Int)]) ∧ IsBytes Q.1 v w' ∧ Below w.heap.size w w'
theorem isBytes_nil (w : World) : IsBytes [] (.slice none 0 0) w := ⟨none, 0, rfl, Nat.le_refl _, Rd.nil_ _ _ _⟩
/-- What holds at the head of a round of the first loop. -/
def RDRel (w : World) (W M g CB : Nat) (o : Option (List Nat × (List Bool × Nat))) (lv i : Value) (wr : World) : Prop :=
  ∃ (X : List Nat) (A N : Nat) (s : List Bool × Nat) (o2 : Option (List Nat × (List Bool × Nat))), X.length ≤ M ∧ i = .int .i64 (X.length : Int) ∧ RiceR (8 * W) (M - X.length) A N s o2 ∧ aheadO X o2 = o ∧ CountsOk (8 * W) A N ∧ (∀ x ∈ X, x < 2 ^ (8 * W)) ∧ s.2 = 0 ∧ X.length + s.1.length ≤ 8000 ∧
    wr.ownsRow w.heap.size 66 1 lv X.length (wvs X) ∧ RfrIs wr g s.1 s.2 ∧ Blk wr CB 89 [.int .u64 (A : Int), .int .u64 (N : Int)] ∧ Below w.heap.size w wr
/-- What holds at the head of a round of the second. -/
def RDRel2 (w : World) (m g : Nat) (X : List Nat) (lv : Value) (R : List UInt8) (SE : List Bool × Nat) (rv i : Value) (wr : World) : Prop :=
  ∃ (j : Nat) (rs : List UInt8) (s : List Bool × Nat), j ≤ m ∧ i = .int .i64 (j : Int) ∧ rs.length = j ∧ rs ++ (restF (m - j) s).1 = R ∧ (restF (m - j) s).2 = SE ∧ wr.ownsRow w.heap.size 5 1 rv j (bvs rs) ∧ wr.ownsRow w.heap.size 66 1 lv X.length (wvs X) ∧ RfrIs wr g s.1 s.2 ∧ Below w.heap.size w wr
theorem RfrIs.err {w : World} {g : Nat} {L : List Bool} {e : Nat} (h : RfrIs w g L e) : w.cell? ⟨g, 1, none⟩ = some (.int .i64 (e : Int)) ∧ g < w.heap.size := by
  obtain ⟨A, c, hb, -⟩ := h
  exact ⟨hb.cell 1, hb.lt⟩
theorem OnlyT.lower {B g : Nat} {ts : List TypeId} {w w' : World} (h : OnlyT g ts w w') (hg : B ≤ g) (hB : B ≤ w.heap.size) : Below B w w' := (h.base hg).below hB
section
variable {D K q : Nat} {s s1 : List Bool × Nat}
theorem riceV_A (hq : q = onesV s 24) (h1 : s1 = onesS s 24) (h : q = 24) : riceV D K s = if (getS s1 D).2 = 0 then some (getV s1 D, getS s1 D) else none := by
  unfold riceV; rw [← hq, ← h1, if_pos h]
theorem riceV_C (hq : q = onesV s 24) (h1 : s1 = onesS s 24) (h : ¬ q = 24) (hc : 0 < q ∧ (2 ^ D - 1) / q < 2 ^ K) : riceV D K s = none := by
  unfold riceV; rw [← hq, ← h1, if_neg h, if_pos hc]
theorem riceV_D (hq : q = onesV s 24) (h1 : s1 = onesS s 24) (h : ¬ q = 24) (hc : ¬ (0 < q ∧ (2 ^ D - 1) / q < 2 ^ K)) (hd : 2 ^ D - 1 < q * 2 ^ K + getV s1 K) : riceV D K s = none := by
  unfold riceV; rw [← hq, ← h1, if_neg h, if_neg hc, if_pos hd]
theorem riceV_F (hq : q = onesV s 24) (h1 : s1 = onesS s 24) (h : ¬ q = 24) (hc : ¬ (0 < q ∧ (2 ^ D - 1) / q < 2 ^ K)) (hd : ¬ 2 ^ D - 1 < q * 2 ^ K + getV s1 K) : riceV D K s = if (getS s1 K).2 = 0 then some (q * 2 ^ K + getV s1 K, getS s1 K) else none := by
  unfold riceV; rw [← hq, ← h1, if_neg h, if_neg hc, if_neg hd]
end
set_option maxHeartbeats 4000000 in
set_option maxRecDepth 100000 in
theorem riceRDec_any {W n : Nat} (hW : IsW W) (hn : n ≤ 67108864) (l : List UInt8) (v : Value) (w : World) (hv : IsBytes l v w) (hl : l.length ≤ 1000) {o : Option (List Nat × (List Bool × Nat))} (ho : RiceR (8 * W) (n / W) 16 1 (allBits l, 0) o) :
    Calls Try.prog 18 #[v, .int .i64 (W : Int), .int .i64 (n : Int)] w (RDSays w (riceOut W n o)) := by
  obtain ⟨j0, hj0, hy0, hy1, hy2⟩ := info_parts info_u64r
  obtain ⟨i0, hi0, hz0, hz1, hz2⟩ := info_parts info_u8'
  obtain ⟨A, c, rfl, hc, hr⟩ := hv
  have hp := hW.pos
  have C1 := Lib.hid (refRight_any (W : Int) true hW.right)
  have C2 := Lib.hid (rfAll_any A l.length c l w hr rfl hl)
  have hMk : maskN (W : Int) = 2 ^ (8 * W) - 1 := by unfold maskN; rw [← hW.right, if_pos rfl, Int.toNat_natCast, Nat.pow_mul]
  have cmk := fun w' => refMask_any (W : Int) w' (by omega)
  rw [hMk] at cmk
  obtain ⟨Mk, hMk2⟩ : ∃ Mk, Mk = 2 ^ (8 * W) - 1 := ⟨_, rfl⟩
  rw [← hMk2] at cmk
  have CMK := Lib.hid cmk
  have HMK := Lib.hid hMk2
  have HL := Lib.hid (show (allBits l).length ≤ 8000 by rw [allBits_length]; omega)
  obtain ⟨L, hLe⟩ : ∃ L, L = allBits l := ⟨_, rfl⟩
  rw [← hLe] at C2 HL ho
  obtain ⟨Q, hQ⟩ : ∃ Q, Q = riceOut W n o := ⟨_, rfl⟩
  rw [← hQ]
  have HQ := Lib.hid hQ
  have HO := Lib.hid ho
  have HWW := Lib.hid hW
  obtain ⟨M, hM⟩ : ∃ M, M = n / W := ⟨_, rfl⟩
  obtain ⟨m, hm⟩ : ∃ m, m = n % W := ⟨_, rfl⟩
  rw [← hM] at HO
  have hMi : (n : Int) / (W : Int) = (M : Int) := by rw [hM]; exact (Int.natCast_ediv _ _).symm
  have hmi : (n : Int) % (W : Int) = (m : Int) := by rw [hm]; exact (Int.natCast_emod _ _).symm
  have hmt : (n : Int).tmod (W : Int) = (m : Int) := by rw [Int.tmod_eq_emod_of_nonneg (by omega)]; exact hmi
  have hMn : M ≤ 67108864 := by rw [hM]; exact Nat.le_trans (Nat.div_le_self _ _) hn
  have HM := Lib.hid hm
  have hmW : m < W := by rw [hm]; exact Nat.mod_lt _ (by omega)
  have hni : (n : Int) ≤ 67108864 := by omega
  have hW8 : (W : Int) ≤ 8 := by omega
  have hW1 : (1 : Int) ≤ (W : Int) := by omega
  have hW0 : ¬ (W : Int) = 0 := by omega
  have h8W : (8 : Int) * (W : Int) = ((8 * W : Nat) : Int) := by omega
  have H8W := Lib.hid h8W
  clear hr hLe ho hQ hW h8W hMk cmk hMk2 hM hm hn hl hc
  go_enter Try.func18, Try.ntmps18
  go_wp2_with fail
  refine (C1.out _).mono ?_
  rintro e w' ⟨rfl, rfl⟩
  go_wp2_with fail
  refine C2.out.mono ?_
  rintro e w1 ⟨v1, rfl, hown1, ho1⟩
  have hb1 := ho1.below (Nat.le_refl _)
  obtain ⟨A1, c1, rfl, hc1, -, -⟩ := own_form hown1
  have hk1 : Blk (w1.alloc (.cells #[.slice A1 L.length c1, .int .i64 0] 87)) w1.heap.size 87 [.slice A1 L.length c1, .int .i64 0] := heap_alloc_new w1 _
  have hrd1 : RfrIs (w1.alloc (.cells #[.slice A1 L.length c1, .int .i64 0] 87)) w1.heap.size L 0 :=
    ⟨A1, c1, hk1, RdT.of_own (hown1.alloc _), hc1, by have := HL.out; omega⟩
  have HRD0 := Lib.hid hrd1
  have HG := Lib.hid hb1.size
  have HB0 := Lib.hid (hb1.alloc hb1.size (.cells #[.slice A1 L.length c1, .int .i64 0] 87))
  obtain ⟨g, hg⟩ : ∃ g, g = w1.heap.size := ⟨_, rfl⟩
  rw [← hg] at HRD0 HG
  have HGE := Lib.hid hg
  obtain ⟨w2, hw2⟩ : ∃ w2, w2 = w1.alloc (.cells #[.slice A1 L.length c1, .int .i64 0] 87) := ⟨_, rfl⟩
  rw [← hw2] at HRD0 HB0
  have HW2 := Lib.hid hw2
  clear hown1 ho1 hb1 hk1 hrd1 hg C1 C2 hc1 hw2
  go_wp2_with fail
  rw [← HGE.out, ← HW2.out]
  refine (riceBegin_any w2).mono ?_
  rintro _ w3 ⟨rfl, hb3⟩
  have hrd3 : RfrIs w3 g L 0 := HRD0.out.only (B := w2.heap.size) (ts := []) (OnlyT.of_below hb3) (by simp) (by simp)
  unfold cntV
  obtain ⟨CB, hCB⟩ : ∃ CB, CB = w3.heap.size := ⟨_, rfl⟩
  obtain ⟨w4, hw4⟩ : ∃ w4, w4 = w3.alloc (.cells #[.int .u64 16, .int .u64 1] 89) := ⟨_, rfl⟩
  have hb4 : Below w3.heap.size w3 w4 := by rw [hw4]; exact (Below.refl _ _).alloc (Nat.le_refl _) _
  have HREL := Lib.hid (show RDRel w W M g CB o (.slice none 0 0) (.int .i64 ((0 : Nat) : Int)) w4 from ⟨[], 16, 1, (L, 0), o, Nat.zero_le _, rfl, HO.out, by cases o <;> simp [aheadO], counts_start (D_le HWW.out).1, by simp, rfl, by simpa using HL.out, World.ownsRow_nil _ _ _ _, hrd3.only (B := w3.heap.size) (ts := []) (OnlyT.of_below hb4) (by simp) (by simp), by rw [hw4, hCB]; exact heap_alloc_new w3 _, (HB0.out.trans (hb3.mono HB0.out.size)).trans (hb4.mono (Nat.le_trans HB0.out.size hb3.size))⟩)
  have HW4 := Lib.hid hw4
  have HCB := Lib.hid hCB
  have HCW := Lib.hid (show w.heap.size ≤ CB by rw [hCB]; exact Nat.le_trans HB0.out.size hb3.size)
  clear hb3 hrd3 hCB hw4 hb4 HRD0 HB0 HGE HW2 HO
  go_wp2
  simp only [← HW4.out, ← HCB.out]
  clear HW4 HCB
  go_loopw [9, 11] (RDRel w W M g CB o) (fun _ i _ => M - (intOf i).toNat)
  case atStart => exact HREL.out
  case round =>
    clear HREL
    obtain ⟨X, A0, N0, s, o2, hXM, rfl, hric, hah, hcok, hxs, hs0, hlen, hown, hrd, hblk, hb⟩ := hrel
    obtain ⟨w0, hw0⟩ : ∃ w0, w0 = wr := ⟨_, rfl⟩
    subst hw0
    obtain ⟨Av, cv, rfl, -, -, -⟩ := own_form hown
    have HOWN0 := Lib.hid hown
    have HRD0 := Lib.hid hrd
    have HBL0 := Lib.hid hblk
    have HB0 := Lib.hid hb
    have HXS := Lib.hid hxs
    have hXi : (X.length : Int) ≤ 67108864 := by omega
    by_cases hlt : X.length < M
    · obtain ⟨kk, hkk⟩ : ∃ kk, M - X.length = kk + 1 := ⟨M - X.length - 1, by omega⟩
      rw [hkk] at hric
      obtain ⟨K, hKD, hK⟩ := isK_some hcok.2.2.1
      obtain ⟨x1, x2⟩ := hric.next hK
      have HNONE := Lib.hid (fun (h : riceV (8 * W) K s = none) => (show Q = ([], 16) by rw [HQ.out, ← hah, x1 h]; rfl))
      have HSOME := Lib.hid (fun (v : Nat) (s' : List Bool × Nat) (h : riceV (8 * W) K s = some (v, s')) => (show ∃ o3, RiceR (8 * W) kk (behindA A0 N0 v) (behindN N0) s' o3 ∧ aheadO (X ++ [v]) o3 = o ∧ CountsOk (8 * W) (behindA A0 N0 v) (behindN N0) ∧ v < 2 ^ (8 * W) ∧ s'.2 = 0 ∧ s'.1.length + (X.length + 1) ≤ 8000 by
        obtain ⟨o3, y1, y2⟩ := x2 v s' h
        obtain ⟨z1, z2, z3, z4⟩ := riceV_some h
        exact ⟨o3, y1, by rw [← hah, y2, aheadO_cons], counts_behind hcok z1, z1, z3, by omega⟩))
      have HA0 := Lib.hid (show A0 ≤ 1000000000000 ∧ N0 ≤ 31 from ⟨by obtain ⟨g1, g2, g3, g4⟩ := hcok; omega, hcok.2.1⟩)
      have hK33 := isK_few hcok hK
      have C2 := Lib.hid (fun W' => riceK_any hcok hK W')
      have hP33 : 2 ^ K ≤ 8589934592 := Nat.pow_le_pow_right (n := 2) (by decide) hK33
      have HXM := Lib.hid (show X.length < M ∧ M - X.length = kk + 1 ∧ X.length ≤ 8000 ∧ M ≤ 67108864 from ⟨hlt, hkk, by omega, hMn⟩)
      have hql := onesV_le s
      obtain ⟨q, hq⟩ : ∃ q, q = onesV s 24 := ⟨_, rfl⟩
      obtain ⟨s1, hs1⟩ : ∃ s1, s1 = onesS s 24 := ⟨_, rfl⟩
      have co := fun W' h => rfOnes_st g 24 s W' h (by decide)
      rw [← hq, ← hs1] at co
      rw [← hq] at hql
      have CO := Lib.hid co
      have HQ1 := Lib.hid hq
      have HS1 := Lib.hid hs1
      obtain ⟨P, hP⟩ : ∃ P, P = 2 ^ K := ⟨_, rfl⟩
      rw [← hP] at C2 hP33
      have HP := Lib.hid hP
      unfold cntV at C2
      have hc0 := hblk.cell 0
      have hc1 := hblk.cell 1
      simp only [List.getElem?_cons_zero, List.getElem?_cons_succ] at hc0 hc1
      have hXMi : (X.length : Int) < (M : Int) := by omega
      have hq24 : (q : Int) ≤ 24 := by omega
      clear hXM hric hah hcok hxs hs0 hlen hown hrd hblk hb hkk hKD hK x1 x2 hq hs1 hP co hlt hmi
      go_wp2_with fail
      refine (C2.out w0).mono ?_
      rintro _ w4 ⟨rfl, hb4⟩
      have HOWN4 := Lib.hid (own_kept HOWN0.out hb4)
      have HBL4 := Lib.hid (HBL0.out.grow hb4)
      have HRD4 := Lib.hid (HRD0.out.only (B := w0.heap.size) (ts := []) (OnlyT.of_below hb4) (by simp) (by simp))
      have HB4 := Lib.hid (HB0.out.trans (hb4.mono HB0.out.size))
      clear hb4 HOWN0 HBL0 HRD0 HB0 hc0 hc1 C2
      go_wp2_with fail
      refine (CO.out w4 HRD4.out).mono ?_
      rintro _ w5 ⟨rfl, hrd, ho⟩
      have HOWN5 := Lib.hid (own_only HOWN4.out ho (by decide))
      have HBL5 := Lib.hid (HBL4.out.only ho (by decide))
      have HB5 := Lib.hid (HB4.out.trans (ho.lower HG.out HB4.out.size))
      have HRD5 := Lib.hid hrd
      clear hrd ho HOWN4 HBL4 HB4 HRD4 CO 
      by_cases h24 : q = 24
      · have hqe : ((q : Int) == 24) = true := by rw [h24]; rfl
        have cg := fun W' h => rfGet_st g (8 * W) s1 W' h (D_le HWW.out).2
        rw [← H8W.out] at cg
        obtain ⟨vv, hvv⟩ : ∃ vv, vv = getV s1 (8 * W) := ⟨_, rfl⟩
        obtain ⟨s2, hs2⟩ : ∃ s2, s2 = getS s1 (8 * W) := ⟨_, rfl⟩
        have hVA := riceV_A (D := 8 * W) (K := K) HQ1.out HS1.out h24
        rw [← hvv, ← hs2] at cg hVA
        have CG := Lib.hid cg
        have HVA := Lib.hid hVA
        clear cg hvv hs2 hVA h24
        go_wp2_with fail
        refine (CG.out w5 HRD5.out).mono ?_
        rintro _ w6 ⟨rfl, hrd, ho⟩
        have HOWN6 := Lib.hid (own_only HOWN5.out ho (by decide))
        have HBL6 := Lib.hid (HBL5.out.only ho (by decide))
        have HB6 := Lib.hid (HB5.out.trans (ho.lower HG.out HB5.out.size))
        have HRD6 := Lib.hid hrd
        clear hrd ho HOWN5 HBL5 HB5 HRD5 CG hqe
        have hV := HVA.out
        obtain ⟨e2, he2⟩ : ∃ e2, e2 = s2.2 := ⟨_, rfl⟩
        have hce := HRD6.out.err
        rw [← he2] at hV hce
        clear he2
        have hgl := hce.2
        have hce1 := hce.1
        clear hce
        by_cases he0 : e2 = 0
        · rw [if_pos he0] at hV
          subst he0
          obtain ⟨o3, k1, k2, k3, k4, k5, k6⟩ := HSOME.out _ _ hV
          have HK := Lib.hid (And.intro k1 (And.intro k2 (And.intro k3 (And.intro k4 (And.intro k5 k6)))))
          have CBH := Lib.hid (fun W' => riceBehind_any (A := A0) (N := N0) (v := vv) HA0.out.1 HA0.out.2 (Nat.lt_of_lt_of_le k4 (Nat.pow_le_pow_right (n := 2) (by decide) (D_le HWW.out).2)) W')
          unfold cntV at CBH
          clear hV k1 k2 k3 k4 k5 k6 HNONE HSOME
          go_wp2_with ((with_reducible show wpList _ _ _ (({ dst := some 84, op := _, type := _, pos := _, after := _, guard := _ } : Oper) :: _) _ _); go_must (refine wpList_app rfl (.tmp 81) (.tmp 83) 70 rfl w.heap.size 66 j0 (.int .u64 0) 1 8 Try.underlying70 hj0 hy0 hy1 hy2 rfl (by decide) _ _ _ rfl (HOWN6.out.alloc _) _ _ 1 1 _ rfl (Rd.new _ _ _) rfl (by intro u hu; simp at hu; subst hu; rfl) (by simp only [maxLen]; have := HXM.out; omega) (by have := HXM.out; omega) (by have := HB6.out.size; simp; omega) ?_; intro v7 w17 hown7 hg7; have ha7 : OnlyT w.heap.size [66] w6 (w6.alloc (.cells #[.int .u64 (vv : Int)] 66)) := OnlyT.of_below ((Below.refl _ _).alloc (Nat.le_refl _) _); have ho7 := ha7.trans (OnlyT.grown hg7 (own_type (HOWN6.out.alloc _)) (by simp)); have hbl7 := HBL6.out.only ho7 (by decide); have HRD7 := Lib.hid (HRD6.out.only ho7 (by decide) (by decide)); have HB7 := Lib.hid (HB6.out.trans (ho7.below HB6.out.size)); have HBL7 := Lib.hid hbl7; have HOWN7 := Lib.hid hown7; have hc0 := hbl7.cell 0; have hc1 := hbl7.cell 1; simp only [List.getElem?_cons_zero, List.getElem?_cons_succ] at hc0 hc1; clear hown7 hg7 ha7 ho7 hbl7))
          refine (CBH.out w17).mono ?_
          rintro _ w18 ⟨rfl, hb8⟩
          have hbl8 := HBL7.out.grow hb8
          have HRD8 := Lib.hid (HRD7.out.only (B := w17.heap.size) (ts := []) (OnlyT.of_below hb8) (by simp) (by simp))
          have HB8 := Lib.hid (HB7.out.trans (hb8.mono HB7.out.size))
          have HOWN8 := Lib.hid (own_kept HOWN7.out hb8)
          have hc0 := hbl8.cell 0
          have hc1 := hbl8.cell 1
          have hf0 := hbl8.frozen 0
          have hf1 := hbl8.frozen 1
          simp only [List.getElem?_cons_zero, List.getElem?_cons_succ] at hc0 hc1
          have HBL8 := Lib.hid hbl8
          clear hb8 hbl8 HRD7 HB7 HOWN7 HBL7 CBH HOWN6 HRD6 HB6 HBL6 hce1 hgl
          go_wp2
          have ho9 := (OnlyT.set_ (i := 0) (B := w.heap.size) (ts := [89]) HBL8.out HCW.out (.int .u64 ((behindA A0 N0 vv : Nat) : Int)) (by simp)).trans (OnlyT.set_ (i := 1) (B := w.heap.size) (ts := [89]) (HBL8.out.set_ 0 (.int .u64 ((behindA A0 N0 vv : Nat) : Int))) HCW.out (.int .u64 ((behindN N0 : Nat) : Int)) (by simp))
          go_roundw
          case rel => exact ⟨X ++ [vv], behindA A0 N0 vv, behindN N0, s2, o3, by rw [List.length_append, List.length_singleton]; have := HXM.out; omega, by rw [List.length_append, List.length_singleton]; go_num, by rw [List.length_append, List.length_singleton, show M - (X.length + 1) = kk by have := HXM.out; omega]; exact HK.out.1, HK.out.2.1, HK.out.2.2.1, lt_snoc' HXS.out HK.out.2.2.2.1, HK.out.2.2.2.2.1, by rw [List.length_append, List.length_singleton]; have := HK.out.2.2.2.2.2; have := HXM.out; omega, by rw [List.length_append, List.length_singleton, wvs_snoc']; exact own_only HOWN8.out ho9 (by decide), HRD8.out.only ho9 (by decide) (by decide), (HBL8.out.set_ 0 _).set_ 1 _, HB8.out.trans (ho9.below HB8.out.size)⟩
          case measure => have := HXM.out; simp [intOf]; omega
        · rw [if_neg he0] at hV
          have hQn := HNONE.out hV
          subst hQn
          have hei : ((e2 : Int) == 0) = false := by simp; omega
          have hei2 : ¬ (e2 : Int) = 0 := by omega
          clear hV HNONE HSOME he0
          go_wp2
          go_ret2
          exact ⟨_, rfl, isBytes_nil _, HB6.out⟩
      · have hqe : ((q : Int) == 24) = false := by simp; omega
        by_cases h0 : q = 0
        · have hq0 : decide ((0 : Int) < (q : Int)) = false := by simp; omega
          have hq0b : decide (0 < q) = false := by simp; omega
          have hq0c : ¬ 0 < q := by omega
          have cg := fun W' h => rfGet_st g K s1 W' h (by omega)
          have hgv := getV_lt s1 K
          obtain ⟨gv, hgv2⟩ : ∃ gv, gv = getV s1 K := ⟨_, rfl⟩
          obtain ⟨s2, hs2⟩ : ∃ s2, s2 = getS s1 K := ⟨_, rfl⟩
          rw [← hgv2, ← hs2] at cg
          rw [← hgv2, ← HP.out] at hgv
          have CG := Lib.hid cg
          have hqP : q * P ≤ 24 * 8589934592 := Nat.mul_le_mul hql hP33
          obtain ⟨qp, hqp⟩ : ∃ qp, qp = q * P := ⟨_, rfl⟩
          rw [← hqp] at hqP
          have hw1 : IntKind.u64.wrap ((q : Int) * (P : Int)) = (qp : Int) := by rw [← Int.natCast_mul, ← hqp, IntKind.wrap_u64]; omega
          obtain ⟨vv, hvv⟩ : ∃ vv, vv = qp + gv := ⟨_, rfl⟩
          have hw2 : IntKind.u64.wrap ((qp : Int) + (gv : Int)) = (vv : Int) := by rw [IntKind.wrap_u64]; omega
          have hVD := riceV_D (D := 8 * W) (K := K) HQ1.out HS1.out h24 (fun hh => by omega)
          have hVF := riceV_F (D := 8 * W) (K := K) HQ1.out HS1.out h24 (fun hh => by omega)
          rw [← HP.out, ← hgv2, ← hqp, ← hvv, ← HMK.out] at hVD hVF
          rw [← hs2] at hVF
          have HVD := Lib.hid hVD
          have HVF := Lib.hid hVF
          clear cg hgv hgv2 hs2 hqP hqp hvv hVD hVF h24 h0
          go_wp2_with fail
          refine (CG.out w5 HRD5.out).mono ?_
          rintro _ w6 ⟨rfl, hrd, ho⟩
          have HOWN6 := Lib.hid (own_only HOWN5.out ho (by decide))
          have HBL6 := Lib.hid (HBL5.out.only ho (by decide))
          have HB6 := Lib.hid (HB5.out.trans (ho.lower HG.out HB5.out.size))
          have HRD6 := Lib.hid hrd
          clear hrd ho HOWN5 HBL5 HB5 HRD5 CG 
          go_wp2_with fail
          refine (CMK.out w6).mono ?_
          rintro _ w7 ⟨rfl, hw7⟩
          subst w7
          by_cases hbig : Mk < vv
          · have hbi : (Mk : Int) < (vv : Int) := by omega
            have hQn := HNONE.out (HVD.out hbig)
            subst hQn
            clear HNONE HSOME
            go_wp2
            go_ret2
            exact ⟨_, rfl, isBytes_nil _, HB6.out⟩
          · have hbi : ¬ (Mk : Int) < (vv : Int) := by omega
            have hV := HVF.out hbig
            obtain ⟨e2, he2⟩ : ∃ e2, e2 = s2.2 := ⟨_, rfl⟩
            have hce := HRD6.out.err
            rw [← he2] at hV hce
            clear he2
            have hgl := hce.2
            have hce1 := hce.1
            clear hce
            by_cases he0 : e2 = 0
            · rw [if_pos he0] at hV
              subst he0
              obtain ⟨o3, k1, k2, k3, k4, k5, k6⟩ := HSOME.out _ _ hV
              have HK := Lib.hid (And.intro k1 (And.intro k2 (And.intro k3 (And.intro k4 (And.intro k5 k6)))))
              have CBH := Lib.hid (fun W' => riceBehind_any (A := A0) (N := N0) (v := vv) HA0.out.1 HA0.out.2 (Nat.lt_of_lt_of_le k4 (Nat.pow_le_pow_right (n := 2) (by decide) (D_le HWW.out).2)) W')
              unfold cntV at CBH
              clear hV k1 k2 k3 k4 k5 k6 HNONE HSOME
              go_wp2_with ((with_reducible show wpList _ _ _ (({ dst := some 84, op := _, type := _, pos := _, after := _, guard := _ } : Oper) :: _) _ _); go_must (refine wpList_app rfl (.tmp 81) (.tmp 83) 70 rfl w.heap.size 66 j0 (.int .u64 0) 1 8 Try.underlying70 hj0 hy0 hy1 hy2 rfl (by decide) _ _ _ rfl (HOWN6.out.alloc _) _ _ 1 1 _ rfl (Rd.new _ _ _) rfl (by intro u hu; simp at hu; subst hu; rfl) (by simp only [maxLen]; have := HXM.out; omega) (by have := HXM.out; omega) (by have := HB6.out.size; simp; omega) ?_; intro v7 w17 hown7 hg7; have ha7 : OnlyT w.heap.size [66] w6 (w6.alloc (.cells #[.int .u64 (vv : Int)] 66)) := OnlyT.of_below ((Below.refl _ _).alloc (Nat.le_refl _) _); have ho7 := ha7.trans (OnlyT.grown hg7 (own_type (HOWN6.out.alloc _)) (by simp)); have hbl7 := HBL6.out.only ho7 (by decide); have HRD7 := Lib.hid (HRD6.out.only ho7 (by decide) (by decide)); have HB7 := Lib.hid (HB6.out.trans (ho7.below HB6.out.size)); have HBL7 := Lib.hid hbl7; have HOWN7 := Lib.hid hown7; have hc0 := hbl7.cell 0; have hc1 := hbl7.cell 1; simp only [List.getElem?_cons_zero, List.getElem?_cons_succ] at hc0 hc1; clear hown7 hg7 ha7 ho7 hbl7))
              refine (CBH.out w17).mono ?_
              rintro _ w18 ⟨rfl, hb8⟩
              have hbl8 := HBL7.out.grow hb8
              have HRD8 := Lib.hid (HRD7.out.only (B := w17.heap.size) (ts := []) (OnlyT.of_below hb8) (by simp) (by simp))
              have HB8 := Lib.hid (HB7.out.trans (hb8.mono HB7.out.size))
              have HOWN8 := Lib.hid (own_kept HOWN7.out hb8)
              have hc0 := hbl8.cell 0
              have hc1 := hbl8.cell 1
              have hf0 := hbl8.frozen 0
              have hf1 := hbl8.frozen 1
              simp only [List.getElem?_cons_zero, List.getElem?_cons_succ] at hc0 hc1
              have HBL8 := Lib.hid hbl8
              clear hb8 hbl8 HRD7 HB7 HOWN7 HBL7 CBH HOWN6 HRD6 HB6 HBL6 hce1 hgl
              go_wp2
              have ho9 := (OnlyT.set_ (i := 0) (B := w.heap.size) (ts := [89]) HBL8.out HCW.out (.int .u64 ((behindA A0 N0 vv : Nat) : Int)) (by simp)).trans (OnlyT.set_ (i := 1) (B := w.heap.size) (ts := [89]) (HBL8.out.set_ 0 (.int .u64 ((behindA A0 N0 vv : Nat) : Int))) HCW.out (.int .u64 ((behindN N0 : Nat) : Int)) (by simp))
              go_roundw
              case rel => exact ⟨X ++ [vv], behindA A0 N0 vv, behindN N0, s2, o3, by rw [List.length_append, List.length_singleton]; have := HXM.out; omega, by rw [List.length_append, List.length_singleton]; go_num, by rw [List.length_append, List.length_singleton, show M - (X.length + 1) = kk by have := HXM.out; omega]; exact HK.out.1, HK.out.2.1, HK.out.2.2.1, lt_snoc' HXS.out HK.out.2.2.2.1, HK.out.2.2.2.2.1, by rw [List.length_append, List.length_singleton]; have := HK.out.2.2.2.2.2; have := HXM.out; omega, by rw [List.length_append, List.length_singleton, wvs_snoc']; exact own_only HOWN8.out ho9 (by decide), HRD8.out.only ho9 (by decide) (by decide), (HBL8.out.set_ 0 _).set_ 1 _, HB8.out.trans (ho9.below HB8.out.size)⟩
              case measure => have := HXM.out; simp [intOf]; omega
            · rw [if_neg he0] at hV
              have hQn := HNONE.out hV
              subst hQn
              have hei : ((e2 : Int) == 0) = false := by simp; omega
              have hei2 : ¬ (e2 : Int) = 0 := by omega
              clear hV HNONE HSOME he0
              go_wp2
              go_ret2
              exact ⟨_, rfl, isBytes_nil _, HB6.out⟩
        · have hq0 : (0 : Int) < (q : Int) := by omega
          obtain ⟨mq, hmq⟩ : ∃ mq, mq = Mk / q := ⟨_, rfl⟩
          have hmqle : mq ≤ Mk := by rw [hmq]; exact Nat.div_le_self _ _
          have hMk64 : Mk < 18446744073709551616 := by
            rw [HMK.out]
            have h1 : 2 ^ (8 * W) ≤ 2 ^ 64 := Nat.pow_le_pow_right (n := 2) (by decide) (D_le HWW.out).2
            have h2 : 0 < 2 ^ (8 * W) := Nat.two_pow_pos _
            omega
          have hw0 : IntKind.u64.wrap ((Mk : Int) / (q : Int)) = (mq : Int) := by rw [hmq, ← Int.natCast_ediv, IntKind.wrap_u64]; rw [hmq] at hmqle; omega
          have hqn : ¬ (q : Int) = 0 := by omega
          have HMQ := Lib.hid hmq
          have hPi0 : (0 : Int) ≤ (P : Int) := by omega
          clear hmq hmqle hMk64
          go_wp2_with fail
          refine (CMK.out w5).mono ?_
          rintro _ w7 ⟨rfl, hw7⟩
          subst w7
          by_cases hcc : mq < P
          · have hci : (mq : Int) < (P : Int) := by omega
            have hQn := HNONE.out (riceV_C HQ1.out HS1.out h24 ⟨by omega, by rw [← HMK.out, ← HMQ.out, ← HP.out]; exact hcc⟩)
            subst hQn
            clear HNONE HSOME
            go_wp2
            go_ret2
            exact ⟨_, rfl, isBytes_nil _, HB5.out⟩
          · have hci : ¬ (mq : Int) < (P : Int) := by omega
            have cg := fun W' h => rfGet_st g K s1 W' h (by omega)
            have hgv := getV_lt s1 K
            obtain ⟨gv, hgv2⟩ : ∃ gv, gv = getV s1 K := ⟨_, rfl⟩
            obtain ⟨s2, hs2⟩ : ∃ s2, s2 = getS s1 K := ⟨_, rfl⟩
            rw [← hgv2, ← hs2] at cg
            rw [← hgv2, ← HP.out] at hgv
            have CG := Lib.hid cg
            have hqP : q * P ≤ 24 * 8589934592 := Nat.mul_le_mul hql hP33
            obtain ⟨qp, hqp⟩ : ∃ qp, qp = q * P := ⟨_, rfl⟩
            rw [← hqp] at hqP
            have hw1 : IntKind.u64.wrap ((q : Int) * (P : Int)) = (qp : Int) := by rw [← Int.natCast_mul, ← hqp, IntKind.wrap_u64]; omega
            obtain ⟨vv, hvv⟩ : ∃ vv, vv = qp + gv := ⟨_, rfl⟩
            have hw2 : IntKind.u64.wrap ((qp : Int) + (gv : Int)) = (vv : Int) := by rw [IntKind.wrap_u64]; omega
            have hVD := riceV_D (D := 8 * W) (K := K) HQ1.out HS1.out h24 (fun hh => hcc (by rw [HMQ.out, HP.out, HMK.out]; exact hh.2))
            have hVF := riceV_F (D := 8 * W) (K := K) HQ1.out HS1.out h24 (fun hh => hcc (by rw [HMQ.out, HP.out, HMK.out]; exact hh.2))
            rw [← HP.out, ← hgv2, ← hqp, ← hvv, ← HMK.out] at hVD hVF
            rw [← hs2] at hVF
            have HVD := Lib.hid hVD
            have HVF := Lib.hid hVF
            clear cg hgv hgv2 hs2 hqP hqp hvv hVD hVF h24 h0 hcc
            go_wp2_with fail
            refine (CG.out w5 HRD5.out).mono ?_
            rintro _ w6 ⟨rfl, hrd, ho⟩
            have HOWN6 := Lib.hid (own_only HOWN5.out ho (by decide))
            have HBL6 := Lib.hid (HBL5.out.only ho (by decide))
            have HB6 := Lib.hid (HB5.out.trans (ho.lower HG.out HB5.out.size))
            have HRD6 := Lib.hid hrd
            clear hrd ho HOWN5 HBL5 HB5 HRD5 CG 
            go_wp2_with fail
            refine (CMK.out w6).mono ?_
            rintro _ w7 ⟨rfl, hw7⟩
            subst w7
            by_cases hbig : Mk < vv
            · have hbi : (Mk : Int) < (vv : Int) := by omega
              have hQn := HNONE.out (HVD.out hbig)
              subst hQn
              clear HNONE HSOME
              go_wp2
              go_ret2
              exact ⟨_, rfl, isBytes_nil _, HB6.out⟩
            · have hbi : ¬ (Mk : Int) < (vv : Int) := by omega
              have hV := HVF.out hbig
              obtain ⟨e2, he2⟩ : ∃ e2, e2 = s2.2 := ⟨_, rfl⟩
              have hce := HRD6.out.err
              rw [← he2] at hV hce
              clear he2
              have hgl := hce.2
              have hce1 := hce.1
              clear hce
              by_cases he0 : e2 = 0
              · rw [if_pos he0] at hV
                subst he0
                obtain ⟨o3, k1, k2, k3, k4, k5, k6⟩ := HSOME.out _ _ hV
                have HK := Lib.hid (And.intro k1 (And.intro k2 (And.intro k3 (And.intro k4 (And.intro k5 k6)))))
                have CBH := Lib.hid (fun W' => riceBehind_any (A := A0) (N := N0) (v := vv) HA0.out.1 HA0.out.2 (Nat.lt_of_lt_of_le k4 (Nat.pow_le_pow_right (n := 2) (by decide) (D_le HWW.out).2)) W')
                unfold cntV at CBH
                clear hV k1 k2 k3 k4 k5 k6 HNONE HSOME
                go_wp2_with ((with_reducible show wpList _ _ _ (({ dst := some 84, op := _, type := _, pos := _, after := _, guard := _ } : Oper) :: _) _ _); go_must (refine wpList_app rfl (.tmp 81) (.tmp 83) 70 rfl w.heap.size 66 j0 (.int .u64 0) 1 8 Try.underlying70 hj0 hy0 hy1 hy2 rfl (by decide) _ _ _ rfl (HOWN6.out.alloc _) _ _ 1 1 _ rfl (Rd.new _ _ _) rfl (by intro u hu; simp at hu; subst hu; rfl) (by simp only [maxLen]; have := HXM.out; omega) (by have := HXM.out; omega) (by have := HB6.out.size; simp; omega) ?_; intro v7 w17 hown7 hg7; have ha7 : OnlyT w.heap.size [66] w6 (w6.alloc (.cells #[.int .u64 (vv : Int)] 66)) := OnlyT.of_below ((Below.refl _ _).alloc (Nat.le_refl _) _); have ho7 := ha7.trans (OnlyT.grown hg7 (own_type (HOWN6.out.alloc _)) (by simp)); have hbl7 := HBL6.out.only ho7 (by decide); have HRD7 := Lib.hid (HRD6.out.only ho7 (by decide) (by decide)); have HB7 := Lib.hid (HB6.out.trans (ho7.below HB6.out.size)); have HBL7 := Lib.hid hbl7; have HOWN7 := Lib.hid hown7; have hc0 := hbl7.cell 0; have hc1 := hbl7.cell 1; simp only [List.getElem?_cons_zero, List.getElem?_cons_succ] at hc0 hc1; clear hown7 hg7 ha7 ho7 hbl7))
                refine (CBH.out w17).mono ?_
                rintro _ w18 ⟨rfl, hb8⟩
                have hbl8 := HBL7.out.grow hb8
                have HRD8 := Lib.hid (HRD7.out.only (B := w17.heap.size) (ts := []) (OnlyT.of_below hb8) (by simp) (by simp))
                have HB8 := Lib.hid (HB7.out.trans (hb8.mono HB7.out.size))
                have HOWN8 := Lib.hid (own_kept HOWN7.out hb8)
                have hc0 := hbl8.cell 0
                have hc1 := hbl8.cell 1
                have hf0 := hbl8.frozen 0
                have hf1 := hbl8.frozen 1
                simp only [List.getElem?_cons_zero, List.getElem?_cons_succ] at hc0 hc1
                have HBL8 := Lib.hid hbl8
                clear hb8 hbl8 HRD7 HB7 HOWN7 HBL7 CBH HOWN6 HRD6 HB6 HBL6 hce1 hgl
                go_wp2
                have ho9 := (OnlyT.set_ (i := 0) (B := w.heap.size) (ts := [89]) HBL8.out HCW.out (.int .u64 ((behindA A0 N0 vv : Nat) : Int)) (by simp)).trans (OnlyT.set_ (i := 1) (B := w.heap.size) (ts := [89]) (HBL8.out.set_ 0 (.int .u64 ((behindA A0 N0 vv : Nat) : Int))) HCW.out (.int .u64 ((behindN N0 : Nat) : Int)) (by simp))
                go_roundw
                case rel => exact ⟨X ++ [vv], behindA A0 N0 vv, behindN N0, s2, o3, by rw [List.length_append, List.length_singleton]; have := HXM.out; omega, by rw [List.length_append, List.length_singleton]; go_num, by rw [List.length_append, List.length_singleton, show M - (X.length + 1) = kk by have := HXM.out; omega]; exact HK.out.1, HK.out.2.1, HK.out.2.2.1, lt_snoc' HXS.out HK.out.2.2.2.1, HK.out.2.2.2.2.1, by rw [List.length_append, List.length_singleton]; have := HK.out.2.2.2.2.2; have := HXM.out; omega, by rw [List.length_append, List.length_singleton, wvs_snoc']; exact own_only HOWN8.out ho9 (by decide), HRD8.out.only ho9 (by decide) (by decide), (HBL8.out.set_ 0 _).set_ 1 _, HB8.out.trans (ho9.below HB8.out.size)⟩
                case measure => have := HXM.out; simp [intOf]; omega
              · rw [if_neg he0] at hV
                have hQn := HNONE.out hV
                subst hQn
                have hei : ((e2 : Int) == 0) = false := by simp; omega
                have hei2 : ¬ (e2 : Int) = 0 := by omega
                clear hV HNONE HSOME he0
                go_wp2
                go_ret2
                exact ⟨_, rfl, isBytes_nil _, HB6.out⟩
    · have hXe : M - X.length = 0 := by omega
      rw [hXe] at hric
      have ho2 : o2 = some ([], s) := by cases hric; rfl
      have hoe : o = some (X, s) := by rw [← hah, ho2]; simp [aheadO]
      have hQe := HQ.out
      rw [hoe] at hQe
      unfold riceOut at hQe
      simp only at hQe
      rw [← HM.out] at hQe
      have hXM8 : X.length ≤ 8000 := by omega
      have hRl := restF_len m s
      obtain ⟨R, hR⟩ : ∃ R, R = (restF m s).1 := ⟨_, rfl⟩
      obtain ⟨SE, hSE⟩ : ∃ SE, SE = (restF m s).2 := ⟨_, rfl⟩
      rw [← hR] at hQe hRl
      rw [← hSE] at hQe
      have HQE := Lib.hid hQe
      have HRL := Lib.hid hRl
      have HX8 := Lib.hid hXM8
      have hmi8 : (m : Int) ≤ 8 := by omega
      have HREL2 := Lib.hid (show RDRel2 w m g X (.slice Av X.length cv) R SE (.slice none 0 0) (.int .i64 ((0 : Nat) : Int)) w0 from ⟨0, [], s, Nat.zero_le _, rfl, rfl, by rw [hR]; rfl, hSE.symm, World.ownsRow_nil _ _ _ _, HOWN0.out, HRD0.out, HB0.out⟩)
      have HMW := Lib.hid hmW
      obtain rfl : X.length = M := by omega
      clear hric ho2 hoe hQe hXe hah hcok hxs hs0 hlen hown hrd hblk hb hR hSE hRl hXM8 HRD0 HBL0 HB0 HOWN0 hXM hlt HQ
      go_wp2
      go_loopw [16, 17] (RDRel2 w m g X (.slice Av X.length cv) R SE) (fun _ i _ => m - (intOf i).toNat)
      case atStart => exact HREL2.out
      case round =>
        clear HREL2
        obtain ⟨j, rs, s3, hj, rfl, hrs, hrR, hrS, hown, hownX, hrd, hb⟩ := hrel
        obtain ⟨Ar, cr, rfl, -, -, -⟩ := own_form hown
        have HOWN := Lib.hid hown
        have HOX := Lib.hid hownX
        have HRD := Lib.hid hrd
        have HB := Lib.hid hb
        by_cases hlt2 : j < m
        · obtain ⟨t, ht⟩ : ∃ t, m - j = t + 1 := ⟨m - j - 1, by omega⟩
          rw [ht] at hrR hrS
          have cg := fun W' h => rfGet_st g 8 s3 W' h (by decide)
          have hgv := getV_lt s3 8
          simp only [restF] at hrR hrS
          obtain ⟨gv, hgv2⟩ : ∃ gv, gv = getV s3 8 := ⟨_, rfl⟩
          obtain ⟨s4, hs4⟩ : ∃ s4, s4 = getS s3 8 := ⟨_, rfl⟩
          rw [← hgv2, ← hs4] at cg
          rw [← hgv2] at hgv hrR
          rw [← hs4] at hrR hrS
          have CG := Lib.hid cg
          have HH := Lib.hid (And.intro hrs (And.intro hrR (And.intro hrS (show j < m ∧ m - (j + 1) = t from ⟨hlt2, by omega⟩))))
          have hjm : (j : Int) < (m : Int) := by omega
          have hg256 : gv < 256 := by simpa using hgv
          clear hrs hrR hrS hown hownX hrd hb cg hgv hgv2 hs4 ht hlt2 hj
          go_wp2_with fail
          refine (CG.out wr HRD.out).mono ?_
          rintro _ w5 ⟨rfl, hrd, ho⟩
          have HOWN5 := Lib.hid (own_only HOWN.out ho (by decide))
          have HOX5 := Lib.hid (own_only HOX.out ho (by decide))
          have HB5 := Lib.hid (HB.out.trans (ho.lower HG.out HB.out.size))
          have HRD5 := Lib.hid hrd
          have hmW2 := HMW.out
          clear hrd ho HOWN HOX HB HRD CG
          go_wp2_with ((with_reducible show wpList _ _ _ (({ dst := some 100, op := _, type := _, pos := _, after := _, guard := _ } : Oper) :: _) _ _); go_must (refine wpList_app rfl (.tmp 95) (.tmp 99) 22 rfl w.heap.size 5 i0 (.int .u8 0) 1 1 Try.underlying22 hi0 hz0 hz1 hz2 rfl (by decide) _ _ _ rfl (HOWN5.out.alloc _) _ _ 1 1 _ rfl (Rd.new _ _ _) rfl (by intro u hu; simp at hu; subst hu; rfl) (by simp only [maxLen]; omega) (by omega) (by have := HB5.out.size; simp; omega) ?_; intro v7 w7 hown7 hg7; have ha7 : OnlyT w.heap.size [5] w5 (w5.alloc (.cells #[.int .u8 (gv : Int)] 5)) := OnlyT.of_below ((Below.refl _ _).alloc (Nat.le_refl _) _); have ho7 := ha7.trans (OnlyT.grown hg7 (own_type (HOWN5.out.alloc _)) (by simp)); have HE := Lib.hid (And.intro hown7 (And.intro (own_only HOX5.out ho7 (by decide)) (And.intro (HRD5.out.only ho7 (by decide) (by decide)) (HB5.out.trans (ho7.below HB5.out.size))))); clear hown7 hg7 ha7 ho7))
          have h8 : (UInt8.ofNat gv).toNat = gv := by simp [UInt8.toNat_ofNat']; omega
          have hbv : bvs (rs ++ [UInt8.ofNat gv]) = bvs rs ++ [.int .u8 (gv : Int)] := by simp [bvs, h8]
          go_roundw
          case rel => exact ⟨j + 1, rs ++ [UInt8.ofNat gv], s4, by have := HH.out.2.2.2.1; omega, by go_num, by rw [List.length_append, List.length_singleton, HH.out.1], by rw [HH.out.2.2.2.2, List.append_assoc]; exact HH.out.2.1, by rw [HH.out.2.2.2.2]; exact HH.out.2.2.1, by rw [hbv]; exact HE.out.1, HE.out.2.1, HE.out.2.2.1, HE.out.2.2.2⟩
          case measure => have := HH.out.2.2.2.1; simp [intOf]; omega
        · obtain rfl : j = m := by omega
          rw [Nat.sub_self] at hrR hrS
          simp only [restF, List.append_nil] at hrR hrS
          subst hrR hrS
          have CD := Lib.hid (rfDone_st g s3 wr hrd)
          obtain ⟨E, hE⟩ : ∃ E, E = doneE s3 := ⟨_, rfl⟩
          rw [← hE] at CD HQE
          obtain ⟨Ax, cx, hx, -, -, -⟩ := own_form hownX
          have CL := Lib.hid (refLay_any W HWW.out Av X.length cv X Ar rs.length cr rs wr (Rd.of_own hownX) rfl (fun x hx => Nat.lt_of_lt_of_le (HXS.out x hx) (Nat.pow_le_pow_right (n := 2) (by decide) (D_le HWW.out).2)) (by rw [← hrs] at hown; exact Rd.of_own hown) rfl (by have := HX8.out; omega) (by have := HMW.out; omega))
          have hrl := hrs
          clear hown hownX hrd hb hE hx hj hlt2 hrs HRL
          by_cases hE0 : E = 0
          · subst hE0
            have hQe := HQE.out
            rw [if_pos rfl] at hQe
            subst hQe
            rw [hrl] at CL
            go_wp2_with fail
            refine CD.out.mono ?_
            rintro _ w5 ⟨rfl, hw5⟩
            subst w5
            go_wp2_with fail
            refine CL.out.mono ?_
            rintro _ w6 ⟨v6, rfl, h6, hb6⟩
            have HE := Lib.hid (And.intro h6 (HB.out.trans (hb6.mono HB.out.size)))
            clear h6 hb6 CL CD
            go_wp2
            go_ret2
            exact ⟨_, rfl, HE.out.1, HE.out.2⟩
          · have hQe := HQE.out
            rw [if_neg hE0] at hQe
            subst hQe
            have hei : ((E : Int) == 0) = false := by simp; omega
            have hei2 : ¬ (E : Int) = 0 := by omega
            clear hE0 CL
            go_wp2_with fail
            refine CD.out.mono ?_
            rintro _ w5 ⟨rfl, hw5⟩
            subst w5
            clear CD
            go_wp2
            go_ret2
            exact ⟨_, rfl, isBytes_nil _, HB.out⟩
end Go.Proofs.Ytfdgnhfppginiaa
