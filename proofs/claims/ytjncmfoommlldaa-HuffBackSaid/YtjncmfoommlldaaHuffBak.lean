/- Layer 22: how many bits there are; the law HuffBack. -/
import Derived.Test.YtjncmfoommlldaaHuffLaws
import Derived.Test.YtjncmfoommlldaaRegion3
namespace Go.Proofs.Ytjncmfoommlldaa
open Go.RowKit Go.Sort Go.Shelf

/-- Numbers times numbers, together. -/
def dotI : List Int → List Int → Int
  | x :: c, y :: o => x * y + dotI c o
  | _, _ => 0
theorem dotI_take : ∀ (c o : List Int) {k : Nat} (h : k < c.length) (h' : k < o.length), dotI (c.take (k + 1)) (o.take (k + 1)) = dotI (c.take k) (o.take k) + c[k] * o[k]
  | [], _, _, h, _ => by simp at h
  | _ :: _, [], _, _, h' => by simp at h'
  | x :: c, y :: o, 0, _, _ => by simp [dotI]
  | x :: c, y :: o, k + 1, h, h' => by
    have := dotI_take c o (k := k) (by simpa using h) (by simpa using h')
    simp only [List.take_succ_cons, dotI, List.getElem_cons_succ] at this ⊢
    omega
theorem dotI_set : ∀ (c o : List Int) {i : Nat} (h : i < c.length) (h' : i < o.length), dotI (c.set i (c[i] + 1)) o = dotI c o + o[i]
  | [], _, _, h, _ => by simp at h
  | _ :: _, [], _, _, h' => by simp at h'
  | x :: c, y :: o, 0, _, _ => by
    simp only [List.set_cons_zero, dotI, List.getElem_cons_zero, Int.add_mul]
    omega
  | x :: c, y :: o, i + 1, h, h' => by
    have := dotI_set c o (i := i) (by simpa using h) (by simpa using h')
    simp only [List.set_cons_succ, dotI, List.getElem_cons_succ] at this ⊢
    omega
theorem dotI_zero : ∀ (n : Nat) (o : List Int), dotI (List.replicate n 0) o = 0
  | 0, _ => rfl
  | n + 1, [] => rfl
  | n + 1, y :: o => by rw [List.replicate_succ, dotI, dotI_zero n o]; omega
theorem letters_dot {on : List Nat} (hn : on.length = 256) (l : List UInt8) : ((lettersB on l).length : Int) = dotI (cntL l) (intL on) := by
  have key : ∀ k, k ≤ l.length → ((lettersB on (l.take k)).length : Int) = dotI (cntL (l.take k)) (intL on) := by
    intro k
    induction k with
    | zero =>
      intro _
      rw [List.take_zero, show cntL [] = List.replicate 256 0 from rfl, dotI_zero]
      rfl
    | succ k ih =>
      intro hk
      have ih := ih (by omega)
      have hkl : k < l.length := by omega
      rw [lettersB_next on l hkl, List.length_append, letB_len, cntL_take l hkl]
      unfold cntStep
      have hb : (l[k]).toNat < (cntL (l.take k)).length := by rw [cntL_len]; exact (l[k]).toNat_lt
      have hb2 : (l[k]).toNat < (intL on).length := by rw [intL_len, hn]; exact (l[k]).toNat_lt
      have hb3 : (l[k]).toNat < on.length := by rw [hn]; exact (l[k]).toNat_lt
      have e1 : (cntL (l.take k)).getD (l[k]).toNat 0 = (cntL (l.take k))[(l[k]).toNat] := by simp [List.getD_eq_getElem?_getD, hb]
      rw [e1, dotI_set _ _ hb hb2, ← ih]
      have e2 : (intL on)[(l[k]).toNat] = ((on.getD (l[k]).toNat 0 : Nat) : Int) := by
        simp [intL, List.getD_eq_getElem?_getD, hb3]
      rw [e2]
      omega
  have := key l.length (Nat.le_refl _)
  rwa [List.take_length] at this
theorem lens_pos : ∀ on : List Nat, (lensB on).length = on.length + 4 * (posL (intL on)).length
  | [] => rfl
  | x :: on => by
    have ih := lens_pos on
    unfold lensB intL posL at *
    rw [List.flatMap_cons, List.length_append, lenB_len, ih, List.length_cons, List.map_cons]
    by_cases h : x = 0
    · subst h
      rw [List.filter_cons_of_neg (by decide)]
      omega
    · rw [List.filter_cons_of_pos (by simp; omega), List.length_cons]
      omega
theorem pos_same {c o : List Int} (h : LensOfR c o) (hc : ∀ x ∈ c, 0 ≤ x) : (posL o).length = (posL c).length := by
  rw [posL_many, posL_many]
  congr 1
  apply List.ext_getElem (by rw [List.length_map, List.length_map]; exact h.len)
  intro i h1 h2
  rw [List.getElem_map, List.getElem_map]
  rw [List.length_map] at h1 h2
  have := lens_at h hc h1 h2
  have h3 := hc _ (List.getElem_mem h2)
  unfold posB
  exact decide_eq_decide.2 (by omega)
/-- **P22.4**: 256 bits, 4 for each letter that is there, and each letter's len as often as it is there. -/
theorem huff_bits {l : List UInt8} {o : List Int} (hne : l ≠ []) (h : LensOfR (cntL l) o) : ((huffB (natL o) l).length : Int) = 256 + dotI (cntL l) o + 4 * (posL (cntL l)).length := by
  have hT := lensT_of hne h
  have hnn := cntL_nn l
  have hok := cBad_none.1 (lens_ok h hnn)
  have hio := intL_natL (fun x hx => (hok x hx).1)
  have h1 := letters_dot hT.len l
  have h2 := lens_pos (natL o)
  have h3 := pos_same h hnn
  rw [hio] at h1 h2
  rw [hT.len] at h2
  unfold huffB
  rw [List.length_append]
  omega
/-- How many bits up to a letter. -/
def bitsK (c o : List Int) (k : Nat) : Int := 256 + dotI (c.take k) (o.take k) + 4 * (rankL c k : Nat)
theorem bitsK_next {c o : List Int} {k : Nat} (h : k < c.length) (h' : k < o.length) (h0 : 0 ≤ c[k]) : bitsK c o (k + 1) = bitsK c o k + c[k] * o[k] + 4 * min c[k] 1 := by
  unfold bitsK
  rw [dotI_take c o h h', rankL_succ c k h]
  by_cases e : 0 < c[k]
  · rw [if_pos e]; omega
  · rw [if_neg e]; omega
theorem prod_le {x y : Int} (hx0 : 0 ≤ x) (hx : x ≤ 1500) (hy0 : 0 ≤ y) (hy : y ≤ 15) : 0 ≤ x * y ∧ x * y ≤ 22500 := by
  refine ⟨Int.mul_nonneg hx0 hy0, ?_⟩
  have := Int.mul_le_mul hx hy hy0 (by decide)
  omega
theorem own_noneH (w : World) (base : Nat) (t : TypeId) (hb : base ≤ w.heap.size) : (w.alloc (.cells #[] t)).ownsRow base t 1 (.slice (some ⟨w.heap.size, 0, none⟩) 0 0) 0 [] :=
  ⟨by simp, .inr ⟨w.heap.size, 0, #[], rfl, hb, heap_alloc_new w _, Nat.le_refl _, Nat.zero_le _, rfl, rfl⟩⟩
set_option maxHeartbeats 4000000 in
set_option maxRecDepth 100000 in
theorem huffBack_core (A : Option Addr) (c : Nat) (l : List UInt8) (w : World) (hr : Rd w w.heap.size A (bvs l)) (hLc : l.length ≤ c) (hs : l.length ≤ 1500) (hne : l ≠ []) :
    Calls Try.prog 4 #[.slice A l.length c] w (Yes w) := by
  obtain ⟨i0, hi, hz0, hz1, hz2⟩ := info_parts info_u8'
  have CK := Lib.hid huffKnown_any
  have HR := Lib.hid (bytes_row hr rfl hLc)
  obtain ⟨Q, hQ⟩ := huffQ_some hs hr
  have C1 := Lib.hid (fun (W : World) (h : IsBytes l (.slice A l.length c) W) => huffCode_q hQ hs _ W h)
  have C2 := Lib.hid (fun (v : Value) (W : World) (h : IsBytes Q v W) => (huffBack_q hQ hne hs v W).1 h)
  have C3 := Lib.hid (fun (v : Value) (W : World) (h : IsBytes (Q ++ [0]) v W) => (huffBack_q hQ hne hs v W).2 h)
  have C4 := Lib.hid (fun (W : World) (h : Rd W W.heap.size A (bvs l)) => rnCount_any (w := W) (m := c) h rfl (by omega))
  have HQ := Lib.hid (show ∃ o, LensOfR (cntL l) o ∧ Packs Q (huffB (natL o) l) by
    rcases hQ with ⟨h, -⟩ | ⟨-, h⟩
    · exact absurd h hne
    · exact h)
  have hlenb : Q.length ≤ 5000 := by
    obtain ⟨o, ho, hp⟩ := HQ.out
    have h1 := huffB_len (lensT_of hne ho) hs
    have h2 := hp.1
    omega
  have hgd := good_bad.2 (cntL_good (l := l) hs)
  have HGD := Lib.hid hgd
  have HNE := Lib.hid hne
  have HRD := Lib.hid hr
  obtain ⟨n, hn⟩ : ∃ n, n = l.length := ⟨_, rfl⟩
  have hn0 : ¬ (n : Int) = 0 := by
    have := List.length_pos_iff.2 hne
    omega
  have hni : ¬ (1500 : Int) < (n : Int) := by omega
  rw [← hn] at C1 C2 C3 C4 HR ⊢
  have HLN := Lib.hid hn
  clear hr hQ hgd hne hn hLc hs
  go_enter Try.func4, Try.ntmps4
  go_wp2_with fail
  refine (C1.out _ HR.out).mono ?_
  rintro e w1 ⟨v1, rfl, hv1, hb1⟩
  have HV1 := Lib.hid hv1
  have HR1 := Lib.hid (HR.out.grow hb1)
  have HB1 := Lib.hid hb1
  obtain ⟨A1, c1, rfl, hc1, hrq⟩ := hv1
  have HRQ1 := Lib.hid hrq
  clear hrq hb1 C1 HR
  go_wp2_with fail
  refine (C2.out _ _ HV1.out).mono ?_
  rintro e w2 ⟨v2, rfl, hv2, hb2⟩
  have HV2 := Lib.hid hv2
  have HR2 := Lib.hid (HR1.out.grow hb2)
  have HRQ2 := Lib.hid ((HRQ1.out.below hb2).more hb2.size)
  have HB2 := Lib.hid (HB1.out.trans (hb2.mono HB1.out.size))
  clear hv2 hb2 C2 HR1 HRQ1 HB1 HV1
  go_wp2_with (first
    | ((with_reducible show wpList _ _ _ (({ dst := some 33, op := _, type := _, pos := _, after := _, guard := _ } : Oper) :: _) _ _); go_must (refine wpList_app rfl (.tmp 31) (.tmp 32) 22 rfl w2.heap.size 5 i0 (.int .u8 0) 1 1 Try.underlying22 hi hz0 hz1 hz2 rfl (by decide) _ _ _ rfl (own_noneH w2 w2.heap.size 5 (Nat.le_refl _)) w2.heap.size A1 Q.length _ (bvs Q) rfl (HRQ2.out.below ((Below.refl _ _).alloc (Nat.le_refl _) _)) (by rw [bvs_length, Nat.mul_one]) (bvs_one _) (by simp only [maxLen]; omega) (by omega) (by simp) ?_; intro v3 w3 hown3 hg3; have hb3 : Below w2.heap.size w2 w3 := ((Below.refl _ _).alloc (Nat.le_refl _) _).grown hg3 (by simp) (own_block (own_noneH w2 w2.heap.size 5 (Nat.le_refl _))); clear hg3; have HW3 := Lib.hid hown3; have HB3 := Lib.hid hb3; clear hown3 hb3))
    | ((with_reducible show wpList _ _ _ (({ dst := some 35, op := _, type := _, pos := _, after := _, guard := _ } : Oper) :: _) _ _); go_must (refine wpList_app rfl (.tmp 33) (.tmp 34) 22 rfl w2.heap.size 5 i0 (.int .u8 0) 1 1 Try.underlying22 hi hz0 hz1 hz2 rfl (by decide) _ _ _ rfl (HW3.out.alloc _) _ _ 1 1 _ rfl (Rd.new _ #[.int .u8 0] _) rfl (by intro u hu; simp at hu; subst hu; rfl) (by simp only [maxLen]; omega) (by omega) (by have := HB3.out.size; simp; omega) ?_; intro v4 w4 hown4 hg4; have hb4 : Below w2.heap.size w2 w4 := (HB3.out.alloc HB3.out.size _).grown hg4 (by have := HB3.out.size; simp; omega) (own_block HW3.out); clear hg4; have HW4 := Lib.hid hown4; have HB4 := Lib.hid hb4; clear hown4 hb4)))
  have hown5 : w4.ownsRow w2.heap.size 5 1 v4 (Q ++ [0]).length (bvs (Q ++ [0])) := by
    have h5 := HW4.out
    rw [List.length_append, bvs_append]
    have e7 : bvs [(0 : UInt8)] = [.int .u8 0] := rfl
    rw [e7]
    simpa using h5
  have HV5 := Lib.hid (IsBytes.of_own hown5)
  have HV4 := Lib.hid (HV2.out.grow HB4.out)
  have HR4 := Lib.hid (HR2.out.grow HB4.out)
  have HBB4 := Lib.hid (HB2.out.trans (HB4.out.mono HB2.out.size))
  clear hown5 HW4 HW3 HB3 HB4 HV2 HR2 HB2 HRQ2
  refine (C3.out _ _ HV5.out).mono ?_
  rintro e w5 ⟨v5, rfl, -, hb5⟩
  have HV6 := Lib.hid (HV4.out.grow hb5)
  have HR5 := Lib.hid (HR4.out.grow hb5)
  have HB5 := Lib.hid (HBB4.out.trans (hb5.mono HBB4.out.size))
  clear hb5 C3 HV4 HR4 HBB4 HV5
  go_wp2_with fail
  refine (C4.out w5 ((HRD.out.below HB5.out).more HB5.out.size)).mono ?_
  rintro e w6 ⟨g1, rfl, -, hk1, hb6⟩
  have C5 := Lib.hid (ref_Of (m := 256) (Rd.of_blk hk1) (cntL_len l) (by decide))
  have HK1 := Lib.hid hk1
  have HV7 := Lib.hid (HV6.out.grow hb6)
  have HR6 := Lib.hid (HR5.out.grow hb6)
  have HB6 := Lib.hid (HB5.out.trans (hb6.mono HB5.out.size))
  clear hk1 hb6 C4 HV6 HR5 HB5
  go_wp2_with fail
  refine C5.out.mono ?_
  rintro e w7 ⟨he, hb7⟩
  obtain ⟨v7, o, rfl, ho, hv⟩ : ∃ v o, e = .returned v ∧ LensOfR (cntL l) o ∧ LensV w6.heap.size o v w7 := by
    rcases he with ⟨-, h⟩ | ⟨v, out, h1, -, h2, h3⟩
    · rw [HGD.out] at h; cases h
    · exact ⟨v, out, h1, h2, h3⟩
  have hol := ho.len.trans (cntL_len l)
  obtain ⟨g2, n2, rfl, hn2, -, hblk⟩ := hv
  obtain rfl : n2 = 256 := by omega
  obtain ⟨LB, hLB, hQL⟩ : ∃ LB : Nat, bitsK (cntL l) o 256 = (LB : Int) ∧ Q.length = (LB + 7) / 8 := by
    obtain ⟨o', ho', hp⟩ := HQ.out
    obtain rfl := ho'.one ho
    refine ⟨(huffB (natL o') l).length, ?_, hp.1⟩
    rw [huff_bits HNE.out ho]
    unfold bitsK
    rw [List.take_of_length_le (Nat.le_of_eq (cntL_len l)), List.take_of_length_le (Nat.le_of_eq hol), ← cntL_len l, rankL_all]
  have hnn := cntL_nn l
  have hok := cBad_none.1 (lens_ok ho hnn)
  have hcl := cntL_le l
  have HC1 := Lib.hid (Rd.of_blk (HK1.out.grow hb7))
  have HC2 := Lib.hid (Rd.of_blk hblk)
  have HO := Lib.hid (And.intro hol (And.intro hok hcl))
  have HV8 := Lib.hid (HV7.out.grow hb7)
  have HR7 := Lib.hid (HR6.out.grow hb7)
  have HB7 := Lib.hid (HB6.out.trans (hb7.mono HB6.out.size))
  have HLB := Lib.hid (And.intro hLB hQL)
  obtain ⟨QN, hQN⟩ : ∃ QN, QN = Q.length := ⟨_, rfl⟩
  rw [← hQN] at hlenb ⊢
  have HQN := Lib.hid hQN
  clear he hb7 ho hol hn2 hblk hnn hok hcl hLB hQL C5 HK1 HV7 HR6 HB6 HQ HGD hQN
  go_wp2
  go_loopw [10, 11] (fun bv i wr => ∃ (k : Nat) (T : Int), k ≤ 256 ∧ i = .int .i64 (k : Int) ∧ bv = .int .i64 T ∧ Hid (T = bitsK (cntL l) o k) ∧ 0 ≤ T ∧ T ≤ 256 + 30000 * (k : Int) ∧ Below w7.heap.size w7 wr) (fun _ i _ => 256 - (intOf i).toNat)
  case atStart => exact ⟨0, 256, Nat.zero_le _, rfl, rfl, Lib.hid (by unfold bitsK rankL posL; simp [dotI]), by decide, by decide, Below.refl _ _⟩
  case round =>
    obtain ⟨k, T, hk, rfl, rfl, HT, hT0, hT1, hb⟩ := hrel
    by_cases hlt : k < 256
    · have hkc : k < (cntL l).length := by rw [cntL_len]; exact hlt
      have hko : k < o.length := by rw [HO.out.1]; exact hlt
      obtain ⟨ab, ao, he1, hab1, q1⟩ := (HC1.out.below hb) k _ (zvs_getC _ (List.getElem?_eq_getElem hkc))
      injection he1 with he1
      injection he1 with he1 he2
      subst he1 he2
      rw [Nat.zero_add] at q1
      obtain ⟨ab, ao, he1, hab2, q2⟩ := (HC2.out.below hb) k _ (zvs_getC _ (List.getElem?_eq_getElem hko))
      injection he1 with he1
      injection he1 with he1 he2
      subst he1 he2
      rw [Nat.zero_add] at q2
      have hx := HO.out.2.2 _ (List.getElem_mem hkc)
      have hy := HO.out.2.1 _ (List.getElem_mem hko)
      have hnx := bitsK_next hkc hko hx.1
      obtain ⟨x, hxe⟩ : ∃ x, x = (cntL l)[k] := ⟨_, rfl⟩
      obtain ⟨y, hye⟩ : ∃ y, y = o[k] := ⟨_, rfl⟩
      rw [← hxe] at q1 hx hnx
      rw [← hye] at q2 hy hnx
      have hx2 : x ≤ 1500 := by have := hx.2; have := HLN.out; omega
      have hz := prod_le hx.1 hx2 hy.1 hy.2
      obtain ⟨z, hze⟩ : ∃ z, z = x * y := ⟨_, rfl⟩
      rw [← hze] at hz hnx
      obtain ⟨p, hpe⟩ : ∃ p, p = min x 1 := ⟨_, rfl⟩
      have hp : 0 ≤ p ∧ p ≤ 1 := by omega
      rw [← hpe] at hnx
      have e58 : IntKind.i64.wrap (x * y) = z := by rw [← hze, IntKind.wrap_i64]; omega
      have e59 : IntKind.i64.wrap (T + z) = T + z := by rw [IntKind.wrap_i64]; omega
      have e65 : IntKind.i64.wrap (4 * p) = 4 * p := by rw [IntKind.wrap_i64]; omega
      have e66 : IntKind.i64.wrap (T + z + 4 * p) = T + z + 4 * p := by rw [IntKind.wrap_i64]; omega
      have E := Lib.hid (And.intro (And.intro e58 e59) (And.intro (And.intro e65 e66) (And.intro (And.intro (Nat.lt_of_lt_of_le hab1 hb.size) q1) (And.intro (Nat.lt_of_lt_of_le hab2 hb.size) q2))))
      have HNX := Lib.hid hnx
      have HPE := Lib.hid hpe
      have HB := Lib.hid hb
      have hki : (k : Int) < 256 := by omega
      have hT2 : T + z + 4 * p ≤ 256 + 30000 * ((k : Int) + 1) := by omega
      have hT3 : 0 ≤ T + z + 4 * p := by omega
      clear e58 e59 e65 e66 q1 q2 hnx hpe hze hxe hye hx hx2 hy hz hp hb hkc hko hab1 hab2 hT0 hT1
      obtain ⟨Wr, hWr⟩ : ∃ Wr, Wr = wr := ⟨_, rfl⟩
      subst hWr
      go_wp2
      refine wp_region_late [⟨49, [], .is (.int .i64 T)⟩,
        ⟨50, [], .is (.slice (some ⟨g1, 0, none⟩) 256 256)⟩,
        ⟨51, [], .is (.int .i64 (k : Int))⟩,
        ⟨52, [1, 2], .is (.pointer (some ⟨g1, k, none⟩))⟩,
        ⟨53, [3], .is (.int .i64 x)⟩,
        ⟨54, [], .is (.slice (some ⟨g2, 0, none⟩) 256 256)⟩,
        ⟨55, [], .is (.int .i64 (k : Int))⟩,
        ⟨56, [5, 6], .is (.pointer (some ⟨g2, k, none⟩))⟩,
        ⟨57, [7], .is (.int .i64 y)⟩,
        ⟨58, [4, 8], .is (.int .i64 z)⟩,
        ⟨59, [0, 9], .is (.int .i64 (T + z))⟩,
        ⟨60, [], .is (.slice (some ⟨g1, 0, none⟩) 256 256)⟩,
        ⟨61, [], .is (.int .i64 (k : Int))⟩,
        ⟨62, [11, 12], .is (.pointer (some ⟨g1, k, none⟩))⟩,
        ⟨63, [13], .is (.int .i64 x)⟩,
        ⟨64, [14], .is (.int .i64 p)⟩,
        ⟨65, [15], .is (.int .i64 (4 * p))⟩,
        ⟨66, [10, 16], .is (.int .i64 (T + z + 4 * p))⟩,
        ⟨10, [17], .is (.int .i64 (T + z + 4 * p))⟩]
        [(8, .slice (some ⟨g1, 0, none⟩) 256 256), (11, .int .i64 (k : Int)), (9, .slice (some ⟨g2, 0, none⟩) 256 256)] [(49, 10, .int .i64 T)] (by kernel_rfl) (by kernel_rfl) (by kernel_rfl) (by kernel_rfl) (by kernel_rfl) (by kernel_rfl) ⟨rfl, rfl, rfl, trivial⟩ ⟨rfl, trivial⟩ ?_ ?_
      · repeat' (first | exact OblLAll.nil | refine OblLAll.cons ?_ ?_)
        all_goals (intro ev yi W hB hc hf ho hl hn; simp only [OutsSay, LateSay, NeedSay, rowAt, Fact.says, and_true, Nat.reduceEqDiff, true_implies] at ho hl hn)
        all_goals (have q1 := (hB.cell (p := ⟨g1, k, none⟩) E.out.2.2.1.1).trans E.out.2.2.1.2; have q2 := (hB.cell (p := ⟨g2, k, none⟩) E.out.2.2.2.1).trans E.out.2.2.2.2)
        all_goals (rw [if_pos (by simp [Region.wanted])])
        all_goals (try ((simp [OpSays, execOp, Fact.says, go_sem, ho, hl, hn, hc, q1, q2, hki, E.out.1.1, E.out.1.2, E.out.2.1.1, E.out.2.1.2, Below.refl]; done)))
        simp [OpSays, Fact.says, go_sem, hn, hc, Below.refl]
        exact HPE.out.symm
      · intro X w8 hb8 hx
        have h18 : X 18 = .int .i64 (T + z + 4 * p) := hx 18 (by decide)
        clear hx
        simp only [layAll, List.setIfInBounds_toArray, List.set_cons_succ, List.set_cons_zero, h18]
        have HB8 := Lib.hid (HB.out.trans (hb8.mono HB.out.size))
        have HN8 := Lib.hid (show T + z + 4 * p = bitsK (cntL l) o (k + 1) by rw [HNX.out, HT.out])
        clear h18 hb8 HNX HT E
        obtain ⟨T2, hTe⟩ : ∃ T2, T2 = T + z + 4 * p := ⟨_, rfl⟩
        rw [← hTe] at HN8 hT2 hT3 ⊢
        clear hTe
        go_wp2
        go_roundw
        case rel => exact ⟨k + 1, T2, by omega, by go_num, rfl, HN8, hT3, by omega, HB8.out⟩
        case measure => simp [intOf]; omega
    · obtain rfl : k = 256 := by omega
      have hTL := HT.out
      rw [HLB.out.1] at hTL
      subst hTL
      have hq8 : (QN : Int) = ((LB : Int) + 7) / 8 := by have := HLB.out.2; have := HQN.out; omega
      have HV9 := Lib.hid (HV8.out.grow hb)
      have HR9 := Lib.hid (HR7.out.grow hb)
      have HB9 := Lib.hid (HB7.out.trans (hb.mono HB7.out.size))
      have hLBb : (LB : Int) ≤ 8000000 := by omega
      clear hT0 hT1 hb HV8 HR7 HT
      go_wp2_with (first
        | ((with_reducible show wpList _ _ _ (({ dst := some 71, op := _, type := _, pos := _, after := _, guard := _ } : Oper) :: _) _ _); go_must (refine wpList_strW rfl 22 9 5 (.tmp 70) rfl Try.underlying22 Try.underlying5 Try.underlying9 _ HV9.out ?_))
        | ((with_reducible show wpList _ _ _ (({ dst := some 73, op := _, type := _, pos := _, after := _, guard := _ } : Oper) :: _) _ _); go_must (refine wpList_strW rfl 22 9 5 (.tmp 72) rfl Try.underlying22 Try.underlying5 Try.underlying9 _ HR9.out ?_)))
      refine (CK.out _).mono ?_
      rintro e w9 ⟨rfl, hb9⟩
      have HE := Lib.hid (HB9.out.trans (hb9.mono HB9.out.size))
      clear hb9
      go_wp2
      go_ret
      exact ⟨rfl, HE.out⟩
theorem huffBack_law (A : Option Addr) (L c : Nat) (l : List UInt8) (w : World) (hr : Rd w w.heap.size A (bvs l)) (hL : l.length = L) (hLc : L ≤ c) :
    Calls Try.prog 4 #[.slice A L c] w (Yes w) := by
  have CK := Lib.hid huffKnown_any
  by_cases hs : L ≤ 1500
  · by_cases hne : l = []
    · subst hne
      obtain rfl : L = 0 := hL.symm
      clear hr hs
      go_enter Try.func4, Try.ntmps4
      go_wp2_with fail
      refine (CK.out _).mono ?_
      rintro e w' ⟨rfl, hb⟩
      go_wp2
      go_ret
      exact ⟨rfl, hb⟩
    · subst hL
      exact huffBack_core A c l w hr hLc hs hne
  · have hi : (1500 : Int) < (L : Int) := by omega
    clear hr hs
    go_enter Try.func4, Try.ntmps4
    go_wp2_with fail
    refine (CK.out _).mono ?_
    rintro e w' ⟨rfl, hb⟩
    go_wp2
    go_ret
    exact ⟨rfl, hb⟩
end Go.Proofs.Ytjncmfoommlldaa
