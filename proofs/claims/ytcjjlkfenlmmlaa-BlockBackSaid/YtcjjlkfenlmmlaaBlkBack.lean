/- Layer 30: BlockBack. -/
import Derived.Test.YtcjjlkfenlmmlaaBlkLaws
import Derived.Deep.RegionLaw
namespace Go.Proofs.Ytcjjlkfenlmmlaa
open Go.RowKit Go.Sort

/-- append onto a row of the call's own, at a step of a region that draws. -/
theorem step_app {P : Program} {w : World} {ops : Array Oper} {o : Oper} {a : Act} {K : Act → World → Prop} {Q : Exit → Act → World → Prop} {E : Prop} (hgd : o.guard = none) (s x : Operand) (t : TypeId)
    (ho : o.op = .call { callee := .builtin .append, args := #[s, x], argTypes := #[t, t] })
    (base : Nat) (e : TypeId) (i : TypeInfo) (z : Value) (size bytes : Nat) (ht : P.underlying t = some (.slice e)) (hi : P.info? e = some i) (hz : i.zero = some z)
    (hsize : i.size = size) (hby : i.bytes = bytes) (hzs : z.cells.size = size) (hsz : 0 < size)
    (v : Value) (n : Nat) (xs : List Value) (hs : a.eval s = v) (hown : w.ownsRow base e size v n xs)
    (B : Nat) (A : Option Addr) (m c : Nat) (news : List Value) (hx : a.eval x = .slice A m c) (hr : Rd w B A news) (hm : news.length = m * size) (h1 : ∀ u ∈ news, u.oneCell' = true)
    (h63 : n + m ≤ maxLen) (hbytes : (n + m) * bytes ≤ 140737488355328) (hbase : base ≤ w.heap.size)
    (h : ∀ v' w', w'.ownsRow base e size v' (n + m) (xs ++ news) → w.grownBy w' v.ownBlock → K (a.put o.dst v') w') :
    if Region.wanted o (yielded ops a.tmps) = true then Oper.wp P o a w K Q else E := by
  have hw : Region.wanted o (yielded ops a.tmps) = true := by simp [Region.wanted, hgd]
  rw [if_pos hw]
  obtain ⟨v', w', hrun, h2, h3⟩ := run_app (P := P) w base t o.type e i z size bytes ht hi hz hsize hby hzs hsz v n xs hown B A m c news hr hm h1 h63 hbytes hbase
  unfold Oper.wp execOp
  simp only [ho, resolve, invoke, builtin, Sem.run_bind, Sem.run_pure, Result.andThen_ok, List.map_toArray, List.map_cons, List.map_nil, hs, hx, hrun]
  exact h v' w' h2 h3
/-- What holds at the head of a round over the beginnings. -/
def BegB (L Z : List UInt8) (K : Nat) (A B : Option Addr) (O : Nat) (cs : List Value) (W : World) (iv : Value) (wr : World) : Prop :=
  ∃ i : Nat, i ≤ K ∧ iv = .int .i64 (i : Int) ∧ Rd wr wr.heap.size A (bvs L) ∧ Rd wr wr.heap.size B (bvs Z) ∧ Blk wr O 26 cs ∧ Below W.heap.size W wr
theorem set_two {w : World} {g : Nat} {t : TypeId} {v0 v1 v2 v3 v4 v5 v6 : Value} (h : Blk w g t [v0, v1, v2, v3, v4, v5, v6]) (x y : Value) : Blk ((w.setCell ⟨g, 5, none⟩ x).setCell ⟨g, 6, none⟩ y) g t [v0, v1, v2, v3, v4, x, y] := (h.set_ 5 x).set_ 6 y
set_option maxRecDepth 100000 in
set_option maxHeartbeats 16000000 in
theorem blockBack_law (mo ra mi co su fr pl b u r m t : Int) (A : Option Addr) (n c : Nat) (l : List UInt8) (W : World) (hsu : 0 ≤ su ∧ su ≤ 4294967295) (_ : (-9223372036854775808 ≤ ra ∧ ra ≤ 9223372036854775807) ∧ (-9223372036854775808 ≤ mi ∧ mi ≤ 9223372036854775807) ∧ (-9223372036854775808 ≤ co ∧ co ≤ 9223372036854775807))
    (ht : 0 ≤ t ∧ t ≤ 4294967295) (hr : Rd W W.heap.size A (bvs l)) (hn : l.length = n) (_ : n ≤ c) :
    Calls Try.prog 6 #[.agg #[.int .i64 mo, .int .i64 ra, .int .i64 mi, .int .i64 co, .int .u32 su, .int .i64 fr, .int .i64 pl], .agg #[.int .i64 b, .int .i64 u, .int .i64 r, .int .i64 m], .int .u32 t, .slice A n c] W fun e w' => e = .returned (.bool true) ∧ Below W.heap.size W w' := by
  have CK := Lib.hid known30_any
  have CM := Lib.hid (fun w => refMay_any b u r m w)
  unfold optV at CM
  obtain ⟨hH, hO, hB⟩ := two_boxes W #[.int .i64 mo, .int .i64 ra, .int .i64 mi, .int .i64 co, .int .u32 su, .int .i64 fr, .int .i64 pl] #[.int .i64 b, .int .i64 u, .int .i64 r, .int .i64 m] 24 26
  have HH := Lib.hid hH
  have HO := Lib.hid hO
  have HB := Lib.hid hB
  clear hH hO hB
  by_cases hl : 100 < n
  · have hli : (100 : Int) < (n : Int) := by omega
    clear hr
    go_enter Try.func6, Try.ntmps6
    go_wp2_with fail
    refine (CK.out _).mono ?_
    rintro e w3 ⟨rfl, hb3⟩
    have HB3 := Lib.hid (HB.out.trans (hb3.mono HB.out.size))
    clear hb3
    go_wp2
    go_ret
    exact ⟨rfl, HB3.out⟩
  · have hli : ¬ (100 : Int) < (n : Int) := by omega
    cases hmay : mayO b u r m with
    | false =>
      rw [hmay] at CM
      clear hmay hr
      go_enter Try.func6, Try.ntmps6
      go_wp2_with fail
      refine (CM.out _).mono ?_
      rintro e w2 ⟨rfl, hb2⟩
      have HB2 := Lib.hid (HB.out.trans (hb2.mono HB.out.size))
      clear hb2
      go_wp2_with fail
      refine (CK.out _).mono ?_
      rintro e w3 ⟨rfl, hb3⟩
      have HB3 := Lib.hid (HB2.out.trans (hb3.mono HB2.out.size))
      clear hb3
      go_wp2
      go_ret
      exact ⟨rfl, HB3.out⟩
    | true =>
      rw [hmay] at CM
      obtain ⟨i0, hi, hz0, hz1, hz2⟩ := info_parts info_u8
      obtain ⟨b', u', r', m', rfl, rfl, rfl, rfl, hb1, hb2, hu, hr10, hm6⟩ := mayO_nat hmay
      have CR := Lib.hid (fun w => refBMay_any mo ra mi co su fr pl (b' : Int) (by omega) w)
      unfold blkV at CR
      obtain ⟨G, hG⟩ : ∃ G, G = W.heap.size := ⟨_, rfl⟩
      obtain ⟨H, hH⟩ : ∃ H, H = W.heap.size + 1 := ⟨_, rfl⟩
      have HG := Lib.hid (And.intro hG hH)
      clear hmay hb1 hu hr10 hm6
      have hbk0 : ∃ k, k = mayBk mo ra mi co (b' : Int) := ⟨_, rfl⟩
      obtain ⟨bk, hbk⟩ := hbk0
      rw [← hbk] at CR
      go_enter Try.func6, Try.ntmps6
      go_wp2_with fail
      refine (CM.out _).mono ?_
      rintro e w2 ⟨rfl, hbw⟩
      have HB2 := Lib.hid (HB.out.trans (hbw.mono HB.out.size))
      have HO2 := Lib.hid (HO.out.grow hbw)
      have HH2 := Lib.hid (HH.out.grow hbw)
      rw [← hG] at HH2
      rw [← hH] at HO2
      rw [← hG, ← (show H = G + 1 by omega)]
      clear hbw hG hH HB HO HH CM
      have o0 := HO2.out.cell 0
      have o1 := HO2.out.cell 1
      have o2 := HO2.out.cell 2
      have o3 := HO2.out.cell 3
      simp only [List.getElem?_cons_zero, List.getElem?_cons_succ] at o0 o1 o2 o3
      have h0 := HH2.out.cell 0
      have h1 := HH2.out.cell 1
      have h2 := HH2.out.cell 2
      have h3 := HH2.out.cell 3
      have h4 := HH2.out.cell 4
      have h5 := HH2.out.cell 5
      have h6 := HH2.out.cell 6
      simp only [List.getElem?_cons_zero, List.getElem?_cons_succ] at h0 h1 h2 h3 h4 h5 h6
      go_wp2_with fail
      refine (CR.out _).mono ?_
      rintro e w3 ⟨rfl, hbw⟩
      have HB3 := Lib.hid (HB2.out.trans (hbw.mono HB2.out.size))
      have HO3 := Lib.hid (HO2.out.grow hbw)
      have HH3 := Lib.hid (HH2.out.grow hbw)
      clear hbw HB2 HO2 HH2 o0 o1 o2 o3 h0 h1 h2 h3 h4 h5 h6 CR
      cases bk with
      | false =>
        clear hbk HO3 HH3 hr
        go_wp2_with fail
        refine (CK.out _).mono ?_
        rintro e w4 ⟨rfl, hbw⟩
        have HB4 := Lib.hid (HB3.out.trans (hbw.mono HB3.out.size))
        clear hbw
        go_wp2
        go_ret
        exact ⟨rfl, HB4.out⟩
      | true =>
        obtain ⟨mo, ra, mi, co, rfl, rfl, rfl, rfl⟩ := mayBk_ex hbk.symm
        obtain ⟨su, rfl⟩ := Int.eq_ofNat_of_zero_le hsu.1
        obtain ⟨t, rfl⟩ := Int.eq_ofNat_of_zero_le ht.1
        obtain ⟨k5, k1, km, kz, kn⟩ := mayBk_nat hbk.symm
        have hmi : mi ≤ 3 * ra + 64 := by
          by_cases h0 : mo = 0
          · have := kz h0; omega
          · exact (kn h0).1
        have hco : co ≤ ra := by
          by_cases h0 : mo = 0
          · have := kz h0; omega
          · have := kn h0; omega
        have hs : su < 4294967296 := by omega
        have ht40 : t ≤ 1099511627776 := by omega
        have CP := Lib.hid (fun w => blkPut_any (mo := mo) (ra := ra) (mi := mi) (co := co) (su := su) (fr := 0) (pl := 0) k5 (by omega) (by omega) (by omega) hs w)
        have CE := Lib.hid (fun w => blkPutEnd_any (t := (t : Int)) (by omega) hs w)
        rw [Int.toNat_natCast] at CE
        unfold blkV at CP
        have hl1 : (blkL mo ra mi co su).length ≤ 17 := blkL_len (by omega) hmi hco
        have hl2 : (endL t su).length ≤ 11 := endL_len ht40
        have hgp := getB_put (su := su) hbk.symm hs hb2 l
        have hgc := fun i (h : i < (blkL mo ra mi co su).length) => getB_cut (su := su) hbk.symm hb2 h
        have hep := endG_put (n := t) ht40 hs l
        have hec := fun i (h : i < (endL t su).length) => endG_cut (su := su) (n := t) ht40 h
        obtain ⟨L, hL⟩ : ∃ L, L = blkL mo ra mi co su := ⟨_, rfl⟩
        obtain ⟨Z, hZ⟩ : ∃ Z, Z = endL t su := ⟨_, rfl⟩
        rw [← hL] at CP hl1 hgp hgc
        rw [← hZ] at CE hl2 hep hec
        obtain ⟨K, hK⟩ : ∃ K, K = L.length := ⟨_, rfl⟩
        obtain ⟨J, hJ⟩ : ∃ J, J = Z.length := ⟨_, rfl⟩
        rw [← hK] at hl1 hgp hgc
        rw [← hJ] at hl2 hep hec
        have C2 := Lib.hid (fun A3 k3 w (hr : Rd w w.heap.size A3 (bvs (L ++ l))) (hk : K + n ≤ k3) => blkGet_any A3 (K + n) k3 (L ++ l) w hr (by rw [List.length_append, hK, hn]) hk (by omega) (b := b') (wd := (u' : Int)) (rc := (r' : Int)) (md := (m' : Int)) hb2)
        rw [hgp] at C2
        have C3 := Lib.hid (fun A3 k3 w (hr : Rd w w.heap.size A3 (bvs (Z ++ l))) (hk : J + n ≤ k3) => blkGetEnd_any A3 (J + n) k3 (Z ++ l) w hr (by rw [List.length_append, hJ, hn]) hk (by omega))
        rw [hep] at C3
        have C4 := Lib.hid (fun i (h : i < K) A3 k3 w (hk : i ≤ k3) (hr : Rd w w.heap.size A3 (bvs (L.take i))) => show Calls Try.prog 13 #[.slice A3 i k3, .agg #[.int .i64 (b' : Int), .int .i64 (u' : Int), .int .i64 (r' : Int), .int .i64 (m' : Int)]] w (BGetOut w ((0, 0, 0, 0, 0), 0, 11)) from by
          have := blkGet_any A3 i k3 (L.take i) w hr (by rw [List.length_take]; omega) hk (by omega) (b := b') (wd := (u' : Int)) (rc := (r' : Int)) (md := (m' : Int)) hb2
          rw [hgc i h] at this
          exact this)
        have C5 := Lib.hid (fun i (h : i < J) A3 k3 w (hk : i ≤ k3) (hr : Rd w w.heap.size A3 (bvs (Z.take i))) => show Calls Try.prog 15 #[.slice A3 i k3] w (EndOut w (0, 0, 0, 11)) from by
          have := blkGetEnd_any A3 i k3 (Z.take i) w hr (by rw [List.length_take]; omega) hk (by omega)
          rw [hec i h] at this
          exact this)
        unfold BGetOut at C2 C4
        rw [show (.agg (blkC ((mo, ra, mi, co, su), K, 0).1).toArray : Value) = .agg #[.int .i64 (mo : Int), .int .i64 (ra : Int), .int .i64 (mi : Int), .int .i64 (co : Int), .int .u32 (su : Int), .int .i64 0, .int .i64 0] from rfl] at C2
        rw [show (.agg (blkC ((0, 0, 0, 0, 0), 0, 11).1).toArray : Value) = .agg #[.int .i64 0, .int .i64 0, .int .i64 0, .int .i64 0, .int .u32 0, .int .i64 0, .int .i64 0] from rfl] at C4
        unfold EndOut at C3 C5
        have HRL := Lib.hid hr
        have HN := Lib.hid hn
        have HK := Lib.hid hK
        have HJ := Lib.hid hJ
        have hKi : (K : Int) ≤ 17 := by omega
        have hJi : (J : Int) ≤ 11 := by omega
        have hti : (t : Int) ≤ 4294967295 := by omega
        clear hbk hL hZ hK hJ hgp hgc hep hec hr hn kz kn hmi hco k1 km k5 hsu ht ht40
        have h0 := HH3.out.cell 0
        have h1 := HH3.out.cell 1
        have h2 := HH3.out.cell 2
        have h3 := HH3.out.cell 3
        have h4 := HH3.out.cell 4
        have h5 := HH3.out.cell 5
        have h6 := HH3.out.cell 6
        simp only [List.getElem?_cons_zero, List.getElem?_cons_succ] at h0 h1 h2 h3 h4 h5 h6
        have f5 := HH3.out.frozen 5
        have f6 := HH3.out.frozen 6
        obtain ⟨w4, hw4⟩ : ∃ w4 : World, w4 = (w3.setCell ⟨G, 5, none⟩ (.int .i64 0)).setCell ⟨G, 6, none⟩ (.int .i64 0) := ⟨_, rfl⟩
        have hB4 : Below W.heap.size W w4 := by rw [hw4]; exact (HB3.out.setCell (p := ⟨G, 5, none⟩) (by rw [HG.out.1]; exact Nat.le_refl _) _).setCell (p := ⟨G, 6, none⟩) (by rw [HG.out.1]; exact Nat.le_refl _) _
        have hO4 : Blk w4 H 26 [.int .i64 (b' : Int), .int .i64 (u' : Int), .int .i64 (r' : Int), .int .i64 (m' : Int)] := by rw [hw4]; exact (HO3.out.setOther ⟨G, 5, none⟩ _ (by have := HG.out; simp; omega)).setOther ⟨G, 6, none⟩ _ (by have := HG.out; simp; omega)
        have hH4 : Blk w4 G 24 [.int .i64 (mo : Int), .int .i64 (ra : Int), .int .i64 (mi : Int), .int .i64 (co : Int), .int .u32 (su : Int), .int .i64 0, .int .i64 0] := by rw [hw4]; exact set_two HH3.out _ _
        have HB4 := Lib.hid hB4
        have HO4 := Lib.hid hO4
        have HH4 := Lib.hid hH4
        have HW4 := Lib.hid hw4
        clear hB4 hO4 hH4 hw4
        go_wp2_with fail
        rw [← HW4.out]
        clear h0 h1 h2 h3 h4 h5 h6 f5 f6 HW4 HB3 HO3 HH3
        refine wp_region_grow [⟨45, [], .is (.agg #[.int .i64 (mo : Int), .int .i64 (ra : Int), .int .i64 (mi : Int), .int .i64 (co : Int), .int .u32 (su : Int), .int .i64 0, .int .i64 0])⟩,
          ⟨46, [0], .bytes (L)⟩,
          ⟨47, [], .is (.int .u32 (t : Int))⟩,
          ⟨48, [2], .is (.int .i64 (t : Int))⟩,
          ⟨49, [], .is (.pointer (some ⟨G, 4, none⟩))⟩,
          ⟨50, [4], .is (.int .u32 (su : Int))⟩,
          ⟨51, [3, 5], .bytes (Z)⟩,
          ⟨9, [1], .bytes (L)⟩,
          ⟨10, [6], .bytes (Z)⟩]
          [(4, .pointer (some ⟨G, 0, none⟩)), (2, .int .u32 (t : Int))] (by kernel_rfl) (by kernel_rfl) (by kernel_rfl) (by kernel_rfl) (by kernel_rfl) ⟨rfl, rfl, trivial⟩ ?_ ?_
        · repeat' (first | exact OblGAll.nil | refine OblGAll.cons ?_ ?_)
          all_goals (intro ev yi w' hB hc hf ho hn; simp only [OutsSay, NeedSay, rowAt, Fact.says, and_true] at ho hn)
          all_goals (try ((simp [OpSays, execOp, Region.wanted, Fact.says, go_sem, ho, hn, Below.refl]; done)))
          · rw [if_pos (by simp [Region.wanted])]
            have q0 := (HH4.out.grow hB).cell 0
            have q1 := (HH4.out.grow hB).cell 1
            have q2 := (HH4.out.grow hB).cell 2
            have q3 := (HH4.out.grow hB).cell 3
            have q4 := (HH4.out.grow hB).cell 4
            have q5 := (HH4.out.grow hB).cell 5
            have q6 := (HH4.out.grow hB).cell 6
            simp only [List.getElem?_cons_zero, List.getElem?_cons_succ] at q0 q1 q2 q3 q4 q5 q6
            simp [OpSays, execOp, Fact.says, go_sem, ho, Below.refl, q0, q1, q2, q3, q4, q5, q6]
          · rw [if_pos (by simp [Region.wanted])]
            exact says_call Try.call11 (vs := #[.agg #[.int .i64 (mo : Int), .int .i64 (ra : Int), .int .i64 (mi : Int), .int .i64 (co : Int), .int .u32 (su : Int), .int .i64 0, .int .i64 0]]) rfl hf (by simp [hn]) ((CP.out w').mono fun _ _ h => h.says)
          · rw [if_pos (by simp [Region.wanted])]
            simp [OpSays, execOp, Fact.says, go_sem, hn, Below.refl]
            rw [IntKind.wrap_i64]
            omega
          · rw [if_pos (by simp [Region.wanted])]
            have q := (HH4.out.grow hB).cell 4
            simp only [List.getElem?_cons_zero, List.getElem?_cons_succ] at q
            simp [OpSays, execOp, Fact.says, go_sem, hn, Below.refl, q]
          · rw [if_pos (by simp [Region.wanted])]
            exact says_call Try.call17 (vs := #[.int .i64 (t : Int), .int .u32 (su : Int)]) rfl hf (by simp [hn]) ((CE.out w').mono fun _ _ h => h.says)
        · intro X w5 hb5 hx
          have hx9 : IsBytes L (X 7) w5 := hx 7 (by decide)
          have hx10 : IsBytes Z (X 8) w5 := hx 8 (by decide)
          clear hx
          simp only [layAll, List.setIfInBounds_toArray, List.set_cons_succ, List.set_cons_zero]
          obtain ⟨v9, hv9⟩ : ∃ v, v = X 7 := ⟨_, rfl⟩
          obtain ⟨v10, hv10⟩ : ∃ v, v = X 8 := ⟨_, rfl⟩
          rw [← hv9] at hx9 ⊢
          rw [← hv10] at hx10 ⊢
          obtain ⟨A9, k9, rfl, hk9, hr9⟩ := hx9
          obtain ⟨A10, k10, rfl, hk10, hr10⟩ := hx10
          rw [← HK.out] at hk9 ⊢
          rw [← HJ.out] at hk10 ⊢
          have HR9 := Lib.hid hr9
          have HR10 := Lib.hid hr10
          have HB5 := Lib.hid (HB4.out.trans (hb5.mono HB4.out.size))
          have HO5 := Lib.hid (HO4.out.grow hb5)
          have HH5 := Lib.hid (HH4.out.grow hb5)
          have HLL := Lib.hid (show (bvs L).length = K * 1 by rw [bvs_length, HK.out, Nat.mul_one])
          have HZL := Lib.hid (show (bvs Z).length = J * 1 by rw [bvs_length, HJ.out, Nat.mul_one])
          have HLl := Lib.hid (show (bvs l).length = n * 1 by rw [bvs_length, HN.out, Nat.mul_one])
          clear hb5 hr9 hr10 hv9 hv10 HB4 HO4 HH4 CP CE
          have o0 : w5.drew.cell? ⟨H, 0, none⟩ = _ := HO5.out.cell 0
          have o1 : w5.drew.cell? ⟨H, 1, none⟩ = _ := HO5.out.cell 1
          have o2 : w5.drew.cell? ⟨H, 2, none⟩ = _ := HO5.out.cell 2
          have o3 : w5.drew.cell? ⟨H, 3, none⟩ = _ := HO5.out.cell 3
          simp only [List.getElem?_cons_zero, List.getElem?_cons_succ] at o0 o1 o2 o3
          have oa := HO5.out.grow ((Below.refl w5.heap.size w5).drew.alloc (Nat.le_refl _) (.cells #[] 5))
          have a0 := oa.cell 0
          have a1 := oa.cell 1
          have a2 := oa.cell 2
          have a3 := oa.cell 3
          simp only [List.getElem?_cons_zero, List.getElem?_cons_succ] at a0 a1 a2 a3
          clear oa
          have pww := HO5.out.grow ((Below.refl w5.heap.size w5).drew.alloc (Nat.le_refl _) (.cells #[.int .i64 0, .int .i64 0, .int .i64 0, .int .i64 0, .int .u32 0, .int .i64 0, .int .i64 0] 24))
          have p0 := pww.cell 0
          have p1 := pww.cell 1
          have p2 := pww.cell 2
          have p3 := pww.cell 3
          simp only [List.getElem?_cons_zero, List.getElem?_cons_succ] at p0 p1 p2 p3
          clear pww
          have qww := HO5.out.grow (((Below.refl w5.heap.size w5).drew.alloc (Nat.le_refl _) (.cells #[] 5)).alloc (by simp) (.cells #[.int .i64 0, .int .i64 0, .int .i64 0, .int .i64 0, .int .u32 0, .int .i64 0, .int .i64 0] 24))
          have q0 := qww.cell 0
          have q1 := qww.cell 1
          have q2 := qww.cell 2
          have q3 := qww.cell 3
          simp only [List.getElem?_cons_zero, List.getElem?_cons_succ] at q0 q1 q2 q3
          clear qww
          have sww := HO5.out.grow (((Below.refl w5.heap.size w5).drew.alloc (Nat.le_refl _) (.cells #[.int .i64 0, .int .i64 0, .int .i64 0, .int .i64 0, .int .u32 0, .int .i64 0, .int .i64 0] 24)).alloc (by simp) (.cells #[] 5))
          have s0 := sww.cell 0
          have s1 := sww.cell 1
          have s2 := sww.cell 2
          have s3 := sww.cell 3
          simp only [List.getElem?_cons_zero, List.getElem?_cons_succ] at s0 s1 s2 s3
          clear sww
          have uww := HO5.out.grow ((Below.refl w5.heap.size w5).alloc (Nat.le_refl _) (.cells #[] 5))
          have u0 := uww.cell 0
          have u1 := uww.cell 1
          have u2 := uww.cell 2
          have u3 := uww.cell 3
          simp only [List.getElem?_cons_zero, List.getElem?_cons_succ] at u0 u1 u2 u3
          clear uww
          have vww := HO5.out.grow ((Below.refl w5.heap.size w5).alloc (Nat.le_refl _) (.cells #[.int .i64 0, .int .i64 0, .int .i64 0, .int .i64 0, .int .u32 0, .int .i64 0, .int .i64 0] 24))
          have v0 := vww.cell 0
          have v1 := vww.cell 1
          have v2 := vww.cell 2
          have v3 := vww.cell 3
          simp only [List.getElem?_cons_zero, List.getElem?_cons_succ] at v0 v1 v2 v3
          clear vww
          have xww := HO5.out.grow (((Below.refl w5.heap.size w5).alloc (Nat.le_refl _) (.cells #[] 5)).alloc (by simp) (.cells #[.int .i64 0, .int .i64 0, .int .i64 0, .int .i64 0, .int .u32 0, .int .i64 0, .int .i64 0] 24))
          have x0 := xww.cell 0
          have x1 := xww.cell 1
          have x2 := xww.cell 2
          have x3 := xww.cell 3
          simp only [List.getElem?_cons_zero, List.getElem?_cons_succ] at x0 x1 x2 x3
          clear xww
          have yww := HO5.out.grow (((Below.refl w5.heap.size w5).alloc (Nat.le_refl _) (.cells #[.int .i64 0, .int .i64 0, .int .i64 0, .int .i64 0, .int .u32 0, .int .i64 0, .int .i64 0] 24)).alloc (by simp) (.cells #[] 5))
          have y0 := yww.cell 0
          have y1 := yww.cell 1
          have y2 := yww.cell 2
          have y3 := yww.cell 3
          simp only [List.getElem?_cons_zero, List.getElem?_cons_succ] at y0 y1 y2 y3
          clear yww
          go_wp2_with fail
          rename_i K1 hK1
          have HEND : ∀ (g : Nat) (u27 u28 u29 u30 u31 u32 u33 u34 u35 u36 u37 u38 u39 u40 u41 u42 u43 u44 u45 u46 u47 u48 u49 u50 u51 u52 u53 u54 u55 u56 u57 u58 u59 u60 u61 u62 : Value) (wE : World), Below w5.heap.size w5 wE → Blk wE g 24 [.int .i64 (mo : Int), .int .i64 (ra : Int), .int .i64 (mi : Int), .int .i64 (co : Int), .int .u32 (su : Int), .int .i64 0, .int .i64 0] → K1 { tmps := #[.agg #[.int .i64 (mo : Int), .int .i64 (ra : Int), .int .i64 (mi : Int), .int .i64 (co : Int), .int .u32 (su : Int), .int .i64 fr, .int .i64 pl], .agg #[.int .i64 (b' : Int), .int .i64 (u' : Int), .int .i64 (r' : Int), .int .i64 (m' : Int)], .int .u32 (t : Int), .slice A n c, .pointer (some ⟨G, 0, none⟩), .pointer (some ⟨H, 0, none⟩), undef, undef, .bool false, .slice A9 K k9, .slice A10 J k10, .pointer (some ⟨g, 0, none⟩), .int .i64 (K : Int), .int .i64 0, undef, undef, undef, undef, undef, undef, undef, undef, undef, undef, undef, undef, undef, u27, u28, u29, u30, u31, u32, u33, u34, u35, u36, u37, u38, u39, u40, u41, u42, u43, u44, u45, u46, u47, u48, u49, u50, u51, u52, u53, u54, u55, u56, u57, u58, u59, u60, u61, u62, undef, undef, undef, undef, undef, undef, undef, undef, undef, undef, undef, undef, undef, undef, undef, undef, undef, undef, undef, undef, undef, undef, undef, undef, undef, undef, undef, undef, undef, undef, undef, undef, undef, undef, undef, undef, undef, undef, undef, undef, undef, undef, undef, undef, undef, undef, undef, undef, undef, undef, undef, undef, undef, undef, undef, undef, undef, undef, undef, undef, undef, undef, undef, undef, undef, undef, undef, undef, undef, undef, undef, undef, undef, undef, undef, undef, undef, undef, undef, undef, undef], defers := [] } wE := by
            intro g u27 u28 u29 u30 u31 u32 u33 u34 u35 u36 u37 u38 u39 u40 u41 u42 u43 u44 u45 u46 u47 u48 u49 u50 u51 u52 u53 u54 u55 u56 u57 u58 u59 u60 u61 u62 wE hbe hgx
            have HBE := Lib.hid (HB5.out.trans (hbe.mono HB5.out.size))
            have HOE := Lib.hid (HO5.out.grow hbe)
            have HHE := Lib.hid (HH5.out.grow hbe)
            have HS9 := Lib.hid ((HR9.out.below hbe).more hbe.size)
            have HS := Lib.hid ((HR10.out.below hbe).more hbe.size)
            have HGX := Lib.hid hgx
            clear hbe hgx HB5 HO5 HH5 HR9 HR10 o0 o1 o2 o3 a0 a1 a2 a3 p0 p1 p2 p3 q0 q1 q2 q3 s0 s1 s2 s3 u0 u1 u2 u3 v0 v1 v2 v3 x0 x1 x2 x3 y0 y1 y2 y3
            refine hK1 _ _ ?_
            clear hK1
            go_wp2_with (first
              | ((with_reducible show wpList _ _ _ (({ dst := some 66, op := _, type := _, pos := _, after := _, guard := _ } : Oper) :: _) _ _); go_must (refine wpList_app rfl (.tmp 64) (.tmp 65) 32 rfl wE.heap.size 5 i0 (.int .u8 0) 1 1 Try.underlying32 hi hz0 hz1 hz2 rfl (by decide) _ 0 [] rfl (World.ownsRow_made wE #[] 0 (Nat.le_refl _) (Nat.zero_le _) rfl) wE.heap.size A10 J k10 (bvs Z) rfl (HS.out.alloc (Nat.le_refl _) _) HZL.out (bvs_one _) (by simp only [maxLen]; omega) (by omega) (by simp) ?_; intro v3 w3a hown3 hg3; rw [Nat.zero_add, List.nil_append] at hown3; have hb3 : Below wE.heap.size wE w3a := ((Below.refl _ _).alloc (Nat.le_refl _) _).grown hg3 (by simp) (own_block (World.ownsRow_made (e := 5) (size := 1) wE #[] 0 (Nat.le_refl _) (Nat.zero_le _) rfl)); clear hg3))
              | ((with_reducible show wpList _ _ _ (({ dst := some 68, op := _, type := _, pos := _, after := _, guard := _ } : Oper) :: _) _ _); go_must (refine wpList_app rfl (.tmp 66) (.tmp 67) 32 rfl wE.heap.size 5 i0 (.int .u8 0) 1 1 Try.underlying32 hi hz0 hz1 hz2 rfl (by decide) _ J _ rfl hown3 W.heap.size A n _ (bvs l) rfl ((HRL.out.below HBE.out).below (hb3.mono HBE.out.size)) HLl.out (bvs_one _) (by simp only [maxLen]; omega) (by omega) hb3.size ?_; intro v4 w4a hown4 hg4; rw [← bvs_append] at hown4; have hb4 : Below wE.heap.size wE w4a := hb3.grown hg4 hb3.size (own_block hown3); clear hown3 hg4 hb3)))
            obtain ⟨A4, k4, rfl, hk4, -, -⟩ := own_form hown4
            have HR4 := Lib.hid (Rd.of_own hown4)
            have HB4e := Lib.hid hb4
            clear hown4 hb4
            refine (C3.out A4 k4 w4a HR4.out hk4).mono ?_
            rintro e w9 ⟨rfl, hb9⟩
            have hbb := HB4e.out.trans (hb9.mono HB4e.out.size)
            have HB9 := Lib.hid (HBE.out.trans (hbb.mono HBE.out.size))
            have HO9 := Lib.hid (HOE.out.grow hbb)
            have HH9 := Lib.hid (HHE.out.grow hbb)
            have HG9 := Lib.hid (HGX.out.grow hbb)
            have HA9 := Lib.hid ((HS9.out.below hbb).more hbb.size)
            have HA10 := Lib.hid ((HS.out.below hbb).more hbb.size)
            clear hb9 hbb HB4e HR4 HBE HOE HHE HGX HS9 HS HRL C2 C3
            have h0 := HH9.out.cell 0
            have h1 := HH9.out.cell 1
            have h2 := HH9.out.cell 2
            have h3 := HH9.out.cell 3
            have h4 := HH9.out.cell 4
            have h5 := HH9.out.cell 5
            have h6 := HH9.out.cell 6
            simp only [List.getElem?_cons_zero, List.getElem?_cons_succ] at h0 h1 h2 h3 h4 h5 h6
            have x0 := HG9.out.cell 0
            have x1 := HG9.out.cell 1
            have x2 := HG9.out.cell 2
            have x3 := HG9.out.cell 3
            have x4 := HG9.out.cell 4
            have x5 := HG9.out.cell 5
            have x6 := HG9.out.cell 6
            simp only [List.getElem?_cons_zero, List.getElem?_cons_succ] at x0 x1 x2 x3 x4 x5 x6
            go_wp2
            clear h0 h1 h2 h3 h4 h5 h6 x0 x1 x2 x3 x4 x5 x6 HH9 HG9
            go_loopw [18] (fun iv wr => BegB L Z K A9 A10 H [.int .i64 (b' : Int), .int .i64 (u' : Int), .int .i64 (r' : Int), .int .i64 (m' : Int)] W iv wr) (fun iv _ => K - (intOf iv).toNat)
            case atStart => exact ⟨0, Nat.zero_le _, rfl, HA9.out, HA10.out, HO9.out, HB9.out⟩
            case round =>
              clear HA9 HA10 HO9 HB9
              obtain ⟨i, hiK, rfl, hR, hS, hO, hB⟩ := hrel
              have HR := Lib.hid hR
              have HS := Lib.hid hS
              have HO := Lib.hid hO
              have HB := Lib.hid hB
              clear hR hS hO hB
              by_cases hlt : i < K
              · have hii : (i : Int) < (K : Int) := by omega
                have hik : (i : Int) ≤ (k9 : Int) := by omega
                have hikn : i ≤ k9 := by omega
                have HIK := Lib.hid hlt
                have hrt : Rd wr wr.heap.size A9 (bvs (L.take i)) := by
                  rw [← bvs_take]
                  exact HR.out.take i
                have HRT := Lib.hid hrt
                have C4i := Lib.hid (C4.out i hlt A9 k9)
                clear hrt hlt
                have mww := HO.out.grow (Below.refl wr.heap.size wr)
                have m0 := mww.cell 0
                have m1 := mww.cell 1
                have m2 := mww.cell 2
                have m3 := mww.cell 3
                simp only [List.getElem?_cons_zero, List.getElem?_cons_succ] at m0 m1 m2 m3
                clear mww
                have nww := HO.out.grow (Below.refl wr.heap.size wr).drew
                have n0 := nww.cell 0
                have n1 := nww.cell 1
                have n2 := nww.cell 2
                have n3 := nww.cell 3
                simp only [List.getElem?_cons_zero, List.getElem?_cons_succ] at n0 n1 n2 n3
                clear nww
                have pww := HO.out.grow ((Below.refl wr.heap.size wr).alloc (Nat.le_refl _) (.cells #[.int .i64 0, .int .i64 0, .int .i64 0, .int .i64 0, .int .u32 0, .int .i64 0, .int .i64 0] 24))
                have p0 := pww.cell 0
                have p1 := pww.cell 1
                have p2 := pww.cell 2
                have p3 := pww.cell 3
                simp only [List.getElem?_cons_zero, List.getElem?_cons_succ] at p0 p1 p2 p3
                clear pww
                have qww := HO.out.grow ((Below.refl wr.heap.size wr).drew.alloc (Nat.le_refl _) (.cells #[.int .i64 0, .int .i64 0, .int .i64 0, .int .i64 0, .int .u32 0, .int .i64 0, .int .i64 0] 24))
                have q0 := qww.cell 0
                have q1 := qww.cell 1
                have q2 := qww.cell 2
                have q3 := qww.cell 3
                simp only [List.getElem?_cons_zero, List.getElem?_cons_succ] at q0 q1 q2 q3
                clear qww
                go_wp2_with fail
                go_region_with (first
                  | (go_at_call 13; refine (C4i.out _ hikn (show Rd wr.drew wr.drew.heap.size A9 (bvs (L.take i)) from HRT.out)).mono ?_; rintro _ w7 ⟨rfl, hb7⟩; have HB7 := Lib.hid (show Below wr.heap.size wr w7 from (Below.refl wr.heap.size wr).drew.trans hb7); clear hb7)
                  | (go_at_call 13; refine (C4i.out (World.drew (wr.alloc (.cells #[.int .i64 0, .int .i64 0, .int .i64 0, .int .i64 0, .int .u32 0, .int .i64 0, .int .i64 0] 24))) hikn (show Rd (World.drew (wr.alloc (.cells #[.int .i64 0, .int .i64 0, .int .i64 0, .int .i64 0, .int .u32 0, .int .i64 0, .int .i64 0] 24))) _ A9 (bvs (L.take i)) from (HRT.out.alloc (Nat.le_refl _) (.cells #[.int .i64 0, .int .i64 0, .int .i64 0, .int .i64 0, .int .u32 0, .int .i64 0, .int .i64 0] 24)).more (by simp))).mono ?_; rintro _ w7 ⟨rfl, hb7⟩; have HZ7 := Lib.hid ((blk_newd wr #[.int .i64 0, .int .i64 0, .int .i64 0, .int .i64 0, .int .u32 0, .int .i64 0, .int .i64 0] 24).grow hb7); have HB7 := Lib.hid (show Below wr.heap.size wr w7 from ((Below.refl wr.heap.size wr).alloc (Nat.le_refl _) (.cells #[.int .i64 0, .int .i64 0, .int .i64 0, .int .i64 0, .int .u32 0, .int .i64 0, .int .i64 0] 24)).drew.trans (hb7.mono (by simp))); have z0 := HZ7.out.cell 0; have z1 := HZ7.out.cell 1; have z2 := HZ7.out.cell 2; have z3 := HZ7.out.cell 3; have z4 := HZ7.out.cell 4; have z5 := HZ7.out.cell 5; have z6 := HZ7.out.cell 6; simp only [List.getElem?_cons_zero, List.getElem?_cons_succ] at z0 z1 z2 z3 z4 z5 z6; have g0 := HZ7.out.frozen 0; have g1 := HZ7.out.frozen 1; have g2 := HZ7.out.frozen 2; have g3 := HZ7.out.frozen 3; have g4 := HZ7.out.frozen 4; have g5 := HZ7.out.frozen 5; have g6 := HZ7.out.frozen 6; clear hb7))
                all_goals
                  have hE := HB7.out
                  clear C4i HRT m0 m1 m2 m3 n0 n1 n2 n3 p0 p1 p2 p3 q0 q1 q2 q3
                  go_wp2
                  first
                    | (have hzz := HZ7.out; clear hzz; have HBF := Lib.hid (below7 hE (Nat.le_refl wr.heap.size) (.int .i64 0) (.int .i64 0) (.int .i64 0) (.int .i64 0) (.int .u32 0) (.int .i64 0) (.int .i64 0)); go_roundw; (case rel => exact ⟨i + 1, by have := HIK.out; omega, by go_num, (HR.out.below HBF.out).more HBF.out.size, (HS.out.below HBF.out).more HBF.out.size, HO.out.grow HBF.out, HB.out.trans (HBF.out.mono HB.out.size)⟩); (case measure => (have e1 := HIK.out; simp [intOf]; omega)))
                    | (have HBF := Lib.hid (hE.alloc hE.size (.cells #[.int .i64 0, .int .i64 0, .int .i64 0, .int .i64 0, .int .u32 0, .int .i64 0, .int .i64 0] 24)); go_roundw; (case rel => exact ⟨i + 1, by have := HIK.out; omega, by go_num, (HR.out.below HBF.out).more HBF.out.size, (HS.out.below HBF.out).more HBF.out.size, HO.out.grow HBF.out, HB.out.trans (HBF.out.mono HB.out.size)⟩); (case measure => (have e1 := HIK.out; simp [intOf]; omega)))
              · obtain rfl : i = K := by omega
                clear hlt
                go_wp2
                go_loopw [22] (fun iv wr => BegB L Z J A9 A10 H [.int .i64 (b' : Int), .int .i64 (u' : Int), .int .i64 (r' : Int), .int .i64 (m' : Int)] W iv wr) (fun iv _ => J - (intOf iv).toNat)
                case atStart => exact ⟨0, Nat.zero_le _, rfl, HR.out, HS.out, HO.out, HB.out⟩
                case round =>
                  clear HR HS HO HB
                  obtain ⟨j, hjJ, rfl, hR, hS, hO, hB⟩ := hrel
                  have HR := Lib.hid hR
                  have HS := Lib.hid hS
                  have HO := Lib.hid hO
                  have HB := Lib.hid hB
                  clear hR hS hO hB
                  by_cases hlt : j < J
                  · have hii : (j : Int) < (J : Int) := by omega
                    have hik : (j : Int) ≤ (k10 : Int) := by omega
                    have hikn : j ≤ k10 := by omega
                    have HIK := Lib.hid hlt
                    have hrt : Rd wr wr.heap.size A10 (bvs (Z.take j)) := by
                      rw [← bvs_take]
                      exact HS.out.take j
                    have C5i := Lib.hid (C5.out j hlt A10 k10 wr hikn hrt)
                    clear hrt hlt
                    go_wp2_with fail
                    refine C5i.out.mono ?_
                    rintro e w7 ⟨rfl, hb7⟩
                    have HBF := Lib.hid hb7
                    clear hb7 C5i
                    go_wp2
                    go_roundw
                    case rel => exact ⟨j + 1, by have := HIK.out; omega, by go_num, (HR.out.below HBF.out).more HBF.out.size, (HS.out.below HBF.out).more HBF.out.size, HO.out.grow HBF.out, HB.out.trans (HBF.out.mono HB.out.size)⟩
                    case measure =>
                      have e1 := HIK.out
                      simp [intOf]
                      omega
                  · obtain rfl : j = J := by omega
                    clear hlt
                    go_wp2_with fail
                    refine (CK.out _).mono ?_
                    rintro e w7 ⟨rfl, hb7⟩
                    have HB7 := Lib.hid (HB.out.trans (hb7.mono HB.out.size))
                    clear hb7
                    go_wp2
                    go_ret
                    exact ⟨rfl, HB7.out⟩
          have HEN := Lib.hid HEND
          clear HEND hK1
          go_region_law (first
            | (refine step_app (by rfl) (.tmp 53) (.tmp 54) 32 (by rfl) w5.heap.size 5 i0 (.int .u8 0) 1 1 Try.underlying32 hi hz0 hz1 hz2 rfl (by decide) _ 0 [] (by rfl) (show World.ownsRow ((World.drew w5).alloc (.cells #[] 5)) w5.heap.size 5 1 _ 0 [] from World.ownsRow_made (e := 5) (size := 1) w5.drew #[] 0 (Nat.le_refl _) (Nat.zero_le _) rfl) w5.heap.size A9 K k9 (bvs L) (by rfl) (HR9.out.drew.alloc (Nat.le_refl _) _) HLL.out (bvs_one _) (by simp only [maxLen]; omega) (by omega) (by simp <;> omega) ?_; intro v6 w6 hown6 hg6; rw [Nat.zero_add, List.nil_append] at hown6; have HB6 := Lib.hid (show Below w5.heap.size w5 w6 from ((Below.refl w5.heap.size w5).drew.alloc (Nat.le_refl _) (.cells #[] 5)).grown hg6 (by simp <;> omega) (own_block (show World.ownsRow ((World.drew w5).alloc (.cells #[] 5)) w5.heap.size 5 1 _ 0 [] from World.ownsRow_made (e := 5) (size := 1) w5.drew #[] 0 (Nat.le_refl _) (Nat.zero_le _) rfl))); have HOW6 := Lib.hid hown6; clear o0 o1 o2 o3 a0 a1 a2 a3 p0 p1 p2 p3 q0 q1 q2 q3 s0 s1 s2 s3 u0 u1 u2 u3 v0 v1 v2 v3 x0 x1 x2 x3 y0 y1 y2 y3; have b0 := (HO5.out.grow HB6.out).cell 0; have b1 := (HO5.out.grow HB6.out).cell 1; have b2 := (HO5.out.grow HB6.out).cell 2; have b3 := (HO5.out.grow HB6.out).cell 3; simp only [List.getElem?_cons_zero, List.getElem?_cons_succ] at b0 b1 b2 b3; have d0 := ((HO5.out.grow HB6.out).grow ((Below.refl _ _).alloc (Nat.le_refl _) (.cells #[.int .i64 0, .int .i64 0, .int .i64 0, .int .i64 0, .int .u32 0, .int .i64 0, .int .i64 0] 24))).cell 0; have d1 := ((HO5.out.grow HB6.out).grow ((Below.refl _ _).alloc (Nat.le_refl _) (.cells #[.int .i64 0, .int .i64 0, .int .i64 0, .int .i64 0, .int .u32 0, .int .i64 0, .int .i64 0] 24))).cell 1; have d2 := ((HO5.out.grow HB6.out).grow ((Below.refl _ _).alloc (Nat.le_refl _) (.cells #[.int .i64 0, .int .i64 0, .int .i64 0, .int .i64 0, .int .u32 0, .int .i64 0, .int .i64 0] 24))).cell 2; have d3 := ((HO5.out.grow HB6.out).grow ((Below.refl _ _).alloc (Nat.le_refl _) (.cells #[.int .i64 0, .int .i64 0, .int .i64 0, .int .i64 0, .int .u32 0, .int .i64 0, .int .i64 0] 24))).cell 3; simp only [List.getElem?_cons_zero, List.getElem?_cons_succ] at d0 d1 d2 d3; clear hg6 hown6)
            | (refine step_app (by rfl) (.tmp 53) (.tmp 54) 32 (by rfl) w5.heap.size 5 i0 (.int .u8 0) 1 1 Try.underlying32 hi hz0 hz1 hz2 rfl (by decide) _ 0 [] (by rfl) (show World.ownsRow (((World.drew w5).alloc (.cells #[] 5)).alloc (.cells #[.int .i64 0, .int .i64 0, .int .i64 0, .int .i64 0, .int .u32 0, .int .i64 0, .int .i64 0] 24)) w5.heap.size 5 1 (.slice (some ⟨w5.heap.size, 0, none⟩) 0 0) 0 [] from own_kept (World.ownsRow_made (e := 5) (size := 1) w5.drew #[] 0 (Nat.le_refl _) (Nat.zero_le _) rfl) ((Below.refl _ _).alloc (Nat.le_refl _) _)) w5.heap.size A9 K k9 (bvs L) (by rfl) ((HR9.out.drew.alloc (Nat.le_refl _) _).alloc (by simp) _) HLL.out (bvs_one _) (by simp only [maxLen]; omega) (by omega) (by simp <;> omega) ?_; intro v6 w6 hown6 hg6; rw [Nat.zero_add, List.nil_append] at hown6; have HB6 := Lib.hid (show Below w5.heap.size w5 w6 from (((Below.refl w5.heap.size w5).drew.alloc (Nat.le_refl _) (.cells #[] 5)).alloc (by simp) (.cells #[.int .i64 0, .int .i64 0, .int .i64 0, .int .i64 0, .int .u32 0, .int .i64 0, .int .i64 0] 24)).grown hg6 (by simp <;> omega) (own_block (show World.ownsRow (((World.drew w5).alloc (.cells #[] 5)).alloc (.cells #[.int .i64 0, .int .i64 0, .int .i64 0, .int .i64 0, .int .u32 0, .int .i64 0, .int .i64 0] 24)) w5.heap.size 5 1 (.slice (some ⟨w5.heap.size, 0, none⟩) 0 0) 0 [] from own_kept (World.ownsRow_made (e := 5) (size := 1) w5.drew #[] 0 (Nat.le_refl _) (Nat.zero_le _) rfl) ((Below.refl _ _).alloc (Nat.le_refl _) _)))); have HOW6 := Lib.hid hown6; have HZ6 := Lib.hid (Blk.only (blk_new (n := w5.heap.size + 1) ((World.drew w5).alloc (.cells #[] 5)) #[.int .i64 0, .int .i64 0, .int .i64 0, .int .i64 0, .int .u32 0, .int .i64 0, .int .i64 0] 24 (by simp)) (OnlyT.grown (B := w5.heap.size) (ts := [5]) hg6 (own_type (show World.ownsRow (((World.drew w5).alloc (.cells #[] 5)).alloc (.cells #[.int .i64 0, .int .i64 0, .int .i64 0, .int .i64 0, .int .u32 0, .int .i64 0, .int .i64 0] 24)) w5.heap.size 5 1 (.slice (some ⟨w5.heap.size, 0, none⟩) 0 0) 0 [] from own_kept (World.ownsRow_made (e := 5) (size := 1) w5.drew #[] 0 (Nat.le_refl _) (Nat.zero_le _) rfl) ((Below.refl _ _).alloc (Nat.le_refl _) _))) (by simp)) (by decide)); clear o0 o1 o2 o3 a0 a1 a2 a3 p0 p1 p2 p3 q0 q1 q2 q3 s0 s1 s2 s3 u0 u1 u2 u3 v0 v1 v2 v3 x0 x1 x2 x3 y0 y1 y2 y3; have b0 := (HO5.out.grow HB6.out).cell 0; have b1 := (HO5.out.grow HB6.out).cell 1; have b2 := (HO5.out.grow HB6.out).cell 2; have b3 := (HO5.out.grow HB6.out).cell 3; simp only [List.getElem?_cons_zero, List.getElem?_cons_succ] at b0 b1 b2 b3; have d0 := ((HO5.out.grow HB6.out).grow ((Below.refl _ _).alloc (Nat.le_refl _) (.cells #[.int .i64 0, .int .i64 0, .int .i64 0, .int .i64 0, .int .u32 0, .int .i64 0, .int .i64 0] 24))).cell 0; have d1 := ((HO5.out.grow HB6.out).grow ((Below.refl _ _).alloc (Nat.le_refl _) (.cells #[.int .i64 0, .int .i64 0, .int .i64 0, .int .i64 0, .int .u32 0, .int .i64 0, .int .i64 0] 24))).cell 1; have d2 := ((HO5.out.grow HB6.out).grow ((Below.refl _ _).alloc (Nat.le_refl _) (.cells #[.int .i64 0, .int .i64 0, .int .i64 0, .int .i64 0, .int .u32 0, .int .i64 0, .int .i64 0] 24))).cell 2; have d3 := ((HO5.out.grow HB6.out).grow ((Below.refl _ _).alloc (Nat.le_refl _) (.cells #[.int .i64 0, .int .i64 0, .int .i64 0, .int .i64 0, .int .u32 0, .int .i64 0, .int .i64 0] 24))).cell 3; simp only [List.getElem?_cons_zero, List.getElem?_cons_succ] at d0 d1 d2 d3; clear hg6 hown6)
            | (refine step_app (by rfl) (.tmp 53) (.tmp 54) 32 (by rfl) w5.heap.size 5 i0 (.int .u8 0) 1 1 Try.underlying32 hi hz0 hz1 hz2 rfl (by decide) _ 0 [] (by rfl) (show World.ownsRow (((World.drew w5).alloc (.cells #[.int .i64 0, .int .i64 0, .int .i64 0, .int .i64 0, .int .u32 0, .int .i64 0, .int .i64 0] 24)).alloc (.cells #[] 5)) w5.heap.size 5 1 (.slice (some ⟨w5.heap.size + 1, 0, none⟩) 0 0) 0 [] from own_more (by have h := World.ownsRow_made (e := 5) (size := 1) (w5.drew.alloc (.cells #[.int .i64 0, .int .i64 0, .int .i64 0, .int .i64 0, .int .u32 0, .int .i64 0, .int .i64 0] 24)) #[] 0 (Nat.le_refl _) (Nat.zero_le _) rfl; rw [show (w5.drew.alloc (.cells #[.int .i64 0, .int .i64 0, .int .i64 0, .int .i64 0, .int .u32 0, .int .i64 0, .int .i64 0] 24)).heap.size = w5.heap.size + 1 by simp] at h; exact h) (Nat.le_succ _)) w5.heap.size A9 K k9 (bvs L) (by rfl) ((HR9.out.drew.alloc (Nat.le_refl _) _).alloc (by simp) _) HLL.out (bvs_one _) (by simp only [maxLen]; omega) (by omega) (by simp <;> omega) ?_; intro v6 w6 hown6 hg6; rw [Nat.zero_add, List.nil_append] at hown6; have HB6 := Lib.hid (show Below w5.heap.size w5 w6 from (((Below.refl w5.heap.size w5).drew.alloc (Nat.le_refl _) (.cells #[.int .i64 0, .int .i64 0, .int .i64 0, .int .i64 0, .int .u32 0, .int .i64 0, .int .i64 0] 24)).alloc (by simp) (.cells #[] 5)).grown hg6 (by simp <;> omega) (own_block (show World.ownsRow (((World.drew w5).alloc (.cells #[.int .i64 0, .int .i64 0, .int .i64 0, .int .i64 0, .int .u32 0, .int .i64 0, .int .i64 0] 24)).alloc (.cells #[] 5)) w5.heap.size 5 1 (.slice (some ⟨w5.heap.size + 1, 0, none⟩) 0 0) 0 [] from own_more (by have h := World.ownsRow_made (e := 5) (size := 1) (w5.drew.alloc (.cells #[.int .i64 0, .int .i64 0, .int .i64 0, .int .i64 0, .int .u32 0, .int .i64 0, .int .i64 0] 24)) #[] 0 (Nat.le_refl _) (Nat.zero_le _) rfl; rw [show (w5.drew.alloc (.cells #[.int .i64 0, .int .i64 0, .int .i64 0, .int .i64 0, .int .u32 0, .int .i64 0, .int .i64 0] 24)).heap.size = w5.heap.size + 1 by simp] at h; exact h) (Nat.le_succ _)))); have HOW6 := Lib.hid hown6; have HZ6 := Lib.hid (Blk.only ((blk_new (n := w5.heap.size) (World.drew w5) #[.int .i64 0, .int .i64 0, .int .i64 0, .int .i64 0, .int .u32 0, .int .i64 0, .int .i64 0] 24 rfl).grow ((Below.refl _ _).alloc (Nat.le_refl _) (.cells #[] 5))) (OnlyT.grown (B := w5.heap.size) (ts := [5]) hg6 (own_type (show World.ownsRow (((World.drew w5).alloc (.cells #[.int .i64 0, .int .i64 0, .int .i64 0, .int .i64 0, .int .u32 0, .int .i64 0, .int .i64 0] 24)).alloc (.cells #[] 5)) w5.heap.size 5 1 (.slice (some ⟨w5.heap.size + 1, 0, none⟩) 0 0) 0 [] from own_more (by have h := World.ownsRow_made (e := 5) (size := 1) (w5.drew.alloc (.cells #[.int .i64 0, .int .i64 0, .int .i64 0, .int .i64 0, .int .u32 0, .int .i64 0, .int .i64 0] 24)) #[] 0 (Nat.le_refl _) (Nat.zero_le _) rfl; rw [show (w5.drew.alloc (.cells #[.int .i64 0, .int .i64 0, .int .i64 0, .int .i64 0, .int .u32 0, .int .i64 0, .int .i64 0] 24)).heap.size = w5.heap.size + 1 by simp] at h; exact h) (Nat.le_succ _))) (by simp)) (by decide)); clear o0 o1 o2 o3 a0 a1 a2 a3 p0 p1 p2 p3 q0 q1 q2 q3 s0 s1 s2 s3 u0 u1 u2 u3 v0 v1 v2 v3 x0 x1 x2 x3 y0 y1 y2 y3; have b0 := (HO5.out.grow HB6.out).cell 0; have b1 := (HO5.out.grow HB6.out).cell 1; have b2 := (HO5.out.grow HB6.out).cell 2; have b3 := (HO5.out.grow HB6.out).cell 3; simp only [List.getElem?_cons_zero, List.getElem?_cons_succ] at b0 b1 b2 b3; have d0 := ((HO5.out.grow HB6.out).grow ((Below.refl _ _).alloc (Nat.le_refl _) (.cells #[.int .i64 0, .int .i64 0, .int .i64 0, .int .i64 0, .int .u32 0, .int .i64 0, .int .i64 0] 24))).cell 0; have d1 := ((HO5.out.grow HB6.out).grow ((Below.refl _ _).alloc (Nat.le_refl _) (.cells #[.int .i64 0, .int .i64 0, .int .i64 0, .int .i64 0, .int .u32 0, .int .i64 0, .int .i64 0] 24))).cell 1; have d2 := ((HO5.out.grow HB6.out).grow ((Below.refl _ _).alloc (Nat.le_refl _) (.cells #[.int .i64 0, .int .i64 0, .int .i64 0, .int .i64 0, .int .u32 0, .int .i64 0, .int .i64 0] 24))).cell 2; have d3 := ((HO5.out.grow HB6.out).grow ((Below.refl _ _).alloc (Nat.le_refl _) (.cells #[.int .i64 0, .int .i64 0, .int .i64 0, .int .i64 0, .int .u32 0, .int .i64 0, .int .i64 0] 24))).cell 3; simp only [List.getElem?_cons_zero, List.getElem?_cons_succ] at d0 d1 d2 d3; clear hg6 hown6)
            | (refine step_app (by rfl) (.tmp 55) (.tmp 56) 32 (by rfl) w5.heap.size 5 i0 (.int .u8 0) 1 1 Try.underlying32 hi hz0 hz1 hz2 rfl (by decide) _ K _ (by rfl) HOW6.out W.heap.size A n _ (bvs l) (by rfl) ((HRL.out.below HB5.out).below (HB6.out.mono HB5.out.size)) HLl.out (bvs_one _) (by simp only [maxLen]; omega) (by omega) HB6.out.size ?_; intro v7 w7 hown7 hg7; rw [← bvs_append] at hown7; have HB7 := Lib.hid (show Below w5.heap.size w5 w7 from HB6.out.grown hg7 HB6.out.size (own_block HOW6.out)); obtain ⟨A7, k7, hv7, hk7, -, -⟩ := own_form hown7; subst hv7; have HR7 := Lib.hid (Rd.of_own hown7); have HO7 := Lib.hid (HO5.out.grow HB7.out); have HH7 := Lib.hid (HH5.out.grow HB7.out); (try (have HZ7 := Lib.hid (Blk.only HZ6.out (OnlyT.grown (B := w5.heap.size) (ts := [5]) hg7 (own_type HOW6.out) (by simp)) (by decide)))); clear b0 b1 b2 b3 d0 d1 d2 d3; have c0 := (HO5.out.grow HB7.out).cell 0; have c1 := (HO5.out.grow HB7.out).cell 1; have c2 := (HO5.out.grow HB7.out).cell 2; have c3 := (HO5.out.grow HB7.out).cell 3; simp only [List.getElem?_cons_zero, List.getElem?_cons_succ] at c0 c1 c2 c3; have e0 := ((HO5.out.grow HB7.out).grow ((Below.refl _ _).alloc (Nat.le_refl _) (.cells #[.int .i64 0, .int .i64 0, .int .i64 0, .int .i64 0, .int .u32 0, .int .i64 0, .int .i64 0] 24))).cell 0; have e1 := ((HO5.out.grow HB7.out).grow ((Below.refl _ _).alloc (Nat.le_refl _) (.cells #[.int .i64 0, .int .i64 0, .int .i64 0, .int .i64 0, .int .u32 0, .int .i64 0, .int .i64 0] 24))).cell 1; have e2 := ((HO5.out.grow HB7.out).grow ((Below.refl _ _).alloc (Nat.le_refl _) (.cells #[.int .i64 0, .int .i64 0, .int .i64 0, .int .i64 0, .int .u32 0, .int .i64 0, .int .i64 0] 24))).cell 2; have e3 := ((HO5.out.grow HB7.out).grow ((Below.refl _ _).alloc (Nat.le_refl _) (.cells #[.int .i64 0, .int .i64 0, .int .i64 0, .int .i64 0, .int .u32 0, .int .i64 0, .int .i64 0] 24))).cell 3; simp only [List.getElem?_cons_zero, List.getElem?_cons_succ] at e0 e1 e2 e3; clear hg7 hown7)
            | (refine step_app (by rfl) (.tmp 55) (.tmp 56) 32 (by rfl) w5.heap.size 5 i0 (.int .u8 0) 1 1 Try.underlying32 hi hz0 hz1 hz2 rfl (by decide) _ K _ (by rfl) (own_kept HOW6.out ((Below.refl w6.heap.size w6).alloc (Nat.le_refl _) (.cells #[.int .i64 0, .int .i64 0, .int .i64 0, .int .i64 0, .int .u32 0, .int .i64 0, .int .i64 0] 24))) W.heap.size A n _ (bvs l) (by rfl) ((HRL.out.below HB5.out).below ((HB6.out.alloc HB6.out.size (.cells #[.int .i64 0, .int .i64 0, .int .i64 0, .int .i64 0, .int .u32 0, .int .i64 0, .int .i64 0] 24)).mono HB5.out.size)) HLl.out (bvs_one _) (by simp only [maxLen]; omega) (by omega) (HB6.out.alloc HB6.out.size (.cells #[.int .i64 0, .int .i64 0, .int .i64 0, .int .i64 0, .int .u32 0, .int .i64 0, .int .i64 0] 24)).size ?_; intro v7 w7 hown7 hg7; rw [← bvs_append] at hown7; have HB7 := Lib.hid (show Below w5.heap.size w5 w7 from (HB6.out.alloc HB6.out.size (.cells #[.int .i64 0, .int .i64 0, .int .i64 0, .int .i64 0, .int .u32 0, .int .i64 0, .int .i64 0] 24)).grown hg7 (HB6.out.alloc HB6.out.size (.cells #[.int .i64 0, .int .i64 0, .int .i64 0, .int .i64 0, .int .u32 0, .int .i64 0, .int .i64 0] 24)).size (own_block (own_kept HOW6.out ((Below.refl w6.heap.size w6).alloc (Nat.le_refl _) (.cells #[.int .i64 0, .int .i64 0, .int .i64 0, .int .i64 0, .int .u32 0, .int .i64 0, .int .i64 0] 24))))); obtain ⟨A7, k7, hv7, hk7, -, -⟩ := own_form hown7; subst hv7; have HR7 := Lib.hid (Rd.of_own hown7); have HO7 := Lib.hid (HO5.out.grow HB7.out); have HH7 := Lib.hid (HH5.out.grow HB7.out); have HZ7 := Lib.hid (Blk.only (blk_new w6 #[.int .i64 0, .int .i64 0, .int .i64 0, .int .i64 0, .int .u32 0, .int .i64 0, .int .i64 0] 24 rfl) (OnlyT.grown (B := w5.heap.size) (ts := [5]) hg7 (own_type (own_kept HOW6.out ((Below.refl w6.heap.size w6).alloc (Nat.le_refl _) (.cells #[.int .i64 0, .int .i64 0, .int .i64 0, .int .i64 0, .int .u32 0, .int .i64 0, .int .i64 0] 24)))) (by simp)) (by decide)); clear b0 b1 b2 b3 d0 d1 d2 d3; have c0 := (HO5.out.grow HB7.out).cell 0; have c1 := (HO5.out.grow HB7.out).cell 1; have c2 := (HO5.out.grow HB7.out).cell 2; have c3 := (HO5.out.grow HB7.out).cell 3; simp only [List.getElem?_cons_zero, List.getElem?_cons_succ] at c0 c1 c2 c3; have e0 := ((HO5.out.grow HB7.out).grow ((Below.refl _ _).alloc (Nat.le_refl _) (.cells #[.int .i64 0, .int .i64 0, .int .i64 0, .int .i64 0, .int .u32 0, .int .i64 0, .int .i64 0] 24))).cell 0; have e1 := ((HO5.out.grow HB7.out).grow ((Below.refl _ _).alloc (Nat.le_refl _) (.cells #[.int .i64 0, .int .i64 0, .int .i64 0, .int .i64 0, .int .u32 0, .int .i64 0, .int .i64 0] 24))).cell 1; have e2 := ((HO5.out.grow HB7.out).grow ((Below.refl _ _).alloc (Nat.le_refl _) (.cells #[.int .i64 0, .int .i64 0, .int .i64 0, .int .i64 0, .int .u32 0, .int .i64 0, .int .i64 0] 24))).cell 2; have e3 := ((HO5.out.grow HB7.out).grow ((Below.refl _ _).alloc (Nat.le_refl _) (.cells #[.int .i64 0, .int .i64 0, .int .i64 0, .int .i64 0, .int .u32 0, .int .i64 0, .int .i64 0] 24))).cell 3; simp only [List.getElem?_cons_zero, List.getElem?_cons_succ] at e0 e1 e2 e3; clear hg7 hown7)
            | (go_simp; refine (C2.out A7 k7 w7 HR7.out hk7).mono ?_; rintro _ w8 ⟨rfl, hb8⟩; have HB8 := Lib.hid (HB7.out.trans (hb8.mono HB7.out.size)); have HO8 := Lib.hid (HO7.out.grow hb8); (try (have HZ8 := Lib.hid (HZ7.out.grow hb8); have z0 := HZ8.out.cell 0; have z1 := HZ8.out.cell 1; have z2 := HZ8.out.cell 2; have z3 := HZ8.out.cell 3; have z4 := HZ8.out.cell 4; have z5 := HZ8.out.cell 5; have z6 := HZ8.out.cell 6; simp only [List.getElem?_cons_zero, List.getElem?_cons_succ] at z0 z1 z2 z3 z4 z5 z6; have g0 := HZ8.out.frozen 0; have g1 := HZ8.out.frozen 1; have g2 := HZ8.out.frozen 2; have g3 := HZ8.out.frozen 3; have g4 := HZ8.out.frozen 4; have g5 := HZ8.out.frozen 5; have g6 := HZ8.out.frozen 6)); clear hb8)
            | (go_simp; refine (C2.out A7 k7 (w7.alloc (.cells #[.int .i64 0, .int .i64 0, .int .i64 0, .int .i64 0, .int .u32 0, .int .i64 0, .int .i64 0] 24)) ((HR7.out.alloc (Nat.le_refl _) _).more (by simp)) hk7).mono ?_; rintro _ w8 ⟨rfl, hb8⟩; have HZ8 := Lib.hid ((blk_new w7 #[.int .i64 0, .int .i64 0, .int .i64 0, .int .i64 0, .int .u32 0, .int .i64 0, .int .i64 0] 24 rfl).grow hb8); have z0 := HZ8.out.cell 0; have z1 := HZ8.out.cell 1; have z2 := HZ8.out.cell 2; have z3 := HZ8.out.cell 3; have z4 := HZ8.out.cell 4; have z5 := HZ8.out.cell 5; have z6 := HZ8.out.cell 6; simp only [List.getElem?_cons_zero, List.getElem?_cons_succ] at z0 z1 z2 z3 z4 z5 z6; have g0 := HZ8.out.frozen 0; have g1 := HZ8.out.frozen 1; have g2 := HZ8.out.frozen 2; have g3 := HZ8.out.frozen 3; have g4 := HZ8.out.frozen 4; have g5 := HZ8.out.frozen 5; have g6 := HZ8.out.frozen 6; have HB8 := Lib.hid ((HB7.out.alloc HB7.out.size (.cells #[.int .i64 0, .int .i64 0, .int .i64 0, .int .i64 0, .int .u32 0, .int .i64 0, .int .i64 0] 24)).trans (hb8.mono (by have := HB7.out.size; simp; omega))); have HO8 := Lib.hid ((HO7.out.grow ((Below.refl _ _).alloc (Nat.le_refl _) (.cells #[.int .i64 0, .int .i64 0, .int .i64 0, .int .i64 0, .int .u32 0, .int .i64 0, .int .i64 0] 24))).grow hb8); clear hb8))
          all_goals
            simp only [Act.put, List.setIfInBounds_toArray]
            first
              | (have hzz := HZ8.out; exact HEN.out _ _ _ _ _ _ _ _ _ _ _ _ _ _ _ _ _ _ _ _ _ _ _ _ _ _ _ _ _ _ _ _ _ _ _ _ _ _ (below7 HB8.out (by first | exact Nat.le_refl _ | exact Nat.le_succ _ | exact HB6.out.size | exact HB7.out.size) _ _ _ _ _ _ _) (set7 hzz _ _ _ _ _ _ _))
              | exact HEN.out _ _ _ _ _ _ _ _ _ _ _ _ _ _ _ _ _ _ _ _ _ _ _ _ _ _ _ _ _ _ _ _ _ _ _ _ _ _ (HB8.out.alloc HB8.out.size _) (blk_new w8 _ _ rfl)
end Go.Proofs.Ytcjjlkfenlmmlaa
