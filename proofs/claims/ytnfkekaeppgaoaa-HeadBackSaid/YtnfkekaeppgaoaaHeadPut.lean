/- Layer 29: the program: Put. -/
import Derived.Test.YtnfkekaeppgaoaaHeadFn
import Derived.Lib.SlBytesConst
namespace Go.Proofs.Ytnfkekaeppgaoaa
open Go.RowKit Go.Sort

set_option maxRecDepth 100000 in
set_option maxHeartbeats 1000000 in
theorem hdPut_no {b u r m : Int} (h : mayO b u r m = false) (W : World) : Calls Try.prog 10 #[optV b u r m] W fun e w' => e = .returned (.tuple #[.slice none 0 0, .int .i64 10]) ∧ Below W.heap.size W w' := by
  have CC := Lib.hid (optCheck_any b u r m)
  rw [show chkE b u r m = 10 by unfold chkE; rw [h]; rfl] at CC
  unfold optV at CC ⊢
  have hO := heap_alloc_new W (.cells #[.int .i64 b, .int .i64 u, .int .i64 r, .int .i64 m] 24)
  have HB := Lib.hid ((Below.refl W.heap.size W).alloc (Nat.le_refl _) (.cells #[.int .i64 b, .int .i64 u, .int .i64 r, .int .i64 m] 24))
  clear h hO
  go_enter Try.func10, Try.ntmps10
  go_wp2_with fail
  refine (CC.out _).mono ?_
  rintro e w1 ⟨rfl, hb1⟩
  have HB1 := Lib.hid (HB.out.trans (hb1.mono HB.out.size))
  clear hb1
  go_wp2
  go_ret2
  exact ⟨rfl, HB1.out⟩
/-- append onto a row without room, whosever it is: a new row. -/
theorem wpList_appGrow {P : Program} {w : World} {ops : Array Oper} {rest : List Oper} {o : Oper} {a : Act} {Q : Exit → Act → World → Prop} (hgd : o.guard = none) (s x : Operand) (t : TypeId)
    (ho : o.op = .call { callee := .builtin .append, args := #[s, x], argTypes := #[t, t] })
    (e : TypeId) (i : TypeInfo) (z : Value) (size bytes : Nat) (ht : P.underlying t = some (.slice e)) (hi : P.info? e = some i) (hz : i.zero = some z)
    (hsize : i.size = size) (hby : i.bytes = bytes) (hzs : z.cells.size = size)
    (b : Addr) (n c0 : Nat) (xs : List Value) (hs : a.eval s = .slice (some b) n c0) (hx0 : xs.length = n * size) (hr0 : ∀ j v, xs[j]? = some v → w.cell? (b.add j) = some v)
    (b2 : Addr) (m c : Nat) (news : List Value) (hx : a.eval x = .slice (some b2) m c) (hn2 : news.length = m * size) (hr2 : ∀ j v, news[j]? = some v → w.cell? (b2.add j) = some v)
    (hroom : c0 < n + m) (h63 : n + m ≤ maxLen) (hbytes : (n + m) * bytes ≤ 140737488355328)
    (h : ∀ v' w', w'.ownsRow w.heap.size e size v' (n + m) (xs ++ news) → Below w.heap.size w w' → wpList P ops Q rest (a.put o.dst v') w') : wpList P ops Q (o :: rest) a w := by
  refine wpList_plain hgd fun K hK => ?_
  subst hsize
  subst hby
  have hsmall : n + m ≤ 9223372036854775807 := by simp only [maxLen] at h63; omega
  have hlen : (xs ++ news).length = (n + m) * i.size := by rw [List.length_append, hx0, hn2, Nat.add_mul]
  have hrun := run_append_grow (P := P) w t o.type e i z ht hi hz b n c0 xs hx0 hr0 b2 m c news hn2 hr2 hroom (by omega) (growslice_fits (by omega) hbytes)
  have hge := grownCap_ge w (n + m) c0 e
  have hcm : grownCap w (n + m) c0 e ≤ maxLen := grownCap_le_maxLen w (n + m) c0 e h63
  unfold Oper.wp execOp
  simp only [ho, resolve, invoke, builtin, Sem.run_bind, Sem.run_pure, Result.andThen_ok, List.map_toArray, List.map_cons, List.map_nil, hs, hx, hrun]
  refine hK _ _ (h _ _ ⟨hlen, .inr ⟨w.heap.size, _, _, rfl, Nat.le_refl _, heap_alloc_new w.drew _, hge, hcm, ?_, ?_⟩⟩ ((Below.refl _ _).drew.alloc (Nat.le_refl _) _))
  · simp only [Array.size_append, List.size_toArray, size_zeroCells, hzs, hx0, hn2, ← Nat.add_mul]
    congr 1
    omega
  · simp only [Array.toList_append, List.append_assoc]
    rw [← List.append_assoc, ← hlen]
    exact List.take_left
def HeadOut (W : World) (L : List UInt8) (e : Ending) (w' : World) : Prop := ∃ v, e = .returned (.tuple #[v, .int .i64 0]) ∧ IsBytes L v w' ∧ Below W.heap.size W w'
set_option maxRecDepth 100000 in
set_option maxHeartbeats 2000000 in
theorem hdPut_yes {b u r m : Nat} (hb : b ≤ 16777216) (hu : u ≤ 8) (hr : r ≤ 10) (hm : m ≤ 6) (h : mayO (b : Int) (u : Int) (r : Int) (m : Int) = true) (W : World) :
    Calls Try.prog 10 #[optV (b : Int) (u : Int) (r : Int) (m : Int)] W (HeadOut W (headS b u r m)) := by
  obtain ⟨i0, hi, hz0, hz1, hz2⟩ := info_parts info_u8'
  have CC := Lib.hid (optCheck_any (b : Int) (u : Int) (r : Int) (m : Int))
  rw [show chkE (b : Int) (u : Int) (r : Int) (m : Int) = 0 by unfold chkE; rw [h]; rfl] at CC
  have hlen : (lput b).length ≤ 10 := lput_le b (by omega)
  obtain ⟨Z, hZ⟩ : ∃ Z, Z = headS b u r m := ⟨_, rfl⟩
  rw [← hZ]
  have HZ := Lib.hid hZ
  unfold optV at CC ⊢
  clear hZ h
  have HO := Lib.hid (show Blk (W.alloc (.cells #[.int .i64 (b : Int), .int .i64 (u : Int), .int .i64 (r : Int), .int .i64 (m : Int)] 24)) W.heap.size 24 [.int .i64 (b : Int), .int .i64 (u : Int), .int .i64 (r : Int), .int .i64 (m : Int)] from heap_alloc_new W _)
  have HB := Lib.hid ((Below.refl W.heap.size W).alloc (Nat.le_refl _) (.cells #[.int .i64 (b : Int), .int .i64 (u : Int), .int .i64 (r : Int), .int .i64 (m : Int)] 24))
  go_enter Try.func10, Try.ntmps10
  go_wp2_with fail
  refine (CC.out _).mono ?_
  rintro e w1 ⟨rfl, hb1⟩
  have HB1 := Lib.hid (HB.out.trans (hb1.mono HB.out.size))
  have HO1 := Lib.hid (HO.out.grow hb1)
  have q0 := HO1.out.cell 0
  have q1 := HO1.out.cell 1
  have q2 := HO1.out.cell 2
  have q3 := HO1.out.cell 3
  have hlt := HO1.out.lt
  simp only [List.getElem?_cons_zero, List.getElem?_cons_succ] at q0 q1 q2 q3
  clear hb1 HO HB
  have hcv := Lib.run_convert_bytes_const (P := Try.prog) w1 29 5 #[.int .u8 87, .int .u8 80, .int .u8 82, .int .u8 49] 4 4 Try.underlying29 Try.underlying5
  rw [show (#[.int .u8 87, .int .u8 80, .int .u8 82, .int .u8 49] : Array Value).size = 4 from rfl, show 4 + 1 = 5 from rfl] at hcv
  obtain ⟨w2, hw2⟩ : ∃ w2, w2 = (w1.alloc (.cells #[.int .u8 87, .int .u8 80, .int .u8 82, .int .u8 49] 5 (4, 5))).alloc (.cells #[.int .u8 (u : Int), .int .u8 (r : Int), .int .u8 (m : Int)] 5) := ⟨_, rfl⟩
  have hB2 : Below w1.heap.size w1 w2 := by
    rw [hw2]
    exact (((Below.refl _ _).alloc (Nat.le_refl _) _).alloc (by simp) _)
  have hrd1 : Rd w2 w2.heap.size (some ⟨w1.heap.size, 0, none⟩) [.int .u8 87, .int .u8 80, .int .u8 82, .int .u8 49] := by
    rw [hw2]
    refine Rd.more (B := (w1.alloc (.cells #[.int .u8 87, .int .u8 80, .int .u8 82, .int .u8 49] 5 (4, 5))).heap.size) (Rd.alloc ?_ (Nat.le_refl _) _) (by simp)
    intro k x hx
    refine ⟨_, _, rfl, by simp, ?_⟩
    have hg : (w1.alloc (.cells #[.int .u8 87, .int .u8 80, .int .u8 82, .int .u8 49] 5 (4, 5))).heap[w1.heap.size]? = some (.cells #[.int .u8 87, .int .u8 80, .int .u8 82, .int .u8 49] 5 (4, 5)) := (MapKept.heap_alloc w1 _).1
    simp only [World.cell?, hg, Nat.zero_add]
    simpa using hx
  have hrd2 : Rd w2 w2.heap.size (some ⟨w1.heap.size + 1, 0, none⟩) [.int .u8 (u : Int), .int .u8 (r : Int), .int .u8 (m : Int)] := by
    rw [hw2]
    have := Rd.new (w1.alloc (.cells #[.int .u8 87, .int .u8 80, .int .u8 82, .int .u8 49] 5 (4, 5))) #[.int .u8 (u : Int), .int .u8 (r : Int), .int .u8 (m : Int)] 5
    simpa using this
  have hc1 : ∀ j v, ([.int .u8 87, .int .u8 80, .int .u8 82, .int .u8 49] : List Value)[j]? = some v → w2.cell? ((⟨w1.heap.size, 0, none⟩ : Addr).add j) = some v := fun j v h => by
    obtain ⟨b', off, e1, -, e3⟩ := hrd1 j v h
    cases e1
    rw [Addr.add_lit]
    exact e3
  have hc2 : ∀ j v, ([.int .u8 (u : Int), .int .u8 (r : Int), .int .u8 (m : Int)] : List Value)[j]? = some v → w2.cell? ((⟨w1.heap.size + 1, 0, none⟩ : Addr).add j) = some v := fun j v h => by
    obtain ⟨b', off, e1, -, e3⟩ := hrd2 j v h
    cases e1
    rw [Addr.add_lit]
    exact e3
  have HW := Lib.hid hw2
  have HO2 := Lib.hid (HO1.out.grow hB2)
  have HB2 := Lib.hid (HB1.out.trans (hB2.mono HB1.out.size))
  have HC1 := Lib.hid hc1
  have HC2 := Lib.hid hc2
  clear hrd1 hrd2 hB2 hw2 hc1 hc2
  go_wp2_with ((with_reducible show wpList _ _ _ (({ dst := some 23, op := _, type := _, pos := _, after := _, guard := _ } : Oper) :: _) _ _); go_must (rw [← HW.out]; refine wpList_appGrow rfl (.tmp 12) (.tmp 22) 29 rfl 5 i0 (.int .u8 0) 1 1 Try.underlying29 hi hz0 hz1 hz2 rfl _ 4 4 _ rfl rfl HC1.out _ 3 3 _ rfl rfl HC2.out (by decide) (by decide) (by decide) ?_; intro v3 w3 hown3 hb3; have hO3 := HO2.out.grow hb3; have q0 := hO3.cell 0; simp only [List.getElem?_cons_zero] at q0; have hlt := hO3.lt))
  have HB3 := Lib.hid (HB2.out.trans (hb3.mono HB2.out.size))
  have hcells : [.int .u8 87, .int .u8 80, .int .u8 82, .int .u8 49] ++ [.int .u8 (u : Int), .int .u8 (r : Int), .int .u8 (m : Int)] = bvs [87, 80, 82, 49, UInt8.ofNat u, UInt8.ofNat r, UInt8.ofNat m] := by
    have e1 : ((UInt8.ofNat u).toNat : Int) = (u : Int) := by rw [UInt8.toNat_ofNat']; omega
    have e2 : ((UInt8.ofNat r).toNat : Int) = (r : Int) := by rw [UInt8.toNat_ofNat']; omega
    have e3 : ((UInt8.ofNat m).toNat : Int) = (m : Int) := by rw [UInt8.toNat_ofNat']; omega
    simp only [bvs, List.map_cons, List.map_nil, e1, e2, e3]
    rfl
  rw [hcells] at hown3
  obtain ⟨A3, c3, rfl, hc3, -, -⟩ := own_form hown3
  have CL := Lib.hid (lebPut_any A3 7 c3 _ (b : Int) w3 (Rd.of_own hown3) rfl (by decide) (by omega) (by omega))
  rw [Int.toNat_natCast] at CL
  obtain ⟨H, hH⟩ : ∃ H, H = headL b u r m := ⟨_, rfl⟩
  have hHl : H.length = 7 + (lput b).length := by rw [hH]; unfold headL; rw [List.length_append]; rfl
  rw [show [87, 80, 82, 49, UInt8.ofNat u, UInt8.ofNat r, UInt8.ofNat m] ++ lput b = H by rw [hH]; rfl] at CL
  have HZ2 := Lib.hid (show Z = H ++ fourL (crcOf H).toNat by rw [HZ.out, hH]; rfl)
  obtain ⟨k, hk⟩ : ∃ k, k = H.length := ⟨_, rfl⟩
  have hk17 : k ≤ 17 := by omega
  have HK := Lib.hid hk
  clear hcells hown3 hb3 hO3 q0 hlt hc3 hH hHl hk HB1 HB2 HO1 HO2 HC1 HC2 HW hcv
  refine CL.out.mono ?_
  rintro e w4 ⟨v4, rfl, ho4, hb4⟩
  rw [← HK.out] at ho4
  have HB4 := Lib.hid (HB3.out.trans (hb4.mono HB3.out.size))
  have HS3 := Lib.hid hb4.size
  have HWB := Lib.hid HB3.out.size
  obtain ⟨A4, c4, rfl, hc4, -, -⟩ := own_form ho4
  have HO4 := Lib.hid ho4
  have CS := Lib.hid (hdSum_any A4 k c4 H w4 (Rd.of_own ho4) HK.out.symm (by omega))
  clear ho4 hb4 CL HB3
  go_wp2_with fail
  refine CS.out.mono ?_
  rintro e w5 ⟨v5, rfl, hB5, hb5⟩
  have HB5 := Lib.hid (HB4.out.trans (hb5.mono HB4.out.size))
  have HO5 := Lib.hid (own_kept HO4.out hb5)
  have HS5 := Lib.hid (Nat.le_trans HS3.out hb5.size)
  obtain ⟨F, hF⟩ : ∃ F, F = fourL (crcOf H).toNat := ⟨_, rfl⟩
  have hF4 : F.length = 4 := by rw [hF]; rfl
  rw [← hF] at hB5 HZ2
  obtain ⟨A5, c5, rfl, hc5, hR5⟩ := hB5
  rw [hF4] at hc5 ⊢
  have HF := Lib.hid hF4
  have HR5 := Lib.hid hR5
  clear hF hF4 hb5 hc5 hR5 CS HO4 HB4
  go_wp2_with ((with_reducible show wpList _ _ _ (({ dst := some 32, op := _, type := _, pos := _, after := _, guard := _ } : Oper) :: _) _ _); go_must (refine wpList_app rfl (.tmp 29) (.tmp 31) 29 rfl w3.heap.size 5 i0 (.int .u8 0) 1 1 Try.underlying29 hi hz0 hz1 hz2 rfl (by decide) _ _ _ rfl HO5.out w5.heap.size A5 4 c5 (bvs F) rfl HR5.out (by rw [bvs_length, HF.out]) (bvs_one _) (by simp only [maxLen]; omega) (by omega) HS5.out ?_; intro v6 w6 hown6 hg6; have hb6 := HB5.out.grown hg6 HB5.out.size (fun k hk => Nat.le_trans HWB.out (own_block HO5.out k hk)); clear hg6))
  go_ret2
  refine ⟨_, rfl, ?_, hb6⟩
  rw [HZ2.out]
  refine IsBytes.of_own (base := w3.heap.size) (e := 5) ?_
  rw [List.length_append, HF.out, ← HK.out, bvs_append]
  exact hown6
end Go.Proofs.Ytnfkekaeppgaoaa
