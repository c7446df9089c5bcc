/-
  Layer 29: the reference: Four, Put. · Layer 29: the program: sum, begins, options. · Layer 29: the program: Put. · Layer 29: the program: Get. · Layer 29: the reference's Get. · Layer 29: what Get tells, the program's way and the reference's; what was put is got. Plain.
-/
import Derived.Test.YtjignfnkcbklkaaQ04
import Derived.Test.YtjignfnkcbklkaaQ05
import Derived.Test.YtjignfnkcbklkaaQ06
import Derived.Test.YtjignfnkcbklkaaQ07
import Derived.Test.YtjignfnkcbklkaaQ08
import Derived.Test.YtjignfnkcbklkaaQ09
import Derived.Test.YtjignfnkcbklkaaProg
import Derived.Laws.Rows
import Derived.OwnWalk
import Derived.Lib.SlBytesConst
namespace Go.Proofs.Ytjignfnkcbklkaa
open Go.RowKit Go.Sort

/-- A head's bytes ahead of the sum. -/
def headL (b u r m : Nat) : List UInt8 := [87, 80, 82, 49, UInt8.ofNat u, UInt8.ofNat r, UInt8.ofNat m] ++ lput b
def headS (b u r m : Nat) : List UInt8 := headL b u r m ++ fourL (crcOf (headL b u r m)).toNat
end Go.Proofs.Ytjignfnkcbklkaa
namespace Go.Proofs.Ytjignfnkcbklkaa
open Go.RowKit Go.Sort

set_option maxRecDepth 100000 in
set_option maxHeartbeats 1000000 in
theorem hdSum_any (A : Option Addr) (n c : Nat) (l : List UInt8) (W : World) (hr : Rd W W.heap.size A (bvs l)) (hn : l.length = n) (hn1 : n ≤ 100000) :
    Calls Try.prog 26 #[.slice A n c] W (NewBs W (fourL (crcOf l).toNat)) := by
  have CM := Lib.hid crcMake_any
  obtain ⟨x, hx⟩ : ∃ x, x = (crcOf l).toNat := ⟨_, rfl⟩
  have HX := Lib.hid hx
  have hx32 : x < 4294967296 := by rw [hx]; exact (crcOf l).isLt
  have HR := Lib.hid hr
  have CO := Lib.hid (fun g w (ht : IsTab w g) (hr : Rd w w.heap.size A (bvs l)) => crcOf_any g A n c l w ht hr hn (by omega))
  rw [← hx] at CO ⊢
  clear hr hx
  go_enter Try.func26, Try.ntmps26
  go_wp2_with fail
  refine (CM.out _).mono ?_
  rintro e w1 ⟨g, rfl, hg, ht, hb1⟩
  have HB1 := Lib.hid hb1
  have HR1 := Lib.hid ((HR.out.below hb1).more hb1.size)
  have HT := Lib.hid ht
  clear hb1 ht
  go_wp2_with fail
  refine (CO.out g w1 HT.out HR1.out).mono ?_
  rintro e w2 ⟨rfl, hw⟩
  subst hw
  have hxi : (x : Int) < 4294967296 := by omega
  go_wp2_with fail
  have hrw : Rd (w1.alloc (.cells #[.int .u64 (x : Int)] 59)) (w1.alloc (.cells #[.int .u64 (x : Int)] 59)).heap.size (some ⟨w1.heap.size, 0, none⟩) (wvs [x]) := Rd.new w1 _ _
  have hb2 := HB1.out.alloc HB1.out.size (.cells #[.int .u64 (x : Int)] 59)
  have CL := wordLay_any 4 (.inr (.inr (.inl rfl))) (some ⟨w1.heap.size, 0, none⟩) 1 1 [x] none 0 0 [] _ hrw rfl (fun y hy => by obtain rfl := List.mem_singleton.1 hy; omega) (Rd.nil_ _ _ _) rfl (by decide) (by decide)
  rw [lay4] at CL
  refine CL.mono ?_
  rintro e w3 ⟨v3, rfl, hB, hb3⟩
  have HB := Lib.hid hB
  have HB3 := Lib.hid (hb2.trans (hb3.mono hb2.size))
  clear hb2 hb3 hrw CL hB
  go_wp2
  go_ret
  exact ⟨_, rfl, HB.out, HB3.out⟩
def lettersL : List UInt8 := [87, 80, 82, 49]
/-- Do bytes begin with the letters, as far as there are any? -/
def begB (l : List UInt8) : Bool := l.take 4 == lettersL.take (min l.length 4)
set_option maxRecDepth 100000 in
set_option maxHeartbeats 1000000 in
theorem hdBegins_any (A : Option Addr) (n c : Nat) (l : List UInt8) (W : World) (hr : Rd W W.heap.size A (bvs l)) (hn : l.length = n) (hnc : n ≤ c) (hn1 : n ≤ 100000) :
    Calls Try.prog 35 #[.slice A n c] W fun e w' => e = .returned (.bool (begB l)) ∧ Below W.heap.size W w' := by
  obtain ⟨m, hm⟩ : ∃ m, m = min n 4 := ⟨_, rfl⟩
  have hb : begB l = (l.take m == lettersL.take m) := by
    unfold begB
    rw [hn, hm]
    by_cases h4 : 4 ≤ n
    · rw [Nat.min_eq_right h4]
    · rw [Nat.min_eq_left (by omega), List.take_of_length_le (l := l) (i := 4) (by omega), List.take_of_length_le (l := l) (i := n) (by omega)]
  have hcv : ∀ w : World, w.heap = W.heap → (convert 29 9 (.slice A m c)).run Try.prog w = .ok (.string (strA (l.take m))) w := fun w hw =>
    strOf_run (l := l.take m) ⟨A, c, by rw [List.length_take]; congr 1; omega, by rw [List.length_take]; omega, by
      have h := hr.take m
      unfold bvs at h ⊢
      rw [List.map_take]
      exact fun k u hu => by
        obtain ⟨b, off, e1, e2, e3⟩ := h k u hu
        exact ⟨b, off, e1, by rw [hw]; exact e2, by rw [← e3]; simp [World.cell?, hw]⟩⟩
  have hcv1 := hcv W.drew rfl
  have hcv0 := hcv W rfl
  have hex : ({ data := #[87, 80, 82, 49] } : ByteArray).extract 0 m = strA (lettersL.take m) := by
    have := strA_extract lettersL 0 m
    rw [List.drop_zero, Nat.sub_zero] at this
    exact this
  have heq : ((strA (l.take m)).toList == (({ data := #[87, 80, 82, 49] } : ByteArray).extract 0 m).toList) = begB l := by
    rw [hex, strA_list, strA_list, hb]
  obtain ⟨S, hS⟩ : ∃ S, S = strA (l.take m) := ⟨_, rfl⟩
  obtain ⟨T, hT⟩ : ∃ T, T = begB l := ⟨_, rfl⟩
  rw [← hS] at hcv0 hcv1 heq
  rw [← hT] at heq ⊢
  have hmi : min (n : Int) 4 = (m : Int) := by omega
  have hmc : (m : Int) ≤ (c : Int) := by omega
  have hm4 : (m : Int) ≤ 4 := by omega
  clear hm hb hcv hex hS hT
  go_enter Try.func35, Try.ntmps35
  go_wp2_with fail
  go_region
  all_goals
    go_wp2
    go_ret
    exact ⟨rfl, (Below.refl _ _).drew⟩
/-- What bytes with all of a head's numbers say. -/
def optsH (l : List UInt8) (block : Nat) : Value := optV ((min block 16777217 : Nat) : Int) ((l.getD 4 0).toNat : Int) ((l.getD 5 0).toNat : Int) ((l.getD 6 0).toNat : Int)
set_option maxRecDepth 100000 in
set_option maxHeartbeats 1000000 in
theorem hdOptions_any (A : Option Addr) (n c : Nat) (l : List UInt8) (block : Nat) (W : World) (hr : Rd W W.heap.size A (bvs l)) (hn : l.length = n) (h7 : 7 ≤ n) (hb : block < 18446744073709551616) :
    Calls Try.prog 37 #[.slice A n c, .int .u64 (block : Int)] W fun e w' => e = .returned (optsH l block) ∧ Below W.heap.size W w' := by
  obtain ⟨b, off, rfl, hbl, hcell⟩ := hr.at_ (by rw [bvs_length]; omega)
  have hg : ∀ k, k < 7 → (bvs l)[k]? = some (.int .u8 ((l.getD k 0).toNat : Int)) := fun k hk => by
    unfold bvs
    rw [List.getElem?_map, List.getD_eq_getElem?_getD, List.getElem?_eq_getElem (by omega)]
    rfl
  have c4 := hcell 4 _ (hg 4 (by decide))
  have c5 := hcell 5 _ (hg 5 (by decide))
  have c6 := hcell 6 _ (hg 6 (by decide))
  have HS := Lib.hid hbl
  unfold optsH optV
  obtain ⟨x4, hx4⟩ : ∃ x4 : Int, x4 = ((l.getD 4 0).toNat : Int) := ⟨_, rfl⟩
  obtain ⟨x5, hx5⟩ : ∃ x5 : Int, x5 = ((l.getD 5 0).toNat : Int) := ⟨_, rfl⟩
  obtain ⟨x6, hx6⟩ : ∃ x6 : Int, x6 = ((l.getD 6 0).toNat : Int) := ⟨_, rfl⟩
  have b4 : 0 ≤ x4 ∧ x4 ≤ 255 := by have := (l.getD 4 0).toNat_lt; omega
  have b5 : 0 ≤ x5 ∧ x5 ≤ 255 := by have := (l.getD 5 0).toNat_lt; omega
  have b6 : 0 ≤ x6 ∧ x6 ≤ 255 := by have := (l.getD 6 0).toNat_lt; omega
  obtain ⟨B, hB⟩ : ∃ B : Int, B = ((min block 16777217 : Nat) : Int) := ⟨_, rfl⟩
  have hmi : min (block : Int) 16777217 = B := by omega
  have hB0 : 0 ≤ B ∧ B ≤ 16777217 := by omega
  rw [← hx4] at c4
  rw [← hx5] at c5
  rw [← hx6] at c6
  rw [← hx4, ← hx5, ← hx6, ← hB]
  obtain ⟨b40, b41⟩ := b4
  obtain ⟨b50, b51⟩ := b5
  obtain ⟨b60, b61⟩ := b6
  obtain ⟨hB1, hB2⟩ := hB0
  have h7i : (7 : Int) ≤ (n : Int) := by omega
  have hne : b ≠ W.heap.size := by omega
  clear hr hg hcell hx4 hx5 hx6 hB hn
  go_enter Try.func37, Try.ntmps37
  go_wp2_with fail
  go_region
  all_goals
    go_wp2
    exact bodyPost_ret (results_cell_row Try.results37 _ _ W.heap.size 23 _ (0, 0) _ rfl (heap_alloc_new W _) Try.underlying23 rfl size_opt) rfl ⟨rfl, ((Below.refl _ _).alloc (Nat.le_refl _) _).drew⟩
end Go.Proofs.Ytjignfnkcbklkaa
namespace Go.Proofs.Ytjignfnkcbklkaa
open Go.RowKit Go.Sort

set_option maxRecDepth 100000 in
set_option maxHeartbeats 1000000 in
theorem hdPut_no {b u r m : Int} (h : mayO b u r m = false) (W : World) : Calls Try.prog 11 #[optV b u r m] W fun e w' => e = .returned (.tuple #[.slice none 0 0, .int .i64 10]) ∧ Below W.heap.size W w' := by
  have CC := Lib.hid (optCheck_any b u r m)
  rw [show chkE b u r m = 10 by unfold chkE; rw [h]; rfl] at CC
  unfold optV at CC ⊢
  have hO := heap_alloc_new W (.cells #[.int .i64 b, .int .i64 u, .int .i64 r, .int .i64 m] 23)
  have HB := Lib.hid ((Below.refl W.heap.size W).alloc (Nat.le_refl _) (.cells #[.int .i64 b, .int .i64 u, .int .i64 r, .int .i64 m] 23))
  clear h hO
  go_enter Try.func11, Try.ntmps11
  go_wp2_with fail
  refine (CC.out _).mono ?_
  rintro e w1 ⟨rfl, hb1⟩
  have HB1 := Lib.hid (HB.out.trans (hb1.mono HB.out.size))
  clear hb1
  go_wp2
  go_ret2
  exact ⟨rfl, HB1.out⟩
/-- append onto a row without room, whosever it is: a new row. -/
theorem wpList_appGrow {P : Program} {w : World} {ops : Array Oper} {rest : List Oper} {o : Oper} {a : Act} {Q : Exit → Act → World → Prop} (hgd : o.guard = none) (s x : Operand) (t : TypeId)
    (ho : o.op = .call { callee := .builtin .append, args := #[s, x], argTypes := #[t, t] })
    (e : TypeId) (i : TypeInfo) (z : Value) (size bytes : Nat) (ht : P.underlying t = some (.slice e)) (hi : P.info? e = some i) (hz : i.zero = some z)
    (hsize : i.size = size) (hby : i.bytes = bytes) (hzs : z.cells.size = size)
    (b : Addr) (n c0 : Nat) (xs : List Value) (hs : a.eval s = .slice (some b) n c0) (hx0 : xs.length = n * size) (hr0 : ∀ j v, xs[j]? = some v → w.cell? (b.add j) = some v)
    (b2 : Addr) (m c : Nat) (news : List Value) (hx : a.eval x = .slice (some b2) m c) (hn2 : news.length = m * size) (hr2 : ∀ j v, news[j]? = some v → w.cell? (b2.add j) = some v)
    (hroom : c0 < n + m) (h63 : n + m ≤ maxLen) (hbytes : (n + m) * bytes ≤ 140737488355328)
    (h : ∀ v' w', w'.ownsRow w.heap.size e size v' (n + m) (xs ++ news) → Below w.heap.size w w' → wpList P ops Q rest (a.put o.dst v') w') : wpList P ops Q (o :: rest) a w := by
  refine wpList_plain hgd fun K hK => ?_
  subst hsize
  subst hby
  have hsmall : n + m ≤ 9223372036854775807 := by simp only [maxLen] at h63; omega
  have hlen : (xs ++ news).length = (n + m) * i.size := by rw [List.length_append, hx0, hn2, Nat.add_mul]
  have hrun := run_append_grow (P := P) w t o.type e i z ht hi hz b n c0 xs hx0 hr0 b2 m c news hn2 hr2 hroom (by omega) (growslice_fits (by omega) hbytes)
  have hge := grownCap_ge w (n + m) c0 e
  have hcm : grownCap w (n + m) c0 e ≤ maxLen := grownCap_le_maxLen w (n + m) c0 e h63
  unfold Oper.wp execOp
  simp only [ho, resolve, invoke, builtin, Sem.run_bind, Sem.run_pure, Result.andThen_ok, List.map_toArray, List.map_cons, List.map_nil, hs, hx, hrun]
  refine hK _ _ (h _ _ ⟨hlen, .inr ⟨w.heap.size, _, _, rfl, Nat.le_refl _, heap_alloc_new w.drew _, hge, hcm, ?_, ?_⟩⟩ ((Below.refl _ _).drew.alloc (Nat.le_refl _) _))
  · simp only [Array.size_append, List.size_toArray, size_zeroCells, hzs, hx0, hn2, ← Nat.add_mul]
    congr 1
    omega
  · simp only [Array.toList_append, List.append_assoc]
    rw [← List.append_assoc, ← hlen]
    exact List.take_left
def HeadOwn (W : World) (L : List UInt8) (e : Ending) (w' : World) : Prop := ∃ v, e = .returned (.tuple #[v, .int .i64 0]) ∧ w'.ownsRow W.heap.size 5 1 v L.length (bvs L) ∧ Below W.heap.size W w'
set_option maxRecDepth 100000 in
set_option maxHeartbeats 2000000 in
/-- Put's bytes lie in a row of its own. -/
theorem hdPut_own {b u r m : Nat} (hb : b ≤ 16777216) (hu : u ≤ 8) (hr : r ≤ 10) (hm : m ≤ 6) (h : mayO (b : Int) (u : Int) (r : Int) (m : Int) = true) (W : World) :
    Calls Try.prog 11 #[optV (b : Int) (u : Int) (r : Int) (m : Int)] W (HeadOwn W (headS b u r m)) := by
  obtain ⟨i0, hi, hz0, hz1, hz2⟩ := info_parts info_u8'
  have CC := Lib.hid (optCheck_any (b : Int) (u : Int) (r : Int) (m : Int))
  rw [show chkE (b : Int) (u : Int) (r : Int) (m : Int) = 0 by unfold chkE; rw [h]; rfl] at CC
  have hlen : (lput b).length ≤ 10 := lput_le b (by omega)
  obtain ⟨Z, hZ⟩ : ∃ Z, Z = headS b u r m := ⟨_, rfl⟩
  rw [← hZ]
  have HZ := Lib.hid hZ
  unfold optV at CC ⊢
  clear hZ h
  have HO := Lib.hid (show Blk (W.alloc (.cells #[.int .i64 (b : Int), .int .i64 (u : Int), .int .i64 (r : Int), .int .i64 (m : Int)] 23)) W.heap.size 23 [.int .i64 (b : Int), .int .i64 (u : Int), .int .i64 (r : Int), .int .i64 (m : Int)] from heap_alloc_new W _)
  have HB := Lib.hid ((Below.refl W.heap.size W).alloc (Nat.le_refl _) (.cells #[.int .i64 (b : Int), .int .i64 (u : Int), .int .i64 (r : Int), .int .i64 (m : Int)] 23))
  go_enter Try.func11, Try.ntmps11
  go_wp2_with fail
  refine (CC.out _).mono ?_
  rintro e w1 ⟨rfl, hb1⟩
  have HB1 := Lib.hid (HB.out.trans (hb1.mono HB.out.size))
  have HO1 := Lib.hid (HO.out.grow hb1)
  have q0 := HO1.out.cell 0
  have q1 := HO1.out.cell 1
  have q2 := HO1.out.cell 2
  have q3 := HO1.out.cell 3
  have hlt := HO1.out.lt
  simp only [List.getElem?_cons_zero, List.getElem?_cons_succ] at q0 q1 q2 q3
  clear hb1 HO HB
  have hcv := Lib.run_convert_bytes_const (P := Try.prog) w1 29 5 #[.int .u8 87, .int .u8 80, .int .u8 82, .int .u8 49] 4 4 Try.underlying29 Try.underlying5
  rw [show (#[.int .u8 87, .int .u8 80, .int .u8 82, .int .u8 49] : Array Value).size = 4 from rfl, show 4 + 1 = 5 from rfl] at hcv
  obtain ⟨w2, hw2⟩ : ∃ w2, w2 = (w1.alloc (.cells #[.int .u8 87, .int .u8 80, .int .u8 82, .int .u8 49] 5 (4, 5))).alloc (.cells #[.int .u8 (u : Int), .int .u8 (r : Int), .int .u8 (m : Int)] 5) := ⟨_, rfl⟩
  have hB2 : Below w1.heap.size w1 w2 := by
    rw [hw2]
    exact (((Below.refl _ _).alloc (Nat.le_refl _) _).alloc (by simp) _)
  have hrd1 : Rd w2 w2.heap.size (some ⟨w1.heap.size, 0, none⟩) [.int .u8 87, .int .u8 80, .int .u8 82, .int .u8 49] := by
    rw [hw2]
    refine Rd.more (B := (w1.alloc (.cells #[.int .u8 87, .int .u8 80, .int .u8 82, .int .u8 49] 5 (4, 5))).heap.size) (Rd.alloc ?_ (Nat.le_refl _) _) (by simp)
    intro k x hx
    refine ⟨_, _, rfl, by simp, ?_⟩
    have hg : (w1.alloc (.cells #[.int .u8 87, .int .u8 80, .int .u8 82, .int .u8 49] 5 (4, 5))).heap[w1.heap.size]? = some (.cells #[.int .u8 87, .int .u8 80, .int .u8 82, .int .u8 49] 5 (4, 5)) := (MapKept.heap_alloc w1 _).1
    simp only [World.cell?, hg, Nat.zero_add]
    simpa using hx
  have hrd2 : Rd w2 w2.heap.size (some ⟨w1.heap.size + 1, 0, none⟩) [.int .u8 (u : Int), .int .u8 (r : Int), .int .u8 (m : Int)] := by
    rw [hw2]
    have := Rd.new (w1.alloc (.cells #[.int .u8 87, .int .u8 80, .int .u8 82, .int .u8 49] 5 (4, 5))) #[.int .u8 (u : Int), .int .u8 (r : Int), .int .u8 (m : Int)] 5
    simpa using this
  have hc1 : ∀ j v, ([.int .u8 87, .int .u8 80, .int .u8 82, .int .u8 49] : List Value)[j]? = some v → w2.cell? ((⟨w1.heap.size, 0, none⟩ : Addr).add j) = some v := fun j v h => by
    obtain ⟨b', off, e1, -, e3⟩ := hrd1 j v h
    cases e1
    rw [Addr.add_lit]
    exact e3
  have hc2 : ∀ j v, ([.int .u8 (u : Int), .int .u8 (r : Int), .int .u8 (m : Int)] : List Value)[j]? = some v → w2.cell? ((⟨w1.heap.size + 1, 0, none⟩ : Addr).add j) = some v := fun j v h => by
    obtain ⟨b', off, e1, -, e3⟩ := hrd2 j v h
    cases e1
    rw [Addr.add_lit]
    exact e3
  have HW := Lib.hid hw2
  have HO2 := Lib.hid (HO1.out.grow hB2)
  have HB2 := Lib.hid (HB1.out.trans (hB2.mono HB1.out.size))
  have HC1 := Lib.hid hc1
  have HC2 := Lib.hid hc2
  clear hrd1 hrd2 hB2 hw2 hc1 hc2
  go_wp2_with ((with_reducible show wpList _ _ _ (({ dst := some 23, op := _, type := _, pos := _, after := _, guard := _ } : Oper) :: _) _ _); go_must (rw [← HW.out]; refine wpList_appGrow rfl (.tmp 12) (.tmp 22) 29 rfl 5 i0 (.int .u8 0) 1 1 Try.underlying29 hi hz0 hz1 hz2 rfl _ 4 4 _ rfl rfl HC1.out _ 3 3 _ rfl rfl HC2.out (by decide) (by decide) (by decide) ?_; intro v3 w3 hown3 hb3; have hO3 := HO2.out.grow hb3; have q0 := hO3.cell 0; simp only [List.getElem?_cons_zero] at q0; have hlt := hO3.lt))
  have HB3 := Lib.hid (HB2.out.trans (hb3.mono HB2.out.size))
  have hcells : [.int .u8 87, .int .u8 80, .int .u8 82, .int .u8 49] ++ [.int .u8 (u : Int), .int .u8 (r : Int), .int .u8 (m : Int)] = bvs [87, 80, 82, 49, UInt8.ofNat u, UInt8.ofNat r, UInt8.ofNat m] := by
    have e1 : ((UInt8.ofNat u).toNat : Int) = (u : Int) := by rw [UInt8.toNat_ofNat']; omega
    have e2 : ((UInt8.ofNat r).toNat : Int) = (r : Int) := by rw [UInt8.toNat_ofNat']; omega
    have e3 : ((UInt8.ofNat m).toNat : Int) = (m : Int) := by rw [UInt8.toNat_ofNat']; omega
    simp only [bvs, List.map_cons, List.map_nil, e1, e2, e3]
    rfl
  rw [hcells] at hown3
  obtain ⟨A3, c3, rfl, hc3, -, -⟩ := own_form hown3
  have CL := Lib.hid (lebPut_any A3 7 c3 _ (b : Int) w3 (Rd.of_own hown3) rfl (by decide) (by omega) (by omega))
  rw [Int.toNat_natCast] at CL
  obtain ⟨H, hH⟩ : ∃ H, H = headL b u r m := ⟨_, rfl⟩
  have hHl : H.length = 7 + (lput b).length := by rw [hH]; unfold headL; rw [List.length_append]; rfl
  rw [show [87, 80, 82, 49, UInt8.ofNat u, UInt8.ofNat r, UInt8.ofNat m] ++ lput b = H by rw [hH]; rfl] at CL
  have HZ2 := Lib.hid (show Z = H ++ fourL (crcOf H).toNat by rw [HZ.out, hH]; rfl)
  obtain ⟨k, hk⟩ : ∃ k, k = H.length := ⟨_, rfl⟩
  have hk17 : k ≤ 17 := by omega
  have HK := Lib.hid hk
  clear hcells hown3 hb3 hO3 q0 hlt hc3 hH hHl hk HB1 HB2 HO1 HO2 HC1 HC2 HW hcv
  refine CL.out.mono ?_
  rintro e w4 ⟨v4, rfl, ho4, hb4⟩
  rw [← HK.out] at ho4
  have HB4 := Lib.hid (HB3.out.trans (hb4.mono HB3.out.size))
  have HS3 := Lib.hid hb4.size
  have HWB := Lib.hid HB3.out.size
  obtain ⟨A4, c4, rfl, hc4, -, -⟩ := own_form ho4
  have HO4 := Lib.hid ho4
  have CS := Lib.hid (hdSum_any A4 k c4 H w4 (Rd.of_own ho4) HK.out.symm (by omega))
  clear ho4 hb4 CL HB3
  go_wp2_with fail
  refine CS.out.mono ?_
  rintro e w5 ⟨v5, rfl, hB5, hb5⟩
  have HB5 := Lib.hid (HB4.out.trans (hb5.mono HB4.out.size))
  have HO5 := Lib.hid (own_kept HO4.out hb5)
  have HS5 := Lib.hid (Nat.le_trans HS3.out hb5.size)
  obtain ⟨F, hF⟩ : ∃ F, F = fourL (crcOf H).toNat := ⟨_, rfl⟩
  have hF4 : F.length = 4 := by rw [hF]; rfl
  rw [← hF] at hB5 HZ2
  obtain ⟨A5, c5, rfl, hc5, hR5⟩ := hB5
  rw [hF4] at hc5 ⊢
  have HF := Lib.hid hF4
  have HR5 := Lib.hid hR5
  clear hF hF4 hb5 hc5 hR5 CS HO4 HB4
  go_wp2_with ((with_reducible show wpList _ _ _ (({ dst := some 32, op := _, type := _, pos := _, after := _, guard := _ } : Oper) :: _) _ _); go_must (refine wpList_app rfl (.tmp 29) (.tmp 31) 29 rfl w3.heap.size 5 i0 (.int .u8 0) 1 1 Try.underlying29 hi hz0 hz1 hz2 rfl (by decide) _ _ _ rfl HO5.out w5.heap.size A5 4 c5 (bvs F) rfl HR5.out (by rw [bvs_length, HF.out]) (bvs_one _) (by simp only [maxLen]; omega) (by omega) HS5.out ?_; intro v6 w6 hown6 hg6; have hb6 := HB5.out.grown hg6 HB5.out.size (fun k hk => Nat.le_trans HWB.out (own_block HO5.out k hk)); clear hg6))
  go_ret2
  refine ⟨_, rfl, own_more (base := w3.heap.size) ?_ HWB.out, hb6⟩
  rw [HZ2.out, List.length_append, HF.out, ← HK.out, bvs_append]
  exact hown6
end Go.Proofs.Ytjignfnkcbklkaa
namespace Go.Proofs.Ytjignfnkcbklkaa
open Go.RowKit Go.Sort

set_option maxRecDepth 100000 in
set_option maxHeartbeats 1000000 in
theorem hdEqual_any (v1 v2 : Value) (l1 l2 : List UInt8) (w : World) (h1 : IsBytes l1 v1 w) (h2 : IsBytes l2 v2 w) : Calls Try.prog 36 #[v1, v2] w fun e w' => e = .returned (.bool (l1 == l2)) ∧ w' = w := by
  have s1 := strOf_run h1
  have s2 := strOf_run h2
  have heq : ((strA l1).toList == (strA l2).toList) = (l1 == l2) := by rw [strA_list, strA_list]
  obtain ⟨S1, hS1⟩ : ∃ S, S = strA l1 := ⟨_, rfl⟩
  obtain ⟨S2, hS2⟩ : ∃ S, S = strA l2 := ⟨_, rfl⟩
  obtain ⟨q, hq⟩ : ∃ q, q = (l1 == l2) := ⟨_, rfl⟩
  rw [← hS1] at s1 heq
  rw [← hS2] at s2 heq
  rw [← hq] at heq ⊢
  clear hS1 hS2 hq h1 h2
  go_enter Try.func36, Try.ntmps36
  go_wp2
  go_ret
  exact ⟨rfl, rfl⟩
theorem wrap64_small_add {E : Nat} (h : E ≤ 10007) : IntKind.i64.wrap ((E : Int) + 4) = (E : Int) + 4 := by rw [IntKind.wrap_i64]; omega
/-- What Get tells of bytes whose Block is told so: options, how many bytes the head has, an error. -/
def getP (l : List UInt8) (m j e : Nat) : List Int × Nat × Nat :=
  if begB l = false then ([0, 0, 0, 0], 0, 12)
  else if e = 11 then ([0, 0, 0, 0], 0, 11)
  else if e = 0 ∧ l.length < 7 + j + 4 then ([0, 0, 0, 0], 0, 11)
  else if e ≠ 0 then ([0, 0, 0, 0], 0, 13)
  else if (fourL (crcOf (l.take (7 + j))).toNat == (l.drop (7 + j)).take 4) = false then ([0, 0, 0, 0], 0, 13)
  else if mayO ((min m 16777217 : Nat) : Int) ((l.getD 4 0).toNat : Int) ((l.getD 5 0).toNat : Int) ((l.getD 6 0).toNat : Int) = false then ([0, 0, 0, 0], 0, 13)
  else ([((min m 16777217 : Nat) : Int), ((l.getD 4 0).toNat : Int), ((l.getD 5 0).toNat : Int), ((l.getD 6 0).toNat : Int)], 7 + j + 4, 0)
def GetOut (W : World) (r : List Int × Nat × Nat) (e : Ending) (w' : World) : Prop := e = .returned (.tuple #[optA r.1, .int .i64 (r.2.1 : Int), .int .i64 (r.2.2 : Int)]) ∧ Below W.heap.size W w'
theorem get_ret {r r' : List Int × Nat × Nat} (h : r = r') : Ending.returned (.tuple #[optA r.1, .int .i64 (r.2.1 : Int), .int .i64 (r.2.2 : Int)]) = .returned (.tuple #[optA r'.1, .int .i64 (r'.2.1 : Int), .int .i64 (r'.2.2 : Int)]) := by rw [h]
set_option maxRecDepth 100000 in
set_option maxHeartbeats 4000000 in
theorem hdGet_any (A : Option Addr) (n c : Nat) (l : List UInt8) (W : World) (hr : Rd W W.heap.size A (bvs l)) (hn : l.length = n) (hnc : n ≤ c) (hn1 : n ≤ 10000) {m j e : Nat} (hg : lget (l.drop 7) = (m, j, e)) :
    Calls Try.prog 21 #[.slice A n c] W (GetOut W (getP l m j e)) := by
  obtain ⟨r, hr0⟩ : ∃ r, r = getP l m j e := ⟨_, rfl⟩
  rw [← hr0]
  have HR0 := Lib.hid hr0
  have hlg := lget_told (l.drop 7)
  have hme : m < 18446744073709551616 ∧ j ≤ n ∧ (e = 0 → 7 + j ≤ n ∧ 0 < j) ∧ (e = 0 ∨ e = 11 ∨ e = 21) := by
    rcases hlg with ⟨q, h1, h2, h3, -⟩ | h1 | h1
    · rw [hg] at h1
      simp only [Prod.mk.injEq] at h1
      obtain ⟨rfl, rfl, rfl⟩ := h1
      have := lput_pos m
      rw [List.length_drop] at h3
      exact ⟨h2, by omega, fun _ => ⟨by omega, by omega⟩, .inl rfl⟩
    · rw [hg] at h1
      simp only [Prod.mk.injEq] at h1
      obtain ⟨rfl, rfl, rfl⟩ := h1
      exact ⟨by decide, by omega, fun h => (by omega), .inr (.inl rfl)⟩
    · rw [hg] at h1
      simp only [Prod.mk.injEq] at h1
      obtain ⟨rfl, rfl, rfl⟩ := h1
      exact ⟨by decide, by omega, fun h => (by omega), .inr (.inr rfl)⟩
  obtain ⟨s, hs⟩ : ∃ s, s = min 7 n := ⟨_, rfl⟩
  have hdr : l.drop s = l.drop 7 := by
    by_cases h7 : 7 ≤ n
    · rw [hs, Nat.min_eq_left h7]
    · rw [hs, Nat.min_eq_right (by omega), ← hn, List.drop_length, List.drop_eq_nil_of_le (by omega)]
  have CB := Lib.hid (fun w (hr : Rd w w.heap.size A (bvs l)) => hdBegins_any A n c l w hr hn hnc (by omega))
  have CLG := Lib.hid (fun A2 c2 w (hr : Rd w w.heap.size A2 (bvs (l.drop 7))) => lebGet_any A2 (n - s) c2 (l.drop 7) w hr (by rw [← hdr, List.length_drop, hn]) (by omega) m j e hg)
  have HDR := Lib.hid hdr
  have HRD := Lib.hid hr
  have hse : min (7 : Int) (n : Int) = (s : Int) := by omega
  have hsn : s ≤ n := by omega
  have HN := Lib.hid hn
  have HSE := Lib.hid hs
  obtain ⟨hm1, hj1, hE, he3⟩ := hme
  have HE := Lib.hid hE
  have HE3 := Lib.hid he3
  have hRb := heap_alloc_new W (.cells #[.int .i64 0, .int .i64 0, .int .i64 0, .int .i64 0] 23)
  obtain ⟨R, hRR⟩ : ∃ R, R = W.heap.size := ⟨_, rfl⟩
  have HRT := Lib.hid hRR
  obtain ⟨w1, hw1⟩ : ∃ w1, w1 = W.alloc (.cells #[.int .i64 0, .int .i64 0, .int .i64 0, .int .i64 0] 23) := ⟨_, rfl⟩
  have hB1 := (Below.refl W.heap.size W).alloc (Nat.le_refl _) (.cells #[.int .i64 0, .int .i64 0, .int .i64 0, .int .i64 0] 23)
  rw [← hw1] at hRb hB1
  rw [← hRR] at hRb
  have HB1 := Lib.hid hB1
  have HR1 := Lib.hid (show Blk w1 R 23 [.int .i64 0, .int .i64 0, .int .i64 0, .int .i64 0] from hRb)
  have HRD1 := Lib.hid ((hr.below hB1).more hB1.size)
  have HW1 := Lib.hid hw1
  clear hw1 hB1 hRb hRR hr hdr hr0 hg hlg hE he3 hs
  go_enter Try.func21, Try.ntmps21
  go_wp2_with ((with_reducible show wpList _ _ _ (({ dst := some 14, op := _, type := _, pos := _, after := _, guard := _ } : Oper) :: _) _ _); go_must (rw [← HW1.out]; refine wpList_from rfl (.tmp 10) (.tmp 13) rfl Try.underlying29 (by kernel_rfl) w1.heap.size A n c s (bvs l) rfl (by rw [HSE.out]; rfl) HRD1.out (by rw [bvs_length]; exact hn) hnc hsn ?_; intro A2 c2 hc2 hrd2))
  rw [show (bvs l).drop s = bvs (l.drop 7) by rw [← HDR.out]; unfold bvs; rw [List.map_drop]] at hrd2
  rw [← HRT.out]
  refine (CLG.out A2 c2 w1 hrd2).mono ?_
  rintro e' w2 ⟨rfl, hw⟩
  subst hw
  have hj7 : (7 : Int) + (j : Int) = ((7 + j : Nat) : Int) := by omega
  obtain ⟨E, hEE⟩ : ∃ E, E = 7 + j := ⟨_, rfl⟩
  rw [← hEE] at hj7
  have hEn : E ≤ 10007 := by omega
  have HEE := Lib.hid hEE
  clear hrd2 hc2 CLG hEE hse
  go_wp2_with fail
  refine (CB.out w1 HRD1.out).mono ?_
  rintro e' w3 ⟨rfl, hb3⟩
  have HR3 := Lib.hid (HR1.out.grow hb3)
  have HB3 := Lib.hid (HB1.out.trans (hb3.mono HB1.out.size))
  have HRD3 := Lib.hid ((HRD1.out.below hb3).more hb3.size)
  clear hb3 HR1 HB1 HRD1 CB
  cases hbg : begB l with
  | false =>
    have hres : r = ([0, 0, 0, 0], 0, 12) := by rw [HR0.out]; unfold getP; rw [if_pos hbg]
    have HRS := Lib.hid hres
    clear hres hbg
    have q0 := HR3.out.cell 0
    have q1 := HR3.out.cell 1
    have q2 := HR3.out.cell 2
    have q3 := HR3.out.cell 3
    have f0 := HR3.out.frozen 0
    have f1 := HR3.out.frozen 1
    have f2 := HR3.out.frozen 2
    have f3 := HR3.out.frozen 3
    simp only [List.getElem?_cons_zero, List.getElem?_cons_succ] at q0 q1 q2 q3
    go_wp2
    exact bodyPost_ret (results_cell_tmp2 Try.results21 _ _ R 23 _ (0, 0) _ rfl (set4 HR3.out _ _ _ _) Try.underlying23 rfl size_opt) rfl ⟨get_ret HRS.out.symm, below4 HB3.out (Nat.le_of_eq HRT.out.symm) _ _ _ _⟩
  | true =>
    by_cases h11 : e = 11
    · have hres : r = ([0, 0, 0, 0], 0, 11) := by rw [HR0.out]; unfold getP; rw [if_neg (by rw [hbg]; decide), if_pos h11]
      have HRS := Lib.hid hres
      subst h11
      clear hres hbg
      have q0 := HR3.out.cell 0
      have q1 := HR3.out.cell 1
      have q2 := HR3.out.cell 2
      have q3 := HR3.out.cell 3
      have f0 := HR3.out.frozen 0
      have f1 := HR3.out.frozen 1
      have f2 := HR3.out.frozen 2
      have f3 := HR3.out.frozen 3
      simp only [List.getElem?_cons_zero, List.getElem?_cons_succ] at q0 q1 q2 q3
      go_wp2
      exact bodyPost_ret (results_cell_tmp2 Try.results21 _ _ R 23 _ (0, 0) _ rfl (set4 HR3.out _ _ _ _) Try.underlying23 rfl size_opt) rfl ⟨get_ret HRS.out.symm, below4 HB3.out (Nat.le_of_eq HRT.out.symm) _ _ _ _⟩
    · by_cases h0 : e = 0
      · subst h0
        by_cases hsz : n < 7 + j + 4
        · have hres : r = ([0, 0, 0, 0], 0, 11) := by rw [HR0.out]; unfold getP; rw [if_neg (by rw [hbg]; decide), if_neg (by decide), if_pos ⟨rfl, by rw [HN.out]; exact hsz⟩]
          have HRS := Lib.hid hres
          have hszi : (n : Int) < (E : Int) + 4 := by have := HEE.out; omega
          clear hres hbg hsz h11
          have q0 := HR3.out.cell 0
          have q1 := HR3.out.cell 1
          have q2 := HR3.out.cell 2
          have q3 := HR3.out.cell 3
          have f0 := HR3.out.frozen 0
          have f1 := HR3.out.frozen 1
          have f2 := HR3.out.frozen 2
          have f3 := HR3.out.frozen 3
          simp only [List.getElem?_cons_zero, List.getElem?_cons_succ] at q0 q1 q2 q3
          go_wp2
          exact bodyPost_ret (results_cell_tmp2 Try.results21 _ _ R 23 _ (0, 0) _ rfl (set4 HR3.out _ _ _ _) Try.underlying23 rfl size_opt) rfl ⟨get_ret HRS.out.symm, below4 HB3.out (Nat.le_of_eq HRT.out.symm) _ _ _ _⟩
        · have hEn4 : E + 4 ≤ n := by have := HEE.out; omega
          have hszi : ¬ (n : Int) < (E : Int) + 4 := by omega
          have hres : r = if (fourL (crcOf (l.take E)).toNat == (l.drop E).take 4) = false then ([0, 0, 0, 0], 0, 13) else if mayO ((min m 16777217 : Nat) : Int) ((l.getD 4 0).toNat : Int) ((l.getD 5 0).toNat : Int) ((l.getD 6 0).toNat : Int) = false then ([0, 0, 0, 0], 0, 13) else ([((min m 16777217 : Nat) : Int), ((l.getD 4 0).toNat : Int), ((l.getD 5 0).toNat : Int), ((l.getD 6 0).toNat : Int)], E + 4, 0) := by
            rw [HR0.out]; unfold getP; rw [if_neg (by rw [hbg]; decide), if_neg (by decide), if_neg (fun h => hsz (by rw [← HN.out]; exact h.2)), if_neg (by decide), HEE.out]
          have HRS := Lib.hid hres
          obtain ⟨ab, ao, rfl, hbl, hcell⟩ := HRD3.out.at_ (by rw [bvs_length]; omega)
          clear hres hbg hsz h11 hcell
          obtain ⟨q, hq⟩ : ∃ q, q = (fourL (crcOf (l.take E)).toNat == (l.drop E).take 4) := ⟨_, rfl⟩
          rw [← hq] at HRS
          have C1 := Lib.hid (fun w (hr : Rd w w.heap.size (some ⟨ab, ao, none⟩) (bvs (l.take E))) => hdSum_any (some ⟨ab, ao, none⟩) E c (l.take E) w hr (by rw [List.length_take]; omega) (by omega))
          have C2 := Lib.hid (fun v1 v2 w (h1 : IsBytes (fourL (crcOf (l.take E)).toNat) v1 w) (h2 : IsBytes ((l.drop E).take 4) v2 w) => hdEqual_any v1 v2 _ _ w h1 h2)
          rw [← hq] at C2
          obtain ⟨F, hF⟩ : ∃ F, F = fourL (crcOf (l.take E)).toNat := ⟨_, rfl⟩
          rw [← hF] at C1 C2
          have HT := Lib.hid (show Rd w3 w3.heap.size (some ⟨ab, ao, none⟩) (bvs (l.take E)) by
            have h := HRD3.out.take E
            unfold bvs at h ⊢
            rw [List.map_take]
            exact h)
          have HM := Lib.hid (show Rd w3 w3.heap.size (some ⟨ab, ao + E, none⟩) (bvs ((l.drop E).take 4)) by
            have h := (HRD3.out.drop E).take 4
            unfold bvs at h ⊢
            rw [List.map_take, List.map_drop]
            rw [Option.map_some, Addr.add_lit] at h
            exact h)
          have hEc : (E : Int) ≤ (c : Int) := by omega
          have hE4c : (E : Int) + 4 ≤ (c : Int) := by omega
          have hl4 : ((l.drop E).take 4).length = 4 := by rw [List.length_take, List.length_drop]; omega
          have HL4 := Lib.hid hl4
          obtain ⟨nq, hnq⟩ : ∃ nq, nq = !q := ⟨_, rfl⟩
          have HNQ := Lib.hid hnq
          have HW4 := Lib.hid (wrap64_small_add hEn)
          clear hq hF hl4 hnq
          go_wp2_with fail
          refine wp_region_grow [⟨42, [], .is (.slice (some ⟨ab, ao, none⟩) n c)⟩, ⟨43, [], .is (.int .i64 (E : Int))⟩, ⟨44, [0, 1], .is (.slice (some ⟨ab, ao, none⟩) E c)⟩, ⟨45, [2], .bytes F⟩, ⟨46, [], .is (.slice (some ⟨ab, ao, none⟩) n c)⟩, ⟨47, [], .is (.int .i64 (E : Int))⟩, ⟨48, [], .is (.int .i64 (E : Int))⟩, ⟨49, [6], .is (.int .i64 ((E : Int) + 4))⟩, ⟨50, [4, 5, 7], .is (.slice (some ⟨ab, ao + E, none⟩) 4 (c - E))⟩, ⟨51, [3, 8], .is (.bool q)⟩, ⟨52, [9], .is (.bool nq)⟩, ⟨41, [10], .is (.bool nq)⟩]
            [(0, .slice (some ⟨ab, ao, none⟩) n c), (8, .int .i64 (E : Int))] (by kernel_rfl) (by kernel_rfl) (by kernel_rfl) (by kernel_rfl) (by kernel_rfl) ⟨rfl, rfl, trivial⟩ ?_ ?_
          · repeat' (first | exact OblGAll.nil | refine OblGAll.cons ?_ ?_)
            all_goals (intro ev yi w' hB hc hf ho hn; simp only [OutsSay, NeedSay, rowAt, Fact.says, and_true] at ho hn)
            all_goals (try ((simp [OpSays, execOp, Region.wanted, Fact.says, go_sem, ho, hn, hc, Below.refl]; done)))
            · rw [if_pos (by simp [Region.wanted])]
              simp [OpSays, execOp, Fact.says, go_sem, hn, Below.refl, hEc]
            · rw [if_pos (by simp [Region.wanted])]
              exact says_call Try.call26 (vs := #[.slice (some ⟨ab, ao, none⟩) E c]) rfl hf (by simp [hn]) ((C1.out w' ((HT.out.below hB).more hB.size)).mono fun _ _ => NewBs.says)
            · rw [if_pos (by simp [Region.wanted])]
              simp [OpSays, execOp, Fact.says, go_sem, hn, hc, Below.refl, HW4.out]
            · rw [if_pos (by simp [Region.wanted])]
              simp [OpSays, execOp, Fact.says, go_sem, hn, Below.refl, hE4c, show (0 : Int) ≤ (E : Int) + 4 by omega, show E ≤ ((E : Int) + 4).toNat by omega, show ¬ c = E by omega, show ((E : Int) + 4).toNat - E = 4 by omega]
            · rw [if_pos (by simp [Region.wanted])]
              exact says_call Try.call36 (vs := #[ev (.tmp 45), .slice (some ⟨ab, ao + E, none⟩) 4 (c - E)]) rfl hf (by simp [hn.2]) ((C2.out _ _ w' hn.1 ⟨some ⟨ab, ao + E, none⟩, c - E, by rw [HL4.out], by rw [HL4.out]; omega, (HM.out.below hB).more hB.size⟩).mono fun _ _ h => ⟨_, h.1, rfl, by rw [h.2]; exact Below.refl _ _⟩)
            · rw [if_pos (by simp [Region.wanted])]
              simp [OpSays, execOp, Fact.says, go_sem, hn, Below.refl, HNQ.out]
          · intro X w4 hb4 hx
            have hlast : X 11 = .bool nq := hx 11 (by decide)
            clear hx
            have HL := Lib.hid hlast
            have HR4 := Lib.hid (HR3.out.grow hb4)
            have HB4 := Lib.hid (HB3.out.trans (hb4.mono HB3.out.size))
            have HRD4 := Lib.hid ((HRD3.out.below hb4).more hb4.size)
            clear hlast hb4 HR3 HB3 HRD3 C1 C2 HT HM
            simp only [layAll, List.setIfInBounds_toArray, List.set_cons_succ, List.set_cons_zero]
            rw [HL.out]
            cases hqq : q with
            | false =>
              have hnt : nq = true := by rw [HNQ.out, hqq]; rfl
              have hrs2 : r = ([0, 0, 0, 0], 0, 13) := by rw [HRS.out, if_pos hqq]
              have HRS2 := Lib.hid hrs2
              rw [hnt]
              clear hrs2 hqq hnt HL
              have q0 := HR4.out.cell 0
              have q1 := HR4.out.cell 1
              have q2 := HR4.out.cell 2
              have q3 := HR4.out.cell 3
              have f0 := HR4.out.frozen 0
              have f1 := HR4.out.frozen 1
              have f2 := HR4.out.frozen 2
              have f3 := HR4.out.frozen 3
              simp only [List.getElem?_cons_zero, List.getElem?_cons_succ] at q0 q1 q2 q3
              go_wp2
              exact bodyPost_ret (results_cell_tmp2 Try.results21 _ _ R 23 _ (0, 0) _ rfl (set4 HR4.out _ _ _ _) Try.underlying23 rfl size_opt) rfl ⟨get_ret HRS2.out.symm, below4 HB4.out (Nat.le_of_eq HRT.out.symm) _ _ _ _⟩
            | true =>
              have hnt : nq = false := by rw [HNQ.out, hqq]; rfl
              have hrs2 : r = if mayO ((min m 16777217 : Nat) : Int) ((l.getD 4 0).toNat : Int) ((l.getD 5 0).toNat : Int) ((l.getD 6 0).toNat : Int) = false then ([0, 0, 0, 0], 0, 13) else ([((min m 16777217 : Nat) : Int), ((l.getD 4 0).toNat : Int), ((l.getD 5 0).toNat : Int), ((l.getD 6 0).toNat : Int)], E + 4, 0) := by rw [HRS.out, if_neg (by rw [hqq]; decide)]
              have HRS2 := Lib.hid hrs2
              rw [hnt]
              have CO := Lib.hid (fun w (hr : Rd w w.heap.size (some ⟨ab, ao, none⟩) (bvs l)) => hdOptions_any (some ⟨ab, ao, none⟩) n c l m w hr hn (by omega) hm1)
              have CC := Lib.hid (optCheck_any ((min m 16777217 : Nat) : Int) ((l.getD 4 0).toNat : Int) ((l.getD 5 0).toNat : Int) ((l.getD 6 0).toNat : Int))
              unfold optsH at CO
              unfold optV at CO CC
              obtain ⟨x0, hx0⟩ : ∃ x0 : Int, x0 = ((min m 16777217 : Nat) : Int) := ⟨_, rfl⟩
              obtain ⟨x1, hx1⟩ : ∃ x1 : Int, x1 = ((l.getD 4 0).toNat : Int) := ⟨_, rfl⟩
              obtain ⟨x2, hx2⟩ : ∃ x2 : Int, x2 = ((l.getD 5 0).toNat : Int) := ⟨_, rfl⟩
              obtain ⟨x3, hx3⟩ : ∃ x3 : Int, x3 = ((l.getD 6 0).toNat : Int) := ⟨_, rfl⟩
              rw [← hx0, ← hx1, ← hx2, ← hx3] at CO CC HRS2
              clear hrs2 hqq hnt HL hx0 hx1 hx2 hx3
              go_wp2_with fail
              refine (CO.out w4 HRD4.out).mono ?_
              rintro e' w5 ⟨rfl, hb5⟩
              have HR5 := Lib.hid (HR4.out.grow hb5)
              have HB5 := Lib.hid (HB4.out.trans (hb5.mono HB4.out.size))
              have HRD5 := Lib.hid ((HRD4.out.below hb5).more hb5.size)
              clear hb5 HR4 HB4 HRD4
              go_wp2_with fail
              refine (CC.out w5).mono ?_
              rintro e' w6 ⟨rfl, hb6⟩
              have HR6 := Lib.hid (HR5.out.grow hb6)
              have HB6 := Lib.hid (HB5.out.trans (hb6.mono HB5.out.size))
              have HRD6 := Lib.hid ((HRD5.out.below hb6).more hb6.size)
              clear hb6 HR5 HB5 HRD5
              obtain ⟨ce, hce⟩ : ∃ ce, ce = chkE x0 x1 x2 x3 := ⟨_, rfl⟩
              rw [← hce]
              have HCE := Lib.hid hce
              clear hce CC
              cases hmm : mayO x0 x1 x2 x3 with
              | false =>
                have hc10 : ce = 10 := by rw [HCE.out]; unfold chkE; rw [hmm]; rfl
                have hrs3 : r = ([0, 0, 0, 0], 0, 13) := by rw [HRS2.out, if_pos hmm]
                have HRS3 := Lib.hid hrs3
                subst hc10
                clear hrs3 hmm HCE
                have q0 := HR6.out.cell 0
                have q1 := HR6.out.cell 1
                have q2 := HR6.out.cell 2
                have q3 := HR6.out.cell 3
                have f0 := HR6.out.frozen 0
                have f1 := HR6.out.frozen 1
                have f2 := HR6.out.frozen 2
                have f3 := HR6.out.frozen 3
                simp only [List.getElem?_cons_zero, List.getElem?_cons_succ] at q0 q1 q2 q3
                go_wp2
                exact bodyPost_ret (results_cell_tmp2 Try.results21 _ _ R 23 _ (0, 0) _ rfl (set4 HR6.out _ _ _ _) Try.underlying23 rfl size_opt) rfl ⟨get_ret HRS3.out.symm, below4 HB6.out (Nat.le_of_eq HRT.out.symm) _ _ _ _⟩
              | true =>
                have hc0 : ce = 0 := by rw [HCE.out]; unfold chkE; rw [hmm]; rfl
                have hrs3 : r = ([x0, x1, x2, x3], E + 4, 0) := by rw [HRS2.out, if_neg (by rw [hmm]; decide)]
                have HRS3 := Lib.hid hrs3
                subst hc0
                clear hrs3 hmm HCE
                go_wp2_with fail
                refine (CO.out w6 HRD6.out).mono ?_
                rintro e' w7 ⟨rfl, hb7⟩
                have HR7 := Lib.hid (HR6.out.grow hb7)
                have HB7 := Lib.hid (HB6.out.trans (hb7.mono HB6.out.size))
                clear hb7 HR6 HB6 HRD6 CO
                have q0 := HR7.out.cell 0
                have q1 := HR7.out.cell 1
                have q2 := HR7.out.cell 2
                have q3 := HR7.out.cell 3
                have f0 := HR7.out.frozen 0
                have f1 := HR7.out.frozen 1
                have f2 := HR7.out.frozen 2
                have f3 := HR7.out.frozen 3
                simp only [List.getElem?_cons_zero, List.getElem?_cons_succ] at q0 q1 q2 q3
                go_wp2
                exact bodyPost_ret (results_cell_tmp2 Try.results21 _ _ R 23 _ (0, 0) _ rfl (set4 HR7.out _ _ _ _) Try.underlying23 rfl size_opt) rfl ⟨get_ret HRS3.out.symm, below4 HB7.out (Nat.le_of_eq HRT.out.symm) _ _ _ _⟩
      · have hres : r = ([0, 0, 0, 0], 0, 13) := by rw [HR0.out]; unfold getP; rw [if_neg (by rw [hbg]; decide), if_neg h11, if_neg (fun h => h0 h.1), if_pos h0]
        have he21 : e = 21 := by have := HE3.out; omega
        have HRS := Lib.hid hres
        subst he21
        clear hres hbg h11 h0
        have q0 := HR3.out.cell 0
        have q1 := HR3.out.cell 1
        have q2 := HR3.out.cell 2
        have q3 := HR3.out.cell 3
        have f0 := HR3.out.frozen 0
        have f1 := HR3.out.frozen 1
        have f2 := HR3.out.frozen 2
        have f3 := HR3.out.frozen 3
        simp only [List.getElem?_cons_zero, List.getElem?_cons_succ] at q0 q1 q2 q3
        go_wp2
        exact bodyPost_ret (results_cell_tmp2 Try.results21 _ _ R 23 _ (0, 0) _ rfl (set4 HR3.out _ _ _ _) Try.underlying23 rfl size_opt) rfl ⟨get_ret HRS.out.symm, below4 HB3.out (Nat.le_of_eq HRT.out.symm) _ _ _ _⟩
end Go.Proofs.Ytjignfnkcbklkaa
namespace Go.Proofs.Ytjignfnkcbklkaa
open Go.RowKit Go.Sort

theorem begB_yes {l : List UInt8} (h : ∀ i, i < 4 → i < l.length → l.getD i 0 = lettersL.getD i 0) : begB l = true := by
  have h0 := h 0 (by decide)
  have h1 := h 1 (by decide)
  have h2 := h 2 (by decide)
  have h3 := h 3 (by decide)
  match l with
  | [] => rfl
  | [a] =>
    obtain rfl : a = 87 := h0 (by simp)
    rfl
  | [a, b] =>
    obtain rfl : a = 87 := h0 (by simp)
    obtain rfl : b = 80 := h1 (by simp)
    rfl
  | [a, b, c] =>
    obtain rfl : a = 87 := h0 (by simp)
    obtain rfl : b = 80 := h1 (by simp)
    obtain rfl : c = 82 := h2 (by simp)
    rfl
  | a :: b :: c :: d :: t =>
    obtain rfl : a = 87 := h0 (by simp)
    obtain rfl : b = 80 := h1 (by simp)
    obtain rfl : c = 82 := h2 (by simp)
    obtain rfl : d = 49 := h3 (by simp)
    unfold begB
    rw [Nat.min_eq_right (by simp)]
    rfl
end Go.Proofs.Ytjignfnkcbklkaa
namespace Go.Proofs.Ytjignfnkcbklkaa

theorem headL_len (b u r m : Nat) : (headL b u r m).length = 7 + (lput b).length := by unfold headL; rw [List.length_append]; rfl
theorem headS_len (b u r m : Nat) : (headS b u r m).length = 7 + (lput b).length + 4 := by unfold headS; rw [List.length_append, headL_len]; rfl
theorem headS_drop (b u r m : Nat) (more : List UInt8) : (headS b u r m ++ more).drop 7 = lput b ++ (fourL (crcOf (headL b u r m)).toNat ++ more) := by
  unfold headS
  rw [show headL b u r m = [87, 80, 82, 49, UInt8.ofNat u, UInt8.ofNat r, UInt8.ofNat m] ++ lput b from rfl]
  simp
/-- What was put is got, whatever is behind. -/
theorem get_put {b u r m : Nat} (hb : b ≤ 16777216) (hu : u ≤ 8) (hr : r ≤ 10) (hm : m ≤ 6) (hmay : mayO (b : Int) (u : Int) (r : Int) (m : Int) = true) (more : List UInt8) :
    lget ((headS b u r m ++ more).drop 7) = (b, (lput b).length, 0) ∧ getP (headS b u r m ++ more) b (lput b).length 0 = ([(b : Int), (u : Int), (r : Int), (m : Int)], (headS b u r m).length, 0) := by
  have hlg : lget ((headS b u r m ++ more).drop 7) = (b, (lput b).length, 0) := by
    rw [headS_drop]
    exact lget_put b _ (by omega)
  refine ⟨hlg, ?_⟩
  have e4 : (headS b u r m ++ more).getD 4 0 = UInt8.ofNat u := rfl
  have e5 : (headS b u r m ++ more).getD 5 0 = UInt8.ofNat r := rfl
  have e6 : (headS b u r m ++ more).getD 6 0 = UInt8.ofNat m := rfl
  have u4 : (UInt8.ofNat u).toNat = u := by rw [UInt8.toNat_ofNat']; omega
  have u5 : (UInt8.ofNat r).toNat = r := by rw [UInt8.toNat_ofNat']; omega
  have u6 : (UInt8.ofNat m).toNat = m := by rw [UInt8.toNat_ofNat']; omega
  have hbeg : begB (headS b u r m ++ more) = true := by
    refine begB_yes fun i h4 _ => ?_
    rcases (show i = 0 ∨ i = 1 ∨ i = 2 ∨ i = 3 by omega) with rfl | rfl | rfl | rfl <;> rfl
  have ht : (headS b u r m ++ more).take (7 + (lput b).length) = headL b u r m := by
    unfold headS
    rw [List.append_assoc, ← headL_len b u r m, List.take_left]
  have hd : ((headS b u r m ++ more).drop (7 + (lput b).length)).take 4 = fourL (crcOf (headL b u r m)).toNat := by
    unfold headS
    rw [List.append_assoc, ← headL_len b u r m, List.drop_left]
    rfl
  unfold getP
  rw [hbeg, if_neg (show ¬ true = false by decide), if_neg (show ¬ (0 : Nat) = 11 by decide), if_neg (show ¬ ((0 : Nat) = 0 ∧ (headS b u r m ++ more).length < 7 + (lput b).length + 4) by rw [List.length_append, headS_len]; omega), if_neg (show ¬ (0 : Nat) ≠ 0 by decide), ht, hd, e4, e5, e6, u4, u5, u6, show min b 16777217 = b by omega, hmay, headS_len]
  rw [beq_self_eq_true, if_neg (show ¬ true = false by decide), if_neg (show ¬ true = false by decide)]
/-- Each beginning of it, but all, ends too early. -/
theorem get_cut {b u r m : Nat} (hb : b ≤ 16777216) {i : Nat} (hi : i < (headS b u r m).length) :
    ∃ m' j' e', lget (((headS b u r m).take i).drop 7) = (m', j', e') ∧ getP ((headS b u r m).take i) m' j' e' = ([0, 0, 0, 0], 0, 11) := by
  have hS := headS_len b u r m
  have hlen : ((headS b u r m).take i).length = i := by rw [List.length_take]; omega
  have hbeg : begB ((headS b u r m).take i) = true := by
    refine begB_yes fun k h4 hk => ?_
    rw [List.getD_eq_getElem?_getD, List.getElem?_take_of_lt (by omega)]
    rcases (show k = 0 ∨ k = 1 ∨ k = 2 ∨ k = 3 by omega) with rfl | rfl | rfl | rfl <;> rfl
  have hdr : ((headS b u r m).take i).drop 7 = (lput b ++ fourL (crcOf (headL b u r m)).toNat).take (i - 7) := by
    rw [List.drop_take]
    have := headS_drop b u r m []
    rw [List.append_nil, List.append_nil] at this
    rw [this]
  have h11 : ∀ {m' j'}, getP ((headS b u r m).take i) m' j' 11 = ([0, 0, 0, 0], 0, 11) := fun {m' j'} => by
    unfold getP
    rw [hbeg, if_neg (show ¬ true = false by decide), if_pos rfl]
  by_cases h1 : i - 7 < (lput b).length
  · refine ⟨0, 0, 11, ?_, h11⟩
    rw [hdr, List.take_append_of_le_length (by omega)]
    exact lget_cut b (i - 7) (by omega) h1
  · refine ⟨b, (lput b).length, 0, ?_, ?_⟩
    · rw [hdr, List.take_append, List.take_of_length_le (l := lput b) (by omega)]
      exact lget_put b _ (by omega)
    · unfold getP
      rw [hbeg, if_neg (show ¬ true = false by decide), if_neg (show ¬ (0 : Nat) = 11 by decide), if_pos (show (0 : Nat) = 0 ∧ ((headS b u r m).take i).length < 7 + (lput b).length + 4 from ⟨rfl, by rw [hlen]; omega⟩)]
end Go.Proofs.Ytjignfnkcbklkaa
