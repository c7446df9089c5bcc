/-
  Layer 20: the heap's own Push and Pop. · Layer 20: the library's way up and way down a heap. · Layer 20: the library's way down a heap. Printed by gen_heapdown.py. · Layer 20: the library's Push and Pop; come and least. · Layer 20: what holds while the tree is made.
-/
import Derived.Test.YtflcmmeoppdhdaaGreatR13
import Derived.Test.YtflcmmeoppdhdaaGreatR14
import Derived.Deep.AppendLies
import Derived.Deep.RegionLaw
namespace Go.Proofs.YtflcmmeoppdhdaaGreat
open Go.RowKit Go.Sort Go.Shelf

section
variable {w w' : World} {T S cap : Nat} {l : List Pr}
theorem HAt.popped (h : HAt w T S cap l) {n : Nat} (hn : n ≤ l.length) (o : Obj) :
    HAt ((w.setCell ⟨T, 0, none⟩ (.slice (some ⟨S, 0, none⟩) n cap)).alloc o) T S cap (l.take n) ∧ TurnsB T S w ((w.setCell ⟨T, 0, none⟩ (.slice (some ⟨S, 0, none⟩) n cap)).alloc o) := by
  have hne := h.ne
  obtain ⟨cur, h1, h2, h3⟩ := h.row
  have hl : (l.take n).length = n := by simp; omega
  refine ⟨⟨?_, ⟨cur, ?_, h2, ?_⟩, by have := h.room; omega, h.most⟩, ?_⟩
  · rw [hl]
    exact (h.box.set_ 0 _).alloc_ o
  · exact (h1.setOther _ _ (fun e => hne e.symm)).alloc_ o
  · rw [hl, ← pvs_take, ← h3, List.take_take, Nat.min_eq_left (by omega)]
  · exact (TurnsB.setT _ _).allocO o
set_option maxHeartbeats 1000000 in
set_option maxRecDepth 100000 in
theorem things_pop (h : HAt w T S cap l) (n : Nat) (hn : l.length = n + 1) (hn2 : n ≤ 1000000) :
    Calls Tryz.prog 309 #[.pointer (some ⟨T, 0, none⟩)] w fun e w' => e = .returned (.iface 284 (.agg #[.int .i64 ((pat l n).1 : Int), .int .i64 ((pat l n).2 : Int)])) ∧ HAt w' T S cap (l.take n) ∧ TurnsB T S w w' := by
  have hc := h.boxCell
  have hf := h.box.frozen 0
  have c0 := h.cell0 (k := n) (by omega)
  have c1 := h.cell1 (k := n) (by omega)
  have hroom := h.room
  have hT := h.box.lt
  have hS : S < w.heap.size := by obtain ⟨cur, h1, -⟩ := h.row; exact h1.lt
  rw [hn] at hc hroom
  obtain ⟨x, hx⟩ : ∃ x, x = (pat l n).1 := ⟨_, rfl⟩
  obtain ⟨y, hy⟩ : ∃ y, y = (pat l n).2 := ⟨_, rfl⟩
  rw [← hx] at c0 ⊢
  rw [← hy] at c1 ⊢
  have H := Lib.hid h
  have HN := Lib.hid hn
  clear h hn hx hy
  go_enter Tryz.func309, Tryz.ntmps309
  go_wp2
  go_ret
  exact ⟨rfl, H.out.popped (by have := HN.out; omega) _⟩
theorem HAt.own (h : HAt w T S cap l) : w.ownsRow S 284 2 (.slice (some ⟨S, 0, none⟩) l.length cap) l.length (pvs l) := by
  obtain ⟨cur, h1, h2, h3⟩ := h.row
  exact ⟨pvs_length l, .inr ⟨S, cap, cur.toArray, rfl, Nat.le_refl _, h1, h.room, h.most, by simpa using h2, by simpa using h3⟩⟩
theorem HAt.of_own {b g : Nat} {v : Value} (hb : Blk w T 281 [v]) (hv : v = .slice (some ⟨g, 0, none⟩) l.length cap) (ho : w.ownsRow b 284 2 v l.length (pvs l)) (h0 : 0 < l.length) : HAt w T g cap l := by
  subst hv
  rcases ho.2 with ⟨h1, h2⟩ | ⟨g', cap', cur, he, hb', hg, hn, hm, hs, ht⟩
  · omega
  · injection he with e1 _ e2
    injection e1 with e1
    injection e1 with e1
    subst e1 e2
    exact ⟨hb, ⟨cur.toList, by unfold Blk; simpa using hg, by simpa using hs, ht⟩, hn, hm⟩
theorem push_end {x : Pr} {n g7 cap7 : Nat} {w7 : World} {cs ds : Array Value} {t1 t2 : TypeId} (h : HAt w T S cap l) (hn : n = l.length)
    (hb7 : Blk w7 T 281 [.slice (some ⟨S, 0, none⟩) n cap]) (hg7 : World.grownBy (((w.alloc (.cells cs t1)).drew).alloc (.cells ds t2)) w7 (some S))
    (hown7 : w7.ownsRow S 284 2 (.slice (some ⟨g7, 0, none⟩) (n + 1) cap7) (n + 1) (pvs l ++ [.int .i64 (x.1 : Int), .int .i64 (x.2 : Int)])) (hat : some S = some g7 ∨ g7 = w.heap.size + 2) :
    ∃ S' cap', HAt (w7.setCell ⟨T, 0, none⟩ (.slice (some ⟨g7, 0, none⟩) (n + 1) cap7)) T S' cap' (l ++ [x]) ∧ TurnsB T S w (w7.setCell ⟨T, 0, none⟩ (.slice (some ⟨g7, 0, none⟩) (n + 1) cap7)) ∧ (S' = S ∨ w.heap.size ≤ S') := by
  have hT : T < w.heap.size := h.box.lt
  have hne := h.ne
  have hl : (l ++ [x]).length = n + 1 := by simp [hn]
  have hgT : g7 ≠ T := by
    rcases hat with e | e
    · injection e with e; omega
    · omega
  refine ⟨g7, cap7, ?_, ?_, ?_⟩
  · have h1 : w7.ownsRow S 284 2 (.slice (some ⟨g7, 0, none⟩) (l ++ [x]).length cap7) (l ++ [x]).length (pvs (l ++ [x])) := by
      rw [hl, pvs_append]; exact hown7
    have h2 : (w7.setCell ⟨T, 0, none⟩ (.slice (some ⟨g7, 0, none⟩) (n + 1) cap7)).ownsRow S 284 2 (.slice (some ⟨g7, 0, none⟩) (l ++ [x]).length cap7) (l ++ [x]).length (pvs (l ++ [x])) := by
      refine ⟨h1.1, ?_⟩
      rcases h1.2 with h0 | ⟨g, cap', cur, e, hbg, hg, rest⟩
      · exact .inl h0
      · refine .inr ⟨g, cap', cur, e, hbg, ?_, rest⟩
        injection e with e1 _ _
        injection e1 with e1
        injection e1 with e1
        rw [Below.heap_setCell _ _ _ g (by show g ≠ T; omega)]
        exact hg
    exact HAt.of_own (v := .slice (some ⟨g7, 0, none⟩) (l ++ [x]).length cap7) (by rw [hl]; exact hb7.set_ 0 _) rfl h2 (by omega)
  · have h3 : TurnsB T S w (((w.alloc (.cells cs t1)).drew).alloc (.cells ds t2)) := ((TurnsB.refl T S w).allocO _).drew.allocO _
    have h4 : TurnsB T S (((w.alloc (.cells cs t1)).drew).alloc (.cells ds t2)) w7 := TurnsB.grown hg7 fun r e => by injection e with e; exact .inr e.symm
    exact (h3.trans h4).trans (TurnsB.setT _ _)
  · rcases hat with e | e
    · injection e with e; exact .inl e.symm
    · exact .inr (by omega)
theorem asserts_ok (v : Value) (w : World) : (Instr.typeAssert (.iface 284 v) 20 284 true).run Tryz.prog w = .ok (.tuple #[v, .bool true]) w := by kernel_rfl
theorem asserts_one (v : Value) (w : World) : (Instr.typeAssert (.iface 284 v) 20 284 false).run Tryz.prog w = .ok v w := by kernel_rfl
theorem info_thing20 : (Tryz.prog.info? 284).map (fun i => (i.zero, i.size, i.bytes)) = some (some (.agg #[.int .i64 0, .int .i64 0]), 2, 16) := by kernel_rfl
set_option maxHeartbeats 2000000 in
set_option maxRecDepth 100000 in
theorem things_push (h : HAt w T S cap l) (hn2 : l.length ≤ 1000000) (x : Pr) :
    Calls Tryz.prog 310 #[.pointer (some ⟨T, 0, none⟩), .iface 284 (.agg #[.int .i64 (x.1 : Int), .int .i64 (x.2 : Int)])] w fun e w' => e = .returned (.tuple #[]) ∧ ∃ S' cap', HAt w' T S' cap' (l ++ [x]) ∧ TurnsB T S w w' ∧ (S' = S ∨ w.heap.size ≤ S') := by
  have hc := h.boxCell
  have hf := h.box.frozen 0
  have hroom := h.room
  have hT := h.box.lt
  have hS : S < w.heap.size := by obtain ⟨cur, h1, -⟩ := h.row; exact h1.lt
  obtain ⟨i0, hi0, hz0, hz1, hz2⟩ := info_parts info_thing20
  obtain ⟨x0, x1⟩ := x
  simp only
  have H := Lib.hid h
  obtain ⟨n, hn⟩ : ∃ n, n = l.length := ⟨_, rfl⟩
  rw [← hn] at hc hroom hn2
  have hne := h.ne
  have HOWN := Lib.hid (hn ▸ h.own)
  have HBOX := Lib.hid (hn ▸ h.box)
  have HN := Lib.hid hn
  clear h hn
  have has := asserts_ok (.agg #[.int .i64 (x0 : Int), .int .i64 (x1 : Int)])
  go_enter Tryz.func310, Tryz.ntmps310
  go_wp2
  go_region_law (refine step_append_lies _ (by rfl) _ _ _ (by rfl) S 284 i0 (.agg #[.int .i64 0, .int .i64 0]) 2 16 Tryz.underlying281 hi0 hz0 hz1 hz2 rfl (by decide) _ _ _ (by rfl) ((own_drew (HOWN.out.alloc _)).alloc _) _ 1 1 [.int .i64 (x0 : Int), .int .i64 (x1 : Int)] (by rfl) (by rfl) (World.news_of_block (heap_alloc2_new w _ _)) (by intro u hu; simp at hu; rcases hu with rfl | rfl <;> rfl) (by decide) (by simp only [maxLen]; omega) (by omega) (by simp; omega) (w.heap.size + 2) (by simp) ?_; intro g7 cap7 w7 hown7 hgr7 hat7 hlt7; have hb7 : Blk w7 T 281 [.slice (some ⟨S, 0, none⟩) n cap] := blk_row (((HBOX.out.alloc_ _).drew_).alloc_ _) hgr7 (fun r e => by have e2 : S = r := Option.some.inj e; omega); have hc7 := hb7.cell 0; have hf7 := hb7.frozen 0; simp only [List.getElem?_cons_zero] at hc7; have HB7 := Lib.hid hb7; have HG7 := Lib.hid hgr7; have HOWN7 := Lib.hid hown7; have HAT7 := Lib.hid hat7; clear hb7 hgr7 hown7 hat7 hlt7)
  all_goals (go_wp2; refine bodyPost_end (results_none rfl _ _ _) rfl ?_; refine ⟨rfl, ?_⟩)
  all_goals exact push_end H.out HN.out HB7.out HG7.out HOWN7.out HAT7.out
end
end Go.Proofs.YtflcmmeoppdhdaaGreat
namespace Go.Proofs.YtflcmmeoppdhdaaGreat
open Go.RowKit Go.Sort Go.Shelf

theorem HAt.drewN {w : World} {T S cap : Nat} {l : List Pr} (h : HAt w T S cap l) (q : Nat) : HAt (w.drewN q) T S cap l := h.same rfl
theorem TurnsB.drewN {T S : Nat} {w w' : World} (h : TurnsB T S w w') (q : Nat) : TurnsB T S w (w'.drewN q) := ⟨h.os, h.tape, h.output, h.size, h.block⟩
section
variable {w w' : World} {T S cap : Nat} {l : List Pr}
set_option maxHeartbeats 1000000 in
set_option maxRecDepth 100000 in
theorem heap_up (h : HAt w T S cap l) (j0 : Nat) (hj : UpOk l j0) (hn : l.length ≤ 1000000) :
    Calls Tryz.prog 252 #[.iface 279 (.pointer (some ⟨T, 0, none⟩)), .int .i64 (j0 : Int)] w fun e w' => e = .returned (.tuple #[]) ∧ ∃ l', HAt w' T S cap l' ∧ l'.Perm l ∧ IsHeap l' ∧ TurnsB T S w w' := by
  have H := Lib.hid h
  have HJ := Lib.hid hj
  clear h hj
  go_enter Tryz.func252, Tryz.ntmps252
  go_wp2
  go_loopw [1] (fun vj wr => ∃ (j : Nat) (l' : List Pr), vj = .int .i64 (j : Int) ∧ HAt wr T S cap l' ∧ l'.Perm l ∧ UpOk l' j ∧ TurnsB T S w wr) (fun vj _ => (intOf vj).toNat)
  case atStart => exact ⟨j0, l, rfl, H.out, List.Perm.refl _, HJ.out, TurnsB.refl _ _ _⟩
  case round =>
    obtain ⟨j, l', rfl, hh, hp, hu, ht⟩ := hrel
    have hjl : j < l'.length := hu.lt
    have hll : l'.length ≤ 1000000 := by rw [hp.length_eq]; exact hn
    have HH := Lib.hid hh
    have HP := Lib.hid (And.intro hp (And.intro hu ht))
    have mL := meth_less hh
    simp only [Tryz.types_size, Nat.reduceAdd] at mL
    clear hh hp hu ht H HJ
    by_cases h0 : j = 0
    · subst h0
      go_wp2
      go_end0
      exact ⟨rfl, l', HH.out, HP.out.1, HP.out.2.1.done (.inl rfl), HP.out.2.2⟩
    · have hp0 : par j < j := par_lt (by omega)
      have C := Lib.hid (things_less (cap := cap) HH.out hjl (show par j < l'.length by omega))
      have e1 : (((j : Int) - 1).tdiv 2) = ((par j : Nat) : Int) := by
        unfold par
        rw [Int.tdiv_eq_ediv_of_nonneg (by omega)]
        omega
      obtain ⟨i, hi⟩ : ∃ i, i = par j := ⟨_, rfl⟩
      rw [← hi] at hp0 e1 C
      have HI := Lib.hid hi
      clear hi
      have hne : ¬ (i : Int) = (j : Int) := by omega
      obtain ⟨b, hb⟩ : ∃ b, b = pl (pat l' j) (pat l' i) := ⟨_, rfl⟩
      rw [← hb] at C
      have HBB := Lib.hid hb
      clear hb
      cases b with
      | false =>
        go_wp2_with fail
        refine C.out.mono ?_
        rintro _ w0 ⟨rfl, q, hw0⟩
        subst w0
        have HE := Lib.hid (show IsHeap l' from HP.out.2.1.done (.inr (by rw [← HI.out]; exact HBB.out.symm)))
        go_wp2
        go_end0
        exact ⟨rfl, l', HH.out.drewN q, HP.out.1, HE.out, HP.out.2.2.drewN q⟩
      | true =>
        go_wp2_with fail
        refine C.out.mono ?_
        rintro _ w0 ⟨rfl, q, hw0⟩
        subst w0
        have D := Lib.hid (things_swap (HH.out.drewN q) (i := i) (j := j) (by omega) hjl)
        have mS := meth_swap (HH.out.drewN q)
        simp only [Tryz.types_size, Nat.reduceAdd] at mS
        go_wp2_with fail
        refine D.out.mono ?_
        rintro _ w3 ⟨rfl, hh3, ht3⟩
        have HEND := Lib.hid (And.intro hh3 (HP.out.2.2.drewN q |>.trans ht3))
        clear hh3 ht3
        go_wp2
        go_roundw
        case rel => exact ⟨i, swapP l' i j, rfl, HEND.out.1, (swap_perm (by omega) hjl).trans HP.out.1, by
          have h := HP.out.2.1.step (by omega) (by rw [← HI.out]; exact HBB.out.symm)
          rw [← HI.out] at h; exact h, HEND.out.2⟩
        case measure => simp [intOf]; omega
end
end Go.Proofs.YtflcmmeoppdhdaaGreat
namespace Go.Proofs.YtflcmmeoppdhdaaGreat
open Go.RowKit Go.Sort Go.Shelf

theorem par_child {k i : Nat} (h0 : 0 < k) (h : par k = i) : k = 2 * i + 1 ∨ k = 2 * i + 2 := by unfold par at h; omega
section
variable {w w' : World} {T S cap : Nat} {l : List Pr}
set_option maxHeartbeats 2000000 in
set_option maxRecDepth 100000 in
theorem heap_down (h : HAt w T S cap l) (i0 n : Nat) (hj : DownOk l n i0) (hi0 : i0 ≤ n) (hn : l.length ≤ 1000000) :
    Calls Tryz.prog 253 #[.iface 279 (.pointer (some ⟨T, 0, none⟩)), .int .i64 (i0 : Int), .int .i64 (n : Int)] w fun e w' => ∃ b, e = .returned (.bool b) ∧ ∃ l', HAt w' T S cap l' ∧ l'.Perm l ∧ HeapN l' n ∧ (∀ k, n ≤ k → pat l' k = pat l k) ∧ TurnsB T S w w' := by
  have H := Lib.hid h
  have HJ := Lib.hid hj
  have hnl := hj.most
  clear h hj
  go_enter Tryz.func253, Tryz.ntmps253
  go_wp2
  go_loopw [7, 8, 9, 10] (fun vi _ _ _ wr => ∃ (i : Nat) (l' : List Pr), vi = .int .i64 (i : Int) ∧ i ≤ n ∧ HAt wr T S cap l' ∧ l'.Perm l ∧ DownOk l' n i ∧ (∀ k, n ≤ k → pat l' k = pat l k) ∧ TurnsB T S w wr) (fun vi _ _ _ _ => n - (intOf vi).toNat)
  case atStart => exact ⟨i0, l, rfl, hi0, H.out, List.Perm.refl _, HJ.out, fun _ _ => rfl, TurnsB.refl _ _ _⟩
  case round =>
    obtain ⟨i, l', rfl, hin, hh, hp, hu, hk, ht⟩ := hrel
    have hll : l'.length ≤ 1000000 := by rw [hp.length_eq]; exact hn
    have hnl' : n ≤ l'.length := by rw [hp.length_eq]; exact hnl
    have HH := Lib.hid hh
    have HP := Lib.hid (And.intro hp (And.intro hu (And.intro hk ht)))
    have mL := meth_less hh
    simp only [Tryz.types_size, Nat.reduceAdd] at mL
    have hi1 : i ≤ 1000000 := by omega
    have hn1 : n ≤ 1000000 := by omega
    clear hh hp hu ht hk H HJ hn
    by_cases h1 : 2 * i + 1 < n
    · by_cases h2 : 2 * i + 2 < n
      · have C := Lib.hid (things_less (cap := cap) HH.out (i := 2 * i + 2) (j := 2 * i + 1) (by omega) (by omega))
        obtain ⟨b, hb⟩ : ∃ b, b = pl (pat l' (2 * i + 2)) (pat l' (2 * i + 1)) := ⟨_, rfl⟩
        rw [← hb] at C
        have HBB := Lib.hid hb
        clear hb
        obtain ⟨j1, hj1⟩ : ∃ j1, j1 = 2 * i + 1 := ⟨_, rfl⟩
        have e1 : 2 * (i : Int) + 1 = (j1 : Int) := by omega
        have C1 := C.out
        rw [show 2 * i + 2 = j1 + 1 by omega, ← hj1] at C1
        have CC := Lib.hid C1
        clear C C1
        have HJ1 := Lib.hid hj1
        have h3 : j1 < n := by omega
        have h4 : j1 + 1 < n := by omega
        have h5 : i < j1 := by omega
        clear hj1 h1 h2
        cases b with
        | true =>
          go_wp2_with fail
          refine CC.out.mono ?_
          rintro _ w0 ⟨rfl, q, hw0⟩
          subst w0
          have hlm : ∀ k, 0 < k → k < n → par k = i → pl (pat l' k) (pat l' (j1+1)) = false := fun k g0 g1 g2 => by
            have e := HJ1.out
            rcases par_child g0 g2 with e2 | e2
            · rw [e2, ← e]
              have hb := HBB.out
              rw [← e, show 2 * i + 2 = j1 + 1 by omega] at hb
              exact pl_flip hb.symm
            · rw [e2, show 2 * i + 2 = j1 + 1 by omega, pl_no]; omega
          have hpj : par (j1+1) = i := by unfold par; have := HJ1.out; omega
          have C2 := Lib.hid (things_less (cap := cap) (HH.out.drewN q) (i := j1+1) (j := i) (by omega) (by omega))
          obtain ⟨b2, hb2⟩ : ∃ b2, b2 = pl (pat l' (j1+1)) (pat l' i) := ⟨_, rfl⟩
          rw [← hb2] at C2
          obtain ⟨jj, hjj⟩ : ∃ jj, jj = j1+1 := ⟨_, rfl⟩
          rw [← hjj] at hlm hpj hb2 C2
          have hjn : jj < n := by omega
          have hij : i < jj := by omega
          have HLM := Lib.hid (And.intro hlm (And.intro hpj hb2))
          have mL2 := meth_less (HH.out.drewN q)
          simp only [Tryz.types_size, Nat.reduceAdd] at mL2
          clear hlm hpj hb2
          have HJJ := Lib.hid hjj
          clear hjj
          have e3 : (j1 : Int) + 1 = (jj : Int) := by have := HJJ.out; omega
          cases b2 with
          | false =>
            go_wp2_with fail
            refine C2.out.mono ?_
            rintro _ w1 ⟨rfl, q2, hw1⟩
            subst w1
            have hd : HeapN l' n := HP.out.2.1.done fun k g0 g1 g2 => pl_trans (HLM.out.1 k g0 g1 g2) HLM.out.2.2.symm
            have HD := Lib.hid hd
            clear hd
            go_wp2
            go_ret
            exact ⟨_, rfl, l', HH.out.drewN (q + q2), HP.out.1, HD.out, HP.out.2.2.1, HP.out.2.2.2.drewN (q + q2)⟩
          | true =>
            go_wp2_with fail
            refine C2.out.mono ?_
            rintro _ w1 ⟨rfl, q2, hw1⟩
            subst w1
            have D := Lib.hid (things_swap (HH.out.drewN (q + q2)) (i := i) (j := jj) (by omega) (by omega))
            have mS := meth_swap (HH.out.drewN (q + q2))
            simp only [Tryz.types_size, Nat.reduceAdd] at mS
            go_wp2_with fail
            refine D.out.mono ?_
            rintro _ w3 ⟨rfl, hh3, ht3⟩
            have HEND := Lib.hid (And.intro hh3 ((HP.out.2.2.2.drewN (q + q2)).trans ht3))
            clear hh3 ht3
            go_wp2
            go_roundw
            case rel => exact ⟨jj, swapP l' i jj, rfl, by omega, HEND.out.1, (swap_perm (by omega) (by omega)).trans HP.out.1, HP.out.2.1.step (by omega) hjn HLM.out.2.1 HLM.out.1 HLM.out.2.2.symm, fun k hk => by rw [pat_swap (by omega) (by omega), if_neg (by omega), if_neg (by omega)]; exact HP.out.2.2.1 k hk, HEND.out.2⟩
            case measure => simp [intOf]; omega
        | false =>
          go_wp2_with fail
          refine CC.out.mono ?_
          rintro _ w0 ⟨rfl, q, hw0⟩
          subst w0
          have hlm : ∀ k, 0 < k → k < n → par k = i → pl (pat l' k) (pat l' (j1)) = false := fun k g0 g1 g2 => by
            have e := HJ1.out
            rcases par_child g0 g2 with e2 | e2
            · rw [e2, ← e, pl_no]; omega
            · have hb := HBB.out
              rw [← e, show 2 * i + 2 = j1 + 1 by omega] at hb
              rw [e2, show 2 * i + 2 = j1 + 1 by omega]
              exact hb.symm
          have hpj : par (j1) = i := by unfold par; have := HJ1.out; omega
          have C2 := Lib.hid (things_less (cap := cap) (HH.out.drewN q) (i := j1) (j := i) (by omega) (by omega))
          obtain ⟨b2, hb2⟩ : ∃ b2, b2 = pl (pat l' (j1)) (pat l' i) := ⟨_, rfl⟩
          rw [← hb2] at C2
          obtain ⟨jj, hjj⟩ : ∃ jj, jj = j1 := ⟨_, rfl⟩
          rw [← hjj] at hlm hpj hb2 C2
          have hjn : jj < n := by omega
          have hij : i < jj := by omega
          have HLM := Lib.hid (And.intro hlm (And.intro hpj hb2))
          have mL2 := meth_less (HH.out.drewN q)
          simp only [Tryz.types_size, Nat.reduceAdd] at mL2
          clear hlm hpj hb2
          have HJJ := Lib.hid hjj
          clear hjj
          have hx : jj = j1 := HJJ.out
          clear HJJ
          subst hx
          cases b2 with
          | false =>
            go_wp2_with fail
            refine C2.out.mono ?_
            rintro _ w1 ⟨rfl, q2, hw1⟩
            subst w1
            have hd : HeapN l' n := HP.out.2.1.done fun k g0 g1 g2 => pl_trans (HLM.out.1 k g0 g1 g2) HLM.out.2.2.symm
            have HD := Lib.hid hd
            clear hd
            go_wp2
            go_ret
            exact ⟨_, rfl, l', HH.out.drewN (q + q2), HP.out.1, HD.out, HP.out.2.2.1, HP.out.2.2.2.drewN (q + q2)⟩
          | true =>
            go_wp2_with fail
            refine C2.out.mono ?_
            rintro _ w1 ⟨rfl, q2, hw1⟩
            subst w1
            have D := Lib.hid (things_swap (HH.out.drewN (q + q2)) (i := i) (j := jj) (by omega) (by omega))
            have mS := meth_swap (HH.out.drewN (q + q2))
            simp only [Tryz.types_size, Nat.reduceAdd] at mS
            go_wp2_with fail
            refine D.out.mono ?_
            rintro _ w3 ⟨rfl, hh3, ht3⟩
            have HEND := Lib.hid (And.intro hh3 ((HP.out.2.2.2.drewN (q + q2)).trans ht3))
            clear hh3 ht3
            go_wp2
            go_roundw
            case rel => exact ⟨jj, swapP l' i jj, rfl, by omega, HEND.out.1, (swap_perm (by omega) (by omega)).trans HP.out.1, HP.out.2.1.step (by omega) hjn HLM.out.2.1 HLM.out.1 HLM.out.2.2.symm, fun k hk => by rw [pat_swap (by omega) (by omega), if_neg (by omega), if_neg (by omega)]; exact HP.out.2.2.1 k hk, HEND.out.2⟩
            case measure => simp [intOf]; omega
      · obtain ⟨j1, hj1⟩ : ∃ j1, j1 = 2 * i + 1 := ⟨_, rfl⟩
        have e1 : 2 * (i : Int) + 1 = (j1 : Int) := by omega
        have HJ1 := Lib.hid hj1
        have h3 : j1 < n := by omega
        have h4 : ¬ j1 + 1 < n := by omega
        have h5 : i < j1 := by omega
        clear hj1 h1 h2
        have hlm : ∀ k, 0 < k → k < n → par k = i → pl (pat l' k) (pat l' (j1)) = false := fun k g0 g1 g2 => by
          have e := HJ1.out
          rcases par_child g0 g2 with e2 | e2
          · rw [e2, ← e, pl_no]; omega
          · omega
        have hpj : par (j1) = i := by unfold par; have := HJ1.out; omega
        have C2 := Lib.hid (things_less (cap := cap) HH.out (i := j1) (j := i) (by omega) (by omega))
        obtain ⟨b2, hb2⟩ : ∃ b2, b2 = pl (pat l' (j1)) (pat l' i) := ⟨_, rfl⟩
        rw [← hb2] at C2
        obtain ⟨jj, hjj⟩ : ∃ jj, jj = j1 := ⟨_, rfl⟩
        rw [← hjj] at hlm hpj hb2 C2
        have hjn : jj < n := by omega
        have hij : i < jj := by omega
        have HLM := Lib.hid (And.intro hlm (And.intro hpj hb2))
        clear hlm hpj hb2
        have HJJ := Lib.hid hjj
        clear hjj
        have hx : jj = j1 := HJJ.out
        clear HJJ
        subst hx
        cases b2 with
        | false =>
          go_wp2_with fail
          refine C2.out.mono ?_
          rintro _ w1 ⟨rfl, q2, hw1⟩
          subst w1
          have hd : HeapN l' n := HP.out.2.1.done fun k g0 g1 g2 => pl_trans (HLM.out.1 k g0 g1 g2) HLM.out.2.2.symm
          have HD := Lib.hid hd
          clear hd
          go_wp2
          go_ret
          exact ⟨_, rfl, l', HH.out.drewN q2, HP.out.1, HD.out, HP.out.2.2.1, HP.out.2.2.2.drewN q2⟩
        | true =>
          go_wp2_with fail
          refine C2.out.mono ?_
          rintro _ w1 ⟨rfl, q2, hw1⟩
          subst w1
          have D := Lib.hid (things_swap (HH.out.drewN q2) (i := i) (j := jj) (by omega) (by omega))
          have mS := meth_swap (HH.out.drewN q2)
          simp only [Tryz.types_size, Nat.reduceAdd] at mS
          go_wp2_with fail
          refine D.out.mono ?_
          rintro _ w3 ⟨rfl, hh3, ht3⟩
          have HEND := Lib.hid (And.intro hh3 ((HP.out.2.2.2.drewN q2).trans ht3))
          clear hh3 ht3
          go_wp2
          go_roundw
          case rel => exact ⟨jj, swapP l' i jj, rfl, by omega, HEND.out.1, (swap_perm (by omega) (by omega)).trans HP.out.1, HP.out.2.1.step (by omega) hjn HLM.out.2.1 HLM.out.1 HLM.out.2.2.symm, fun k hk => by rw [pat_swap (by omega) (by omega), if_neg (by omega), if_neg (by omega)]; exact HP.out.2.2.1 k hk, HEND.out.2⟩
          case measure => simp [intOf]; omega
    · have hd : HeapN l' n := HP.out.2.1.done fun k h0 hkn hk => by
        rcases par_child h0 hk with e | e <;> omega
      have HD := Lib.hid hd
      clear hd
      have e1 : (n : Int) ≤ 2 * (i : Int) + 1 := by omega
      go_wp2
      go_ret
      exact ⟨_, rfl, l', HH.out, HP.out.1, HD.out, HP.out.2.2.1, HP.out.2.2.2⟩
end
end Go.Proofs.YtflcmmeoppdhdaaGreat
namespace Go.Proofs.YtflcmmeoppdhdaaGreat
open Go.RowKit Go.Sort Go.Shelf

theorem TurnsB.next {T S S' : Nat} {w w' w'' : World} (h : TurnsB T S w w') (hs : S' = S ∨ w.heap.size ≤ S') (k : TurnsB T S' w' w'') : TurnsB T S w w'' :=
  ⟨k.os.trans h.os, k.tape.trans h.tape, k.output.trans h.output, Nat.le_trans h.size k.size, fun i hi h1 h2 => (k.block i (Nat.lt_of_lt_of_le hi h.size) h1 (by rcases hs with e | e <;> omega)).trans (h.block i hi h1 h2)⟩
/-- A thing as a value. -/
def thingV (x : Pr) : Value := .agg #[.int .i64 (x.1 : Int), .int .i64 (x.2 : Int)]
section
variable {w w' : World} {T S cap : Nat} {l : List Pr}
theorem HAt.setOther (h : HAt w T S cap l) {g i : Nat} {v : Value} (h1 : T ≠ g) (h2 : S ≠ g) : HAt (w.setCell ⟨g, i, none⟩ v) T S cap l := by
  obtain ⟨cur, h3, h4⟩ := h.row
  exact ⟨h.box.setOther _ _ h1, ⟨cur, h3.setOther _ _ h2, h4⟩, h.room, h.most⟩
/-- What comes of a push. -/
def Pushed (w : World) (T S : Nat) (l : List Pr) (x : Pr) (w' : World) : Prop := ∃ S' cap' l', HAt w' T S' cap' l' ∧ l'.Perm (l ++ [x]) ∧ IsHeap l' ∧ TurnsB T S w w' ∧ (S' = S ∨ w.heap.size ≤ S')
/-- What comes of a pop. -/
def Popped (w : World) (T S cap : Nat) (l : List Pr) (n : Nat) (w' : World) : Prop := ∃ m, m.Perm l ∧ pat m n = pat l 0 ∧ HeapN m n ∧ HAt w' T S cap (m.take n) ∧ TurnsB T S w w'
set_option maxHeartbeats 1000000 in
set_option maxRecDepth 100000 in
theorem heap_push (h : HAt w T S cap l) (hh : IsHeap l) (hn : l.length ≤ 100000) (x : Pr) :
    Calls Tryz.prog 245 #[.iface 279 (.pointer (some ⟨T, 0, none⟩)), .iface 284 (thingV x)] w fun e w' => e = .returned (.tuple #[]) ∧ Pushed w T S l x w' := by
  have C := Lib.hid (things_push h (by omega) x)
  have mP := meth_push T w
  simp only [Tryz.types_size, Nat.reduceAdd] at mP
  have HI := Lib.hid hh
  obtain ⟨v, hv⟩ : ∃ v, v = thingV x := ⟨_, rfl⟩
  rw [← hv]
  have HV := Lib.hid hv
  clear h hh hv
  go_enter Tryz.func245, Tryz.ntmps245
  go_wp2_with fail
  rw [HV.out]
  refine C.out.mono ?_
  rintro _ w1 ⟨rfl, S1, cap1, h1, ht1, hs1⟩
  have hl1 : (l ++ [x]).length = l.length + 1 := by simp
  have HH1 := Lib.hid h1
  have HT1 := Lib.hid (And.intro ht1 hs1)
  have mL := meth_len h1
  simp only [Tryz.types_size, Nat.reduceAdd] at mL
  have D := Lib.hid (things_len (some ⟨S1, 0, none⟩) (l ++ [x]).length cap1 w1)
  rw [hl1] at mL D
  have U := Lib.hid (heap_up h1 l.length (push_up HI.out x) (by omega))
  obtain ⟨n, hnn⟩ : ∃ n, n = l.length := ⟨_, rfl⟩
  rw [← hnn] at mL D U hn
  clear h1 ht1 hs1 hl1 C hnn
  go_wp2_with fail
  refine D.out.mono ?_
  rintro _ w0 ⟨rfl, hw0⟩
  subst w0
  go_wp2_with fail
  refine U.out.mono ?_
  rintro _ w2 ⟨rfl, l2, h2, hp2, hi2, ht2⟩
  have HEND := Lib.hid (show Pushed w T S l x w2 from ⟨S1, cap1, l2, h2, hp2, hi2, HT1.out.1.next HT1.out.2 ht2, HT1.out.2⟩)
  clear h2 hp2 hi2 ht2
  go_wp2
  go_end0
  exact ⟨rfl, HEND.out⟩
set_option maxHeartbeats 1000000 in
set_option maxRecDepth 100000 in
theorem heap_pop (h : HAt w T S cap l) (hh : IsHeap l) (n : Nat) (hn : l.length = n + 1) (hn2 : n ≤ 100000) :
    Calls Tryz.prog 246 #[.iface 279 (.pointer (some ⟨T, 0, none⟩))] w fun e w' => e = .returned (.iface 284 (thingV (pat l 0))) ∧ Popped w T S cap l n w' := by
  have C := Lib.hid (things_len (some ⟨S, 0, none⟩) l.length cap w)
  have mL := meth_len h
  have mS := meth_swap h
  simp only [Tryz.types_size, Nat.reduceAdd] at mL mS
  have D := Lib.hid (things_swap h (i := 0) (j := n) (by omega) (by omega))
  have HD := Lib.hid (pop_down hh hn)
  have H := Lib.hid (And.intro h (And.intro hh hn))
  rw [hn] at mL mS C D
  clear h hh hn
  go_enter Tryz.func246, Tryz.ntmps246
  go_wp2_with fail
  refine C.out.mono ?_
  rintro _ w0 ⟨rfl, hw0⟩
  subst w0
  have DD := D.out
  clear C D
  have D := Lib.hid DD
  clear DD
  go_wp2_with fail
  refine D.out.mono ?_
  rintro _ w1 ⟨rfl, h1, ht1⟩
  have E := Lib.hid (heap_down h1 0 n HD.out (Nat.zero_le _) (by rw [swapP_len, H.out.2.2]; omega))
  have HT1 := Lib.hid ht1
  clear h1 ht1 mL mS
  go_wp2_with fail
  refine E.out.mono ?_
  rintro _ w2 ⟨b, rfl, m, h2, hp2, hn3, hk, ht2⟩
  have hml : m.length = n + 1 := by rw [hp2.length_eq, swapP_len, H.out.2.2]
  have F := Lib.hid (things_pop h2 n hml (by omega))
  have mP := meth_pop T w2
  simp only [Tryz.types_size, Nat.reduceAdd] at mP
  have h0 : pat m n = pat (l) 0 := by
    rw [hk n (Nat.le_refl _), pat_swap (by have := H.out.2.2; omega) (by have := H.out.2.2; omega), if_pos rfl]
  rw [h0] at F
  have HR := Lib.hid (And.intro (hp2.trans (swap_perm (l := l) (i := 0) (j := n) (by have := H.out.2.2; omega) (by have := H.out.2.2; omega))) (And.intro h0 (And.intro hn3 (HT1.out.trans ht2))))
  obtain ⟨v, hv⟩ : ∃ v, v = thingV (pat l 0) := ⟨_, rfl⟩
  have HV := Lib.hid hv
  clear h2 hp2 hn3 hk ht2 h0 hml hv E
  go_wp2_with fail
  refine F.out.mono ?_
  rintro _ w3 ⟨he3, h3, ht3⟩
  subst he3
  have HEND := Lib.hid (show Popped w T S cap l n w3 from ⟨m, HR.out.1, HR.out.2.1, HR.out.2.2.1, h3, HR.out.2.2.2.trans ht3⟩)
  clear h3 ht3
  go_wp2
  go_ret
  exact ⟨rfl, HEND.out⟩
theorem size_thing : (Tryz.prog.info? 284).map (·.size) = some 2 := by kernel_rfl
set_option maxHeartbeats 1000000 in
set_option maxRecDepth 100000 in
theorem lens_come (h : HAt w T S cap l) (hh : IsHeap l) (hn : l.length ≤ 100000) (x : Pr) :
    Calls Tryz.prog 232 #[.pointer (some ⟨T, 0, none⟩), thingV x] w fun e w' => e = .returned (.tuple #[]) ∧ Pushed w T S l x w' := by
  have C := Lib.hid (fun W (hb : Below w.heap.size w W) => heap_push (h.grow hb) hh hn x)
  have hT := h.box.lt
  have hS : S < w.heap.size := by obtain ⟨cur, h1, -⟩ := h.row; exact h1.lt
  obtain ⟨x0, x1⟩ := x
  show Calls Tryz.prog 232 #[.pointer (some ⟨T, 0, none⟩), .agg #[.int .i64 (x0 : Int), .int .i64 (x1 : Int)]] w _
  clear h hh
  go_enter Tryz.func232, Tryz.ntmps232
  go_wp2_with fail
  refine (C.out _ ((Below.refl _ _).alloc (Nat.le_refl _) _)).mono ?_
  rintro _ w1 ⟨rfl, S1, cap1, l1, h1, hp1, hi1, ht1, hs1⟩
  have HEND := Lib.hid (show Pushed w T S l (x0, x1) w1 from ⟨S1, cap1, l1, h1, hp1, hi1, ((TurnsB.refl T S w).allocO _).trans ht1, hs1.imp id (fun e => by
    have e2 := Nat.le_trans (Nat.le_of_lt (by simp : w.heap.size < (w.alloc (.cells #[.int .i64 (x0 : Int), .int .i64 (x1 : Int)] 284)).heap.size)) e
    exact e2)⟩)
  clear h1 hp1 hi1 ht1 hs1
  go_wp2
  go_end0
  exact ⟨rfl, HEND.out⟩
set_option maxHeartbeats 1000000 in
set_option maxRecDepth 100000 in
theorem lens_least (h : HAt w T S cap l) (hh : IsHeap l) (n : Nat) (hn : l.length = n + 1) (hn2 : n ≤ 100000) :
    Calls Tryz.prog 234 #[.pointer (some ⟨T, 0, none⟩)] w fun e w' => e = .returned (thingV (pat l 0)) ∧ Popped w T S cap l n w' := by
  have hT := h.box.lt
  have hS : S < w.heap.size := by obtain ⟨cur, h1, -⟩ := h.row; exact h1.lt
  have C := Lib.hid (fun W (hb : Below w.heap.size w W) => heap_pop (h.grow hb) hh n hn hn2)
  obtain ⟨x, hx⟩ : ∃ x, x = pat l 0 := ⟨_, rfl⟩
  rw [← hx] at C ⊢
  obtain ⟨x0, x1⟩ := x
  have ha := asserts_one (.agg #[.int .i64 (x0 : Int), .int .i64 (x1 : Int)])
  have HP := Lib.hid h
  clear h hh hn hx
  go_enter Tryz.func234, Tryz.ntmps234
  go_wp2_with fail
  refine (C.out _ ((Below.refl _ _).alloc (Nat.le_refl _) _)).mono ?_
  rintro _ w1 ⟨he, m, hp, h0, hn3, h1, ht1⟩
  subst he
  have hB : Blk w1 w.heap.size 284 [.int .i64 0, .int .i64 0] := ht1.blk (heap_alloc_new w _) (by omega) (by omega)
  have hc0 := hB.cell 0
  have hc1 := hB.cell 1
  have hf0 := hB.frozen 0
  have hf1 := hB.frozen 1
  simp only [List.getElem?_cons_zero, List.getElem?_cons_succ] at hc0 hc1
  have HB := Lib.hid hB
  have HEND := Lib.hid (And.intro hp (And.intro h0 (And.intro hn3 (And.intro h1 (((TurnsB.refl T S w).allocO _).trans ht1)))))
  clear hB hp h0 hn3 h1 ht1 C
  unfold thingV
  go_wp2
  have hS2 := hS
  have h2 : Blk ((w1.setCell ⟨w.heap.size, 0, none⟩ (.int .i64 (x0 : Int))).setCell ⟨w.heap.size, 1, none⟩ (.int .i64 (x1 : Int))) w.heap.size 284 [.int .i64 (x0 : Int), .int .i64 (x1 : Int)] := (HB.out.set_ 0 _).set_ 1 _
  refine bodyPost_ret (v := thingV (x0, x1)) (results_cell_row Tryz.results234 _ _ w.heap.size 284 _ (0, 0) _ rfl h2 Tryz.underlying284 rfl size_thing) rfl ⟨rfl, m, HEND.out.1, HEND.out.2.1, HEND.out.2.2.1, (HEND.out.2.2.2.1.setOther (by omega) (by omega)).setOther (by omega) (by omega), ?_⟩
  have ht := HEND.out.2.2.2.2
  exact ⟨ht.os, ht.tape, ht.output, by simpa [World.setCell] using ht.size, fun i hi h1 h2 => by
    rw [Below.heap_setCell _ _ _ i (by show i ≠ w.heap.size; omega), Below.heap_setCell _ _ _ i (by show i ≠ w.heap.size; omega)]
    exact ht.block i hi h1 h2⟩
end
end Go.Proofs.YtflcmmeoppdhdaaGreat
namespace Go.Proofs.YtflcmmeoppdhdaaGreat
open Go.RowKit Go.Sort Go.Shelf

theorem HeapSet.congr {S S' : Pr → Prop} {l : List Pr} (h : HeapSet S l) (e : ∀ p, S p ↔ S' p) : HeapSet S' l := ⟨h.heap, h.nodup, fun p => (h.mem p).trans (e p)⟩
def sumWL (l : List Pr) : Nat := (l.map (·.1)).sum
theorem sumW_perm {l m : List Pr} (h : l.Perm m) : sumWL l = sumWL m := (h.map _).sum_nat
theorem sumW_push (l : List Pr) (x : Pr) : sumWL (l ++ [x]) = sumWL l + x.1 := by simp [sumWL]
theorem pop_split {l m : List Pr} {n : Nat} (hn : l.length = n + 1) (hp : m.Perm l) (hm : pat m n = pat l 0) : sumWL (m.take n) + (pat l 0).1 = sumWL l ∧ (m.take n).length = n := by
  have hml : m.length = n + 1 := by rw [hp.length_eq, hn]
  have h1 := List.take_append_drop n m
  have h2 : m.drop n = [pat l 0] := by
    rw [← hm, pat_get (by omega), List.drop_eq_getElem_cons (by omega), List.drop_eq_nil_of_le (by omega)]
  rw [h2] at h1
  refine ⟨?_, by simp; omega⟩
  rw [← sumW_push, h1, sumW_perm hp]
/-- The things of the first k counts. -/
def UpTo (c : List Int) (k : Nat) (p : Pr) : Prop := p.2 < rankL c k ∧ p.1 = wtL c p.2
theorem upTo_step {c : List Int} {k : Nat} (h : k < c.length) (h0 : 0 < c[k]) (p : Pr) : (UpTo c k p ∨ p = ((c[k]).toNat, rankL c k)) ↔ UpTo c (k + 1) p := by
  have hr := rankL_succ c k h
  rw [if_pos h0] at hr
  have hw := wtL_rank c h h0
  unfold UpTo
  rw [hr]
  constructor
  · rintro (⟨h1, h2⟩ | rfl)
    · exact ⟨by omega, h2⟩
    · exact ⟨by simp, hw.symm⟩
  · rintro ⟨h1, h2⟩
    by_cases e : p.2 = rankL c k
    · exact .inr (Prod.ext (by rw [h2, e, hw]) e)
    · exact .inl ⟨by omega, h2⟩
theorem upTo_new {c : List Int} {k : Nat} (x : Nat) : ¬ UpTo c k (x, rankL c k) := fun h => by have := h.1; simp at this
theorem upTo_all (c : List Int) (p : Pr) : UpTo c c.length p ↔ ForSet (For.start (posL c).length (wtL c)) p := by
  unfold UpTo ForSet For.start
  rw [rankL_all]
  simp
theorem upTo_none (c : List Int) : HeapSet (UpTo c 0) [] := ⟨fun i _ h => by simp at h, by simp, fun p => by simp [UpTo, rankL, posL]⟩
theorem allOf_rank {c : List Int} {k : Nat} (h : k < c.length) (h0 : 0 < c[k]) : allOf (wtL c) (rankL c (k + 1)) = allOf (wtL c) (rankL c k) + (c[k]).toNat := by
  have hr := rankL_succ c k h
  rw [if_pos h0] at hr
  rw [hr]
  simp only [allOf]
  rw [wtL_rank c h h0]
theorem rankL_skip {c : List Int} {k : Nat} (h : k < c.length) (h0 : ¬ 0 < c[k]) : rankL c (k + 1) = rankL c k := by
  have hr := rankL_succ c k h
  rwa [if_neg h0, Nat.add_zero] at hr
theorem allOf_sum {c : List Int} (hc : ∀ x ∈ c, 0 ≤ x) : (allOf (wtL c) (posL c).length : Int) = c.sum := by
  have ha := allOf_list (posL c) (fun x hx => Int.le_of_lt (posL_pos c x hx)) (posL c).length (Nat.le_refl _)
  rw [List.take_length, posL_sum c hc] at ha
  exact ha
theorem rankL_le (c : List Int) (k : Nat) : rankL c k ≤ k := by
  unfold rankL posL
  exact Nat.le_trans (List.length_filter_le _ _) (by rw [List.length_take]; omega)

/-- Between two joins: f is as far as it goes. -/
structure Joins (c : List Int) (f : For) (ab : List Nat) (l : List Pr) : Prop where
  set : HeapSet (ForSet f) l
  ok : f.Ok (posL c).length
  tree : TreeOk f ab
  way : ∀ g, Huff f g → Huff (For.start (posL c).length (wtL c)) g
  most : f.N + l.length = 2 * (posL c).length
  sum : sumWL l = allOf (wtL c) (posL c).length
theorem joins_start {c : List Int} {l : List Pr} (h : HeapSet (UpTo c c.length) l) (hl : l.length = rankL c c.length) (hs : sumWL l = allOf (wtL c) (rankL c c.length)) : Joins c (For.start (posL c).length (wtL c)) (List.replicate (posL c).length 0) l := by
  rw [rankL_all] at hl hs
  exact ⟨h.congr (upTo_all c), start_ok _ _, tree_start _ _, fun _ h => h, by show (posL c).length + l.length = _; omega, hs⟩
/-- The two least. -/
structure Two (f : For) (l2 : List Pr) (n : Nat) (pa pb : Pr) : Prop where
  a : f.least (fun m => f.here m = true) pa.2
  b : f.least (fun m => f.here m = true ∧ m ≠ pa.2) pb.2
  sa : ForSet f pa
  sb : ForSet f pb
  ne : pa.2 ≠ pb.2
  set : HeapSet (fun p => (ForSet f p ∧ p ≠ pa) ∧ p ≠ pb) l2
  len : l2.length = n
theorem Joins.two {c : List Int} {f : For} {ab : List Nat} {l m m2 : List Pr} {n : Nat} (h : Joins c f ab l) (hn : l.length = n + 2)
    (hp : m.Perm l) (hm : pat m (n + 1) = pat l 0) (hh : HeapN m (n + 1))
    (hp2 : m2.Perm (m.take (n + 1))) (hm2 : pat m2 n = pat (m.take (n + 1)) 0) (hh2 : HeapN m2 n) :
    Two f (m2.take n) n (pat l 0) (pat (m.take (n + 1)) 0) ∧ sumWL (m2.take n) + ((pat l 0).1 + (pat (m.take (n + 1)) 0).1) = allOf (wtL c) (posL c).length := by
  obtain ⟨s1, s2, s3⟩ := pop_set h.set (by omega) hp hm hh
  obtain ⟨e1, e2⟩ := pop_split (by omega) hp hm
  obtain ⟨t1, t2, t3⟩ := pop_set s3 e2 hp2 hm2 hh2
  obtain ⟨e3, e4⟩ := pop_split e2 hp2 hm2
  obtain ⟨pa, hpa⟩ : ∃ pa, pa = pat l 0 := ⟨_, rfl⟩
  obtain ⟨pb, hpb⟩ : ∃ pb, pb = pat (m.take (n + 1)) 0 := ⟨_, rfl⟩
  rw [← hpa] at s1 s2 s3 e1 t1 t2 t3 ⊢
  rw [← hpb] at t1 t2 t3 e3 ⊢
  have hla : f.least (fun m => f.here m = true) pa.2 := for_least (S := ForSet f) (fun _ h => h) (fun m hm => ⟨hm, rfl⟩) (fun _ h => h.1) s1 s2
  have hne : pb.2 ≠ pa.2 := fun e => t1.2 (Prod.ext (by rw [t1.1.2, s1.2, e]) e)
  have hlb : f.least (fun m => f.here m = true ∧ m ≠ pa.2) pb.2 := for_least (S := fun p => ForSet f p ∧ p ≠ pa) (fun _ h => h.1) (fun m hm => ⟨⟨hm.1, rfl⟩, fun e => hm.2 (by rw [← e])⟩)
    (fun x hx => ⟨hx.1.1, fun e => hx.2 (Prod.ext (by rw [hx.1.2, s1.2, e]) e)⟩) t1 t2
  have hsum := h.sum
  exact ⟨⟨hla, hlb, s1, t1.1, fun e => hne e.symm, t3, e4⟩, by omega⟩
/-- Both go, and what stands above both comes. -/
theorem Joins.step {c : List Int} {f : For} {ab : List Nat} {l l2 l3 : List Pr} {n : Nat} {pa pb : Pr} (h : Joins c f ab l) (hn : l.length = n + 2) (ht : Two f l2 n pa pb) (hs : sumWL l2 + (pa.1 + pb.1) = allOf (wtL c) (posL c).length)
    (hp3 : l3.Perm (l2 ++ [(pa.1 + pb.1, f.N)])) (hh3 : IsHeap l3) :
    Joins c (f.both pa.2 pb.2) ((ab.set pa.2 f.N).set pb.2 f.N ++ [0]) l3 := by
  have haN := h.ok.less _ ht.sa.1
  have hbN := h.ok.less _ ht.sb.1
  have hl3 : l3.length = n + 1 := by rw [hp3.length_eq, List.length_append, ht.len]; rfl
  have hs3 := sumW_perm hp3
  rw [sumW_push] at hs3
  refine ⟨?_, For.both_ok h.ok, tree_both h.tree ht.sa.1 ht.sb.1 haN hbN, fun g hg => h.way g (.join f g pa.2 pb.2 ht.a ht.b hg), ?_, ?_⟩
  · refine (ht.set.push (x := (pa.1 + pb.1, f.N)) (fun hx => ?_) hp3 hh3).congr (for_both h.ok ht.sa ht.sb)
    have := h.ok.less _ hx.1.1.1
    simp at this
  · show f.N + 1 + l3.length = _
    have := h.most
    omega
  · simp only at hs3
    omega
/-- What the tree comes to: the depths d of all things, by the row of what is above each. -/
structure TreeDone (c : List Int) (ab : List Nat) (g : For) : Prop where
  huff : Huff (For.start (posL c).length (wtL c)) g
  len : ab.length = g.N
  most : (posL c).length ≤ g.N
  few : g.N ≤ 2 * (posL c).length
  top : 0 < g.N → g.d (g.N - 1) = 0
  low : ∀ i, i < g.N - 1 → i < ab.getD i 0 ∧ ab.getD i 0 < g.N ∧ g.d i = g.d (ab.getD i 0) + 1
theorem Joins.done {c : List Int} {f : For} {ab : List Nat} {l : List Pr} (h : Joins c f ab l) (hl : l.length ≤ 1) : TreeDone c ab f := by
  have hone : ∀ m m', f.here m = true → f.here m' = true → m = m' := fun m m' hm hm' => by
    have h1 := (h.set.mem (f.wt m, m)).2 ⟨hm, rfl⟩
    have h2 := (h.set.mem (f.wt m', m')).2 ⟨hm', rfl⟩
    obtain ⟨i, hi, e1⟩ := List.mem_iff_getElem.1 h1
    obtain ⟨j, hj, e2⟩ := List.mem_iff_getElem.1 h2
    have hij : i = j := by omega
    subst hij
    have := e1.symm.trans e2
    exact (Prod.mk.inj this).2
  refine ⟨h.way f (.last f hone), h.tree.len, h.ok.most, by have := h.most; omega, fun h0 => (tree_end h.tree hone h0).1, fun i hi => (tree_end h.tree hone (by omega)).2 i hi⟩
end Go.Proofs.YtflcmmeoppdhdaaGreat
