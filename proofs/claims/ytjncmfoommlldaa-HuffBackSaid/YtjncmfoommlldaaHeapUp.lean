/- Layer 20: the heap's own Push and Pop. · Layer 20: the library's way up and way down a heap. -/
import Derived.Test.YtjncmfoommlldaaHeapFn
import Derived.Deep.AppendLies
import Derived.Deep.RegionLaw
namespace Go.Proofs.Ytjncmfoommlldaa
open Go.RowKit Go.Sort Go.Shelf

section
variable {w w' : World} {T S cap : Nat} {l : List Pr}
theorem HAt.popped (h : HAt w T S cap l) {n : Nat} (hn : n ≤ l.length) (o : Obj) :
    HAt ((w.setCell ⟨T, 0, none⟩ (.slice (some ⟨S, 0, none⟩) n cap)).alloc o) T S cap (l.take n) ∧ TurnsB T S w ((w.setCell ⟨T, 0, none⟩ (.slice (some ⟨S, 0, none⟩) n cap)).alloc o) := by
  have hne := h.ne
  obtain ⟨cur, h1, h2, h3⟩ := h.row
  have hl : (l.take n).length = n := by simp; omega
  refine ⟨⟨?_, ⟨cur, ?_, h2, ?_⟩, by have := h.room; omega, h.most⟩, ?_⟩
  · rw [hl]
    exact (h.box.set_ 0 _).alloc_ o
  · exact (h1.setOther _ _ (fun e => hne e.symm)).alloc_ o
  · rw [hl, ← pvs_take, ← h3, List.take_take, Nat.min_eq_left (by omega)]
  · exact (TurnsB.setT _ _).allocO o
set_option maxHeartbeats 1000000 in
set_option maxRecDepth 100000 in
theorem things_pop (h : HAt w T S cap l) (n : Nat) (hn : l.length = n + 1) (hn2 : n ≤ 1000000) :
    Calls Try.prog 101 #[.pointer (some ⟨T, 0, none⟩)] w fun e w' => e = .returned (.iface 92 (.agg #[.int .i64 ((pat l n).1 : Int), .int .i64 ((pat l n).2 : Int)])) ∧ HAt w' T S cap (l.take n) ∧ TurnsB T S w w' := by
  have hc := h.boxCell
  have hf := h.box.frozen 0
  have c0 := h.cell0 (k := n) (by omega)
  have c1 := h.cell1 (k := n) (by omega)
  have hroom := h.room
  have hT := h.box.lt
  have hS : S < w.heap.size := by obtain ⟨cur, h1, -⟩ := h.row; exact h1.lt
  rw [hn] at hc hroom
  obtain ⟨x, hx⟩ : ∃ x, x = (pat l n).1 := ⟨_, rfl⟩
  obtain ⟨y, hy⟩ : ∃ y, y = (pat l n).2 := ⟨_, rfl⟩
  rw [← hx] at c0 ⊢
  rw [← hy] at c1 ⊢
  have H := Lib.hid h
  have HN := Lib.hid hn
  clear h hn hx hy
  go_enter Try.func101, Try.ntmps101
  go_wp2
  go_ret
  exact ⟨rfl, H.out.popped (by have := HN.out; omega) _⟩
theorem HAt.own (h : HAt w T S cap l) : w.ownsRow S 92 2 (.slice (some ⟨S, 0, none⟩) l.length cap) l.length (pvs l) := by
  obtain ⟨cur, h1, h2, h3⟩ := h.row
  exact ⟨pvs_length l, .inr ⟨S, cap, cur.toArray, rfl, Nat.le_refl _, h1, h.room, h.most, by simpa using h2, by simpa using h3⟩⟩
theorem HAt.of_own {b g : Nat} {v : Value} (hb : Blk w T 89 [v]) (hv : v = .slice (some ⟨g, 0, none⟩) l.length cap) (ho : w.ownsRow b 92 2 v l.length (pvs l)) (h0 : 0 < l.length) : HAt w T g cap l := by
  subst hv
  rcases ho.2 with ⟨h1, h2⟩ | ⟨g', cap', cur, he, hb', hg, hn, hm, hs, ht⟩
  · omega
  · injection he with e1 _ e2
    injection e1 with e1
    injection e1 with e1
    subst e1 e2
    exact ⟨hb, ⟨cur.toList, by unfold Blk; simpa using hg, by simpa using hs, ht⟩, hn, hm⟩
theorem push_end {x : Pr} {n g7 cap7 : Nat} {w7 : World} {cs ds : Array Value} {t1 t2 : TypeId} (h : HAt w T S cap l) (hn : n = l.length)
    (hb7 : Blk w7 T 89 [.slice (some ⟨S, 0, none⟩) n cap]) (hg7 : World.grownBy (((w.alloc (.cells cs t1)).drew).alloc (.cells ds t2)) w7 (some S))
    (hown7 : w7.ownsRow S 92 2 (.slice (some ⟨g7, 0, none⟩) (n + 1) cap7) (n + 1) (pvs l ++ [.int .i64 (x.1 : Int), .int .i64 (x.2 : Int)])) (hat : some S = some g7 ∨ g7 = w.heap.size + 2) :
    ∃ S' cap', HAt (w7.setCell ⟨T, 0, none⟩ (.slice (some ⟨g7, 0, none⟩) (n + 1) cap7)) T S' cap' (l ++ [x]) ∧ TurnsB T S w (w7.setCell ⟨T, 0, none⟩ (.slice (some ⟨g7, 0, none⟩) (n + 1) cap7)) ∧ (S' = S ∨ w.heap.size ≤ S') := by
  have hT : T < w.heap.size := h.box.lt
  have hne := h.ne
  have hl : (l ++ [x]).length = n + 1 := by simp [hn]
  have hgT : g7 ≠ T := by
    rcases hat with e | e
    · injection e with e; omega
    · omega
  refine ⟨g7, cap7, ?_, ?_, ?_⟩
  · have h1 : w7.ownsRow S 92 2 (.slice (some ⟨g7, 0, none⟩) (l ++ [x]).length cap7) (l ++ [x]).length (pvs (l ++ [x])) := by
      rw [hl, pvs_append]; exact hown7
    have h2 : (w7.setCell ⟨T, 0, none⟩ (.slice (some ⟨g7, 0, none⟩) (n + 1) cap7)).ownsRow S 92 2 (.slice (some ⟨g7, 0, none⟩) (l ++ [x]).length cap7) (l ++ [x]).length (pvs (l ++ [x])) := by
      refine ⟨h1.1, ?_⟩
      rcases h1.2 with h0 | ⟨g, cap', cur, e, hbg, hg, rest⟩
      · exact .inl h0
      · refine .inr ⟨g, cap', cur, e, hbg, ?_, rest⟩
        injection e with e1 _ _
        injection e1 with e1
        injection e1 with e1
        rw [Below.heap_setCell _ _ _ g (by show g ≠ T; omega)]
        exact hg
    exact HAt.of_own (v := .slice (some ⟨g7, 0, none⟩) (l ++ [x]).length cap7) (by rw [hl]; exact hb7.set_ 0 _) rfl h2 (by omega)
  · have h3 : TurnsB T S w (((w.alloc (.cells cs t1)).drew).alloc (.cells ds t2)) := ((TurnsB.refl T S w).allocO _).drew.allocO _
    have h4 : TurnsB T S (((w.alloc (.cells cs t1)).drew).alloc (.cells ds t2)) w7 := TurnsB.grown hg7 fun r e => by injection e with e; exact .inr e.symm
    exact (h3.trans h4).trans (TurnsB.setT _ _)
  · rcases hat with e | e
    · injection e with e; exact .inl e.symm
    · exact .inr (by omega)
theorem asserts_ok (v : Value) (w : World) : (Instr.typeAssert (.iface 92 v) 20 92 true).run Try.prog w = .ok (.tuple #[v, .bool true]) w := by kernel_rfl
theorem asserts_one (v : Value) (w : World) : (Instr.typeAssert (.iface 92 v) 20 92 false).run Try.prog w = .ok v w := by kernel_rfl
theorem info_thing20 : (Try.prog.info? 92).map (fun i => (i.zero, i.size, i.bytes)) = some (some (.agg #[.int .i64 0, .int .i64 0]), 2, 16) := by kernel_rfl
set_option maxHeartbeats 2000000 in
set_option maxRecDepth 100000 in
theorem things_push (h : HAt w T S cap l) (hn2 : l.length ≤ 1000000) (x : Pr) :
    Calls Try.prog 102 #[.pointer (some ⟨T, 0, none⟩), .iface 92 (.agg #[.int .i64 (x.1 : Int), .int .i64 (x.2 : Int)])] w fun e w' => e = .returned (.tuple #[]) ∧ ∃ S' cap', HAt w' T S' cap' (l ++ [x]) ∧ TurnsB T S w w' ∧ (S' = S ∨ w.heap.size ≤ S') := by
  have hc := h.boxCell
  have hf := h.box.frozen 0
  have hroom := h.room
  have hT := h.box.lt
  have hS : S < w.heap.size := by obtain ⟨cur, h1, -⟩ := h.row; exact h1.lt
  obtain ⟨i0, hi0, hz0, hz1, hz2⟩ := info_parts info_thing20
  obtain ⟨x0, x1⟩ := x
  simp only
  have H := Lib.hid h
  obtain ⟨n, hn⟩ : ∃ n, n = l.length := ⟨_, rfl⟩
  rw [← hn] at hc hroom hn2
  have hne := h.ne
  have HOWN := Lib.hid (hn ▸ h.own)
  have HBOX := Lib.hid (hn ▸ h.box)
  have HN := Lib.hid hn
  clear h hn
  have has := asserts_ok (.agg #[.int .i64 (x0 : Int), .int .i64 (x1 : Int)])
  go_enter Try.func102, Try.ntmps102
  go_wp2
  go_region_law (refine step_append_lies _ (by rfl) _ _ _ (by rfl) S 92 i0 (.agg #[.int .i64 0, .int .i64 0]) 2 16 Try.underlying89 hi0 hz0 hz1 hz2 rfl (by decide) _ _ _ (by rfl) ((own_drew (HOWN.out.alloc _)).alloc _) _ 1 1 [.int .i64 (x0 : Int), .int .i64 (x1 : Int)] (by rfl) (by rfl) (World.news_of_block (heap_alloc2_new w _ _)) (by intro u hu; simp at hu; rcases hu with rfl | rfl <;> rfl) (by decide) (by simp only [maxLen]; omega) (by omega) (by simp; omega) (w.heap.size + 2) (by simp) ?_; intro g7 cap7 w7 hown7 hgr7 hat7 hlt7; have hb7 : Blk w7 T 89 [.slice (some ⟨S, 0, none⟩) n cap] := blk_row (((HBOX.out.alloc_ _).drew_).alloc_ _) hgr7 (fun r e => by have e2 : S = r := Option.some.inj e; omega); have hc7 := hb7.cell 0; have hf7 := hb7.frozen 0; simp only [List.getElem?_cons_zero] at hc7; have HB7 := Lib.hid hb7; have HG7 := Lib.hid hgr7; have HOWN7 := Lib.hid hown7; have HAT7 := Lib.hid hat7; clear hb7 hgr7 hown7 hat7 hlt7)
  all_goals (go_wp2; refine bodyPost_end (results_none rfl _ _ _) rfl ?_; refine ⟨rfl, ?_⟩)
  all_goals exact push_end H.out HN.out HB7.out HG7.out HOWN7.out HAT7.out
end
end Go.Proofs.Ytjncmfoommlldaa
namespace Go.Proofs.Ytjncmfoommlldaa
open Go.RowKit Go.Sort Go.Shelf

theorem HAt.drewN {w : World} {T S cap : Nat} {l : List Pr} (h : HAt w T S cap l) (q : Nat) : HAt (w.drewN q) T S cap l := h.same rfl
theorem TurnsB.drewN {T S : Nat} {w w' : World} (h : TurnsB T S w w') (q : Nat) : TurnsB T S w (w'.drewN q) := ⟨h.os, h.tape, h.output, h.size, h.block⟩
section
variable {w w' : World} {T S cap : Nat} {l : List Pr}
set_option maxHeartbeats 1000000 in
set_option maxRecDepth 100000 in
theorem heap_up (h : HAt w T S cap l) (j0 : Nat) (hj : UpOk l j0) (hn : l.length ≤ 1000000) :
    Calls Try.prog 80 #[.iface 87 (.pointer (some ⟨T, 0, none⟩)), .int .i64 (j0 : Int)] w fun e w' => e = .returned (.tuple #[]) ∧ ∃ l', HAt w' T S cap l' ∧ l'.Perm l ∧ IsHeap l' ∧ TurnsB T S w w' := by
  have H := Lib.hid h
  have HJ := Lib.hid hj
  clear h hj
  go_enter Try.func80, Try.ntmps80
  go_wp2
  go_loopw [1] (fun vj wr => ∃ (j : Nat) (l' : List Pr), vj = .int .i64 (j : Int) ∧ HAt wr T S cap l' ∧ l'.Perm l ∧ UpOk l' j ∧ TurnsB T S w wr) (fun vj _ => (intOf vj).toNat)
  case atStart => exact ⟨j0, l, rfl, H.out, List.Perm.refl _, HJ.out, TurnsB.refl _ _ _⟩
  case round =>
    obtain ⟨j, l', rfl, hh, hp, hu, ht⟩ := hrel
    have hjl : j < l'.length := hu.lt
    have hll : l'.length ≤ 1000000 := by rw [hp.length_eq]; exact hn
    have HH := Lib.hid hh
    have HP := Lib.hid (And.intro hp (And.intro hu ht))
    have mL := meth_less hh
    simp only [Try.types_size, Nat.reduceAdd] at mL
    clear hh hp hu ht H HJ
    by_cases h0 : j = 0
    · subst h0
      go_wp2
      go_end0
      exact ⟨rfl, l', HH.out, HP.out.1, HP.out.2.1.done (.inl rfl), HP.out.2.2⟩
    · have hp0 : par j < j := par_lt (by omega)
      have C := Lib.hid (things_less (cap := cap) HH.out hjl (show par j < l'.length by omega))
      have e1 : (((j : Int) - 1).tdiv 2) = ((par j : Nat) : Int) := by
        unfold par
        rw [Int.tdiv_eq_ediv_of_nonneg (by omega)]
        omega
      obtain ⟨i, hi⟩ : ∃ i, i = par j := ⟨_, rfl⟩
      rw [← hi] at hp0 e1 C
      have HI := Lib.hid hi
      clear hi
      have hne : ¬ (i : Int) = (j : Int) := by omega
      obtain ⟨b, hb⟩ : ∃ b, b = pl (pat l' j) (pat l' i) := ⟨_, rfl⟩
      rw [← hb] at C
      have HBB := Lib.hid hb
      clear hb
      cases b with
      | false =>
        go_wp2_with fail
        refine C.out.mono ?_
        rintro _ w0 ⟨rfl, q, hw0⟩
        subst w0
        have HE := Lib.hid (show IsHeap l' from HP.out.2.1.done (.inr (by rw [← HI.out]; exact HBB.out.symm)))
        go_wp2
        go_end0
        exact ⟨rfl, l', HH.out.drewN q, HP.out.1, HE.out, HP.out.2.2.drewN q⟩
      | true =>
        go_wp2_with fail
        refine C.out.mono ?_
        rintro _ w0 ⟨rfl, q, hw0⟩
        subst w0
        have D := Lib.hid (things_swap (HH.out.drewN q) (i := i) (j := j) (by omega) hjl)
        have mS := meth_swap (HH.out.drewN q)
        simp only [Try.types_size, Nat.reduceAdd] at mS
        go_wp2_with fail
        refine D.out.mono ?_
        rintro _ w3 ⟨rfl, hh3, ht3⟩
        have HEND := Lib.hid (And.intro hh3 (HP.out.2.2.drewN q |>.trans ht3))
        clear hh3 ht3
        go_wp2
        go_roundw
        case rel => exact ⟨i, swapP l' i j, rfl, HEND.out.1, (swap_perm (by omega) hjl).trans HP.out.1, by
          have h := HP.out.2.1.step (by omega) (by rw [← HI.out]; exact HBB.out.symm)
          rw [← HI.out] at h; exact h, HEND.out.2⟩
        case measure => simp [intOf]; omega
end
end Go.Proofs.Ytjncmfoommlldaa
