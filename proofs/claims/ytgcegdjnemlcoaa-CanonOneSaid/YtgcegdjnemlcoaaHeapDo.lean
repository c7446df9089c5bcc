/- Layer 20: the library's Push and Pop; come and least. -/
import Derived.Test.YtgcegdjnemlcoaaHeapDown
namespace Go.Proofs.Ytgcegdjnemlcoaa
open Go.RowKit Go.Sort Go.Shelf

theorem TurnsB.next {T S S' : Nat} {w w' w'' : World} (h : TurnsB T S w w') (hs : S' = S ∨ w.heap.size ≤ S') (k : TurnsB T S' w' w'') : TurnsB T S w w'' :=
  ⟨k.os.trans h.os, k.tape.trans h.tape, k.output.trans h.output, Nat.le_trans h.size k.size, fun i hi h1 h2 => (k.block i (Nat.lt_of_lt_of_le hi h.size) h1 (by rcases hs with e | e <;> omega)).trans (h.block i hi h1 h2)⟩
/-- A thing as a value. -/
def thingV (x : Pr) : Value := .agg #[.int .i64 (x.1 : Int), .int .i64 (x.2 : Int)]
section
variable {w w' : World} {T S cap : Nat} {l : List Pr}
theorem HAt.setOther (h : HAt w T S cap l) {g i : Nat} {v : Value} (h1 : T ≠ g) (h2 : S ≠ g) : HAt (w.setCell ⟨g, i, none⟩ v) T S cap l := by
  obtain ⟨cur, h3, h4⟩ := h.row
  exact ⟨h.box.setOther _ _ h1, ⟨cur, h3.setOther _ _ h2, h4⟩, h.room, h.most⟩
/-- What comes of a push. -/
def Pushed (w : World) (T S : Nat) (l : List Pr) (x : Pr) (w' : World) : Prop := ∃ S' cap' l', HAt w' T S' cap' l' ∧ l'.Perm (l ++ [x]) ∧ IsHeap l' ∧ TurnsB T S w w' ∧ (S' = S ∨ w.heap.size ≤ S')
/-- What comes of a pop. -/
def Popped (w : World) (T S cap : Nat) (l : List Pr) (n : Nat) (w' : World) : Prop := ∃ m, m.Perm l ∧ pat m n = pat l 0 ∧ HeapN m n ∧ HAt w' T S cap (m.take n) ∧ TurnsB T S w w'
set_option maxHeartbeats 1000000 in
set_option maxRecDepth 100000 in
theorem heap_push (h : HAt w T S cap l) (hh : IsHeap l) (hn : l.length ≤ 100000) (x : Pr) :
    Calls Try.prog 55 #[.iface 68 (.pointer (some ⟨T, 0, none⟩)), .iface 74 (thingV x)] w fun e w' => e = .returned (.tuple #[]) ∧ Pushed w T S l x w' := by
  have C := Lib.hid (things_push h (by omega) x)
  have mP := meth_push T w
  simp only [Try.types_size, Nat.reduceAdd] at mP
  have HI := Lib.hid hh
  obtain ⟨v, hv⟩ : ∃ v, v = thingV x := ⟨_, rfl⟩
  rw [← hv]
  have HV := Lib.hid hv
  clear h hh hv
  go_enter Try.func55, Try.ntmps55
  go_wp2_with fail
  rw [HV.out]
  refine C.out.mono ?_
  rintro _ w1 ⟨rfl, S1, cap1, h1, ht1, hs1⟩
  have hl1 : (l ++ [x]).length = l.length + 1 := by simp
  have HH1 := Lib.hid h1
  have HT1 := Lib.hid (And.intro ht1 hs1)
  have mL := meth_len h1
  simp only [Try.types_size, Nat.reduceAdd] at mL
  have D := Lib.hid (things_len (some ⟨S1, 0, none⟩) (l ++ [x]).length cap1 w1)
  rw [hl1] at mL D
  have U := Lib.hid (heap_up h1 l.length (push_up HI.out x) (by omega))
  obtain ⟨n, hnn⟩ : ∃ n, n = l.length := ⟨_, rfl⟩
  rw [← hnn] at mL D U hn
  clear h1 ht1 hs1 hl1 C hnn
  go_wp2_with fail
  refine D.out.mono ?_
  rintro _ w0 ⟨rfl, hw0⟩
  subst w0
  go_wp2_with fail
  refine U.out.mono ?_
  rintro _ w2 ⟨rfl, l2, h2, hp2, hi2, ht2⟩
  have HEND := Lib.hid (show Pushed w T S l x w2 from ⟨S1, cap1, l2, h2, hp2, hi2, HT1.out.1.next HT1.out.2 ht2, HT1.out.2⟩)
  clear h2 hp2 hi2 ht2
  go_wp2
  go_end0
  exact ⟨rfl, HEND.out⟩
set_option maxHeartbeats 1000000 in
set_option maxRecDepth 100000 in
theorem heap_pop (h : HAt w T S cap l) (hh : IsHeap l) (n : Nat) (hn : l.length = n + 1) (hn2 : n ≤ 100000) :
    Calls Try.prog 56 #[.iface 68 (.pointer (some ⟨T, 0, none⟩))] w fun e w' => e = .returned (.iface 74 (thingV (pat l 0))) ∧ Popped w T S cap l n w' := by
  have C := Lib.hid (things_len (some ⟨S, 0, none⟩) l.length cap w)
  have mL := meth_len h
  have mS := meth_swap h
  simp only [Try.types_size, Nat.reduceAdd] at mL mS
  have D := Lib.hid (things_swap h (i := 0) (j := n) (by omega) (by omega))
  have HD := Lib.hid (pop_down hh hn)
  have H := Lib.hid (And.intro h (And.intro hh hn))
  rw [hn] at mL mS C D
  clear h hh hn
  go_enter Try.func56, Try.ntmps56
  go_wp2_with fail
  refine C.out.mono ?_
  rintro _ w0 ⟨rfl, hw0⟩
  subst w0
  have DD := D.out
  clear C D
  have D := Lib.hid DD
  clear DD
  go_wp2_with fail
  refine D.out.mono ?_
  rintro _ w1 ⟨rfl, h1, ht1⟩
  have E := Lib.hid (heap_down h1 0 n HD.out (Nat.zero_le _) (by rw [swapP_len, H.out.2.2]; omega))
  have HT1 := Lib.hid ht1
  clear h1 ht1 mL mS
  go_wp2_with fail
  refine E.out.mono ?_
  rintro _ w2 ⟨b, rfl, m, h2, hp2, hn3, hk, ht2⟩
  have hml : m.length = n + 1 := by rw [hp2.length_eq, swapP_len, H.out.2.2]
  have F := Lib.hid (things_pop h2 n hml (by omega))
  have mP := meth_pop T w2
  simp only [Try.types_size, Nat.reduceAdd] at mP
  have h0 : pat m n = pat (l) 0 := by
    rw [hk n (Nat.le_refl _), pat_swap (by have := H.out.2.2; omega) (by have := H.out.2.2; omega), if_pos rfl]
  rw [h0] at F
  have HR := Lib.hid (And.intro (hp2.trans (swap_perm (l := l) (i := 0) (j := n) (by have := H.out.2.2; omega) (by have := H.out.2.2; omega))) (And.intro h0 (And.intro hn3 (HT1.out.trans ht2))))
  obtain ⟨v, hv⟩ : ∃ v, v = thingV (pat l 0) := ⟨_, rfl⟩
  have HV := Lib.hid hv
  clear h2 hp2 hn3 hk ht2 h0 hml hv E
  go_wp2_with fail
  refine F.out.mono ?_
  rintro _ w3 ⟨he3, h3, ht3⟩
  subst he3
  have HEND := Lib.hid (show Popped w T S cap l n w3 from ⟨m, HR.out.1, HR.out.2.1, HR.out.2.2.1, h3, HR.out.2.2.2.trans ht3⟩)
  clear h3 ht3
  go_wp2
  go_ret
  exact ⟨rfl, HEND.out⟩
theorem size_thing : (Try.prog.info? 74).map (·.size) = some 2 := by kernel_rfl
set_option maxHeartbeats 1000000 in
set_option maxRecDepth 100000 in
theorem lens_come (h : HAt w T S cap l) (hh : IsHeap l) (hn : l.length ≤ 100000) (x : Pr) :
    Calls Try.prog 42 #[.pointer (some ⟨T, 0, none⟩), thingV x] w fun e w' => e = .returned (.tuple #[]) ∧ Pushed w T S l x w' := by
  have C := Lib.hid (fun W (hb : Below w.heap.size w W) => heap_push (h.grow hb) hh hn x)
  have hT := h.box.lt
  have hS : S < w.heap.size := by obtain ⟨cur, h1, -⟩ := h.row; exact h1.lt
  obtain ⟨x0, x1⟩ := x
  show Calls Try.prog 42 #[.pointer (some ⟨T, 0, none⟩), .agg #[.int .i64 (x0 : Int), .int .i64 (x1 : Int)]] w _
  clear h hh
  go_enter Try.func42, Try.ntmps42
  go_wp2_with fail
  refine (C.out _ ((Below.refl _ _).alloc (Nat.le_refl _) _)).mono ?_
  rintro _ w1 ⟨rfl, S1, cap1, l1, h1, hp1, hi1, ht1, hs1⟩
  have HEND := Lib.hid (show Pushed w T S l (x0, x1) w1 from ⟨S1, cap1, l1, h1, hp1, hi1, ((TurnsB.refl T S w).allocO _).trans ht1, hs1.imp id (fun e => by
    have e2 := Nat.le_trans (Nat.le_of_lt (by simp : w.heap.size < (w.alloc (.cells #[.int .i64 (x0 : Int), .int .i64 (x1 : Int)] 74)).heap.size)) e
    exact e2)⟩)
  clear h1 hp1 hi1 ht1 hs1
  go_wp2
  go_end0
  exact ⟨rfl, HEND.out⟩
set_option maxHeartbeats 1000000 in
set_option maxRecDepth 100000 in
theorem lens_least (h : HAt w T S cap l) (hh : IsHeap l) (n : Nat) (hn : l.length = n + 1) (hn2 : n ≤ 100000) :
    Calls Try.prog 44 #[.pointer (some ⟨T, 0, none⟩)] w fun e w' => e = .returned (thingV (pat l 0)) ∧ Popped w T S cap l n w' := by
  have hT := h.box.lt
  have hS : S < w.heap.size := by obtain ⟨cur, h1, -⟩ := h.row; exact h1.lt
  have C := Lib.hid (fun W (hb : Below w.heap.size w W) => heap_pop (h.grow hb) hh n hn hn2)
  obtain ⟨x, hx⟩ : ∃ x, x = pat l 0 := ⟨_, rfl⟩
  rw [← hx] at C ⊢
  obtain ⟨x0, x1⟩ := x
  have ha := asserts_one (.agg #[.int .i64 (x0 : Int), .int .i64 (x1 : Int)])
  have HP := Lib.hid h
  clear h hh hn hx
  go_enter Try.func44, Try.ntmps44
  go_wp2_with fail
  refine (C.out _ ((Below.refl _ _).alloc (Nat.le_refl _) _)).mono ?_
  rintro _ w1 ⟨he, m, hp, h0, hn3, h1, ht1⟩
  subst he
  have hB : Blk w1 w.heap.size 74 [.int .i64 0, .int .i64 0] := ht1.blk (heap_alloc_new w _) (by omega) (by omega)
  have hc0 := hB.cell 0
  have hc1 := hB.cell 1
  have hf0 := hB.frozen 0
  have hf1 := hB.frozen 1
  simp only [List.getElem?_cons_zero, List.getElem?_cons_succ] at hc0 hc1
  have HB := Lib.hid hB
  have HEND := Lib.hid (And.intro hp (And.intro h0 (And.intro hn3 (And.intro h1 (((TurnsB.refl T S w).allocO _).trans ht1)))))
  clear hB hp h0 hn3 h1 ht1 C
  unfold thingV
  go_wp2
  have hS2 := hS
  have h2 : Blk ((w1.setCell ⟨w.heap.size, 0, none⟩ (.int .i64 (x0 : Int))).setCell ⟨w.heap.size, 1, none⟩ (.int .i64 (x1 : Int))) w.heap.size 74 [.int .i64 (x0 : Int), .int .i64 (x1 : Int)] := (HB.out.set_ 0 _).set_ 1 _
  refine bodyPost_ret (v := thingV (x0, x1)) (results_cell_row Try.results44 _ _ w.heap.size 74 _ (0, 0) _ rfl h2 Try.underlying74 rfl size_thing) rfl ⟨rfl, m, HEND.out.1, HEND.out.2.1, HEND.out.2.2.1, (HEND.out.2.2.2.1.setOther (by omega) (by omega)).setOther (by omega) (by omega), ?_⟩
  have ht := HEND.out.2.2.2.2
  exact ⟨ht.os, ht.tape, ht.output, by simpa [World.setCell] using ht.size, fun i hi h1 h2 => by
    rw [Below.heap_setCell _ _ _ i (by show i ≠ w.heap.size; omega), Below.heap_setCell _ _ _ i (by show i ≠ w.heap.size; omega)]
    exact ht.block i hi h1 h2⟩
end
end Go.Proofs.Ytgcegdjnemlcoaa
