/- Layer 20: the library's way down a heap. Printed by gen_heapdown.py. · Layer 20: the library's Push and Pop; come and least. -/
import Derived.Test.YtjncmfoommlldaaHeapUp
namespace Go.Proofs.Ytjncmfoommlldaa
open Go.RowKit Go.Sort Go.Shelf

theorem par_child {k i : Nat} (h0 : 0 < k) (h : par k = i) : k = 2 * i + 1 ∨ k = 2 * i + 2 := by unfold par at h; omega
section
variable {w w' : World} {T S cap : Nat} {l : List Pr}
set_option maxHeartbeats 2000000 in
set_option maxRecDepth 100000 in
theorem heap_down (h : HAt w T S cap l) (i0 n : Nat) (hj : DownOk l n i0) (hi0 : i0 ≤ n) (hn : l.length ≤ 1000000) :
    Calls Try.prog 81 #[.iface 87 (.pointer (some ⟨T, 0, none⟩)), .int .i64 (i0 : Int), .int .i64 (n : Int)] w fun e w' => ∃ b, e = .returned (.bool b) ∧ ∃ l', HAt w' T S cap l' ∧ l'.Perm l ∧ HeapN l' n ∧ (∀ k, n ≤ k → pat l' k = pat l k) ∧ TurnsB T S w w' := by
  have H := Lib.hid h
  have HJ := Lib.hid hj
  have hnl := hj.most
  clear h hj
  go_enter Try.func81, Try.ntmps81
  go_wp2
  go_loopw [7, 8, 9, 10] (fun vi _ _ _ wr => ∃ (i : Nat) (l' : List Pr), vi = .int .i64 (i : Int) ∧ i ≤ n ∧ HAt wr T S cap l' ∧ l'.Perm l ∧ DownOk l' n i ∧ (∀ k, n ≤ k → pat l' k = pat l k) ∧ TurnsB T S w wr) (fun vi _ _ _ _ => n - (intOf vi).toNat)
  case atStart => exact ⟨i0, l, rfl, hi0, H.out, List.Perm.refl _, HJ.out, fun _ _ => rfl, TurnsB.refl _ _ _⟩
  case round =>
    obtain ⟨i, l', rfl, hin, hh, hp, hu, hk, ht⟩ := hrel
    have hll : l'.length ≤ 1000000 := by rw [hp.length_eq]; exact hn
    have hnl' : n ≤ l'.length := by rw [hp.length_eq]; exact hnl
    have HH := Lib.hid hh
    have HP := Lib.hid (And.intro hp (And.intro hu (And.intro hk ht)))
    have mL := meth_less hh
    simp only [Try.types_size, Nat.reduceAdd] at mL
    have hi1 : i ≤ 1000000 := by omega
    have hn1 : n ≤ 1000000 := by omega
    clear hh hp hu ht hk H HJ hn
    by_cases h1 : 2 * i + 1 < n
    · by_cases h2 : 2 * i + 2 < n
      · have C := Lib.hid (things_less (cap := cap) HH.out (i := 2 * i + 2) (j := 2 * i + 1) (by omega) (by omega))
        obtain ⟨b, hb⟩ : ∃ b, b = pl (pat l' (2 * i + 2)) (pat l' (2 * i + 1)) := ⟨_, rfl⟩
        rw [← hb] at C
        have HBB := Lib.hid hb
        clear hb
        obtain ⟨j1, hj1⟩ : ∃ j1, j1 = 2 * i + 1 := ⟨_, rfl⟩
        have e1 : 2 * (i : Int) + 1 = (j1 : Int) := by omega
        have C1 := C.out
        rw [show 2 * i + 2 = j1 + 1 by omega, ← hj1] at C1
        have CC := Lib.hid C1
        clear C C1
        have HJ1 := Lib.hid hj1
        have h3 : j1 < n := by omega
        have h4 : j1 + 1 < n := by omega
        have h5 : i < j1 := by omega
        clear hj1 h1 h2
        cases b with
        | true =>
          go_wp2_with fail
          refine CC.out.mono ?_
          rintro _ w0 ⟨rfl, q, hw0⟩
          subst w0
          have hlm : ∀ k, 0 < k → k < n → par k = i → pl (pat l' k) (pat l' (j1+1)) = false := fun k g0 g1 g2 => by
            have e := HJ1.out
            rcases par_child g0 g2 with e2 | e2
            · rw [e2, ← e]
              have hb := HBB.out
              rw [← e, show 2 * i + 2 = j1 + 1 by omega] at hb
              exact pl_flip hb.symm
            · rw [e2, show 2 * i + 2 = j1 + 1 by omega, pl_no]; omega
          have hpj : par (j1+1) = i := by unfold par; have := HJ1.out; omega
          have C2 := Lib.hid (things_less (cap := cap) (HH.out.drewN q) (i := j1+1) (j := i) (by omega) (by omega))
          obtain ⟨b2, hb2⟩ : ∃ b2, b2 = pl (pat l' (j1+1)) (pat l' i) := ⟨_, rfl⟩
          rw [← hb2] at C2
          obtain ⟨jj, hjj⟩ : ∃ jj, jj = j1+1 := ⟨_, rfl⟩
          rw [← hjj] at hlm hpj hb2 C2
          have hjn : jj < n := by omega
          have hij : i < jj := by omega
          have HLM := Lib.hid (And.intro hlm (And.intro hpj hb2))
          have mL2 := meth_less (HH.out.drewN q)
          simp only [Try.types_size, Nat.reduceAdd] at mL2
          clear hlm hpj hb2
          have HJJ := Lib.hid hjj
          clear hjj
          have e3 : (j1 : Int) + 1 = (jj : Int) := by have := HJJ.out; omega
          cases b2 with
          | false =>
            go_wp2_with fail
            refine C2.out.mono ?_
            rintro _ w1 ⟨rfl, q2, hw1⟩
            subst w1
            have hd : HeapN l' n := HP.out.2.1.done fun k g0 g1 g2 => pl_trans (HLM.out.1 k g0 g1 g2) HLM.out.2.2.symm
            have HD := Lib.hid hd
            clear hd
            go_wp2
            go_ret
            exact ⟨_, rfl, l', HH.out.drewN (q + q2), HP.out.1, HD.out, HP.out.2.2.1, HP.out.2.2.2.drewN (q + q2)⟩
          | true =>
            go_wp2_with fail
            refine C2.out.mono ?_
            rintro _ w1 ⟨rfl, q2, hw1⟩
            subst w1
            have D := Lib.hid (things_swap (HH.out.drewN (q + q2)) (i := i) (j := jj) (by omega) (by omega))
            have mS := meth_swap (HH.out.drewN (q + q2))
            simp only [Try.types_size, Nat.reduceAdd] at mS
            go_wp2_with fail
            refine D.out.mono ?_
            rintro _ w3 ⟨rfl, hh3, ht3⟩
            have HEND := Lib.hid (And.intro hh3 ((HP.out.2.2.2.drewN (q + q2)).trans ht3))
            clear hh3 ht3
            go_wp2
            go_roundw
            case rel => exact ⟨jj, swapP l' i jj, rfl, by omega, HEND.out.1, (swap_perm (by omega) (by omega)).trans HP.out.1, HP.out.2.1.step (by omega) hjn HLM.out.2.1 HLM.out.1 HLM.out.2.2.symm, fun k hk => by rw [pat_swap (by omega) (by omega), if_neg (by omega), if_neg (by omega)]; exact HP.out.2.2.1 k hk, HEND.out.2⟩
            case measure => simp [intOf]; omega
        | false =>
          go_wp2_with fail
          refine CC.out.mono ?_
          rintro _ w0 ⟨rfl, q, hw0⟩
          subst w0
          have hlm : ∀ k, 0 < k → k < n → par k = i → pl (pat l' k) (pat l' (j1)) = false := fun k g0 g1 g2 => by
            have e := HJ1.out
            rcases par_child g0 g2 with e2 | e2
            · rw [e2, ← e, pl_no]; omega
            · have hb := HBB.out
              rw [← e, show 2 * i + 2 = j1 + 1 by omega] at hb
              rw [e2, show 2 * i + 2 = j1 + 1 by omega]
              exact hb.symm
          have hpj : par (j1) = i := by unfold par; have := HJ1.out; omega
          have C2 := Lib.hid (things_less (cap := cap) (HH.out.drewN q) (i := j1) (j := i) (by omega) (by omega))
          obtain ⟨b2, hb2⟩ : ∃ b2, b2 = pl (pat l' (j1)) (pat l' i) := ⟨_, rfl⟩
          rw [← hb2] at C2
          obtain ⟨jj, hjj⟩ : ∃ jj, jj = j1 := ⟨_, rfl⟩
          rw [← hjj] at hlm hpj hb2 C2
          have hjn : jj < n := by omega
          have hij : i < jj := by omega
          have HLM := Lib.hid (And.intro hlm (And.intro hpj hb2))
          have mL2 := meth_less (HH.out.drewN q)
          simp only [Try.types_size, Nat.reduceAdd] at mL2
          clear hlm hpj hb2
          have HJJ := Lib.hid hjj
          clear hjj
          have hx : jj = j1 := HJJ.out
          clear HJJ
          subst hx
          cases b2 with
          | false =>
            go_wp2_with fail
            refine C2.out.mono ?_
            rintro _ w1 ⟨rfl, q2, hw1⟩
            subst w1
            have hd : HeapN l' n := HP.out.2.1.done fun k g0 g1 g2 => pl_trans (HLM.out.1 k g0 g1 g2) HLM.out.2.2.symm
            have HD := Lib.hid hd
            clear hd
            go_wp2
            go_ret
            exact ⟨_, rfl, l', HH.out.drewN (q + q2), HP.out.1, HD.out, HP.out.2.2.1, HP.out.2.2.2.drewN (q + q2)⟩
          | true =>
            go_wp2_with fail
            refine C2.out.mono ?_
            rintro _ w1 ⟨rfl, q2, hw1⟩
            subst w1
            have D := Lib.hid (things_swap (HH.out.drewN (q + q2)) (i := i) (j := jj) (by omega) (by omega))
            have mS := meth_swap (HH.out.drewN (q + q2))
            simp only [Try.types_size, Nat.reduceAdd] at mS
            go_wp2_with fail
            refine D.out.mono ?_
            rintro _ w3 ⟨rfl, hh3, ht3⟩
            have HEND := Lib.hid (And.intro hh3 ((HP.out.2.2.2.drewN (q + q2)).trans ht3))
            clear hh3 ht3
            go_wp2
            go_roundw
            case rel => exact ⟨jj, swapP l' i jj, rfl, by omega, HEND.out.1, (swap_perm (by omega) (by omega)).trans HP.out.1, HP.out.2.1.step (by omega) hjn HLM.out.2.1 HLM.out.1 HLM.out.2.2.symm, fun k hk => by rw [pat_swap (by omega) (by omega), if_neg (by omega), if_neg (by omega)]; exact HP.out.2.2.1 k hk, HEND.out.2⟩
            case measure => simp [intOf]; omega
      · obtain ⟨j1, hj1⟩ : ∃ j1, j1 = 2 * i + 1 := ⟨_, rfl⟩
        have e1 : 2 * (i : Int) + 1 = (j1 : Int) := by omega
        have HJ1 := Lib.hid hj1
        have h3 : j1 < n := by omega
        have h4 : ¬ j1 + 1 < n := by omega
        have h5 : i < j1 := by omega
        clear hj1 h1 h2
        have hlm : ∀ k, 0 < k → k < n → par k = i → pl (pat l' k) (pat l' (j1)) = false := fun k g0 g1 g2 => by
          have e := HJ1.out
          rcases par_child g0 g2 with e2 | e2
          · rw [e2, ← e, pl_no]; omega
          · omega
        have hpj : par (j1) = i := by unfold par; have := HJ1.out; omega
        have C2 := Lib.hid (things_less (cap := cap) HH.out (i := j1) (j := i) (by omega) (by omega))
        obtain ⟨b2, hb2⟩ : ∃ b2, b2 = pl (pat l' (j1)) (pat l' i) := ⟨_, rfl⟩
        rw [← hb2] at C2
        obtain ⟨jj, hjj⟩ : ∃ jj, jj = j1 := ⟨_, rfl⟩
        rw [← hjj] at hlm hpj hb2 C2
        have hjn : jj < n := by omega
        have hij : i < jj := by omega
        have HLM := Lib.hid (And.intro hlm (And.intro hpj hb2))
        clear hlm hpj hb2
        have HJJ := Lib.hid hjj
        clear hjj
        have hx : jj = j1 := HJJ.out
        clear HJJ
        subst hx
        cases b2 with
        | false =>
          go_wp2_with fail
          refine C2.out.mono ?_
          rintro _ w1 ⟨rfl, q2, hw1⟩
          subst w1
          have hd : HeapN l' n := HP.out.2.1.done fun k g0 g1 g2 => pl_trans (HLM.out.1 k g0 g1 g2) HLM.out.2.2.symm
          have HD := Lib.hid hd
          clear hd
          go_wp2
          go_ret
          exact ⟨_, rfl, l', HH.out.drewN q2, HP.out.1, HD.out, HP.out.2.2.1, HP.out.2.2.2.drewN q2⟩
        | true =>
          go_wp2_with fail
          refine C2.out.mono ?_
          rintro _ w1 ⟨rfl, q2, hw1⟩
          subst w1
          have D := Lib.hid (things_swap (HH.out.drewN q2) (i := i) (j := jj) (by omega) (by omega))
          have mS := meth_swap (HH.out.drewN q2)
          simp only [Try.types_size, Nat.reduceAdd] at mS
          go_wp2_with fail
          refine D.out.mono ?_
          rintro _ w3 ⟨rfl, hh3, ht3⟩
          have HEND := Lib.hid (And.intro hh3 ((HP.out.2.2.2.drewN q2).trans ht3))
          clear hh3 ht3
          go_wp2
          go_roundw
          case rel => exact ⟨jj, swapP l' i jj, rfl, by omega, HEND.out.1, (swap_perm (by omega) (by omega)).trans HP.out.1, HP.out.2.1.step (by omega) hjn HLM.out.2.1 HLM.out.1 HLM.out.2.2.symm, fun k hk => by rw [pat_swap (by omega) (by omega), if_neg (by omega), if_neg (by omega)]; exact HP.out.2.2.1 k hk, HEND.out.2⟩
          case measure => simp [intOf]; omega
    · have hd : HeapN l' n := HP.out.2.1.done fun k h0 hkn hk => by
        rcases par_child h0 hk with e | e <;> omega
      have HD := Lib.hid hd
      clear hd
      have e1 : (n : Int) ≤ 2 * (i : Int) + 1 := by omega
      go_wp2
      go_ret
      exact ⟨_, rfl, l', HH.out, HP.out.1, HD.out, HP.out.2.2.1, HP.out.2.2.2⟩
end
end Go.Proofs.Ytjncmfoommlldaa
namespace Go.Proofs.Ytjncmfoommlldaa
open Go.RowKit Go.Sort Go.Shelf

theorem TurnsB.next {T S S' : Nat} {w w' w'' : World} (h : TurnsB T S w w') (hs : S' = S ∨ w.heap.size ≤ S') (k : TurnsB T S' w' w'') : TurnsB T S w w'' :=
  ⟨k.os.trans h.os, k.tape.trans h.tape, k.output.trans h.output, Nat.le_trans h.size k.size, fun i hi h1 h2 => (k.block i (Nat.lt_of_lt_of_le hi h.size) h1 (by rcases hs with e | e <;> omega)).trans (h.block i hi h1 h2)⟩
/-- A thing as a value. -/
def thingV (x : Pr) : Value := .agg #[.int .i64 (x.1 : Int), .int .i64 (x.2 : Int)]
section
variable {w w' : World} {T S cap : Nat} {l : List Pr}
theorem HAt.setOther (h : HAt w T S cap l) {g i : Nat} {v : Value} (h1 : T ≠ g) (h2 : S ≠ g) : HAt (w.setCell ⟨g, i, none⟩ v) T S cap l := by
  obtain ⟨cur, h3, h4⟩ := h.row
  exact ⟨h.box.setOther _ _ h1, ⟨cur, h3.setOther _ _ h2, h4⟩, h.room, h.most⟩
/-- What comes of a push. -/
def Pushed (w : World) (T S : Nat) (l : List Pr) (x : Pr) (w' : World) : Prop := ∃ S' cap' l', HAt w' T S' cap' l' ∧ l'.Perm (l ++ [x]) ∧ IsHeap l' ∧ TurnsB T S w w' ∧ (S' = S ∨ w.heap.size ≤ S')
/-- What comes of a pop. -/
def Popped (w : World) (T S cap : Nat) (l : List Pr) (n : Nat) (w' : World) : Prop := ∃ m, m.Perm l ∧ pat m n = pat l 0 ∧ HeapN m n ∧ HAt w' T S cap (m.take n) ∧ TurnsB T S w w'
set_option maxHeartbeats 1000000 in
set_option maxRecDepth 100000 in
theorem heap_push (h : HAt w T S cap l) (hh : IsHeap l) (hn : l.length ≤ 100000) (x : Pr) :
    Calls Try.prog 73 #[.iface 87 (.pointer (some ⟨T, 0, none⟩)), .iface 92 (thingV x)] w fun e w' => e = .returned (.tuple #[]) ∧ Pushed w T S l x w' := by
  have C := Lib.hid (things_push h (by omega) x)
  have mP := meth_push T w
  simp only [Try.types_size, Nat.reduceAdd] at mP
  have HI := Lib.hid hh
  obtain ⟨v, hv⟩ : ∃ v, v = thingV x := ⟨_, rfl⟩
  rw [← hv]
  have HV := Lib.hid hv
  clear h hh hv
  go_enter Try.func73, Try.ntmps73
  go_wp2_with fail
  rw [HV.out]
  refine C.out.mono ?_
  rintro _ w1 ⟨rfl, S1, cap1, h1, ht1, hs1⟩
  have hl1 : (l ++ [x]).length = l.length + 1 := by simp
  have HH1 := Lib.hid h1
  have HT1 := Lib.hid (And.intro ht1 hs1)
  have mL := meth_len h1
  simp only [Try.types_size, Nat.reduceAdd] at mL
  have D := Lib.hid (things_len (some ⟨S1, 0, none⟩) (l ++ [x]).length cap1 w1)
  rw [hl1] at mL D
  have U := Lib.hid (heap_up h1 l.length (push_up HI.out x) (by omega))
  obtain ⟨n, hnn⟩ : ∃ n, n = l.length := ⟨_, rfl⟩
  rw [← hnn] at mL D U hn
  clear h1 ht1 hs1 hl1 C hnn
  go_wp2_with fail
  refine D.out.mono ?_
  rintro _ w0 ⟨rfl, hw0⟩
  subst w0
  go_wp2_with fail
  refine U.out.mono ?_
  rintro _ w2 ⟨rfl, l2, h2, hp2, hi2, ht2⟩
  have HEND := Lib.hid (show Pushed w T S l x w2 from ⟨S1, cap1, l2, h2, hp2, hi2, HT1.out.1.next HT1.out.2 ht2, HT1.out.2⟩)
  clear h2 hp2 hi2 ht2
  go_wp2
  go_end0
  exact ⟨rfl, HEND.out⟩
set_option maxHeartbeats 1000000 in
set_option maxRecDepth 100000 in
theorem heap_pop (h : HAt w T S cap l) (hh : IsHeap l) (n : Nat) (hn : l.length = n + 1) (hn2 : n ≤ 100000) :
    Calls Try.prog 74 #[.iface 87 (.pointer (some ⟨T, 0, none⟩))] w fun e w' => e = .returned (.iface 92 (thingV (pat l 0))) ∧ Popped w T S cap l n w' := by
  have C := Lib.hid (things_len (some ⟨S, 0, none⟩) l.length cap w)
  have mL := meth_len h
  have mS := meth_swap h
  simp only [Try.types_size, Nat.reduceAdd] at mL mS
  have D := Lib.hid (things_swap h (i := 0) (j := n) (by omega) (by omega))
  have HD := Lib.hid (pop_down hh hn)
  have H := Lib.hid (And.intro h (And.intro hh hn))
  rw [hn] at mL mS C D
  clear h hh hn
  go_enter Try.func74, Try.ntmps74
  go_wp2_with fail
  refine C.out.mono ?_
  rintro _ w0 ⟨rfl, hw0⟩
  subst w0
  have DD := D.out
  clear C D
  have D := Lib.hid DD
  clear DD
  go_wp2_with fail
  refine D.out.mono ?_
  rintro _ w1 ⟨rfl, h1, ht1⟩
  have E := Lib.hid (heap_down h1 0 n HD.out (Nat.zero_le _) (by rw [swapP_len, H.out.2.2]; omega))
  have HT1 := Lib.hid ht1
  clear h1 ht1 mL mS
  go_wp2_with fail
  refine E.out.mono ?_
  rintro _ w2 ⟨b, rfl, m, h2, hp2, hn3, hk, ht2⟩
  have hml : m.length = n + 1 := by rw [hp2.length_eq, swapP_len, H.out.2.2]
  have F := Lib.hid (things_pop h2 n hml (by omega))
  have mP := meth_pop T w2
  simp only [Try.types_size, Nat.reduceAdd] at mP
  have h0 : pat m n = pat (l) 0 := by
    rw [hk n (Nat.le_refl _), pat_swap (by have := H.out.2.2; omega) (by have := H.out.2.2; omega), if_pos rfl]
  rw [h0] at F
  have HR := Lib.hid (And.intro (hp2.trans (swap_perm (l := l) (i := 0) (j := n) (by have := H.out.2.2; omega) (by have := H.out.2.2; omega))) (And.intro h0 (And.intro hn3 (HT1.out.trans ht2))))
  obtain ⟨v, hv⟩ : ∃ v, v = thingV (pat l 0) := ⟨_, rfl⟩
  have HV := Lib.hid hv
  clear h2 hp2 hn3 hk ht2 h0 hml hv E
  go_wp2_with fail
  refine F.out.mono ?_
  rintro _ w3 ⟨he3, h3, ht3⟩
  subst he3
  have HEND := Lib.hid (show Popped w T S cap l n w3 from ⟨m, HR.out.1, HR.out.2.1, HR.out.2.2.1, h3, HR.out.2.2.2.trans ht3⟩)
  clear h3 ht3
  go_wp2
  go_ret
  exact ⟨rfl, HEND.out⟩
theorem size_thing : (Try.prog.info? 92).map (·.size) = some 2 := by kernel_rfl
set_option maxHeartbeats 1000000 in
set_option maxRecDepth 100000 in
theorem lens_come (h : HAt w T S cap l) (hh : IsHeap l) (hn : l.length ≤ 100000) (x : Pr) :
    Calls Try.prog 60 #[.pointer (some ⟨T, 0, none⟩), thingV x] w fun e w' => e = .returned (.tuple #[]) ∧ Pushed w T S l x w' := by
  have C := Lib.hid (fun W (hb : Below w.heap.size w W) => heap_push (h.grow hb) hh hn x)
  have hT := h.box.lt
  have hS : S < w.heap.size := by obtain ⟨cur, h1, -⟩ := h.row; exact h1.lt
  obtain ⟨x0, x1⟩ := x
  show Calls Try.prog 60 #[.pointer (some ⟨T, 0, none⟩), .agg #[.int .i64 (x0 : Int), .int .i64 (x1 : Int)]] w _
  clear h hh
  go_enter Try.func60, Try.ntmps60
  go_wp2_with fail
  refine (C.out _ ((Below.refl _ _).alloc (Nat.le_refl _) _)).mono ?_
  rintro _ w1 ⟨rfl, S1, cap1, l1, h1, hp1, hi1, ht1, hs1⟩
  have HEND := Lib.hid (show Pushed w T S l (x0, x1) w1 from ⟨S1, cap1, l1, h1, hp1, hi1, ((TurnsB.refl T S w).allocO _).trans ht1, hs1.imp id (fun e => by
    have e2 := Nat.le_trans (Nat.le_of_lt (by simp : w.heap.size < (w.alloc (.cells #[.int .i64 (x0 : Int), .int .i64 (x1 : Int)] 92)).heap.size)) e
    exact e2)⟩)
  clear h1 hp1 hi1 ht1 hs1
  go_wp2
  go_end0
  exact ⟨rfl, HEND.out⟩
set_option maxHeartbeats 1000000 in
set_option maxRecDepth 100000 in
theorem lens_least (h : HAt w T S cap l) (hh : IsHeap l) (n : Nat) (hn : l.length = n + 1) (hn2 : n ≤ 100000) :
    Calls Try.prog 62 #[.pointer (some ⟨T, 0, none⟩)] w fun e w' => e = .returned (thingV (pat l 0)) ∧ Popped w T S cap l n w' := by
  have hT := h.box.lt
  have hS : S < w.heap.size := by obtain ⟨cur, h1, -⟩ := h.row; exact h1.lt
  have C := Lib.hid (fun W (hb : Below w.heap.size w W) => heap_pop (h.grow hb) hh n hn hn2)
  obtain ⟨x, hx⟩ : ∃ x, x = pat l 0 := ⟨_, rfl⟩
  rw [← hx] at C ⊢
  obtain ⟨x0, x1⟩ := x
  have ha := asserts_one (.agg #[.int .i64 (x0 : Int), .int .i64 (x1 : Int)])
  have HP := Lib.hid h
  clear h hh hn hx
  go_enter Try.func62, Try.ntmps62
  go_wp2_with fail
  refine (C.out _ ((Below.refl _ _).alloc (Nat.le_refl _) _)).mono ?_
  rintro _ w1 ⟨he, m, hp, h0, hn3, h1, ht1⟩
  subst he
  have hB : Blk w1 w.heap.size 92 [.int .i64 0, .int .i64 0] := ht1.blk (heap_alloc_new w _) (by omega) (by omega)
  have hc0 := hB.cell 0
  have hc1 := hB.cell 1
  have hf0 := hB.frozen 0
  have hf1 := hB.frozen 1
  simp only [List.getElem?_cons_zero, List.getElem?_cons_succ] at hc0 hc1
  have HB := Lib.hid hB
  have HEND := Lib.hid (And.intro hp (And.intro h0 (And.intro hn3 (And.intro h1 (((TurnsB.refl T S w).allocO _).trans ht1)))))
  clear hB hp h0 hn3 h1 ht1 C
  unfold thingV
  go_wp2
  have hS2 := hS
  have h2 : Blk ((w1.setCell ⟨w.heap.size, 0, none⟩ (.int .i64 (x0 : Int))).setCell ⟨w.heap.size, 1, none⟩ (.int .i64 (x1 : Int))) w.heap.size 92 [.int .i64 (x0 : Int), .int .i64 (x1 : Int)] := (HB.out.set_ 0 _).set_ 1 _
  refine bodyPost_ret (v := thingV (x0, x1)) (results_cell_row Try.results62 _ _ w.heap.size 92 _ (0, 0) _ rfl h2 Try.underlying92 rfl size_thing) rfl ⟨rfl, m, HEND.out.1, HEND.out.2.1, HEND.out.2.2.1, (HEND.out.2.2.2.1.setOther (by omega) (by omega)).setOther (by omega) (by omega), ?_⟩
  have ht := HEND.out.2.2.2.2
  exact ⟨ht.os, ht.tape, ht.output, by simpa [World.setCell] using ht.size, fun i hi h1 h2 => by
    rw [Below.heap_setCell _ _ _ i (by show i ≠ w.heap.size; omega), Below.heap_setCell _ _ _ i (by show i ≠ w.heap.size; omega)]
    exact ht.block i hi h1 h2⟩
end
end Go.Proofs.Ytjncmfoommlldaa
