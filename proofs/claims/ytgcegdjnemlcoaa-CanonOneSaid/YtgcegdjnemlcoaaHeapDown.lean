/- Layer 20: the library's way down a heap. Printed by gen_heapdown.py. -/
import Derived.Test.YtgcegdjnemlcoaaHeapUp
namespace Go.Proofs.Ytgcegdjnemlcoaa
open Go.RowKit Go.Sort Go.Shelf

theorem par_child {k i : Nat} (h0 : 0 < k) (h : par k = i) : k = 2 * i + 1 ∨ k = 2 * i + 2 := by unfold par at h; omega
section
variable {w w' : World} {T S cap : Nat} {l : List Pr}
set_option maxHeartbeats 2000000 in
set_option maxRecDepth 100000 in
theorem heap_down (h : HAt w T S cap l) (i0 n : Nat) (hj : DownOk l n i0) (hi0 : i0 ≤ n) (hn : l.length ≤ 1000000) :
    Calls Try.prog 63 #[.iface 68 (.pointer (some ⟨T, 0, none⟩)), .int .i64 (i0 : Int), .int .i64 (n : Int)] w fun e w' => ∃ b, e = .returned (.bool b) ∧ ∃ l', HAt w' T S cap l' ∧ l'.Perm l ∧ HeapN l' n ∧ (∀ k, n ≤ k → pat l' k = pat l k) ∧ TurnsB T S w w' := by
  have H := Lib.hid h
  have HJ := Lib.hid hj
  have hnl := hj.most
  clear h hj
  go_enter Try.func63, Try.ntmps63
  go_wp2
  go_loopw [7, 8, 9, 10] (fun vi _ _ _ wr => ∃ (i : Nat) (l' : List Pr), vi = .int .i64 (i : Int) ∧ i ≤ n ∧ HAt wr T S cap l' ∧ l'.Perm l ∧ DownOk l' n i ∧ (∀ k, n ≤ k → pat l' k = pat l k) ∧ TurnsB T S w wr) (fun vi _ _ _ _ => n - (intOf vi).toNat)
  case atStart => exact ⟨i0, l, rfl, hi0, H.out, List.Perm.refl _, HJ.out, fun _ _ => rfl, TurnsB.refl _ _ _⟩
  case round =>
    obtain ⟨i, l', rfl, hin, hh, hp, hu, hk, ht⟩ := hrel
    have hll : l'.length ≤ 1000000 := by rw [hp.length_eq]; exact hn
    have hnl' : n ≤ l'.length := by rw [hp.length_eq]; exact hnl
    have HH := Lib.hid hh
    have HP := Lib.hid (And.intro hp (And.intro hu (And.intro hk ht)))
    have mL := meth_less hh
    simp only [Try.types_size, Nat.reduceAdd] at mL
    have hi1 : i ≤ 1000000 := by omega
    have hn1 : n ≤ 1000000 := by omega
    clear hh hp hu ht hk H HJ hn
    by_cases h1 : 2 * i + 1 < n
    · by_cases h2 : 2 * i + 2 < n
      · have C := Lib.hid (things_less (cap := cap) HH.out (i := 2 * i + 2) (j := 2 * i + 1) (by omega) (by omega))
        obtain ⟨b, hb⟩ : ∃ b, b = pl (pat l' (2 * i + 2)) (pat l' (2 * i + 1)) := ⟨_, rfl⟩
        rw [← hb] at C
        have HBB := Lib.hid hb
        clear hb
        obtain ⟨j1, hj1⟩ : ∃ j1, j1 = 2 * i + 1 := ⟨_, rfl⟩
        have e1 : 2 * (i : Int) + 1 = (j1 : Int) := by omega
        have C1 := C.out
        rw [show 2 * i + 2 = j1 + 1 by omega, ← hj1] at C1
        have CC := Lib.hid C1
        clear C C1
        have HJ1 := Lib.hid hj1
        have h3 : j1 < n := by omega
        have h4 : j1 + 1 < n := by omega
        have h5 : i < j1 := by omega
        clear hj1 h1 h2
        cases b with
        | true =>
          go_wp2_with fail
          refine CC.out.mono ?_
          rintro _ w0 ⟨rfl, q, hw0⟩
          subst w0
          have hlm : ∀ k, 0 < k → k < n → par k = i → pl (pat l' k) (pat l' (j1+1)) = false := fun k g0 g1 g2 => by
            have e := HJ1.out
            rcases par_child g0 g2 with e2 | e2
            · rw [e2, ← e]
              have hb := HBB.out
              rw [← e, show 2 * i + 2 = j1 + 1 by omega] at hb
              exact pl_flip hb.symm
            · rw [e2, show 2 * i + 2 = j1 + 1 by omega, pl_no]; omega
          have hpj : par (j1+1) = i := by unfold par; have := HJ1.out; omega
          have C2 := Lib.hid (things_less (cap := cap) (HH.out.drewN q) (i := j1+1) (j := i) (by omega) (by omega))
          obtain ⟨b2, hb2⟩ : ∃ b2, b2 = pl (pat l' (j1+1)) (pat l' i) := ⟨_, rfl⟩
          rw [← hb2] at C2
          obtain ⟨jj, hjj⟩ : ∃ jj, jj = j1+1 := ⟨_, rfl⟩
          rw [← hjj] at hlm hpj hb2 C2
          have hjn : jj < n := by omega
          have hij : i < jj := by omega
          have HLM := Lib.hid (And.intro hlm (And.intro hpj hb2))
          have mL2 := meth_less (HH.out.drewN q)
          simp only [Try.types_size, Nat.reduceAdd] at mL2
          clear hlm hpj hb2
          have HJJ := Lib.hid hjj
          clear hjj
          have e3 : (j1 : Int) + 1 = (jj : Int) := by have := HJJ.out; omega
          cases b2 with
          | false =>
            go_wp2_with fail
            refine C2.out.mono ?_
            rintro _ w1 ⟨rfl, q2, hw1⟩
            subst w1
            have hd : HeapN l' n := HP.out.2.1.done fun k g0 g1 g2 => pl_trans (HLM.out.1 k g0 g1 g2) HLM.out.2.2.symm
            have HD := Lib.hid hd
            clear hd
            go_wp2
            go_ret
            exact ⟨_, rfl, l', HH.out.drewN (q + q2), HP.out.1, HD.out, HP.out.2.2.1, HP.out.2.2.2.drewN (q + q2)⟩
          | true =>
            go_wp2_with fail
            refine C2.out.mono ?_
            rintro _ w1 ⟨rfl, q2, hw1⟩
            subst w1
            have D := Lib.hid (things_swap (HH.out.drewN (q + q2)) (i := i) (j := jj) (by omega) (by omega))
            have mS := meth_swap (HH.out.drewN (q + q2))
            simp only [Try.types_size, Nat.reduceAdd] at mS
            go_wp2_with fail
            refine D.out.mono ?_
            rintro _ w3 ⟨rfl, hh3, ht3⟩
            have HEND := Lib.hid (And.intro hh3 ((HP.out.2.2.2.drewN (q + q2)).trans ht3))
            clear hh3 ht3
            go_wp2
            go_roundw
            case rel => exact ⟨jj, swapP l' i jj, rfl, by omega, HEND.out.1, (swap_perm (by omega) (by omega)).trans HP.out.1, HP.out.2.1.step (by omega) hjn HLM.out.2.1 HLM.out.1 HLM.out.2.2.symm, fun k hk => by rw [pat_swap (by omega) (by omega), if_neg (by omega), if_neg (by omega)]; exact HP.out.2.2.1 k hk, HEND.out.2⟩
            case measure => simp [intOf]; omega
        | false =>
          go_wp2_with fail
          refine CC.out.mono ?_
          rintro _ w0 ⟨rfl, q, hw0⟩
          subst w0
          have hlm : ∀ k, 0 < k → k < n → par k = i → pl (pat l' k) (pat l' (j1)) = false := fun k g0 g1 g2 => by
            have e := HJ1.out
            rcases par_child g0 g2 with e2 | e2
            · rw [e2, ← e, pl_no]; omega
            · have hb := HBB.out
              rw [← e, show 2 * i + 2 = j1 + 1 by omega] at hb
              rw [e2, show 2 * i + 2 = j1 + 1 by omega]
              exact hb.symm
          have hpj : par (j1) = i := by unfold par; have := HJ1.out; omega
          have C2 := Lib.hid (things_less (cap := cap) (HH.out.drewN q) (i := j1) (j := i) (by omega) (by omega))
          obtain ⟨b2, hb2⟩ : ∃ b2, b2 = pl (pat l' (j1)) (pat l' i) := ⟨_, rfl⟩
          rw [← hb2] at C2
          obtain ⟨jj, hjj⟩ : ∃ jj, jj = j1 := ⟨_, rfl⟩
          rw [← hjj] at hlm hpj hb2 C2
          have hjn : jj < n := by omega
          have hij : i < jj := by omega
          have HLM := Lib.hid (And.intro hlm (And.intro hpj hb2))
          have mL2 := meth_less (HH.out.drewN q)
          simp only [Try.types_size, Nat.reduceAdd] at mL2
          clear hlm hpj hb2
          have HJJ := Lib.hid hjj
          clear hjj
          have hx : jj = j1 := HJJ.out
          clear HJJ
          subst hx
          cases b2 with
          | false =>
            go_wp2_with fail
            refine C2.out.mono ?_
            rintro _ w1 ⟨rfl, q2, hw1⟩
            subst w1
            have hd : HeapN l' n := HP.out.2.1.done fun k g0 g1 g2 => pl_trans (HLM.out.1 k g0 g1 g2) HLM.out.2.2.symm
            have HD := Lib.hid hd
            clear hd
            go_wp2
            go_ret
            exact ⟨_, rfl, l', HH.out.drewN (q + q2), HP.out.1, HD.out, HP.out.2.2.1, HP.out.2.2.2.drewN (q + q2)⟩
          | true =>
            go_wp2_with fail
            refine C2.out.mono ?_
            rintro _ w1 ⟨rfl, q2, hw1⟩
            subst w1
            have D := Lib.hid (things_swap (HH.out.drewN (q + q2)) (i := i) (j := jj) (by omega) (by omega))
            have mS := meth_swap (HH.out.drewN (q + q2))
            simp only [Try.types_size, Nat.reduceAdd] at mS
            go_wp2_with fail
            refine D.out.mono ?_
            rintro _ w3 ⟨rfl, hh3, ht3⟩
            have HEND := Lib.hid (And.intro hh3 ((HP.out.2.2.2.drewN (q + q2)).trans ht3))
            clear hh3 ht3
            go_wp2
            go_roundw
            case rel => exact ⟨jj, swapP l' i jj, rfl, by omega, HEND.out.1, (swap_perm (by omega) (by omega)).trans HP.out.1, HP.out.2.1.step (by omega) hjn HLM.out.2.1 HLM.out.1 HLM.out.2.2.symm, fun k hk => by rw [pat_swap (by omega) (by omega), if_neg (by omega), if_neg (by omega)]; exact HP.out.2.2.1 k hk, HEND.out.2⟩
            case measure => simp [intOf]; omega
      · obtain ⟨j1, hj1⟩ : ∃ j1, j1 = 2 * i + 1 := ⟨_, rfl⟩
        have e1 : 2 * (i : Int) + 1 = (j1 : Int) := by omega
        have HJ1 := Lib.hid hj1
        have h3 : j1 < n := by omega
        have h4 : ¬ j1 + 1 < n := by omega
        have h5 : i < j1 := by omega
        clear hj1 h1 h2
        have hlm : ∀ k, 0 < k → k < n → par k = i → pl (pat l' k) (pat l' (j1)) = false := fun k g0 g1 g2 => by
          have e := HJ1.out
          rcases par_child g0 g2 with e2 | e2
          · rw [e2, ← e, pl_no]; omega
          · omega
        have hpj : par (j1) = i := by unfold par; have := HJ1.out; omega
        have C2 := Lib.hid (things_less (cap := cap) HH.out (i := j1) (j := i) (by omega) (by omega))
        obtain ⟨b2, hb2⟩ : ∃ b2, b2 = pl (pat l' (j1)) (pat l' i) := ⟨_, rfl⟩
        rw [← hb2] at C2
        obtain ⟨jj, hjj⟩ : ∃ jj, jj = j1 := ⟨_, rfl⟩
        rw [← hjj] at hlm hpj hb2 C2
        have hjn : jj < n := by omega
        have hij : i < jj := by omega
        have HLM := Lib.hid (And.intro hlm (And.intro hpj hb2))
        clear hlm hpj hb2
        have HJJ := Lib.hid hjj
        clear hjj
        have hx : jj = j1 := HJJ.out
        clear HJJ
        subst hx
        cases b2 with
        | false =>
          go_wp2_with fail
          refine C2.out.mono ?_
          rintro _ w1 ⟨rfl, q2, hw1⟩
          subst w1
          have hd : HeapN l' n := HP.out.2.1.done fun k g0 g1 g2 => pl_trans (HLM.out.1 k g0 g1 g2) HLM.out.2.2.symm
          have HD := Lib.hid hd
          clear hd
          go_wp2
          go_ret
          exact ⟨_, rfl, l', HH.out.drewN q2, HP.out.1, HD.out, HP.out.2.2.1, HP.out.2.2.2.drewN q2⟩
        | true =>
          go_wp2_with fail
          refine C2.out.mono ?_
          rintro _ w1 ⟨rfl, q2, hw1⟩
          subst w1
          have D := Lib.hid (things_swap (HH.out.drewN q2) (i := i) (j := jj) (by omega) (by omega))
          have mS := meth_swap (HH.out.drewN q2)
          simp only [Try.types_size, Nat.reduceAdd] at mS
          go_wp2_with fail
          refine D.out.mono ?_
          rintro _ w3 ⟨rfl, hh3, ht3⟩
          have HEND := Lib.hid (And.intro hh3 ((HP.out.2.2.2.drewN q2).trans ht3))
          clear hh3 ht3
          go_wp2
          go_roundw
          case rel => exact ⟨jj, swapP l' i jj, rfl, by omega, HEND.out.1, (swap_perm (by omega) (by omega)).trans HP.out.1, HP.out.2.1.step (by omega) hjn HLM.out.2.1 HLM.out.1 HLM.out.2.2.symm, fun k hk => by rw [pat_swap (by omega) (by omega), if_neg (by omega), if_neg (by omega)]; exact HP.out.2.2.1 k hk, HEND.out.2⟩
          case measure => simp [intOf]; omega
    · have hd : HeapN l' n := HP.out.2.1.done fun k h0 hkn hk => by
        rcases par_child h0 hk with e | e <;> omega
      have HD := Lib.hid hd
      clear hd
      have e1 : (n : Int) ≤ 2 * (i : Int) + 1 := by omega
      go_wp2
      go_ret
      exact ⟨_, rfl, l', HH.out, HP.out.1, HD.out, HP.out.2.2.1, HP.out.2.2.2⟩
end
end Go.Proofs.Ytgcegdjnemlcoaa
