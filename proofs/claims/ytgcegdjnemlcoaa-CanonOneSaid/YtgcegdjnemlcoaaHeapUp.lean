/- Layer 20: the library's way up and way down a heap. -/
import Derived.Test.YtgcegdjnemlcoaaHeapPp
namespace Go.Proofs.Ytgcegdjnemlcoaa
open Go.RowKit Go.Sort Go.Shelf

theorem HAt.drewN {w : World} {T S cap : Nat} {l : List Pr} (h : HAt w T S cap l) (q : Nat) : HAt (w.drewN q) T S cap l := h.same rfl
theorem TurnsB.drewN {T S : Nat} {w w' : World} (h : TurnsB T S w w') (q : Nat) : TurnsB T S w (w'.drewN q) := ⟨h.os, h.tape, h.output, h.size, h.block⟩
section
variable {w w' : World} {T S cap : Nat} {l : List Pr}
set_option maxHeartbeats 1000000 in
set_option maxRecDepth 100000 in
theorem heap_up (h : HAt w T S cap l) (j0 : Nat) (hj : UpOk l j0) (hn : l.length ≤ 1000000) :
    Calls Try.prog 62 #[.iface 68 (.pointer (some ⟨T, 0, none⟩)), .int .i64 (j0 : Int)] w fun e w' => e = .returned (.tuple #[]) ∧ ∃ l', HAt w' T S cap l' ∧ l'.Perm l ∧ IsHeap l' ∧ TurnsB T S w w' := by
  have H := Lib.hid h
  have HJ := Lib.hid hj
  clear h hj
  go_enter Try.func62, Try.ntmps62
  go_wp2
  go_loopw [1] (fun vj wr => ∃ (j : Nat) (l' : List Pr), vj = .int .i64 (j : Int) ∧ HAt wr T S cap l' ∧ l'.Perm l ∧ UpOk l' j ∧ TurnsB T S w wr) (fun vj _ => (intOf vj).toNat)
  case atStart => exact ⟨j0, l, rfl, H.out, List.Perm.refl _, HJ.out, TurnsB.refl _ _ _⟩
  case round =>
    obtain ⟨j, l', rfl, hh, hp, hu, ht⟩ := hrel
    have hjl : j < l'.length := hu.lt
    have hll : l'.length ≤ 1000000 := by rw [hp.length_eq]; exact hn
    have HH := Lib.hid hh
    have HP := Lib.hid (And.intro hp (And.intro hu ht))
    have mL := meth_less hh
    simp only [Try.types_size, Nat.reduceAdd] at mL
    clear hh hp hu ht H HJ
    by_cases h0 : j = 0
    · subst h0
      go_wp2
      go_end0
      exact ⟨rfl, l', HH.out, HP.out.1, HP.out.2.1.done (.inl rfl), HP.out.2.2⟩
    · have hp0 : par j < j := par_lt (by omega)
      have C := Lib.hid (things_less (cap := cap) HH.out hjl (show par j < l'.length by omega))
      have e1 : (((j : Int) - 1).tdiv 2) = ((par j : Nat) : Int) := by
        unfold par
        rw [Int.tdiv_eq_ediv_of_nonneg (by omega)]
        omega
      obtain ⟨i, hi⟩ : ∃ i, i = par j := ⟨_, rfl⟩
      rw [← hi] at hp0 e1 C
      have HI := Lib.hid hi
      clear hi
      have hne : ¬ (i : Int) = (j : Int) := by omega
      obtain ⟨b, hb⟩ : ∃ b, b = pl (pat l' j) (pat l' i) := ⟨_, rfl⟩
      rw [← hb] at C
      have HBB := Lib.hid hb
      clear hb
      cases b with
      | false =>
        go_wp2_with fail
        refine C.out.mono ?_
        rintro _ w0 ⟨rfl, q, hw0⟩
        subst w0
        have HE := Lib.hid (show IsHeap l' from HP.out.2.1.done (.inr (by rw [← HI.out]; exact HBB.out.symm)))
        go_wp2
        go_end0
        exact ⟨rfl, l', HH.out.drewN q, HP.out.1, HE.out, HP.out.2.2.drewN q⟩
      | true =>
        go_wp2_with fail
        refine C.out.mono ?_
        rintro _ w0 ⟨rfl, q, hw0⟩
        subst w0
        have D := Lib.hid (things_swap (HH.out.drewN q) (i := i) (j := j) (by omega) hjl)
        have mS := meth_swap (HH.out.drewN q)
        simp only [Try.types_size, Nat.reduceAdd] at mS
        go_wp2_with fail
        refine D.out.mono ?_
        rintro _ w3 ⟨rfl, hh3, ht3⟩
        have HEND := Lib.hid (And.intro hh3 (HP.out.2.2.drewN q |>.trans ht3))
        clear hh3 ht3
        go_wp2
        go_roundw
        case rel => exact ⟨i, swapP l' i j, rfl, HEND.out.1, (swap_perm (by omega) hjl).trans HP.out.1, by
          have h := HP.out.2.1.step (by omega) (by rw [← HI.out]; exact HBB.out.symm)
          rw [← HI.out] at h; exact h, HEND.out.2⟩
        case measure => simp [intOf]; omega
end
end Go.Proofs.Ytgcegdjnemlcoaa
