/- Contracts of layer 11: whether a row has a number; a row from its end on, by a function that is ranged over. -/
import Derived.Test.YtcenbaajojdjlaaDoorRecGo
import Derived.Test.YtcenbaajojdjlaaDoorFlipSeq
namespace Go.Proofs.YtcenbaajojdjlaaDoor
open Go.RowKit Go.Shelf
attribute [local go_sem] Oper.semAt_some

def IndexRel (l : List Nat) (x : Nat) (w : World) (i : Value) (wr : World) : Prop := ∃ k : Nat, k ≤ l.length ∧ i = .int .i64 (k : Int) ∧ x ∉ l.take k ∧ wr = w
/-- What slices.Index tells: a place of the number, if it is there, else -1. -/
def IndexAns (l : List Nat) (x : Nat) (w : World) (e : Ending) (w' : World) : Prop := ∃ i : Int, e = .returned (.int .i64 i) ∧ w = w' ∧ (0 ≤ i ↔ x ∈ l)
set_option maxHeartbeats 1000000 in
set_option maxRecDepth 100000 in
theorem index_any (l : List Nat) (x : Nat) (v : Value) (w : World) (hv : IsCells (nvs l) v w) (hb : l.length ≤ 1000) (hlx : ∀ y ∈ l, y ≤ 1000) :
    Calls Tryd.prog 52 #[v, .int .i64 (x : Int)] w (IndexAns l x w) := by
  obtain ⟨A, c, rfl, hc, hr⟩ := hv
  have HLX := Lib.hid hlx
  rw [nvs_length] at hc ⊢
  clear hlx
  go_enter Tryd.func52, Tryd.ntmps52
  go_wp2
  go_loopw [8] (fun i wr => IndexRel l x w i wr) (fun i _ => l.length - (intOf i).toNat)
  case atStart => exact ⟨0, Nat.zero_le _, rfl, by simp, rfl⟩
  case round =>
    obtain ⟨k, hk, rfl, hnot, rfl⟩ := hrel
    have HN := Lib.hid hnot
    clear hnot
    by_cases hlt : k < l.length
    · obtain ⟨y, hy⟩ : ∃ y, l[k]? = some y := ⟨l[k], List.getElem?_eq_getElem hlt⟩
      obtain ⟨ab, ao, rfl, hab, hcl⟩ := hr k _ (nvs_get l k y hy)
      have hy1 : y ≤ 1000 := HLX.out y (List.mem_of_getElem? hy)
      have HY := Lib.hid hy
      clear hy hab
      by_cases hxy : x = y
      · subst hxy
        go_wp2
        go_ret
        exact ⟨_, rfl, rfl, ⟨fun _ => List.mem_of_getElem? HY.out, fun _ => by omega⟩⟩
      · have hne : (((x : Nat) : Int) == ((y : Nat) : Int)) = false := by rw [beq_eq_false_iff_ne]; omega
        go_wp2
        go_roundw
        case rel =>
          refine ⟨k + 1, by omega, by go_num, ?_, rfl⟩
          rw [List.take_add_one, HY.out]
          simp only [Option.toList_some, List.mem_append, List.mem_singleton, not_or]
          exact ⟨HN.out, hxy⟩
        case measure => simp [intOf]; omega
    · obtain rfl : k = l.length := by omega
      rw [List.take_length] at HN
      go_wp2
      go_ret
      exact ⟨_, rfl, rfl, ⟨fun h => absurd h (by decide), fun h => absurd h HN.out⟩⟩
set_option maxHeartbeats 1000000 in
set_option maxRecDepth 100000 in
theorem contains_any (l : List Nat) (x : Nat) (v : Value) (w : World) (hv : IsCells (nvs l) v w) (hb : l.length ≤ 1000) (hlx : ∀ y ∈ l, y ≤ 1000) :
    Calls Tryd.prog 32 #[v, .int .i64 (x : Int)] w fun e w' => e = .returned (.bool (decide (x ∈ l))) ∧ w = w' := by
  have C1 := Lib.hid (index_any l x v w hv hb hlx)
  obtain ⟨A, c, rfl, hc, hr⟩ := hv
  obtain ⟨z, hz⟩ : ∃ z, z = decide (x ∈ l) := ⟨_, rfl⟩
  rw [← hz]
  have HZ := Lib.hid hz
  clear hr hz hlx
  go_enter Tryd.func32, Tryd.ntmps32
  go_wp2_with fail
  refine C1.out.mono ?_
  rintro e w' ⟨i, rfl, rfl, hi⟩
  have HI := Lib.hid hi
  clear hi C1
  go_wp2
  go_ret
  exact ⟨ret_bool (by rw [HZ.out, decide_eq_decide]; exact HI.out), rfl⟩
/-- Do the steps make as many bytes of bytes? -/
def keepB (l : List Nat) : Bool := !decide (6 ∈ l) && !decide (7 ∈ l)
set_option maxHeartbeats 1000000 in
set_option maxRecDepth 100000 in
theorem keepLength_any (l : List Nat) (v : Value) (w : World) (hv : IsCells (nvs l) v w) (hb : l.length ≤ 1000) (hlx : ∀ y ∈ l, y ≤ 1000) :
    Calls Tryd.prog 12 #[v] w fun e w' => e = .returned (.bool (keepB l)) ∧ w = w' := by
  have c1 := contains_any l 6 v w hv hb hlx
  have c2 := contains_any l 7 v w hv hb hlx
  obtain ⟨A, c, rfl, hc, hr⟩ := hv
  unfold keepB
  obtain ⟨a, ha⟩ : ∃ a, a = decide (6 ∈ l) := ⟨_, rfl⟩
  obtain ⟨b, hbd⟩ : ∃ b, b = decide (7 ∈ l) := ⟨_, rfl⟩
  rw [← ha] at c1 ⊢
  rw [← hbd] at c2 ⊢
  have C1 := Lib.hid c1
  have C2 := Lib.hid c2
  clear hr ha hbd c1 c2 hlx
  cases a with
  | true =>
    go_enter Tryd.func12, Tryd.ntmps12
    go_wp2_with fail
    refine C1.out.mono ?_
    rintro e w' ⟨rfl, rfl⟩
    go_wp2
    go_ret
    exact ⟨rfl, rfl⟩
  | false =>
    go_enter Tryd.func12, Tryd.ntmps12
    go_wp2_with fail
    refine C1.out.mono ?_
    rintro e w' ⟨rfl, rfl⟩
    go_wp2_with fail
    refine C2.out.mono ?_
    rintro e w' ⟨rfl, rfl⟩
    go_wp2
    go_ret
    exact ⟨by cases b <;> rfl, rfl⟩
end Go.Proofs.YtcenbaajojdjlaaDoor
