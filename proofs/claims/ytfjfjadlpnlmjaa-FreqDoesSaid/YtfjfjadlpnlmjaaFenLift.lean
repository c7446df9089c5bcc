/- Contracts of layer 12: lift, Halve. -/
import Derived.Test.YtfjfjadlpnlmjaaFenTree
namespace Go.Proofs.Ytfjfjadlpnlmjaa
open Go.RowKit

theorem Lies.set_ {w : World} {T S n : Nat} {l : List Int} {t : Int} (h : Lies w T S n l t) (k : Nat) (x : Int) : Lies (w.setCell ⟨S, k, none⟩ (.int .i64 x)) T S n (l.set k x) t :=
  ⟨h.tb.setOther _ _ h.ne, by have := h.sb.set_ k (.int .i64 x); rwa [zvs_set] at this⟩
theorem Lies.setTotal {w : World} {T S n : Nat} {l : List Int} {t : Int} (h : Lies w T S n l t) (x : Int) : Lies (w.setCell ⟨T, 1, none⟩ (.int .i64 x)) T S n l x :=
  ⟨by have := h.tb.set_ 1 (.int .i64 x); simpa using this, h.sb.setOther _ _ h.ne.symm⟩
theorem TurnsB.set_ {w : World} {T S : Nat} (k : Nat) (v : Value) : TurnsB T S w (w.setCell ⟨S, k, none⟩ v) :=
  ⟨rfl, rfl, rfl, by simp [World.setCell], fun i _ _ h2 => Below.heap_setCell _ _ _ i h2⟩
theorem TurnsB.setT {w : World} {T S : Nat} (k : Nat) (v : Value) : TurnsB T S w (w.setCell ⟨T, k, none⟩ v) :=
  ⟨rfl, rfl, rfl, by simp [World.setCell], fun i _ h1 _ => Below.heap_setCell _ _ _ i h1⟩

set_option maxHeartbeats 2000000 in
theorem fenLift_any {w : World} {T S n : Nat} {l : List Int} {t : Int} (p : Nat) (tm x y : Int) (h : Lies w T S n l t) (hn : n ≤ 4096) (hp0 : 0 < p) (hp : p ≤ n) (htm : tm = 1 ∨ tm = -1) (hx : l[p]? = some x) (hx0 : 0 ≤ x) (hx1 : x ≤ 65536)
    (hy : p + fLow p ≤ n → l[p + fLow p]? = some y ∧ 0 ≤ y ∧ y ≤ 65536) :
    Calls Try.prog 33 #[.pointer (some ⟨T, 0, none⟩), .int .i64 (p : Int), .int .i64 tm] w fun e w' => (∃ v, e = .returned v) ∧ Lies w' T S n (if p + fLow p ≤ n then l.set (p + fLow p) (y + tm * x) else l) t ∧ TurnsB T S w w' := by
  have C := Lib.hid (fenLowest_any p hp0 (by omega))
  have CL := Lib.hid (fenLen_any h hn)
  have hl1 := fLow_le (i := p) hp0 (by omega)
  have hl0 := fLow_pos p
  have HL := Lib.hid h
  have hT0 := h.tb.cell 0
  have hS := h.sb.cell p
  rw [zvs_get, hx] at hS
  simp only [List.getElem?_cons_zero, Option.map_some] at hT0 hS
  obtain ⟨lo, hlo⟩ : ∃ lo, lo = fLow p := ⟨_, rfl⟩
  rw [← hlo] at hl1 hl0 hy C ⊢
  have hpb : (p : Int) < (n : Int) + 1 := by omega
  clear hx hlo
  by_cases hin : p + lo ≤ n
  · obtain ⟨hy1, hy0, hy2⟩ := hy hin
    have hA := h.sb.cell (p + lo)
    rw [zvs_get, hy1] at hA
    simp only [Option.map_some] at hA
    have hF := h.sb.frozen (p + lo)
    have hini : (p : Int) + (lo : Int) ≤ (n : Int) := by omega
    have hinx : (p : Int) + (lo : Int) < (n : Int) + 1 := by omega
    have HSET := Lib.hid (h.set_ (p + lo) (y + tm * x))
    rw [if_pos hin]
    clear hy hy1 h
    rcases htm with rfl | rfl
    · rw [Int.one_mul] at HSET ⊢
      go_enter Try.func33, Try.ntmps33
      go_wp2_with (first
        | (go_at_call 36; refine (C.out _).mono ?_; rintro e w' ⟨rfl, rfl⟩)
        | (go_at_call 19; refine CL.out.mono ?_; rintro e w' ⟨rfl, rfl⟩))
      go_region
      all_goals go_wp2
      go_end0
      exact ⟨⟨_, rfl⟩, ⟨HSET.out.tb, HSET.out.sb⟩, (TurnsB.set_ _ _).drew⟩
    · rw [Int.neg_one_mul] at HSET ⊢
      go_enter Try.func33, Try.ntmps33
      go_wp2_with (first
        | (go_at_call 36; refine (C.out _).mono ?_; rintro e w' ⟨rfl, rfl⟩)
        | (go_at_call 19; refine CL.out.mono ?_; rintro e w' ⟨rfl, rfl⟩))
      go_region
      all_goals go_wp2
      go_end0
      exact ⟨⟨_, rfl⟩, ⟨HSET.out.tb, HSET.out.sb⟩, (TurnsB.set_ _ _).drew⟩
  · rw [if_neg hin]
    have hini : ¬ ((p : Int) + (lo : Int) ≤ (n : Int)) := by omega
    clear hy h
    go_enter Try.func33, Try.ntmps33
    go_wp2_with (first
      | (go_at_call 36; refine (C.out _).mono ?_; rintro e w' ⟨rfl, rfl⟩)
      | (go_at_call 19; refine CL.out.mono ?_; rintro e w' ⟨rfl, rfl⟩))
    go_end0
    exact ⟨⟨_, rfl⟩, HL.out, TurnsB.refl _ _ _⟩
end Go.Proofs.Ytfjfjadlpnlmjaa
