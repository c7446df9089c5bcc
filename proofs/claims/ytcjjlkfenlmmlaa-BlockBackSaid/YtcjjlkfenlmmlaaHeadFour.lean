/- Layer 29: the reference's Four: a sum's four bytes. -/
import Derived.Test.YtcjjlkfenlmmlaaLebPut
namespace Go.Proofs.Ytcjjlkfenlmmlaa
open Go.RowKit

theorem results_cell_tmp2 {P : Program} {fn : Func} {u u2 p : Tmp} {ty : TypeId} (h : fn.results = #[.cell p ty, .tmp u, .tmp u2]) (tmps : Array Value) (w : World) (g : Nat) (t : TypeId) (cs : Array Value) (fr : Nat × Nat) (d : TypeDesc)
    (hp : tmps.getD p undef = .pointer (some ⟨g, 0, none⟩)) (hg : w.heap[g]? = some (.cells cs t fr))
    (hu : P.underlying ty = some d) (hd : (match d with | .struct _ | .array _ _ => true | _ => false) = true) (hi : (P.info? ty).map (·.size) = some cs.size) :
    (results fn tmps).run P w = .ok (.tuple #[.agg cs, tmps.getD u undef, tmps.getD u2 undef]) w := by
  have hp' : tmps[p]?.getD undef = .pointer (some ⟨g, 0, none⟩) := by simpa using hp
  simp [results, h, hp', asAddr, run_loadVar_row w g t ty cs fr d hg hu hd hi]
theorem results_tmp4 {P : Program} {fn : Func} {a b c d : Tmp} (h : fn.results = #[.tmp a, .tmp b, .tmp c, .tmp d]) (tmps : Array Value) (w : World) :
    (results fn tmps).run P w = .ok (.tuple #[tmps.getD a undef, tmps.getD b undef, tmps.getD c undef, tmps.getD d undef]) w := by
  simp [results, h]
/-- A row that was built whole. -/
theorem own_lit {base e : Nat} (w : World) (cur : Array Value) (n : Nat) (hb : base ≤ w.heap.size) (hm : n ≤ maxLen) (hs : cur.size = n) : (w.alloc (.cells cur e)).ownsRow base e 1 (.slice (some ⟨w.heap.size, 0, none⟩) n n) n cur.toList :=
  ⟨by simp [hs], .inr ⟨w.heap.size, n, cur, rfl, hb, heap_alloc_new w _, Nat.le_refl _, hm, by omega, by rw [List.take_of_length_le (by simp; omega)]⟩⟩
/-- A sum's four bytes, the lowest first. -/
def fourL (n : Nat) : List UInt8 := [UInt8.ofNat n, UInt8.ofNat (n / 256), UInt8.ofNat (n / 65536), UInt8.ofNat (n / 16777216)]
theorem four_vals (n : Nat) : ∃ c0 c1 c2 c3 : UInt8, fourL n = [c0, c1, c2, c3] ∧ (c0.toNat : Int) = (n : Int) % 256 ∧ (c1.toNat : Int) = (n : Int) / 256 % 256 ∧ (c2.toNat : Int) = (n : Int) / 65536 % 256 ∧ (c3.toNat : Int) = (n : Int) / 16777216 % 256 := by
  refine ⟨_, _, _, _, rfl, ?_, ?_, ?_, ?_⟩ <;> rw [UInt8.toNat_ofNat'] <;> omega
set_option maxRecDepth 100000 in
set_option maxHeartbeats 1000000 in
theorem refFour_any {n : Nat} (hn : n < 4294967296) (W : World) : Calls Try.prog 25 #[.int .u32 (n : Int)] W (NewB W (fourL n)) := by
  obtain ⟨c0, c1, c2, c3, h, h0, h1, h2, h3⟩ := four_vals n
  rw [h]
  go_enter Try.func25, Try.ntmps25
  go_wp2
  go_ret
  have h3' : (n : Int) / 16777216 = (c3.toNat : Int) := by omega
  rw [h3', ← h0, ← h1, ← h2]
  exact ⟨_, rfl, own_lit W #[.int .u8 (c0.toNat : Int), .int .u8 (c1.toNat : Int), .int .u8 (c2.toNat : Int), .int .u8 (c3.toNat : Int)] 4 (Nat.le_refl _) (by decide) rfl, (Below.refl _ _).alloc (Nat.le_refl _) _⟩
end Go.Proofs.Ytcjjlkfenlmmlaa
