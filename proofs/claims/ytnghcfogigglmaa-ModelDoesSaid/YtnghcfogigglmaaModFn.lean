/- Layer 25: the program's model: where it is, its step. -/
import Derived.Test.YtnghcfogigglmaaModMath
import Derived.Test.YtnghcfogigglmaaCtxBank
import Derived.Test.YtnghcfogigglmaaMixNew
namespace Go.Proofs.Ytnghcfogigglmaa
open Go.RowKit Go.Sort

/-- Of all that lay, blocks of S alone have turned. -/
structure OnlyS (S : List Nat) (w w' : World) : Prop where
  os : w'.os = w.os
  tape : w'.tape = w.tape
  output : w'.output = w.output
  size : w.heap.size ≤ w'.heap.size
  block : ∀ k, k < w.heap.size → k ∉ S → w'.heap[k]? = w.heap[k]?
section
variable {S T : List Nat} {w w' w'' : World}
theorem OnlyS.refl (S : List Nat) (w : World) : OnlyS S w w := ⟨rfl, rfl, rfl, Nat.le_refl _, fun _ _ _ => rfl⟩
theorem OnlyS.trans (h : OnlyS S w w') (k : OnlyS S w' w'') : OnlyS S w w'' :=
  ⟨k.os.trans h.os, k.tape.trans h.tape, k.output.trans h.output, Nat.le_trans h.size k.size, fun i hi h1 => (k.block i (Nat.lt_of_lt_of_le hi h.size) h1).trans (h.block i hi h1)⟩
theorem OnlyS.mono (h : OnlyS S w w') (hs : ∀ k ∈ S, k ∈ T) : OnlyS T w w' := ⟨h.os, h.tape, h.output, h.size, fun i hi h1 => h.block i hi fun h2 => h1 (hs i h2)⟩
theorem OnlyS.drew (h : OnlyS S w w') : OnlyS S w w'.drew := ⟨h.os, h.tape, h.output, h.size, h.block⟩
theorem OnlyS.drewN (h : OnlyS S w w') (j : Nat) : OnlyS S w (w'.drewN j) := ⟨h.os, h.tape, h.output, h.size, h.block⟩
theorem OnlyS.of_below (h : Below w.heap.size w w') : OnlyS S w w' := ⟨h.os, h.tape, h.output, h.size, fun k hk _ => h.block k hk⟩
theorem OnlyS.of_turns {g : Nat} (h : TurnsB g g w w') (hg : g ∈ S) : OnlyS S w w' :=
  ⟨h.os, h.tape, h.output, h.size, fun k hk h1 => have e : k ≠ g := fun e => h1 (e ▸ hg); h.block k hk e e⟩
theorem OnlyS.set_ (h : OnlyS S w w') {p : Addr} (hp : p.block ∈ S) (v : Value) : OnlyS S w (w'.setCell p v) :=
  ⟨h.os, h.tape, h.output, Nat.le_trans h.size (by simp [World.setCell]), fun k hk h1 => (Below.heap_setCell _ _ _ k (fun e => h1 (e ▸ hp))).trans (h.block k hk h1)⟩
theorem OnlyS.below {B : Nat} (h : OnlyS S w w') (hS : ∀ k ∈ S, B ≤ k) (hB : B ≤ w.heap.size) : Below B w w' :=
  ⟨h.os, h.tape, h.output, h.size, fun k hk => h.block k (by omega) fun h1 => by have := hS k h1; omega⟩
theorem OnlyS.blk {g : Nat} {t : TypeId} {cs : List Value} (h : OnlyS S w w') (hb : Blk w g t cs) (h1 : g ∉ S) : Blk w' g t cs := (h.block g hb.lt h1).trans hb
end

/-- Where the parts of a model lie: itself, its banks and their cells, its mixer. -/
structure ModA where
  M : Nat
  F1 : Nat
  C1 : Nat
  F2 : Nat
  C2 : Nat
  F3 : Nat
  C3 : Nat
  X : Nat
def ModA.all (a : ModA) : List Nat := [a.M, a.C1, a.C2, a.C3, a.X]
def ModA.every (a : ModA) : List Nat := [a.M, a.C1, a.C2, a.C3, a.X, a.F1, a.F2, a.F3]
theorem ModA.all_every {a : ModA} : ∀ k ∈ a.all, k ∈ a.every := fun k hk => by
  simp only [ModA.all, ModA.every, List.mem_cons, List.not_mem_nil, or_false] at hk ⊢
  omega
/-- A model's own seven cells. -/
def modC (a : ModA) (p : PosD) : List Value := [.pointer (some ⟨a.F1, 0, none⟩), .pointer (some ⟨a.F2, 0, none⟩), .pointer (some ⟨a.F3, 0, none⟩), .pointer (some ⟨a.X, 0, none⟩), .int .i64 (p.node : Int), .int .i64 (p.last : Int), .int .i64 (p.ahead : Int)]
section
variable {w w' : World} {a : ModA} {p : PosD}
theorem modC_blk {f1 f2 f3 x : Value} {n l h : Int} (hb : Blk w a.M 47 [f1, f2, f3, x, .int .i64 n, .int .i64 l, .int .i64 h]) (n' l' h' : Int) :
    Blk (w.setCell ⟨a.M, 4, none⟩ (.int .i64 n')) a.M 47 [f1, f2, f3, x, .int .i64 n', .int .i64 l, .int .i64 h]
    ∧ Blk (w.setCell ⟨a.M, 5, none⟩ (.int .i64 l')) a.M 47 [f1, f2, f3, x, .int .i64 n, .int .i64 l', .int .i64 h]
    ∧ Blk (w.setCell ⟨a.M, 6, none⟩ (.int .i64 h')) a.M 47 [f1, f2, f3, x, .int .i64 n, .int .i64 l, .int .i64 h'] :=
  ⟨hb.set_ 4 _, hb.set_ 5 _, hb.set_ 6 _⟩
set_option maxHeartbeats 1000000 in
theorem modStep_any (bit : Int) (hb : Blk w a.M 47 (modC a p)) (ho : p.ok) :
    Calls Try.prog 23 #[.pointer (some ⟨a.M, 0, none⟩), .int .i64 bit] w fun e w' => (∃ u, e = .returned u) ∧ Blk w' a.M 47 (modC a (p.step bit)) ∧ OnlyS [a.M] w w' := by
  obtain ⟨o1, o2, o3, o4⟩ := ho
  unfold PosD.step nodeD
  unfold modC at hb ⊢
  obtain ⟨n, l, h⟩ := p
  simp only at *
  have HB := Lib.hid hb
  have c4 := hb.cell 4
  have f4 := hb.frozen 4
  have c5 := hb.cell 5
  have f5 := hb.frozen 5
  have f6 := hb.frozen 6
  have c6 := hb.cell 6
  simp only [List.getElem?_cons_zero, List.getElem?_cons_succ] at c4 c5 c6
  by_cases h0 : bit = 0
  · subst h0
    rw [if_pos rfl]
    by_cases h1 : 256 ≤ 2 * n + 0
    · rw [if_pos h1]
      have h2 : 256 ≤ (n : Int) * 2 := by omega
      have HN := Lib.hid (show (n : Int) * 2 - 256 = ((2 * n + 0 - 256 : Nat) : Int) by omega)
      clear hb h1
      go_enter Try.func23, Try.ntmps23
      go_wp2
      go_region
      go_wp2
      go_end0
      refine ⟨⟨_, rfl⟩, ?_, ?_⟩
      · rw [HN.out]; exact ((((HB.out.set_ 4 _).set_ 4 _).set_ 5 _).set_ 6 _).drew_
      · exact (((((OnlyS.refl [a.M] w).set_ (List.mem_singleton.2 rfl) _).set_ (List.mem_singleton.2 rfl) _).set_ (List.mem_singleton.2 rfl) _).set_ (List.mem_singleton.2 rfl) _).drew
    · rw [if_neg h1]
      have h2 : ¬ (256 ≤ (n : Int) * 2) := by omega
      have HN := Lib.hid (show (n : Int) * 2 = ((2 * n + 0 : Nat) : Int) by omega)
      clear hb h1
      go_enter Try.func23, Try.ntmps23
      go_wp2
      go_end0
      refine ⟨⟨_, rfl⟩, ?_, ?_⟩
      · rw [HN.out]; exact (HB.out.set_ 4 _)
      · exact ((OnlyS.refl [a.M] w).set_ (List.mem_singleton.2 rfl) _)
  · rw [if_neg h0]
    have hbb : (bit != 0) = true := by simp [h0]
    by_cases h1 : 256 ≤ 2 * n + 1
    · rw [if_pos h1]
      have h2 : 256 ≤ (n : Int) * 2 + 1 := by omega
      have HN := Lib.hid (show (n : Int) * 2 + 1 - 256 = ((2 * n + 1 - 256 : Nat) : Int) by omega)
      clear hb h1
      go_enter Try.func23, Try.ntmps23
      go_wp2
      go_region
      go_wp2
      go_end0
      refine ⟨⟨_, rfl⟩, ?_, ?_⟩
      · rw [HN.out]; exact (((((HB.out.set_ 4 _).set_ 4 _).set_ 4 _).set_ 5 _).set_ 6 _).drew_
      · exact ((((((OnlyS.refl [a.M] w).set_ (List.mem_singleton.2 rfl) _).set_ (List.mem_singleton.2 rfl) _).set_ (List.mem_singleton.2 rfl) _).set_ (List.mem_singleton.2 rfl) _).set_ (List.mem_singleton.2 rfl) _).drew
    · rw [if_neg h1]
      have h2 : ¬ (256 ≤ (n : Int) * 2 + 1) := by omega
      have HN := Lib.hid (show (n : Int) * 2 + 1 = ((2 * n + 1 : Nat) : Int) by omega)
      clear hb h1
      go_enter Try.func23, Try.ntmps23
      go_wp2
      go_end0
      refine ⟨⟨_, rfl⟩, ?_, ?_⟩
      · rw [HN.out]; exact ((HB.out.set_ 4 _).set_ 4 _)
      · exact (((OnlyS.refl [a.M] w).set_ (List.mem_singleton.2 rfl) _).set_ (List.mem_singleton.2 rfl) _)
end
end Go.Proofs.Ytnghcfogigglmaa
