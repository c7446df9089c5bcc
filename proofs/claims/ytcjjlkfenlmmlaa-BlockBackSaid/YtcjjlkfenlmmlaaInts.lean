/- Rows of numbers as cells; small laws of memory beside them; a number's list that came in. General: no code of the project. -/
import Derived.Test.YtcjjlkfenlmmlaaProg
import Derived.Test.YtcjjlkfenlmmlaaBase
import Derived.Test.YtcjjlkfenlmmlaaFenBuild
import Derived.Lib.Strings
import Derived.Lib.Slices
import Derived.Lib.Small
import Derived.Lib.Walk
import Derived.Deep.DeepMust
import Derived.BigQuiet
import Derived.BigRegion
import Derived.StillTailTactics
import Derived.Lib.QuietBelow
namespace Go.Proofs.Ytcjjlkfenlmmlaa
open Go.RowKit Go.Sort

/-- Numbers as cells. -/
def zvs (l : List Int) : List Value := l.map (Value.int .i64)
theorem zvs_length (l : List Int) : (zvs l).length = l.length := by simp [zvs]
theorem zvs_get (l : List Int) (k : Nat) : (zvs l)[k]? = l[k]?.map (Value.int .i64) := by simp [zvs]
theorem zvs_set (l : List Int) (k : Nat) (x : Int) : (zvs l).set k (.int .i64 x) = zvs (l.set k x) := by simp [zvs, List.map_set]
theorem zvs_one (l : List Int) : ∀ u ∈ zvs l, u.oneCell' = true := by
  intro u hu
  obtain ⟨x, _, rfl⟩ := List.mem_map.1 hu
  rfl

/-- A quiet call in a region that draws its order. -/
theorem quietOf {P : Program} {f : FuncId} {args : Array Value} {w : World} {m : Nat} {v : Value} (h : ∀ W' : World, W'.heap = w.heap → Calls P f args W' fun e w' => e = .returned v ∧ w' = W') :
    Calls P f args (w.drewN m) fun e w'' => e = .returned v ∧ ∃ j, w'' = w.drewN j := (h (w.drewN m) rfl).mono fun _ _ h => ⟨h.1, m, h.2⟩
theorem Blk.same {w w' : World} {g : Nat} {t : TypeId} {cs : List Value} (h : Blk w g t cs) (e : w'.heap = w.heap) : Blk w' g t cs := by unfold Blk; rw [e]; exact h
theorem info_int12 : (Try.prog.info? 3).map (fun i => (i.zero, i.size, i.bytes)) = some (some (.int .i64 0), 1, 8) := by kernel_rfl
theorem below_drawn (w : World) (k : Nat) : Below w.heap.size w (w.drewN k) := ⟨rfl, rfl, rfl, Nat.le_refl _, fun _ _ => rfl⟩
theorem quietB {P : Program} {f : FuncId} {args : Array Value} {x : World} {v : Value} (h : Calls P f args x fun e w' => e = .returned v ∧ w' = x) : Calls P f args x fun e w' => e = .returned v ∧ Below x.heap.size x w' :=
  h.mono fun _ _ h => ⟨h.1, h.2 ▸ Below.refl _ _⟩

theorem rd_same {w w' : World} {N : Nat} {A : Option Addr} {xs : List Value} (h : Rd w N A xs) (e : w'.heap = w.heap) : Rd w' N A xs := h.keep fun p _ => World.cell?_of_block (by rw [e])
theorem blk_row {W W' : World} {row : Option Nat} {g : Nat} {t : TypeId} {cs : List Value} (h : Blk W g t cs) (hg : W.grownBy W' row) (hne : ∀ r, row = some r → r ≠ g) : Blk W' g t cs := (hg.block g h.lt (fun e => hne g e.symm rfl)).trans h
theorem sum_nn12 {c : List Int} (hc : ∀ x ∈ c, 0 ≤ x) : 0 ≤ c.sum := by have := fPre_nn hc c.length; rwa [fPre_most c (Nat.le_refl _)] at this
theorem own_ne {w : World} {B M n : Nat} {v : Value} {xs : List Value} {t : TypeId} {cs : List Value} (h : Blk w M t cs) (ho : w.ownsRow B 3 1 v n xs) (hne : t ≠ 3) : ∀ r, v.ownBlock = some r → r ≠ M := fun r e => by
  have h2 := (own_type ho r e).2
  intro e2
  subst e2
  exact (h.ofType.ne hne) h2
/-- A slice of numbers that came in reads as a list of numbers. -/
theorem ints_of_row {w : World} {a : Option Addr} {len cap : Nat} {zs : List Int}
    (h : (a = none ∧ len = 0 ∧ cap = 0 ∧ zs = []) ∨ ∃ x, a = some x ∧ len ≤ cap ∧ cap ≤ maxLen ∧ zs.length = cap ∧ (∀ i, i < zs.length → w.cell? (x.add i) = some (.int .i64 (zs.getD i 0))) ∧ ∀ n ∈ zs, (Lit.int .i64 n).wf = true) :
    ∃ l : List Int, l.length = len ∧ Rd w w.heap.size a (zvs l) := by
  rcases h with ⟨rfl, rfl, rfl, rfl⟩ | ⟨x, rfl, hlc, hcm, hz, hcell, hwf⟩
  · exact ⟨[], rfl, Rd.nil_ _ _ _⟩
  · refine ⟨zs.take len, by simp; omega, fun k u hu => ?_⟩
    have hk : k < len := by
      have := (List.getElem?_eq_some_iff.1 hu).1
      simp [zvs] at this
      omega
    obtain ⟨b, off, rfl, hc⟩ := ints_at hcell (by omega)
    have hck := hc k (by omega)
    have he : u = .int .i64 (zs.getD k 0) := by
      rw [zvs_get, List.getElem?_take_of_lt hk, List.getElem?_eq_getElem (by omega)] at hu
      simp at hu
      rw [← hu]
      simp [List.getD_eq_getElem?_getD, List.getElem?_eq_getElem (show k < zs.length by omega)]
    subst he
    exact ⟨b, off, rfl, World.block_lt_of_cell? w _ hck, hck⟩

theorem le_sum12 {c : List Int} (hc : ∀ x ∈ c, 0 ≤ x) {i : Nat} (hi : i < c.length) : c[i] ≤ c.sum := by
  have h1 := fPre_succ c i hi
  have h2 := fPre_le hc (i + 1)
  have h3 := fPre_nn hc i
  omega
theorem frozen_same {w w' : World} (e : w'.heap = w.heap) (a : Addr) : w'.frozen? a = w.frozen? a := by unfold World.frozen?; rw [e]
theorem own_drew {w : World} {base e size n : Nat} {v : Value} {xs : List Value} (h : w.ownsRow base e size v n xs) : w.drew.ownsRow base e size v n xs := h
theorem own_none12 (w : World) (base : Nat) (t : TypeId) (hb : base ≤ w.heap.size) : (w.alloc (.cells #[] t)).ownsRow base t 1 (.slice (some ⟨w.heap.size, 0, none⟩) 0 0) 0 [] :=
  ⟨by simp, .inr ⟨w.heap.size, 0, #[], rfl, hb, heap_alloc_new w _, Nat.le_refl _, Nat.zero_le _, rfl, rfl⟩⟩
/-- Of all that lay, T and S alone have turned. -/
structure TurnsB (T S : Nat) (w w' : World) : Prop where
  os : w'.os = w.os
  tape : w'.tape = w.tape
  output : w'.output = w.output
  size : w.heap.size ≤ w'.heap.size
  block : ∀ k, k < w.heap.size → k ≠ T → k ≠ S → w'.heap[k]? = w.heap[k]?
section
variable {T S : Nat} {w w' w'' : World}
theorem TurnsB.refl (T S : Nat) (w : World) : TurnsB T S w w := ⟨rfl, rfl, rfl, Nat.le_refl _, fun _ _ _ _ => rfl⟩
theorem TurnsB.trans (h : TurnsB T S w w') (k : TurnsB T S w' w'') : TurnsB T S w w'' :=
  ⟨k.os.trans h.os, k.tape.trans h.tape, k.output.trans h.output, Nat.le_trans h.size k.size, fun i hi h1 h2 => (k.block i (Nat.lt_of_lt_of_le hi h.size) h1 h2).trans (h.block i hi h1 h2)⟩
theorem TurnsB.drew (h : TurnsB T S w w') : TurnsB T S w w'.drew := ⟨h.os, h.tape, h.output, h.size, h.block⟩
theorem TurnsB.of_below (h : Below w.heap.size w w') : TurnsB T S w w' := ⟨h.os, h.tape, h.output, h.size, fun k hk _ _ => h.block k hk⟩
theorem TurnsB.grown {row : Option Nat} (h : w.grownBy w' row) (hr : ∀ r, row = some r → r = T ∨ r = S) : TurnsB T S w w' :=
  ⟨h.os, h.tape, h.output, h.size, fun k hk h1 h2 => h.block k hk (fun e => by rcases hr k e.symm with e | e <;> omega)⟩
theorem TurnsB.below {B : Nat} (h : TurnsB T S w w') (hT : B ≤ T) (hS : B ≤ S) (hB : B ≤ w.heap.size) : Below B w w' :=
  ⟨h.os, h.tape, h.output, h.size, fun k hk => h.block k (by omega) (by omega) (by omega)⟩
theorem TurnsB.blk {g : Nat} {t : TypeId} {cs : List Value} (h : TurnsB T S w w') (hb : Blk w g t cs) (h1 : g ≠ T) (h2 : g ≠ S) : Blk w' g t cs := (h.block g hb.lt h1 h2).trans hb
end

/-- What is told of a number that falls into a letter, or into none. -/
def findV (o : Option Nat) : Value := match o with
  | none => .tuple #[.int .i64 0, .bool false]
  | some r => .tuple #[.int .i64 (r : Int), .bool true]
/-- Short numbers as cells. -/
def hvs (l : List Nat) : List Value := l.map fun (x : Nat) => Value.int .u16 (x : Int)
theorem hvs_get (l : List Nat) (k : Nat) (h : k < l.length) : (hvs l)[k]? = some (Value.int .u16 (l[k] : Int)) := by simp [hvs, h]
theorem hvs_length (l : List Nat) : (hvs l).length = l.length := by simp [hvs]
theorem hvs_set (l : List Nat) (k x : Nat) : (hvs l).set k (.int .u16 (x : Int)) = hvs (l.set k x) := by simp [hvs, List.map_set]
theorem TurnsB.set_ {w : World} {T S : Nat} (k : Nat) (v : Value) : TurnsB T S w (w.setCell ⟨S, k, none⟩ v) :=
  ⟨rfl, rfl, rfl, by simp [World.setCell], fun i _ _ h2 => Below.heap_setCell _ _ _ i h2⟩
theorem TurnsB.setT {w : World} {T S : Nat} (k : Nat) (v : Value) : TurnsB T S w (w.setCell ⟨T, k, none⟩ v) :=
  ⟨rfl, rfl, rfl, by simp [World.setCell], fun i _ h1 _ => Below.heap_setCell _ _ _ i h1⟩
theorem own_turns {T S : Nat} {x x' : World} {base e size : Nat} {v : Value} {xs : List Value} {k : Nat} (h : x.ownsRow base e size v k xs) (ht : TurnsB T S x x') (hT : T < base) (hS : S < base) : x'.ownsRow base e size v k xs := by
  refine ⟨h.1, ?_⟩
  rcases h.2 with h0 | ⟨g, cap, cur, rfl, hbg, hg, rest⟩
  · exact .inl h0
  · exact .inr ⟨g, cap, cur, rfl, hbg, by rw [ht.block g (Array.getElem?_eq_some_iff.1 hg).1 (by omega) (by omega)]; exact hg, rest⟩
theorem TurnsB.growO {T S : Nat} {w w' w'' : World} {row : Option Nat} (h : TurnsB T S w w') (hg : w'.grownBy w'' row) (hr : ∀ r, row = some r → w.heap.size ≤ r) : TurnsB T S w w'' :=
  ⟨hg.os.trans h.os, hg.tape.trans h.tape, hg.output.trans h.output, Nat.le_trans h.size hg.size, fun k hk h1 h2 => (hg.block k (Nat.lt_of_lt_of_le hk h.size) (fun e => by have := hr k e.symm; omega)).trans (h.block k hk h1 h2)⟩
theorem TurnsB.allocO {T S : Nat} {w w' : World} (h : TurnsB T S w w') (o : Obj) : TurnsB T S w (w'.alloc o) := h.growO (World.grownBy_alloc w' o none) (fun r e => by cases e)
theorem cell_of_rd {w : World} {B : Nat} {A : Option Addr} {c : List Int} (hr : Rd w B A (zvs c)) {k : Nat} (h : k < c.length) : ∃ b off, A = some ⟨b, off, none⟩ ∧ b < B ∧ w.cell? ⟨b, off + k, none⟩ = some (.int .i64 (c[k]'h)) :=
  hr k (.int .i64 (c[k]'h)) (by rw [zvs_get, List.getElem?_eq_getElem h]; rfl)
/-- make of n cells, as an equation. -/
theorem make_eqN {P : Program} {t e : TypeId} {i : TypeInfo} {z : Value} (ht : P.underlying t = some (.slice e)) (hi : P.info? e = some i) (hz : i.zero = some z) (hzs : z.cells = #[z]) (hsize : i.size = 1) (hby : i.bytes ≤ 8) (n : Nat) (hn : n ≤ 1000000) (w : World) :
    (Instr.makeSlice t (.int .i64 (n : Int)) (.int .i64 (n : Int))).run P w = .ok (.slice (some ⟨w.heap.size, 0, none⟩) n n) (w.alloc (.cells (List.replicate n z).toArray e)) := by
  have hbn : ((i.bytes * n : Nat) : Int) ≤ 281474976710656 := by have := Nat.mul_le_mul_right n hby; omega
  rw [Int.natCast_mul] at hbn
  have hrun := run_make (P := P) w t e i z ht hi hz .i64 .i64 n n (by omega) (Int.le_refl _) hbn (by omega)
  simp only [Int.toNat_natCast, hsize, Nat.mul_one, hzs] at hrun
  have hcells : madeCells #[z] n = (List.replicate n z).toArray := by
    apply Array.ext'; rw [toList_madeCells_one]
  rw [hcells] at hrun
  exact hrun
/-- A call that only draws, in a region that draws its order. -/
theorem quietD {P : Program} {f : FuncId} {args : Array Value} {w : World} {m : Nat} {v : Value} (h : ∀ W' : World, W'.heap = w.heap → Calls P f args W' fun e w' => e = .returned v ∧ ∃ j, w' = W'.drewN j) :
    Calls P f args (w.drewN m) fun e w'' => e = .returned v ∧ ∃ j, w'' = w.drewN j := (h (w.drewN m) rfl).mono fun _ _ h => ⟨h.1, by
    obtain ⟨j, hj⟩ := h.2
    exact ⟨m + j, by rw [hj, World.drewN_drewN]⟩⟩
theorem blk_ne {w : World} {g g' : Nat} {t t' : TypeId} {cs cs' : List Value} (h : Blk w g t cs) (h' : Blk w g' t' cs') (hne : t ≠ t') : g ≠ g' := by
  intro e
  subst e
  unfold Blk at h h'
  rw [h] at h'
  injection h' with h'
  injection h' with _ e _
  exact hne e
theorem grownBy_set (W : World) (p : Addr) (v : Value) : W.grownBy (W.setCell p v) (some p.block) :=
  ⟨rfl, rfl, rfl, by simp [World.setCell], fun k _ hk => Below.heap_setCell _ _ _ k (fun e => hk (by rw [e]))⟩
theorem below_drewn {w w' : World} {B j : Nat} (h : Below B w w') : Below B w (w'.drewN j) := ⟨h.os, h.tape, h.output, h.size, h.block⟩
end Go.Proofs.Ytcjjlkfenlmmlaa
