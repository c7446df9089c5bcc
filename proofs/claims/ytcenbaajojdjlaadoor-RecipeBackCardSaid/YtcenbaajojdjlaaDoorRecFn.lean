/- Contracts of layer 11: each step as a function value, and what undoes it. -/
import Derived.Test.YtcenbaajojdjlaaDoorRecStep
import Derived.Test.YtcenbaajojdjlaaDoorGorUnp
namespace Go.Proofs.YtcenbaajojdjlaaDoor
open Go.RowKit Go.Shelf

/-- What an undoing answers: the bytes, or an error. -/
def errN : Option (List UInt8) → Nat
  | none => 16
  | some _ => 0
def UndoAns (w : World) (o : Option (List UInt8)) (e : Ending) (w' : World) : Prop :=
  ∃ A n c, e = .returned (.tuple #[.slice A n c, .int .i64 (errN o : Int)]) ∧ Below w.heap.size w w' ∧ ∀ x, o = some x → IsBytes x (.slice A n c) w'
/-- The boxes of function values stay as they are. -/
def FKeep (w w' : World) : Prop := ∀ (k : Nat) (v : Value), (Blk w k 46 [v] → Blk w' k 46 [v]) ∧ (Blk w k 36 [v] → Blk w' k 36 [v])
theorem FKeep.trans {w w' w'' : World} (h : FKeep w w') (h' : FKeep w' w'') : FKeep w w'' := fun k v => ⟨fun q => (h' k v).1 ((h k v).1 q), fun q => (h' k v).2 ((h k v).2 q)⟩
theorem FKeep.refl (w : World) : FKeep w w := fun _ _ => ⟨id, id⟩
theorem FKeep.of_below {w w' : World} (h : Below w.heap.size w w') : FKeep w w' := fun _ _ => ⟨fun q => q.grow h, fun q => q.grow h⟩
/-- A function value of bytes and a width. -/
def BytesFn (W : Nat) (w : World) (fv : Value) (f : List UInt8 → List UInt8) : Prop :=
  ∃ (K : Nat) (cap : Array Value), fv = .func (.func K) #[] cap ∧ Enters Tryd.prog K ∧ ∀ (w' : World) (l : List UInt8) (v : Value), FKeep w w' → IsBytes l v w' → l.length ≤ 90000 →
    Calls Tryd.prog K (#[v, .int .i64 (W : Int)] ++ cap) w' (NewBs w' (f l))
theorem BytesFn.grow {W : Nat} {w w1 : World} {fv : Value} {f : List UInt8 → List UInt8} (h : BytesFn W w fv f) (hb : FKeep w w1) : BytesFn W w1 fv f := by
  obtain ⟨K, cap, rfl, hE, hC⟩ := h
  exact ⟨K, cap, rfl, hE, fun w' l v hb' hv hl => hC w' l v (hb.trans hb') hv hl⟩
theorem bytes_through {W : Nat} (hW : IsW W) (K : Nat) (f : List Nat → List Nat) (hK : WordsFn W K f) (g : Nat) (w : World) (hg : Blk w g 46 [.func (.func K) #[] #[]]) :
    BytesFn W w (.func (.func 53) #[] #[.pointer (some ⟨g, 0, none⟩)]) (through f W) :=
  ⟨_, _, rfl, enters_of Tryd.func53 (by kernel_rfl) rfl, fun w' l v hb hv hl => through1_any hW K f hK g l v w' ((hb g _).1 hg) hv hl⟩
theorem bytes_split {W : Nat} (hW : IsW W) (w : World) : BytesFn W w (.func (.func 26) #[] #[]) (splitL W) :=
  ⟨_, _, rfl, enters_of Tryd.func26 (by kernel_rfl) rfl, fun w' l v hb hv hl => by
    obtain ⟨A, c, rfl, hc, hr⟩ := hv
    have := planeSplit_any (W : Int) A l.length c l w' hr rfl (by omega)
    rwa [ofB_of hW] at this⟩
theorem bytes_join {W : Nat} (hW : IsW W) (w : World) : BytesFn W w (.func (.func 27) #[] #[]) (joinL W) :=
  ⟨_, _, rfl, enters_of Tryd.func27 (by kernel_rfl) rfl, fun w' l v hb hv hl => by
    obtain ⟨A, c, rfl, hc, hr⟩ := hv
    have := planeJoin_any (W : Int) A l.length c l w' hr rfl (by omega)
    rwa [ofB_of hW] at this⟩
set_option maxHeartbeats 1000000 in
set_option maxRecDepth 100000 in
/-- asMany's closure, that has captured what undoes bytes. -/
theorem asMany1_any {W : Nat} (fv : Value) (f : List UInt8 → List UInt8) (w0 : World) (hf : BytesFn W w0 fv f) (g : Nat) (l : List UInt8) (v : Value) (raw : Int) (w : World) (hb0 : FKeep w0 w)
    (hg : Blk w g 36 [fv]) (hv : IsBytes l v w) (hl : l.length ≤ 90000) :
    Calls Tryd.prog 42 #[v, .int .i64 (W : Int), .int .i64 raw, .pointer (some ⟨g, 0, none⟩)] w (UndoAns w (some (f l))) := by
  obtain ⟨K, cap, rfl, hE, hC⟩ := hf
  have C1 := Lib.hid (hC w l v hb0 hv hl)
  have HE := Lib.hid hE
  have hgc := hg.cell 0
  simp only [List.getElem?_cons_zero] at hgc
  clear hC hE hg hv
  go_enter Tryd.func42, Tryd.ntmps42
  go_wp2_with fail
  rw [HE.out]
  refine C1.out.mono ?_
  rintro e w1 ⟨v1, rfl, h1, hb1⟩
  have H1 := Lib.hid h1
  have HB := Lib.hid hb1
  obtain ⟨A1, c1, rfl, -, -⟩ := h1
  clear hb1 C1 hgc
  go_wp2
  go_ret2
  exact ⟨_, _, _, rfl, HB.out, fun x hx => by cases hx; exact H1.out⟩
set_option maxHeartbeats 1000000 in
set_option maxRecDepth 100000 in
theorem asRuns_any (l : List UInt8) (v : Value) (W : Int) (w : World) (hv : IsBytes l v w) (hl : l.length ≤ 90000) :
    Calls Tryd.prog 30 #[v, .int .i64 W] w (NewBs w (packL l)) := by
  obtain ⟨A, c, rfl, hc, hr⟩ := hv
  have C1 := Lib.hid (runsPack_any A l.length c l w hr rfl hc (by omega))
  clear hr
  go_enter Tryd.func30, Tryd.ntmps30
  go_wp2_with fail
  refine C1.out.mono ?_
  rintro e w1 ⟨v1, rfl, h1, hb1⟩
  have H1 := Lib.hid h1
  have HB := Lib.hid hb1
  clear h1 hb1 C1
  go_wp2
  go_ret
  exact ⟨_, rfl, H1.out, HB.out⟩
theorem runsR_err (l : List UInt8) (raw : Nat) (h : raw ≤ 16777216) : (unpackR l (raw : Int)).2 = 0 ∨ (unpackR l (raw : Int)).2 = 16 := by
  unfold unpackR
  rw [if_neg (by omega)]
  cases unpackL l with
  | none => exact .inr rfl
  | some o =>
    simp only
    split
    · exact .inl rfl
    · exact .inr rfl
set_option maxHeartbeats 1000000 in
set_option maxRecDepth 100000 in
theorem fromRuns_any (l : List UInt8) (v : Value) (W : Nat) (raw : Nat) (hraw : raw ≤ 16777216) (w : World) (hv : IsBytes l v w) (hl : l.length ≤ 90000) :
    Calls Tryd.prog 31 #[v, .int .i64 (W : Int), .int .i64 (raw : Int)] w (UndoAns w (undoR W raw 7 l)) := by
  obtain ⟨A, c, rfl, hc, hr⟩ := hv
  have C1 := Lib.hid (runsUnpack_any A l.length c l (raw : Int) w hr rfl hc (by omega))
  have he : (unpackR l (raw : Int)).2 = errN (undoR W raw 7 l) ∧ ∀ x, undoR W raw 7 l = some x → x = (unpackR l (raw : Int)).1 := by
    unfold undoR
    simp only [show ¬ (7 = 1) by decide, show ¬ (7 = 2) by decide, show ¬ (7 = 3) by decide, show ¬ (7 = 4) by decide, show ¬ (7 = 5) by decide, show ¬ (7 = 6) by decide, if_false, if_true]
    rcases runsR_err l raw hraw with h | h
    · rw [if_pos h]
      exact ⟨h, fun x hx => by cases hx; rfl⟩
    · rw [if_neg (by omega)]
      exact ⟨h, fun x hx => by cases hx⟩
  obtain ⟨o, ho⟩ : ∃ o, o = undoR W raw 7 l := ⟨_, rfl⟩
  obtain ⟨R, hR⟩ : ∃ R, R = unpackR l (raw : Int) := ⟨_, rfl⟩
  rw [← ho, ← hR] at he
  rw [← hR] at C1
  rw [← ho]
  obtain ⟨b, n⟩ := R
  have HE := Lib.hid he
  clear hr ho hR he
  go_enter Tryd.func31, Tryd.ntmps31
  go_wp2_with fail
  refine C1.out.mono ?_
  rintro e w1 ⟨v1, rfl, h1, hb1⟩
  have H1 := Lib.hid h1
  have HB := Lib.hid hb1
  obtain ⟨A1, c1, rfl, -, -⟩ := h1
  clear hb1 C1
  go_wp2
  go_ret2
  exact ⟨A1, b.length, c1, by rw [← HE.out.1]; rfl, HB.out, fun x hx => by rw [HE.out.2 x hx]; exact H1.out⟩
end Go.Proofs.YtcenbaajojdjlaaDoor
