/- Layer 28: the map of the places that keys have. -/
import Derived.Test.YtnfkekaeppgaoaaDoorOptNum
import Derived.MapKept
namespace Go.Proofs.YtnfkekaeppgaoaaDoor
open Go.RowKit Go.Sort

section
variable {P : Program}
theorem run_sput (w : World) (t k e : TypeId) (ht : P.underlying t = some (.map k e)) (hk : P.underlying k = some .string) (b : Nat) (es : Array MapEntry) (clock : Nat) (hb : w.heap[b]? = some (.map es clock)) (key : ByteArray) (val : Value)
    (hf : Instr.findNow .string (.string key) es.toList 0 = some none) :
    (Instr.mapUpdate t (.map (some b)) (.string key) val).run P w = .ok () { w with heap := w.heap.setIfInBounds b (.map (es.push ⟨.string key, val, clock⟩) (clock + 1)) } := by
  have hc : (Instr.checkKey false 10000 k (.string key)).run P w = .ok () w := MapKept.run_checkKey (k := .string key) hk (by simp [MapKept.IsKey]) false 9999
  simp [Instr.mapUpdate, run_underlying ht, MapKept.run_getObj_map hb, hc, MapKept.run_findKey hk hf, MapKept.run_setObj_map _ hb, Result.andThen]
theorem run_sget (w : World) (t k e : TypeId) (ht : P.underlying t = some (.map k e)) (hk : P.underlying k = some .string) (b : Nat) (es : Array MapEntry) (clock : Nat) (hb : w.heap[b]? = some (.map es clock)) (key : ByteArray) (j : Nat) (v : Value)
    (hf : Instr.findNow .string (.string key) es.toList 0 = some (some (j, v))) : (Instr.lookup t (.map (some b)) (.string key) false).run P w = .ok v w := by
  have hc : (Instr.checkKey es.isEmpty 10000 k (.string key)).run P w = .ok () w := MapKept.run_checkKey (k := .string key) hk (by simp [MapKept.IsKey]) _ 9999
  simp [Instr.lookup, run_underlying ht, MapKept.run_getObj_map hb, hc, MapKept.run_findKey hk hf, Result.andThen]
theorem run_snone (w : World) (t k e : TypeId) (ht : P.underlying t = some (.map k e)) (hk : P.underlying k = some .string) (b : Nat) (es : Array MapEntry) (clock : Nat) (hb : w.heap[b]? = some (.map es clock)) (key : ByteArray) (z : Value)
    (hz : (zeroValue e).run P w = .ok z w) (hf : Instr.findNow .string (.string key) es.toList 0 = some none) : (Instr.lookup t (.map (some b)) (.string key) false).run P w = .ok z w := by
  have hc : (Instr.checkKey es.isEmpty 10000 k (.string key)).run P w = .ok () w := MapKept.run_checkKey (k := .string key) hk (by simp [MapKept.IsKey]) _ 9999
  simp [Instr.lookup, run_underlying ht, MapKept.run_getObj_map hb, hc, MapKept.run_findKey hk hf, Result.andThen, hz]
theorem run_sdel (w : World) (t k e ty : TypeId) (ht : P.underlying t = some (.map k e)) (hk : P.underlying k = some .string) (b : Nat) (es : Array MapEntry) (clock : Nat) (hb : w.heap[b]? = some (.map es clock)) (key : ByteArray) (j : Nat) (v : Value)
    (hf : Instr.findNow .string (.string key) es.toList 0 = some (some (j, v))) :
    (Builtin.delete_ #[t, k] ty #[.map (some b), .string key]).run P w = .ok (.tuple #[]) { w with heap := w.heap.setIfInBounds b (.map (es.eraseIdxIfInBounds j) clock) } := by
  have hc : (Instr.checkKey es.isEmpty 10000 k (.string key)).run P w = .ok () w := MapKept.run_checkKey (k := .string key) hk (by simp [MapKept.IsKey]) _ 9999
  simp [Builtin.delete_, run_underlying ht, MapKept.run_getObj_map hb, hc, MapKept.run_findKey hk hf, MapKept.run_setObj_map _ hb, Result.andThen]
end
/-- The place of key k among the options in block O. -/
def placeV (O k : Nat) : Value := .pointer (some ⟨O, k, none⟩)
theorem keyN_one {i k : Nat} (hi : i < 4) (hk : k < 4) (h : keyN i = keyN k) : i = k := by
  rcases (show i = 0 ∨ i = 1 ∨ i = 2 ∨ i = 3 by omega) with rfl | rfl | rfl | rfl <;> rcases (show k = 0 ∨ k = 1 ∨ k = 2 ∨ k = 3 by omega) with rfl | rfl | rfl | rfl <;> first | rfl | (exact absurd h (by decide))
/-- The key as a map's key. -/
def keyV (k : Nat) : Value := .string (strA (keyN k))
theorem keyV_one {i k : Nat} (hi : i < 4) (hk : k < 4) (h : keyV i = keyV k) : i = k := by
  unfold keyV at h
  exact keyN_one hi hk (strA_one (by simpa using h))
/-- An entry of a map of places. -/
def IsEnt (O : Nat) (e : MapEntry) (k : Nat) : Prop := k < 4 ∧ e.key = keyV k ∧ e.val = placeV O k
theorem erase_to {α : Type} (l : List α) (j : Nat) : l.toArray.eraseIdxIfInBounds j = (l.eraseIdx j).toArray := by
  unfold Array.eraseIdxIfInBounds
  split
  · simp
  · rename_i h
    rw [List.eraseIdx_of_length_le (by simpa using h)]
/-- The map in block B: the places of the keys that didn't stand yet, in whatever order. -/
def MapP (w : World) (B O : Nat) (seen : List Bool) : Prop :=
  ∃ (es : List MapEntry) (c : Nat), w.heap[B]? = some (.map es.toArray c) ∧ (∀ e ∈ es, ∃ k, IsEnt O e k ∧ seen.getD k false = false) ∧ (∀ k, k < 4 → seen.getD k false = false → ∃ e ∈ es, e.key = keyV k) ∧ es.Pairwise (fun x y => x.key ≠ y.key)
theorem ents_str {O : Nat} {es : List MapEntry} (h : ∀ e ∈ es, ∃ k, IsEnt O e k) : ∀ e ∈ es, MapKept.IsKey .string e.key := fun e he => by
  obtain ⟨k, -, hk, -⟩ := h e he
  rw [hk]
  simp [MapKept.IsKey, keyV]
/-- No entry has the key. -/
theorem find_no {O : Nat} {es : List MapEntry} (h : ∀ e ∈ es, ∃ k, IsEnt O e k) {s : ByteArray} (hn : ∀ e ∈ es, e.key ≠ .string s) : Instr.findNow .string (.string s) es 0 = some none := by
  rcases MapKept.findNow_spec (d := .string) (k := .string s) (by simp [MapKept.IsKey]) es 0 (ents_str h) with ⟨h1, -⟩ | ⟨j, e, -, h2, h3⟩
  · exact h1
  · exact absurd h3 (hn e (List.mem_of_getElem? h2))
theorem find_yes {O : Nat} {es : List MapEntry} (h : ∀ e ∈ es, ∃ k, IsEnt O e k) {k : Nat} (hk : k < 4) (hn : ∃ e ∈ es, e.key = keyV k) : ∃ j e, Instr.findNow .string (keyV k) es 0 = some (some (j, placeV O k)) ∧ es[j]? = some e ∧ e.key = keyV k := by
  rcases MapKept.findNow_spec (d := .string) (k := keyV k) (by simp [MapKept.IsKey, keyV]) es 0 (ents_str h) with ⟨-, h2⟩ | ⟨j, e, h1, h2, h3⟩
  · obtain ⟨e, he, hk'⟩ := hn
    exact absurd hk' (h2 e he)
  · obtain ⟨i, hi, hik, hiv⟩ := h e (List.mem_of_getElem? h2)
    obtain rfl := keyV_one hi hk (hik.symm.trans h3)
    rw [hiv, Nat.zero_add] at h1
    exact ⟨j, e, h1, h2, h3⟩
theorem erase_ne {es : List MapEntry} (hp : es.Pairwise (fun x y => x.key ≠ y.key)) {j : Nat} {e : MapEntry} (he : es[j]? = some e) {x : MapEntry} (hx : x ∈ es.eraseIdx j) : x ∈ es ∧ x.key ≠ e.key := by
  refine ⟨List.mem_of_mem_eraseIdx hx, ?_⟩
  obtain ⟨i, hi, hne, hget⟩ := List.mem_eraseIdx_iff_getElem.1 hx
  obtain ⟨hj, hje⟩ := List.getElem?_eq_some_iff.1 he
  have hpw := List.pairwise_iff_getElem.1 hp
  rw [← hget, ← hje]
  rcases Nat.lt_or_gt_of_ne hne with h | h
  · exact hpw i j hi hj h
  · exact (hpw j i hj hi h).symm
theorem erase_has {es : List MapEntry} {j : Nat} {e : MapEntry} (he : es[j]? = some e) {x : MapEntry} (hx : x ∈ es) (hne : x.key ≠ e.key) : x ∈ es.eraseIdx j := by
  obtain ⟨i, hi, hget⟩ := List.getElem_of_mem hx
  refine List.mem_eraseIdx_iff_getElem.2 ⟨i, hi, ?_, hget⟩
  rintro rfl
  rw [List.getElem?_eq_getElem hi] at he
  exact hne (by rw [← hget, Option.some.inj he])
theorem MapP.lt {w : World} {B O : Nat} {seen : List Bool} (h : MapP w B O seen) : B < w.heap.size := by
  obtain ⟨es, c, h, -⟩ := h
  exact (Array.getElem?_eq_some_iff.1 h).1
theorem MapP.heap {w w' : World} {B O : Nat} {seen : List Bool} (h : MapP w B O seen) (e : w'.heap[B]? = w.heap[B]?) : MapP w' B O seen := by
  obtain ⟨es, c, h, r⟩ := h
  exact ⟨es, c, e.trans h, r⟩
theorem MapP.below {w w' : World} {B O base : Nat} {seen : List Bool} (h : MapP w B O seen) (hb : Below base w w') (hB : B < base) : MapP w' B O seen := h.heap (hb.block B hB)
theorem MapP.setCell {w : World} {B O : Nat} {seen : List Bool} (h : MapP w B O seen) (a : Addr) (v : Value) (hn : B ≠ a.block) : MapP (w.setCell a v) B O seen := h.heap (Below.heap_setCell w a v B hn)
/-- A block of its own that is set. -/
theorem below_setBlk {base : Nat} (w : World) {B : Nat} (o : Obj) (h : base ≤ B) : Below base w { w with heap := w.heap.setIfInBounds B o } :=
  ⟨rfl, rfl, rfl, by simp, fun k hk => by
    show (w.heap.setIfInBounds B o)[k]? = _
    simp [show B ≠ k by omega]⟩
theorem other_setBlk (w : World) {B j : Nat} (o : Obj) (h : j ≠ B) : ({ w with heap := w.heap.setIfInBounds B o } : World).heap[j]? = w.heap[j]? := by
  show (w.heap.setIfInBounds B o)[j]? = _
  simp [Ne.symm h]
theorem zero_place (w : World) : (zeroValue 43).run Tryd.prog w = .ok (.pointer none) w := by kernel_rfl
/-- What the map gives to a key. -/
theorem places_yes {w : World} {B O : Nat} {seen : List Bool} (h : MapP w B O seen) (hs : seen.length = 4) {k : Nat} (hk : k < 4) (hf : seen.getD k false = false) :
    (Instr.lookup 44 (.map (some B)) (.string (strA (keyN k))) false).run Tryd.prog w = .ok (placeV O k) w ∧
    ∃ w', (∀ ty, (Builtin.delete_ #[44, 9] ty #[.map (some B), .string (strA (keyN k))]).run Tryd.prog w = .ok (.tuple #[]) w') ∧ MapP w' B O (seen.set k true) ∧ (∀ base, base ≤ B → Below base w w') ∧ ∀ j, j ≠ B → w'.heap[j]? = w.heap[j]? := by
  obtain ⟨es, c, hb, hall, hhas, hpw⟩ := h
  have hent : ∀ e ∈ es, ∃ k, IsEnt O e k := fun e he => (hall e he).imp fun _ h => h.1
  obtain ⟨j, e, h1, h2, h3⟩ := find_yes hent hk (hhas k hk hf)
  have h1' : Instr.findNow .string (.string (strA (keyN k))) es.toArray.toList 0 = some (some (j, placeV O k)) := h1
  refine ⟨run_sget w _ _ _ Tryd.underlying44 Tryd.underlying9 B _ c hb _ j _ h1', _, fun ty => run_sdel w _ _ _ ty Tryd.underlying44 Tryd.underlying9 B _ c hb _ j _ h1', ?_, fun base hB => below_setBlk w _ hB, fun j hj => other_setBlk w _ hj⟩
  refine ⟨es.eraseIdx j, c, ?_, ?_, ?_, hpw.sublist (List.eraseIdx_sublist ..)⟩
  · rw [← erase_to]
    exact (MapKept.heap_set hb).1
  · intro x hx
    obtain ⟨hx1, hx2⟩ := erase_ne hpw h2 hx
    obtain ⟨i, hi, hsi⟩ := hall x hx1
    refine ⟨i, hi, ?_⟩
    have hik : k ≠ i := fun e' => hx2 (by rw [hi.2.1, h3, e'])
    rw [List.getD_eq_getElem?_getD, List.getElem?_set_ne hik, ← List.getD_eq_getElem?_getD]
    exact hsi
  · intro i hi hsi
    have hik : k ≠ i := fun e' => by
      rw [← e', List.getD_eq_getElem?_getD, List.getElem?_set_self (by omega)] at hsi
      cases hsi
    rw [List.getD_eq_getElem?_getD, List.getElem?_set_ne hik, ← List.getD_eq_getElem?_getD] at hsi
    obtain ⟨x, hx, hxk⟩ := hhas i hi hsi
    exact ⟨x, erase_has h2 hx (by rw [hxk, h3]; exact fun e' => hik (keyV_one hi hk e').symm), hxk⟩
theorem places_no {w : World} {B O : Nat} {seen : List Bool} (h : MapP w B O seen) {x : List UInt8} (hx : ∀ k, k < 4 → x = keyN k → seen.getD k false = true) :
    (Instr.lookup 44 (.map (some B)) (.string (strA x)) false).run Tryd.prog w = .ok (.pointer none) w := by
  obtain ⟨es, c, hb, hall, hhas, hpw⟩ := h
  have hent : ∀ e ∈ es, ∃ k, IsEnt O e k := fun e he => (hall e he).imp fun _ h => h.1
  have hf := find_no (s := strA x) hent (fun e he hk => by
    obtain ⟨i, hi, hsi⟩ := hall e he
    have : strA (keyN i) = strA x := by
      have h' := hi.2.1.symm.trans hk
      unfold keyV at h'
      simpa using h'
    rw [hx i hi.1 (strA_one this).symm] at hsi
    cases hsi)
  exact run_snone w _ _ _ Tryd.underlying44 Tryd.underlying9 B _ c hb _ _ (zero_place w) hf
end Go.Proofs.YtnfkekaeppgaoaaDoor
