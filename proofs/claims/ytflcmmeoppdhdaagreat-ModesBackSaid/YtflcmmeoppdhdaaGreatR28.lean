/-
  Layer 23: a key's cell, what becomes of a chance, rows of chances. Pure. · Layer 24: weights, and the chance that is mixed. Pure. · Layer 25: where a model is, what it knows, what becomes of both behind a bit. Pure. · Layer 17: the reference: May, Narrow. · Layer 17: the reference's decoder.
-/
import Derived.Test.YtflcmmeoppdhdaaGreatR02
import Derived.Test.YtflcmmeoppdhdaaGreatR03
import Derived.Test.YtflcmmeoppdhdaaGreatR21
import Derived.Test.YtflcmmeoppdhdaaGreatR23
import Derived.Deep.QuietTactic
namespace Go.Proofs.YtflcmmeoppdhdaaGreat
open Go.RowKit

/-- A key's cell among 2^bits. -/
def placeC (key bits : Nat) : Nat := key * 2654435761 % 4294967296 / 2 ^ (32 - bits)
theorem placeC_lt {bits : Nat} (key : Nat) (h : bits ≤ 32) : placeC key bits < 2 ^ bits := by
  unfold placeC
  rw [Nat.div_lt_iff_lt_mul (Nat.two_pow_pos _), ← Nat.pow_add, show bits + (32 - bits) = 32 by omega]
  exact Nat.mod_lt _ (by decide)
/-- What becomes of a chance behind a bit, ahead of its being held. -/
def rawC (p : Nat) (bit : Int) : Nat := if bit = 0 then p - p / 16 else p + (65536 - p) / 16
def heldC (p : Nat) : Nat := min (max p 32) 65504
def afterC (p : Nat) (bit : Int) : Nat := heldC (rawC p bit)
/-- A number is a chance. -/
def ChC (p : Nat) : Prop := 32 ≤ p ∧ p ≤ 65504
theorem heldC_ok (p : Nat) : ChC (heldC p) := by unfold ChC heldC; omega
theorem afterC_ok (p : Nat) (bit : Int) : ChC (afterC p bit) := heldC_ok _
/-- A row of chances behind a bit of its k-th. -/
def seenC (R : List Nat) (k : Nat) (bit : Int) : List Nat := R.set k (afterC (R.getD k 0) bit)
/-- A row of n chances. -/
structure RowC (n : Nat) (R : List Nat) : Prop where
  len : R.length = n
  ok : ∀ p ∈ R, ChC p
theorem RowC.get {n : Nat} {R : List Nat} (h : RowC n R) {k : Nat} (hk : k < n) : ChC (R.getD k 0) := by
  have hk' : k < R.length := by rw [h.len]; exact hk
  rw [List.getD_eq_getElem?_getD, List.getElem?_eq_getElem hk', Option.getD_some]
  exact h.ok _ (List.getElem_mem hk')
theorem RowC.set {n : Nat} {R : List Nat} (h : RowC n R) (k : Nat) {p : Nat} (hp : ChC p) : RowC n (R.set k p) :=
  ⟨by rw [List.length_set]; exact h.len, fun q hq => by
    rcases List.mem_or_eq_of_mem_set hq with h1 | h1
    · exact h.ok q h1
    · rw [h1]; exact hp⟩
theorem RowC.seen {n : Nat} {R : List Nat} (h : RowC n R) (k : Nat) (bit : Int) : RowC n (seenC R k bit) := h.set k (afterC_ok _ _)
theorem RowC.even (n : Nat) : RowC n (List.replicate n 32768) := ⟨by simp, fun p hp => by obtain ⟨-, rfl⟩ := List.mem_replicate.1 hp; unfold ChC; omega⟩
/-- Numbers of 32 bits as cells. -/
def cvs (l : List Nat) : List Value := l.map fun (x : Nat) => Value.int .u32 (x : Int)
theorem cvs_set (l : List Nat) (k x : Nat) : (cvs l).set k (.int .u32 (x : Int)) = cvs (l.set k x) := by simp [cvs, List.map_set]
theorem cvs_at {n : Nat} {R : List Nat} (h : RowC n R) {k : Nat} (hk : k < n) : (cvs R)[k]? = some (.int .u32 (R.getD k 0 : Nat)) := by
  have hk' : k < R.length := by rw [h.len]; exact hk
  simp [cvs, hk', List.getD_eq_getElem?_getD]
end Go.Proofs.YtflcmmeoppdhdaaGreat
namespace Go.Proofs.YtflcmmeoppdhdaaGreat
open Go.RowKit

/-- A number as a part of the whole. -/
def clM (p : Int) : Int := min (max p 0) 65536
theorem clM_ok (p : Int) : 0 ≤ clM p ∧ clM p ≤ 65536 := by unfold clM; omega
/-- Each chance times its weight, all together. -/
def dotM : List Int → List Int → Int
  | w :: W, p :: L => w * clM p + dotM W L
  | _, _ => 0
def heldM (p : Int) : Int := min (max p 32) 65504
theorem heldM_ok (p : Int) : 32 ≤ heldM p ∧ heldM p ≤ 65504 := by unfold heldM; omega
/-- The mixed chance. -/
def mixM (W L : List Int) : Int := heldM (dotM W L / W.sum)
/-- How far a chance is from a bit. -/
def farM (p bit : Int) : Int := if bit = 0 then p else 65536 - p
/-- What becomes of a weight. -/
def nextM (x own mixed : Int) : Int := if own < mixed then min (x + 1) 255 else if mixed < own then max (x - 1) 1 else x
/-- What becomes of all. -/
def seenM (W L : List Int) (bit : Int) : List Int := List.zipWith (fun x p => nextM x (farM (clM p) bit) (farM (mixM W L) bit)) W L
/-- Weights are 1 to 255. -/
structure WtsM (n : Nat) (W : List Int) : Prop where
  len : W.length = n
  ok : ∀ x ∈ W, 1 ≤ x ∧ x ≤ 255
theorem nextM_ok {x : Int} (h : 1 ≤ x ∧ x ≤ 255) (a b : Int) : 1 ≤ nextM x a b ∧ nextM x a b ≤ 255 := by
  unfold nextM
  split
  · omega
  · split <;> omega
theorem WtsM.seen {n : Nat} {W L : List Int} (h : WtsM n W) (hl : L.length = n) (bit : Int) : WtsM n (seenM W L bit) :=
  ⟨by simp [seenM, h.len, hl], fun x hx => by
    unfold seenM at hx
    obtain ⟨i, hi, rfl⟩ := List.getElem_of_mem hx
    rw [List.getElem_zipWith]
    exact nextM_ok (h.ok _ (List.getElem_mem _)) _ _⟩
theorem WtsM.first (n : Nat) : WtsM n (List.replicate n 64) := ⟨by simp, fun x hx => by obtain ⟨-, rfl⟩ := List.mem_replicate.1 hx; omega⟩
theorem sumM_le : ∀ {W : List Int}, (∀ x ∈ W, 1 ≤ x ∧ x ≤ 255) → (W.length : Int) ≤ W.sum ∧ W.sum ≤ 255 * W.length
  | [], _ => by simp
  | x :: W, h => by
    have h1 := h x List.mem_cons_self
    have h2 := sumM_le (W := W) fun y hy => h y (List.mem_cons_of_mem _ hy)
    simp only [List.sum_cons, List.length_cons]
    omega
theorem dotM_le : ∀ {W : List Int} (L : List Int) (lo hi : Int), (∀ x ∈ W, 1 ≤ x ∧ x ≤ 255) → W.length = L.length → (∀ p ∈ L, lo ≤ clM p ∧ clM p ≤ hi) → lo * W.sum ≤ dotM W L ∧ dotM W L ≤ hi * W.sum
  | [], [], lo, hi, _, _, _ => by simp [dotM]
  | x :: W, p :: L, lo, hi, h, hl, hp => by
    have h1 := h x List.mem_cons_self
    have h2 := dotM_le (W := W) L lo hi (fun y hy => h y (List.mem_cons_of_mem _ hy)) (by simpa using hl) (fun q hq => hp q (List.mem_cons_of_mem _ hq))
    have h3 := hp p List.mem_cons_self
    have h4 := Int.mul_le_mul_of_nonneg_left h3.1 (show 0 ≤ x by omega)
    have h5 := Int.mul_le_mul_of_nonneg_left h3.2 (show 0 ≤ x by omega)
    simp only [dotM, List.sum_cons, Int.mul_add]
    rw [Int.mul_comm lo x, Int.mul_comm hi x]
    omega
  | [], _ :: _, _, _, _, hl, _ => by simp at hl
  | _ :: _, [], _, _, _, hl, _ => by simp at hl
theorem dotM_ok {n : Nat} {W L : List Int} (h : WtsM n W) (hl : L.length = n) : 0 ≤ dotM W L ∧ dotM W L ≤ 65536 * W.sum := by
  have := dotM_le L 0 65536 h.ok (by rw [h.len, hl]) fun p _ => clM_ok p
  omega
theorem dotM_append : ∀ (W L W' L' : List Int), W.length = L.length → dotM (W ++ W') (L ++ L') = dotM W L + dotM W' L'
  | [], [], _, _, _ => by simp [dotM]
  | x :: W, p :: L, W', L', h => by
    have := dotM_append W L W' L' (by simpa using h)
    simp only [List.cons_append, dotM, this]
    omega
  | [], _ :: _, _, _, h => by simp at h
  | _ :: _, [], _, _, h => by simp at h
theorem dotM_snoc {W L : List Int} {k : Nat} (hw : k < W.length) (hl : k < L.length) : dotM (W.take (k + 1)) (L.take (k + 1)) = dotM (W.take k) (L.take k) + W[k] * clM L[k] := by
  rw [List.take_add_one, List.take_add_one, List.getElem?_eq_getElem hw, List.getElem?_eq_getElem hl, dotM_append _ _ _ _ (by simp; omega)]
  simp [dotM]
theorem sumM_snoc {W : List Int} {k : Nat} (hw : k < W.length) : (W.take (k + 1)).sum = (W.take k).sum + W[k] := by
  rw [List.take_add_one, List.getElem?_eq_getElem hw, List.sum_append]
  simp
theorem seenM_get {n : Nat} {W L : List Int} (h : WtsM n W) (hl : L.length = n) (bit : Int) {k : Nat} (hk : k < n) :
    (seenM W L bit)[k]? = some (nextM (W[k]'(by rw [h.len]; exact hk)) (farM (clM (L[k]'(by rw [hl]; exact hk))) bit) (farM (mixM W L) bit)) := by
  unfold seenM
  rw [List.getElem?_zipWith, List.getElem?_eq_getElem (by rw [h.len]; exact hk), List.getElem?_eq_getElem (by rw [hl]; exact hk)]
/-- The first k weights have followed. -/
def stepM (W L : List Int) (bit : Int) (k : Nat) : List Int := (seenM W L bit).take k ++ W.drop k
theorem stepM_zero (W L : List Int) (bit : Int) : stepM W L bit 0 = W := by simp [stepM]
theorem stepM_all {n : Nat} {W L : List Int} (h : WtsM n W) (hl : L.length = n) (bit : Int) : stepM W L bit n = seenM W L bit := by
  have := (h.seen hl bit).len
  unfold stepM
  rw [List.drop_of_length_le (by rw [h.len]; exact Nat.le_refl _), List.append_nil, List.take_of_length_le (by omega)]
theorem stepM_len {n : Nat} {W L : List Int} (h : WtsM n W) (hl : L.length = n) (bit : Int) {k : Nat} (hk : k ≤ n) : (stepM W L bit k).length = n := by
  have h1 := (h.seen hl bit).len
  have h2 := h.len
  simp [stepM]; omega
theorem stepM_get {n : Nat} {W L : List Int} (h : WtsM n W) (hl : L.length = n) (bit : Int) {k : Nat} (hk : k < n) : (stepM W L bit k)[k]? = some (W[k]'(by rw [h.len]; exact hk)) := by
  have h1 := (h.seen hl bit).len
  unfold stepM
  rw [List.getElem?_append_right (by simp; omega), List.getElem?_drop]
  simp only [List.length_take]
  rw [show k + (k - min k (seenM W L bit).length) = k by omega, List.getElem?_eq_getElem]
theorem stepM_succ {n : Nat} {W L : List Int} (h : WtsM n W) (hl : L.length = n) (bit : Int) {k : Nat} (hk : k < n) :
    (stepM W L bit k).set k (nextM (W[k]'(by rw [h.len]; exact hk)) (farM (clM (L[k]'(by rw [hl]; exact hk))) bit) (farM (mixM W L) bit)) = stepM W L bit (k + 1) := by
  have h1 := (h.seen hl bit).len
  unfold stepM
  rw [List.set_append_right _ _ (by simp; omega)]
  simp only [List.length_take]
  rw [show k - min k (seenM W L bit).length = 0 by omega, List.take_add_one, seenM_get h hl bit hk, List.append_assoc]
  congr 1
  have hd : W.drop k = W[k]'(by rw [h.len]; exact hk) :: W.drop (k + 1) := List.drop_eq_getElem_cons (by rw [h.len]; exact hk)
  rw [hd, List.set_cons_zero]
  rfl
end Go.Proofs.YtflcmmeoppdhdaaGreat
namespace Go.Proofs.YtflcmmeoppdhdaaGreat
open Go.RowKit

/-- Where a model is: a node, the last byte, the one ahead. -/
structure PosD where
  node : Nat
  last : Nat
  ahead : Nat
structure PosD.ok (p : PosD) : Prop where
  n1 : 1 ≤ p.node
  n2 : p.node < 256
  l : p.last < 256
  a : p.ahead < 256
def PosD.k1 (p : PosD) : Nat := p.node
def PosD.k2 (p : PosD) : Nat := 65536 + 256 * p.last + p.node
def PosD.k3 (p : PosD) : Nat := 16777216 + 65536 * p.ahead + 256 * p.last + p.node
def nodeD (n : Nat) (bit : Int) : Nat := 2 * n + if bit = 0 then 0 else 1
def PosD.step (p : PosD) (bit : Int) : PosD := if 256 ≤ nodeD p.node bit then ⟨1, nodeD p.node bit - 256, p.last⟩ else ⟨nodeD p.node bit, p.last, p.ahead⟩
theorem nodeD_le (n : Nat) (bit : Int) : 2 * n ≤ nodeD n bit ∧ nodeD n bit ≤ 2 * n + 1 := by unfold nodeD; split <;> omega
theorem PosD.ok.step {p : PosD} (h : p.ok) (bit : Int) : (p.step bit).ok := by
  obtain ⟨h1, h2, h3, h4⟩ := h
  have hn := nodeD_le p.node bit
  unfold PosD.step
  split
  · exact ⟨Nat.le_refl _, (by show 1 < 256; decide), by show nodeD p.node bit - 256 < 256; omega, h3⟩
  · exact ⟨by show 1 ≤ nodeD p.node bit; omega, by show nodeD p.node bit < 256; omega, h3, h4⟩

/-- What a model knows: where it is, three rows of chances, three weights. -/
structure ModD where
  p : PosD
  A : List Nat
  B : List Nat
  C : List Nat
  W : List Int
structure ModD.ok (s : ModD) : Prop where
  pos : s.p.ok
  a : RowC 512 s.A
  b : RowC 2048 s.B
  c : RowC 8192 s.C
  w : WtsM 3 s.W
def ModD.i1 (s : ModD) : Nat := placeC s.p.k1 9
def ModD.i2 (s : ModD) : Nat := placeC s.p.k2 11
def ModD.i3 (s : ModD) : Nat := placeC s.p.k3 13
/-- What the three rows tell. -/
def ModD.ch (s : ModD) : List Int := [((s.A.getD s.i1 0 : Nat) : Int), ((s.B.getD s.i2 0 : Nat) : Int), ((s.C.getD s.i3 0 : Nat) : Int)]
/-- The chance that the next bit is 1. -/
def ModD.chance (s : ModD) : Int := mixM s.W s.ch
def ModD.seen (s : ModD) (bit : Int) : ModD := ⟨s.p.step bit, seenC s.A s.i1 bit, seenC s.B s.i2 bit, seenC s.C s.i3 bit, seenM s.W s.ch bit⟩
def newD : ModD := ⟨⟨1, 0, 0⟩, List.replicate 512 32768, List.replicate 2048 32768, List.replicate 8192 32768, List.replicate 3 64⟩
theorem newD_ok : newD.ok := ⟨⟨by decide, by decide, by decide, by decide⟩, RowC.even _, RowC.even _, RowC.even _, WtsM.first _⟩
theorem ModD.ch_len (s : ModD) : s.ch.length = 3 := rfl
theorem ModD.ok.seen {s : ModD} (h : s.ok) (bit : Int) : (s.seen bit).ok :=
  ⟨h.pos.step bit, h.a.seen _ _, h.b.seen _ _, h.c.seen _ _, h.w.seen s.ch_len bit⟩
theorem ModD.chance_ok (s : ModD) : 32 ≤ s.chance ∧ s.chance ≤ 65504 := heldM_ok _
/-- A byte's bits, the highest first, and the node behind k of them. -/
def bitD (c k : Nat) : Nat := c / 2 ^ (7 - k) % 2
theorem bitD_lt (c k : Nat) : bitD c k < 2 := Nat.mod_lt _ (by decide)
end Go.Proofs.YtflcmmeoppdhdaaGreat
namespace Go.Proofs.YtflcmmeoppdhdaaGreat
open Go.RowKit Go.Sort

/-- May a part be? -/
def mayP (low size total : Int) : Bool := decide (0 ≤ low) && decide (1 ≤ size) && decide (total ≤ 65536) && decide (low ≤ 65536) && decide (size ≤ 65536) && decide (low + size ≤ total)
section
variable {w : World}
end
end Go.Proofs.YtflcmmeoppdhdaaGreat
namespace Go.Proofs.YtflcmmeoppdhdaaGreat
open Go.RowKit Go.Sort

section
variable {w : World} {D K : Nat} {L R C E : Nat} {B : List Nat}
theorem size_u8d : (Tryz.prog.info? 5).map (·.size) = some 1 := by kernel_rfl
/-- A span within a decoder, narrowed; then as many bytes come as moved. -/
theorem mayP_iff {low size total : Nat} : mayP (low : Int) (size : Int) (total : Int) = true ↔ 1 ≤ size ∧ low + size ≤ total ∧ total ≤ 65536 := by
  simp only [mayP, Bool.and_eq_true, decide_eq_true_eq]
  omega
end
end Go.Proofs.YtflcmmeoppdhdaaGreat
