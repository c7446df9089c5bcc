/-
  Layer 23: a key's cell, what becomes of a chance, rows of chances. Pure. · Layer 24: weights, and the chance that is mixed. Pure. · Layer 25: where a model is, what it knows, what becomes of both behind a bit. Pure. · Layer 17: the reference: May, Narrow. · Layer 17: the reference's decoder.
-/
import Derived.Test.YtflcmmeoppdhdaaGreatQ02
import Derived.Test.YtflcmmeoppdhdaaGreatQ03
import Derived.Test.YtflcmmeoppdhdaaGreatQ21
import Derived.Test.YtflcmmeoppdhdaaGreatQ23
import Derived.Deep.QuietTactic
namespace Go.Proofs.YtflcmmeoppdhdaaGreat
open Go.RowKit

/-- A key's cell among 2^bits. -/
def placeC (key bits : Nat) : Nat := key * 2654435761 % 4294967296 / 2 ^ (32 - bits)
theorem placeC_lt {bits : Nat} (key : Nat) (h : bits ≤ 32) : placeC key bits < 2 ^ bits := by
  unfold placeC
  rw [Nat.div_lt_iff_lt_mul (Nat.two_pow_pos _), ← Nat.pow_add, show bits + (32 - bits) = 32 by omega]
  exact Nat.mod_lt _ (by decide)
/-- What becomes of a chance behind a bit, ahead of its being held. -/
def rawC (p : Nat) (bit : Int) : Nat := if bit = 0 then p - p / 16 else p + (65536 - p) / 16
def heldC (p : Nat) : Nat := min (max p 32) 65504
def afterC (p : Nat) (bit : Int) : Nat := heldC (rawC p bit)
/-- A number is a chance. -/
def ChC (p : Nat) : Prop := 32 ≤ p ∧ p ≤ 65504
theorem heldC_ok (p : Nat) : ChC (heldC p) := by unfold ChC heldC; omega
theorem afterC_ok (p : Nat) (bit : Int) : ChC (afterC p bit) := heldC_ok _
/-- A row of chances behind a bit of its k-th. -/
def seenC (R : List Nat) (k : Nat) (bit : Int) : List Nat := R.set k (afterC (R.getD k 0) bit)
/-- A row of n chances. -/
structure RowC (n : Nat) (R : List Nat) : Prop where
  len : R.length = n
  ok : ∀ p ∈ R, ChC p
theorem RowC.get {n : Nat} {R : List Nat} (h : RowC n R) {k : Nat} (hk : k < n) : ChC (R.getD k 0) := by
  have hk' : k < R.length := by rw [h.len]; exact hk
  rw [List.getD_eq_getElem?_getD, List.getElem?_eq_getElem hk', Option.getD_some]
  exact h.ok _ (List.getElem_mem hk')
theorem RowC.set {n : Nat} {R : List Nat} (h : RowC n R) (k : Nat) {p : Nat} (hp : ChC p) : RowC n (R.set k p) :=
  ⟨by rw [List.length_set]; exact h.len, fun q hq => by
    rcases List.mem_or_eq_of_mem_set hq with h1 | h1
    · exact h.ok q h1
    · rw [h1]; exact hp⟩
theorem RowC.seen {n : Nat} {R : List Nat} (h : RowC n R) (k : Nat) (bit : Int) : RowC n (seenC R k bit) := h.set k (afterC_ok _ _)
theorem RowC.even (n : Nat) : RowC n (List.replicate n 32768) := ⟨by simp, fun p hp => by obtain ⟨-, rfl⟩ := List.mem_replicate.1 hp; unfold ChC; omega⟩
/-- Numbers of 32 bits as cells. -/
def cvs (l : List Nat) : List Value := l.map fun (x : Nat) => Value.int .u32 (x : Int)
/-- The same as ints. -/
def ivsN (l : List Nat) : List Value := l.map fun (x : Nat) => Value.int .i64 (x : Int)
theorem cvs_set (l : List Nat) (k x : Nat) : (cvs l).set k (.int .u32 (x : Int)) = cvs (l.set k x) := by simp [cvs, List.map_set]
theorem ivs_set (l : List Nat) (k x : Nat) : (ivsN l).set k (.int .i64 (x : Int)) = ivsN (l.set k x) := by simp [ivsN, List.map_set]
theorem cvs_at {n : Nat} {R : List Nat} (h : RowC n R) {k : Nat} (hk : k < n) : (cvs R)[k]? = some (.int .u32 (R.getD k 0 : Nat)) := by
  have hk' : k < R.length := by rw [h.len]; exact hk
  simp [cvs, hk', List.getD_eq_getElem?_getD]
theorem ivs_at {n : Nat} {R : List Nat} (h : RowC n R) {k : Nat} (hk : k < n) : (ivsN R)[k]? = some (.int .i64 (R.getD k 0 : Nat)) := by
  have hk' : k < R.length := by rw [h.len]; exact hk
  simp [ivsN, hk', List.getD_eq_getElem?_getD]
end Go.Proofs.YtflcmmeoppdhdaaGreat
namespace Go.Proofs.YtflcmmeoppdhdaaGreat
open Go.RowKit

/-- A number as a part of the whole. -/
def clM (p : Int) : Int := min (max p 0) 65536
theorem clM_ok (p : Int) : 0 ≤ clM p ∧ clM p ≤ 65536 := by unfold clM; omega
/-- Each chance times its weight, all together. -/
def dotM : List Int → List Int → Int
  | w :: W, p :: L => w * clM p + dotM W L
  | _, _ => 0
def heldM (p : Int) : Int := min (max p 32) 65504
theorem heldM_ok (p : Int) : 32 ≤ heldM p ∧ heldM p ≤ 65504 := by unfold heldM; omega
/-- The mixed chance. -/
def mixM (W L : List Int) : Int := heldM (dotM W L / W.sum)
/-- How far a chance is from a bit. -/
def farM (p bit : Int) : Int := if bit = 0 then p else 65536 - p
/-- What becomes of a weight. -/
def nextM (x own mixed : Int) : Int := if own < mixed then min (x + 1) 255 else if mixed < own then max (x - 1) 1 else x
/-- What becomes of all. -/
def seenM (W L : List Int) (bit : Int) : List Int := List.zipWith (fun x p => nextM x (farM (clM p) bit) (farM (mixM W L) bit)) W L
/-- Weights are 1 to 255. -/
structure WtsM (n : Nat) (W : List Int) : Prop where
  len : W.length = n
  ok : ∀ x ∈ W, 1 ≤ x ∧ x ≤ 255
theorem nextM_ok {x : Int} (h : 1 ≤ x ∧ x ≤ 255) (a b : Int) : 1 ≤ nextM x a b ∧ nextM x a b ≤ 255 := by
  unfold nextM
  split
  · omega
  · split <;> omega
theorem WtsM.seen {n : Nat} {W L : List Int} (h : WtsM n W) (hl : L.length = n) (bit : Int) : WtsM n (seenM W L bit) :=
  ⟨by simp [seenM, h.len, hl], fun x hx => by
    unfold seenM at hx
    obtain ⟨i, hi, rfl⟩ := List.getElem_of_mem hx
    rw [List.getElem_zipWith]
    exact nextM_ok (h.ok _ (List.getElem_mem _)) _ _⟩
theorem WtsM.first (n : Nat) : WtsM n (List.replicate n 64) := ⟨by simp, fun x hx => by obtain ⟨-, rfl⟩ := List.mem_replicate.1 hx; omega⟩
theorem sumM_le : ∀ {W : List Int}, (∀ x ∈ W, 1 ≤ x ∧ x ≤ 255) → (W.length : Int) ≤ W.sum ∧ W.sum ≤ 255 * W.length
  | [], _ => by simp
  | x :: W, h => by
    have h1 := h x List.mem_cons_self
    have h2 := sumM_le (W := W) fun y hy => h y (List.mem_cons_of_mem _ hy)
    simp only [List.sum_cons, List.length_cons]
    omega
theorem dotM_le : ∀ {W : List Int} (L : List Int) (lo hi : Int), (∀ x ∈ W, 1 ≤ x ∧ x ≤ 255) → W.length = L.length → (∀ p ∈ L, lo ≤ clM p ∧ clM p ≤ hi) → lo * W.sum ≤ dotM W L ∧ dotM W L ≤ hi * W.sum
  | [], [], lo, hi, _, _, _ => by simp [dotM]
  | x :: W, p :: L, lo, hi, h, hl, hp => by
    have h1 := h x List.mem_cons_self
    have h2 := dotM_le (W := W) L lo hi (fun y hy => h y (List.mem_cons_of_mem _ hy)) (by simpa using hl) (fun q hq => hp q (List.mem_cons_of_mem _ hq))
    have h3 := hp p List.mem_cons_self
    have h4 := Int.mul_le_mul_of_nonneg_left h3.1 (show 0 ≤ x by omega)
    have h5 := Int.mul_le_mul_of_nonneg_left h3.2 (show 0 ≤ x by omega)
    simp only [dotM, List.sum_cons, Int.mul_add]
    rw [Int.mul_comm lo x, Int.mul_comm hi x]
    omega
  | [], _ :: _, _, _, _, hl, _ => by simp at hl
  | _ :: _, [], _, _, _, hl, _ => by simp at hl
theorem dotM_ok {n : Nat} {W L : List Int} (h : WtsM n W) (hl : L.length = n) : 0 ≤ dotM W L ∧ dotM W L ≤ 65536 * W.sum := by
  have := dotM_le L 0 65536 h.ok (by rw [h.len, hl]) fun p _ => clM_ok p
  omega
theorem dotM_append : ∀ (W L W' L' : List Int), W.length = L.length → dotM (W ++ W') (L ++ L') = dotM W L + dotM W' L'
  | [], [], _, _, _ => by simp [dotM]
  | x :: W, p :: L, W', L', h => by
    have := dotM_append W L W' L' (by simpa using h)
    simp only [List.cons_append, dotM, this]
    omega
  | [], _ :: _, _, _, h => by simp at h
  | _ :: _, [], _, _, h => by simp at h
theorem dotM_snoc {W L : List Int} {k : Nat} (hw : k < W.length) (hl : k < L.length) : dotM (W.take (k + 1)) (L.take (k + 1)) = dotM (W.take k) (L.take k) + W[k] * clM L[k] := by
  rw [List.take_add_one, List.take_add_one, List.getElem?_eq_getElem hw, List.getElem?_eq_getElem hl, dotM_append _ _ _ _ (by simp; omega)]
  simp [dotM]
theorem sumM_snoc {W : List Int} {k : Nat} (hw : k < W.length) : (W.take (k + 1)).sum = (W.take k).sum + W[k] := by
  rw [List.take_add_one, List.getElem?_eq_getElem hw, List.sum_append]
  simp
theorem seenM_get {n : Nat} {W L : List Int} (h : WtsM n W) (hl : L.length = n) (bit : Int) {k : Nat} (hk : k < n) :
    (seenM W L bit)[k]? = some (nextM (W[k]'(by rw [h.len]; exact hk)) (farM (clM (L[k]'(by rw [hl]; exact hk))) bit) (farM (mixM W L) bit)) := by
  unfold seenM
  rw [List.getElem?_zipWith, List.getElem?_eq_getElem (by rw [h.len]; exact hk), List.getElem?_eq_getElem (by rw [hl]; exact hk)]
/-- The first k weights have followed. -/
def stepM (W L : List Int) (bit : Int) (k : Nat) : List Int := (seenM W L bit).take k ++ W.drop k
theorem stepM_zero (W L : List Int) (bit : Int) : stepM W L bit 0 = W := by simp [stepM]
theorem stepM_all {n : Nat} {W L : List Int} (h : WtsM n W) (hl : L.length = n) (bit : Int) : stepM W L bit n = seenM W L bit := by
  have := (h.seen hl bit).len
  unfold stepM
  rw [List.drop_of_length_le (by rw [h.len]; exact Nat.le_refl _), List.append_nil, List.take_of_length_le (by omega)]
theorem stepM_len {n : Nat} {W L : List Int} (h : WtsM n W) (hl : L.length = n) (bit : Int) {k : Nat} (hk : k ≤ n) : (stepM W L bit k).length = n := by
  have h1 := (h.seen hl bit).len
  have h2 := h.len
  simp [stepM]; omega
theorem stepM_get {n : Nat} {W L : List Int} (h : WtsM n W) (hl : L.length = n) (bit : Int) {k : Nat} (hk : k < n) : (stepM W L bit k)[k]? = some (W[k]'(by rw [h.len]; exact hk)) := by
  have h1 := (h.seen hl bit).len
  unfold stepM
  rw [List.getElem?_append_right (by simp; omega), List.getElem?_drop]
  simp only [List.length_take]
  rw [show k + (k - min k (seenM W L bit).length) = k by omega, List.getElem?_eq_getElem]
theorem stepM_succ {n : Nat} {W L : List Int} (h : WtsM n W) (hl : L.length = n) (bit : Int) {k : Nat} (hk : k < n) :
    (stepM W L bit k).set k (nextM (W[k]'(by rw [h.len]; exact hk)) (farM (clM (L[k]'(by rw [hl]; exact hk))) bit) (farM (mixM W L) bit)) = stepM W L bit (k + 1) := by
  have h1 := (h.seen hl bit).len
  unfold stepM
  rw [List.set_append_right _ _ (by simp; omega)]
  simp only [List.length_take]
  rw [show k - min k (seenM W L bit).length = 0 by omega, List.take_add_one, seenM_get h hl bit hk, List.append_assoc]
  congr 1
  have hd : W.drop k = W[k]'(by rw [h.len]; exact hk) :: W.drop (k + 1) := List.drop_eq_getElem_cons (by rw [h.len]; exact hk)
  rw [hd, List.set_cons_zero]
  rfl
end Go.Proofs.YtflcmmeoppdhdaaGreat
namespace Go.Proofs.YtflcmmeoppdhdaaGreat
open Go.RowKit

/-- Where a model is: a node, the last byte, the one ahead. -/
structure PosD where
  node : Nat
  last : Nat
  ahead : Nat
structure PosD.ok (p : PosD) : Prop where
  n1 : 1 ≤ p.node
  n2 : p.node < 256
  l : p.last < 256
  a : p.ahead < 256
def PosD.k1 (p : PosD) : Nat := p.node
def PosD.k2 (p : PosD) : Nat := 65536 + 256 * p.last + p.node
def PosD.k3 (p : PosD) : Nat := 16777216 + 65536 * p.ahead + 256 * p.last + p.node
def nodeD (n : Nat) (bit : Int) : Nat := 2 * n + if bit = 0 then 0 else 1
def PosD.step (p : PosD) (bit : Int) : PosD := if 256 ≤ nodeD p.node bit then ⟨1, nodeD p.node bit - 256, p.last⟩ else ⟨nodeD p.node bit, p.last, p.ahead⟩
theorem nodeD_le (n : Nat) (bit : Int) : 2 * n ≤ nodeD n bit ∧ nodeD n bit ≤ 2 * n + 1 := by unfold nodeD; split <;> omega
theorem PosD.ok.step {p : PosD} (h : p.ok) (bit : Int) : (p.step bit).ok := by
  obtain ⟨h1, h2, h3, h4⟩ := h
  have hn := nodeD_le p.node bit
  unfold PosD.step
  split
  · exact ⟨Nat.le_refl _, (by show 1 < 256; decide), by show nodeD p.node bit - 256 < 256; omega, h3⟩
  · exact ⟨by show 1 ≤ nodeD p.node bit; omega, by show nodeD p.node bit < 256; omega, h3, h4⟩

/-- What a model knows: where it is, three rows of chances, three weights. -/
structure ModD where
  p : PosD
  A : List Nat
  B : List Nat
  C : List Nat
  W : List Int
structure ModD.ok (s : ModD) : Prop where
  pos : s.p.ok
  a : RowC 512 s.A
  b : RowC 2048 s.B
  c : RowC 8192 s.C
  w : WtsM 3 s.W
def ModD.i1 (s : ModD) : Nat := placeC s.p.k1 9
def ModD.i2 (s : ModD) : Nat := placeC s.p.k2 11
def ModD.i3 (s : ModD) : Nat := placeC s.p.k3 13
/-- What the three rows tell. -/
def ModD.ch (s : ModD) : List Int := [((s.A.getD s.i1 0 : Nat) : Int), ((s.B.getD s.i2 0 : Nat) : Int), ((s.C.getD s.i3 0 : Nat) : Int)]
/-- The chance that the next bit is 1. -/
def ModD.chance (s : ModD) : Int := mixM s.W s.ch
def ModD.seen (s : ModD) (bit : Int) : ModD := ⟨s.p.step bit, seenC s.A s.i1 bit, seenC s.B s.i2 bit, seenC s.C s.i3 bit, seenM s.W s.ch bit⟩
def newD : ModD := ⟨⟨1, 0, 0⟩, List.replicate 512 32768, List.replicate 2048 32768, List.replicate 8192 32768, List.replicate 3 64⟩
theorem newD_ok : newD.ok := ⟨⟨by decide, by decide, by decide, by decide⟩, RowC.even _, RowC.even _, RowC.even _, WtsM.first _⟩
theorem ModD.ch_len (s : ModD) : s.ch.length = 3 := rfl
theorem ModD.ok.seen {s : ModD} (h : s.ok) (bit : Int) : (s.seen bit).ok :=
  ⟨h.pos.step bit, h.a.seen _ _, h.b.seen _ _, h.c.seen _ _, h.w.seen s.ch_len bit⟩
theorem ModD.chance_ok (s : ModD) : 32 ≤ s.chance ∧ s.chance ≤ 65504 := heldM_ok _
theorem PosD.ok.k2_lt {p : PosD} (h : p.ok) : p.k2 < 4294967296 := by obtain ⟨h1, h2, h3, h4⟩ := h; unfold PosD.k2; omega
theorem PosD.ok.k3_lt {p : PosD} (h : p.ok) : p.k3 < 4294967296 := by obtain ⟨h1, h2, h3, h4⟩ := h; unfold PosD.k3; omega

/-- A byte's bits, the highest first, and the node behind k of them. -/
def bitD (c k : Nat) : Nat := c / 2 ^ (7 - k) % 2
theorem bitD_lt (c k : Nat) : bitD c k < 2 := Nat.mod_lt _ (by decide)
end Go.Proofs.YtflcmmeoppdhdaaGreat
namespace Go.Proofs.YtflcmmeoppdhdaaGreat
open Go.RowKit Go.Sort

/-- May a part be? -/
def mayP (low size total : Int) : Bool := decide (0 ≤ low) && decide (1 ≤ size) && decide (total ≤ 65536) && decide (low ≤ 65536) && decide (size ≤ 65536) && decide (low + size ≤ total)
theorem mayP_yes {low size total : Int} (h : mayP low size total = true) : 0 ≤ low ∧ 1 ≤ size ∧ low + size ≤ total ∧ total ≤ 65536 := by
  simp only [mayP, Bool.and_eq_true, decide_eq_true_eq] at h
  omega
section
variable {w : World}
set_option maxHeartbeats 1000000 in
set_option maxRecDepth 100000 in
theorem rcMay_any (low size total : Int) (w : World) :
    Calls Tryz.prog 65 #[.agg #[.int .i64 low, .int .i64 size, .int .i64 total]] w fun e w' => e = .returned (.bool (mayP low size total)) ∧ Below w.heap.size w w' := by
  have hb := (Below.refl w.heap.size w).alloc (Nat.le_refl _) (.cells #[.int .i64 low, .int .i64 size, .int .i64 total] 64)
  by_cases h1 : 0 ≤ low
  · by_cases h2 : 1 ≤ size
    · by_cases h3 : total ≤ 65536
      · by_cases h4 : low ≤ 65536
        · by_cases h5 : size ≤ 65536
          · by_cases h6 : low + size ≤ total
            · have HQ := Lib.hid (show mayP low size total = true by simp [mayP, h1, h2, h3, h4, h5, h6])
              go_enter Tryz.func65, Tryz.ntmps65
              go_wp2
              go_ret
              exact ⟨by rw [HQ.out]; rfl, hb⟩
            · have HQ := Lib.hid (show mayP low size total = false by simp [mayP, h6])
              go_enter Tryz.func65, Tryz.ntmps65
              go_wp2
              go_ret
              exact ⟨by rw [HQ.out]; rfl, hb⟩
          · have HQ := Lib.hid (show mayP low size total = false by simp [mayP, h5])
            go_enter Tryz.func65, Tryz.ntmps65
            go_wp2
            go_ret
            exact ⟨by rw [HQ.out]; rfl, hb⟩
        · have HQ := Lib.hid (show mayP low size total = false by simp [mayP, h4])
          go_enter Tryz.func65, Tryz.ntmps65
          go_wp2
          go_ret
          exact ⟨by rw [HQ.out]; rfl, hb⟩
      · have HQ := Lib.hid (show mayP low size total = false by simp [mayP, h3])
        go_enter Tryz.func65, Tryz.ntmps65
        go_wp2
        go_ret
        exact ⟨by rw [HQ.out]; rfl, hb⟩
    · have HQ := Lib.hid (show mayP low size total = false by simp [mayP, h2])
      go_enter Tryz.func65, Tryz.ntmps65
      go_wp2
      go_ret
      exact ⟨by rw [HQ.out]; rfl, hb⟩
  · have HQ := Lib.hid (show mayP low size total = false by simp [mayP, h1])
    go_enter Tryz.func65, Tryz.ntmps65
    go_wp2
    go_ret
    exact ⟨by rw [HQ.out]; rfl, hb⟩

/-- 256 times as much, in 32 bits, as the walk says it. -/
theorem times_vals {L : Nat} (hL : L ≤ 4294967296) : ∃ M l : Nat, IntKind.u64.wrap (256 * (L : Int)) = (M : Int) ∧ (M : Int).tmod 4294967296 = (l : Int) ∧ (M : Int) % 4294967296 = (l : Int) ∧ l = 256 * L % 4294967296 := by
  refine ⟨256 * L, 256 * L % 4294967296, ?_, ?_, ?_, rfl⟩
  · rw [IntKind.wrap_u64]; omega
  · rw [Int.tmod_eq_emod_of_nonneg (by omega)]; omega
  · omega
/-- What the walk says of the highest bytes. -/
theorem same_vals {L R : Nat} (hL : L < 4294967296) (hR : R ≤ 4294967296) : ∃ x s m y : Nat, IntKind.u64.wrap ((L : Int) / 16777216) = (x : Int) ∧ IntKind.u64.wrap ((L : Int) + (R : Int)) = (s : Int) ∧ (s : Int).tmod 4294967296 = (m : Int) ∧ (s : Int) % 4294967296 = (m : Int) ∧ IntKind.u64.wrap ((m : Int) / 16777216) = (y : Int) ∧ (SameB L R ↔ x = y) ∧ x = L / 16777216 ∧ x < 256 := by
  refine ⟨L / 16777216, L + R, (L + R) % 4294967296, (L + R) % 4294967296 / 16777216, ?_, ?_, ?_, ?_, ?_, Iff.rfl, rfl, by omega⟩
  · rw [IntKind.wrap_u64]; omega
  · rw [IntKind.wrap_u64]; omega
  · rw [Int.tmod_eq_emod_of_nonneg (by omega)]; omega
  · omega
  · rw [IntKind.wrap_u64]; omega
/-- What holds as bytes move. -/
def NarRel (w : World) (g : Nat) (t : TypeId) (rest : List Value) (o : List Nat) (A B : Nat) (v : Value) (wr : World) : Prop :=
  ∃ (L R : Nat) (o1 o2 : List Nat), o1 ++ o2 = o ∧ Moves L R o2 A B ∧ InSpan L R ∧ wr.ownsRow w.heap.size 5 1 v o1.length (bvs (u8s o1)) ∧ Blk wr g t (.int .u64 (L : Int) :: .int .u64 (R : Int) :: rest) ∧ TurnsB g g w wr
set_option maxHeartbeats 2000000 in
set_option maxRecDepth 100000 in
theorem rcNarrow_any {g : Nat} {t : TypeId} {L R low size total A B : Nat} {rest : List Value} {o : List Nat} (hb : Blk w g t (.int .u64 (L : Int) :: .int .u64 (R : Int) :: rest)) (hi : InSpan L R) (hR : 65536 ≤ R) (h1 : 1 ≤ size) (h2 : low + size ≤ total) (h3 : total ≤ 65536)
    (hm : Moves (L + low * (R / total)) (size * (R / total)) o A B) :
    Calls Tryz.prog 66 #[.pointer (some ⟨g, 0, none⟩), .agg #[.int .i64 (low : Int), .int .i64 (size : Int), .int .i64 (total : Int)]] w fun e w' => ∃ v, e = .returned v ∧ w'.ownsRow w.heap.size 5 1 v o.length (bvs (u8s o)) ∧ Blk w' g t (.int .u64 (A : Int) :: .int .u64 (B : Int) :: rest) ∧ TurnsB g g w w' := by
  obtain ⟨i0, hi0, hz0, hz1, hz2⟩ := info_parts info_u8r
  obtain ⟨n1, n2, n3, n4⟩ := narrow_span hi hR h1 h2 h3
  have hgl := hb.lt
  obtain ⟨w1, hw1⟩ : ∃ w1, w1 = w.alloc (.cells #[.int .i64 (low : Int), .int .i64 (size : Int), .int .i64 (total : Int)] 64) := ⟨_, rfl⟩
  obtain ⟨P, hP⟩ : ∃ P, P = w.heap.size := ⟨_, rfl⟩
  have hb1 : Blk w1 g t (.int .u64 (L : Int) :: .int .u64 (R : Int) :: rest) := by rw [hw1]; exact hb.alloc_ _
  have hp1 : Blk w1 P 64 [.int .i64 (low : Int), .int .i64 (size : Int), .int .i64 (total : Int)] := by rw [hw1, hP]; exact heap_alloc_new w _
  have ht1 : TurnsB g g w w1 := by rw [hw1]; exact TurnsB.of_below ((Below.refl _ _).alloc (Nat.le_refl _) _)
  have HW := Lib.hid hw1
  have HPP := Lib.hid hP
  have hc0 := hb1.cell 0
  have hc1 := hb1.cell 1
  have hf0 := hb1.frozen 0
  have hf1 := hb1.frozen 1
  have hp0 := hp1.cell 0
  have hq1 := hp1.cell 1
  have hq2 := hp1.cell 2
  simp only [List.getElem?_cons_zero, List.getElem?_cons_succ] at hc0 hc1 hp0 hq1 hq2
  have HM := Lib.hid hm
  have HB1 := Lib.hid hb1
  have HP1 := Lib.hid hp1
  have HN := Lib.hid n4
  have HI := Lib.hid hi
  have HT := Lib.hid ht1
  have ht0 : ¬ (total : Int) = 0 := by omega
  have ht1 : (total : Int) ≤ 65536 := by omega
  have ht2 : (1 : Int) ≤ (total : Int) := by omega
  have ht3 : ¬ total = 0 := by omega
  have hwt : IntKind.u64.wrap (total : Int) = (total : Int) := by rw [IntKind.wrap_u64]; omega
  have hwl : IntKind.u64.wrap (low : Int) = (low : Int) := by rw [IntKind.wrap_u64]; omega
  have hws : IntKind.u64.wrap (size : Int) = (size : Int) := by rw [IntKind.wrap_u64]; omega
  have hL := HI.out.1
  have hLR := HI.out.2.2.1
  have hrle : R / total ≤ R := Nat.div_le_self _ _
  have hadd : (low + size) * (R / total) = low * (R / total) + size * (R / total) := Nat.add_mul ..
  obtain ⟨r, hr⟩ : ∃ r, r = R / total := ⟨_, rfl⟩
  have hdc : (R : Int) / (total : Int) = (r : Int) := by rw [hr]; exact (Int.natCast_ediv _ _).symm
  have hwd : IntKind.u64.wrap ((R : Int) / (total : Int)) = (r : Int) := by rw [hdc, IntKind.wrap_u64]; omega
  rw [← hr] at HM HN n1 n2 n3 hrle hadd
  obtain ⟨lr, hlr⟩ : ∃ lr, lr = low * r := ⟨_, rfl⟩
  obtain ⟨S, hS⟩ : ∃ S, S = size * r := ⟨_, rfl⟩
  have hml : IntKind.u64.wrap ((low : Int) * (r : Int)) = (lr : Int) := by rw [← Int.natCast_mul, ← hlr, IntKind.wrap_u64]; omega
  have hms : IntKind.u64.wrap ((size : Int) * (r : Int)) = (S : Int) := by rw [← Int.natCast_mul, ← hS, IntKind.wrap_u64]; omega
  rw [← hlr, ← hS] at HM HN
  rw [← hlr] at n3
  have hq : IntKind.u64.wrap ((L : Int) + (lr : Int)) = ((L + lr : Nat) : Int) := by rw [IntKind.wrap_u64]; omega
  have hqt : (((L + lr : Nat) : Int)).tmod 4294967296 = ((L + lr : Nat) : Int) := by rw [Int.tmod_eq_emod_of_nonneg (by omega)]; omega
  have hqm : ((L + lr : Nat) : Int) % 4294967296 = ((L + lr : Nat) : Int) := by omega
  obtain ⟨q, hqq⟩ : ∃ q, q = L + lr := ⟨_, rfl⟩
  rw [← hqq] at HM HN hq hqm hqt
  have HOL := Lib.hid (HM.out.few HN.out)
  clear n1 n2 n3 hr hlr hS hadd hdc hqq hm hb hb1 hp1 n4 hi hw1 hP
  go_enter Tryz.func66, Tryz.ntmps66
  go_wp2
  simp only [← HW.out, ← HPP.out]
  refine wp_region_still_tail 11 (by kernel_rfl) (by kernel_rfl) ?_
  simp only [List.take_succ_cons, List.take_zero, List.drop_succ_cons, List.drop_zero]
  repeat still_step
  refine wpStill_nil ?_
  change wpList _ _ _ _ _ w1.drew
  go_wp2
  have hb2 : Blk ((w1.setCell ⟨g, 1, none⟩ (.int .u64 (r : Int))).drew) g t (.int .u64 (L : Int) :: .int .u64 (r : Int) :: rest) := (HB1.out.set_ 1 (.int .u64 (r : Int))).same rfl
  have hgP : P ≠ g := by have := HPP.out; omega
  have hp2 : Blk ((w1.setCell ⟨g, 1, none⟩ (.int .u64 (r : Int))).drew) P 64 [.int .i64 (low : Int), .int .i64 (size : Int), .int .i64 (total : Int)] := (HP1.out.setOther ⟨g, 1, none⟩ _ hgP).same rfl
  have ht5 : TurnsB g g w ((w1.setCell ⟨g, 1, none⟩ (.int .u64 (r : Int))).drew) := (HT.out.trans (TurnsB.set_ 1 _)).drew
  obtain ⟨w2, hw2⟩ : ∃ w2, w2 = (w1.setCell ⟨g, 1, none⟩ (.int .u64 (r : Int))).drew := ⟨_, rfl⟩
  rw [← hw2] at hb2 hp2 ht5
  simp only [← hw2]
  clear hw2 hc0 hc1 hf0 hf1 hp0 hq1 hq2 HB1 HT HP1 HW
  have HB2 := Lib.hid hb2
  have HP2 := Lib.hid hp2
  have HT2 := Lib.hid ht5
  have hc0 := hb2.cell 0
  have hc1 := hb2.cell 1
  have hf0 := hb2.frozen 0
  have hf1 := hb2.frozen 1
  have hp0 := hp2.cell 0
  have hq1 := hp2.cell 1
  simp only [List.getElem?_cons_zero, List.getElem?_cons_succ] at hc0 hc1 hp0 hq1
  clear hb2 hp2 ht5 hwd hwt ht0 ht1 ht2 ht3
  refine wp_region_still_tail 17 (by kernel_rfl) (by kernel_rfl) ?_
  simp only [List.take_succ_cons, List.take_zero, List.drop_succ_cons, List.drop_zero]
  repeat still_step
  refine wpStill_nil ?_
  change wpList _ _ _ _ _ w2.drew
  go_wp2
  have hb3 : Blk ((w2.setCell ⟨g, 0, none⟩ (.int .u64 (q : Int))).drew) g t (.int .u64 (q : Int) :: .int .u64 (r : Int) :: rest) := (HB2.out.set_ 0 (.int .u64 (q : Int))).same rfl
  have hp3 : Blk ((w2.setCell ⟨g, 0, none⟩ (.int .u64 (q : Int))).drew) P 64 [.int .i64 (low : Int), .int .i64 (size : Int), .int .i64 (total : Int)] := (HP2.out.setOther ⟨g, 0, none⟩ _ hgP).same rfl
  have ht6 : TurnsB g g w ((w2.setCell ⟨g, 0, none⟩ (.int .u64 (q : Int))).drew) := (HT2.out.trans (TurnsB.set_ 0 _)).drew
  obtain ⟨w3, hw3⟩ : ∃ w3, w3 = (w2.setCell ⟨g, 0, none⟩ (.int .u64 (q : Int))).drew := ⟨_, rfl⟩
  rw [← hw3] at hb3 hp3 ht6
  simp only [← hw3]
  clear hw3 hc0 hc1 hf0 hf1 hp0 hq1 HB2 HT2 HP2
  have HB3 := Lib.hid hb3
  have HT3 := Lib.hid ht6
  have hc0 := hb3.cell 0
  have hc1 := hb3.cell 1
  have hf1 := hb3.frozen 1
  have hq1 := hp3.cell 1
  simp only [List.getElem?_cons_zero, List.getElem?_cons_succ] at hc0 hc1 hq1
  clear hb3 hp3 ht6 hwl hml hq hqm hqt hgP
  refine wp_region_still_tail 11 (by kernel_rfl) (by kernel_rfl) ?_
  simp only [List.take_succ_cons, List.take_zero, List.drop_succ_cons, List.drop_zero]
  repeat still_step
  refine wpStill_nil ?_
  change wpList _ _ _ _ _ w3.drew
  go_wp2
  have hb4 : Blk ((w3.setCell ⟨g, 1, none⟩ (.int .u64 (S : Int))).drew) g t (.int .u64 (q : Int) :: .int .u64 (S : Int) :: rest) := (HB3.out.set_ 1 (.int .u64 (S : Int))).same rfl
  have ht7 : TurnsB g g w ((w3.setCell ⟨g, 1, none⟩ (.int .u64 (S : Int))).drew) := (HT3.out.trans (TurnsB.set_ 1 _)).drew
  have HREL := Lib.hid (show NarRel w g t rest o A B (.slice none 0 0) ((w3.setCell ⟨g, 1, none⟩ (.int .u64 (S : Int))).drew) from ⟨q, S, [], o, rfl, HM.out, HN.out, World.ownsRow_nil _ _ _ _, hb4, ht7⟩)
  clear hb4 ht7 hc0 hc1 hf1 hq1 HB3 HT3 hms hws HM HN HI
  go_loopw [5] (NarRel w g t rest o A B) (fun v _ => o.length + 1 - lenR v)
  case atStart => exact HREL.out
  case round =>
    clear HREL
    obtain ⟨L1, R1, o1, o2, ho, hm, hi, hown, hblk, htr⟩ := hrel
    obtain ⟨A1, c1, rfl, -, -, -⟩ := own_form hown
    obtain ⟨x, sm, md, y, e1, e2, e3, e4, e5, e6, e7, e8⟩ := same_vals (L := L1) (R := R1) hi.1 (by have := hi.2.2.1; omega)
    have hc0 := hblk.cell 0
    have hc1 := hblk.cell 1
    have hf0 := hblk.frozen 0
    have hf1 := hblk.frozen 1
    simp only [List.getElem?_cons_zero, List.getElem?_cons_succ] at hc0 hc1
    have HBL := Lib.hid hblk
    have HTR := Lib.hid htr
    have HOWN := Lib.hid hown
    have HMV := Lib.hid hm
    have HSP := Lib.hid hi
    have HO := Lib.hid ho
    have HX := Lib.hid e7
    clear hown hblk htr hm hi ho e7
    by_cases hs : SameB L1 R1
    · have hxy : ((x : Int) == (y : Int)) = true := by rw [e6.1 hs]; simp
      clear e6
      go_wp2
      refine wp_region_still_lit (by kernel_rfl) (by kernel_rfl) ?_
      repeat still_step
      refine wpStill_nil ?_
      change Exit.then _ _ _ _ wr.drew
      clear e1 e2 e3 e4 e5 hxy hf0 hf1 hc0 hc1
      obtain ⟨o3, ho3, HM3⟩ : ∃ o3, o2 = L1 / 16777216 :: o3 ∧ Hid (Moves (256 * L1 % 4294967296) (256 * cutR L1 R1 % 4294967296) o3 A B) := by
        cases HMV.out with
        | stop _ _ hh _ => exact absurd hs hh
        | move _ _ o3 _ _ _ hr => exact ⟨o3, rfl, Lib.hid hr⟩
      have hms := move_span HSP.out (.inl hs)
      rw [show cutR L1 R1 = R1 by unfold cutR; rw [if_pos hs]] at HM3 hms
      have HS2 := Lib.hid hms.2.2.2
      have HO3 := Lib.hid ho3
      have hRb : R1 ≤ 4294967296 := by have := HSP.out.2.2.1; omega
      have hLb : L1 ≤ 4294967296 := by have := HSP.out.1; omega
      obtain ⟨M1, l1, f1, f2, f3, f4⟩ := times_vals hLb
      obtain ⟨M2, l2, g1, g2, g3, g4⟩ := times_vals hRb
      have hx8 : IntKind.u8.wrap (x : Int) = (x : Int) := by rw [IntKind.wrap_u8]; omega
      have hq1 : IntKind.u64.wrap ((L1 : Int) / 16777216) = (x : Int) := by have := HX.out; rw [IntKind.wrap_u64]; omega
      have hb1 := HBL.out.same (w' := wr.drew) rfl
      have hc0 := hb1.cell 0
      have hc1 := hb1.cell 1
      simp only [List.getElem?_cons_zero, List.getElem?_cons_succ] at hc0 hc1
      rw [← f4, ← g4] at HM3 HS2
      have hol : o1.length ≤ 7 := by have := congrArg List.length HO.out; rw [List.length_append] at this; have := HOL.out; omega
      clear hms ho3 f4 g4
      go_wp2_with ((with_reducible show wpList _ _ _ (({ dst := some 92, op := _, type := _, pos := _, after := _, guard := _ } : Oper) :: _) _ _); go_must (refine wpList_app rfl (.tmp 84) (.tmp 91) 22 rfl w.heap.size 5 i0 (.int .u8 0) 1 1 Tryz.underlying22 hi0 hz0 hz1 hz2 rfl (by decide) _ _ _ rfl ((own_drew HOWN.out).alloc _) _ _ 1 1 _ rfl (Rd.new _ _ _) rfl (by intro u hu; simp at hu; subst hu; rfl) (by simp only [maxLen]; omega) (by omega) (by have := HTR.out.size; simp; omega) ?_; intro v1 wa hown1 hg1; have hrow : ∀ r, (Value.slice A1 o1.length c1).ownBlock = some r → w.heap.size ≤ r := own_block HOWN.out; have hba : Blk wa g t (.int .u64 (L1 : Int) :: .int .u64 (R1 : Int) :: rest) := blk_row (((HBL.out.same (w' := wr.drew) rfl)).alloc_ _) hg1 (fun r e => by have := hrow r e; omega); have hta : TurnsB g g w wa := (HTR.out.drew.allocO _).growO hg1 hrow; have ha0 := hba.cell 0; have ha1 := hba.cell 1; have haf0 := hba.frozen 0; have haf1 := hba.frozen 1; simp only [List.getElem?_cons_zero, List.getElem?_cons_succ] at ha0 ha1; clear hg1 hc0 hc1))
      obtain ⟨A2, c2, rfl, -, -, -⟩ := own_form hown1
      rw [← bvs_u8s o1 e8, HX.out] at hown1
      have hlen : (o1 ++ [L1 / 16777216]).length = o1.length + 1 := by simp
      have hsa : TurnsB g g wa ((wa.setCell ⟨g, 0, none⟩ (.int .u64 (l1 : Int))).setCell ⟨g, 1, none⟩ (.int .u64 (l2 : Int))) := (TurnsB.set_ 0 _).trans (TurnsB.set_ 1 _)
      refine ⟨⟨l1, l2, o1 ++ [L1 / 16777216], o3, by rw [← HO.out, HO3.out, List.append_assoc]; rfl, HM3.out, HS2.out, by rw [hlen]; exact own_turns hown1 hsa hgl hgl, (hba.set_ 0 _).set_ 1 _, hta.trans hsa⟩, ?_⟩
      have hlo := congrArg List.length HO.out
      rw [HO3.out, List.length_append, List.length_cons] at hlo
      simp only [lenR]
      omega
    · have hxy : ((x : Int) == (y : Int)) = false := by rw [beq_eq_false_iff_ne]; exact fun h => hs (e6.2 (by omega))
      clear e6
      by_cases hstop : 65536 ≤ R1
      · obtain ⟨rfl, rfl, rfl⟩ : o2 = [] ∧ L1 = A ∧ R1 = B := by
          cases HMV.out with
          | stop => exact ⟨rfl, rfl, rfl⟩
          | move _ _ _ _ _ hh _ => rcases hh with hh | hh
                                   · exact absurd hh hs
                                   · omega
        have hRi : (65536 : Int) ≤ (R1 : Int) := by omega
        have hO2 := HO.out
        rw [List.append_nil] at hO2
        go_wp2
        refine wp_region_still_lit (by kernel_rfl) (by kernel_rfl) ?_
        repeat still_step
        refine wpStill_nil ?_
        change Exit.then _ _ _ _ wr.drew
        have hb1 := HBL.out.same (w' := wr.drew) rfl
        clear hc0 hc1 hf0 hf1
        have hc0 := hb1.cell 0
        have hc1 := hb1.cell 1
        simp only [List.getElem?_cons_zero, List.getElem?_cons_succ] at hc0 hc1
        go_wp2
        go_ret
        exact ⟨_, rfl, by rw [← hO2]; exact own_drew HOWN.out, hb1, HTR.out.drew⟩
      · have hRi : ¬ (65536 : Int) ≤ (R1 : Int) := by omega
        go_wp2
        refine wp_region_still_lit (by kernel_rfl) (by kernel_rfl) ?_
        repeat still_step
        refine wpStill_nil ?_
        change Exit.then _ _ _ _ wr.drew
        clear e1 e2 e3 e4 e5 hxy hf0 hf1 hc0 hc1
        obtain ⟨o3, ho3, HM3⟩ : ∃ o3, o2 = L1 / 16777216 :: o3 ∧ Hid (Moves (256 * L1 % 4294967296) (256 * cutR L1 R1 % 4294967296) o3 A B) := by
          cases HMV.out with
          | stop _ _ _ hh => exact absurd hh hstop
          | move _ _ o3 _ _ _ hr => exact ⟨o3, rfl, Lib.hid hr⟩
        have hms := move_span HSP.out (.inr (by omega))
        obtain ⟨C, hC⟩ : ∃ C, C = cutR L1 R1 := ⟨_, rfl⟩
        have hC2 : C = 65536 - L1 % 65536 := by rw [hC]; unfold cutR; rw [if_neg hs]
        rw [← hC] at HM3 hms
        have HS2 := Lib.hid hms.2.2.2
        have HO3 := Lib.hid ho3
        have hCb : C ≤ 4294967296 := by omega
        have hLb : L1 ≤ 4294967296 := by have := HSP.out.1; omega
        obtain ⟨M1, l1, f1, f2, f3, f4⟩ := times_vals hLb
        obtain ⟨M2, l2, g1, g2, g3, g4⟩ := times_vals hCb
        have hx8 : IntKind.u8.wrap (x : Int) = (x : Int) := by rw [IntKind.wrap_u8]; omega
        have hq1 : IntKind.u64.wrap ((L1 : Int) / 16777216) = (x : Int) := by have := HX.out; rw [IntKind.wrap_u64]; omega
        have hq2 : IntKind.u64.wrap (65536 - (L1 : Int) % 65536) = (C : Int) := by rw [IntKind.wrap_u64]; omega
        have hq3 : IntKind.u64.wrap (65536 - (L1 : Int).tmod 65536) = (C : Int) := by rw [Int.tmod_eq_emod_of_nonneg (by omega)]; exact hq2
        have hc0 := HBL.out.cell 0
        have hc1 := HBL.out.cell 1
        have hf0 := HBL.out.frozen 0
        have hf1 := HBL.out.frozen 1
        simp only [List.getElem?_cons_zero, List.getElem?_cons_succ] at hc0 hc1
        rw [← f4, ← g4] at HM3 HS2
        have hol : o1.length ≤ 7 := by have := congrArg List.length HO.out; rw [List.length_append] at this; have := HOL.out; omega
        have hrn := (Rd.new (wr.setCell ⟨g, 1, none⟩ (.int .u64 (C : Int))) #[.int .u8 (x : Int)] 5).drew
        rw [show (wr.setCell ⟨g, 1, none⟩ (.int .u64 (C : Int))).heap.size = wr.heap.size by simp [World.setCell]] at hrn
        have HRN := Lib.hid hrn
        clear hrn
        have hz : decide ((65536 : Int) ≤ (R1 : Int)) = false := decide_eq_false (by omega)
        clear hms ho3 f4 g4 hC hC2 hstop hRi hR
        go_wp2_with ((with_reducible show wpList _ _ _ (({ dst := some 92, op := _, type := _, pos := _, after := _, guard := _ } : Oper) :: _) _ _); go_must (refine wpList_app rfl (.tmp 84) (.tmp 91) 22 rfl w.heap.size 5 i0 (.int .u8 0) 1 1 Tryz.underlying22 hi0 hz0 hz1 hz2 rfl (by decide) _ _ _ rfl (own_drew ((own_turns HOWN.out (TurnsB.set_ (T := g) (S := g) 1 (.int .u64 (C : Int))) hgl hgl).alloc (.cells #[.int .u8 (x : Int)] 5))) _ _ 1 1 [.int .u8 (x : Int)] rfl HRN.out rfl (by intro u hu; simp at hu; subst hu; rfl) (by simp only [maxLen]; omega) (by omega) ((HTR.out.trans (TurnsB.set_ 1 (.int .u64 (C : Int)))).allocO (.cells #[.int .u8 (x : Int)] 5)).drew.size ?_; intro v1 wa hown1 hg1; have hrow : ∀ r, (Value.slice A1 o1.length c1).ownBlock = some r → w.heap.size ≤ r := own_block HOWN.out; have hba : Blk wa g t (.int .u64 (L1 : Int) :: .int .u64 (C : Int) :: rest) := blk_row (((HBL.out.set_ 1 (.int .u64 (C : Int))).alloc_ (.cells #[.int .u8 (x : Int)] 5)).drew_) hg1 (fun r e => by have := hrow r e; omega); have hta : TurnsB g g w wa := ((HTR.out.trans (TurnsB.set_ 1 (.int .u64 (C : Int)))).allocO (.cells #[.int .u8 (x : Int)] 5)).drew.growO hg1 hrow; have ha0 := hba.cell 0; have ha1 := hba.cell 1; have haf0 := hba.frozen 0; have haf1 := hba.frozen 1; simp only [List.getElem?_cons_zero, List.getElem?_cons_succ] at ha0 ha1; clear hg1 hc0 hc1))
        obtain ⟨A2, c2, rfl, -, -, -⟩ := own_form hown1
        rw [← bvs_u8s o1 e8, HX.out] at hown1
        have hlen : (o1 ++ [L1 / 16777216]).length = o1.length + 1 := by simp
        have hsa : TurnsB g g wa ((wa.setCell ⟨g, 0, none⟩ (.int .u64 (l1 : Int))).setCell ⟨g, 1, none⟩ (.int .u64 (l2 : Int))) := (TurnsB.set_ 0 _).trans (TurnsB.set_ 1 _)
        refine ⟨⟨l1, l2, o1 ++ [L1 / 16777216], o3, by rw [← HO.out, HO3.out, List.append_assoc]; rfl, HM3.out, HS2.out, by rw [hlen]; exact own_turns hown1 hsa hgl hgl, (hba.set_ 0 _).set_ 1 _, hta.trans hsa⟩, ?_⟩
        have hlo := congrArg List.length HO.out
        rw [HO3.out, List.length_append, List.length_cons] at hlo
        simp only [lenR]
        omega
end
end Go.Proofs.YtflcmmeoppdhdaaGreat
namespace Go.Proofs.YtflcmmeoppdhdaaGreat
open Go.RowKit Go.Sort

section
variable {w : World} {D K : Nat} {L R C E : Nat} {B : List Nat}
/-- A span within a decoder, narrowed; then as many bytes come as moved. -/
theorem mayP_iff {low size total : Nat} : mayP (low : Int) (size : Int) (total : Int) = true ↔ 1 ≤ size ∧ low + size ≤ total ∧ total ≤ 65536 := by
  simp only [mayP, Bool.and_eq_true, decide_eq_true_eq]
  omega
end
end Go.Proofs.YtflcmmeoppdhdaaGreat
