/- Layer 18: what Decode tells, as plain functions: bytes that come in, letters that come out. -/
import Derived.Test.YtfdgnhfppginiaaRansRef
namespace Go.Proofs.Ytfdgnhfppginiaa

/-- A state, as long as it is small, takes the next byte; none, if there is none. -/
def fill : Nat → List UInt8 → Option (Nat × List UInt8)
  | x, [] => if 8388608 ≤ x then some (x, []) else none
  | x, b :: S => if 8388608 ≤ x then some (x, b :: S) else fill (256 * x + b.toNat) S
theorem fill_stop {x : Nat} (S : List UInt8) (h : 8388608 ≤ x) : fill x S = some (x, S) := by
  cases S <;> simp [fill, h]
theorem fill_none {x : Nat} (h : x < 8388608) : fill x [] = none := by
  simp [fill]; omega
theorem fill_next {x : Nat} (b : UInt8) (S : List UInt8) (h : x < 8388608) : fill x (b :: S) = fill (256 * x + b.toNat) S := by
  simp only [fill]; rw [if_neg (by omega)]
/-- The letter that comes out of a state, and the state ahead of its bytes. -/
def letOf (r : List Int) (x : Nat) : Nat := (fFind r ((x % 4096 : Nat) : Int)).getD 0
def outY (r : List Int) (x : Nat) : Nat := (r.getD (letOf r x) 0).toNat * (x / 4096) + x % 4096 - (fPre r (letOf r x)).toNat
def lets (r : List Int) : Nat → Nat → List UInt8 → Option (List UInt8 × Nat × List UInt8)
  | 0, x, S => some ([], x, S)
  | n + 1, x, S => (fill (outY r x) S).bind fun p => (lets r n p.1 p.2).map fun q => (UInt8.ofNat (letOf r x) :: q.1, q.2)
/-- What Decode tells of what is left behind the shares: the letters, or none. -/
def be4V (S : List UInt8) : Nat := ((S.take 4).foldl (fun a b => 256 * a + b.toNat) 0)
def tellF (r : List Int) (n : Nat) (S : List UInt8) : Option (List UInt8) :=
  if S.length < 4 ∨ be4V S < 8388608 ∨ 2147483648 ≤ be4V S then none
  else (lets r n (be4V S) (S.drop 4)).bind fun q => if q.2.1 = 8388608 ∧ q.2.2 = [] then some q.1 else none
theorem reads_fill {y x : Nat} {S T : List Nat} (h : Reads y S x T) (more : List UInt8) : 8388608 ≤ x → (∀ b ∈ S, b < 256) → fill y (u8s S ++ more) = some (x, u8s T ++ more) := by
  induction h with
  | none x S => intro hx _; exact fill_stop _ hx
  | next y b S x T hy hr ih =>
    intro hx hS
    have h1 := hS b List.mem_cons_self
    have h2 := ih hx fun c hc => hS c (List.mem_cons_of_mem _ hc)
    rw [show u8s (b :: S) = UInt8.ofNat b :: u8s S from rfl, List.cons_append, fill_next _ _ hy, UInt8.toNat_ofNat', Nat.mod_eq_of_lt h1]
    exact h2
theorem lets_in {l0 : List UInt8} {r : List Int} (hs : SharesOf l0 r) (more : List UInt8) : ∀ (l : List UInt8) (x : Nat) (T : List Nat), (∀ b ∈ l, b ∈ l0) → RansIn (letL r l) x T → lets r l.length x (u8s T ++ more) = some (l, 8388608, more)
  | [], x, T, _, h => by
    cases h
    rfl
  | b :: l, x, T, hl, h => by
    have hb := hl b List.mem_cons_self
    have hok := hs.letters (b :: l) hl
    have hTb := (h.range hok).2.2
    rw [letL_cons] at h
    obtain ⟨⟨k1, k2⟩, k3, k4⟩ := hs.letter hb
    simp only at k1 k2
    obtain ⟨x2, T2, y, h2, hy, e1, e2, hr, hx2⟩ := h.out (by rw [← letL_cons]; exact hok)
    have hlt : b.toNat < r.length := by rw [hs.len]; exact b.toNat_lt
    have hsucc := fPre_succ r b.toNat hlt
    have hrb : r.getD b.toNat 0 = r[b.toNat] := by simp [List.getD_eq_getElem?_getD, hlt]
    have hmod : y % (r.getD b.toNat 0).toNat < (r.getD b.toNat 0).toNat := Nat.mod_lt _ k1
    have hf : letOf r x = b.toNat := by
      unfold letOf
      rw [fFind_some hs.nn (r := b.toNat) (by omega) hlt (by rw [e1]; omega) (by rw [e1, hsucc, ← hrb]; omega)]
      rfl
    have hout : outY r x = y := by unfold outY; rw [hf]; exact e2
    have hfil := reads_fill hr more hx2 hTb
    have ih := lets_in hs more l x2 T2 (fun c hc => hl c (List.mem_cons_of_mem _ hc)) h2
    simp only [List.length_cons, lets, hout, hfil, Option.bind_some, ih, Option.map_some, hf, UInt8.ofNat_toNat]
theorem u8s_be4 {x : Nat} (hx : x < 4294967296) (S : List UInt8) : (u8s (be4 x) ++ S).length = 4 + S.length ∧ be4V (u8s (be4 x) ++ S) = x ∧ (u8s (be4 x) ++ S).drop 4 = S := by
  refine ⟨by simp [u8s, be4]; omega, ?_, by simp [u8s, be4]⟩
  simp [be4V, u8s, be4]
  omega
/-- **P18.3**: what was coded is told; with more behind it is none. -/
theorem tell_coded {l : List UInt8} {r : List Int} {x : Nat} {T : List Nat} (hs : SharesOf l r) (h : RansIn (letL r l) x T) (more : List UInt8) : tellF r l.length (u8s (be4 x ++ T) ++ more) = if more = [] then some l else none := by
  have hrg := h.range (hs.letters l fun _ h => h)
  have e : u8s (be4 x ++ T) ++ more = u8s (be4 x) ++ (u8s T ++ more) := by simp [u8s]
  obtain ⟨e1, e2, e3⟩ := u8s_be4 (x := x) (by omega) (u8s T ++ more)
  unfold tellF
  rw [e, e1, e2, e3, if_neg (by omega), lets_in hs more l x T (fun _ h => h) h]
  simp
end Go.Proofs.Ytfdgnhfppginiaa
