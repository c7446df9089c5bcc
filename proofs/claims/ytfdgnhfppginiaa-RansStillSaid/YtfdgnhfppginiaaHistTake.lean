/- Layer 16: what Get tells, share by share: plain mathematics. -/
import Derived.Test.YtfdgnhfppginiaaHistMath
namespace Go.Proofs.Ytfdgnhfppginiaa

/-- Of bytes the shares behind those that are out. -/
def hG (out : List Int) (b : List UInt8) (s : Nat) : Option (List Int × Nat) := hGetF 257 out b s
theorem hG_bad {out : List Int} {b : List UInt8} {s n k e : Nat} (h : lget b = (n, k, e)) (hb : e ≠ 0 ∨ 65535 < n ∨ 256 < out.length + n) : hG out b s = none := hGetF_bad h hb
/-- Where the noughts are out: the next share, or the end. -/
def hM (P : List Int) (b : List UInt8) (s : Nat) : Option (List Int × Nat) :=
  if P.length = 256 then some (P, s)
  else if (lget b).2.2 ≠ 0 ∨ 65535 < (lget b).1 then none
  else hG (P ++ [((lget b).1 : Int) + 1]) (b.drop (lget b).2.1) (s + (lget b).2.1)
theorem hG_mid {out : List Int} {b : List UInt8} {s n k : Nat} (h : lget b = (n, k, 0)) (hb : out.length + n ≤ 256) : hG out b s = hM (out ++ zerosI n) (b.drop k) (s + k) := by
  have hlen : (out ++ zerosI n).length = out.length + n := by simp [zerosI]
  unfold hM
  rw [hlen]
  by_cases h1 : out.length + n = 256
  · rw [if_pos h1]; exact hGetF_last h (by omega) h1
  · rw [if_neg h1]
    obtain ⟨⟨n2, k2, e2⟩, h2⟩ : ∃ t, lget (b.drop k) = t := ⟨_, rfl⟩
    rw [h2]
    simp only
    by_cases h3 : e2 ≠ 0 ∨ 65535 < n2
    · rw [if_pos h3]; exact hGetF_bad2 h (by omega) (by omega) h2 h3
    · rw [if_neg h3]
      obtain rfl : e2 = 0 := by omega
      unfold hG
      rw [hGetF_more h (by omega) (by omega) h2 (by omega), List.drop_drop]
      exact hGetF_fuel 256 257 _ _ _ (by simp [zerosI] <;> omega) (by simp [zerosI] <;> omega) (by simp [zerosI] <;> omega)
theorem hM_end {P : List Int} {b : List UInt8} {s : Nat} (h : P.length = 256) : hM P b s = some (P, s) := by unfold hM; rw [if_pos h]
theorem hM_bad {P : List Int} {b : List UInt8} {s n k e : Nat} (h : lget b = (n, k, e)) (hP : P.length ≠ 256) (hb : e ≠ 0 ∨ 65535 < n) : hM P b s = none := by
  unfold hM; rw [if_neg hP, h, if_pos hb]
theorem hM_more {P : List Int} {b : List UInt8} {s n k : Nat} (h : lget b = (n, k, 0)) (hP : P.length ≠ 256) (hn : n ≤ 65535) : hM P b s = hG (P ++ [(n : Int) + 1]) (b.drop k) (s + k) := by
  unfold hM; rw [if_neg hP, h]; simp only; rw [if_neg (by omega)]
/-- Those that are together so many. -/
def filt (T : Int) (R : Option (List Int × Nat)) : Option (List Int × Nat) := R.bind fun p => if p.1.sum = T then some p else none
theorem filt_none (T : Int) : filt T none = none := rfl
theorem sum_zerosI (n : Nat) : (zerosI n).sum = 0 := by
  induction n with
  | zero => rfl
  | succ n ih => simp only [zerosI, List.replicate_succ, List.sum_cons] at ih ⊢; omega
/-- More than so many are never less again. -/
theorem filt_much {T : Int} : ∀ (f : Nat) (out : List Int) (b : List UInt8) (s : Nat), T < out.sum → filt T (hGetF f out b s) = none := by
  intro f
  induction f with
  | zero => intro out b s _; rfl
  | succ f ih =>
    intro out b s h
    obtain ⟨⟨n, k, e⟩, hl⟩ : ∃ t, lget b = t := ⟨_, rfl⟩
    by_cases hb : e ≠ 0 ∨ 65535 < n ∨ 256 < out.length + n
    · rw [hGetF_bad hl hb]; rfl
    · obtain rfl : e = 0 := by omega
      by_cases hb2 : out.length + n = 256
      · rw [hGetF_last hl (by omega) hb2]
        simp only [filt, Option.bind_some, List.sum_append, sum_zerosI]
        rw [if_neg (by omega)]
      · obtain ⟨⟨n2, k2, e2⟩, hl2⟩ : ∃ t, lget (b.drop k) = t := ⟨_, rfl⟩
        by_cases hb3 : e2 ≠ 0 ∨ 65535 < n2
        · rw [hGetF_bad2 hl (by omega) (by omega) hl2 hb3]; rfl
        · obtain rfl : e2 = 0 := by omega
          rw [hGetF_more hl (by omega) (by omega) hl2 (by omega)]
          apply ih
          simp only [List.sum_append, sum_zerosI, List.sum_cons, List.sum_nil]
          omega
theorem filt_over {T : Int} {P : List Int} {b : List UInt8} {s n k e : Nat} (h : lget b = (n, k, e)) (hP : P.length ≠ 256) (hn : T < P.sum + (n : Int) + 1) : filt T (hM P b s) = none := by
  by_cases hb : e ≠ 0 ∨ 65535 < n
  · rw [hM_bad h hP hb]; rfl
  · obtain rfl : e = 0 := by omega
    rw [hM_more h hP (by omega)]
    exact filt_much _ _ _ _ (by simp only [List.sum_append, List.sum_cons, List.sum_nil]; omega)
/-- What Get tells: 256 shares that are so many together, or none. -/
def hGot (T : Int) (b : List UInt8) : Option (List Int × Nat) := filt T (hG [] b 0)
/-- The program's row: the shares that are out, and noughts. -/
def hRow16 (P : List Int) : List Int := P ++ zerosI (256 - P.length)
theorem hRow16_len {P : List Int} (h : P.length ≤ 256) : (hRow16 P).length = 256 := by simp [hRow16, zerosI]; omega
theorem hRow16_set {P : List Int} (h : P.length < 256) (x : Int) : (hRow16 P).set P.length x = hRow16 (P ++ [x]) := by
  obtain ⟨d, hd⟩ : ∃ d, 256 - P.length = d + 1 := ⟨255 - P.length, by omega⟩
  unfold hRow16
  rw [hd, List.length_append, List.length_singleton, show 256 - (P.length + 1) = d by omega]
  simp [zerosI, List.replicate_succ]
theorem hRow16_zeros {P : List Int} {n : Nat} (h : P.length + n ≤ 256) : hRow16 (P ++ zerosI n) = hRow16 P := by
  unfold hRow16
  rw [List.append_assoc, List.length_append, zerosI_len]
  congr 1
  simp only [zerosI, List.replicate_append_replicate]
  congr 1
  omega
theorem hRow16_nil : hRow16 [] = List.replicate 256 0 := rfl
theorem hRow16_full {P : List Int} (h : P.length = 256) : hRow16 P = P := by simp [hRow16, h, zerosI]

/-- What is taken next: a number below, or one that is wrong. -/
def NextSays (l : List UInt8) (at_ below : Nat) (bad : Bool) (k s : Nat) (bad' : Bool) : Prop :=
  (bad' = bad ∧ k < below ∧ ∃ j, lget (l.drop at_) = (k, j, 0) ∧ s = at_ + j) ∨ (bad' = true ∧ k = 0 ∧ s = at_ ∧ ∃ q j e, lget (l.drop at_) = (q, j, e) ∧ (e ≠ 0 ∨ below ≤ q))
/-- How it stands where a share may come. -/
def GetInv (G : Option (List Int × Nat)) (T : Int) (l : List UInt8) (a : Nat) (lf : Int) (s : Nat) (bad : Bool) (Q : List Int) : Prop :=
  (bad = true ∧ filt T G = none) ∨ (bad = false ∧ ∃ P : List Int, Q = hRow16 P ∧ P.length = a ∧ P.sum + lf = T ∧ 0 ≤ lf ∧ filt T G = filt T (hM P (l.drop s) s))
theorem inv_start {T : Int} {l : List UInt8} {k s : Nat} {bad : Bool} (hT : 0 ≤ T) (h : NextSays l 0 257 false k s bad) : k ≤ 256 ∧ GetInv (hG [] l 0) T l k T s bad (List.replicate 256 0) := by
  rcases h with ⟨rfl, hk, j, hl, rfl⟩ | ⟨rfl, rfl, rfl, q, j, e, hl, hb⟩
  · rw [List.drop_zero] at hl
    refine ⟨by omega, .inr ⟨rfl, zerosI k, ?_, zerosI_len k, by rw [sum_zerosI]; omega, hT, ?_⟩⟩
    · have := hRow16_zeros (P := []) (n := k) (by simp; omega)
      rw [List.nil_append] at this
      rw [this, hRow16_nil]
    · rw [hG_mid hl (by simp; omega), List.nil_append, Nat.zero_add]
  · rw [List.drop_zero] at hl
    exact ⟨Nat.zero_le _, .inl ⟨rfl, by rw [hG_bad hl (by simp; omega)]; rfl⟩⟩
theorem inv_step {G : Option (List Int × Nat)} {T : Int} {l : List UInt8} {a s : Nat} {lf : Int} {Q : List Int} {k1 s1 k2 s2 : Nat} {b1 b2 : Bool} (h : GetInv G T l a lf s false Q) (ha : a < 256) (hlf : lf ≤ 65536) (h1 : NextSays l s lf.toNat false k1 s1 b1) (h2 : NextSays l s1 (256 - a) b1 k2 s2 b2) :
    a + (1 + k2) ≤ 256 ∧ (k1 : Int) ≤ lf ∧ GetInv G T l (a + (1 + k2)) (lf - (1 + (k1 : Int))) s2 b2 (Q.set a (1 + (k1 : Int))) := by
  rcases h with ⟨h, -⟩ | ⟨-, P, rfl, rfl, hs, h0, hG⟩
  · cases h
  have hk2 : P.length + (1 + k2) ≤ 256 := by
    rcases h2 with ⟨-, g, -⟩ | ⟨-, g, -⟩
    · omega
    · omega
  rcases h1 with ⟨rfl, g1, j1, hl1, rfl⟩ | ⟨rfl, rfl, rfl, q, j, e, hl, hb⟩
  · refine ⟨hk2, by omega, ?_⟩
    rw [hM_more hl1 (by omega) (by omega), List.drop_drop] at hG
    rw [hRow16_set ha, Int.add_comm 1 (k1 : Int)]
    have hsum : (P ++ [(k1 : Int) + 1]).sum = P.sum + (k1 + 1) := by simp
    have hlen : (P ++ [(k1 : Int) + 1]).length = P.length + 1 := by simp
    rcases h2 with ⟨rfl, g2, j2, hl2, rfl⟩ | ⟨rfl, rfl, rfl, q, j, e, hl, hb⟩
    · refine .inr ⟨rfl, (P ++ [(k1 : Int) + 1]) ++ zerosI k2, (hRow16_zeros (by rw [hlen]; omega)).symm, by rw [List.length_append, hlen, zerosI_len]; omega, by rw [List.sum_append, hsum, sum_zerosI]; omega, by omega, ?_⟩
      rw [hG, hG_mid hl2 (by rw [hlen]; omega), List.drop_drop]
    · refine .inl ⟨rfl, ?_⟩
      rw [hG, hG_bad hl (by rw [hlen]; omega)]
      rfl
  · refine ⟨hk2, by omega, .inl ⟨?_, ?_⟩⟩
    · rcases h2 with ⟨rfl, -⟩ | ⟨rfl, -⟩ <;> rfl
    · rw [hG]
      by_cases he : e = 0
      · exact filt_over hl (by omega) (by omega)
      · rw [hM_bad hl (by omega) (.inl he)]; rfl
theorem inv_end {G : Option (List Int × Nat)} {T : Int} {l : List UInt8} {a s : Nat} {lf : Int} {bad : Bool} {Q : List Int} (h : GetInv G T l a lf s bad Q) (ha : bad = false → a = 256) :
    (bad = true ∨ lf ≠ 0 → filt T G = none) ∧ (bad = false → lf = 0 → filt T G = some (Q, s)) := by
  rcases h with ⟨rfl, h⟩ | ⟨rfl, P, rfl, rfl, hs, h0, hG⟩
  · exact ⟨fun _ => h, fun h => by cases h⟩
  · have hP := ha rfl
    rw [hM_end hP] at hG
    rw [hG, hRow16_full hP]
    refine ⟨fun h => ?_, fun _ h => ?_⟩
    · rcases h with h | h
      · cases h
      · simp only [filt, Option.bind_some]; rw [if_neg (by omega)]
    · simp only [filt, Option.bind_some]; rw [if_pos (by omega)]
end Go.Proofs.Ytfdgnhfppginiaa
