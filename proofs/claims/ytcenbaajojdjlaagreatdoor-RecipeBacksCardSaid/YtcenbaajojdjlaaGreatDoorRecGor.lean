/- Plain mathematics: what Pack makes, Unpack takes off again, by the functions of a reader's state. -/
import Derived.Test.YtcenbaajojdjlaaGreatDoorGorUnp
namespace Go.Proofs.YtcenbaajojdjlaaGreatDoor

theorem getV_bits (v n : Nat) (R : List Bool) (hv : v < 2 ^ n) : getV (bitsOf v n ++ R, 0) n = v := by
  unfold getV
  rw [if_pos ⟨rfl, by simp [bitsOf_length]⟩]
  simp only
  rw [bits_take, valOf_bitsOf, Nat.mod_eq_of_lt hv]
theorem getS_bits (v n : Nat) (R : List Bool) : getS (bitsOf v n ++ R, 0) n = (R, 0) := by
  unfold getS
  rw [if_pos rfl, if_pos (by simp [bitsOf_length])]
  simp only
  rw [bits_drop]
theorem getV_one (b : Bool) (R : List Bool) : getV (b :: R, 0) 1 = b.toNat := by
  unfold getV
  rw [if_pos ⟨rfl, by simp⟩]
  simp [valOf]
theorem getS_one (b : Bool) (R : List Bool) : getS (b :: R, 0) 1 = (R, 0) := by
  unfold getS
  rw [if_pos rfl, if_pos (by simp)]
  simp
/-- A window as three numbers. -/
def triOf (W : Nat) : Win → Nat × Nat × Nat
  | none => (0, 0, 0)
  | some p => (p.1, 8 * W - p.1 - p.2, p.2)
theorem fromT_own {W x a b : Nat} (hW : W ≤ 8) (h0 : x ≠ 0) (hx : x < 256 ^ W) (ha : a ≤ aboveN W x) (hb : b ≤ belowN x) (hab : a + b < 8 * W) (R : List Bool) :
    fromT (a, 8 * W - a - b, b) (ownB W a b x ++ R, 0) = (x, (a, 8 * W - a - b, b), true, (R, 0)) := by
  have hk := own_back hW h0 hx ha hb hab
  have hl : (ownB W a b x).length = 8 * W - a - b := by simp [ownB, bitsOf_length]
  have e1 : getV (ownB W a b x ++ R, 0) (8 * W - a - b) = valOf (ownB W a b x) := by
    unfold getV
    rw [if_pos ⟨rfl, by simp [hl]⟩]
    simp only
    rw [List.take_left' hl]
  have e2 : getS (ownB W a b x ++ R, 0) (8 * W - a - b) = (R, 0) := by
    unfold ownB
    exact getS_bits _ _ _
  unfold fromT
  rw [if_neg (by simp only; omega)]
  simp only
  rw [e1, e2, hk]
  simp
theorem takeR_step {W x : Nat} {s : Win} (hW : W ≤ 8) (hs : winOk W s) (hx : x < 256 ^ W) (R : List Bool) :
    takeR W (triOf W s) (stepB W s x ++ R, 0) = (x, triOf W (nextW W s x), true, (R, 0)) := by
  unfold stepB nextW
  by_cases h0 : x = 0
  · rw [if_pos h0, if_pos h0, h0]
    unfold takeR
    rw [List.singleton_append, if_pos (show getV (false :: R, 0) 1 = 0 by rw [getV_one]; rfl), getS_one]
    simp
  · rw [if_neg h0, if_neg h0]
    obtain ⟨f1, f2, f3, f4, f5, f6, f7, f8⟩ := own_facts hW h0 hx
    by_cases hh : hasB s (aboveN W x) (belowN x) = true
    · rw [if_pos hh, if_pos hh]
      obtain ⟨p, rfl, hp1, hp2⟩ := hasB_some hh
      obtain ⟨a, b⟩ := p
      have e : [true, false] ++ winB W (some (a, b)) x ++ R = true :: false :: (ownB W a b x ++ R) := by simp [winB]
      rw [e]
      unfold takeR
      rw [if_neg (by rw [getV_one]; decide), getS_one, if_pos (by rw [getV_one]; rfl), getS_one]
      exact fromT_own hW h0 hx hp1 hp2 hs R
    · rw [if_neg hh, if_neg hh]
      have e : [true, true] ++ bitsOf (aboveN W x) 6 ++ bitsOf (8 * W - aboveN W x - belowN x - 1) 6 ++ ownB W (aboveN W x) (belowN x) x ++ R = true :: true :: (bitsOf (aboveN W x) 6 ++ (bitsOf (8 * W - aboveN W x - belowN x - 1) 6 ++ (ownB W (aboveN W x) (belowN x) x ++ R))) := by simp
      rw [e]
      unfold takeR
      rw [if_neg (by rw [getV_one]; decide), getS_one, if_neg (by rw [getV_one]; decide), getS_one]
      have t1 := getV_bits (aboveN W x) 6 (bitsOf (8 * W - aboveN W x - belowN x - 1) 6 ++ (ownB W (aboveN W x) (belowN x) x ++ R)) (by omega)
      have t2 := getS_bits (aboveN W x) 6 (bitsOf (8 * W - aboveN W x - belowN x - 1) 6 ++ (ownB W (aboveN W x) (belowN x) x ++ R))
      have t3 := getV_bits (8 * W - aboveN W x - belowN x - 1) 6 (ownB W (aboveN W x) (belowN x) x ++ R) (by omega)
      have t4 := getS_bits (8 * W - aboveN W x - belowN x - 1) 6 (ownB W (aboveN W x) (belowN x) x ++ R)
      unfold toldT toldS
      rw [t1, t2, t3, t4, if_pos (by omega)]
      have hm : 8 * W - aboveN W x - (8 * W - aboveN W x - belowN x - 1 + 1) = belowN x := by omega
      have hm2 : 8 * W - aboveN W x - belowN x - 1 + 1 = 8 * W - aboveN W x - belowN x := by omega
      rw [hm, hm2]
      exact fromT_own hW h0 hx (Nat.le_refl _) (Nat.le_refl _) f1 R
theorem loopR_gorL {W : Nat} (hW : W ≤ 8) : ∀ (X : List Nat) (s : Win) (R : List Bool), winOk W s → (∀ x ∈ X, x < 256 ^ W) → loopR W X.length (triOf W s) (gorL W s X ++ R, 0) = some (X, (R, 0))
  | [], s, R, _, _ => by simp [loopR, gorL]
  | x :: t, s, R, hs, hX => by
    have hx := hX x (by simp)
    have h1 := takeR_step hW hs hx (gorL W (nextW W s x) t ++ R)
    rw [List.length_cons, loopR, gorL, List.append_assoc, h1, if_pos rfl]
    simp only
    rw [loopR_gorL hW t (nextW W s x) R (nextW_ok hW hx hs) (fun y hy => hX y (by simp [hy]))]
    rfl
theorem takenR_gorB {W : Nat} (hW1 : 1 ≤ W) (hW : W ≤ 8) (X : List Nat) (R : List Bool) (hX : ∀ x ∈ X, x < 256 ^ W) : takenR W X.length (gorB W X ++ R) = some (X, (R, 0)) := by
  have hl := gorB_len hW1 X
  unfold takenR
  rw [if_neg (by rw [List.length_append]; omega)]
  cases X with
  | nil => simp [gorB]
  | cons x t =>
    have hx := hX x (by simp)
    rw [if_neg (by simp), gorB, List.append_assoc, List.length_cons, Nat.add_sub_cancel]
    rw [pow_256] at hx
    rw [getV_bits _ _ _ hx, getS_bits, show (0, 0, 0) = triOf W none from rfl, loopR_gorL hW t none R trivial (fun y hy => hX y (by simp [hy]))]
    rfl
theorem doneE_noughts {p : Nat} (hp : p < 8) : doneE (List.replicate p false, 0) = 0 := by
  unfold doneE
  rw [if_neg (by simp), if_neg (by simp; omega), if_neg (by simp)]
theorem gorR_pack {W : Nat} (hW : IsW W) (ws : List Nat) (Q : List UInt8) (hQ : Packs Q (packB W ws)) (n : Int) (hn : (ws.length : Int) = n) (hb : ws.length ≤ 67108864) :
    gorR (W : Int) n Q = (0, ws.map (· % 256 ^ W)) := by
  subst hn
  have hp := hW.pos
  have hall := hQ.all
  have hlen := hQ.1
  unfold gorR
  rw [if_pos ⟨hW.right.symm, by omega, by omega⟩, Int.toNat_natCast, Int.toNat_natCast, hall]
  unfold packB
  have h := takenR_gorB hp.1 hp.2 (flipW W ws) (List.replicate (8 * Q.length - (gorB W (flipW W ws)).length) false) (flipW_lt W ws)
  rw [flipW_len] at h
  rw [h]
  simp only
  rw [if_pos (doneE_noughts (by unfold packB at hlen; omega)), back_flip]
end Go.Proofs.YtcenbaajojdjlaaGreatDoor
