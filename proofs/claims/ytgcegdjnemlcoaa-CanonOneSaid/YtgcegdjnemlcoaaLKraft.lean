/- Layer 20: the reference's Kraft. -/
import Derived.Test.YtgcegdjnemlcoaaCanonMath
import Derived.Test.YtgcegdjnemlcoaaNormFn
import Derived.Shelf.Abstract
namespace Go.Proofs.Ytgcegdjnemlcoaa
open Go.RowKit Go.Sort Go.Shelf

/-- Kraft's sum of lens, whatever numbers they are. -/
def kraftI (l : List Int) : Nat := kraftL (l.map Int.toNat)
theorem kraftI_take (l : List Int) {k : Nat} (h : k < l.length) : kraftI (l.take (k + 1)) = kraftI (l.take k) + if 1 ≤ (l[k]).toNat ∧ (l[k]).toNat ≤ 15 then 2 ^ (15 - (l[k]).toNat) else 0 := by
  unfold kraftI kraftL
  rw [List.take_add_one, List.getElem?_eq_getElem h, List.map_append, List.map_append, List.sum_append]
  congr 1
theorem kraftI_small (l : List Int) : kraftI l ≤ 16384 * l.length := by
  unfold kraftI kraftL
  induction l with
  | nil => simp
  | cons x l ih =>
    simp only [List.map_cons, List.sum_cons, List.length_cons]
    have : (if 1 ≤ x.toNat ∧ x.toNat ≤ 15 then 2 ^ (15 - x.toNat) else 0) ≤ 16384 := by
      split
      · have h := Nat.pow_le_pow_right (n := 2) (by decide) (show 15 - x.toNat ≤ 14 by omega)
        exact h
      · decide
    omega
section
variable {w : World} {A : Option Addr} {n m : Nat} {l : List Int}
set_option maxHeartbeats 1000000 in
set_option maxRecDepth 100000 in
theorem ref_kraft {B : Nat} (hr : Rd w B A (zvs l)) (hn : l.length = n) (hn1 : n ≤ 4096) :
    Calls Try.prog 12 #[.slice A n m] w fun e w' => e = .returned (.int .i64 (kraftI l : Int)) ∧ w' = w := by
  have HR := Lib.hid hr
  have HC := Lib.hid hn
  clear hr hn
  go_enter Try.func12, Try.ntmps12
  go_wp2
  go_loopw [3, 4, 5, 6] (fun s i _ _ wr => ∃ k : Nat, k ≤ n ∧ i = .int .i64 (k : Int) ∧ s = .int .i64 (kraftI (l.take k) : Int) ∧ wr = w) (fun _ i _ _ _ => n - (intOf i).toNat)
  case atStart => exact ⟨0, Nat.zero_le _, rfl, rfl, rfl⟩
  case round =>
    obtain ⟨k, hk, rfl, rfl, rfl⟩ := hrel
    by_cases hlt : k < n
    · have hkc : k < l.length := by have := HC.out; omega
      obtain ⟨b, off, rfl, -, hcell⟩ := cell_of_rd HR.out hkc
      have hki : (k : Int) < (n : Int) := by omega
      have ht := kraftI_take l hkc
      have hs := kraftI_small (l.take k)
      have hs2 : kraftI (l.take k) ≤ 100000000 := by rw [List.length_take] at hs; omega
      obtain ⟨x, hxx⟩ : ∃ x, x = l[k]'hkc := ⟨_, rfl⟩
      rw [← hxx] at hcell ht
      obtain ⟨K, hK⟩ : ∃ K, K = kraftI (l.take k) := ⟨_, rfl⟩
      rw [← hK] at ht hs2 ⊢
      have HT := Lib.hid ht
      clear ht hs hxx hK
      by_cases h0 : 0 < x
      · by_cases h1 : x ≤ 15
        · obtain ⟨X, rfl⟩ : ∃ X : Nat, x = (X : Int) := ⟨x.toNat, by omega⟩
          go_wp2
          go_loopw [5, 6] (fun p i wq => ∃ (q P : Nat), q ≤ X ∧ i = .int .i64 (q : Int) ∧ p = .int .i64 (P : Int) ∧ Hid (P = 2 ^ (15 - q)) ∧ wq = wr) (fun _ i _ => X - (intOf i).toNat)
          case atStart => exact ⟨0, 32768, Nat.zero_le _, rfl, rfl, Lib.hid rfl, rfl⟩
          case round =>
            obtain ⟨q, P, hq, rfl, rfl, HP, rfl⟩ := hrel
            by_cases hqX : q < X
            · have hqXi : (q : Int) < (X : Int) := by omega
              have hP2 : P ≤ 32768 := by rw [HP.out]; exact (Nat.pow_le_pow_right (n := 2) (by decide) (show 15 - q ≤ 15 by omega) : 2 ^ (15 - q) ≤ 2 ^ 15)
              obtain ⟨P2, hP3⟩ : ∃ P2, P2 = P / 2 := ⟨_, rfl⟩
              have e1 : ((P : Int)).tdiv 2 = (P2 : Int) := by rw [Int.tdiv_eq_ediv_of_nonneg (by omega)]; omega
              have HP2 := Lib.hid (show P2 = 2 ^ (15 - (q + 1)) by
                rw [hP3, HP.out, show 15 - q = (15 - (q + 1)) + 1 by omega, Nat.pow_succ]; omega)
              have hP4 : P2 ≤ 32768 := by omega
              clear hP3
              go_wp2
              go_roundw
              case rel => exact ⟨q + 1, P2, by omega, by go_num, by go_num, HP2, trivial⟩
              case measure => simp [intOf]; omega
            · obtain rfl : q = X := by omega
              have hP2 : P ≤ 32768 := by rw [HP.out]; exact (Nat.pow_le_pow_right (n := 2) (by decide) (show 15 - q ≤ 15 by omega) : 2 ^ (15 - q) ≤ 2 ^ 15)
              have hE : kraftI (l.take (k + 1)) = K + P := by
                rw [HT.out, HP.out, if_pos ⟨by omega, by omega⟩]; simp
              have HE := Lib.hid hE
              clear hE
              go_wp2
              go_roundw
              case rel => exact ⟨k + 1, by omega, by go_num, by rw [HE.out, Int.natCast_add], trivial⟩
              case measure => simp [intOf]; omega
        · have HE := Lib.hid (show kraftI (l.take (k + 1)) = K by rw [HT.out, if_neg (by omega), Nat.add_zero])
          go_wp2
          go_roundw
          case rel => exact ⟨k + 1, by omega, by go_num, by rw [HE.out], trivial⟩
          case measure => simp [intOf]; omega
      · have HE := Lib.hid (show kraftI (l.take (k + 1)) = K by rw [HT.out, if_neg (by omega), Nat.add_zero])
        go_wp2
        go_roundw
        case rel => exact ⟨k + 1, by omega, by go_num, by rw [HE.out], trivial⟩
        case measure => simp [intOf]; omega
    · obtain rfl : k = n := by omega
      rw [List.take_of_length_le (by have := HC.out; omega)]
      go_wp2
      go_ret
      exact ⟨rfl, rfl⟩
end
end Go.Proofs.Ytgcegdjnemlcoaa
