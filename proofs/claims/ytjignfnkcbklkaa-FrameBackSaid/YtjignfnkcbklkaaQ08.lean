/-
  Contracts of the functions that take a number: leb.Get, ref.Get, leb.GetInt. · Layer 30: the reference: May, number, sum, Put, PutEnd. · Layer 30: the reference: Get, GetEnd. · Layer 30: what was put is got; what was cut ends too early; lengths. Pure. · Layer 30: the program: has, checkTag, getSum, putSum, PutEnd. · Layer 30: the program: Put.
-/
import Derived.Test.YtjignfnkcbklkaaQ06
import Derived.Test.YtjignfnkcbklkaaQ07
import Derived.Deep.DeepMust
import Derived.BigQuiet
import Derived.Deep.QuietTactic
namespace Go.Proofs.Ytjignfnkcbklkaa
open Go.RowKit

theorem pow_7k (k : Nat) : (128 : Nat) ^ k = 2 ^ (7 * k) := by rw [Nat.pow_mul]
/-- bits that are put above those that are there, as the walk spells it -/
theorem get_step (acc c k : Nat) (hk : k ≤ 9) (ha : acc < 128 ^ k) (hb : c * 128 ^ k < 18446744073709551616) :
    bits .or .u64 (acc : Int) (IntKind.u64.wrap ((c : Int) * 2 ^ (7 * k))) = ((acc + c * 128 ^ k : Nat) : Int) := by
  have hp := pow128_mono hk
  have e : (c : Int) * 2 ^ (7 * k) = ((c * 128 ^ k : Nat) : Int) := by rw [pow_7k]; simp
  have ha2 : (acc : Int) < 2 ^ (7 * k) := by
    have : ((acc : Nat) : Int) < ((2 ^ (7 * k) : Nat) : Int) := by rw [← pow_7k]; exact_mod_cast ha
    simpa using this
  have hmod : ((c * 128 ^ k : Nat) : Int) % 2 ^ (7 * k) = 0 := by
    rw [← e]; exact Int.mul_emod_left _ _
  rw [e, IntKind.wrap_u64, Int.emod_eq_of_lt (by omega) (by omega), orHigh_u64 _ _ (7 * k) (by omega) ha2 (by omega) hmod (by omega) (by omega)]
  omega

theorem ret_get {a a' b b' c c' : Int} (h1 : a = a') (h2 : b = b') (h3 : c = c') :
    Ending.returned (.tuple #[.int .u64 a, .int .i64 b, .int .i64 c]) = .returned (.tuple #[.int .u64 a', .int .i64 b', .int .i64 c']) := by subst h1 h2 h3; rfl

/-- What holds at the head of a round of leb.Get. -/
def GetRel (l : List UInt8) (r : Nat × Nat × Nat) (t s i : Value) : Prop :=
  ∃ k acc : Nat, t = .int .u64 acc ∧ s = .int .i64 0 ∧ i = .int .i64 k ∧ k ≤ l.length ∧ k ≤ 9 ∧ acc < 128 ^ k ∧ Hid (lgetF k acc (l.drop k) = r)

set_option maxHeartbeats 400000 in
set_option maxRecDepth 100000 in
theorem lebGet_any (A : Option Addr) (n c : Nat) (l : List UInt8) (w : World) (hr : Rd w w.heap.size A (bvs l)) (hn : l.length = n) (hn1 : n ≤ 9223372036854775807) (m j e : Nat) (hg : lget l = (m, j, e)) :
    Calls Try.prog 34 #[.slice A n c] w fun e' w' => e' = .returned (.tuple #[.int .u64 m, .int .i64 j, .int .i64 e]) ∧ w = w' := by
  subst hn
  have HG := Lib.hid hg
  clear hg
  go_enter Try.func34, Try.ntmps34
  go_wp2
  go_step3
  go_wp2
  go_step3
  go_wp2
  go_loop [5, 6, 11] (GetRel l (m, j, e)) (fun _ _ i => 10 - (intOf i).toNat)
  case atStart => exact ⟨0, 0, rfl, rfl, rfl, by omega, by omega, by decide, HG.out⟩
  case round =>
    obtain ⟨k, acc, rfl, rfl, rfl, hkl, hk9, hacc, Hrel⟩ := hrel
    by_cases hlt : k < l.length
    · obtain ⟨ab, ao, rfl, _, hcell⟩ := hr k _ (bvs_get l k hlt)
      obtain ⟨b, hb⟩ : ∃ b, b = l[k] := ⟨_, rfl⟩
      rw [← hb] at hcell
      have hdrop : l.drop k = b :: l.drop (k + 1) := by rw [hb]; exact List.drop_eq_getElem_cons hlt
      rw [hdrop] at Hrel
      have HD := Lib.hid hdrop
      have HB := Lib.hid hb
      have hb8 := b.toNat_lt
      have hb0 : (0 : Int) ≤ (b.toNat : Int) := by omega
      have hb255 : (b.toNat : Int) ≤ 255 := by omega
      clear hdrop hb
      by_cases c1 : k = 9 ∧ 1 < b.toNat
      · have hres : (m, j, e) = (0, 0, 21) := by rw [← Hrel.out]; simp only [lgetF]; rw [if_pos c1]
        obtain ⟨rfl, c1⟩ := c1
        have HRES := Lib.hid hres
        clear hres
        go_wp2
        go_ret3
        have := HRES.out
        simp only [Prod.mk.injEq] at this
        obtain ⟨rfl, rfl, rfl⟩ := this
        exact ⟨rfl, rfl⟩
      · by_cases c2 : 128 ≤ b.toNat
        · have hk8 : k ≤ 8 := by omega
          have Hrel1 : Hid (lgetF (k + 1) (acc + (b.toNat - 128) * 128 ^ k) (l.drop (k + 1)) = (m, j, e)) := by
            have := Hrel.out
            simp only [lgetF] at this
            rw [if_neg c1, if_pos c2] at this
            exact this
          have hn9 : ((k : Int) == 9) = false := by rw [beq_eq_false_iff_ne]; omega
          have hp : 128 ^ k * 128 = 128 ^ (k + 1) := rfl
          have hpp := pow128_pos k
          have hm9 := pow128_mono (k := k + 1) (by omega)
          have hbk : (b.toNat - 128) * 128 ^ k ≤ 127 * 128 ^ k := Nat.mul_le_mul_right _ (by omega)
          have hstep := get_step acc (b.toNat - 128) k (by omega) hacc (by omega)
          have hcast : ((b.toNat - 128 : Nat) : Int) = (b.toNat : Int) - 128 := by omega
          rw [hcast] at hstep
          have hacc1 : acc + (b.toNat - 128) * 128 ^ k < 128 ^ (k + 1) := by omega
          have HS := Lib.hid hstep
          have HA := Lib.hid hacc1
          have hk8i : (k : Int) ≤ 8 := by omega
          clear hstep hacc1 hbk hm9 hp hcast hacc hpp Hrel c1
          go_wp2
          go_round
          case rel => exact ⟨k + 1, _, by rw [HS.out], rfl, by go_num, by omega, by omega, HA.out, Hrel1⟩
          case measure => simp [intOf]; omega
        · by_cases c3 : b.toNat = 0 ∧ 0 < k
          · have hres : (m, j, e) = (0, 0, 21) := by rw [← Hrel.out]; simp only [lgetF]; rw [if_neg c1, if_neg c2, if_pos c3]
            obtain ⟨c3, hk0⟩ := c3
            have hb00 : ((b.toNat : Int) == 0) = true := by rw [c3]; rfl
            have hn9 : (decide (1 < (b.toNat : Int))) = false := by rw [c3]; rfl
            have HRES := Lib.hid hres
            have hcell' : w.cell? ⟨ab, ao + k, none⟩ = some (.int .u8 0) := by rw [hcell, c3]; rfl
            clear hres c3 hcell Hrel c1 c2 hb00 hn9 hacc
            go_wp2
            all_goals go_ret3
            all_goals (have hq := HRES.out; simp only [Prod.mk.injEq] at hq; obtain ⟨rfl, rfl, rfl⟩ := hq; exact ⟨rfl, rfl⟩)
          · have hres : (m, j, e) = (acc + b.toNat * 128 ^ k, k + 1, 0) := by rw [← Hrel.out]; simp only [lgetF]; rw [if_neg c1, if_neg c2, if_neg c3]
            have hbk : b.toNat * 128 ^ k < 18446744073709551616 := by
              rcases Nat.lt_or_ge k 9 with g | g
              · have h6 : 128 ^ (k + 1) ≤ 9223372036854775808 := pow128_mono (by omega)
                have h7 : b.toNat * 128 ^ k ≤ 127 * 128 ^ k := Nat.mul_le_mul_right _ (by omega)
                have h8 : 128 ^ k * 128 = 128 ^ (k + 1) := rfl
                omega
              · have : k = 9 := by omega
                subst this
                have : b.toNat ≤ 1 := by omega
                have := Nat.mul_le_mul_right (128 ^ 9) this
                rw [pow128_9] at this ⊢
                omega
            have hstep := get_step acc b.toNat k (by omega) hacc hbk
            have HS := Lib.hid hstep
            have HRES := Lib.hid hres
            have hk9i : (k : Int) ≤ 9 := by omega
            have hlt128 : (b.toNat : Int) < 128 := by omega
            by_cases g9 : k = 9
            · subst g9
              have hb1 : (b.toNat : Int) ≤ 1 := by omega
              have hz : (decide (1 < (b.toNat : Int))) = false := by rw [decide_eq_false_iff_not]; omega
              by_cases gz : b.toNat = 0
              · exact absurd ⟨gz, by omega⟩ c3
              · have hz2 : ((b.toNat : Int) == 0) = false := by rw [beq_eq_false_iff_ne]; omega
                have HS9 : Hid (bits .or .u64 (acc : Int) ((b.toNat : Int) * 9223372036854775808) = ((acc + b.toNat * 128 ^ 9 : Nat) : Int)) := by
                  have e : (2 : Int) ^ (7 * 9) = 9223372036854775808 := by decide
                  have h := hstep
                  rw [e, IntKind.wrap_u64, Int.emod_eq_of_lt (by omega) (by omega)] at h
                  exact h
                clear hstep hres hbk hacc Hrel c1 c2 c3 gz
                go_wp2
                all_goals go_ret3
                all_goals (have hq := HRES.out; simp only [Prod.mk.injEq] at hq; obtain ⟨rfl, rfl, rfl⟩ := hq; exact ⟨ret_get HS9.out (by omega) rfl, rfl⟩)
            · have hn9 : ((k : Int) == 9) = false := by rw [beq_eq_false_iff_ne]; omega
              by_cases gz : b.toNat = 0
              · have hk00 : k = 0 := by omega
                subst hk00
                have hcell' : w.cell? ⟨ab, ao, none⟩ = some (.int .u8 0) := by have := hcell; rw [gz] at this; simpa using this
                obtain rfl : acc = 0 := by simpa using hacc
                have GZ := Lib.hid gz
                clear hstep hres hbk hacc Hrel c1 c2 c3 gz g9 hn9 hcell hlt128 hk9i
                go_wp2
                all_goals go_ret3
                all_goals (have hq := HRES.out; simp only [Prod.mk.injEq] at hq; obtain ⟨rfl, rfl, rfl⟩ := hq; exact ⟨ret_get (by rw [GZ.out]; decide) (by omega) rfl, rfl⟩)
              · have hz2 : ((b.toNat : Int) == 0) = false := by rw [beq_eq_false_iff_ne]; omega
                clear hstep hres hbk hacc Hrel c1 c2 c3 gz g9
                go_wp2
                all_goals go_ret3
                all_goals (have hq := HRES.out; simp only [Prod.mk.injEq] at hq; obtain ⟨rfl, rfl, rfl⟩ := hq; exact ⟨ret_get HS.out (by omega) rfl, rfl⟩)
    · have hkl' : k = l.length := by omega
      have hres : (m, j, e) = (0, 0, 11) := by rw [← Hrel.out, List.drop_of_length_le (by omega)]; rfl
      have HRES := Lib.hid hres
      clear hres Hrel hacc
      subst hkl'
      go_wp2
      all_goals go_ret3
      all_goals (have hq := HRES.out; simp only [Prod.mk.injEq] at hq; obtain ⟨rfl, rfl, rfl⟩ := hq; exact ⟨rfl, rfl⟩)

end Go.Proofs.Ytjignfnkcbklkaa
namespace Go.Proofs.Ytjignfnkcbklkaa
open Go.RowKit

/-- A block, as a value. -/
def blkV (mo ra mi co su fr pl : Int) : Value := .agg #[.int .i64 mo, .int .i64 ra, .int .i64 mi, .int .i64 co, .int .u32 su, .int .i64 fr, .int .i64 pl]
/-- May a block be, of blocks of so many bytes? -/
def mayBk (mo ra mi co most : Int) : Bool := decide (0 ≤ mo) && decide (mo ≤ 5) && decide (1 ≤ ra) && decide (ra ≤ most) && (if mo = 0 then decide (mi = 0) && decide (co = ra) else decide (0 ≤ mi) && decide (mi ≤ 3 * ra + 64) && decide (0 ≤ co) && decide (co < ra))
theorem ret_bb {a b : Bool} (h : a = b) : Ending.returned (.bool a) = .returned (.bool b) := by rw [h]
/-- A number of a place on, out of what leb tells. -/
def nbR (r : Nat × Nat × Nat) (a b : Nat) : Nat × Nat × Nat :=
  if r.2.2 = 0 then (if r.1 ≤ 1099511627776 ∧ a ≤ r.1 ∧ r.1 ≤ b then (r.1, r.2.1, 0) else (0, 0, 15)) else if r.2.2 = 21 then (0, 0, 15) else (0, 0, r.2.2)
/-- What four bytes say, the lowest first. -/
def sum4 (l : List UInt8) : Nat := (l.getD 0 0).toNat + 256 * (l.getD 1 0).toNat + 65536 * (l.getD 2 0).toNat + 16777216 * (l.getD 3 0).toNat
theorem sum4_lt (l : List UInt8) : sum4 l < 4294967296 := by
  unfold sum4
  have h0 := (l.getD 0 0).toNat_lt
  have h1 := (l.getD 1 0).toNat_lt
  have h2 := (l.getD 2 0).toNat_lt
  have h3 := (l.getD 3 0).toNat_lt
  omega
/-- A block's bytes. -/
def blkL (mo ra mi co su : Nat) : List UInt8 := UInt8.ofNat (mo + 1) :: lput ra ++ ((if 0 < mo then lput mi ++ lput co else []) ++ fourL su)
/-- The end's bytes. -/
def endL (n su : Nat) : List UInt8 := 0 :: lput n ++ fourL su
end Go.Proofs.Ytjignfnkcbklkaa
namespace Go.Proofs.Ytjignfnkcbklkaa
open Go.RowKit

theorem nbR_told (l : List UInt8) (a b : Nat) : (∃ x, nbR (lget l) a b = (x, (lput x).length, 0) ∧ x ≤ 1099511627776 ∧ a ≤ x ∧ x ≤ b ∧ (lput x).length ≤ l.length ∧ l.take (lput x).length = lput x) ∨ nbR (lget l) a b = (0, 0, 11) ∨ nbR (lget l) a b = (0, 0, 15) := by
  rcases lget_told l with ⟨x, h, -, hl, ht⟩ | h | h
  · rw [h]
    unfold nbR
    rw [if_pos rfl]
    by_cases hc : x ≤ 1099511627776 ∧ a ≤ x ∧ x ≤ b
    · rw [if_pos hc]
      exact .inl ⟨x, rfl, hc.1, hc.2.1, hc.2.2, hl, ht⟩
    · rw [if_neg hc]
      exact .inr (.inr rfl)
  · rw [h]
    exact .inr (.inl rfl)
  · rw [h]
    exact .inr (.inr rfl)
/-- What GetEnd tells of bytes. -/
def endG (l : List UInt8) : Nat × Nat × Nat × Nat :=
  if l.length = 0 then (0, 0, 0, 11)
  else if (l.getD 0 0).toNat ≠ 0 then (0, 0, 0, 14)
  else if (nbR (lget (l.drop 1)) 0 1099511627776).2.2 ≠ 0 then (0, 0, 0, (nbR (lget (l.drop 1)) 0 1099511627776).2.2)
  else if l.length < 1 + (nbR (lget (l.drop 1)) 0 1099511627776).2.1 + 4 then (0, 0, 0, 11)
  else ((nbR (lget (l.drop 1)) 0 1099511627776).1, sum4 (l.drop (1 + (nbR (lget (l.drop 1)) 0 1099511627776).2.1)), 1 + (nbR (lget (l.drop 1)) 0 1099511627776).2.1 + 4, 0)
def EndOut (W : World) (r : Nat × Nat × Nat × Nat) (e : Ending) (w' : World) : Prop := e = .returned (.tuple #[.int .i64 (r.1 : Int), .int .u32 (r.2.1 : Int), .int .i64 (r.2.2.1 : Int), .int .i64 (r.2.2.2 : Int)]) ∧ Below W.heap.size W w'
theorem bvs_dropped (l : List UInt8) (k : Nat) : (bvs l).drop k = bvs (l.drop k) := bvs_drop l k
/-- A block's cells (From and At 0). -/
def blkC (q : Nat × Nat × Nat × Nat × Nat) : List Value := [.int .i64 (q.1 : Int), .int .i64 (q.2.1 : Int), .int .i64 (q.2.2.1 : Int), .int .i64 (q.2.2.2.1 : Int), .int .u32 (q.2.2.2.2 : Int), .int .i64 0, .int .i64 0]
/-- What Get tells of bytes behind the first number. -/
def getB2 (l : List UInt8) (x : Nat) (y : Nat × Nat × Nat) : (Nat × Nat × Nat × Nat × Nat) × Nat × Nat :=
  if y.2.2 ≠ 0 then ((0, 0, 0, 0, 0), 0, y.2.2)
  else if x = 1 then (if l.length < 1 + y.2.1 + 4 then ((0, 0, 0, 0, 0), 0, 11) else ((0, y.1, 0, y.1, sum4 (l.drop (1 + y.2.1))), 1 + y.2.1 + 4, 0))
  else if (nbR (lget (l.drop (1 + y.2.1))) 0 (3 * y.1 + 64)).2.2 ≠ 0 then ((0, 0, 0, 0, 0), 0, (nbR (lget (l.drop (1 + y.2.1))) 0 (3 * y.1 + 64)).2.2)
  else if (nbR (lget (l.drop (1 + y.2.1 + (nbR (lget (l.drop (1 + y.2.1))) 0 (3 * y.1 + 64)).2.1))) 0 (y.1 - 1)).2.2 ≠ 0 then ((0, 0, 0, 0, 0), 0, (nbR (lget (l.drop (1 + y.2.1 + (nbR (lget (l.drop (1 + y.2.1))) 0 (3 * y.1 + 64)).2.1))) 0 (y.1 - 1)).2.2)
  else if l.length < 1 + y.2.1 + (nbR (lget (l.drop (1 + y.2.1))) 0 (3 * y.1 + 64)).2.1 + (nbR (lget (l.drop (1 + y.2.1 + (nbR (lget (l.drop (1 + y.2.1))) 0 (3 * y.1 + 64)).2.1))) 0 (y.1 - 1)).2.1 + 4 then ((0, 0, 0, 0, 0), 0, 11)
  else ((x - 1, y.1, (nbR (lget (l.drop (1 + y.2.1))) 0 (3 * y.1 + 64)).1, (nbR (lget (l.drop (1 + y.2.1 + (nbR (lget (l.drop (1 + y.2.1))) 0 (3 * y.1 + 64)).2.1))) 0 (y.1 - 1)).1,
    sum4 (l.drop (1 + y.2.1 + (nbR (lget (l.drop (1 + y.2.1))) 0 (3 * y.1 + 64)).2.1 + (nbR (lget (l.drop (1 + y.2.1 + (nbR (lget (l.drop (1 + y.2.1))) 0 (3 * y.1 + 64)).2.1))) 0 (y.1 - 1)).2.1))),
    1 + y.2.1 + (nbR (lget (l.drop (1 + y.2.1))) 0 (3 * y.1 + 64)).2.1 + (nbR (lget (l.drop (1 + y.2.1 + (nbR (lget (l.drop (1 + y.2.1))) 0 (3 * y.1 + 64)).2.1))) 0 (y.1 - 1)).2.1 + 4, 0)
/-- What Get tells of bytes. -/
def getB (l : List UInt8) (most : Nat) : (Nat × Nat × Nat × Nat × Nat) × Nat × Nat :=
  if l.length = 0 then ((0, 0, 0, 0, 0), 0, 11)
  else if (l.getD 0 0).toNat = 0 ∨ 6 < (l.getD 0 0).toNat then ((0, 0, 0, 0, 0), 0, 14)
  else getB2 l (l.getD 0 0).toNat (nbR (lget (l.drop 1)) 1 most)
def BGetOut (W : World) (r : (Nat × Nat × Nat × Nat × Nat) × Nat × Nat) (e : Ending) (w' : World) : Prop := e = .returned (.tuple #[.agg (blkC r.1).toArray, .int .i64 (r.2.1 : Int), .int .i64 (r.2.2 : Int)]) ∧ Below W.heap.size W w'
theorem set7 {w : World} {g : Nat} {t : TypeId} {u0 u1 u2 u3 u4 u5 u6 : Value} (h : Blk w g t [u0, u1, u2, u3, u4, u5, u6]) (v0 v1 v2 v3 v4 v5 v6 : Value) : Blk (((((((w.setCell ⟨g, 0, none⟩ v0).setCell ⟨g, 1, none⟩ v1).setCell ⟨g, 2, none⟩ v2).setCell ⟨g, 3, none⟩ v3).setCell ⟨g, 4, none⟩ v4).setCell ⟨g, 5, none⟩ v5).setCell ⟨g, 6, none⟩ v6) g t [v0, v1, v2, v3, v4, v5, v6] :=
  ((((((h.set_ 0 v0).set_ 1 v1).set_ 2 v2).set_ 3 v3).set_ 4 v4).set_ 5 v5).set_ 6 v6
theorem below7 {B g : Nat} {a w : World} (h : Below B a w) (hg : B ≤ g) (v0 v1 v2 v3 v4 v5 v6 : Value) : Below B a (((((((w.setCell ⟨g, 0, none⟩ v0).setCell ⟨g, 1, none⟩ v1).setCell ⟨g, 2, none⟩ v2).setCell ⟨g, 3, none⟩ v3).setCell ⟨g, 4, none⟩ v4).setCell ⟨g, 5, none⟩ v5).setCell ⟨g, 6, none⟩ v6) :=
  ((((((h.setCell (p := ⟨g, 0, none⟩) hg v0).setCell (p := ⟨g, 1, none⟩) hg v1).setCell (p := ⟨g, 2, none⟩) hg v2).setCell (p := ⟨g, 3, none⟩) hg v3).setCell (p := ⟨g, 4, none⟩) hg v4).setCell (p := ⟨g, 5, none⟩) hg v5).setCell (p := ⟨g, 6, none⟩) hg v6
theorem size_blk : (Try.prog.info? 37).map (·.size) = some 7 := by kernel_rfl
end Go.Proofs.Ytjignfnkcbklkaa
namespace Go.Proofs.Ytjignfnkcbklkaa
open Go.RowKit

theorem nbR_put {x a b : Nat} (h40 : x ≤ 1099511627776) (ha : a ≤ x) (hb : x ≤ b) (more : List UInt8) : nbR (lget (lput x ++ more)) a b = (x, (lput x).length, 0) := by
  rw [lget_put x more (by omega)]
  unfold nbR
  rw [if_pos rfl, if_pos ⟨h40, ha, hb⟩]
theorem nbR_cut {x i : Nat} (a b : Nat) (h40 : x ≤ 1099511627776) (hi : i < (lput x).length) : nbR (lget ((lput x).take i)) a b = (0, 0, 11) := by
  rw [lget_cut x i (by omega) hi]
  rfl
theorem sum4_four {su : Nat} (h : su < 4294967296) (more : List UInt8) : sum4 (fourL su ++ more) = su := by
  obtain ⟨c0, c1, c2, c3, h4, e0, e1, e2, e3⟩ := four_vals su
  rw [h4]
  unfold sum4
  show c0.toNat + 256 * c1.toNat + 65536 * c2.toNat + 16777216 * c3.toNat = su
  omega
theorem mayBk_nat {mo ra mi co most : Nat} (h : mayBk (mo : Int) (ra : Int) (mi : Int) (co : Int) (most : Int) = true) : mo ≤ 5 ∧ 1 ≤ ra ∧ ra ≤ most ∧ (mo = 0 → mi = 0 ∧ co = ra) ∧ (mo ≠ 0 → mi ≤ 3 * ra + 64 ∧ co < ra) := by
  unfold mayBk at h
  by_cases h0 : mo = 0
  · subst h0
    simp at h
    omega
  · rw [if_neg (by omega)] at h
    simp at h
    omega
theorem blk_hd (mo : Nat) (h : mo ≤ 5) (T : List UInt8) : ((UInt8.ofNat (mo + 1) :: T).getD 0 0).toNat = mo + 1 := by
  show (UInt8.ofNat (mo + 1)).toNat = mo + 1
  rw [UInt8.toNat_ofNat']
  omega
/-- Get of a block's first byte, and of what is behind it. -/
theorem getB_hd {mo : Nat} (h : mo ≤ 5) (T : List UInt8) (most : Nat) : getB (UInt8.ofNat (mo + 1) :: T) most = getB2 (UInt8.ofNat (mo + 1) :: T) (mo + 1) (nbR (lget T) 1 most) := by
  unfold getB
  rw [if_neg (by simp), blk_hd mo h, if_neg (by omega)]
  rfl
theorem getB2_bad (l : List UInt8) (x e : Nat) (he : e ≠ 0) : getB2 l x (0, 0, e) = ((0, 0, 0, 0, 0), 0, e) := by
  unfold getB2
  rw [if_pos he]
theorem drop1 (c : UInt8) (P T : List UInt8) : (c :: (P ++ T)).drop (1 + P.length) = T := by
  rw [Nat.add_comm, List.drop_succ_cons, List.drop_left]
theorem drop2 (c : UInt8) (P Q T : List UInt8) : (c :: (P ++ (Q ++ T))).drop (1 + P.length + Q.length) = T := by
  rw [← List.drop_drop, drop1, List.drop_left]
theorem drop3 (c : UInt8) (P Q S T : List UInt8) : (c :: (P ++ (Q ++ (S ++ T)))).drop (1 + P.length + Q.length + S.length) = T := by
  rw [← List.drop_drop, drop2, List.drop_left]
/-- A stored block. -/
theorem getB_stored {ra most : Nat} (h1 : 1 ≤ ra) (hm : ra ≤ most) (hb : most ≤ 16777216) (T : List UInt8) :
    getB (UInt8.ofNat (0 + 1) :: (lput ra ++ T)) most = if T.length < 4 then ((0, 0, 0, 0, 0), 0, 11) else ((0, ra, 0, ra, sum4 T), 1 + (lput ra).length + 4, 0) := by
  rw [getB_hd (by decide), nbR_put (by omega) h1 hm]
  unfold getB2
  rw [if_neg (fun h => h rfl), if_pos rfl]
  simp only [drop1]
  have hl : (UInt8.ofNat (0 + 1) :: (lput ra ++ T)).length = 1 + (lput ra).length + T.length := by rw [List.length_cons, List.length_append]; omega
  rw [hl]
  by_cases h4 : T.length < 4
  · rw [if_pos h4, if_pos (by omega)]
  · rw [if_neg h4, if_neg (by omega)]
theorem getB_mid {mo ra most : Nat} (hmo : mo ≤ 5) (h0 : mo ≠ 0) (h1 : 1 ≤ ra) (hm : ra ≤ most) (hb : most ≤ 16777216) (T : List UInt8) (he : nbR (lget T) 0 (3 * ra + 64) = (0, 0, 11)) :
    getB (UInt8.ofNat (mo + 1) :: (lput ra ++ T)) most = ((0, 0, 0, 0, 0), 0, 11) := by
  rw [getB_hd hmo, nbR_put (by omega) h1 hm]
  unfold getB2
  rw [if_neg (fun h => h rfl), if_neg (by omega)]
  simp only [drop1, he]
  rfl
theorem getB_coded {mo ra mi most : Nat} (hmo : mo ≤ 5) (h0 : mo ≠ 0) (h1 : 1 ≤ ra) (hm : ra ≤ most) (hb : most ≤ 16777216) (hmi : mi ≤ 3 * ra + 64) (T : List UInt8) (he : nbR (lget T) 0 (ra - 1) = (0, 0, 11)) :
    getB (UInt8.ofNat (mo + 1) :: (lput ra ++ (lput mi ++ T))) most = ((0, 0, 0, 0, 0), 0, 11) := by
  rw [getB_hd hmo, nbR_put (by omega) h1 hm]
  unfold getB2
  rw [if_neg (fun h => h rfl), if_neg (by omega)]
  simp only [drop1, nbR_put (show mi ≤ 1099511627776 by omega) (Nat.zero_le mi) hmi, drop2, he]
  rfl
theorem getB_full {mo ra mi co most : Nat} (hmo : mo ≤ 5) (h0 : mo ≠ 0) (h1 : 1 ≤ ra) (hm : ra ≤ most) (hb : most ≤ 16777216) (hmi : mi ≤ 3 * ra + 64) (hco : co ≤ ra - 1) (T : List UInt8) :
    getB (UInt8.ofNat (mo + 1) :: (lput ra ++ (lput mi ++ (lput co ++ T)))) most = if T.length < 4 then ((0, 0, 0, 0, 0), 0, 11) else ((mo, ra, mi, co, sum4 T), 1 + (lput ra).length + (lput mi).length + (lput co).length + 4, 0) := by
  rw [getB_hd hmo, nbR_put (by omega) h1 hm]
  unfold getB2
  rw [if_neg (fun h => h rfl), if_neg (by omega)]
  have hl : (UInt8.ofNat (mo + 1) :: (lput ra ++ (lput mi ++ (lput co ++ T)))).length = 1 + (lput ra).length + (lput mi).length + (lput co).length + T.length := by simp only [List.length_cons, List.length_append]; omega
  simp only [drop1, nbR_put (show mi ≤ 1099511627776 by omega) (Nat.zero_le mi) hmi, drop2, nbR_put (show co ≤ 1099511627776 by omega) (Nat.zero_le co) hco, drop3, hl]
  rw [if_neg (fun h => h rfl), if_neg (fun h => h rfl)]
  by_cases h4 : T.length < 4
  · rw [if_pos h4, if_pos (by omega)]
  · rw [if_neg h4, if_neg (by omega)]
    rfl
theorem blkL_stored {mo ra mi co su : Nat} (h0 : mo = 0) : blkL mo ra mi co su = UInt8.ofNat (0 + 1) :: (lput ra ++ fourL su) := by
  subst h0
  rfl
theorem blkL_coded {mo ra mi co su : Nat} (h0 : mo ≠ 0) : blkL mo ra mi co su = UInt8.ofNat (mo + 1) :: (lput ra ++ (lput mi ++ (lput co ++ fourL su))) := by
  unfold blkL
  rw [if_pos (by omega)]
  simp
/-- What was put is got. -/
theorem getB_put {mo ra mi co su most : Nat} (h : mayBk (mo : Int) (ra : Int) (mi : Int) (co : Int) (most : Int) = true) (hs : su < 4294967296) (hb : most ≤ 16777216) (more : List UInt8) :
    getB (blkL mo ra mi co su ++ more) most = ((mo, ra, mi, co, su), (blkL mo ra mi co su).length, 0) := by
  obtain ⟨hmo, h1, hm, hz, hn⟩ := mayBk_nat h
  by_cases h0 : mo = 0
  · obtain ⟨rfl, rfl⟩ := hz h0
    rw [blkL_stored h0, List.cons_append, List.append_assoc, getB_stored h1 hm hb, if_neg (by simp [fourL]), sum4_four hs, h0]
    simp [fourL]
    omega
  · obtain ⟨hmi, hco⟩ := hn h0
    rw [blkL_coded h0, List.cons_append, List.append_assoc, List.append_assoc, List.append_assoc, getB_full hmo h0 h1 hm hb hmi (by omega), if_neg (by simp [fourL]), sum4_four hs]
    simp [fourL]
    omega
theorem take_lt (P T : List UInt8) {i : Nat} (h : i < P.length) : (P ++ T).take i = P.take i := by
  rw [List.take_append, show i - P.length = 0 by omega, List.take_zero, List.append_nil]
theorem take_ge (P T : List UInt8) {i : Nat} (h : P.length ≤ i) : (P ++ T).take i = P ++ T.take (i - P.length) := by
  rw [List.take_append, List.take_of_length_le h]
/-- Each beginning of it, but all, ends too early. -/
theorem getB_cut {mo ra mi co su most i : Nat} (h : mayBk (mo : Int) (ra : Int) (mi : Int) (co : Int) (most : Int) = true) (hb : most ≤ 16777216) (hi : i < (blkL mo ra mi co su).length) :
    getB ((blkL mo ra mi co su).take i) most = ((0, 0, 0, 0, 0), 0, 11) := by
  obtain ⟨hmo, h1, hm, hz, hn⟩ := mayBk_nat h
  cases i with
  | zero => rfl
  | succ i =>
    by_cases h0 : mo = 0
    · rw [blkL_stored h0] at hi ⊢
      rw [List.length_cons, List.length_append] at hi
      rw [List.take_succ_cons]
      by_cases hr : i < (lput ra).length
      · rw [take_lt _ _ hr, getB_hd (by decide), nbR_cut _ _ (by omega) hr, getB2_bad _ _ _ (by decide)]
      · have h4 : (fourL su).length = 4 := rfl
        rw [take_ge _ _ (by omega), getB_stored h1 hm hb, if_pos (by rw [List.length_take]; omega)]
    · obtain ⟨hmi, hco⟩ := hn h0
      rw [blkL_coded h0] at hi ⊢
      have h4 : (fourL su).length = 4 := rfl
      simp only [List.length_cons, List.length_append] at hi
      rw [List.take_succ_cons]
      by_cases hr : i < (lput ra).length
      · rw [take_lt _ _ hr, getB_hd hmo, nbR_cut _ _ (by omega) hr, getB2_bad _ _ _ (by decide)]
      · rw [take_ge _ _ (by omega)]
        by_cases hr2 : i - (lput ra).length < (lput mi).length
        · rw [take_lt _ _ hr2, getB_mid hmo h0 h1 hm hb _ (nbR_cut _ _ (by omega) hr2)]
        · rw [take_ge _ _ (by omega)]
          by_cases hr3 : i - (lput ra).length - (lput mi).length < (lput co).length
          · rw [take_lt _ _ hr3, getB_coded hmo h0 h1 hm hb hmi _ (nbR_cut _ _ (by omega) hr3)]
          · rw [take_ge _ _ (by omega), getB_full hmo h0 h1 hm hb hmi (by omega), if_pos (by rw [List.length_take]; omega)]
/-- The end, behind its first byte. -/
theorem endG_hd (T : List UInt8) : endG (0 :: T) = if (nbR (lget T) 0 1099511627776).2.2 ≠ 0 then (0, 0, 0, (nbR (lget T) 0 1099511627776).2.2) else if (0 :: T).length < 1 + (nbR (lget T) 0 1099511627776).2.1 + 4 then (0, 0, 0, 11)
    else ((nbR (lget T) 0 1099511627776).1, sum4 ((0 :: T : List UInt8).drop (1 + (nbR (lget T) 0 1099511627776).2.1)), 1 + (nbR (lget T) 0 1099511627776).2.1 + 4, 0) := by
  unfold endG
  rw [if_neg (by simp), if_neg (fun h => h rfl)]
  rfl
theorem endG_full {n : Nat} (hn : n ≤ 1099511627776) (T : List UInt8) : endG (0 :: (lput n ++ T)) = if T.length < 4 then (0, 0, 0, 11) else (n, sum4 T, 1 + (lput n).length + 4, 0) := by
  rw [endG_hd, nbR_put hn (Nat.zero_le n) hn]
  simp only [drop1]
  rw [if_neg (fun h => h rfl)]
  have hl : ((0 : UInt8) :: (lput n ++ T)).length = 1 + (lput n).length + T.length := by rw [List.length_cons, List.length_append]; omega
  rw [hl]
  by_cases h4 : T.length < 4
  · rw [if_pos h4, if_pos (by omega)]
  · rw [if_neg h4, if_neg (by omega)]
theorem endL_eq (n su : Nat) : endL n su = 0 :: (lput n ++ fourL su) := rfl
theorem endG_put {n su : Nat} (hn : n ≤ 1099511627776) (hs : su < 4294967296) (more : List UInt8) : endG (endL n su ++ more) = (n, su, (endL n su).length, 0) := by
  rw [endL_eq, List.cons_append, List.append_assoc, endG_full hn, if_neg (by simp [fourL]), sum4_four hs]
  simp [fourL]
  omega
theorem endG_cut {n su i : Nat} (hn : n ≤ 1099511627776) (hi : i < (endL n su).length) : endG ((endL n su).take i) = (0, 0, 0, 11) := by
  cases i with
  | zero => rfl
  | succ i =>
    rw [endL_eq] at hi ⊢
    have h4 : (fourL su).length = 4 := rfl
    rw [List.length_cons, List.length_append] at hi
    rw [List.take_succ_cons]
    by_cases hr : i < (lput n).length
    · rw [take_lt _ _ hr, endG_hd, nbR_cut _ _ hn hr]
      rfl
    · rw [take_ge _ _ (by omega), endG_full hn, if_pos (by rw [List.length_take]; omega)]
theorem lput_pow : ∀ (k n : Nat), n < 128 ^ (k + 1) → (lput n).length ≤ k + 1
  | 0, n, h => by
    rw [lput_small (by omega)]
    simp
  | k + 1, n, h => by
    by_cases hb : n < 128
    · rw [lput_small hb]
      simp
    · rw [lput_big hb, List.length_cons]
      have := lput_pow k (n / 128) (by rw [Nat.div_lt_iff_lt_mul (by decide), ← Nat.pow_succ]; exact h)
      omega
/-- A block has at most 17 bytes ahead, an end at most 11. -/
theorem blkL_len {mo ra mi co su : Nat} (hr : ra ≤ 16777216) (hm : mi ≤ 3 * ra + 64) (hc : co ≤ ra) : (blkL mo ra mi co su).length ≤ 17 := by
  have h1 := lput_pow 3 ra (by omega)
  have h2 := lput_pow 3 mi (by omega)
  have h3 := lput_pow 3 co (by omega)
  have h4 : (fourL su).length = 4 := rfl
  by_cases h0 : mo = 0
  · rw [blkL_stored h0, List.length_cons, List.length_append]
    omega
  · rw [blkL_coded h0]
    simp only [List.length_cons, List.length_append]
    omega
theorem endL_len {n su : Nat} (hn : n ≤ 1099511627776) : (endL n su).length ≤ 11 := by
  have h1 := lput_pow 5 n (by omega)
  have h4 : (fourL su).length = 4 := rfl
  rw [endL_eq, List.length_cons, List.length_append]
  omega
end Go.Proofs.Ytjignfnkcbklkaa
namespace Go.Proofs.Ytjignfnkcbklkaa
open Go.RowKit

/-- Is a number within its limits? -/
def hasB30 (a b v : Int) : Bool := decide (v ≤ 9223372036854775807) && (decide (a ≤ v) && decide (v ≤ b))
set_option maxRecDepth 100000 in
set_option maxHeartbeats 1000000 in
theorem blkHas_any (p : Option Addr) (a b : Int) {v : Int} (h0 : 0 ≤ v) (h1 : v ≤ 18446744073709551615) (W : World) :
    Calls Try.prog 47 #[.agg #[.pointer p, .int .i64 a, .int .i64 b], .int .u64 v] W fun e w' => e = .returned (.bool (hasB30 a b v)) ∧ Below W.heap.size W w' := by
  unfold hasB30
  by_cases hv : v ≤ 9223372036854775807
  · by_cases ha : a ≤ v
    · go_enter Try.func47, Try.ntmps47
      go_wp2
      all_goals
        go_ret
        refine ⟨ret_bb ?_, (Below.refl _ _).alloc (Nat.le_refl _) _⟩
        rw [Bool.eq_iff_iff]
        simp
        try omega
    · go_enter Try.func47, Try.ntmps47
      go_wp2
      all_goals
        go_ret
        refine ⟨ret_bb ?_, (Below.refl _ _).alloc (Nat.le_refl _) _⟩
        rw [Bool.eq_iff_iff]
        simp
        try omega
  · go_enter Try.func47, Try.ntmps47
    go_wp2
    all_goals
      go_ret
      refine ⟨ret_bb ?_, (Below.refl _ _).alloc (Nat.le_refl _) _⟩
      rw [Bool.eq_iff_iff]
      simp
      try omega
/-- Why bytes don't begin with one of some tags. -/
def tagE (l : List UInt8) (a b : Nat) : Nat := if l.length = 0 then 11 else if (l.getD 0 0).toNat < a ∨ b < (l.getD 0 0).toNat then 14 else 0
set_option maxRecDepth 100000 in
set_option maxHeartbeats 1000000 in
theorem blkTag_any (A : Option Addr) (n c : Nat) (l : List UInt8) (W : World) (hr : Rd W W.heap.size A (bvs l)) (hn : l.length = n) (a b : Nat) :
    Calls Try.prog 50 #[.slice A n c, .int .u8 (a : Int), .int .u8 (b : Int)] W fun e w' => e = .returned (.int .i64 (tagE l a b : Int)) ∧ w' = W := by
  by_cases h0 : n = 0
  · have ht : tagE l a b = 11 := by unfold tagE; rw [if_pos (by omega)]
    rw [ht]
    subst h0
    clear hr hn ht
    go_enter Try.func50, Try.ntmps50
    go_wp2
    go_ret
    exact ⟨rfl, rfl⟩
  · obtain ⟨ab, ao, rfl, hbl, hcell⟩ := hr.at_ (by rw [bvs_length]; omega)
    have hg : (bvs l)[0]? = some (.int .u8 ((l.getD 0 0).toNat : Int)) := by
      unfold bvs
      rw [List.getElem?_map, List.getD_eq_getElem?_getD, List.getElem?_eq_getElem (by omega)]
      rfl
    have c0 := hcell 0 _ hg
    rw [Nat.add_zero] at c0
    have ht : tagE l a b = if (l.getD 0 0).toNat < a ∨ b < (l.getD 0 0).toNat then 14 else 0 := by unfold tagE; rw [if_neg (by omega)]
    rw [ht]
    obtain ⟨x, hx⟩ : ∃ x, x = (l.getD 0 0).toNat := ⟨_, rfl⟩
    rw [← hx] at c0 ⊢
    have hni : (0 : Int) < (n : Int) := by omega
    have hni' : ¬ (n : Int) = 0 := by omega
    clear hr hcell hg ht hx hbl hn
    by_cases h1 : x < a
    · rw [if_pos (.inl h1)]
      go_enter Try.func50, Try.ntmps50
      go_wp2
      go_ret
      exact ⟨rfl, rfl⟩
    · by_cases h2 : b < x
      · rw [if_pos (.inr h2)]
        go_enter Try.func50, Try.ntmps50
        go_wp2
        go_ret
        exact ⟨rfl, rfl⟩
      · rw [if_neg (by omega)]
        go_enter Try.func50, Try.ntmps50
        go_wp2
        go_ret
        exact ⟨rfl, rfl⟩
theorem words4 (l : List UInt8) (h : 4 ≤ l.length) : wordsN 1 4 (l.take 4) = [sum4 l] := by
  match l, h with
  | a :: b :: c :: d :: r, _ =>
    show [leN [a, b, c, d]] = _
    simp only [leN, sum4, List.getD_cons_zero, List.getD_cons_succ]
    congr 1
    omega
set_option maxRecDepth 100000 in
set_option maxHeartbeats 1000000 in
theorem blkGetSum_any (A : Option Addr) (n c : Nat) (l : List UInt8) (W : World) (hr : Rd W W.heap.size A (bvs l)) (hn : l.length = n) (hnc : n ≤ c) :
    Calls Try.prog 52 #[.slice A n c] W fun e w' => e = .returned (.tuple #[.int .u32 ((if n < 4 then 0 else sum4 l : Nat) : Int), .int .i64 ((if n < 4 then 11 else 0 : Nat) : Int)]) ∧ Below W.heap.size W w' := by
  by_cases h4 : n < 4
  · rw [if_pos h4, if_pos h4]
    have h4i : (n : Int) < 4 := by omega
    clear hr hn
    go_enter Try.func52, Try.ntmps52
    go_wp2
    go_ret2
    exact ⟨rfl, Below.refl _ _⟩
  · rw [if_neg h4, if_neg h4]
    have h4i : ¬ (n : Int) < 4 := by omega
    have h4c : (4 : Int) ≤ (c : Int) := by omega
    have hlt := sum4_lt l
    have CT := Lib.hid (wordTake_any 4 (.inr (.inr (.inl rfl))) A 4 c (l.take 4) W (by have := hr.take 4; rwa [bvs_take] at this) (by rw [List.length_take]; omega) (by omega) (by decide))
    rw [show (4 : Nat) / 4 = 1 from rfl, words4 l (by omega)] at CT
    obtain ⟨s, hs⟩ : ∃ s, s = sum4 l := ⟨_, rfl⟩
    rw [← hs] at CT hlt ⊢
    clear hr hn hs h4
    go_enter Try.func52, Try.ntmps52
    go_wp2_with fail
    refine CT.out.mono ?_
    rintro e w1 ⟨v, x, rfl, ⟨A1, c1, rfl, hc1, hr1⟩, -, hb1⟩
    obtain ⟨ab, ao, rfl, hbl, hcell⟩ := hr1.at_ (by simp [wvs])
    have c0 := hcell 0 (.int .u64 (s : Int)) (by simp [wvs])
    rw [Nat.add_zero] at c0
    have HB1 := Lib.hid hb1
    clear hr1 hcell hb1 hbl CT
    rw [show (wvs [s]).length = 1 from rfl]
    go_wp2
    go_ret2
    exact ⟨by rfl, HB1.out⟩
set_option maxRecDepth 100000 in
set_option maxHeartbeats 1000000 in
theorem blkPutSum_any {base n su : Nat} {v : Value} {L : List UInt8} {W : World} (ho : W.ownsRow base 5 1 v n (bvs L)) (hn : L.length = n) (hn1 : n ≤ 1000000) (hb : base ≤ W.heap.size) (hs : su < 4294967296) :
    Calls Try.prog 29 #[v, .int .u32 (su : Int)] W fun e w' => ∃ v', e = .returned v' ∧ w'.ownsRow base 5 1 v' (n + 4) (bvs (L ++ fourL su)) ∧ Below base W w' := by
  obtain ⟨i0, hi, hz0, hz1, hz2⟩ := info_parts info_u8
  have hrw : Rd (W.alloc (.cells #[.int .u64 (su : Int)] 59)) (W.alloc (.cells #[.int .u64 (su : Int)] 59)).heap.size (some ⟨W.heap.size, 0, none⟩) (wvs [su]) := Rd.new W _ _
  have hb0 := (Below.refl W.heap.size W).alloc (Nat.le_refl _) (.cells #[.int .u64 (su : Int)] 59)
  have CL := wordLay_any 4 (.inr (.inr (.inl rfl))) (some ⟨W.heap.size, 0, none⟩) 1 1 [su] none 0 0 [] _ hrw rfl (fun y hy => by obtain rfl := List.mem_singleton.1 hy; omega) (Rd.nil_ _ _ _) rfl (by decide) (by decide)
  rw [lay4] at CL
  have HCL := Lib.hid CL
  have HB0 := Lib.hid hb0
  have HO0 := Lib.hid (own_kept ho hb0)
  obtain ⟨A0, c0, rfl, hnc, -, -⟩ := own_form ho
  have hsi : (su : Int) < 4294967296 := by omega
  have HN := Lib.hid hn
  have HB := Lib.hid hb
  clear ho hrw hb0 CL hn hb
  go_enter Try.func29, Try.ntmps29
  go_wp2_with fail
  refine HCL.out.mono ?_
  rintro e w2 ⟨v2, rfl, ⟨A2, c2, rfl, hc2, hr2⟩, hb2⟩
  have HB2 := Lib.hid (HB0.out.trans (hb2.mono HB0.out.size))
  have HO2 := Lib.hid (own_kept HO0.out hb2)
  have HR2 := Lib.hid hr2
  have hz2' : base ≤ w2.heap.size := Nat.le_trans HB.out (HB2.out.size)
  clear hr2 hb2 HO0 HB0 HCL
  go_wp2_with ((with_reducible show wpList _ _ _ (({ dst := some 10, op := _, type := _, pos := _, after := _, guard := _ } : Oper) :: _) _ _); go_must (refine wpList_app rfl (.tmp 5) (.tmp 9) 29 rfl base 5 i0 (.int .u8 0) 1 1 Try.underlying29 hi hz0 hz1 hz2 rfl (by decide) _ _ _ rfl HO2.out w2.heap.size A2 4 c2 (bvs (fourL su)) rfl HR2.out (by rw [bvs_length]; rfl) (bvs_one _) (by simp only [maxLen]; omega) (by omega) hz2' ?_; intro v3 w3 hown3 hg3; have hb3 := (HB2.out.mono HB.out).grown hg3 hz2' (own_block HO2.out); have HO3 := Lib.hid hown3; have HB3 := Lib.hid hb3; clear hg3 hown3 hb3))
  go_ret
  refine ⟨_, rfl, ?_, HB3.out⟩
  rw [bvs_append]
  exact HO3.out
set_option maxRecDepth 100000 in
set_option maxHeartbeats 1000000 in
theorem blkPutEnd_any {t : Int} (ht : t ≤ 9223372036854775807) {su : Nat} (hs : su < 4294967296) (W : World) : Calls Try.prog 14 #[.int .i64 t, .int .u32 (su : Int)] W (NewB W (endL t.toNat su)) := by
  obtain ⟨N, hN⟩ : ∃ N, N = t.toNat := ⟨_, rfl⟩
  rw [← hN]
  have hmx : max t 0 = (N : Int) := by omega
  have hNb : N ≤ 9223372036854775807 := by omega
  have hrw : Rd (W.alloc (.cells #[.int .u8 0] 5)) (W.alloc (.cells #[.int .u8 0] 5)).heap.size (some ⟨W.heap.size, 0, none⟩) (bvs [0]) := Rd.new W _ _
  have hb0 := (Below.refl W.heap.size W).alloc (Nat.le_refl _) (.cells #[.int .u8 0] 5)
  have CL := lebPut_any (some ⟨W.heap.size, 0, none⟩) 1 1 [0] (N : Int) _ hrw rfl (by decide) (by omega) (by omega)
  rw [Int.toNat_natCast] at CL
  have HCL := Lib.hid CL
  have HB0 := Lib.hid hb0
  have HLL := Lib.hid (lput_le N (by omega))
  have HMX := Lib.hid hmx
  clear hN hrw CL hb0
  go_enter Try.func14, Try.ntmps14
  go_wp2_with fail
  refine HCL.out.mono ?_
  rintro e w2 ⟨v2, rfl, ho2, hb2⟩
  have HB2 := Lib.hid (HB0.out.trans (hb2.mono HB0.out.size))
  have C := blkPutSum_any (su := su) (own_more ho2 HB0.out.size) rfl (by rw [List.length_append]; have := HLL.out; simp; omega) (Nat.le_trans HB0.out.size hb2.size) hs
  have HC := Lib.hid C
  clear ho2 hb2 C HCL
  go_wp2_with fail
  refine HC.out.mono ?_
  rintro e w3 ⟨v3, rfl, ho3, hb3⟩
  have HO3 := Lib.hid ho3
  have HB3 := Lib.hid (HB2.out.trans hb3)
  clear ho3 hb3 HC
  go_wp2
  go_ret
  refine ⟨_, rfl, ?_, HB3.out⟩
  have e1 : endL N su = ([0] ++ lput N) ++ fourL su := rfl
  have e2 : (endL N su).length = ([0] ++ lput N).length + 4 := by rw [e1, List.length_append]; rfl
  rw [e2, e1]
  exact HO3.out
end Go.Proofs.Ytjignfnkcbklkaa
namespace Go.Proofs.Ytjignfnkcbklkaa
open Go.RowKit

set_option maxRecDepth 100000 in
set_option maxHeartbeats 2000000 in
theorem blkPut_any {mo ra mi co su : Nat} {fr pl : Int} (hmo : mo ≤ 5) (hra : ra ≤ 16777216) (hmi : mi ≤ 100000000) (hco : co ≤ 16777216) (hs : su < 4294967296) (W : World) :
    Calls Try.prog 13 #[blkV (mo : Int) (ra : Int) (mi : Int) (co : Int) (su : Int) fr pl] W (NewB W (blkL mo ra mi co su)) := by
  have HLR := Lib.hid (lput_le ra (by omega))
  have HLM := Lib.hid (lput_le mi (by omega))
  have HLC := Lib.hid (lput_le co (by omega))
  unfold blkV
  obtain ⟨CS, hCS⟩ : ∃ CS : List Value, CS = [.int .i64 (mo : Int), .int .i64 (ra : Int), .int .i64 (mi : Int), .int .i64 (co : Int), .int .u32 (su : Int), .int .i64 fr, .int .i64 pl] := ⟨_, rfl⟩
  have hm1 : ((UInt8.ofNat (mo + 1)).toNat : Int) = (mo : Int) + 1 := by rw [UInt8.toNat_ofNat']; omega
  have hm2 : (mo : Int) + 1 ≤ 255 := by omega
  obtain ⟨w1, hw1⟩ : ∃ w1 : World, w1 = (W.alloc (.cells #[.int .i64 (mo : Int), .int .i64 (ra : Int), .int .i64 (mi : Int), .int .i64 (co : Int), .int .u32 (su : Int), .int .i64 fr, .int .i64 pl] 37)) := ⟨_, rfl⟩
  have hS1 : Blk w1 W.heap.size 37 CS := by rw [hw1, hCS]; exact heap_alloc_new W _
  have hB1 : Below W.heap.size W w1 := by rw [hw1]; exact (Below.refl W.heap.size W).alloc (Nat.le_refl _) _
  have hsz : w1.heap.size = W.heap.size + 1 := by rw [hw1]; simp
  have hrw : Rd (w1.alloc (.cells #[.int .u8 ((mo : Int) + 1)] 5)) (w1.alloc (.cells #[.int .u8 ((mo : Int) + 1)] 5)).heap.size (some ⟨w1.heap.size, 0, none⟩) (bvs [UInt8.ofNat (mo + 1)]) := by
    have := Rd.new w1 #[.int .u8 ((mo : Int) + 1)] 5
    rw [← hm1] at this ⊢
    exact this
  have hB2 := hB1.alloc hB1.size (.cells #[.int .u8 ((mo : Int) + 1)] 5)
  have hS2 : Blk (w1.alloc (.cells #[.int .u8 ((mo : Int) + 1)] 5)) W.heap.size 37 CS := hS1.grow ((Below.refl _ _).alloc (Nat.le_refl _) _)
  have CL := lebPut_any (some ⟨w1.heap.size, 0, none⟩) 1 1 [UInt8.ofNat (mo + 1)] (ra : Int) _ hrw rfl (by decide) (by omega) (by omega)
  rw [Int.toNat_natCast, hsz] at CL
  have HCL := Lib.hid CL
  have HB2 := Lib.hid hB2
  have HS2 := Lib.hid hS2
  have HS1 := Lib.hid hS1
  have HCS := Lib.hid hCS
  have q0 := hS1.cell 0
  have q1 := hS1.cell 1
  rw [hCS] at q0 q1
  simp only [List.getElem?_cons_zero, List.getElem?_cons_succ] at q0 q1
  rw [hw1] at q0 q1
  have HW1 := Lib.hid hw1
  clear hrw CL hm1 hS1 hS2 hB1 hB2 hCS hsz hw1
  go_enter Try.func13, Try.ntmps13
  go_wp2_with fail
  rw [← HW1.out]
  refine HCL.out.mono ?_
  rintro e w2 ⟨v2, rfl, ho2, hb2⟩
  have HB3 := Lib.hid (HB2.out.trans (hb2.mono HB2.out.size))
  have HS3 := Lib.hid (HS2.out.grow hb2)
  have HO3 := Lib.hid (own_more ho2 HB2.out.size)
  clear ho2 hb2 HB2 HS2 HS1 HCL q0 q1
  have q0 := HS3.out.cell 0
  have q2 := HS3.out.cell 2
  have q4 := HS3.out.cell 4
  rw [HCS.out] at q0 q2 q4
  simp only [List.getElem?_cons_zero, List.getElem?_cons_succ] at q0 q2 q4
  by_cases h0 : mo = 0
  · subst h0
    have C := blkPutSum_any (su := su) HO3.out rfl (by rw [List.length_append]; have := HLR.out; simp; omega) HB3.out.size hs
    have HC := Lib.hid C
    clear C
    go_wp2_with fail
    refine HC.out.mono ?_
    rintro e w3 ⟨v3, rfl, ho3, hb3⟩
    have HO4 := Lib.hid ho3
    have HB4 := Lib.hid (HB3.out.trans hb3)
    clear ho3 hb3 HC
    go_wp2
    go_ret
    refine ⟨_, rfl, ?_, HB4.out⟩
    have e1 : blkL 0 ra mi co su = ([UInt8.ofNat (0 + 1)] ++ lput ra) ++ fourL su := by unfold blkL; simp
    have e2 : (blkL 0 ra mi co su).length = ([UInt8.ofNat (0 + 1)] ++ lput ra).length + 4 := by rw [e1, List.length_append]; rfl
    rw [e2, e1]
    exact HO4.out
  · have h0i : ¬ (mo : Int) = 0 := by omega
    obtain ⟨L3, hL3⟩ : ∃ L, L = [UInt8.ofNat (mo + 1)] ++ lput ra := ⟨_, rfl⟩
    obtain ⟨n3, hn3⟩ : ∃ n, n = L3.length := ⟨_, rfl⟩
    have hn3b : n3 ≤ 11 := by rw [hn3, hL3, List.length_append]; have := HLR.out; simp; omega
    rw [← hL3, ← hn3] at HO3
    have HL3 := Lib.hid hL3
    have HN3 := Lib.hid hn3
    clear hL3 hn3
    obtain ⟨A3, c3, hv3, hc3, -, -⟩ := own_form HO3.out
    subst hv3
    have CM := lebPut_any A3 n3 c3 L3 (mi : Int) w2 (Rd.of_own HO3.out) HN3.out.symm (by omega) (by omega) (by omega)
    rw [Int.toNat_natCast] at CM
    have HCM := Lib.hid CM
    clear CM
    go_wp2_with fail
    refine HCM.out.mono ?_
    rintro e w4 ⟨v4, rfl, ho4, hb4⟩
    have HB4 := Lib.hid (HB3.out.trans (hb4.mono HB3.out.size))
    have HS4 := Lib.hid (HS3.out.grow hb4)
    have HO4 := Lib.hid (own_more ho4 HB3.out.size)
    clear ho4 hb4 HB3 HS3 HO3 HCM q0 q2 q4
    have q3 := HS4.out.cell 3
    rw [HCS.out] at q3
    simp only [List.getElem?_cons_zero, List.getElem?_cons_succ] at q3
    obtain ⟨L4, hL4⟩ : ∃ L, L = L3 ++ lput mi := ⟨_, rfl⟩
    obtain ⟨n4, hn4⟩ : ∃ n, n = L4.length := ⟨_, rfl⟩
    have hn4b : n4 ≤ 21 := by rw [hn4, hL4, List.length_append, ← HN3.out]; have := HLM.out; omega
    rw [← hL4, ← hn4] at HO4
    have HL4 := Lib.hid hL4
    have HN4 := Lib.hid hn4
    clear hL4 hn4
    obtain ⟨A4, c4, hv4, hc4, -, -⟩ := own_form HO4.out
    subst hv4
    have CC := lebPut_any A4 n4 c4 L4 (co : Int) w4 (Rd.of_own HO4.out) HN4.out.symm (by omega) (by omega) (by omega)
    rw [Int.toNat_natCast] at CC
    have HCC := Lib.hid CC
    clear CC
    go_wp2_with fail
    refine HCC.out.mono ?_
    rintro e w5 ⟨v5, rfl, ho5, hb5⟩
    have HB5 := Lib.hid (HB4.out.trans (hb5.mono HB4.out.size))
    have HS5 := Lib.hid (HS4.out.grow hb5)
    have HO5 := Lib.hid (own_more ho5 HB4.out.size)
    clear ho5 hb5 HB4 HS4 HO4 HCC q3
    have q4 := HS5.out.cell 4
    rw [HCS.out] at q4
    simp only [List.getElem?_cons_zero, List.getElem?_cons_succ] at q4
    obtain ⟨L5, hL5⟩ : ∃ L, L = L4 ++ lput co := ⟨_, rfl⟩
    obtain ⟨n5, hn5⟩ : ∃ n, n = L5.length := ⟨_, rfl⟩
    have hn5b : n5 ≤ 31 := by rw [hn5, hL5, List.length_append, ← HN4.out]; have := HLC.out; omega
    rw [← hL5, ← hn5] at HO5
    have HL5 := Lib.hid hL5
    have HN5 := Lib.hid hn5
    clear hL5 hn5
    have C := blkPutSum_any (su := su) HO5.out HN5.out.symm (by omega) HB5.out.size hs
    have HC := Lib.hid C
    clear C
    go_wp2_with fail
    refine HC.out.mono ?_
    rintro e w6 ⟨v6, rfl, ho6, hb6⟩
    have HO6 := Lib.hid ho6
    have HB6 := Lib.hid (HB5.out.trans hb6)
    clear ho6 hb6 HC
    go_wp2
    go_ret
    refine ⟨_, rfl, ?_, HB6.out⟩
    have e1 : blkL mo ra mi co su = L5 ++ fourL su := by
      rw [HL5.out, HL4.out, HL3.out]
      unfold blkL
      rw [if_pos (by omega)]
      simp
    have e2 : (blkL mo ra mi co su).length = n5 + 4 := by rw [e1, List.length_append, ← HN5.out]; rfl
    rw [e2, e1]
    exact HO6.out
end Go.Proofs.Ytjignfnkcbklkaa
