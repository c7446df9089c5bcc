/-
  Contracts of the functions that take a number: leb.Get, ref.Get, leb.GetInt. · Layer 16: Get: shares of bytes. · Layer 16: Get, whole. · Layer 18: the program's Decode. · Layer 18: what Code says of any bytes; that it is told; of bytes that are all the same.
-/
import Derived.Test.YtflcmmeoppdhdaaGreatR21
import Derived.Test.YtflcmmeoppdhdaaGreatR22
import Derived.Test.YtflcmmeoppdhdaaGreatR25
import Derived.Test.YtflcmmeoppdhdaaGreatR26
import Derived.Deep.DeepMust
import Derived.BigQuiet
import Derived.Deep.QuietTactic
namespace Go.Proofs.YtflcmmeoppdhdaaGreat
open Go.RowKit

theorem pow_7k (k : Nat) : (128 : Nat) ^ k = 2 ^ (7 * k) := by rw [Nat.pow_mul]
/-- bits that are put above those that are there, as the walk spells it -/
theorem get_step (acc c k : Nat) (hk : k ≤ 9) (ha : acc < 128 ^ k) (hb : c * 128 ^ k < 18446744073709551616) :
    bits .or .u64 (acc : Int) (IntKind.u64.wrap ((c : Int) * 2 ^ (7 * k))) = ((acc + c * 128 ^ k : Nat) : Int) := by
  have hp := pow128_mono hk
  have e : (c : Int) * 2 ^ (7 * k) = ((c * 128 ^ k : Nat) : Int) := by rw [pow_7k]; simp
  have ha2 : (acc : Int) < 2 ^ (7 * k) := by
    have : ((acc : Nat) : Int) < ((2 ^ (7 * k) : Nat) : Int) := by rw [← pow_7k]; exact_mod_cast ha
    simpa using this
  have hmod : ((c * 128 ^ k : Nat) : Int) % 2 ^ (7 * k) = 0 := by
    rw [← e]; exact Int.mul_emod_left _ _
  rw [e, IntKind.wrap_u64, Int.emod_eq_of_lt (by omega) (by omega), orHigh_u64 _ _ (7 * k) (by omega) ha2 (by omega) hmod (by omega) (by omega)]
  omega

theorem ret_get {a a' b b' c c' : Int} (h1 : a = a') (h2 : b = b') (h3 : c = c') :
    Ending.returned (.tuple #[.int .u64 a, .int .i64 b, .int .i64 c]) = .returned (.tuple #[.int .u64 a', .int .i64 b', .int .i64 c']) := by subst h1 h2 h3; rfl

/-- What holds at the head of a round of leb.Get. -/
def GetRel (l : List UInt8) (r : Nat × Nat × Nat) (t s i : Value) : Prop :=
  ∃ k acc : Nat, t = .int .u64 acc ∧ s = .int .i64 0 ∧ i = .int .i64 k ∧ k ≤ l.length ∧ k ≤ 9 ∧ acc < 128 ^ k ∧ Hid (lgetF k acc (l.drop k) = r)

set_option maxHeartbeats 400000 in
set_option maxRecDepth 100000 in
theorem lebGet_any (A : Option Addr) (n c : Nat) (l : List UInt8) (w : World) (hr : Rd w w.heap.size A (bvs l)) (hn : l.length = n) (hn1 : n ≤ 9223372036854775807) (m j e : Nat) (hg : lget l = (m, j, e)) :
    Calls Tryz.prog 173 #[.slice A n c] w fun e' w' => e' = .returned (.tuple #[.int .u64 m, .int .i64 j, .int .i64 e]) ∧ w = w' := by
  subst hn
  have HG := Lib.hid hg
  clear hg
  go_enter Tryz.func173, Tryz.ntmps173
  go_wp2
  go_step3
  go_wp2
  go_step3
  go_wp2
  go_loop [5, 6, 11] (GetRel l (m, j, e)) (fun _ _ i => 10 - (intOf i).toNat)
  case atStart => exact ⟨0, 0, rfl, rfl, rfl, by omega, by omega, by decide, HG.out⟩
  case round =>
    obtain ⟨k, acc, rfl, rfl, rfl, hkl, hk9, hacc, Hrel⟩ := hrel
    by_cases hlt : k < l.length
    · obtain ⟨ab, ao, rfl, _, hcell⟩ := hr k _ (bvs_get l k hlt)
      obtain ⟨b, hb⟩ : ∃ b, b = l[k] := ⟨_, rfl⟩
      rw [← hb] at hcell
      have hdrop : l.drop k = b :: l.drop (k + 1) := by rw [hb]; exact List.drop_eq_getElem_cons hlt
      rw [hdrop] at Hrel
      have HD := Lib.hid hdrop
      have HB := Lib.hid hb
      have hb8 := b.toNat_lt
      have hb0 : (0 : Int) ≤ (b.toNat : Int) := by omega
      have hb255 : (b.toNat : Int) ≤ 255 := by omega
      clear hdrop hb
      by_cases c1 : k = 9 ∧ 1 < b.toNat
      · have hres : (m, j, e) = (0, 0, 21) := by rw [← Hrel.out]; simp only [lgetF]; rw [if_pos c1]
        obtain ⟨rfl, c1⟩ := c1
        have HRES := Lib.hid hres
        clear hres
        go_wp2
        go_ret3
        have := HRES.out
        simp only [Prod.mk.injEq] at this
        obtain ⟨rfl, rfl, rfl⟩ := this
        exact ⟨rfl, rfl⟩
      · by_cases c2 : 128 ≤ b.toNat
        · have hk8 : k ≤ 8 := by omega
          have Hrel1 : Hid (lgetF (k + 1) (acc + (b.toNat - 128) * 128 ^ k) (l.drop (k + 1)) = (m, j, e)) := by
            have := Hrel.out
            simp only [lgetF] at this
            rw [if_neg c1, if_pos c2] at this
            exact this
          have hn9 : ((k : Int) == 9) = false := by rw [beq_eq_false_iff_ne]; omega
          have hp : 128 ^ k * 128 = 128 ^ (k + 1) := rfl
          have hpp := pow128_pos k
          have hm9 := pow128_mono (k := k + 1) (by omega)
          have hbk : (b.toNat - 128) * 128 ^ k ≤ 127 * 128 ^ k := Nat.mul_le_mul_right _ (by omega)
          have hstep := get_step acc (b.toNat - 128) k (by omega) hacc (by omega)
          have hcast : ((b.toNat - 128 : Nat) : Int) = (b.toNat : Int) - 128 := by omega
          rw [hcast] at hstep
          have hacc1 : acc + (b.toNat - 128) * 128 ^ k < 128 ^ (k + 1) := by omega
          have HS := Lib.hid hstep
          have HA := Lib.hid hacc1
          have hk8i : (k : Int) ≤ 8 := by omega
          clear hstep hacc1 hbk hm9 hp hcast hacc hpp Hrel c1
          go_wp2
          go_round
          case rel => exact ⟨k + 1, _, by rw [HS.out], rfl, by go_num, by omega, by omega, HA.out, Hrel1⟩
          case measure => simp [intOf]; omega
        · by_cases c3 : b.toNat = 0 ∧ 0 < k
          · have hres : (m, j, e) = (0, 0, 21) := by rw [← Hrel.out]; simp only [lgetF]; rw [if_neg c1, if_neg c2, if_pos c3]
            obtain ⟨c3, hk0⟩ := c3
            have hb00 : ((b.toNat : Int) == 0) = true := by rw [c3]; rfl
            have hn9 : (decide (1 < (b.toNat : Int))) = false := by rw [c3]; rfl
            have HRES := Lib.hid hres
            have hcell' : w.cell? ⟨ab, ao + k, none⟩ = some (.int .u8 0) := by rw [hcell, c3]; rfl
            clear hres c3 hcell Hrel c1 c2 hb00 hn9 hacc
            go_wp2
            all_goals go_ret3
            all_goals (have hq := HRES.out; simp only [Prod.mk.injEq] at hq; obtain ⟨rfl, rfl, rfl⟩ := hq; exact ⟨rfl, rfl⟩)
          · have hres : (m, j, e) = (acc + b.toNat * 128 ^ k, k + 1, 0) := by rw [← Hrel.out]; simp only [lgetF]; rw [if_neg c1, if_neg c2, if_neg c3]
            have hbk : b.toNat * 128 ^ k < 18446744073709551616 := by
              rcases Nat.lt_or_ge k 9 with g | g
              · have h6 : 128 ^ (k + 1) ≤ 9223372036854775808 := pow128_mono (by omega)
                have h7 : b.toNat * 128 ^ k ≤ 127 * 128 ^ k := Nat.mul_le_mul_right _ (by omega)
                have h8 : 128 ^ k * 128 = 128 ^ (k + 1) := rfl
                omega
              · have : k = 9 := by omega
                subst this
                have : b.toNat ≤ 1 := by omega
                have := Nat.mul_le_mul_right (128 ^ 9) this
                rw [pow128_9] at this ⊢
                omega
            have hstep := get_step acc b.toNat k (by omega) hacc hbk
            have HS := Lib.hid hstep
            have HRES := Lib.hid hres
            have hk9i : (k : Int) ≤ 9 := by omega
            have hlt128 : (b.toNat : Int) < 128 := by omega
            by_cases g9 : k = 9
            · subst g9
              have hb1 : (b.toNat : Int) ≤ 1 := by omega
              have hz : (decide (1 < (b.toNat : Int))) = false := by rw [decide_eq_false_iff_not]; omega
              by_cases gz : b.toNat = 0
              · exact absurd ⟨gz, by omega⟩ c3
              · have hz2 : ((b.toNat : Int) == 0) = false := by rw [beq_eq_false_iff_ne]; omega
                have HS9 : Hid (bits .or .u64 (acc : Int) ((b.toNat : Int) * 9223372036854775808) = ((acc + b.toNat * 128 ^ 9 : Nat) : Int)) := by
                  have e : (2 : Int) ^ (7 * 9) = 9223372036854775808 := by decide
                  have h := hstep
                  rw [e, IntKind.wrap_u64, Int.emod_eq_of_lt (by omega) (by omega)] at h
                  exact h
                clear hstep hres hbk hacc Hrel c1 c2 c3 gz
                go_wp2
                all_goals go_ret3
                all_goals (have hq := HRES.out; simp only [Prod.mk.injEq] at hq; obtain ⟨rfl, rfl, rfl⟩ := hq; exact ⟨ret_get HS9.out (by omega) rfl, rfl⟩)
            · have hn9 : ((k : Int) == 9) = false := by rw [beq_eq_false_iff_ne]; omega
              by_cases gz : b.toNat = 0
              · have hk00 : k = 0 := by omega
                subst hk00
                have hcell' : w.cell? ⟨ab, ao, none⟩ = some (.int .u8 0) := by have := hcell; rw [gz] at this; simpa using this
                obtain rfl : acc = 0 := by simpa using hacc
                have GZ := Lib.hid gz
                clear hstep hres hbk hacc Hrel c1 c2 c3 gz g9 hn9 hcell hlt128 hk9i
                go_wp2
                all_goals go_ret3
                all_goals (have hq := HRES.out; simp only [Prod.mk.injEq] at hq; obtain ⟨rfl, rfl, rfl⟩ := hq; exact ⟨ret_get (by rw [GZ.out]; decide) (by omega) rfl, rfl⟩)
              · have hz2 : ((b.toNat : Int) == 0) = false := by rw [beq_eq_false_iff_ne]; omega
                clear hstep hres hbk hacc Hrel c1 c2 c3 gz g9
                go_wp2
                all_goals go_ret3
                all_goals (have hq := HRES.out; simp only [Prod.mk.injEq] at hq; obtain ⟨rfl, rfl, rfl⟩ := hq; exact ⟨ret_get HS.out (by omega) rfl, rfl⟩)
    · have hkl' : k = l.length := by omega
      have hres : (m, j, e) = (0, 0, 11) := by rw [← Hrel.out, List.drop_of_length_le (by omega)]; rfl
      have HRES := Lib.hid hres
      clear hres Hrel hacc
      subst hkl'
      go_wp2
      all_goals go_ret3
      all_goals (have hq := HRES.out; simp only [Prod.mk.injEq] at hq; obtain ⟨rfl, rfl, rfl⟩ := hq; exact ⟨rfl, rfl⟩)

end Go.Proofs.YtflcmmeoppdhdaaGreat
namespace Go.Proofs.YtflcmmeoppdhdaaGreat
open Go.RowKit Go.Sort Go.Shelf

/-- A taker: the bytes, how many are taken, whether one was wrong. -/
def TakerAt (w : World) (T : Nat) (A : Option Addr) (n m : Nat) (at_ : Nat) (bad : Bool) : Prop :=
  Blk w T 184 [.slice A n m, .int .i64 (at_ : Int), .bool bad]
theorem lget_ok {l : List UInt8} {k j e : Nat} (h : lget l = (k, j, e)) : k < 18446744073709551616 ∧ j ≤ l.length ∧ (e = 0 → 0 < j) := by
  rcases lget_told l with ⟨q, h1, h2, h3, -⟩ | h1 | h1
  · rw [h] at h1
    simp only [Prod.mk.injEq] at h1
    obtain ⟨rfl, rfl, rfl⟩ := h1
    exact ⟨h2, h3, fun _ => lput_pos _⟩
  · rw [h] at h1
    simp only [Prod.mk.injEq] at h1
    obtain ⟨rfl, rfl, rfl⟩ := h1
    exact ⟨by decide, Nat.zero_le _, fun h => by cases h⟩
  · rw [h] at h1
    simp only [Prod.mk.injEq] at h1
    obtain ⟨rfl, rfl, rfl⟩ := h1
    exact ⟨by decide, Nat.zero_le _, fun h => by cases h⟩
section
variable {w : World} {B T : Nat} {A : Option Addr} {n m : Nat} {l : List UInt8}
theorem rd_from {at_ : Nat} (hr : Rd w B A (bvs l)) (hn : l.length = n) (hnm : n ≤ m) (hat : at_ ≤ n) : Rd w B (if m = at_ then A else Option.map (fun x => x.add at_) A) (bvs (l.drop at_)) := by
  by_cases h : m = at_
  · rw [List.drop_of_length_le (by omega)]; exact Rd.nil_ _ _ _
  · rw [if_neg h, ← bvs_drop]; exact hr.drop at_
theorem lebGet_from {at_ : Nat} {k j e : Nat} (hr : Rd w w.heap.size A (bvs l)) (hn : l.length = n) (hnm : n ≤ m) (hn1 : n ≤ 1000000) (hat : at_ ≤ n) (hg : lget (l.drop at_) = (k, j, e)) (W : World) (hW : W.heap = w.heap) :
    Calls Tryz.prog 173 #[.slice (if m = at_ then A else Option.map (fun x => x.add at_) A) (n - at_) (m - at_)] W fun e' w' => e' = .returned (.tuple #[.int .u64 k, .int .i64 j, .int .i64 e]) ∧ w' = W :=
  (lebGet_any _ _ _ (l.drop at_) W (rd_from (rd_same (by rw [hW]; exact hr) hW) hn hnm hat) (by rw [List.length_drop, hn]) (by omega) k j e hg).mono fun _ _ h => ⟨h.1, h.2.symm⟩
set_option maxHeartbeats 1000000 in
set_option maxRecDepth 100000 in
theorem histNext_ok {at_ k j below : Nat} {bad : Bool} (ht : TakerAt w T A n m at_ bad) (hr : Rd w w.heap.size A (bvs l)) (hn : l.length = n) (hnm : n ≤ m) (hn1 : n ≤ 1000000) (hat : at_ ≤ n) (hg : lget (l.drop at_) = (k, j, 0)) (hk : k < below) (hb : below ≤ 65536) :
    Calls Tryz.prog 128 #[.pointer (some ⟨T, 0, none⟩), .int .i64 (below : Int)] w fun e w' => e = .returned (.int .i64 (k : Int)) ∧ TakerAt w' T A n m (at_ + j) bad ∧ OnlyT T [184] w w' := by
  unfold TakerAt at ht ⊢
  have hjl := (lget_ok hg).2.1
  rw [List.length_drop] at hjl
  have hj1 : at_ + j ≤ 1000000 := by omega
  have hc0 := ht.cell 0
  have hc1 := ht.cell 1
  have hc2 := ht.cell 2
  have hf1 := ht.frozen 1
  simp only [List.getElem?_cons_zero, List.getElem?_cons_succ] at hc0 hc1 hc2
  have HT := Lib.hid ht
  have HR := Lib.hid hr
  have HN := Lib.hid hn
  have HG := Lib.hid hg
  have hati : (at_ : Int) ≤ (n : Int) := by omega
  have hmi : (n : Int) ≤ (m : Int) := by omega
  have C := Lib.hid (lebGet_from hr hn hnm hn1 hat hg)
  clear ht hr hn hg hjl
  go_enter Tryz.func128, Tryz.ntmps128
  go_wp2
  go_quiet ((go_at_call 173; exact quietOf C.out))
  go_wp2
  all_goals go_ret
  all_goals try subst_vars
  all_goals refine ⟨rfl, ?_, ((OnlyT.refl T [184] w).drewN nq).trans (OnlyT.set_ (HT.out.same (w' := w.drewN nq) rfl) (Nat.le_refl _) _ (by simp))⟩
  all_goals (have hs := (HT.out.same (w' := w.drewN nq) rfl).set_ 1 (.int .i64 ((at_ + j : Nat) : Int)); exact hs)
set_option maxHeartbeats 1000000 in
set_option maxRecDepth 100000 in
theorem histNext_bad {at_ k j e below : Nat} {bad : Bool} (ht : TakerAt w T A n m at_ bad) (hr : Rd w w.heap.size A (bvs l)) (hn : l.length = n) (hnm : n ≤ m) (hn1 : n ≤ 1000000) (hat : at_ ≤ n) (hg : lget (l.drop at_) = (k, j, e)) (hk : e ≠ 0 ∨ below ≤ k) (hb : below ≤ 65536) :
    Calls Tryz.prog 128 #[.pointer (some ⟨T, 0, none⟩), .int .i64 (below : Int)] w fun e w' => e = .returned (.int .i64 0) ∧ TakerAt w' T A n m at_ true ∧ OnlyT T [184] w w' := by
  unfold TakerAt at ht ⊢
  have hk64 := (lget_ok hg).1
  have hc0 := ht.cell 0
  have hc1 := ht.cell 1
  have hc2 := ht.cell 2
  have hf2 := ht.frozen 2
  simp only [List.getElem?_cons_zero, List.getElem?_cons_succ] at hc0 hc1 hc2
  have HT := Lib.hid ht
  have hati : (at_ : Int) ≤ (n : Int) := by omega
  have hmi : (n : Int) ≤ (m : Int) := by omega
  have C := Lib.hid (lebGet_from hr hn hnm hn1 hat hg)
  clear ht hr hn hg
  by_cases he : e = 0
  · subst he
    have hki : (below : Int) ≤ (k : Int) := by omega
    clear hk
    go_enter Tryz.func128, Tryz.ntmps128
    go_wp2
    go_quiet ((go_at_call 173; exact quietOf C.out))
    go_wp2
    all_goals go_ret
    all_goals try subst_vars
    all_goals exact ⟨rfl, (HT.out.same (w' := w.drewN nq) rfl).set_ 2 _, ((OnlyT.refl T [184] w).drewN nq).trans (OnlyT.set_ (HT.out.same (w' := w.drewN nq) rfl) (Nat.le_refl _) _ (by simp))⟩
  · have hei : ¬ ((e : Int) = 0) := by omega
    clear hk he
    go_enter Tryz.func128, Tryz.ntmps128
    go_wp2
    go_quiet ((go_at_call 173; exact quietOf C.out))
    go_wp2
    all_goals go_ret
    all_goals try subst_vars
    all_goals exact ⟨rfl, (HT.out.same (w' := w.drewN nq) rfl).set_ 2 _, ((OnlyT.refl T [184] w).drewN nq).trans (OnlyT.set_ (HT.out.same (w' := w.drewN nq) rfl) (Nat.le_refl _) _ (by simp))⟩
end
end Go.Proofs.YtflcmmeoppdhdaaGreat
namespace Go.Proofs.YtflcmmeoppdhdaaGreat
open Go.RowKit Go.Sort Go.Shelf

/-- What Get hands back: shares in new memory and how many bytes they took, or none. -/
def HGot (w : World) (r : Option (List Int × Nat)) (e : Ending) (w' : World) : Prop :=
  Below w.heap.size w w' ∧ match r with
  | none => e = .returned (.tuple #[.slice none 0 0, .int .i64 0, .int .i64 16])
  | some (l, k) => l.length = 256 ∧ ∃ S, e = .returned (.tuple #[.slice (some ⟨S, 0, none⟩) (256 : Nat) 256, .int .i64 (k : Int), .int .i64 0]) ∧ Blk w' S 3 (zvs l)
theorem HGot.no {w w' : World} {r : Option (List Int × Nat)} (hb : Below w.heap.size w w') (h : r = none) : HGot w r (.returned (.tuple #[.slice none 0 0, .int .i64 0, .int .i64 16])) w' := by
  subst h; exact ⟨hb, rfl⟩
theorem HGot.yes {w w' : World} {r : Option (List Int × Nat)} {l : List Int} {k S : Nat} (hb : Below w.heap.size w w') (h : r = some (l, k)) (hl : l.length = 256) (hS : Blk w' S 3 (zvs l)) : HGot w r (.returned (.tuple #[.slice (some ⟨S, 0, none⟩) (256 : Nat) 256, .int .i64 (k : Int), .int .i64 0])) w' := by
  subst h; exact ⟨hb, hl, S, rfl, hS⟩
/-- What holds at the head of a round of Get. -/
def GotRel (w : World) (S K : Nat) (A : Option Addr) (n m : Nat) (l : List UInt8) (G : Option (List Int × Nat)) (T : Int) (lv av : Value) (wr : World) : Prop :=
  ∃ (a : Nat) (lf : Int) (s : Nat) (bad : Bool) (Q : List Int), lv = .int .i64 lf ∧ av = .int .i64 (a : Int) ∧ a ≤ 256 ∧ -1 ≤ lf ∧ lf ≤ 65536 ∧ s ≤ n ∧ Q.length = 256 ∧ Blk wr S 3 (zvs Q) ∧ TakerAt wr K A n m s bad ∧ Below w.heap.size w wr ∧ Hid (GetInv G T l a lf s bad Q)
section
variable {w : World} {B K : Nat} {A : Option Addr} {n m : Nat} {l : List UInt8}
/-- Whatever a taker takes. -/
theorem histNext_any {at_ below : Nat} {bad : Bool} (ht : TakerAt w K A n m at_ bad) (hr : Rd w w.heap.size A (bvs l)) (hn : l.length = n) (hnm : n ≤ m) (hn1 : n ≤ 1000000) (hat : at_ ≤ n) (hb : below ≤ 65536) :
    Calls Tryz.prog 128 #[.pointer (some ⟨K, 0, none⟩), .int .i64 (below : Int)] w fun e w' => ∃ (k s : Nat) (bad' : Bool), e = .returned (.int .i64 (k : Int)) ∧ k ≤ 65536 ∧ s ≤ n ∧ TakerAt w' K A n m s bad' ∧ OnlyT K [184] w w' ∧ NextSays l at_ below bad k s bad' := by
  obtain ⟨⟨k, j, e⟩, hg⟩ : ∃ t, lget (l.drop at_) = t := ⟨_, rfl⟩
  by_cases h : e = 0 ∧ k < below
  · obtain ⟨rfl, hk⟩ := h
    have hjl := (lget_ok hg).2.1
    rw [List.length_drop] at hjl
    exact (histNext_ok ht hr hn hnm hn1 hat hg hk hb).mono fun _ w' ⟨h1, h2, h3⟩ => ⟨k, at_ + j, bad, h1, by omega, by omega, h2, h3, .inl ⟨rfl, hk, j, hg, rfl⟩⟩
  · exact (histNext_bad ht hr hn hnm hn1 hat hg (by omega) hb).mono fun _ w' ⟨h1, h2, h3⟩ => ⟨0, at_, true, h1, by omega, hat, h2, h3, .inr ⟨rfl, rfl, rfl, k, j, e, hg, by omega⟩⟩
set_option maxHeartbeats 2000000 in
set_option maxRecDepth 100000 in
theorem histGet_any (b T : Nat) (hb1 : 1 ≤ b) (hb2 : b ≤ 16) (hT : T = 2 ^ b) (hr : Rd w w.heap.size A (bvs l)) (hn : l.length = n) (hnm : n ≤ m) (hn1 : n ≤ 1000000) :
    Calls Tryz.prog 84 #[.slice A n m, .int .i64 (b : Int)] w (HGot w (hGot (T : Int) l)) := by
  obtain ⟨i0, hi, hz0, hz1, hz2⟩ := info_parts info_int12
  have hT1 : T ≤ 65536 := by rw [hT]; exact Nat.pow_le_pow_right (n := 2) (by decide) hb2
  have hpow : (2 : Int) ^ b = (T : Int) := by rw [hT]; simp
  obtain ⟨R, hR⟩ : ∃ R, R = hGot (T : Int) l := ⟨_, rfl⟩
  rw [← hR]
  have HRR := Lib.hid hR
  have HR := Lib.hid hr
  have HN := Lib.hid hn
  clear hr hn hT hR
  go_enter Tryz.func84, Tryz.ntmps84
  go_wp2
  refine wp_region_grow [⟨17, [], .such (NewRow w.heap.size 256) (NewRow.grow w.heap.size 256)⟩,
    ⟨18, [], .is (.int .i64 (b : Int))⟩,
    ⟨19, [1], .is (.int .i64 (T : Int))⟩,
    ⟨7, [0], .such (NewRow w.heap.size 256) (NewRow.grow w.heap.size 256)⟩,
    ⟨8, [2], .is (.int .i64 (T : Int))⟩]
    [(1, .int .i64 (b : Int))] (by kernel_rfl) (by kernel_rfl) (by kernel_rfl) (by kernel_rfl) (by kernel_rfl) ⟨rfl, trivial⟩ ?_ ?_
  · repeat' (first | exact OblGAll.nil | refine OblGAll.cons ?_ ?_)
    all_goals (intro ev yi w1 hB hc hf ho hn; simp only [OutsSay, NeedSay, rowAt, Fact.says, and_true] at ho hn)
    all_goals (try ((simp [OpSays, execOp, Region.wanted, Fact.says, go_sem, ho, hn, hc, Below.refl]; done)))
    · rw [if_pos (by simp [Region.wanted])]
      exact says_mk rfl 3 i0 (.int .i64 0) Tryz.underlying53 hi hz0 rfl hz1 (by rw [hz2]; decide) 256 (hc _) (hc _) (by omega) ⟨⟨w1.heap.size, rfl, hB.size, by
        have h := heap_alloc_new w1 (.cells (List.replicate 256 (Value.int .i64 0)).toArray 3)
        unfold Blk
        rw [h]
        simp [zvs]⟩, (Below.refl _ _).alloc (Nat.le_refl _) _⟩
    · rw [if_pos (by simp [Region.wanted])]
      simp [OpSays, execOp, go_sem, hn, hc, Fact.says]
      have hpow2 : ((2 : Int) ^ b) = (T : Int) := hpow
      rw [hpow2]
      refine ⟨by rw [IntKind.wrap_i64]; omega, Below.refl _ _⟩
  · intro x w1 hb1 hx
    obtain ⟨S, h7, hS, hblk⟩ : NewRow w.heap.size 256 (x 3) w1 := hx 3 (by decide)
    have h8 : x 4 = .int .i64 (T : Int) := hx 4 (by decide)
    clear hx
    simp only [layAll, List.setIfInBounds_toArray, List.set_cons_succ, List.set_cons_zero, h7, h8]
    have HB1 := Lib.hid hb1
    have HBL := Lib.hid hblk
    have HS := Lib.hid hS
    clear hb1 hblk hS h7 h8
    have hSl := HBL.out.lt
    have hK0 : TakerAt (w1.alloc (.cells #[.slice A n m, .int .i64 0, .bool false] 184)) w1.heap.size A n m 0 false := heap_alloc_new w1 _
    have hb2 := HB1.out.alloc HB1.out.size (.cells #[.slice A n m, .int .i64 0, .bool false] 184)
    have C1 := Lib.hid (histNext_any (below := 257) hK0 ((HR.out.below hb2).more hb2.size) HN.out hnm hn1 (Nat.zero_le _) (by decide))
    have HBL2 := Lib.hid (HBL.out.alloc_ (.cells #[.slice A n m, .int .i64 0, .bool false] 184))
    have HB2 := Lib.hid hb2
    have HKK := Lib.hid HB1.out.size
    clear hK0 hb2 HBL HB1
    go_wp2_with fail
    refine C1.out.mono ?_
    rintro e w2 ⟨k, s, bad, rfl, -, hsn, hk2, ho2, hns⟩
    have hb2 := HB2.out.trans (((ho2.base (B' := w.heap.size) HKK.out).below HB2.out.size).mono (Nat.le_refl _))
    have hbl2 := HBL2.out.only ho2 (by decide)
    have hinv := inv_start (T := (T : Int)) (by omega) hns
    have HREL := Lib.hid (show GotRel w S w1.heap.size A n m l (hG [] l 0) (T : Int) (.int .i64 (T : Int)) (.int .i64 (k : Int)) w2 from ⟨k, T, s, bad, _, rfl, rfl, hinv.1, by omega, by omega, hsn, by simp, hbl2, hk2, hb2, hinv.2⟩)
    obtain ⟨K, hK⟩ : ∃ K, K = w1.heap.size := ⟨_, rfl⟩
    rw [← hK] at HREL hSl
    simp only [← hK]
    have HK := Lib.hid (show w.heap.size ≤ K by rw [hK]; exact HKK.out)
    have HKS := Lib.hid hSl
    have HSS := Lib.hid HS.out
    clear hinv hbl2 hb2 ho2 hns hk2 hK HBL2 HB2 C1 HKK hSl HS
    go_wp2
    go_loopw [8, 10] (GotRel w S K A n m l (hG [] l 0) (T : Int)) (fun _ a _ => 256 - (intOf a).toNat)
    case atStart => exact HREL.out
    case round =>
      clear HREL
      obtain ⟨a, lf, s, bad, Q, rfl, rfl, ha, hl1, hl2, hs, hQ, hblk, htk, hb, HI⟩ := hrel
      have HB := Lib.hid hb
      have HBL := Lib.hid hblk
      have HTK := Lib.hid htk
      have hQS := hb.size
      have hc1 := htk.cell 1
      have hc2 := htk.cell 2
      simp only [List.getElem?_cons_zero, List.getElem?_cons_succ] at hc1 hc2
      clear hb hblk htk
      cases bad with
      | true =>
        have HE := Lib.hid ((inv_end HI.out (by intro h; cases h)).1 (.inl rfl))
        clear HI
        by_cases hlt : a < 256
        · have hli : (a : Int) < 256 := by omega
          clear hlt
          go_wp2
          go_ret3
          exact HGot.no HB.out (HRR.out.trans HE.out)
        · have hli : ¬ (a : Int) < 256 := by omega
          clear hlt
          go_wp2
          go_ret3
          exact HGot.no HB.out (HRR.out.trans HE.out)
      | false =>
        by_cases hlt : a < 256
        · have hli : (a : Int) < 256 := by omega
          have hlf0 : 0 ≤ lf := by
            rcases HI.out with ⟨h, -⟩ | ⟨-, P, -, -, -, h, -⟩
            · cases h
            · exact h
          obtain ⟨lf, rfl⟩ := Int.eq_ofNat_of_zero_le hlf0
          have C1 := Lib.hid (fun (W : World) (h1 : TakerAt W K A n m s false) (h2 : Rd W W.heap.size A (bvs l)) => histNext_any (below := lf) h1 h2 HN.out hnm hn1 hs (by omega))
          clear hlf0 hlt
          go_wp2_with fail
          refine (C1.out wr HTK.out ((HR.out.below HB.out).more hQS)).mono ?_
          rintro e w3 ⟨k1, s1, bad1, rfl, hk1, hs1, ht1, ho1, hns1⟩
          have hbl1 := HBL.out.only ho1 (by decide)
          have hb1 := HB.out.trans (((ho1.base (B' := w.heap.size) HK.out).below hQS).mono (Nat.le_refl _))
          have hcS := hbl1.cell a
          have hfS := hbl1.frozen a
          rw [zvs_get, List.getElem?_eq_getElem (show a < Q.length by omega)] at hcS
          simp only [Option.map_some] at hcS
          obtain ⟨q0, hq0⟩ : ∃ q0, q0 = Q[a]'(by omega) := ⟨_, rfl⟩
          rw [← hq0] at hcS
          have hset := hbl1.set_ a (.int .i64 (1 + (k1 : Int)))
          rw [zvs_set] at hset
          have HSET := Lib.hid hset
          have hSK : K ≠ S := by have := HKS.out; omega
          have HTK1 := Lib.hid (Blk.setOther ht1 ⟨S, a, none⟩ (.int .i64 (1 + (k1 : Int))) hSK)
          have HB3 := Lib.hid (hb1.setCell (p := ⟨S, a, none⟩) HSS.out (.int .i64 (1 + (k1 : Int))))
          have HNS1 := Lib.hid hns1
          clear hbl1 hb1 ht1 ho1 hq0 hset hns1 C1 hc1 hc2 HBL HTK HB hSK
          have hb3s := HB3.out.size
          have C2 := Lib.hid (histNext_any (below := 256 - a) HTK1.out ((HR.out.below HB3.out).more hb3s) HN.out hnm hn1 hs1 (by omega))
          rw [show ((256 - a : Nat) : Int) = 256 - (a : Int) by omega] at C2
          have HW3 := Lib.hid (rfl : (w3.setCell ⟨S, a, none⟩ (.int .i64 (1 + (k1 : Int)))) = _)
          go_wp2_with fail
          refine C2.out.mono ?_
          rintro e w4 ⟨k2, s2, bad2, rfl, hk2, hs2, ht2, ho2, hns2⟩
          have hbl2 := HSET.out.only ho2 (by decide)
          have hb4 := HB3.out.trans (((ho2.base (B' := w.heap.size) HK.out).below hb3s).mono (Nat.le_refl _))
          obtain ⟨i1, i2, i3⟩ := inv_step HI.out (by omega) (by omega) (by rw [Int.toNat_natCast]; exact HNS1.out) hns2
          have HF := Lib.hid (And.intro hs2 (And.intro hbl2 (And.intro ht2 (And.intro hb4 i3))))
          have hl3 : -1 ≤ (lf : Int) - (1 + (k1 : Int)) := by omega
          have hl4 : (lf : Int) - (1 + (k1 : Int)) ≤ 65536 := by omega
          clear C2 HW3 hcS hfS HSET HTK1 HB3 HNS1 HI ht2 ho2 hns2 hbl2 hb4 i3 hs2 hb3s
          go_wp2
          obtain ⟨f1, f2, f3, f4, f5⟩ := HF.out
          refine ⟨⟨_, _, _, _, _, _, _, _, _, _, _, _, _, _, _, _, _, _, _, _, _, _, _, _, _, _, _, _, _, _, _, ⟨a + (1 + k2), _, s2, bad2, _, rfl, by go_num, i1, hl3, hl4, f1, by rw [List.length_set]; exact hQ, f2, f3, f4, Lib.hid f5⟩, rfl⟩, ?_⟩
          simp [intOf]; omega
        · obtain rfl : a = 256 := by omega
          have hli : ¬ ((256 : Nat) : Int) < 256 := by omega
          have HE := Lib.hid (inv_end HI.out (fun _ => rfl))
          clear hlt HI
          by_cases h0 : lf = 0
          · subst h0
            have HE2 := Lib.hid (HE.out.2 rfl rfl)
            clear HE
            go_wp2
            go_quiet (fail)
            go_wp2
            go_ret3
            exact HGot.yes (below_drewN HB.out nq) (HRR.out.trans HE2.out) hQ (HBL.out.same rfl)
          · have hzf : (lf == 0) = false := beq_eq_false_iff_ne.2 h0
            have HE2 := Lib.hid (HE.out.1 (.inr h0))
            clear HE
            go_wp2
            go_ret3
            exact HGot.no HB.out (HRR.out.trans HE2.out)
end
end Go.Proofs.YtflcmmeoppdhdaaGreat
namespace Go.Proofs.YtflcmmeoppdhdaaGreat
open Go.RowKit Go.Sort

/-- What Decode answers: bytes, and an error. -/
def DecSays (w : World) (Q : List UInt8 × Nat) (e : Ending) (w' : World) : Prop := ∃ v, e = .returned (.tuple #[v, .int .i64 (Q.2 : Int)]) ∧ IsBytes Q.1 v w' ∧ Below w.heap.size w w'
theorem bytes_nil18 (w : World) : IsBytes [] (.slice none 0 0) w := ⟨none, 0, rfl, Nat.le_refl _, Rd.nil_ _ _ _⟩
/-- What is told of letters, or of none. -/
def decQ : Option (List UInt8) → List UInt8 × Nat
  | some X => (X, 0)
  | none => ([], 16)
set_option maxHeartbeats 1000000 in
set_option maxRecDepth 100000 in
theorem ransDec_nil (A : Option Addr) (m : Nat) (w : World) : Calls Tryz.prog 44 #[.slice A (0 : Nat) m, .int .i64 0] w (DecSays w ([], 0)) := by
  go_enter Tryz.func44, Tryz.ntmps44
  go_wp2
  go_ret2
  exact ⟨_, rfl, bytes_nil18 _, Below.refl _ _⟩
section
variable {w : World} {A : Option Addr} {p m N : Nat} {l : List UInt8}
set_option maxHeartbeats 2000000 in
set_option maxRecDepth 100000 in
theorem ransDec_none (hr : Rd w w.heap.size A (bvs l)) (hp : l.length = p) (hpm : p ≤ m) (hp1 : p ≤ 1000000) (hN : N ≤ 100000) (hne : ¬ (N = 0 ∧ p = 0)) (hg : hGot ((4096 : Nat) : Int) l = none) :
    Calls Tryz.prog 44 #[.slice A p m, .int .i64 (N : Int)] w (DecSays w ([], 16)) := by
  have C1 := Lib.hid (histGet_any 12 4096 (by decide) (by decide) rfl hr hp hpm hp1)
  rw [hg] at C1
  have hNi : (N : Int) ≤ 100000 := by omega
  have hN0 : (0 : Int) ≤ (N : Int) := by omega
  have HX := Lib.hid (fun (W : World) (hb : Below w.heap.size w W) => show DecSays w ([], 16) (.returned (.tuple #[.slice none 0 0, .int .i64 16])) W from ⟨_, rfl, bytes_nil18 _, hb⟩)
  clear hr hp hg
  by_cases h0 : N = 0
  · subst h0
    have hp0 : ¬ (p : Int) = 0 := by omega
    have hp0b : ((p : Int) == 0) = false := by rw [beq_eq_false_iff_ne]; exact hp0
    have hp0n : ¬ p = 0 := by omega
    clear hne
    go_enter Tryz.func44, Tryz.ntmps44
    go_wp2_with fail
    refine C1.out.mono ?_
    rintro _ w1 ⟨hb1, rfl⟩
    have HB1 := Lib.hid hb1
    clear hb1 C1
    go_wp2
    go_ret2
    exact HX.out _ HB1.out
  · have h0i : ¬ (N : Int) = 0 := by omega
    have h0b : ((N : Int) == 0) = false := by rw [beq_eq_false_iff_ne]; exact h0i
    clear hne
    go_enter Tryz.func44, Tryz.ntmps44
    go_wp2_with fail
    refine C1.out.mono ?_
    rintro _ w1 ⟨hb1, rfl⟩
    have HB1 := Lib.hid hb1
    clear hb1 C1
    go_wp2
    go_ret2
    exact HX.out _ HB1.out
set_option maxHeartbeats 4000000 in
set_option maxRecDepth 100000 in
theorem ransDec_some {r : List Int} {k : Nat} (hr : Rd w w.heap.size A (bvs l)) (hp : l.length = p) (hpm : p ≤ m) (hp1 : p ≤ 1000000) (hN : N ≤ 100000) (h0 : 0 < N) (hg : hGot ((4096 : Nat) : Int) l = some (r, k)) (hl : r.length = 256) (hnn : ∀ x ∈ r, 0 ≤ x) (hs : r.sum = 4096) (hk : k ≤ p) :
    Calls Tryz.prog 44 #[.slice A p m, .int .i64 (N : Int)] w (DecSays w (decQ (tellF r N (l.drop k)))) := by
  have C1 := Lib.hid (histGet_any 12 4096 (by decide) (by decide) rfl hr hp hpm hp1)
  rw [hg] at C1
  have hNi : (N : Int) ≤ 100000 := by omega
  have hN0 : ¬ (N : Int) = 0 := by omega
  have hN0b : ((N : Int) == 0) = false := by rw [beq_eq_false_iff_ne]; exact hN0
  have hN1 : (0 : Int) < (N : Int) := by omega
  have hsb : r.any sBad = false := by
    rw [List.any_eq_false]
    intro x hx
    have := hnn x hx
    simp [sBad]; omega
  have HR := Lib.hid hr
  have HH := Lib.hid (And.intro hp (And.intro hpm (And.intro hp1 (And.intro hk (And.intro hN hl)))))
  have HS := Lib.hid (And.intro hsb hs)
  obtain ⟨R, hR⟩ : ∃ R, R = tellF r N (l.drop k) := ⟨_, rfl⟩
  rw [← hR]
  rw [← tellD_is] at hR
  have HRR := Lib.hid hR
  clear hr hp hpm hp1 hg hnn hs hsb hk hR hl h0 hN
  go_enter Tryz.func44, Tryz.ntmps44
  go_wp2_with fail
  refine C1.out.mono ?_
  rintro _ w1 ⟨hb1, -, S, rfl, hS⟩
  have C2 := Lib.hid (slotMake_ok (n := 256) (m := 256) 12 4096 (by decide) (by decide) rfl (Rd.of_blk hS) HH.out.2.2.2.2.2 (by decide) HS.out.1 HS.out.2)
  have HB1 := Lib.hid hb1
  clear hb1 hS C1
  go_wp2_with fail
  refine C2.out.mono ?_
  rintro _ w2 ⟨P, rfl, hsl, hb2⟩
  have HSL := Lib.hid hsl
  have HB2 := Lib.hid (HB1.out.trans (hb2.mono HB1.out.size))
  clear hsl hb2 C2 HB1
  have C3 := Lib.hid (ransBehind_any (k := k) (HR.out.below HB2.out) HH.out.1 HH.out.2.1 HH.out.2.2.2.1)
  go_wp2_with fail
  refine C3.out.mono ?_
  rintro _ w3 ⟨A', rfl, hrd, hw3⟩
  subst w3
  have C4 := Lib.hid (ransBegun_any hrd HB2.out.size (by rw [List.length_drop, HH.out.1]) (Nat.le_refl _) (by have := HH.out.2.2.1; omega))
  clear hrd C3 HR
  go_wp2_with fail
  refine C4.out.mono ?_
  rintro _ w4 ⟨D, rfl, hD, hd, hb4⟩
  have C5 := Lib.hid (ransLetters_any (n := N) hd (HSL.out.grow hb4) HH.out.2.2.2.2.2 HH.out.2.2.2.2.1)
  rw [← HRR.out] at C5
  have HB4 := Lib.hid (HB2.out.trans (hb4.mono HB2.out.size))
  have HD := Lib.hid (Nat.le_trans HB2.out.size hD)
  clear hd hb4 hD C4 HSL HB2
  go_wp2_with fail
  refine C5.out.mono ?_
  rintro _ w5 ⟨ht5, hres⟩
  have HB5 := Lib.hid (HB4.out.trans (ht5.below HD.out HD.out HB4.out.size))
  clear ht5 C5 HB4 HRR
  cases R with
  | none =>
    obtain ⟨v, rfl⟩ := hres
    have HX := Lib.hid (show DecSays w (decQ none) (.returned (.tuple #[.slice none 0 0, .int .i64 16])) w5 from ⟨_, rfl, bytes_nil18 _, HB5.out⟩)
    go_wp2
    go_ret2
    exact HX.out
  | some X =>
    obtain ⟨v, rfl, hv⟩ := hres
    have HX := Lib.hid (show DecSays w (decQ (some X)) (.returned (.tuple #[v, .int .i64 0])) w5 from ⟨_, rfl, hv, HB5.out⟩)
    clear hv
    go_wp2
    go_ret2
    exact HX.out
end
end Go.Proofs.YtflcmmeoppdhdaaGreat
namespace Go.Proofs.YtflcmmeoppdhdaaGreat
open Go.RowKit Go.Sort

theorem calls_some {P : Program} {f : FuncId} {args : Array Value} {w : World} {R : Ending → World → Prop} (h : Calls P f args w R) : ∃ e w', R e w' :=
  let ⟨e, w', _, r, _⟩ := h []
  ⟨e, w', r⟩
theorem got_put18 {r : List Int} {T : Int} (hm : HistMay r) (hs : r.sum = T) (more : List UInt8) : hGot T (hPut r ++ more) = some (r, (hPut r).length) := by
  have h : hG [] (hPut r ++ more) 0 = some (r, (hPut r).length) := hGet_put hm.1 hm.2 more
  unfold hGot
  rw [h]
  simp only [filt, Option.bind_some]
  rw [if_pos hs]
theorem got_one (T : Int) (x : UInt8) : hGot T [x] = none := by
  have hx := x.toNat_lt
  unfold hGot
  by_cases h : 128 ≤ x.toNat
  · have h1 : lget [x] = (0, 0, 11) := by unfold lget lgetF; rw [if_neg (by simp), if_pos h]; rfl
    rw [hG_bad h1 (.inl (by decide))]
    rfl
  · have h1 : lget [x] = (x.toNat, 1, 0) := by unfold lget lgetF; rw [if_neg (by simp), if_neg h, if_neg (by simp)]; simp
    rw [hG_mid h1 (by simp; omega)]
    have h2 : lget ([x].drop 1) = (0, 0, 11) := rfl
    rw [hM_bad h2 (by simp [zerosI]; omega) (.inl (by decide))]
    rfl
/-- What Code lays of no bytes, or of some. -/
def RansQ (l Q : List UInt8) : Prop := (l = [] ∧ Q = []) ∨ (l ≠ [] ∧ RansSays l Q ∧ Q.length ≤ 20000)
set_option maxHeartbeats 1000000 in
set_option maxRecDepth 100000 in
theorem ransCode_nil (A : Option Addr) (m : Nat) (w : World) : Calls Tryz.prog 43 #[.slice A (0 : Nat) m] w fun e w' => e = .returned (.slice none 0 0) ∧ w' = w := by
  go_enter Tryz.func43, Tryz.ntmps43
  go_wp2
  go_ret
  exact ⟨rfl, rfl⟩
/-- What hands back bytes in a row of its own, or none. -/
def NewQ (w : World) (Q : List UInt8) (e : Ending) (w' : World) : Prop := ∃ v, e = .returned v ∧ IsBytes Q v w' ∧ Below w.heap.size w w'
theorem ransCode_q {l Q : List UInt8} (hQ : RansQ l Q) (hl : l.length ≤ 4000) (v : Value) (w : World) (h : IsBytes l v w) : Calls Tryz.prog 43 #[v] w (NewQ w Q) := by
  obtain ⟨A, c, rfl, hc, hr⟩ := h
  rcases hQ with ⟨rfl, rfl⟩ | ⟨h1, h2, -⟩
  · refine (ransCode_nil A c w).mono ?_
    rintro e w' ⟨rfl, rfl⟩
    exact ⟨_, rfl, bytes_nil18 _, Below.refl _ _⟩
  · refine (ransCode_any hr rfl (List.length_pos_iff.2 h1) hl).mono ?_
    rintro e w' ⟨v, B, rfl, hB, -, hown, hb⟩
    obtain rfl := hB.one h2
    exact ⟨v, rfl, IsBytes.of_own hown, hb⟩
theorem ransQ_some {l : List UInt8} (hl : l.length ≤ 4000) {A : Option Addr} {w : World} (hr : Rd w w.heap.size A (bvs l)) : ∃ Q, RansQ l Q := by
  by_cases h : l = []
  · exact ⟨[], .inl ⟨h, rfl⟩⟩
  · obtain ⟨e, w', v, B, -, hB, hb, -⟩ := calls_some (ransCode_any (m := 0) hr rfl (List.length_pos_iff.2 h) hl)
    exact ⟨B, .inr ⟨h, hB, hb⟩⟩
set_option maxRecDepth 100000 in
/-- **P18.3**: what was coded is decoded; with a byte more it is none. -/
theorem ransBack_q {l Q : List UInt8} (hQ : RansQ l Q) (hl : l.length ≤ 4000) (v : Value) (w : World) :
    (IsBytes Q v w → Calls Tryz.prog 44 #[v, .int .i64 (l.length : Int)] w (DecSays w (l, 0))) ∧
    ∀ m : UInt8, IsBytes (Q ++ [m]) v w → Calls Tryz.prog 44 #[v, .int .i64 (l.length : Int)] w (DecSays w ([], 16)) := by
  rcases hQ with ⟨rfl, rfl⟩ | ⟨h1, h2, hb⟩
  · refine ⟨fun h => ?_, fun m h => ?_⟩
    · obtain ⟨A, c, rfl, hc, hr⟩ := h
      exact ransDec_nil A c w
    · obtain ⟨A, c, rfl, hc, hr⟩ := h
      exact ransDec_none (N := 0) hr rfl hc (by simp) (by decide) (by simp) (got_one _ m)
  · obtain ⟨r, x, T, hn, hin, rfl⟩ := h2
    have h0 : 0 < l.length := List.length_pos_iff.2 h1
    have hs := shares_of h0 hl hn
    have hdec : ∀ (more : List UInt8) (v : Value), more.length ≤ 1 → IsBytes (hPut r ++ u8s (be4 x ++ T) ++ more) v w → Calls Tryz.prog 44 #[v, .int .i64 (l.length : Int)] w (DecSays w (decQ (tellF r l.length (u8s (be4 x ++ T) ++ more)))) := fun more v hm h => by
      have hg := got_put18 (T := ((4096 : Nat) : Int)) ⟨hs.len, hs.may⟩ (by have := hs.sum; omega) (u8s (be4 x ++ T) ++ more)
      rw [← List.append_assoc] at hg
      have hdrop : (hPut r ++ u8s (be4 x ++ T) ++ more).drop (hPut r).length = u8s (be4 x ++ T) ++ more := by rw [List.append_assoc, List.drop_left' rfl]
      have hkl : (hPut r).length ≤ (hPut r ++ u8s (be4 x ++ T) ++ more).length := by simp only [List.length_append]; omega
      have hb2 : (hPut r ++ u8s (be4 x ++ T) ++ more).length ≤ 1000000 := by rw [List.length_append]; omega
      obtain ⟨M, hM⟩ : ∃ M, M = hPut r ++ u8s (be4 x ++ T) ++ more := ⟨_, rfl⟩
      rw [← hM] at hg hdrop hkl hb2 h
      obtain ⟨A, c, rfl, hc, hr⟩ := h
      have h3 := ransDec_some (N := l.length) hr rfl hc hb2 (by omega) h0 hg hs.len hs.nn hs.sum hkl
      rw [hdrop] at h3
      exact h3
    refine ⟨fun h => ?_, fun m h => ?_⟩
    · have h3 := hdec [] v (by simp) (by rw [List.append_nil]; exact h)
      rw [tell_coded hs hin, if_pos rfl] at h3
      exact h3
    · have h3 := hdec [m] v (by simp) h
      rw [tell_coded hs hin, if_neg (by simp)] at h3
      exact h3
end Go.Proofs.YtflcmmeoppdhdaaGreat
