/-
  Contracts of the functions that take a number: leb.Get, ref.Get, leb.GetInt. · Layer 30: the reference: May, number, sum, Put, PutEnd. · Layer 30: the reference: Get, GetEnd. · Layer 30: what was put is got; what was cut ends too early; lengths. Pure.
-/
import Derived.Test.YtjignfnkcbklkaaQ08
import Derived.Deep.DeepMust
import Derived.BigQuiet
import Derived.Deep.QuietTactic
namespace Go.Proofs.Ytjignfnkcbklkaa
open Go.RowKit

theorem pow_7k (k : Nat) : (128 : Nat) ^ k = 2 ^ (7 * k) := by rw [Nat.pow_mul]
/-- bits that are put above those that are there, as the walk spells it -/
theorem get_step (acc c k : Nat) (hk : k ≤ 9) (ha : acc < 128 ^ k) (hb : c * 128 ^ k < 18446744073709551616) :
    bits .or .u64 (acc : Int) (IntKind.u64.wrap ((c : Int) * 2 ^ (7 * k))) = ((acc + c * 128 ^ k : Nat) : Int) := by
  have hp := pow128_mono hk
  have e : (c : Int) * 2 ^ (7 * k) = ((c * 128 ^ k : Nat) : Int) := by rw [pow_7k]; simp
  have ha2 : (acc : Int) < 2 ^ (7 * k) := by
    have : ((acc : Nat) : Int) < ((2 ^ (7 * k) : Nat) : Int) := by rw [← pow_7k]; exact_mod_cast ha
    simpa using this
  have hmod : ((c * 128 ^ k : Nat) : Int) % 2 ^ (7 * k) = 0 := by
    rw [← e]; exact Int.mul_emod_left _ _
  rw [e, IntKind.wrap_u64, Int.emod_eq_of_lt (by omega) (by omega), orHigh_u64 _ _ (7 * k) (by omega) ha2 (by omega) hmod (by omega) (by omega)]
  omega

theorem ret_get {a a' b b' c c' : Int} (h1 : a = a') (h2 : b = b') (h3 : c = c') :
    Ending.returned (.tuple #[.int .u64 a, .int .i64 b, .int .i64 c]) = .returned (.tuple #[.int .u64 a', .int .i64 b', .int .i64 c']) := by subst h1 h2 h3; rfl

/-- What holds at the head of a round of leb.Get. -/
def GetRel (l : List UInt8) (r : Nat × Nat × Nat) (t s i : Value) : Prop :=
  ∃ k acc : Nat, t = .int .u64 acc ∧ s = .int .i64 0 ∧ i = .int .i64 k ∧ k ≤ l.length ∧ k ≤ 9 ∧ acc < 128 ^ k ∧ Hid (lgetF k acc (l.drop k) = r)

set_option maxHeartbeats 400000 in
set_option maxRecDepth 100000 in
theorem lebGet_any (A : Option Addr) (n c : Nat) (l : List UInt8) (w : World) (hr : Rd w w.heap.size A (bvs l)) (hn : l.length = n) (hn1 : n ≤ 9223372036854775807) (m j e : Nat) (hg : lget l = (m, j, e)) :
    Calls Try.prog 34 #[.slice A n c] w fun e' w' => e' = .returned (.tuple #[.int .u64 m, .int .i64 j, .int .i64 e]) ∧ w = w' := by
  subst hn
  have HG := Lib.hid hg
  clear hg
  go_enter Try.func34, Try.ntmps34
  go_wp2
  go_step3
  go_wp2
  go_step3
  go_wp2
  go_loop [5, 6, 11] (GetRel l (m, j, e)) (fun _ _ i => 10 - (intOf i).toNat)
  case atStart => exact ⟨0, 0, rfl, rfl, rfl, by omega, by omega, by decide, HG.out⟩
  case round =>
    obtain ⟨k, acc, rfl, rfl, rfl, hkl, hk9, hacc, Hrel⟩ := hrel
    by_cases hlt : k < l.length
    · obtain ⟨ab, ao, rfl, _, hcell⟩ := hr k _ (bvs_get l k hlt)
      obtain ⟨b, hb⟩ : ∃ b, b = l[k] := ⟨_, rfl⟩
      rw [← hb] at hcell
      have hdrop : l.drop k = b :: l.drop (k + 1) := by rw [hb]; exact List.drop_eq_getElem_cons hlt
      rw [hdrop] at Hrel
      have HD := Lib.hid hdrop
      have HB := Lib.hid hb
      have hb8 := b.toNat_lt
      have hb0 : (0 : Int) ≤ (b.toNat : Int) := by omega
      have hb255 : (b.toNat : Int) ≤ 255 := by omega
      clear hdrop hb
      by_cases c1 : k = 9 ∧ 1 < b.toNat
      · have hres : (m, j, e) = (0, 0, 21) := by rw [← Hrel.out]; simp only [lgetF]; rw [if_pos c1]
        obtain ⟨rfl, c1⟩ := c1
        have HRES := Lib.hid hres
        clear hres
        go_wp2
        go_ret3
        have := HRES.out
        simp only [Prod.mk.injEq] at this
        obtain ⟨rfl, rfl, rfl⟩ := this
        exact ⟨rfl, rfl⟩
      · by_cases c2 : 128 ≤ b.toNat
        · have hk8 : k ≤ 8 := by omega
          have Hrel1 : Hid (lgetF (k + 1) (acc + (b.toNat - 128) * 128 ^ k) (l.drop (k + 1)) = (m, j, e)) := by
            have := Hrel.out
            simp only [lgetF] at this
            rw [if_neg c1, if_pos c2] at this
            exact this
          have hn9 : ((k : Int) == 9) = false := by rw [beq_eq_false_iff_ne]; omega
          have hp : 128 ^ k * 128 = 128 ^ (k + 1) := rfl
          have hpp := pow128_pos k
          have hm9 := pow128_mono (k := k + 1) (by omega)
          have hbk : (b.toNat - 128) * 128 ^ k ≤ 127 * 128 ^ k := Nat.mul_le_mul_right _ (by omega)
          have hstep := get_step acc (b.toNat - 128) k (by omega) hacc (by omega)
          have hcast : ((b.toNat - 128 : Nat) : Int) = (b.toNat : Int) - 128 := by omega
          rw [hcast] at hstep
          have hacc1 : acc + (b.toNat - 128) * 128 ^ k < 128 ^ (k + 1) := by omega
          have HS := Lib.hid hstep
          have HA := Lib.hid hacc1
          have hk8i : (k : Int) ≤ 8 := by omega
          clear hstep hacc1 hbk hm9 hp hcast hacc hpp Hrel c1
          go_wp2
          go_round
          case rel => exact ⟨k + 1, _, by rw [HS.out], rfl, by go_num, by omega, by omega, HA.out, Hrel1⟩
          case measure => simp [intOf]; omega
        · by_cases c3 : b.toNat = 0 ∧ 0 < k
          · have hres : (m, j, e) = (0, 0, 21) := by rw [← Hrel.out]; simp only [lgetF]; rw [if_neg c1, if_neg c2, if_pos c3]
            obtain ⟨c3, hk0⟩ := c3
            have hb00 : ((b.toNat : Int) == 0) = true := by rw [c3]; rfl
            have hn9 : (decide (1 < (b.toNat : Int))) = false := by rw [c3]; rfl
            have HRES := Lib.hid hres
            have hcell' : w.cell? ⟨ab, ao + k, none⟩ = some (.int .u8 0) := by rw [hcell, c3]; rfl
            clear hres c3 hcell Hrel c1 c2 hb00 hn9 hacc
            go_wp2
            all_goals go_ret3
            all_goals (have hq := HRES.out; simp only [Prod.mk.injEq] at hq; obtain ⟨rfl, rfl, rfl⟩ := hq; exact ⟨rfl, rfl⟩)
          · have hres : (m, j, e) = (acc + b.toNat * 128 ^ k, k + 1, 0) := by rw [← Hrel.out]; simp only [lgetF]; rw [if_neg c1, if_neg c2, if_neg c3]
            have hbk : b.toNat * 128 ^ k < 18446744073709551616 := by
              rcases Nat.lt_or_ge k 9 with g | g
              · have h6 : 128 ^ (k + 1) ≤ 9223372036854775808 := pow128_mono (by omega)
                have h7 : b.toNat * 128 ^ k ≤ 127 * 128 ^ k := Nat.mul_le_mul_right _ (by omega)
                have h8 : 128 ^ k * 128 = 128 ^ (k + 1) := rfl
                omega
              · have : k = 9 := by omega
                subst this
                have : b.toNat ≤ 1 := by omega
                have := Nat.mul_le_mul_right (128 ^ 9) this
                rw [pow128_9] at this ⊢
                omega
            have hstep := get_step acc b.toNat k (by omega) hacc hbk
            have HS := Lib.hid hstep
            have HRES := Lib.hid hres
            have hk9i : (k : Int) ≤ 9 := by omega
            have hlt128 : (b.toNat : Int) < 128 := by omega
            by_cases g9 : k = 9
            · subst g9
              have hb1 : (b.toNat : Int) ≤ 1 := by omega
              have hz : (decide (1 < (b.toNat : Int))) = false := by rw [decide_eq_false_iff_not]; omega
              by_cases gz : b.toNat = 0
              · exact absurd ⟨gz, by omega⟩ c3
              · have hz2 : ((b.toNat : Int) == 0) = false := by rw [beq_eq_false_iff_ne]; omega
                have HS9 : Hid (bits .or .u64 (acc : Int) ((b.toNat : Int) * 9223372036854775808) = ((acc + b.toNat * 128 ^ 9 : Nat) : Int)) := by
                  have e : (2 : Int) ^ (7 * 9) = 9223372036854775808 := by decide
                  have h := hstep
                  rw [e, IntKind.wrap_u64, Int.emod_eq_of_lt (by omega) (by omega)] at h
                  exact h
                clear hstep hres hbk hacc Hrel c1 c2 c3 gz
                go_wp2
                all_goals go_ret3
                all_goals (have hq := HRES.out; simp only [Prod.mk.injEq] at hq; obtain ⟨rfl, rfl, rfl⟩ := hq; exact ⟨ret_get HS9.out (by omega) rfl, rfl⟩)
            · have hn9 : ((k : Int) == 9) = false := by rw [beq_eq_false_iff_ne]; omega
              by_cases gz : b.toNat = 0
              · have hk00 : k = 0 := by omega
                subst hk00
                have hcell' : w.cell? ⟨ab, ao, none⟩ = some (.int .u8 0) := by have := hcell; rw [gz] at this; simpa using this
                obtain rfl : acc = 0 := by simpa using hacc
                have GZ := Lib.hid gz
                clear hstep hres hbk hacc Hrel c1 c2 c3 gz g9 hn9 hcell hlt128 hk9i
                go_wp2
                all_goals go_ret3
                all_goals (have hq := HRES.out; simp only [Prod.mk.injEq] at hq; obtain ⟨rfl, rfl, rfl⟩ := hq; exact ⟨ret_get (by rw [GZ.out]; decide) (by omega) rfl, rfl⟩)
              · have hz2 : ((b.toNat : Int) == 0) = false := by rw [beq_eq_false_iff_ne]; omega
                clear hstep hres hbk hacc Hrel c1 c2 c3 gz g9
                go_wp2
                all_goals go_ret3
                all_goals (have hq := HRES.out; simp only [Prod.mk.injEq] at hq; obtain ⟨rfl, rfl, rfl⟩ := hq; exact ⟨ret_get HS.out (by omega) rfl, rfl⟩)
    · have hkl' : k = l.length := by omega
      have hres : (m, j, e) = (0, 0, 11) := by rw [← Hrel.out, List.drop_of_length_le (by omega)]; rfl
      have HRES := Lib.hid hres
      clear hres Hrel hacc
      subst hkl'
      go_wp2
      all_goals go_ret3
      all_goals (have hq := HRES.out; simp only [Prod.mk.injEq] at hq; obtain ⟨rfl, rfl, rfl⟩ := hq; exact ⟨rfl, rfl⟩)

end Go.Proofs.Ytjignfnkcbklkaa
namespace Go.Proofs.Ytjignfnkcbklkaa
open Go.RowKit

/-- A block, as a value. -/
def blkV (mo ra mi co su fr pl : Int) : Value := .agg #[.int .i64 mo, .int .i64 ra, .int .i64 mi, .int .i64 co, .int .u32 su, .int .i64 fr, .int .i64 pl]
/-- May a block be, of blocks of so many bytes? -/
def mayBk (mo ra mi co most : Int) : Bool := decide (0 ≤ mo) && decide (mo ≤ 5) && decide (1 ≤ ra) && decide (ra ≤ most) && (if mo = 0 then decide (mi = 0) && decide (co = ra) else decide (0 ≤ mi) && decide (mi ≤ 3 * ra + 64) && decide (0 ≤ co) && decide (co < ra))
theorem ret_bb {a b : Bool} (h : a = b) : Ending.returned (.bool a) = .returned (.bool b) := by rw [h]
set_option maxRecDepth 100000 in
set_option maxHeartbeats 2000000 in
theorem refBMay_any (mo ra mi co su fr pl most : Int) (hm : most ≤ 16777216) (W : World) : Calls Try.prog 17 #[blkV mo ra mi co su fr pl, .int .i64 most] W fun e w' => e = .returned (.bool (mayBk mo ra mi co most)) ∧ Below W.heap.size W w' := by
  unfold blkV mayBk
  by_cases hz : mo = 0
  · subst hz
    rw [if_pos rfl]
    go_enter Try.func17, Try.ntmps17
    go_wp2
    all_goals
      go_ret
      refine ⟨ret_bb ?_, (Below.refl _ _).alloc (Nat.le_refl _) _⟩
      first
        | (simp; done)
        | (simp; omega)
        | (simp; intros; omega)
        | (rw [Bool.eq_iff_iff]; simp; omega)
  · rw [if_neg hz]
    go_enter Try.func17, Try.ntmps17
    go_wp2
    all_goals
      go_ret
      refine ⟨ret_bb ?_, (Below.refl _ _).alloc (Nat.le_refl _) _⟩
      first
        | (simp; done)
        | (simp; omega)
        | (simp; intros; omega)
        | (rw [Bool.eq_iff_iff]; simp; omega)
/-- A number of a place on, out of what leb tells. -/
def nbR (r : Nat × Nat × Nat) (a b : Nat) : Nat × Nat × Nat :=
  if r.2.2 = 0 then (if r.1 ≤ 1099511627776 ∧ a ≤ r.1 ∧ r.1 ≤ b then (r.1, r.2.1, 0) else (0, 0, 15)) else if r.2.2 = 21 then (0, 0, 15) else (0, 0, r.2.2)
/-- What four bytes say, the lowest first. -/
def sum4 (l : List UInt8) : Nat := (l.getD 0 0).toNat + 256 * (l.getD 1 0).toNat + 65536 * (l.getD 2 0).toNat + 16777216 * (l.getD 3 0).toNat
theorem sum4_lt (l : List UInt8) : sum4 l < 4294967296 := by
  unfold sum4
  have h0 := (l.getD 0 0).toNat_lt
  have h1 := (l.getD 1 0).toNat_lt
  have h2 := (l.getD 2 0).toNat_lt
  have h3 := (l.getD 3 0).toNat_lt
  omega
/-- append onto a full row of bytes, whosever it is, as the operation of a region: a new row. -/
theorem says_appGrow {P : Program} {o : Oper} {ev : Operand → Value} {w : World} {post : Value → World → Prop} {s x : Operand} {t : TypeId} (hop : o.op = .call { callee := .builtin .append, args := #[s, x], argTypes := #[t, t] })
    (e : TypeId) (i : TypeInfo) (z : Value) (ht : P.underlying t = some (.slice e)) (hi : P.info? e = some i) (hz : i.zero = some z) (hsize : i.size = 1) (hby : i.bytes = 1) (hzs : z.cells.size = 1)
    (b : Addr) (n : Nat) (xs : List Value) (hs : ev s = .slice (some b) n n) (hx0 : xs.length = n) (hr0 : ∀ j v, xs[j]? = some v → w.cell? (b.add j) = some v)
    (l : List UInt8) (hx : IsBytes l (ev x) w) (h1 : 0 < l.length) (h63 : n + l.length ≤ 100000)
    (h : ∀ v' w', w'.ownsRow w.heap.size e 1 v' (n + l.length) (xs ++ bvs l) → Below w.heap.size w w' → post v' w') : OpSays P o ev w post := by
  obtain ⟨A2, c2, hv, hc, hr2⟩ := hx
  obtain ⟨b2, rfl, hcell⟩ := hr2.pos (by rw [bvs_length]; exact h1)
  have hrun := run_append_grow (P := P) w t o.type e i z ht hi hz b n n xs (by rw [hsize, Nat.mul_one]; exact hx0) hr0 b2 l.length c2 (bvs l) (by rw [bvs_length, hsize, Nat.mul_one]) hcell (by omega) (by omega) (growslice_fits (by omega) (by rw [hby]; omega))
  have hlen : (xs ++ bvs l).length = n + l.length := by rw [List.length_append, hx0, bvs_length]
  have hge := grownCap_ge w (n + l.length) n e
  have hcm : grownCap w (n + l.length) n e ≤ maxLen := grownCap_le_maxLen w (n + l.length) n e (by simp only [maxLen]; omega)
  unfold OpSays execOp
  simp only [hop, resolve, invoke, builtin, Sem.run_bind, Sem.run_pure, Result.andThen_ok, List.map_toArray, List.map_cons, List.map_nil, hs, hv, hrun]
  refine h _ _ ⟨by rw [hlen, Nat.mul_one], .inr ⟨w.heap.size, _, _, rfl, Nat.le_refl _, heap_alloc_new w.drew _, hge, hcm, ?_, ?_⟩⟩ ((Below.refl _ _).drew.alloc (Nat.le_refl _) _)
  · simp only [Array.size_append, List.size_toArray, size_zeroCells, hzs, hx0, bvs_length]
    omega
  · simp only [Array.toList_append, List.append_assoc]
    rw [← List.append_assoc, Nat.mul_one, ← hlen]
    exact List.take_left
/-- A block's bytes. -/
def blkL (mo ra mi co su : Nat) : List UInt8 := UInt8.ofNat (mo + 1) :: lput ra ++ ((if 0 < mo then lput mi ++ lput co else []) ++ fourL su)
/-- The end's bytes. -/
def endL (n su : Nat) : List UInt8 := 0 :: lput n ++ fourL su
set_option maxRecDepth 100000 in
set_option maxHeartbeats 2000000 in
theorem refPutEnd_any {t : Int} (ht : t ≤ 9223372036854775807) {su : Nat} (hs : su < 4294967296) (W : World) : Calls Try.prog 19 #[.int .i64 t, .int .u32 (su : Int)] W (NewB W (endL t.toNat su)) := by
  obtain ⟨i0, hi, hz0, hz1, hz2⟩ := info_parts info_u8
  have CL := Lib.hid (fun w => refPut_any (t.toNat : Int) w (by omega) (by omega))
  rw [Int.toNat_natCast] at CL
  obtain ⟨N, hN⟩ : ∃ N, N = t.toNat := ⟨_, rfl⟩
  rw [← hN] at CL ⊢
  have hmx : max t 0 = (N : Int) := by omega
  have hNb : N ≤ 9223372036854775807 := by omega
  have hlen : (lput N).length ≤ 10 := lput_le N (by omega)
  have HLL := Lib.hid hlen
  have CF := Lib.hid (fun w => refFour_any hs w)
  have HMX := Lib.hid hmx
  clear hN
  go_enter Try.func19, Try.ntmps19
  have hown0 := own_lit (base := W.heap.size) (e := 5) W #[.int .u8 0] 1 (Nat.le_refl _) (by decide) rfl
  have hb0 := (Below.refl W.heap.size W).alloc (Nat.le_refl _) (.cells #[.int .u8 0] 5)
  obtain ⟨w1, hw1⟩ : ∃ w1, w1 = W.alloc (.cells #[.int .u8 0] 5) := ⟨_, rfl⟩
  rw [← hw1] at hown0 hb0
  have HO0 := Lib.hid hown0
  have HB0 := Lib.hid hb0
  have HW1 := Lib.hid hw1
  clear hown0 hb0 hw1 hlen
  go_wp2_with fail
  rw [← HW1.out]
  refine (CL.out _).mono ?_
  rintro e w2 ⟨v2, rfl, ho2, hb2⟩
  have HB2 := Lib.hid (HB0.out.trans (hb2.mono HB0.out.size))
  have HO := Lib.hid (own_kept HO0.out hb2)
  obtain ⟨A2, c2, rfl, -, -, -⟩ := own_form ho2
  have HR2 := Lib.hid (Rd.of_own ho2)
  obtain ⟨k, hk⟩ : ∃ k, k = (lput N).length := ⟨_, rfl⟩
  have hlen := HLL.out
  rw [← hk] at hlen ⊢
  have HK := Lib.hid hk
  clear ho2 hb2 hk HO0
  go_wp2_with ((with_reducible show wpList _ _ _ (({ dst := some 10, op := _, type := _, pos := _, after := _, guard := _ } : Oper) :: _) _ _); go_must (refine wpList_app rfl (.tmp 5) (.tmp 9) 29 rfl W.heap.size 5 i0 (.int .u8 0) 1 1 Try.underlying29 hi hz0 hz1 hz2 rfl (by decide) _ _ _ rfl HO.out w2.heap.size A2 k c2 (bvs (lput N)) rfl HR2.out (by rw [bvs_length, ← HK.out, Nat.mul_one]) (bvs_one _) (by simp only [maxLen]; omega) (by omega) HB2.out.size ?_; intro v3 w3 hown3 hg3; have hb3 := HB2.out.grown hg3 HB2.out.size (own_block HO.out); have HO3 := Lib.hid hown3; have HB3 := Lib.hid hb3; clear hg3 hown3 hb3))
  refine (CF.out _).mono ?_
  rintro e w4 ⟨v4, rfl, ho4, hb4⟩
  have HB4 := Lib.hid (HB3.out.trans (hb4.mono HB3.out.size))
  have HO5 := Lib.hid (own_kept HO3.out hb4)
  obtain ⟨A4, c4, rfl, -, -, -⟩ := own_form ho4
  have HR4 := Lib.hid (Rd.of_own ho4)
  clear ho4 hb4 HO3 HB3 HO HB2
  go_wp2_with ((with_reducible show wpList _ _ _ (({ dst := some 13, op := _, type := _, pos := _, after := _, guard := _ } : Oper) :: _) _ _); go_must (refine wpList_app rfl (.tmp 10) (.tmp 12) 29 rfl W.heap.size 5 i0 (.int .u8 0) 1 1 Try.underlying29 hi hz0 hz1 hz2 rfl (by decide) _ _ _ rfl HO5.out w4.heap.size A4 4 c4 (bvs (fourL su)) rfl HR4.out (by rw [bvs_length]; rfl) (bvs_one _) (by simp only [maxLen]; omega) (by omega) HB4.out.size ?_; intro v5 w5 hown5 hg5; have hb5 := HB4.out.grown hg5 HB4.out.size (own_block HO5.out); clear hg5))
  go_ret
  refine ⟨_, rfl, ?_, hb5⟩
  have e1 : (endL N su).length = 1 + k + 4 := by unfold endL; rw [HK.out]; simp [fourL]; omega
  rw [e1]
  have e2 : bvs (endL N su) = [.int .u8 0] ++ bvs (lput N) ++ bvs (fourL su) := by unfold endL; rw [bvs_append]; rfl
  rw [e2]
  exact hown5
/-- A row of one byte, made anew. -/
def LitAt (x : Int) (v : Value) (w : World) : Prop := ∃ g, v = .slice (some ⟨g, 0, none⟩) 1 1 ∧ Blk w g 5 [.int .u8 x]
theorem LitAt.grow (x : Int) (v : Value) (w w' : World) (h : LitAt x v w) (hb : Below w.heap.size w w') : LitAt x v w' := by
  obtain ⟨g, h1, h2⟩ := h
  exact ⟨g, h1, h2.grow hb⟩
theorem new_cells8 {w : World} {g : Nat} {t : TypeId} {cs : List Value} (h : Blk w g t cs) : ∀ j v, cs[j]? = some v → w.cell? ((⟨g, 0, none⟩ : Addr).add j) = some v := fun j v hj => by
  rw [Addr.add_lit, Nat.zero_add]
  exact (h.cell j).trans hj
def OwnAt (B n : Nat) (xs : List Value) (v : Value) (w : World) : Prop := w.ownsRow B 5 1 v n xs
theorem OwnAt.grow (B n : Nat) (xs : List Value) (v : Value) (w w' : World) (h : OwnAt B n xs v w) (hb : Below w.heap.size w w') : OwnAt B n xs v w' := own_kept h hb
set_option maxRecDepth 100000 in
set_option maxHeartbeats 4000000 in
theorem refBPut_any {mo ra mi co su : Nat} {fr pl : Int} (hmo : mo ≤ 5) (hra : ra ≤ 16777216) (hmi : mi ≤ 100000000) (hco : co ≤ 16777216) (hs : su < 4294967296) (W : World) :
    Calls Try.prog 18 #[blkV (mo : Int) (ra : Int) (mi : Int) (co : Int) (su : Int) fr pl] W (NewB W (blkL mo ra mi co su)) := by
  obtain ⟨i0, hi, hz0, hz1, hz2⟩ := info_parts info_u8
  have CLR := Lib.hid (fun w => refPut_any (ra : Int) w (by omega) (by omega))
  have CLM := Lib.hid (fun w => refPut_any (mi : Int) w (by omega) (by omega))
  have CLC := Lib.hid (fun w => refPut_any (co : Int) w (by omega) (by omega))
  rw [Int.toNat_natCast] at CLR CLM CLC
  have CF := Lib.hid (fun w => refFour_any hs w)
  have HLR := Lib.hid (lput_le ra (by omega))
  have HLM := Lib.hid (lput_le mi (by omega))
  have HLC := Lib.hid (lput_le co (by omega))
  have HPR := Lib.hid (lput_pos ra)
  unfold blkV
  obtain ⟨CS, hCS⟩ : ∃ CS : List Value, CS = [.int .i64 (mo : Int), .int .i64 (ra : Int), .int .i64 (mi : Int), .int .i64 (co : Int), .int .u32 (su : Int), .int .i64 fr, .int .i64 pl] := ⟨_, rfl⟩
  have hS0 : Blk (W.alloc (.cells #[.int .i64 (mo : Int), .int .i64 (ra : Int), .int .i64 (mi : Int), .int .i64 (co : Int), .int .u32 (su : Int), .int .i64 fr, .int .i64 pl] 37)) W.heap.size 37 CS := by rw [hCS]; exact heap_alloc_new W _
  have hBx := (Below.refl W.heap.size W).alloc (Nat.le_refl _) (.cells #[.int .i64 (mo : Int), .int .i64 (ra : Int), .int .i64 (mi : Int), .int .i64 (co : Int), .int .u32 (su : Int), .int .i64 fr, .int .i64 pl] 37)
  go_enter Try.func18, Try.ntmps18
  go_wp2_with fail
  obtain ⟨w1, hw1⟩ : ∃ w1, w1 = W.alloc (.cells #[.int .i64 (mo : Int), .int .i64 (ra : Int), .int .i64 (mi : Int), .int .i64 (co : Int), .int .u32 (su : Int), .int .i64 fr, .int .i64 pl] 37) := ⟨_, rfl⟩
  rw [← hw1] at hS0 hBx ⊢
  obtain ⟨S, hSS⟩ : ∃ S, S = W.heap.size := ⟨_, rfl⟩
  have hsz : S < w1.heap.size := by have := hS0.lt; omega
  obtain ⟨B, hB⟩ : ∃ B, B = w1.heap.size := ⟨_, rfl⟩
  rw [← hSS] at hS0
  have HSS := Lib.hid hSS
  have HS1 := Lib.hid hS0
  have HBX := Lib.hid hBx
  have HCS := Lib.hid hCS
  have HSB := Lib.hid (show S < B by omega)
  have HBB := Lib.hid hB
  have hm1 : ((UInt8.ofNat (mo + 1)).toNat : Int) = (mo : Int) + 1 := by rw [UInt8.toNat_ofNat']; omega
  have hm2 : (mo : Int) + 1 ≤ 255 := by omega
  have HM1 := Lib.hid hm1
  obtain ⟨L1, hL1⟩ : ∃ L1, L1 = UInt8.ofNat (mo + 1) :: lput ra := ⟨_, rfl⟩
  have hx1 : [Value.int .u8 ((mo : Int) + 1)] ++ bvs (lput ra) = bvs L1 := by rw [hL1, ← hm1]; rfl
  have hn1 : 1 + (lput ra).length = L1.length := by rw [hL1, List.length_cons]; omega
  have HX1 := Lib.hid hx1
  have HN1 := Lib.hid hn1
  have HL1 := Lib.hid hL1
  rw [← hSS]
  clear hS0 hBx hCS hsz hB hSS hw1 hm1 hx1 hn1 hL1
  refine wp_region_grow [⟨4, [], .is (.pointer (some ⟨S, 0, none⟩))⟩, ⟨5, [0], .is (.int .i64 (mo : Int))⟩, ⟨6, [1], .is (.int .i64 ((mo : Int) + 1))⟩, ⟨7, [2], .is (.int .u8 ((mo : Int) + 1))⟩, ⟨8, [3], .such _ (LitAt.grow ((mo : Int) + 1))⟩, ⟨9, [], .is (.pointer (some ⟨S, 1, none⟩))⟩, ⟨10, [5], .is (.int .i64 (ra : Int))⟩, ⟨11, [6], .is (.int .u64 (ra : Int))⟩, ⟨12, [7], .bytes (lput ra)⟩, ⟨13, [4, 8], .such _ (OwnAt.grow B L1.length (bvs L1))⟩, ⟨3, [9], .such _ (OwnAt.grow B L1.length (bvs L1))⟩]
    [(1, .pointer (some ⟨S, 0, none⟩))] (by kernel_rfl) (by kernel_rfl) (by kernel_rfl) (by kernel_rfl) (by kernel_rfl) ⟨rfl, trivial⟩ ?_ ?_
  · repeat' (first | exact OblGAll.nil | refine OblGAll.cons ?_ ?_)
    all_goals (intro ev yi w' hB hc hf ho hn; simp only [OutsSay, NeedSay, rowAt, Fact.says, and_true] at ho hn)
    all_goals (have q0 := (HS1.out.grow hB).cell 0; have q1 := (HS1.out.grow hB).cell 1; rw [HCS.out] at q0 q1; simp only [List.getElem?_cons_zero, List.getElem?_cons_succ] at q0 q1)
    all_goals (try ((simp [OpSays, execOp, Region.wanted, Fact.says, go_sem, ho, hn, hc, Below.refl, q0, q1]; done)))
    · simp [OpSays, execOp, Region.wanted, Fact.says, go_sem, hn, hc, Below.refl]
      (rw [IntKind.wrap_i64]; omega)
    · simp [OpSays, execOp, Region.wanted, Fact.says, go_sem, hn, Below.refl]
      (rw [IntKind.wrap_u8]; omega)
    · simp [OpSays, execOp, Region.wanted, Fact.says, go_sem, hn]
      exact ⟨⟨_, rfl, heap_alloc_new w' _⟩, (Below.refl _ _).alloc (Nat.le_refl _) _⟩
    · simp [OpSays, execOp, Region.wanted, Fact.says, go_sem, hn, Below.refl]
      (rw [IntKind.wrap_u64]; omega)
    · rw [if_pos (by simp [Region.wanted])]
      exact says_call Try.call31 (vs := #[.int .u64 (ra : Int)]) rfl hf (by simp [hn]) ((CLR.out w').mono fun _ _ ⟨v, h1, h2, h3⟩ => ⟨v, h1, IsBytes.of_own h2, h3⟩)
    · rw [if_pos (by simp [Region.wanted])]
      obtain ⟨⟨g, hv8, hb8⟩, -, h12⟩ := hn
      refine says_appGrow rfl 5 i0 (.int .u8 0) Try.underlying29 hi hz0 hz1 hz2 rfl ⟨g, 0, none⟩ 1 [.int .u8 ((mo : Int) + 1)] hv8 rfl (new_cells8 hb8) (lput ra) h12.1 HPR.out (by have := HLR.out; omega) fun v' w'' hown hbl => ⟨?_, hbl⟩
      rw [HX1.out, HN1.out] at hown
      exact own_more hown (by rw [HBB.out]; exact hB.size)
  · intro X w4 hb4 hx
    have hlast := hx 10 (by decide)
    clear hx
    have HO4 := Lib.hid (show w4.ownsRow B 5 1 (X 10) L1.length (bvs L1) from hlast)
    have HB4 := Lib.hid (show Below B w1 w4 by rw [HBB.out]; exact hb4)
    obtain ⟨v4, hv4⟩ : ∃ v, v = X 10 := ⟨_, rfl⟩
    simp only [layAll, List.setIfInBounds_toArray, List.set_cons_succ, List.set_cons_zero]
    rw [← hv4] at HO4 ⊢
    have hs4 : B ≤ w4.heap.size := by rw [HBB.out]; exact hb4.size
    clear hlast hb4 hv4
    have HW := Lib.hid (show W.heap.size ≤ B from by have := HSB.out; have := HSS.out; omega)
    by_cases h0 : 0 < mo
    · have h0i : (0 : Int) < (mo : Int) := by omega
      have HS4 := Lib.hid (HS1.out.below HB4.out HSB.out)
      have q0 := HS4.out.cell 0
      have q2 := HS4.out.cell 2
      rw [HCS.out] at q0 q2
      simp only [List.getElem?_cons_zero, List.getElem?_cons_succ] at q0 q2
      go_wp2_with fail
      refine (CLM.out _).mono ?_
      rintro e w5a ⟨v5a, rfl, ho, hb⟩
      have HB5a := Lib.hid (HB4.out.trans (hb.mono hs4))
      have HO5a := Lib.hid (own_kept HO4.out hb)
      obtain ⟨A5, c5, rfl, -, -, -⟩ := own_form ho
      have HR5 := Lib.hid (Rd.of_own ho)
      have hz5 : B ≤ w5a.heap.size := Nat.le_trans hs4 hb.size
      clear ho hb HO4 HB4
      go_wp2_with ((with_reducible show wpList _ _ _ (({ dst := some 22, op := _, type := _, pos := _, after := _, guard := _ } : Oper) :: _) _ _); go_must (refine wpList_app rfl (.tmp 17) (.tmp 21) 29 rfl B 5 i0 (.int .u8 0) 1 1 Try.underlying29 hi hz0 hz1 hz2 rfl (by decide) _ _ _ rfl HO5a.out w5a.heap.size A5 _ c5 (bvs (lput mi)) rfl HR5.out (by rw [bvs_length, Nat.mul_one]) (bvs_one _) (by simp only [maxLen]; have := HLR.out; have := HLM.out; have := HLC.out; have := HN1.out; have : (fourL su).length = 4 := rfl; omega) (by have := HLR.out; have := HLM.out; have := HLC.out; have := HN1.out; have : (fourL su).length = 4 := rfl; omega) hz5 ?_; intro v5 w5 hown5 hg5; have HB5 := Lib.hid (HB5a.out.grown hg5 hz5 (own_block HO5a.out)); have HO5 := Lib.hid hown5; have hs5 : B ≤ w5.heap.size := Nat.le_trans hz5 hg5.size; have q3 := (HS1.out.below HB5.out HSB.out).cell 3; rw [HCS.out] at q3; simp only [List.getElem?_cons_zero, List.getElem?_cons_succ] at q3; clear hg5 hown5 HB5a HO5a hz5))
      refine (CLC.out _).mono ?_
      rintro e w6a ⟨v6a, rfl, ho, hb⟩
      have HB6a := Lib.hid (HB5.out.trans (hb.mono hs5))
      have HO6a := Lib.hid (own_kept HO5.out hb)
      obtain ⟨A6, c6, rfl, -, -, -⟩ := own_form ho
      have HR6 := Lib.hid (Rd.of_own ho)
      have hz6 : B ≤ w6a.heap.size := Nat.le_trans hs5 hb.size
      clear ho hb HO5 HB5
      go_wp2_with ((with_reducible show wpList _ _ _ (({ dst := some 28, op := _, type := _, pos := _, after := _, guard := _ } : Oper) :: _) _ _); go_must (refine wpList_app rfl (.tmp 23) (.tmp 27) 29 rfl B 5 i0 (.int .u8 0) 1 1 Try.underlying29 hi hz0 hz1 hz2 rfl (by decide) _ _ _ rfl HO6a.out w6a.heap.size A6 _ c6 (bvs (lput co)) rfl HR6.out (by rw [bvs_length, Nat.mul_one]) (bvs_one _) (by simp only [maxLen]; have := HLR.out; have := HLM.out; have := HLC.out; have := HN1.out; have : (fourL su).length = 4 := rfl; omega) (by have := HLR.out; have := HLM.out; have := HLC.out; have := HN1.out; have : (fourL su).length = 4 := rfl; omega) hz6 ?_; intro v6 w6 hown6 hg6; have HB6 := Lib.hid (HB6a.out.grown hg6 hz6 (own_block HO6a.out)); have HO6 := Lib.hid hown6; have hs6 : B ≤ w6.heap.size := Nat.le_trans hz6 hg6.size; have q4 := (HS1.out.below HB6.out HSB.out).cell 4; rw [HCS.out] at q4; simp only [List.getElem?_cons_zero, List.getElem?_cons_succ] at q4; clear hg6 hown6 HB6a HO6a hz6))
      refine (CF.out _).mono ?_
      rintro e w7a ⟨v7a, rfl, ho, hb⟩
      have HB7a := Lib.hid (HB6.out.trans (hb.mono hs6))
      have HO7a := Lib.hid (own_kept HO6.out hb)
      obtain ⟨A7, c7, rfl, -, -, -⟩ := own_form ho
      have HR7 := Lib.hid (Rd.of_own ho)
      have hz7 : B ≤ w7a.heap.size := Nat.le_trans hs6 hb.size
      clear ho hb HO6 HB6
      go_wp2_with ((with_reducible show wpList _ _ _ (({ dst := some 33, op := _, type := _, pos := _, after := _, guard := _ } : Oper) :: _) _ _); go_must (refine wpList_app rfl (.tmp 29) (.tmp 32) 29 rfl B 5 i0 (.int .u8 0) 1 1 Try.underlying29 hi hz0 hz1 hz2 rfl (by decide) _ _ _ rfl HO7a.out w7a.heap.size A7 _ c7 (bvs (fourL su)) rfl HR7.out (by rw [bvs_length, Nat.mul_one]) (bvs_one _) (by simp only [maxLen]; have := HLR.out; have := HLM.out; have := HLC.out; have := HN1.out; have : (fourL su).length = 4 := rfl; omega) (by have := HLR.out; have := HLM.out; have := HLC.out; have := HN1.out; have : (fourL su).length = 4 := rfl; omega) hz7 ?_; intro v7 w7 hown7 hg7; have HB7 := Lib.hid (HB7a.out.grown hg7 hz7 (own_block HO7a.out)); have HO7 := Lib.hid hown7; have hs7 : B ≤ w7.heap.size := Nat.le_trans hz7 hg7.size; clear hg7 hown7 HB7a HO7a hz7))
      go_ret
      refine ⟨_, rfl, ?_, (HBX.out.trans (HB7.out.mono HW.out))⟩
      have e1 : bvs (blkL mo ra mi co su) = bvs L1 ++ bvs (lput mi) ++ bvs (lput co) ++ bvs (fourL su) := by
        unfold blkL
        rw [if_pos h0, HL1.out]
        simp only [bvs_append, List.append_assoc]
      have e2 : (blkL mo ra mi co su).length = L1.length + (lput mi).length + (lput co).length + (fourL su).length := by
        have := congrArg List.length e1
        simpa only [bvs_length, List.length_append] using this
      rw [e1, e2]
      exact own_more HO7.out HW.out
    · have h0i : ¬ (0 : Int) < (mo : Int) := by omega
      have HS4 := Lib.hid (HS1.out.below HB4.out HSB.out)
      have q0 := HS4.out.cell 0
      have q4 := HS4.out.cell 4
      rw [HCS.out] at q0 q4
      simp only [List.getElem?_cons_zero, List.getElem?_cons_succ] at q0 q4
      go_wp2_with fail
      refine (CF.out _).mono ?_
      rintro e w7a ⟨v7a, rfl, ho, hb⟩
      have HB7a := Lib.hid (HB4.out.trans (hb.mono hs4))
      have HO7a := Lib.hid (own_kept HO4.out hb)
      obtain ⟨A7, c7, rfl, -, -, -⟩ := own_form ho
      have HR7 := Lib.hid (Rd.of_own ho)
      have hz7 : B ≤ w7a.heap.size := Nat.le_trans hs4 hb.size
      clear ho hb HO4 HB4
      go_wp2_with ((with_reducible show wpList _ _ _ (({ dst := some 33, op := _, type := _, pos := _, after := _, guard := _ } : Oper) :: _) _ _); go_must (refine wpList_app rfl (.tmp 29) (.tmp 32) 29 rfl B 5 i0 (.int .u8 0) 1 1 Try.underlying29 hi hz0 hz1 hz2 rfl (by decide) _ _ _ rfl HO7a.out w7a.heap.size A7 _ c7 (bvs (fourL su)) rfl HR7.out (by rw [bvs_length, Nat.mul_one]) (bvs_one _) (by simp only [maxLen]; have := HLR.out; have := HLM.out; have := HLC.out; have := HN1.out; have : (fourL su).length = 4 := rfl; omega) (by have := HLR.out; have := HLM.out; have := HLC.out; have := HN1.out; have : (fourL su).length = 4 := rfl; omega) hz7 ?_; intro v7 w7 hown7 hg7; have HB7 := Lib.hid (HB7a.out.grown hg7 hz7 (own_block HO7a.out)); have HO7 := Lib.hid hown7; have hs7 : B ≤ w7.heap.size := Nat.le_trans hz7 hg7.size; clear hg7 hown7 HB7a HO7a hz7))
      go_ret
      refine ⟨_, rfl, ?_, (HBX.out.trans (HB7.out.mono HW.out))⟩
      have e1 : bvs (blkL mo ra mi co su) = bvs L1 ++ bvs (fourL su) := by
        unfold blkL
        rw [if_neg h0, HL1.out, List.nil_append, bvs_append]
      have e2 : (blkL mo ra mi co su).length = L1.length + (fourL su).length := by
        have := congrArg List.length e1
        simpa only [bvs_length, List.length_append] using this
      rw [e1, e2]
      exact own_more HO7.out HW.out
end Go.Proofs.Ytjignfnkcbklkaa
namespace Go.Proofs.Ytjignfnkcbklkaa
open Go.RowKit

theorem nbR_told (l : List UInt8) (a b : Nat) : (∃ x, nbR (lget l) a b = (x, (lput x).length, 0) ∧ x ≤ 1099511627776 ∧ a ≤ x ∧ x ≤ b ∧ (lput x).length ≤ l.length ∧ l.take (lput x).length = lput x) ∨ nbR (lget l) a b = (0, 0, 11) ∨ nbR (lget l) a b = (0, 0, 15) := by
  rcases lget_told l with ⟨x, h, -, hl, ht⟩ | h | h
  · rw [h]
    unfold nbR
    rw [if_pos rfl]
    by_cases hc : x ≤ 1099511627776 ∧ a ≤ x ∧ x ≤ b
    · rw [if_pos hc]
      exact .inl ⟨x, rfl, hc.1, hc.2.1, hc.2.2, hl, ht⟩
    · rw [if_neg hc]
      exact .inr (.inr rfl)
  · rw [h]
    exact .inr (.inl rfl)
  · rw [h]
    exact .inr (.inr rfl)
/-- What GetEnd tells of bytes. -/
def endG (l : List UInt8) : Nat × Nat × Nat × Nat :=
  if l.length = 0 then (0, 0, 0, 11)
  else if (l.getD 0 0).toNat ≠ 0 then (0, 0, 0, 14)
  else if (nbR (lget (l.drop 1)) 0 1099511627776).2.2 ≠ 0 then (0, 0, 0, (nbR (lget (l.drop 1)) 0 1099511627776).2.2)
  else if l.length < 1 + (nbR (lget (l.drop 1)) 0 1099511627776).2.1 + 4 then (0, 0, 0, 11)
  else ((nbR (lget (l.drop 1)) 0 1099511627776).1, sum4 (l.drop (1 + (nbR (lget (l.drop 1)) 0 1099511627776).2.1)), 1 + (nbR (lget (l.drop 1)) 0 1099511627776).2.1 + 4, 0)
def EndOut (W : World) (r : Nat × Nat × Nat × Nat) (e : Ending) (w' : World) : Prop := e = .returned (.tuple #[.int .i64 (r.1 : Int), .int .u32 (r.2.1 : Int), .int .i64 (r.2.2.1 : Int), .int .i64 (r.2.2.2 : Int)]) ∧ Below W.heap.size W w'
theorem bvs_dropped (l : List UInt8) (k : Nat) : (bvs l).drop k = bvs (l.drop k) := bvs_drop l k
/-- A block's cells (From and At 0). -/
def blkC (q : Nat × Nat × Nat × Nat × Nat) : List Value := [.int .i64 (q.1 : Int), .int .i64 (q.2.1 : Int), .int .i64 (q.2.2.1 : Int), .int .i64 (q.2.2.2.1 : Int), .int .u32 (q.2.2.2.2 : Int), .int .i64 0, .int .i64 0]
/-- What Get tells of bytes behind the first number. -/
def getB2 (l : List UInt8) (x : Nat) (y : Nat × Nat × Nat) : (Nat × Nat × Nat × Nat × Nat) × Nat × Nat :=
  if y.2.2 ≠ 0 then ((0, 0, 0, 0, 0), 0, y.2.2)
  else if x = 1 then (if l.length < 1 + y.2.1 + 4 then ((0, 0, 0, 0, 0), 0, 11) else ((0, y.1, 0, y.1, sum4 (l.drop (1 + y.2.1))), 1 + y.2.1 + 4, 0))
  else if (nbR (lget (l.drop (1 + y.2.1))) 0 (3 * y.1 + 64)).2.2 ≠ 0 then ((0, 0, 0, 0, 0), 0, (nbR (lget (l.drop (1 + y.2.1))) 0 (3 * y.1 + 64)).2.2)
  else if (nbR (lget (l.drop (1 + y.2.1 + (nbR (lget (l.drop (1 + y.2.1))) 0 (3 * y.1 + 64)).2.1))) 0 (y.1 - 1)).2.2 ≠ 0 then ((0, 0, 0, 0, 0), 0, (nbR (lget (l.drop (1 + y.2.1 + (nbR (lget (l.drop (1 + y.2.1))) 0 (3 * y.1 + 64)).2.1))) 0 (y.1 - 1)).2.2)
  else if l.length < 1 + y.2.1 + (nbR (lget (l.drop (1 + y.2.1))) 0 (3 * y.1 + 64)).2.1 + (nbR (lget (l.drop (1 + y.2.1 + (nbR (lget (l.drop (1 + y.2.1))) 0 (3 * y.1 + 64)).2.1))) 0 (y.1 - 1)).2.1 + 4 then ((0, 0, 0, 0, 0), 0, 11)
  else ((x - 1, y.1, (nbR (lget (l.drop (1 + y.2.1))) 0 (3 * y.1 + 64)).1, (nbR (lget (l.drop (1 + y.2.1 + (nbR (lget (l.drop (1 + y.2.1))) 0 (3 * y.1 + 64)).2.1))) 0 (y.1 - 1)).1,
    sum4 (l.drop (1 + y.2.1 + (nbR (lget (l.drop (1 + y.2.1))) 0 (3 * y.1 + 64)).2.1 + (nbR (lget (l.drop (1 + y.2.1 + (nbR (lget (l.drop (1 + y.2.1))) 0 (3 * y.1 + 64)).2.1))) 0 (y.1 - 1)).2.1))),
    1 + y.2.1 + (nbR (lget (l.drop (1 + y.2.1))) 0 (3 * y.1 + 64)).2.1 + (nbR (lget (l.drop (1 + y.2.1 + (nbR (lget (l.drop (1 + y.2.1))) 0 (3 * y.1 + 64)).2.1))) 0 (y.1 - 1)).2.1 + 4, 0)
/-- What Get tells of bytes. -/
def getB (l : List UInt8) (most : Nat) : (Nat × Nat × Nat × Nat × Nat) × Nat × Nat :=
  if l.length = 0 then ((0, 0, 0, 0, 0), 0, 11)
  else if (l.getD 0 0).toNat = 0 ∨ 6 < (l.getD 0 0).toNat then ((0, 0, 0, 0, 0), 0, 14)
  else getB2 l (l.getD 0 0).toNat (nbR (lget (l.drop 1)) 1 most)
def BGetOut (W : World) (r : (Nat × Nat × Nat × Nat × Nat) × Nat × Nat) (e : Ending) (w' : World) : Prop := e = .returned (.tuple #[.agg (blkC r.1).toArray, .int .i64 (r.2.1 : Int), .int .i64 (r.2.2 : Int)]) ∧ Below W.heap.size W w'
theorem set7 {w : World} {g : Nat} {t : TypeId} {u0 u1 u2 u3 u4 u5 u6 : Value} (h : Blk w g t [u0, u1, u2, u3, u4, u5, u6]) (v0 v1 v2 v3 v4 v5 v6 : Value) : Blk (((((((w.setCell ⟨g, 0, none⟩ v0).setCell ⟨g, 1, none⟩ v1).setCell ⟨g, 2, none⟩ v2).setCell ⟨g, 3, none⟩ v3).setCell ⟨g, 4, none⟩ v4).setCell ⟨g, 5, none⟩ v5).setCell ⟨g, 6, none⟩ v6) g t [v0, v1, v2, v3, v4, v5, v6] :=
  ((((((h.set_ 0 v0).set_ 1 v1).set_ 2 v2).set_ 3 v3).set_ 4 v4).set_ 5 v5).set_ 6 v6
theorem below7 {B g : Nat} {a w : World} (h : Below B a w) (hg : B ≤ g) (v0 v1 v2 v3 v4 v5 v6 : Value) : Below B a (((((((w.setCell ⟨g, 0, none⟩ v0).setCell ⟨g, 1, none⟩ v1).setCell ⟨g, 2, none⟩ v2).setCell ⟨g, 3, none⟩ v3).setCell ⟨g, 4, none⟩ v4).setCell ⟨g, 5, none⟩ v5).setCell ⟨g, 6, none⟩ v6) :=
  ((((((h.setCell (p := ⟨g, 0, none⟩) hg v0).setCell (p := ⟨g, 1, none⟩) hg v1).setCell (p := ⟨g, 2, none⟩) hg v2).setCell (p := ⟨g, 3, none⟩) hg v3).setCell (p := ⟨g, 4, none⟩) hg v4).setCell (p := ⟨g, 5, none⟩) hg v5).setCell (p := ⟨g, 6, none⟩) hg v6
theorem size_blk : (Try.prog.info? 37).map (·.size) = some 7 := by kernel_rfl
end Go.Proofs.Ytjignfnkcbklkaa
namespace Go.Proofs.Ytjignfnkcbklkaa
open Go.RowKit

theorem mayBk_nat {mo ra mi co most : Nat} (h : mayBk (mo : Int) (ra : Int) (mi : Int) (co : Int) (most : Int) = true) : mo ≤ 5 ∧ 1 ≤ ra ∧ ra ≤ most ∧ (mo = 0 → mi = 0 ∧ co = ra) ∧ (mo ≠ 0 → mi ≤ 3 * ra + 64 ∧ co < ra) := by
  unfold mayBk at h
  by_cases h0 : mo = 0
  · subst h0
    simp at h
    omega
  · rw [if_neg (by omega)] at h
    simp at h
    omega
theorem blkL_stored {mo ra mi co su : Nat} (h0 : mo = 0) : blkL mo ra mi co su = UInt8.ofNat (0 + 1) :: (lput ra ++ fourL su) := by
  subst h0
  rfl
theorem blkL_coded {mo ra mi co su : Nat} (h0 : mo ≠ 0) : blkL mo ra mi co su = UInt8.ofNat (mo + 1) :: (lput ra ++ (lput mi ++ (lput co ++ fourL su))) := by
  unfold blkL
  rw [if_pos (by omega)]
  simp
theorem endL_eq (n su : Nat) : endL n su = 0 :: (lput n ++ fourL su) := rfl
theorem lput_pow : ∀ (k n : Nat), n < 128 ^ (k + 1) → (lput n).length ≤ k + 1
  | 0, n, h => by
    rw [lput_small (by omega)]
    simp
  | k + 1, n, h => by
    by_cases hb : n < 128
    · rw [lput_small hb]
      simp
    · rw [lput_big hb, List.length_cons]
      have := lput_pow k (n / 128) (by rw [Nat.div_lt_iff_lt_mul (by decide), ← Nat.pow_succ]; exact h)
      omega
/-- A block has at most 17 bytes ahead, an end at most 11. -/
theorem blkL_len {mo ra mi co su : Nat} (hr : ra ≤ 16777216) (hm : mi ≤ 3 * ra + 64) (hc : co ≤ ra) : (blkL mo ra mi co su).length ≤ 17 := by
  have h1 := lput_pow 3 ra (by omega)
  have h2 := lput_pow 3 mi (by omega)
  have h3 := lput_pow 3 co (by omega)
  have h4 : (fourL su).length = 4 := rfl
  by_cases h0 : mo = 0
  · rw [blkL_stored h0, List.length_cons, List.length_append]
    omega
  · rw [blkL_coded h0]
    simp only [List.length_cons, List.length_append]
    omega
theorem endL_len {n su : Nat} (hn : n ≤ 1099511627776) : (endL n su).length ≤ 11 := by
  have h1 := lput_pow 5 n (by omega)
  have h4 : (fourL su).length = 4 := rfl
  rw [endL_eq, List.length_cons, List.length_append]
  omega
end Go.Proofs.Ytjignfnkcbklkaa
