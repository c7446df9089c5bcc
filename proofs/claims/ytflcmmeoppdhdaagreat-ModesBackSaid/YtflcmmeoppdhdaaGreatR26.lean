/-
  Layer 18: the program's decoder: take, begun, behind. · Layer 18: the program's decoder: out. · Layer 18: the program's decoder: letters. · Layer 16: what Get tells, share by share: plain mathematics.
-/
import Derived.Test.YtflcmmeoppdhdaaGreatR21
import Derived.Test.YtflcmmeoppdhdaaGreatR25
namespace Go.Proofs.YtflcmmeoppdhdaaGreat
open Go.RowKit Go.Sort

theorem size_u8R : (Tryz.prog.info? 5).map (·.size) = some 1 := by kernel_rfl
/-- The decoder at D: a state, the bytes that are left (below block K), whether one lacked. -/
def DecS (w : World) (D K x : Nat) (S : List UInt8) (sh : Bool) : Prop :=
  ∃ A n m, Blk w D 186 [.int .i64 (x : Int), .slice A n m, .bool sh] ∧ Rd w K A (bvs S) ∧ S.length = n ∧ n ≤ m ∧ n ≤ 1000000 ∧ K ≤ D
section
variable {w : World} {D K x : Nat} {S : List UInt8} {sh : Bool}
theorem DecS.below {w' : World} (h : DecS w D K x S sh) (hb : Below w.heap.size w w') : DecS w' D K x S sh := by
  obtain ⟨A, n, m, h1, h2, h3, h4, h5, h6⟩ := h
  exact ⟨A, n, m, h1.grow hb, h2.below (hb.mono (by have := h1.lt; omega)), h3, h4, h5, h6⟩
theorem DecS.lt (h : DecS w D K x S sh) : D < w.heap.size := by
  obtain ⟨A, n, m, h1, -⟩ := h
  exact h1.lt
theorem DecS.setX (h : DecS w D K x S sh) (y : Nat) : DecS (w.setCell ⟨D, 0, none⟩ (.int .i64 (y : Int))) D K y S sh ∧ TurnsB D D w (w.setCell ⟨D, 0, none⟩ (.int .i64 (y : Int))) := by
  obtain ⟨A, n, m, h1, h2, h3, h4, h5, h6⟩ := h
  exact ⟨⟨A, n, m, h1.set_ 0 _, h2.setCell h6 _, h3, h4, h5, h6⟩, TurnsB.set_ 0 _⟩
/-- What take turns. -/
def tkX (x : Nat) : List UInt8 → Nat
  | [] => x
  | b :: _ => 256 * x + b.toNat
def tkS : List UInt8 → Bool → Bool
  | [], _ => true
  | _ :: _, sh => sh
set_option maxHeartbeats 1000000 in
set_option maxRecDepth 100000 in
theorem ransTake_any (h : DecS w D K x S sh) (hx : x < 1000000000000) :
    Calls Tryz.prog 129 #[.pointer (some ⟨D, 0, none⟩)] w fun e w' => e = .returned (.tuple #[]) ∧ DecS w' D K (tkX x S) S.tail (tkS S sh) ∧ TurnsB D D w w' := by
  obtain ⟨A, n, m, hb, hr, hn, hnm, hn1, hK⟩ := h
  have hc0 := hb.cell 0
  have hc1 := hb.cell 1
  have hf0 := hb.frozen 0
  have hf1 := hb.frozen 1
  have hf2 := hb.frozen 2
  simp only [List.getElem?_cons_zero, List.getElem?_cons_succ] at hc0 hc1
  have HB := Lib.hid hb
  have HR := Lib.hid hr
  clear hb hr
  cases S with
  | nil =>
    obtain rfl : n = 0 := by rw [← hn]; rfl
    have hc2 := HB.out.cell 2
    simp only [List.getElem?_cons_zero, List.getElem?_cons_succ] at hc2
    clear hc0 hf0 hf1
    go_enter Tryz.func129, Tryz.ntmps129
    go_wp2
    (try simp only [Exit.inBlock, Exit.then]); refine bodyPost_ret (results_none rfl _ _ _) rfl ?_
    exact ⟨rfl, ⟨A, 0, m, HB.out.set_ 2 _, Rd.nil_ _ _ _, rfl, hnm, hn1, hK⟩, TurnsB.set_ 2 _⟩
  | cons b T =>
    have hTl : T.length + 1 = n := by rw [← hn]; rfl
    obtain ⟨ab, ao, rfl, hab, hcell⟩ := HR.out 0 (.int .u8 (b.toNat : Int)) (by simp [bvs])
    rw [Nat.add_zero] at hcell
    have hb8 := b.toNat_lt
    obtain ⟨bn, hbn⟩ : ∃ bn, bn = b.toNat := ⟨_, rfl⟩
    rw [← hbn] at hcell hb8
    obtain ⟨M, hM⟩ : ∃ M, M = x * 256 := ⟨_, rfl⟩
    obtain ⟨c, hc⟩ : ∃ c, c = 256 * x + bn := ⟨_, rfl⟩
    have hcx : c = tkX x (b :: T) := by rw [hc, hbn]; rfl
    have e1 : IntKind.i64.wrap ((x : Int) * 256) = (M : Int) := by rw [IntKind.wrap_i64]; omega
    have e2 : IntKind.i64.wrap ((M : Int) + (bn : Int)) = (c : Int) := by rw [IntKind.wrap_i64]; omega
    have e3 : IntKind.i64.wrap (bn : Int) = (bn : Int) := by rw [IntKind.wrap_i64]; omega
    have e4 : wrap64 ((x : Int) * 256) = (M : Int) := by rw [IntWalk.wrap64_in _ (by omega)]; omega
    have hn0 : ¬ (n : Int) = 0 := by omega
    have hn3 : (0 : Int) < (n : Int) := by omega
    have hn4 : 0 < n := by omega
    have hn5 : ¬ n = 0 := by omega
    have hDs := HB.out.lt
    rw [← hcx]
    clear hcx hbn hM hc
    go_enter Tryz.func129, Tryz.ntmps129
    go_wp2
    refine wp_region_still_tail 16 (by kernel_rfl) (by kernel_rfl) ?_
    simp only [List.take_succ_cons, List.take_zero, List.drop_succ_cons, List.drop_zero]
    repeat still_step
    refine wpStill_nil ?_
    change wpList _ _ _ _ _ w.drew
    have hb1 : Blk ((w.setCell ⟨D, 0, none⟩ (.int .i64 (c : Int))).drew) D 186 [.int .i64 (c : Int), .slice (some ⟨ab, ao, none⟩) n m, .bool sh] := (HB.out.set_ 0 _).drew_
    have hr1 : Rd ((w.setCell ⟨D, 0, none⟩ (.int .i64 (c : Int))).drew) K (some ⟨ab, ao, none⟩) (bvs (b :: T)) := (HR.out.setCell hK _).drew
    have HB1 := Lib.hid hb1
    have HR1 := Lib.hid hr1
    have HLN := Lib.hid (show (bvs (b :: T)).length = n by rw [bvs_length]; exact hn)
    clear hb1 hr1 hn3 hn4 hn5 hn0 hcell
    have h1n : 1 ≤ n := by omega
    go_wp2_with ((with_reducible show wpList _ _ _ (({ dst := some 32, op := _, type := _, pos := _, after := _, guard := _ } : Oper) :: _) _ _); go_must (refine wpList_from rfl (.tmp 31) (.const (.int .i64 1)) rfl Tryz.underlying22 size_u8R K _ n m 1 (bvs (b :: T)) rfl rfl HR1.out HLN.out hnm h1n ?_; intro A2 c2 hc2' hr2; rw [bvs_drop] at hr2))
    refine bodyPost_end (results_none rfl _ _ _) rfl ?_
    exact ⟨rfl, ⟨A2, n - 1, c2, (HB1.out.set_ 1 (.slice A2 (n - 1) c2)).same rfl, (hr2.setCell (by exact hK) _), by simp only [List.tail_cons]; omega, hc2', by omega, hK⟩, ((TurnsB.set_ 0 _).trans (TurnsB.set_ 1 _)).drew⟩
end
/-- So many bytes, taken one by one. -/
def tks : Nat → Nat → List UInt8 → Nat
  | 0, x, _ => x
  | k + 1, x, S => tks k (tkX x S) S.tail
theorem tks_be4 {S : List UInt8} (h : 4 ≤ S.length) : tks 4 0 S = be4V S := by
  obtain ⟨a, b, c, d, T, rfl⟩ : ∃ a b c d T, S = a :: b :: c :: d :: T := by
    match S, h with
    | a :: b :: c :: d :: T, _ => exact ⟨a, b, c, d, T, rfl⟩
  simp [tks, tkX, be4V]
/-- What holds at the head of a round of begun. -/
def BeRel (w : World) (D K : Nat) (S : List UInt8) (i : Value) (wr : World) : Prop :=
  ∃ (j xj : Nat), j ≤ 4 ∧ i = .int .i64 (j : Int) ∧ xj < 256 ^ j ∧ tks (4 - j) xj (S.drop j) = tks 4 0 S ∧ DecS wr D K xj (S.drop j) (decide (S.length < j)) ∧ Below w.heap.size w wr
set_option maxHeartbeats 1000000 in
set_option maxRecDepth 100000 in
theorem ransBegun_any {w : World} {K n m : Nat} {A : Option Addr} {S : List UInt8} (hr : Rd w K A (bvs S)) (hK : K ≤ w.heap.size) (hn : S.length = n) (hnm : n ≤ m) (hn1 : n ≤ 1000000) :
    Calls Tryz.prog 85 #[.slice A n m] w fun e w' => ∃ D, e = .returned (.pointer (some ⟨D, 0, none⟩)) ∧ w.heap.size ≤ D ∧ DecS w' D K (tks 4 0 S) (S.drop 4) (decide (S.length < 4)) ∧ Below w.heap.size w w' := by
  have hb := (Below.refl w.heap.size w).alloc (Nat.le_refl _) (.cells #[.int .i64 0, .slice A n m, .bool false] 186)
  have hk : Blk (w.alloc (.cells #[.int .i64 0, .slice A n m, .bool false] 186)) w.heap.size 186 [.int .i64 ((0 : Nat) : Int), .slice A n m, .bool false] := heap_alloc_new w _
  have HREL := Lib.hid (show BeRel w w.heap.size K S (.int .i64 ((0 : Nat) : Int)) (w.alloc (.cells #[.int .i64 0, .slice A n m, .bool false] 186)) from ⟨0, 0, Nat.zero_le _, rfl, by decide, rfl, ⟨A, n, m, by simpa using hk, by rw [List.drop_zero]; exact hr.below (hb.mono hK), by rw [List.drop_zero]; exact hn, hnm, hn1, hK⟩, hb⟩)
  clear hr hK hn hnm hn1 hb hk
  go_enter Tryz.func85, Tryz.ntmps85
  go_wp2
  go_loopw [7] (BeRel w w.heap.size K S) (fun i _ => 4 - (intOf i).toNat)
  case atStart => exact HREL.out
  case round =>
    clear HREL
    obtain ⟨j, xj, hj, rfl, hxj, ht, hd, hb⟩ := hrel
    have hx4 : xj < 1000000000000 := Nat.lt_of_lt_of_le hxj (Nat.le_trans (Nat.pow_le_pow_right (n := 256) (by decide) hj) (by decide))
    by_cases hlt : j < 4
    · have C := Lib.hid (ransTake_any hd hx4)
      have hxn : tkX xj (S.drop j) < 256 ^ (j + 1) := by
        rw [Nat.pow_succ]
        cases hS : S.drop j with
        | nil => simp only [tkX]; omega
        | cons b T => have := b.toNat_lt; simp only [tkX]; omega
      have htn : tks (4 - (j + 1)) (tkX xj (S.drop j)) (S.drop (j + 1)) = tks 4 0 S := by
        rw [← ht, show 4 - j = (4 - (j + 1)) + 1 by omega, tks, List.tail_drop]
      have hsn : tkS (S.drop j) (decide (S.length < j)) = decide (S.length < j + 1) := by
        cases hS : S.drop j with
        | nil =>
          have h1 : S.length ≤ j := List.drop_eq_nil_iff.1 hS
          simp only [tkS]; symm; simp; omega
        | cons b T =>
          have h1 : j < S.length := by
            rcases Nat.lt_or_ge j S.length with h | h
            · exact h
            · rw [List.drop_of_length_le h] at hS; cases hS
          simp only [tkS]
          rw [decide_eq_false (by omega), decide_eq_false (by omega)]
      have HH := Lib.hid (And.intro hxn (And.intro htn (And.intro hsn (And.intro hb (show w.heap.size ≤ w.heap.size from Nat.le_refl _)))))
      have hji : (j : Int) < 4 := by omega
      clear ht hd hb hxn htn hsn hxj hx4
      go_wp2_with fail
      refine C.out.mono ?_
      rintro _ w5 ⟨rfl, hd5, ht5⟩
      rw [HH.out.2.2.1, List.tail_drop] at hd5
      have HD := Lib.hid (And.intro hd5 (HH.out.2.2.2.1.trans (ht5.below (Nat.le_refl _) (Nat.le_refl _) HH.out.2.2.2.1.size)))
      clear hd5 ht5 C
      go_wp2
      go_roundw
      case rel => exact ⟨j + 1, _, by omega, by go_num, HH.out.1, HH.out.2.1, HD.out.1, HD.out.2⟩
      case measure => simp [intOf]; omega
    · obtain rfl : j = 4 := by omega
      rw [Nat.sub_self, tks] at ht
      subst ht
      have HD := Lib.hid (And.intro hd hb)
      clear hd hb hx4 hxj
      go_wp2
      go_ret
      exact ⟨_, rfl, Nat.le_refl _, HD.out.1, HD.out.2⟩
set_option maxHeartbeats 1000000 in
set_option maxRecDepth 100000 in
theorem ransBehind_any {w : World} {B n m k : Nat} {A : Option Addr} {l : List UInt8} (hr : Rd w B A (bvs l)) (hn : l.length = n) (hnm : n ≤ m) (hk : k ≤ n) :
    Calls Tryz.prog 86 #[.slice A n m, .int .i64 (k : Int)] w fun e w' => ∃ A', e = .returned (.slice A' (n - k) (n - k)) ∧ Rd w B A' (bvs (l.drop k)) ∧ w' = w := by
  have hki : (k : Int) ≤ (n : Int) := by omega
  have hnmi : (n : Int) ≤ (m : Int) := by omega
  have hk0 : (0 : Int) ≤ (k : Int) := by omega
  have HR := Lib.hid hr
  go_enter Tryz.func86, Tryz.ntmps86
  go_wp2
  case inl =>
    go_ret
    exact ⟨A, rfl, by rw [List.drop_of_length_le (by omega)]; exact Rd.nil_ _ _ _, rfl⟩
  case inr =>
    go_ret
    exact ⟨_, rfl, by have h2 := HR.out.drop k; rw [bvs_drop] at h2; exact h2, rfl⟩
end Go.Proofs.YtflcmmeoppdhdaaGreat
namespace Go.Proofs.YtflcmmeoppdhdaaGreat
open Go.RowKit Go.Sort

theorem fill_range : ∀ (S : List UInt8) (x x' : Nat) (S' : List UInt8), fill x S = some (x', S') → 8388608 ≤ x' ∧ (x < 2147483648 → x' < 2147483648)
  | [], x, x', S', h => by
    unfold fill at h
    split at h
    · injection h with h; injection h with h1 h2; subst h1; exact ⟨by assumption, id⟩
    · cases h
  | b :: S, x, x', S', h => by
    by_cases hx : 8388608 ≤ x
    · rw [fill_stop _ hx] at h
      injection h with h; injection h with h1 h2; subst h1; exact ⟨hx, id⟩
    · rw [fill_next b S (by omega)] at h
      obtain ⟨h1, h2⟩ := fill_range S _ _ _ h
      exact ⟨h1, fun _ => h2 (by have := b.toNat_lt; omega)⟩
/-- How many takes are left, as the world has it. -/
def decM (w : World) (D : Nat) : Nat := match w.cell? ⟨D, 1, none⟩, w.cell? ⟨D, 2, none⟩ with
  | some (.slice _ n _), some (.bool sh) => n + if sh then 0 else 1
  | _, _ => 0
theorem DecS.m {w : World} {D K x : Nat} {S : List UInt8} {sh : Bool} (h : DecS w D K x S sh) : decM w D = S.length + if sh then 0 else 1 := by
  obtain ⟨A, n, m, hb, -, hn, -⟩ := h
  have h1 := hb.cell 1
  have h2 := hb.cell 2
  simp only [List.getElem?_cons_zero, List.getElem?_cons_succ] at h1 h2
  unfold decM
  rw [h1, h2, hn]
theorem blk_ne18 {w : World} {g g' : Nat} {t t' : TypeId} {cs cs' : List Value} (h : Blk w g t cs) (h' : Blk w g' t' cs') (hne : t ≠ t') : g ≠ g' := fun e => by
  subst e
  exact h.ofType.ne hne h'.ofType
theorem IsSlots.turn {w w' : World} {P b T D K x : Nat} {c : List Int} {S : List UInt8} {sh : Bool} (h : IsSlots w P c b T) (hd : DecS w D K x S sh) (ht : TurnsB D D w w') : IsSlots w' P c b T := by
  obtain ⟨⟨F, H, h1⟩, h2⟩ := h
  obtain ⟨A, n, m, hb, -⟩ := hd
  have k1 := blk_ne18 h1.pb hb (by decide)
  have k2 := blk_ne18 h1.fb hb (by decide)
  have k3 := blk_ne18 h1.hb hb (by decide)
  exact ⟨⟨F, H, ht.blk h1.pb k1 k1, ht.blk h1.fb k2 k2, ht.blk h1.hb k3 k3⟩, h2⟩
/-- What out leaves of the decoder. -/
def OutD (w : World) (D K : Nat) : Option (Nat × List UInt8) → Prop
  | some p => DecS w D K p.1 p.2 false
  | none => ∃ x S, DecS w D K x S true
/-- What holds at the head of a round of out. -/
def OuRel (w : World) (D K : Nat) (R : Option (Nat × List UInt8)) (wr : World) : Prop :=
  ∃ (x1 : Nat) (S1 : List UInt8) (sh : Bool), ((sh = false ∧ fill x1 S1 = R) ∨ (sh = true ∧ R = none ∧ x1 < 8388608)) ∧ x1 < 2147483648 ∧ DecS wr D K x1 S1 sh ∧ TurnsB D D w wr
/-- The letter that comes out. -/
theorem letOf_is {w : World} {P : Nat} {r : List Int} (h : IsSlots w P r 12 4096) (x : Nat) : fFind r ((x % 4096 : Nat) : Int) = some (letOf r x) ∧ letOf r x < r.length ∧ fPre r (letOf r x) ≤ ((x % 4096 : Nat) : Int) := by
  obtain ⟨-, hnn, hs, -, -⟩ := h
  obtain ⟨k, h1, h2, h3, -⟩ := fFind_all hnn (v := ((x % 4096 : Nat) : Int)) (by omega) (by rw [hs]; omega)
  have e : letOf r x = k := by unfold letOf; rw [h1]; rfl
  rw [e]
  exact ⟨h1, h2, h3⟩
set_option maxHeartbeats 4000000 in
set_option maxRecDepth 100000 in
theorem ransOut_any {w : World} {D K x P : Nat} {S : List UInt8} {r : List Int} (h : DecS w D K x S false) (hx : x < 2147483648) (hs : IsSlots w P r 12 4096) (hl : r.length = 256) :
    Calls Tryz.prog 130 #[.pointer (some ⟨D, 0, none⟩), .pointer (some ⟨P, 0, none⟩)] w fun e w' => e = .returned (.int .u8 (letOf r x : Int)) ∧ OutD w' D K (fill (outY r x) S) ∧ TurnsB D D w w' ∧ outY r x < 2147483648 := by
  obtain ⟨l1, l2, l3⟩ := letOf_is hs x
  have hnn := hs.2.1
  have hsum := hs.2.2.1
  have C1 := Lib.hid (slotLetter_any ((x % 4096 : Nat) : Int) hs)
  rw [l1] at C1
  have C2 := Lib.hid (slotOf_at (letOf r x) hs l2)
  have hp0 := fPre_nn hnn (letOf r x)
  have hg0 : 0 ≤ r[letOf r x] := hnn _ (List.getElem_mem l2)
  have hgm : r[letOf r x] ≤ 4096 := by have := le_sum12 hnn l2; omega
  have hrb : r.getD (letOf r x) 0 = r[letOf r x] := by simp [List.getD_eq_getElem?_getD, l2]
  have hoy : outY r x = (r.getD (letOf r x) 0).toNat * (x / 4096) + x % 4096 - (fPre r (letOf r x)).toNat := rfl
  obtain ⟨k, hk⟩ : ∃ k, k = letOf r x := ⟨_, rfl⟩
  obtain ⟨f, hf⟩ : ∃ f, f = (fPre r k).toNat := ⟨_, rfl⟩
  obtain ⟨s, hsv⟩ : ∃ s, s = (r.getD k 0).toNat := ⟨_, rfl⟩
  obtain ⟨v, hv⟩ : ∃ v, v = x % 4096 := ⟨_, rfl⟩
  obtain ⟨q, hq⟩ : ∃ q, q = x / 4096 := ⟨_, rfl⟩
  obtain ⟨Y, hY⟩ : ∃ Y, Y = outY r x := ⟨_, rfl⟩
  simp only [← hk] at C1 C2 hp0 hg0 hgm hrb hoy l2 l3 ⊢
  have hfi : fPre r k = (f : Int) := by omega
  have hsi : r[k] = (s : Int) := by rw [hsv, hrb]; omega
  rw [hfi, hsi] at C2
  rw [← hsv, ← hf, ← hv, ← hq] at hoy
  rw [← hv] at C1 l3
  have hfv : f ≤ v := by omega
  have hq5 : q < 524288 := by omega
  have hs4 : s ≤ 4096 := by omega
  have hqs : s * q ≤ 4096 * 524287 := Nat.mul_le_mul hs4 (by omega)
  obtain ⟨a, ha⟩ : ∃ a, a = s * q := ⟨_, rfl⟩
  rw [← ha] at hqs hoy
  have hYe : Y = a + v - f := by rw [hY, hoy]
  have hY31 : Y < 2147483648 := by omega
  have hk256 : k < 256 := by omega
  have e1 : (x : Int) % 4096 = (v : Int) := by omega
  have e1t : (x : Int).tmod 4096 = (v : Int) := by rw [Int.tmod_eq_emod_of_nonneg (by omega)]; exact e1
  have e2 : (x : Int) / 4096 = (q : Int) := by omega
  have e3 : IntKind.i64.wrap ((q : Int) * (s : Int)) = (a : Int) := by
    have e : (q : Int) * (s : Int) = (a : Int) := by rw [ha, Int.natCast_mul, Int.mul_comm]
    rw [e, IntKind.wrap_i64]; omega
  have e4 : IntKind.i64.wrap ((a : Int) + (v : Int)) = (a : Int) + (v : Int) := by rw [IntKind.wrap_i64]; omega
  have e5 : wrap64 ((a : Int) + (v : Int) - (f : Int)) = (Y : Int) := by rw [IntWalk.wrap64_in _ (by omega)]; omega
  have e6 : IntKind.u8.wrap (k : Int) = (k : Int) := by rw [IntKind.wrap_u8]; omega
  have eq0 : IntKind.i64.wrap (q : Int) = (q : Int) := by rw [IntKind.wrap_i64]; omega
  rw [← hY]
  obtain ⟨R, hR⟩ : ∃ R, R = fill Y S := ⟨_, rfl⟩
  rw [← hR]
  have HH := Lib.hid h
  have HR := Lib.hid (And.intro hR (And.intro hY31 (show TurnsB D D w w from TurnsB.refl _ _ _)))
  have HE := Lib.hid (And.intro e2 (And.intro e3 (And.intro e4 (And.intro e5 eq0))))
  have HE6 := Lib.hid e6
  obtain ⟨A, n, m, hb, -⟩ := h
  have hc0 := hb.cell 0
  have hDs := hb.lt
  simp only [List.getElem?_cons_zero] at hc0
  unfold findV at C1
  simp only at C1
  clear hs l1 l2 l3 hnn hsum hp0 hg0 hgm hrb hoy hk hf hsv hv hq hY hfi hsi hfv hq5 hs4 hqs ha hYe hb e2 e3 e4 e5 e6 eq0 hR hY31
  go_enter Tryz.func130, Tryz.ntmps130
  go_wp2_with fail
  refine C1.out.mono ?_
  rintro _ w0 ⟨rfl, hw0⟩
  subst w0
  go_wp2_with fail
  refine C2.out.mono ?_
  rintro _ w2 ⟨rfl, hb2⟩
  have hd2 := HH.out.below hb2
  obtain ⟨A2, n2, m2, hbl2, -⟩ := id hd2
  have hc0 := hbl2.cell 0
  have hf0 := hbl2.frozen 0
  have hDs2 := hbl2.lt
  simp only [List.getElem?_cons_zero] at hc0
  obtain ⟨g2, g3, g4, g5, g0⟩ := HE.out
  obtain ⟨hd3, ht3⟩ := hd2.setX Y
  have HREL := Lib.hid (show OuRel w D K R (w2.setCell ⟨D, 0, none⟩ (.int .i64 (Y : Int))) from ⟨Y, S, false, .inl ⟨rfl, HR.out.1.symm⟩, HR.out.2.1, hd3, (TurnsB.of_below hb2).trans ht3⟩)
  clear hd2 hbl2 hb2 hd3 ht3 C1 C2 HH HE
  go_wp2
  clear g2 g3 g4 g5 g0 hc0 hf0 e1 e1t
  go_loopw [] (OuRel w D K R) (fun wr => decM wr D)
  case atStart => exact HREL.out
  case round =>
    clear HREL
    obtain ⟨x1, S1, sh, hcase, hx1, hd, ht⟩ := hrel
    have hm := hd.m
    obtain ⟨A3, n3, m3, hbl3, -⟩ := id hd
    have hc0 := hbl3.cell 0
    have hc2 := hbl3.cell 2
    have hDs3 := hbl3.lt
    simp only [List.getElem?_cons_zero, List.getElem?_cons_succ] at hc0 hc2
    have HT := Lib.hid ht
    have HM := Lib.hid hm
    have HD := Lib.hid hd
    clear hbl3 hm ht
    by_cases hlt : x1 < 8388608
    · have hli : (x1 : Int) < 8388608 := by omega
      cases sh with
      | false =>
        have hfl : fill x1 S1 = R := by
          rcases hcase with ⟨-, h⟩ | ⟨h, -⟩
          · exact h
          · cases h
        have C := Lib.hid (ransTake_any hd (by omega))
        have HF := Lib.hid hfl
        clear hcase hfl hd
        go_wp2_with fail
        refine C.out.mono ?_
        rintro _ w5 ⟨rfl, hd5, ht5⟩
        have hm5 := hd5.m
        have HT5 := Lib.hid (HT.out.trans ht5)
        clear C ht5 hc0 hc2
        cases S1 with
        | nil =>
          have hR : R = none := by rw [← HF.out]; exact fill_none hlt
          have HD5 := Lib.hid hd5
          have HM5 := Lib.hid hm5
          clear hd5 hm5
          go_wp2
          go_roundw
          case rel => exact ⟨x1, [], true, .inr ⟨rfl, hR, hlt⟩, hx1, HD5.out, HT5.out⟩
          case measure => rw [HM5.out, HM.out]; simp [tkS]
        | cons b T =>
          have hR : fill (256 * x1 + b.toNat) T = R := by rw [← HF.out]; exact (fill_next b T hlt).symm
          have hb8 := b.toNat_lt
          have HD5 := Lib.hid hd5
          have HM5 := Lib.hid hm5
          have hx2 : 256 * x1 + b.toNat < 2147483648 := by omega
          clear hd5 hm5
          go_wp2
          go_roundw
          case rel => exact ⟨256 * x1 + b.toNat, T, false, .inl ⟨rfl, hR⟩, hx2, HD5.out, HT5.out⟩
          case measure => rw [HM5.out, HM.out]; simp [tkS]
      | true =>
        have hRn : R = none := by
          rcases hcase with ⟨h, -⟩ | ⟨-, h, -⟩
          · cases h
          · exact h
        clear hcase hd
        have e6 := HE6.out
        go_wp2
        go_ret
        exact ⟨rfl, ⟨_, _, HD.out⟩, HT.out, HR.out.2.1⟩
    · have hli : ¬ (x1 : Int) < 8388608 := by omega
      have hlib : decide ((x1 : Int) < 8388608) = false := by simp; omega
      have hfl : sh = false ∧ fill x1 S1 = R := by
        rcases hcase with h | ⟨-, -, h⟩
        · exact h
        · exact absurd h hlt
      obtain ⟨rfl, hfl⟩ := hfl
      have hRs : R = some (x1, S1) := by rw [← hfl]; exact fill_stop _ (by omega)
      clear hcase hd hfl
      have e6 := HE6.out
      go_wp2
      go_ret
      exact ⟨rfl, HD.out, HT.out, HR.out.2.1⟩
end Go.Proofs.YtflcmmeoppdhdaaGreat
namespace Go.Proofs.YtflcmmeoppdhdaaGreat
open Go.RowKit Go.Sort

/-- What letters tells, of a decoder. -/
def tellD (r : List Int) (n x : Nat) (S : List UInt8) (sh : Bool) : Option (List UInt8) :=
  if sh = true ∨ x < 8388608 ∨ 2147483648 ≤ x then none else (lets r n x S).bind fun q => if q.2.1 = 8388608 ∧ q.2.2 = [] then some q.1 else none
theorem tellD_is (r : List Int) (n : Nat) (S : List UInt8) : tellD r n (tks 4 0 S) (S.drop 4) (decide (S.length < 4)) = tellF r n S := by
  unfold tellD tellF
  by_cases h : S.length < 4
  · rw [if_pos (.inl (by simpa using h)), if_pos (.inl h)]
  · rw [tks_be4 (by omega)]
    have e : (decide (S.length < 4) = true ∨ be4V S < 8388608 ∨ 2147483648 ≤ be4V S) ↔ (S.length < 4 ∨ be4V S < 8388608 ∨ 2147483648 ≤ be4V S) := by simp
    simp only [e]
/-- What letters answers: the bytes and true, or false. -/
def LetSays (w : World) (D : Nat) (R : Option (List UInt8)) (e : Ending) (w' : World) : Prop :=
  TurnsB D D w w' ∧ match R with
    | some X => ∃ v, e = .returned (.tuple #[v, .bool true]) ∧ IsBytes X v w'
    | none => ∃ v, e = .returned (.tuple #[v, .bool false])
theorem DecS.belowB {w w' : World} {D K x B : Nat} {S : List UInt8} {sh : Bool} (h : DecS w D K x S sh) (hb : Below B w w') (hD : D < B) : DecS w' D K x S sh := by
  obtain ⟨A, n, m, h1, h2, h3, h4, h5, h6⟩ := h
  exact ⟨A, n, m, (hb.block _ hD).trans h1, h2.below (hb.mono (by omega)), h3, h4, h5, h6⟩
/-- What holds at the head of a round of letters. -/
def LeRel (w : World) (D K n : Nat) (r : List Int) (R : Option (List UInt8 × Nat × List UInt8)) (bv iv : Value) (wr : World) : Prop :=
  ∃ (j x1 : Nat) (S1 X : List UInt8), j ≤ n ∧ iv = .int .i64 (j : Int) ∧ X.length = j ∧ (lets r (n - j) x1 S1).map (fun q => (X ++ q.1, q.2)) = R ∧ 8388608 ≤ x1 ∧ x1 < 2147483648 ∧ DecS wr D K x1 S1 false ∧ wr.ownsRow w.heap.size 5 1 bv j (bvs X) ∧ TurnsB D D w wr
set_option maxHeartbeats 4000000 in
set_option maxRecDepth 100000 in
theorem ransLetters_any {w : World} {D K x n P : Nat} {S : List UInt8} {sh : Bool} {r : List Int} (h : DecS w D K x S sh) (hs : IsSlots w P r 12 4096) (hl : r.length = 256) (hn : n ≤ 100000) :
    Calls Tryz.prog 87 #[.pointer (some ⟨D, 0, none⟩), .pointer (some ⟨P, 0, none⟩), .int .i64 (n : Int)] w (LetSays w D (tellD r n x S sh)) := by
  obtain ⟨i0, hi0, hz0, hz1, hz2⟩ := info_parts info_u8r
  have hDs := h.lt
  obtain ⟨A, n0, m0, hb, -⟩ := id h
  have hc0 := hb.cell 0
  have hc2 := hb.cell 2
  simp only [List.getElem?_cons_zero, List.getElem?_cons_succ] at hc0 hc2
  by_cases hbad : sh = true ∨ x < 8388608 ∨ 2147483648 ≤ x
  · have ht : tellD r n x S sh = none := by unfold tellD; rw [if_pos hbad]
    rw [ht]
    have HT := Lib.hid (show LetSays w D none (.returned (.tuple #[.slice none 0 0, .bool false])) w from ⟨TurnsB.refl _ _ _, _, rfl⟩)
    clear h hs hb ht
    cases sh with
    | true =>
      clear hbad hc0
      go_enter Tryz.func87, Tryz.ntmps87
      go_wp2
      go_ret2
      exact HT.out
    | false =>
      by_cases h1 : x < 8388608
      · have h1i : (x : Int) < 8388608 := by omega
        clear hbad
        go_enter Tryz.func87, Tryz.ntmps87
        go_wp2
        go_ret2
        exact HT.out
      · have h1i : ¬ (x : Int) < 8388608 := by omega
        have h2i : (2147483648 : Int) ≤ (x : Int) := by
          rcases hbad with h | h | h
          · cases h
          · exact absurd h h1
          · omega
        clear hbad h1
        go_enter Tryz.func87, Tryz.ntmps87
        go_wp2
        go_ret2
        exact HT.out
  · obtain ⟨rfl, h1, h2⟩ : sh = false ∧ 8388608 ≤ x ∧ x < 2147483648 := by
      refine ⟨?_, by omega, by omega⟩
      cases sh with
      | true => exact absurd (.inl rfl) hbad
      | false => rfl
    have h1i : ¬ (x : Int) < 8388608 := by omega
    have h2i : ¬ (2147483648 : Int) ≤ (x : Int) := by omega
    have ht : tellD r n x S false = (lets r n x S).bind fun q => if q.2.1 = 8388608 ∧ q.2.2 = [] then some q.1 else none := by unfold tellD; rw [if_neg hbad]
    obtain ⟨R, hR⟩ : ∃ R, R = lets r n x S := ⟨_, rfl⟩
    rw [← hR] at ht
    rw [ht]
    have HL := Lib.hid hl
    have HREL := Lib.hid (show LeRel w D K n r R (.slice none 0 0) (.int .i64 ((0 : Nat) : Int)) w from ⟨0, x, S, [], Nat.zero_le _, rfl, rfl, by rw [hR, Nat.sub_zero]; simp, h1, h2, h, World.ownsRow_nil _ _ _ _, TurnsB.refl _ _ _⟩)
    have HS := Lib.hid (And.intro hs h)
    clear h hs hb ht hR hbad h1 h2 hl
    go_enter Tryz.func87, Tryz.ntmps87
    go_wp2
    clear hc0 hc2
    go_loopw [8, 28] (LeRel w D K n r R) (fun _ i _ => n - (intOf i).toNat)
    case atStart => exact HREL.out
    case round =>
      clear HREL
      obtain ⟨j, x1, S1, X, hj, rfl, hX, hlets, hx1, hx2, hd, hown, htb⟩ := hrel
      have hsl := HS.out.1.turn HS.out.2 htb
      obtain ⟨Ab, cb, rfl, -, -, -⟩ := own_form hown
      have hDw := hd.lt
      by_cases hlt : j < n
      · obtain ⟨t, htt⟩ : ∃ t, n - j = t + 1 := ⟨n - j - 1, by omega⟩
        have htn : n - (j + 1) = t := by omega
        rw [htt] at hlets
        have C := Lib.hid (ransOut_any hd hx2 hsl HL.out)
        obtain ⟨-, lk, -⟩ := letOf_is hsl x1
        simp only [lets] at hlets
        have hk256 : letOf r x1 < 256 := by rw [HL.out] at lk; exact lk
        obtain ⟨F, hF⟩ : ∃ F, F = fill (outY r x1) S1 := ⟨_, rfl⟩
        rw [← hF] at hlets C
        obtain ⟨k, hk⟩ : ∃ k, k = letOf r x1 := ⟨_, rfl⟩
        rw [← hk] at C hk256 hlets
        have hji : (j : Int) < (n : Int) := by omega
        have HF := Lib.hid hF
        have HLE := Lib.hid hlets
        have HSL := Lib.hid hsl
        have HD := Lib.hid hd
        have HOWN := Lib.hid hown
        have HTB := Lib.hid htb
        have HJ := Lib.hid (And.intro hX (And.intro htn hlt))
        clear lk hF hk hlets hsl hd hown htb hX htt htn
        go_wp2_with fail
        refine C.out.mono ?_
        rintro _ w5 ⟨rfl, hod, ht5, hY⟩
        have HOWN5 := Lib.hid (own_turns (T := D) (S := D) HOWN.out ht5 hDs hDs)
        have HTB5 := Lib.hid (HTB.out.trans ht5)
        have hsz5 := HTB5.out.size
        have HY := Lib.hid hY
        have hjb : j ≤ 100000 := by omega
        clear ht5 hY C HOWN HTB HD HSL
        cases F with
        | none =>
          have hRn : R = none := by have := HLE.out; simp only [Option.bind_none, Option.map_none] at this; exact this.symm
          obtain ⟨x6, S6, hd6⟩ := hod
          have HD6 := Lib.hid hd6
          clear hd6
          go_wp2_with ((with_reducible show wpList _ _ _ (({ dst := some 35, op := _, type := _, pos := _, after := _, guard := _ } : Oper) :: _) _ _); go_must (refine wpList_app rfl (.tmp 30) (.tmp 34) 22 rfl w.heap.size 5 i0 (.int .u8 0) 1 1 Tryz.underlying22 hi0 hz0 hz1 hz2 rfl (by decide) _ _ _ rfl (HOWN5.out.alloc _) _ _ 1 1 _ rfl (Rd.new _ _ _) rfl (by intro u hu; simp at hu; subst hu; rfl) (by simp only [maxLen]; omega) (by omega) (by simp; omega) ?_; intro v6 w6 hown6 hg6; have hrow := own_block HOWN5.out; have ht6 := (HTB5.out.allocO (.cells #[.int .u8 (k : Int)] 5)).growO hg6 hrow; have hb6 : Below w.heap.size w5 w6 := ((Below.refl _ _).alloc hsz5 _).grown hg6 (by simp; omega) hrow; obtain ⟨A6, n6, m6, hbl6, -⟩ := HD6.out.belowB hb6 hDs; have hc6 := hbl6.cell 2; simp only [List.getElem?_cons_zero, List.getElem?_cons_succ] at hc6; have HT6 := Lib.hid ht6; have hD6s := hbl6.lt; clear hown6 hg6 hrow ht6 hb6 hbl6))
          go_wp2
          go_ret2
          refine ⟨HT6.out, ?_⟩
          rw [hRn]
          exact ⟨_, rfl⟩
        | some p =>
          obtain ⟨x2, S2⟩ := p
          have hR2 : (lets r (n - (j + 1)) x2 S2).map (fun q => ((X ++ [UInt8.ofNat k]) ++ q.1, q.2)) = R := by
            have := HLE.out
            simp only [Option.bind_some, Option.map_map] at this
            rw [HJ.out.2.1, ← this]
            congr 1
            funext q
            simp
          have hd5 : DecS w5 D K x2 S2 false := hod
          have hrg := fill_range _ _ _ _ HF.out.symm
          have HD6 := Lib.hid hd5
          have HR2 := Lib.hid (And.intro hR2 (And.intro hrg.1 (hrg.2 HY.out)))
          clear hd5 hR2 hrg hod
          go_wp2_with ((with_reducible show wpList _ _ _ (({ dst := some 35, op := _, type := _, pos := _, after := _, guard := _ } : Oper) :: _) _ _); go_must (refine wpList_app rfl (.tmp 30) (.tmp 34) 22 rfl w.heap.size 5 i0 (.int .u8 0) 1 1 Tryz.underlying22 hi0 hz0 hz1 hz2 rfl (by decide) _ _ _ rfl (HOWN5.out.alloc _) _ _ 1 1 _ rfl (Rd.new _ _ _) rfl (by intro u hu; simp at hu; subst hu; rfl) (by simp only [maxLen]; omega) (by omega) (by simp; omega) ?_; intro v6 w6 hown6 hg6; have hrow := own_block HOWN5.out; have ht6 := (HTB5.out.allocO (.cells #[.int .u8 (k : Int)] 5)).growO hg6 hrow; have hb6 : Below w.heap.size w5 w6 := ((Below.refl _ _).alloc hsz5 _).grown hg6 (by simp; omega) hrow; have hd7 := HD6.out.belowB hb6 hDs; obtain ⟨A6, n6, m6, hbl6, -⟩ := id hd7; have hc6 := hbl6.cell 2; simp only [List.getElem?_cons_zero, List.getElem?_cons_succ] at hc6; have HT6 := Lib.hid ht6; have HD7 := Lib.hid hd7; have HO6 := Lib.hid hown6; have hD6s := hbl6.lt; clear hown6 hg6 hrow ht6 hb6 hbl6 hd7))
          have hbv : bvs (X ++ [UInt8.ofNat k]) = bvs X ++ [.int .u8 (k : Int)] := by simp [bvs, UInt8.toNat_ofNat', Nat.mod_eq_of_lt hk256]
          go_wp2
          go_roundw
          case rel => exact ⟨j + 1, x2, S2, X ++ [UInt8.ofNat k], by have := HJ.out.2.2; omega, by go_num, by rw [List.length_append, List.length_singleton, HJ.out.1], HR2.out.1, HR2.out.2.1, HR2.out.2.2, HD7.out, by rw [hbv]; exact HO6.out, HT6.out⟩
          case measure => have := HJ.out.2.2; simp [intOf]; omega
      · obtain rfl : j = n := by omega
        rw [Nat.sub_self] at hlets
        simp only [lets, Option.map_some, List.append_nil] at hlets
        subst hlets
        obtain ⟨A3, n3, m3, hbl3, -, hn3, -⟩ := id hd
        have hc0 := hbl3.cell 0
        have hc1 := hbl3.cell 1
        simp only [List.getElem?_cons_zero, List.getElem?_cons_succ] at hc0 hc1
        have HO := Lib.hid hown
        have HT := Lib.hid htb
        have hlX := hX
        clear hd hown htb hbl3 hsl hlt
        by_cases hxe : x1 = 8388608
        · subst hxe
          cases S1 with
          | nil =>
            obtain rfl : n3 = 0 := by rw [← hn3]; rfl
            have HE := Lib.hid (fun (W : World) (hW : W.heap = wr.heap) (ht : TurnsB D D w W) => show LetSays w D ((some (X, 8388608, ([] : List UInt8))).bind fun q => if q.2.1 = 8388608 ∧ q.2.2 = [] then some q.1 else none) (.returned (.tuple #[.slice Ab j cb, .bool true])) W from ⟨ht, by
              simp only [Option.bind_some, and_self, if_true]
              refine ⟨_, rfl, ?_⟩
              have h2 : W.ownsRow w.heap.size 5 1 (.slice Ab X.length cb) X.length (bvs X) := by
                rw [hlX]
                refine ⟨HO.out.1, ?_⟩
                rw [hW]; exact HO.out.2
              have h3 := IsBytes.of_own h2
              rw [hlX] at h3
              exact h3⟩)
            clear hlX
            go_wp2
            go_quiet (fail)
            go_wp2
            go_ret2
            exact HE.out _ rfl ⟨HT.out.os, HT.out.tape, HT.out.output, HT.out.size, HT.out.block⟩
          | cons b T =>
            have hn0 : ¬ (n3 : Int) = 0 := by rw [← hn3, List.length_cons]; omega
            have hn0b : ((n3 : Int) == 0) = false := by rw [beq_eq_false_iff_ne]; exact hn0
            have hn0n : ¬ n3 = 0 := by omega
            have HE := Lib.hid (fun (W : World) (ht : TurnsB D D w W) => show LetSays w D ((some (X, 8388608, b :: T)).bind fun q => if q.2.1 = 8388608 ∧ q.2.2 = [] then some q.1 else none) (.returned (.tuple #[.slice Ab j cb, .bool false])) W from ⟨ht, by
              simp only [Option.bind_some]
              rw [if_neg (by simp)]
              exact ⟨_, rfl⟩⟩)
            clear hlX hn3
            go_wp2
            go_quiet (fail)
            go_wp2
            go_ret2
            exact HE.out _ ⟨HT.out.os, HT.out.tape, HT.out.output, HT.out.size, HT.out.block⟩
        · have hxi : ¬ (x1 : Int) = 8388608 := by omega
          have hxb : ((x1 : Int) == 8388608) = false := by rw [beq_eq_false_iff_ne]; exact hxi
          have HE := Lib.hid (fun (W : World) (ht : TurnsB D D w W) => show LetSays w D ((some (X, x1, S1)).bind fun q => if q.2.1 = 8388608 ∧ q.2.2 = [] then some q.1 else none) (.returned (.tuple #[.slice Ab j cb, .bool false])) W from ⟨ht, by
            simp only [Option.bind_some]
            rw [if_neg (fun h => hxe h.1)]
            exact ⟨_, rfl⟩⟩)
          clear hlX
          go_wp2
          go_quiet (fail)
          go_wp2
          go_ret2
          exact HE.out _ ⟨HT.out.os, HT.out.tape, HT.out.output, HT.out.size, HT.out.block⟩
end Go.Proofs.YtflcmmeoppdhdaaGreat
namespace Go.Proofs.YtflcmmeoppdhdaaGreat

/-- Of bytes the shares behind those that are out. -/
def hG (out : List Int) (b : List UInt8) (s : Nat) : Option (List Int × Nat) := hGetF 257 out b s
theorem hG_bad {out : List Int} {b : List UInt8} {s n k e : Nat} (h : lget b = (n, k, e)) (hb : e ≠ 0 ∨ 65535 < n ∨ 256 < out.length + n) : hG out b s = none := hGetF_bad h hb
/-- Where the noughts are out: the next share, or the end. -/
def hM (P : List Int) (b : List UInt8) (s : Nat) : Option (List Int × Nat) :=
  if P.length = 256 then some (P, s)
  else if (lget b).2.2 ≠ 0 ∨ 65535 < (lget b).1 then none
  else hG (P ++ [((lget b).1 : Int) + 1]) (b.drop (lget b).2.1) (s + (lget b).2.1)
theorem hG_mid {out : List Int} {b : List UInt8} {s n k : Nat} (h : lget b = (n, k, 0)) (hb : out.length + n ≤ 256) : hG out b s = hM (out ++ zerosI n) (b.drop k) (s + k) := by
  have hlen : (out ++ zerosI n).length = out.length + n := by simp [zerosI]
  unfold hM
  rw [hlen]
  by_cases h1 : out.length + n = 256
  · rw [if_pos h1]; exact hGetF_last h (by omega) h1
  · rw [if_neg h1]
    obtain ⟨⟨n2, k2, e2⟩, h2⟩ : ∃ t, lget (b.drop k) = t := ⟨_, rfl⟩
    rw [h2]
    simp only
    by_cases h3 : e2 ≠ 0 ∨ 65535 < n2
    · rw [if_pos h3]; exact hGetF_bad2 h (by omega) (by omega) h2 h3
    · rw [if_neg h3]
      obtain rfl : e2 = 0 := by omega
      unfold hG
      rw [hGetF_more h (by omega) (by omega) h2 (by omega), List.drop_drop]
      exact hGetF_fuel 256 257 _ _ _ (by simp [zerosI] <;> omega) (by simp [zerosI] <;> omega) (by simp [zerosI] <;> omega)
theorem hM_end {P : List Int} {b : List UInt8} {s : Nat} (h : P.length = 256) : hM P b s = some (P, s) := by unfold hM; rw [if_pos h]
theorem hM_bad {P : List Int} {b : List UInt8} {s n k e : Nat} (h : lget b = (n, k, e)) (hP : P.length ≠ 256) (hb : e ≠ 0 ∨ 65535 < n) : hM P b s = none := by
  unfold hM; rw [if_neg hP, h, if_pos hb]
theorem hM_more {P : List Int} {b : List UInt8} {s n k : Nat} (h : lget b = (n, k, 0)) (hP : P.length ≠ 256) (hn : n ≤ 65535) : hM P b s = hG (P ++ [(n : Int) + 1]) (b.drop k) (s + k) := by
  unfold hM; rw [if_neg hP, h]; simp only; rw [if_neg (by omega)]
/-- Those that are together so many. -/
def filt (T : Int) (R : Option (List Int × Nat)) : Option (List Int × Nat) := R.bind fun p => if p.1.sum = T then some p else none
theorem sum_zerosI (n : Nat) : (zerosI n).sum = 0 := by
  induction n with
  | zero => rfl
  | succ n ih => simp only [zerosI, List.replicate_succ, List.sum_cons] at ih ⊢; omega
/-- More than so many are never less again. -/
theorem filt_much {T : Int} : ∀ (f : Nat) (out : List Int) (b : List UInt8) (s : Nat), T < out.sum → filt T (hGetF f out b s) = none := by
  intro f
  induction f with
  | zero => intro out b s _; rfl
  | succ f ih =>
    intro out b s h
    obtain ⟨⟨n, k, e⟩, hl⟩ : ∃ t, lget b = t := ⟨_, rfl⟩
    by_cases hb : e ≠ 0 ∨ 65535 < n ∨ 256 < out.length + n
    · rw [hGetF_bad hl hb]; rfl
    · obtain rfl : e = 0 := by omega
      by_cases hb2 : out.length + n = 256
      · rw [hGetF_last hl (by omega) hb2]
        simp only [filt, Option.bind_some, List.sum_append, sum_zerosI]
        rw [if_neg (by omega)]
      · obtain ⟨⟨n2, k2, e2⟩, hl2⟩ : ∃ t, lget (b.drop k) = t := ⟨_, rfl⟩
        by_cases hb3 : e2 ≠ 0 ∨ 65535 < n2
        · rw [hGetF_bad2 hl (by omega) (by omega) hl2 hb3]; rfl
        · obtain rfl : e2 = 0 := by omega
          rw [hGetF_more hl (by omega) (by omega) hl2 (by omega)]
          apply ih
          simp only [List.sum_append, sum_zerosI, List.sum_cons, List.sum_nil]
          omega
theorem filt_over {T : Int} {P : List Int} {b : List UInt8} {s n k e : Nat} (h : lget b = (n, k, e)) (hP : P.length ≠ 256) (hn : T < P.sum + (n : Int) + 1) : filt T (hM P b s) = none := by
  by_cases hb : e ≠ 0 ∨ 65535 < n
  · rw [hM_bad h hP hb]; rfl
  · obtain rfl : e = 0 := by omega
    rw [hM_more h hP (by omega)]
    exact filt_much _ _ _ _ (by simp only [List.sum_append, List.sum_cons, List.sum_nil]; omega)
/-- What Get tells: 256 shares that are so many together, or none. -/
def hGot (T : Int) (b : List UInt8) : Option (List Int × Nat) := filt T (hG [] b 0)
/-- The program's row: the shares that are out, and noughts. -/
def hRow16 (P : List Int) : List Int := P ++ zerosI (256 - P.length)
theorem hRow16_set {P : List Int} (h : P.length < 256) (x : Int) : (hRow16 P).set P.length x = hRow16 (P ++ [x]) := by
  obtain ⟨d, hd⟩ : ∃ d, 256 - P.length = d + 1 := ⟨255 - P.length, by omega⟩
  unfold hRow16
  rw [hd, List.length_append, List.length_singleton, show 256 - (P.length + 1) = d by omega]
  simp [zerosI, List.replicate_succ]
theorem hRow16_zeros {P : List Int} {n : Nat} (h : P.length + n ≤ 256) : hRow16 (P ++ zerosI n) = hRow16 P := by
  unfold hRow16
  rw [List.append_assoc, List.length_append, zerosI_len]
  congr 1
  simp only [zerosI, List.replicate_append_replicate]
  congr 1
  omega
theorem hRow16_nil : hRow16 [] = List.replicate 256 0 := rfl
theorem hRow16_full {P : List Int} (h : P.length = 256) : hRow16 P = P := by simp [hRow16, h, zerosI]

/-- What is taken next: a number below, or one that is wrong. -/
def NextSays (l : List UInt8) (at_ below : Nat) (bad : Bool) (k s : Nat) (bad' : Bool) : Prop :=
  (bad' = bad ∧ k < below ∧ ∃ j, lget (l.drop at_) = (k, j, 0) ∧ s = at_ + j) ∨ (bad' = true ∧ k = 0 ∧ s = at_ ∧ ∃ q j e, lget (l.drop at_) = (q, j, e) ∧ (e ≠ 0 ∨ below ≤ q))
/-- How it stands where a share may come. -/
def GetInv (G : Option (List Int × Nat)) (T : Int) (l : List UInt8) (a : Nat) (lf : Int) (s : Nat) (bad : Bool) (Q : List Int) : Prop :=
  (bad = true ∧ filt T G = none) ∨ (bad = false ∧ ∃ P : List Int, Q = hRow16 P ∧ P.length = a ∧ P.sum + lf = T ∧ 0 ≤ lf ∧ filt T G = filt T (hM P (l.drop s) s))
theorem inv_start {T : Int} {l : List UInt8} {k s : Nat} {bad : Bool} (hT : 0 ≤ T) (h : NextSays l 0 257 false k s bad) : k ≤ 256 ∧ GetInv (hG [] l 0) T l k T s bad (List.replicate 256 0) := by
  rcases h with ⟨rfl, hk, j, hl, rfl⟩ | ⟨rfl, rfl, rfl, q, j, e, hl, hb⟩
  · rw [List.drop_zero] at hl
    refine ⟨by omega, .inr ⟨rfl, zerosI k, ?_, zerosI_len k, by rw [sum_zerosI]; omega, hT, ?_⟩⟩
    · have := hRow16_zeros (P := []) (n := k) (by simp; omega)
      rw [List.nil_append] at this
      rw [this, hRow16_nil]
    · rw [hG_mid hl (by simp; omega), List.nil_append, Nat.zero_add]
  · rw [List.drop_zero] at hl
    exact ⟨Nat.zero_le _, .inl ⟨rfl, by rw [hG_bad hl (by simp; omega)]; rfl⟩⟩
theorem inv_step {G : Option (List Int × Nat)} {T : Int} {l : List UInt8} {a s : Nat} {lf : Int} {Q : List Int} {k1 s1 k2 s2 : Nat} {b1 b2 : Bool} (h : GetInv G T l a lf s false Q) (ha : a < 256) (hlf : lf ≤ 65536) (h1 : NextSays l s lf.toNat false k1 s1 b1) (h2 : NextSays l s1 (256 - a) b1 k2 s2 b2) :
    a + (1 + k2) ≤ 256 ∧ (k1 : Int) ≤ lf ∧ GetInv G T l (a + (1 + k2)) (lf - (1 + (k1 : Int))) s2 b2 (Q.set a (1 + (k1 : Int))) := by
  rcases h with ⟨h, -⟩ | ⟨-, P, rfl, rfl, hs, h0, hG⟩
  · cases h
  have hk2 : P.length + (1 + k2) ≤ 256 := by
    rcases h2 with ⟨-, g, -⟩ | ⟨-, g, -⟩
    · omega
    · omega
  rcases h1 with ⟨rfl, g1, j1, hl1, rfl⟩ | ⟨rfl, rfl, rfl, q, j, e, hl, hb⟩
  · refine ⟨hk2, by omega, ?_⟩
    rw [hM_more hl1 (by omega) (by omega), List.drop_drop] at hG
    rw [hRow16_set ha, Int.add_comm 1 (k1 : Int)]
    have hsum : (P ++ [(k1 : Int) + 1]).sum = P.sum + (k1 + 1) := by simp
    have hlen : (P ++ [(k1 : Int) + 1]).length = P.length + 1 := by simp
    rcases h2 with ⟨rfl, g2, j2, hl2, rfl⟩ | ⟨rfl, rfl, rfl, q, j, e, hl, hb⟩
    · refine .inr ⟨rfl, (P ++ [(k1 : Int) + 1]) ++ zerosI k2, (hRow16_zeros (by rw [hlen]; omega)).symm, by rw [List.length_append, hlen, zerosI_len]; omega, by rw [List.sum_append, hsum, sum_zerosI]; omega, by omega, ?_⟩
      rw [hG, hG_mid hl2 (by rw [hlen]; omega), List.drop_drop]
    · refine .inl ⟨rfl, ?_⟩
      rw [hG, hG_bad hl (by rw [hlen]; omega)]
      rfl
  · refine ⟨hk2, by omega, .inl ⟨?_, ?_⟩⟩
    · rcases h2 with ⟨rfl, -⟩ | ⟨rfl, -⟩ <;> rfl
    · rw [hG]
      by_cases he : e = 0
      · exact filt_over hl (by omega) (by omega)
      · rw [hM_bad hl (by omega) (.inl he)]; rfl
theorem inv_end {G : Option (List Int × Nat)} {T : Int} {l : List UInt8} {a s : Nat} {lf : Int} {bad : Bool} {Q : List Int} (h : GetInv G T l a lf s bad Q) (ha : bad = false → a = 256) :
    (bad = true ∨ lf ≠ 0 → filt T G = none) ∧ (bad = false → lf = 0 → filt T G = some (Q, s)) := by
  rcases h with ⟨rfl, h⟩ | ⟨rfl, P, rfl, rfl, hs, h0, hG⟩
  · exact ⟨fun _ => h, fun h => by cases h⟩
  · have hP := ha rfl
    rw [hM_end hP] at hG
    rw [hG, hRow16_full hP]
    refine ⟨fun h => ?_, fun _ h => ?_⟩
    · rcases h with h | h
      · cases h
      · simp only [filt, Option.bind_some]; rw [if_neg (by omega)]
    · simp only [filt, Option.bind_some]; rw [if_pos (by omega)]
end Go.Proofs.YtflcmmeoppdhdaaGreat
