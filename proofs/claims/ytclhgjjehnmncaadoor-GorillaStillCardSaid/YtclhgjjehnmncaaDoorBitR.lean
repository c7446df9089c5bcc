/- Contracts of slices.Clone, Writer.Bytes, bit.Read and bit.Reader. -/
import Derived.Test.YtclhgjjehnmncaaDoorBitW
import Derived.BigQuiet
import Derived.Deep.QuietTactic
namespace Go.Proofs.YtclhgjjehnmncaaDoor
open Go.RowKit

/-- What hands back the bytes l in new memory. -/
def NewBy (w : World) (l : List UInt8) (e : Ending) (w' : World) : Prop :=
  ∃ v, e = .returned v ∧ w'.ownsRow w.heap.size 5 1 v l.length (bvs l) ∧ Below w.heap.size w w'

theorem run_eq_nil {P : Program} (w : World) (t e : TypeId) (a : Option Addr) (n c : Nat) (h : P.underlying t = some (.slice e)) :
    (binOp .eql t (.slice a n c) (.slice none 0 0)).run P w = .ok (.bool a.isNone) w := by
  simp only [binOp]
  simp [Op.equal, Op.maxDepth, Lib.run_equalIn_slice_nil w 9999 t e a n c 0 0 h]

set_option maxHeartbeats 1000000 in
theorem clone_any (A : Option Addr) (n c : Nat) (l : List UInt8) (w : World) (hr : Rd w w.heap.size A (bvs l)) (hn : l.length = n) (hn1 : n ≤ 140737488355000) (hA : A = none → c = 0) :
    Calls Tryd.prog 30 #[.slice A n c] w (NewBy w l) := by
  cases A with
  | none =>
    have hl : l = [] := by
      cases l with
      | nil => rfl
      | cons a r => obtain ⟨_, _, e, _⟩ := hr 0 _ (bvs_get (a :: r) 0 (by simp)); cases e
    subst hl
    obtain rfl : 0 = n := by simpa using hn
    obtain rfl := hA rfl
    have heq : (binOp .eql 24 (.slice none 0 0) (.slice none 0 0)).run Tryd.prog w = .ok (.bool true) w := run_eq_nil w _ _ none 0 0 Tryd.underlying24
    go_enter Tryd.func30, Tryd.ntmps30
    go_wp2
    go_ret
    exact ⟨_, rfl, World.ownsRow_nil _ _ _ _, Below.refl _ _⟩
  | some a =>
    obtain ⟨i0, hi, hz0, hz1, hz2⟩ := info_parts info_u8'
    have hcl : (bvs l).length = n * 1 := by rw [bvs_length, hn, Nat.mul_one]
    have HCL := Lib.hid hcl
    have HN := Lib.hid hn
    clear hcl hn hA
    have heq : (binOp .eql 24 (.slice (some a) n c) (.slice none 0 0)).run Tryd.prog w = .ok (.bool false) w := run_eq_nil w _ _ (some a) n c Tryd.underlying24
    go_enter Tryd.func30, Tryd.ntmps30
    go_wp2_with (at_builtin; go_must (refine wpList_app rfl (.tmp 5) (.tmp 6) 24 rfl w.heap.size 5 i0 (.int .u8 0) 1 1 Tryd.underlying24 hi hz0 hz1 hz2 rfl (by decide) _ 0 [] rfl (World.ownsRow_made w #[] 0 (Nat.le_refl _) (Nat.zero_le _) rfl) w.heap.size _ n _ (bvs l) rfl (hr.alloc (Nat.le_refl _) _) HCL.out (bvs_one _) (by simp only [maxLen]; omega) (by omega) (by simp) ?_; intro v2 w2 hown2 hg2; rw [Nat.zero_add, List.nil_append] at hown2; have hb2 : Below w.heap.size w w2 := ((Below.refl _ _).alloc (Nat.le_refl _) _).grown hg2 (by simp) (own_block (World.ownsRow_made (e := 5) (size := 1) w #[] 0 (Nat.le_refl _) (Nat.zero_le _) rfl))))
    go_ret
    exact ⟨_, rfl, by rw [HN.out]; exact hown2, hb2⟩

set_option maxHeartbeats 1000000 in
theorem wBytes_any (g B : Nat) (l : List Bool) (w : World) (h : WrAt w B g l) (hl : l.length < 1000000000) :
    Calls Tryd.prog 17 #[.pointer (some ⟨g, 0, none⟩)] w fun e w' => ∃ bs, Packs bs l ∧ NewBy w bs e w' := by
  obtain ⟨v, bs, hblk, hBg, hown, hp⟩ := h
  obtain ⟨A, c, rfl, hnc, _, hA⟩ := own_form hown
  have hc0 := hblk.cell 0
  simp only [List.getElem?_cons_zero] at hc0
  have hr := Rd.of_own hown
  have hlen := hp.1
  have hcA : A = none → c = 0 := by
    rintro rfl
    rcases hown.2 with ⟨h0, _⟩ | ⟨_, _, _, h0, _⟩
    · injection h0
    · cases h0
  have hc := clone_any A bs.length c bs w hr rfl (by omega) hcA
  have HC := Lib.hid hc
  have HP := Lib.hid hp
  clear hblk hown hp hA hcA hc hr hlen hnc
  go_enter Tryd.func17, Tryd.ntmps17
  go_wp2_with (go_at_call 30; go_must (refine HC.out.mono ?_; rintro e w1 ⟨v1, rfl, hown1, hb1⟩))
  go_ret
  exact ⟨bs, HP.out, _, rfl, hown1, hb1⟩

/-- At block g lies a Reader of which the bits L are left, with the error e. -/
def RdrIs (w : World) (g : Nat) (L : List Bool) (e : Nat) : Prop :=
  ∃ (bs : List UInt8) (at_ : Nat) (A : Option Addr) (c : Nat), Blk w g 68 [.slice A bs.length c, .int .i64 at_, .int .i64 e] ∧ RdT w 5 A (bvs bs) ∧ at_ ≤ 8 * bs.length ∧ bs.length ≤ 140737488355000 ∧ bs.length ≤ c ∧ L = (allBits bs).drop at_

theorem RdrIs.only {B : Nat} {ts : List TypeId} {w w' : World} {g : Nat} {L : List Bool} {e : Nat} (h : RdrIs w g L e) (ho : OnlyT B ts w w') (h1 : 68 ∉ ts) (h2 : 5 ∉ ts) : RdrIs w' g L e := by
  obtain ⟨bs, at_, A, c, hb, hr, rest⟩ := h
  exact ⟨bs, at_, A, c, hb.only ho h1, hr.only ho h2, rest⟩

set_option maxHeartbeats 1000000 in
theorem read_any (A : Option Addr) (n c : Nat) (l : List UInt8) (w : World) (hr : Rd w w.heap.size A (bvs l)) (hn : l.length = n) (hn1 : n ≤ 140737488355000) (hA : A = none → c = 0) :
    Calls Tryd.prog 23 #[.slice A n c] w fun e w' => ∃ g, e = .returned (.pointer (some ⟨g, 0, none⟩)) ∧ w.heap.size ≤ g ∧ RdrIs w' g (allBits l) 0 ∧ Below w.heap.size w w' := by
  have hc := clone_any A n c l w hr hn hn1 hA
  have HC := Lib.hid hc
  have HN := Lib.hid hn
  clear hc hn hr
  go_enter Tryd.func23, Tryd.ntmps23
  go_wp2_with (go_at_call 30; go_must (refine HC.out.mono ?_; rintro e w1 ⟨v1, rfl, hown1, hb1⟩; obtain ⟨A1, c1, rfl, hc1, -, -⟩ := own_form hown1))
  go_ret
  have hlen := HN.out
  have hblk : Blk (w1.alloc (.cells #[.slice A1 l.length c1, .int .i64 0, .int .i64 0] 68)) w1.heap.size 68 [.slice A1 l.length c1, .int .i64 0, .int .i64 0] := heap_alloc_new w1 _
  have hrd := (RdT.of_own (hown1.alloc (.cells #[.slice A1 l.length c1, .int .i64 0, .int .i64 0] 68)))
  exact ⟨w1.heap.size, rfl, hb1.size, ⟨l, 0, A1, c1, hblk, hrd, Nat.zero_le _, by omega, hc1, rfl⟩, hb1.alloc hb1.size _⟩

theorem bit_arg8 (x : UInt8) (r : Nat) : bits .and .u8 ((x.toNat : Int) / 2 ^ r) 1 = ((x.toNat.testBit r).toNat : Int) := by
  have hx := x.toNat_lt
  have hd : x.toNat / 2 ^ r ≤ x.toNat := Nat.div_le_self _ _
  have ht := Nat.testBit_eq_decide_div_mod_eq (x := x.toNat) (i := r)
  have e : (x.toNat : Int) / 2 ^ r = ((x.toNat / 2 ^ r : Nat) : Int) := by simp
  rw [e, ht]
  generalize x.toNat / 2 ^ r = q at *
  rw [u8_and _ _ (by omega) (by omega) (by omega) (by omega), Int.toNat_natCast, show ((1 : Int).toNat) = 1 from rfl, nat_mask1]
  rcases Nat.mod_two_eq_zero_or_one q with h | h <;> rw [h] <;> rfl

/- The reader's small methods. -/
section
variable {w : World} {g : Nat} {bs : List UInt8} {at_ e c : Nat} {A : Option Addr}
set_option maxHeartbeats 1000000 in
theorem rErr_any (u0 u1 : Value) (e : Int) (h : Blk w g 68 [u0, u1, .int .i64 e]) :
    Calls Tryd.prog 42 #[.pointer (some ⟨g, 0, none⟩)] w fun e' w' => e' = .returned (.int .i64 e) ∧ w = w' := by
  have hc2 := h.cell 2
  simp only [List.getElem?_cons_zero, List.getElem?_cons_succ] at hc2
  clear h
  go_enter Tryd.func42, Tryd.ntmps42
  go_wp2
  go_ret
  exact ⟨rfl, rfl⟩
set_option maxHeartbeats 1000000 in
theorem rErr_nil (w : World) : Calls Tryd.prog 42 #[.pointer none] w fun e' w' => e' = .returned (.int .i64 1) ∧ w = w' := by
  go_enter Tryd.func42, Tryd.ntmps42
  go_wp2
  go_ret
  exact ⟨rfl, rfl⟩
set_option maxHeartbeats 1000000 in
theorem rLeft_nil (w : World) : Calls Tryd.prog 35 #[.pointer none] w fun e' w' => e' = .returned (.int .i64 0) ∧ w = w' := by
  go_enter Tryd.func35, Tryd.ntmps35
  go_wp2_with (go_at_call 42; go_must (refine (rErr_nil _).mono ?_; rintro e w' ⟨rfl, rfl⟩))
  go_ret
  exact ⟨rfl, rfl⟩
set_option maxHeartbeats 1000000 in
theorem rLeft_bad (u0 u1 : Value) (e : Int) (h : Blk w g 68 [u0, u1, .int .i64 e]) (he : e ≠ 0) :
    Calls Tryd.prog 35 #[.pointer (some ⟨g, 0, none⟩)] w fun e' w' => e' = .returned (.int .i64 0) ∧ w = w' := by
  have hne : (e == 0) = false := by rw [beq_eq_false_iff_ne]; exact he
  have H := Lib.hid h
  clear h he
  go_enter Tryd.func35, Tryd.ntmps35
  go_wp2_with (go_at_call 42; go_must (refine (rErr_any _ _ _ H.out).mono ?_; rintro e w' ⟨rfl, rfl⟩))
  go_ret
  exact ⟨rfl, rfl⟩
set_option maxHeartbeats 1000000 in
theorem rLeft_ok (h : Blk w g 68 [.slice A bs.length c, .int .i64 at_, .int .i64 0]) (hl : bs.length ≤ 140737488355000) (ha : at_ ≤ 8 * bs.length) :
    Calls Tryd.prog 35 #[.pointer (some ⟨g, 0, none⟩)] w fun e' w' => e' = .returned (.int .i64 ((8 * bs.length - at_ : Nat) : Int)) ∧ w.drew = w' := by
  have hc0 := h.cell 0
  have hc1 := h.cell 1
  simp only [List.getElem?_cons_zero, List.getElem?_cons_succ] at hc0 hc1
  have H := Lib.hid h
  clear h
  obtain ⟨n, hn⟩ : ∃ n, n = bs.length := ⟨_, rfl⟩
  rw [← hn] at hc0 hl ha ⊢
  have HN := Lib.hid hn
  clear hn
  have hni : (n : Int) ≤ 140737488355000 := by omega
  have hai : (at_ : Int) ≤ 8 * (n : Int) := by omega
  go_enter Tryd.func35, Tryd.ntmps35
  go_wp2_with (go_at_call 42; go_must (refine (rErr_any _ _ _ H.out).mono ?_; rintro e w' ⟨rfl, rfl⟩))
  go_region
  go_wp2
  go_ret
  exact ⟨ret_int (by omega), rfl⟩

set_option maxHeartbeats 1000000 in
set_option maxRecDepth 100000 in
theorem rNext_any (k : Nat) (u2 : Value) (h : Blk w g 68 [.slice A bs.length c, .int .i64 at_, u2]) (hr : RdT w 5 A (bvs bs)) (hl : bs.length ≤ 140737488355000) (hk : at_ + k < 8 * bs.length) :
    Calls Tryd.prog 45 #[.pointer (some ⟨g, 0, none⟩), .int .i64 k] w fun e' w' => e' = .returned (.int .u8 ((bitAt bs (at_ + k)).toNat : Nat)) ∧ w = w' := by
  have hc0 := h.cell 0
  have hc1 := h.cell 1
  simp only [List.getElem?_cons_zero, List.getElem?_cons_succ] at hc0 hc1
  obtain ⟨x, hx⟩ : ∃ x : UInt8, bs[(k + at_) / 8]? = some x := ⟨bs[(k + at_) / 8]'(by omega), by simp⟩
  obtain ⟨b, off, rfl, _, hcx⟩ := hr ((k + at_) / 8) (.int .u8 x.toNat) (by simp [bvs, hx])
  have hbit : bitAt bs (at_ + k) = x.toNat.testBit ((k + at_) % 8) := by
    simp only [bitAt, Nat.add_comm at_ k, List.getD_eq_getElem?_getD, hx, Option.getD_some]
  rw [hbit]
  obtain ⟨n, hn⟩ : ∃ n, n = bs.length := ⟨_, rfl⟩
  rw [← hn] at hc0 hl hk
  clear h hr hx hbit hn
  have hx8 := x.toNat_lt
  have hni : (n : Int) ≤ 140737488355000 := by omega
  have hki : (k : Int) + (at_ : Int) < 8 * (n : Int) := by omega
  have hq0 : 0 ≤ ((k : Int) + (at_ : Int)) / 8 := by omega
  have hq1 : ((k : Int) + (at_ : Int)) / 8 < (n : Int) := by omega
  go_enter Tryd.func45, Tryd.ntmps45
  go_wp2
  go_ret
  exact ⟨ret_int (bit_arg8 x ((k + at_) % 8)), rfl⟩

set_option maxHeartbeats 1000000 in
theorem rKeep_any (u0 u1 : Value) (e : Int) (h : Blk w g 68 [u0, u1, .int .i64 0]) :
    Calls Tryd.prog 44 #[.pointer (some ⟨g, 0, none⟩), .int .i64 e] w fun e' w' => e' = .returned (.tuple #[]) ∧ w.setCell ⟨g, 2, none⟩ (.int .i64 e) = w' := by
  have hc2 := h.cell 2
  simp only [List.getElem?_cons_zero, List.getElem?_cons_succ] at hc2
  have hf2 := h.frozen 2
  clear h
  go_enter Tryd.func44, Tryd.ntmps44
  go_wp2
  go_end0
  exact ⟨rfl, rfl⟩
set_option maxHeartbeats 1000000 in
theorem within_ok (n m e : Int) (f : Value) (w : World) (h0 : 0 ≤ n) (h1 : n ≤ m) :
    Calls Tryd.prog 43 #[.int .i64 n, .int .i64 m, .int .i64 e, f] w fun e' w' => e' = .returned (.bool true) ∧ w = w' := by
  go_enter Tryd.func43, Tryd.ntmps43
  go_wp2
  go_ret
  exact ⟨rfl, rfl⟩
set_option maxHeartbeats 1000000 in
theorem within_bad (u0 u1 : Value) (n m e : Int) (h : Blk w g 68 [u0, u1, .int .i64 0]) (hn : n < 0 ∨ m < n) :
    Calls Tryd.prog 43 #[.int .i64 n, .int .i64 m, .int .i64 e, .func (.func 44) #[.pointer (some ⟨g, 0, none⟩)] #[]] w fun e' w' => e' = .returned (.bool false) ∧ w.setCell ⟨g, 2, none⟩ (.int .i64 e) = w' := by
  have H := Lib.hid h
  clear h
  by_cases h0 : n < 0
  · clear hn
    go_enter Tryd.func43, Tryd.ntmps43
    go_wp2_with (go_at_call 44; go_must (refine (rKeep_any _ _ _ H.out).mono ?_; rintro e' w' ⟨rfl, rfl⟩))
    go_ret
    exact ⟨rfl, rfl⟩
  · have h1 : m < n := by omega
    have h2 : 0 ≤ n := by omega
    clear hn h0
    go_enter Tryd.func43, Tryd.ntmps43
    go_wp2_with (go_at_call 44; go_must (refine (rKeep_any _ _ _ H.out).mono ?_; rintro e' w' ⟨rfl, rfl⟩))
    go_ret
    exact ⟨rfl, rfl⟩
end
end Go.Proofs.YtclhgjjehnmncaaDoor
