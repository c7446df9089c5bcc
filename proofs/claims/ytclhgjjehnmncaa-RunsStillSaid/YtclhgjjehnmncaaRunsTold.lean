/- Contract of layer 10's told: a piece's bytes behind a row of the call's own. -/
import Derived.Test.YtclhgjjehnmncaaRunsSm
import Derived.Test.YtclhgjjehnmncaaWordBase
namespace Go.Proofs.Ytclhgjjehnmncaa
open Go.RowKit

theorem info_u8q : (Try.prog.info? 5).map (fun i => (i.zero, i.size, i.bytes)) = some (some (.int .u8 0), 1, 1) := by kernel_rfl
theorem bvs_rep (y : UInt8) (m : Nat) (out : List UInt8) : bvs (out ++ List.replicate (m + 1) y) = bvs (out ++ List.replicate m y) ++ [.int .u8 (y.toNat : Int)] := by
  rw [List.replicate_succ', ← List.append_assoc, bvs_append]
  rfl
/-- What holds at the head of a round of told. -/
def ToldRel (w : World) (base : Nat) (out : List UInt8) (y : UInt8) (many : Nat) (v i : Value) (wr : World) : Prop :=
  ∃ k : Nat, k ≤ many ∧ i = .int .i64 k ∧ wr.ownsRow base 5 1 v (out.length + k) (bvs (out ++ List.replicate k y)) ∧ Below base w wr
set_option maxHeartbeats 1000000 in
set_option maxRecDepth 100000 in
theorem told_apart (base : Nat) (out : List UInt8) (v : Value) (n0 : Nat) (A : Option Addr) (n c : Nat) (x : UInt8) (t : List UInt8) (w : World) (hown : w.ownsRow base 5 1 v n0 (bvs out)) (hn0 : out.length = n0) (hbase : base ≤ w.heap.size)
    (hr : Rd w base A (bvs (x :: t))) (hn : t.length + 1 = n) (hnc : n ≤ c) (hx : x.toNat < 128) (ht : t.length = x.toNat + 1) (hb : n0 ≤ 1000000000000) (m : Int) :
    Calls Try.prog 18 #[v, .slice A n c, .int .i64 m] w fun e w' => ∃ v', e = .returned v' ∧ w'.ownsRow base 5 1 v' (n0 + t.length) (bvs (out ++ t)) ∧ Below base w w' := by
  obtain ⟨i0, hi, hz0, hz1, hz2⟩ := info_parts info_u8q
  subst hn0 hn
  have hr1 : Rd w base (A.map (·.add 1)) (bvs t) := by have := hr.drop 1; simpa [bvs] using this
  obtain ⟨b, off, rfl, hb1, hcell⟩ := hr.at_ (by simp [bvs])
  have hc0 := hcell 0 (.int .u8 (x.toNat : Int)) (by simp [bvs])
  rw [Nat.add_zero] at hc0
  have hi128 : (x.toNat : Int) < 128 := by omega
  have ht2 : t.length ≤ 128 := by omega
  have hlen : (bvs t).length = t.length * 1 := by rw [bvs_length, Nat.mul_one]
  have hA1 : out.length + t.length ≤ maxLen := by simp only [maxLen]; omega
  have hA2 : (out.length + t.length) * 1 ≤ 140737488355328 := by omega
  have hne : ¬ c = 1 := by omega
  have HOWN := Lib.hid hown
  have HR := Lib.hid hr1
  have HBS := Lib.hid hbase
  have HL := Lib.hid (And.intro hlen (And.intro hA1 hA2))
  clear hcell hr hr1 hown hlen hA1 hA2 ht hx hbase
  go_enter Try.func18, Try.ntmps18
  go_wp2_with ((with_reducible show wpList _ _ _ (({ dst := some 14, op := _, type := _, pos := _, after := _, guard := _ } : Oper) :: _) _ _); go_must (refine wpList_app rfl (.tmp 11) (.tmp 13) 22 rfl base 5 i0 (.int .u8 0) 1 1 Try.underlying22 hi hz0 hz1 hz2 rfl (by decide) _ _ _ rfl HOWN.out base _ t.length (c - 1) (bvs t) rfl HR.out HL.out.1 (bvs_one _) HL.out.2.1 HL.out.2.2 HBS.out ?_; intro v1 w1 hown1 hg1; have hb1' : Below base w w1 := (Below.refl base w).grown hg1 HBS.out (own_block HOWN.out); clear hg1))
  go_ret
  rw [← bvs_append] at hown1
  exact ⟨_, rfl, hown1, hb1'⟩
set_option maxHeartbeats 1000000 in
set_option maxRecDepth 100000 in
theorem told_alike (base : Nat) (out : List UInt8) (v : Value) (n0 : Nat) (A : Option Addr) (c : Nat) (x y : UInt8) (w : World) (hown : w.ownsRow base 5 1 v n0 (bvs out)) (hn0 : out.length = n0) (hbase : base ≤ w.heap.size)
    (hr : Rd w base A (bvs [x, y])) (hx : ¬ x.toNat < 128) (hb : n0 ≤ 1000000000000) (m : Nat) (hm : m ≤ 1000) :
    Calls Try.prog 18 #[v, .slice A 2 c, .int .i64 (m : Int)] w fun e w' => ∃ v', e = .returned v' ∧ w'.ownsRow base 5 1 v' (n0 + m) (bvs (out ++ List.replicate m y)) ∧ Below base w w' := by
  obtain ⟨i0, hi, hz0, hz1, hz2⟩ := info_parts info_u8q
  subst hn0
  obtain ⟨b, off, rfl, hb1, hcell⟩ := hr.at_ (by simp [bvs])
  have hc0 := hcell 0 (.int .u8 (x.toNat : Int)) (by simp [bvs])
  have hc1 := hcell 1 (.int .u8 (y.toNat : Int)) (by simp [bvs])
  rw [Nat.add_zero] at hc0
  have hi128 : ¬ (x.toNat : Int) < 128 := by omega
  have HOWN := Lib.hid hown
  clear hcell hr hx hown
  go_enter Try.func18, Try.ntmps18
  go_wp2_with fail
  go_loopw [0, 16] (ToldRel w base out y m) (fun _ i _ => m - (intOf i).toNat)
  case atStart => exact ⟨0, Nat.zero_le _, rfl, by simpa using HOWN.out, Below.refl _ _⟩
  case round =>
    clear HOWN
    obtain ⟨k, hk, rfl, hown, hbl⟩ := hrel
    have hbs := hbl.size
    by_cases hlt : k < m
    · have hk1 : (k : Int) < (m : Int) := by omega
      have hc1' := (hbl.cell (p := ⟨b, off + 1, none⟩) hb1).trans hc1
      have hA1 : out.length + k + 1 ≤ maxLen := by simp only [maxLen]; omega
      have hA2 : (out.length + k + 1) * 1 ≤ 140737488355328 := by omega
      have HOWN := Lib.hid hown
      have HB := Lib.hid (And.intro hbl (And.intro hbase hbs))
      clear hown hbl hbs hc0 hbase
      go_wp2_with ((with_reducible show wpList _ _ _ (({ dst := some 23, op := _, type := _, pos := _, after := _, guard := _ } : Oper) :: _) _ _); go_must (refine wpList_app rfl (.tmp 18) (.tmp 22) 22 rfl base 5 i0 (.int .u8 0) 1 1 Try.underlying22 hi hz0 hz1 hz2 rfl (by decide) _ _ _ rfl (HOWN.out.alloc _) _ _ 1 1 _ rfl (Rd.new _ _ _) rfl (by intro u hu; simp at hu; subst hu; rfl) hA1 hA2 (by have := HB.out.2; simp; omega) ?_; intro v1 w1 hown1 hg1; have hb1' : Below base w w1 := (HB.out.1.alloc (by have := HB.out.2; omega) _).grown hg1 (by have := HB.out.2; simp; omega) (own_block HOWN.out); clear hg1))
      have hown2 : w1.ownsRow base 5 1 v1 (out.length + (k + 1)) (bvs (out ++ List.replicate (k + 1) y)) := by
        rw [bvs_rep, ← Nat.add_assoc]
        exact hown1
      have HBS := Lib.hid HB.out.2.1
      clear hown1 hA1 hA2 HOWN HB
      go_roundw
      case rel => exact ⟨k + 1, by omega, by go_num, hown2, hb1'⟩
      case measure => simp [intOf]; omega
    · obtain rfl : k = m := by omega
      clear hlt
      go_wp2
      go_ret
      exact ⟨_, rfl, hown, hbl⟩
end Go.Proofs.Ytclhgjjehnmncaa
