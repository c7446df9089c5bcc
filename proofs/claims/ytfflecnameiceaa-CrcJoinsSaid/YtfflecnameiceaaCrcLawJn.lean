/- Law CrcJoins. -/
import Derived.Test.YtfflecnameiceaaCrcKnown
import Derived.Deep.DeepMust
namespace Go.Proofs.Ytfflecnameiceaa
open Go.RowKit

theorem crcJoin_is (a b : BitVec 32) (n : Int) (x : BitVec 32) (hx : x = joinS a b n.toNat) (w : World) (h0 : -9223372036854775808 ≤ n) (h1 : n ≤ 9223372036854775807) :
    Calls Try.prog 17 #[.int .u32 (a.toNat : Int), .int .u32 (b.toNat : Int), .int .i64 n] w fun e w' => e = .returned (.int .u32 (x.toNat : Int)) ∧ Below w.heap.size w w' := by
  subst hx
  exact crcJoin_any a b n w h0 h1

set_option maxHeartbeats 1000000 in
set_option maxRecDepth 100000 in
theorem crcJoins_law (a b : BitVec 32) (N m : Nat) (w : World) (hN : N ≤ 65535) (hm : m ≤ 4294967295) :
    Calls Try.prog 5 #[.int .u32 (a.toNat : Int), .int .u32 (b.toNat : Int), .int .u16 (N : Int), .int .u32 (m : Int)] w (Yes w) := by
  obtain ⟨k, hk⟩ : ∃ k, k = N % 300 := ⟨_, rfl⟩
  have hk3 : k < 300 := by rw [hk]; exact Nat.mod_lt _ (by omega)
  have hmod : (N : Int) % 300 = (k : Int) := by rw [hk]; omega
  obtain ⟨J, hJ⟩ : ∃ J, J = joinS a b k := ⟨_, rfl⟩
  obtain ⟨M, hM⟩ : ∃ M, M = joinS a b (m + k) := ⟨_, rfl⟩
  obtain ⟨P, hP⟩ : ∃ P, P = joinS a 0#32 m := ⟨_, rfl⟩
  obtain ⟨Q, hQ⟩ : ∃ Q, Q = joinS a 0#32 k := ⟨_, rfl⟩
  obtain ⟨X, hX⟩ : ∃ X, X = a ^^^ b := ⟨_, rfl⟩
  have hxor := xor_u32 a b
  rw [← hX] at hxor
  have c1 := fun W => crcJoin_is a b (k : Int) J hJ W (by omega) (by omega)
  have c2 := fun W => refJoin_any a b k W (by omega)
  rw [← hJ] at c2
  have c3 := fun W => crcJoin_is a b (-(k : Int) - 1) X (by rw [show (-(k : Int) - 1).toNat = 0 by omega, joinS_zero, hX]) W (by omega) (by omega)
  have c4 := fun W => crcJoin_is a b ((m : Int) + (k : Int)) M (by rw [hM]; congr 1) W (by omega) (by omega)
  have c5 := fun W => crcJoin_is a 0#32 (m : Int) P hP W (by omega) (by omega)
  have c6 := fun W => crcJoin_is P b (k : Int) M (by rw [hM, hP, joinS_add]; rfl) W (by omega) (by omega)
  have c7 := fun W => crcJoin_is a 0#32 (k : Int) Q hQ W (by omega) (by omega)
  have c8 := fun W => crcJoin_is Q b (m : Int) M (by rw [hM, hQ, Nat.add_comm, joinS_add]; rfl) W (by omega) (by omega)
  have C1 := Lib.hid c1
  have C2 := Lib.hid c2
  have C3 := Lib.hid c3
  have C4 := Lib.hid c4
  have C5 := Lib.hid c5
  have C6 := Lib.hid c6
  have C7 := Lib.hid c7
  have C8 := Lib.hid c8
  clear c1 c2 c3 c4 c5 c6 c7 c8 hJ hM hP hQ hX hk
  go_enter Try.func5, Try.ntmps5
  go_wp2_with fail
  clear hmod
  refine (C1.out _).mono ?_
  rintro e w1 ⟨rfl, hb1⟩
  go_wp2_with fail
  refine (C2.out _).mono ?_
  rintro e w' ⟨rfl, rfl⟩
  go_wp2_with fail
  refine (C3.out _).mono ?_
  rintro e w2 ⟨rfl, hb2⟩
  have hB2 := hb1.trans (hb2.mono hb1.size)
  clear hb1 hb2
  go_wp2_with fail
  refine (C4.out _).mono ?_
  rintro e w3 ⟨rfl, hb3⟩
  have hB3 := hB2.trans (hb3.mono hB2.size)
  clear hB2 hb3
  go_wp2_with fail
  refine (C5.out _).mono ?_
  rintro e w4 ⟨rfl, hb4⟩
  have hB4 := hB3.trans (hb4.mono hB3.size)
  clear hB3 hb4
  go_wp2_with fail
  refine (C6.out _).mono ?_
  rintro e w5 ⟨rfl, hb5⟩
  have hB5 := hB4.trans (hb5.mono hB4.size)
  clear hB4 hb5
  go_wp2_with fail
  refine (C7.out _).mono ?_
  rintro e w6 ⟨rfl, hb6⟩
  have hB6 := hB5.trans (hb6.mono hB5.size)
  clear hB5 hb6
  go_wp2_with fail
  refine (C8.out _).mono ?_
  rintro e w7 ⟨rfl, hb7⟩
  have hB7 := hB6.trans (hb7.mono hB6.size)
  clear hB6 hb7
  go_wp2_with fail
  refine (C4.out _).mono ?_
  rintro e w8 ⟨rfl, hb8⟩
  have hB8 := hB7.trans (hb8.mono hB7.size)
  clear hB7 hb8
  go_wp2_with fail
  refine (crcKnown_any _).mono ?_
  rintro e w9 ⟨rfl, hb9⟩
  have hB9 := hB8.trans (hb9.mono hB8.size)
  clear hB8 hb9
  go_wp2
  go_ret
  exact ⟨rfl, hB9⟩
end Go.Proofs.Ytfflecnameiceaa
