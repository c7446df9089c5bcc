/- The fixed calls of layer 3's laws. -/
import Derived.Test.YtfflecnameiceaaCrcJn
import Derived.Test.YtfflecnameiceaaArg
import Derived.Lib.SlBytesConst
namespace Go.Proofs.Ytfflecnameiceaa
open Go.RowKit


theorem IsTab.grow {w w' : World} {g : Nat} (h : IsTab w g) (hb : Below w.heap.size w w') : IsTab w' g := Blk.grow h hb
theorem IsTab.alloc_ {w : World} {g : Nat} (h : IsTab w g) (o : Obj) : IsTab (w.alloc o) g := Blk.alloc_ h o

theorem Rd.newF (w : World) (cs : Array Value) (t : TypeId) (fr : Nat × Nat) : Rd (w.alloc (.cells cs t fr)) (w.alloc (.cells cs t fr)).heap.size (some ⟨w.heap.size, 0, none⟩) cs.toList := fun k u hu => by
  refine ⟨_, _, rfl, by simp, ?_⟩
  rw [cell_of_row (w.alloc (.cells cs t fr)) w.heap.size (0 + k) cs t fr (heap_alloc_new w _)]
  simpa using hu

def kAll : List UInt8 := [49, 50, 51, 52, 53, 54, 55, 56, 57]
def k4 : List UInt8 := [49, 50, 51, 52]
def k5 : List UInt8 := [53, 54, 55, 56, 57]
theorem kAll_sum : crcOf kAll = 3421780262#32 := by decide +kernel
theorem kJoin : joinS (crcOf k4) (crcOf k5) (5 : Int).toNat = 3421780262#32 := by decide +kernel
def kSum : BitVec 32 := 3421780262#32
theorem kSum_nat : (kSum.toNat : Int) = 3421780262 := by decide

theorem crcOf_grow (g : Nat) (A : Option Addr) (n c : Nat) (l : List UInt8) (w : World) (ht : IsTab w g) (hr : Rd w w.heap.size A (bvs l)) (hn : l.length = n) (hn1 : n ≤ 9223372036854775807) :
    Calls Try.prog 13 #[.pointer (some ⟨g, 0, none⟩), .slice A n c] w fun e w' => e = .returned (.int .u32 ((crcOf l).toNat : Int)) ∧ Below w.heap.size w w' :=
  (crcOf_any g A n c l w ht hr hn hn1).mono fun _ _ h => ⟨h.1, h.2 ▸ Below.refl _ _⟩
theorem kSum_is : ((3421780262#32).toNat : Int) = 3421780262 := by decide
set_option maxHeartbeats 1000000 in
set_option maxRecDepth 100000 in
theorem crcKnown_any (w : World) : Calls Try.prog 11 #[] w (Yes w) := by
  have c1 := fun (g : Nat) (A : Option Addr) (c : Nat) (w : World) (ht : IsTab w g) (h : Rd w w.heap.size A (bvs kAll)) => crcOf_grow g A 9 c kAll w ht h rfl (by decide)
  have c2 := fun (g : Nat) (A : Option Addr) (c : Nat) (w : World) (ht : IsTab w g) (h : Rd w w.heap.size A (bvs k4)) => crcOf_grow g A 4 c k4 w ht h rfl (by decide)
  have c3 := fun (g : Nat) (A : Option Addr) (c : Nat) (w : World) (ht : IsTab w g) (h : Rd w w.heap.size A (bvs k5)) => crcOf_grow g A 5 c k5 w ht h rfl (by decide)
  have c4 := fun (w : World) => crcJoin_any (crcOf k4) (crcOf k5) 5 w (by decide) (by decide)
  rw [kJoin] at c4
  rw [kAll_sum] at c1
  change ∀ _, Calls _ _ _ _ (fun e _ => e = .returned (.int .u32 (kSum.toNat : Int)) ∧ _) at c4
  rw [kSum_nat] at c4
  obtain ⟨s4, h4⟩ : ∃ s, s = crcOf k4 := ⟨_, rfl⟩
  obtain ⟨s5, h5⟩ : ∃ s, s = crcOf k5 := ⟨_, rfl⟩
  rw [← h4] at c2 c4
  rw [← h5] at c3 c4
  have C1 := Lib.hid c1
  have C2 := Lib.hid c2
  have C3 := Lib.hid c3
  have C4 := Lib.hid c4
  clear c1 c2 c3 c4 h4 h5
  have kc := fun (w : World) (C : Array Value) (n c : Nat) => Lib.run_convert_bytes_const (P := Try.prog) w 23 5 C n c Try.underlying23 Try.underlying5
  go_enter Try.func11, Try.ntmps11
  go_wp2_with fail
  refine (crcMake_any _).mono ?_
  rintro e w1 ⟨g, rfl, hg, ht, hb1⟩
  go_wp2_with fail
  refine (C1.out g _ _ _ (ht.alloc_ _) (Rd.newF w1 (bvs kAll).toArray 5 (9, 10))).mono ?_
  rintro e w2 ⟨rfl, hb2⟩
  rw [kSum_is]
  have hs := hb1.size
  have ht2 := (ht.alloc_ (.cells (bvs kAll).toArray 5 (9, 10))).grow hb2
  have hbb2 := (hb1.alloc hs (.cells (bvs kAll).toArray 5 (9, 10))).trans (hb2.mono (by simp; omega))
  clear hb1 hb2 ht
  go_wp2_with fail
  refine (C2.out g _ _ _ (ht2.alloc_ _) (Rd.newF w2 (bvs k4).toArray 5 (4, 5))).mono ?_
  rintro e w3 ⟨rfl, hb3⟩
  have hs2 := hbb2.size
  have ht3 := (ht2.alloc_ (.cells (bvs k4).toArray 5 (4, 5))).grow hb3
  have hbb3 := (hbb2.alloc hs2 (.cells (bvs k4).toArray 5 (4, 5))).trans (hb3.mono (by simp; omega))
  clear hbb2 hb3 ht2
  go_wp2_with fail
  refine (C3.out g _ _ _ (ht3.alloc_ _) (Rd.newF w3 (bvs k5).toArray 5 (5, 6))).mono ?_
  rintro e w4 ⟨rfl, hb4⟩
  have hs3 := hbb3.size
  have hbb4 := (hbb3.alloc hs3 (.cells (bvs k5).toArray 5 (5, 6))).trans (hb4.mono (by simp; omega))
  clear hbb3 hb4 ht3
  go_wp2_with fail
  refine (C4.out _).mono ?_
  rintro e w5 ⟨rfl, hb5⟩
  have hbb5 := hbb4.trans (hb5.mono hbb4.size)
  clear hbb4 hb5 kc
  go_wp2
  go_ret
  exact ⟨rfl, hbb5⟩
end Go.Proofs.Ytfflecnameiceaa
