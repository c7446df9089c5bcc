/- Layer 27: the fixed calls. -/
import Derived.Test.YtflcmmeoppdhdaaGreatMdsNam
import Derived.Lib.SlBytesConst
namespace Go.Proofs.YtflcmmeoppdhdaaGreat
open Go.RowKit Go.Sort Go.Shelf

theorem rd_newM (w : World) (cs : Array Value) (t : TypeId) (fr : Nat × Nat) : Rd (w.alloc (.cells cs t fr)) (w.alloc (.cells cs t fr)).heap.size (some ⟨w.heap.size, 0, none⟩) cs.toList := fun k u hu => by
  refine ⟨w.heap.size, 0, rfl, by simp, ?_⟩
  rw [Nat.zero_add, World.cell?_alloc_mark]
  rw [← hu]; simp
set_option maxRecDepth 100000 in
set_option maxHeartbeats 2000000 in
theorem mdsKnown_any (w : World) : Calls Tryz.prog 7 #[] w (Yes w) := by
  have C1 : Hid (∀ (v : Value) (W' : World), IsBytes [97] v W' → Calls Tryz.prog 8 #[.int .i64 0, v, .int .i64 1] W' (SaysM W' [97] 0)) := fun v W' h =>
    mdsCode_any (k := 0) (by decide) (V := 1) (.inl rfl) (v := v) (fun W2 hb => theyCode_any (l := [97]) 1 (h.grow hb) (by decide))
  have C2 := Lib.hid (mdsFind_any (nameAt_self (p := 4) (by decide)))
  have C3 := Lib.hid (mdsName_any 2)
  rw [show nameOf 2 = (⟨#[114, 97, 110, 115]⟩ : ByteArray) from rfl] at C3
  rw [show nmA 4 = (⟨#[98, 108, 101, 110, 100]⟩ : ByteArray) from rfl] at C2
  have hcv := fun (w : World) (C : Array Value) (n c : Nat) => Lib.run_convert_bytes_const (P := Tryz.prog) w 22 5 C n c Tryz.underlying22 Tryz.underlying5
  go_enter Tryz.func7, Tryz.ntmps7
  go_wp2_with fail
  have hk : IsBytes [97] (.slice (some ⟨w.heap.size, 0, none⟩) 1 1) (w.alloc (.cells #[.int .u8 97] 5 (1, 2))) := ⟨_, 1, rfl, by decide, rd_newM w #[.int .u8 97] _ _⟩
  refine (C1.out _ _ hk).mono ?_
  rintro e w1 ⟨v, rfl, hv, hb⟩
  have HV := Lib.hid hv
  have HB := Lib.hid (((Below.refl _ _).alloc (Nat.le_refl _) _).trans (hb.mono (by simp)))
  clear hv hb C1 hk hcv
  go_wp2_with fail
  refine (C2.out _).mono ?_
  rintro e w2 ⟨rfl, hb⟩
  have HV2 := Lib.hid (HV.out.grow hb)
  have HB2 := Lib.hid (HB.out.trans (hb.mono HB.out.size))
  clear hb
  go_wp2_with ((with_reducible show wpList _ _ _ (({ dst := some 19, op := _, type := _, pos := _, after := _, guard := _ } : Oper) :: _) _ _); go_must (refine wpList_strW rfl 22 9 5 (.tmp 18) rfl Tryz.underlying22 Tryz.underlying5 Tryz.underlying9 _ HV2.out ?_))
  refine (C3.out _).mono ?_
  rintro e w3 ⟨rfl, hb⟩
  have HB3 := Lib.hid (HB2.out.trans (hb.mono HB2.out.size))
  clear hb
  go_wp2
  go_ret
  exact ⟨rfl, HB3.out⟩
end Go.Proofs.YtflcmmeoppdhdaaGreat
