/- Laws of layer 11: the fixed calls. -/
import Derived.Test.YtcenbaajojdjlaaGreatDoorRecBk2
namespace Go.Proofs.YtcenbaajojdjlaaGreatDoor
open Go.RowKit Go.Shelf

theorem k_go : goR 1 (stepsL 1) [1, 2, 4] [2, 2, 4] := ⟨[1, 1, 2], .inl ⟨rfl, by decide +kernel⟩, [2, 2, 4], .inr (.inr (.inl ⟨rfl, by decide +kernel⟩)), rfl⟩
theorem k_back : backC 1 1 3 [2, 2, 4] = some [1, 2, 4] := backC_go (.inl rfl) 1 [1, 2, 4] [2, 2, 4] (by decide) k_go
theorem rowB_new (w : World) (l : List UInt8) : IsBytes l (.slice (some ⟨w.heap.size, 0, none⟩) l.length l.length) (w.alloc (.cells (bvs l).toArray 5)) :=
  ⟨_, _, rfl, Nat.le_refl _, Rd.new w (bvs l).toArray _⟩
theorem str_run (l : List UInt8) (v : Value) (w : World) (h : IsBytes l v w) : (convert 22 9 v).run Tryz.prog w = .ok (.string ⟨l.toArray⟩) w := by
  obtain ⟨A, c, rfl, hc, hr⟩ := h
  exact run_str w 22 9 5 Tryz.underlying22 Tryz.underlying5 Tryz.underlying9 _ A l c hr _ rfl
set_option maxHeartbeats 1000000 in
set_option maxRecDepth 100000 in
theorem recKnown_any (w : World) (ht : TabA w) : Calls Tryz.prog 5 #[] w (Yes w) := by
  have C1 := Lib.hid (go_right (.inl rfl) 1 (by decide) [1, 2, 4] _ _ (rowB_new w [1, 2, 4]) (by decide) (ht.grow ((Below.refl w.heap.size w).alloc (Nat.le_refl _) _)))
  have C2 := Lib.hid (fun (w' : World) => back_right (.inl rfl) 1 (by decide) 3 (by decide) [2, 2, 4] _ _ (rowB_new w' [2, 2, 4]) (.inr (by decide)))
  have C3 := Lib.hid (fun (w' : World) => (show Calls Tryz.prog 10 #[.int .i64 2] w' fun e w'' => e = .returned (.int .i64 70) ∧ w' = w'' from recMost_any 2 w'))
  have C4 := Lib.hid (fun (w' : World) => (show Calls Tryz.prog 8 #[.int .i64 10] w' fun e w'' => ∃ v, e = .returned v ∧ IsCells (nvs [1, 3, 5, 7]) v w'' ∧ Below w'.heap.size w' w'' from steps_any 10 w'))
  have HB0 := Lib.hid ((Below.refl w.heap.size w).alloc (Nat.le_refl _) (.cells (bvs [1, 2, 4]).toArray 5))
  clear ht
  go_enter Tryz.func5, Tryz.ntmps5
  go_wp2_with fail
  refine C1.out.mono ?_
  rintro e w1 ⟨m, u, hgo, rfl, hu, hb1⟩
  obtain rfl := goR_unique hgo k_go
  have HB1 := Lib.hid (HB0.out.trans (hb1.mono HB0.out.size))
  have HU := Lib.hid hu
  clear hgo hb1 hu C1 HB0
  go_wp2_with fail
  have c2 := C2.out w1
  rw [k_back] at c2
  refine c2.mono ?_
  rintro e w2 ⟨A2, n2, c2, rfl, hb2, h2⟩
  have hb1a : Below w1.heap.size w1 (w1.alloc (.cells (bvs [2, 2, 4]).toArray 5)) := (Below.refl _ _).alloc (Nat.le_refl _) _
  have hb12 : Below w1.heap.size w1 w2 := hb1a.trans (hb2.mono hb1a.size)
  have HB2 := Lib.hid (HB1.out.trans (hb12.mono HB1.out.size))
  have hu2 := HU.out.grow hb12
  have h22 : IsBytes [1, 2, 4] _ w2 := h2
  obtain ⟨Au, cu, rfl, -, -⟩ := HU.out
  have hs1 : (convert 22 9 (.slice Au 3 cu)).run Tryz.prog w2 = .ok (.string ⟨#[2, 2, 4]⟩) w2 := str_run [2, 2, 4] _ _ hu2
  have hs2 : (convert 22 9 (.slice A2 n2 c2)).run Tryz.prog w2 = .ok (.string ⟨#[1, 2, 4]⟩) w2 := str_run [1, 2, 4] _ _ h22
  clear hu2 h22
  clear hb2 h2 hb1a hb12 C2 HB1
  have hen : errN (some [1, 2, 4]) = 0 := rfl
  rw [hen]
  clear hen
  go_wp2_with fail
  refine (C3.out _).mono ?_
  rintro e w3 ⟨rfl, rfl⟩
  clear hs1 hs2
  go_wp2_with fail
  refine (C4.out _).mono ?_
  rintro e w3 ⟨v3, rfl, ⟨A3, c3, rfl, -, -⟩, hb3⟩
  have HB3 := Lib.hid (HB2.out.trans (hb3.mono HB2.out.size))
  clear hb3
  have hn4 : (nvs [1, 3, 5, 7]).length = 4 := rfl
  rw [hn4]
  clear hn4
  go_wp2
  go_ret
  exact ⟨rfl, HB3.out⟩
end Go.Proofs.YtcenbaajojdjlaaGreatDoor
