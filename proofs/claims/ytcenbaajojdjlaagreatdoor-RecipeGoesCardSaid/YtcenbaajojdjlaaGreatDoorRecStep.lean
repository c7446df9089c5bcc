/- Contracts of layer 11: what goes through words, and closures made of such. -/
import Derived.Test.YtcenbaajojdjlaaGreatDoorRecMath
import Derived.Test.YtcenbaajojdjlaaGreatDoorWordLay
import Derived.Test.YtcenbaajojdjlaaGreatDoorDeltaEach
import Derived.Test.YtcenbaajojdjlaaGreatDoorFoldEach
import Derived.Test.YtcenbaajojdjlaaGreatDoorFlipEach
import Derived.Test.YtcenbaajojdjlaaGreatDoorPlaneMove
import Derived.Test.YtcenbaajojdjlaaGreatDoorGorAny
import Derived.Test.YtcenbaajojdjlaaGreatDoorRunsPack
import Derived.Test.YtcenbaajojdjlaaGreatDoorRunsUnp
namespace Go.Proofs.YtcenbaajojdjlaaGreatDoor
open Go.RowKit Go.Shelf

/-- What a function of words comes to, of a width that is right. -/
def WordsFn (W K : Nat) (f : List Nat → List Nat) : Prop :=
  Enters Tryz.prog K ∧ (∀ ws, (f ws).length = ws.length) ∧ (∀ ws, ∀ x ∈ f ws, x < 256 ^ W) ∧
  ∀ (A : Option Addr) (c : Nat) (ws : List Nat) (w : World), Rd w w.heap.size A (wvs ws) → ws.length ≤ 100000 → (∀ x ∈ ws, x < 18446744073709551616) →
    Calls Tryz.prog K #[.slice A ws.length c, .int .i64 (W : Int)] w (NewW w (f ws))
theorem fn_diff {W : Nat} (hW : IsW W) : WordsFn W 24 (diffW W) := ⟨enters_of Tryz.func24 (by kernel_rfl) rfl, diffW_len W, diffW_lt W, fun A c ws w hr hb h64 => by have := deltaDiff_any (W : Int) A ws.length c ws w hr rfl (by omega) h64; rwa [ofW_of hW] at this⟩
theorem fn_sum {W : Nat} (hW : IsW W) : WordsFn W 25 (sumW W) := ⟨enters_of Tryz.func25 (by kernel_rfl) rfl, sumW_len W, sumW_lt W, fun A c ws w hr hb h64 => by have := deltaSum_any (W : Int) A ws.length c ws w hr rfl (by omega) h64; rwa [ofW_of hW] at this⟩
theorem fn_second {W : Nat} (hW : IsW W) : WordsFn W 26 (secondW W) := ⟨enters_of Tryz.func26 (by kernel_rfl) rfl, fun ws => by unfold secondW; rw [diffW_len, diffW_len], fun ws => diffW_lt W _, fun A c ws w hr hb h64 => by have := deltaSecond_any (W : Int) A ws.length c ws w hr rfl (by omega) h64; rwa [ofW_of hW] at this⟩
theorem fn_twice {W : Nat} (hW : IsW W) : WordsFn W 27 (twiceW W) := ⟨enters_of Tryz.func27 (by kernel_rfl) rfl, fun ws => by unfold twiceW; rw [sumW_len, sumW_len], fun ws => sumW_lt W _, fun A c ws w hr hb h64 => by have := deltaTwice_any (W : Int) A ws.length c ws w hr rfl (by omega) h64; rwa [ofW_of hW] at this⟩
theorem fn_fold {W : Nat} (hW : IsW W) : WordsFn W 28 (foldW W) := ⟨enters_of Tryz.func28 (by kernel_rfl) rfl, foldW_len W, foldW_lt hW, fun A c ws w hr hb h64 => by have := foldFold_any (W : Int) A ws.length c ws w hr rfl (by omega) h64; rwa [ofW_of hW] at this⟩
theorem fn_unfold {W : Nat} (hW : IsW W) : WordsFn W 29 (unfoldW W) := ⟨enters_of Tryz.func29 (by kernel_rfl) rfl, unfoldW_len W, unfoldW_lt hW, fun A c ws w hr hb h64 => by have := foldUnfold_any (W : Int) A ws.length c ws w hr rfl (by omega) h64; rwa [ofW_of hW] at this⟩
theorem fn_flip {W : Nat} (hW : IsW W) : WordsFn W 30 (flipW W) := ⟨enters_of Tryz.func30 (by kernel_rfl) rfl, flipW_len W, flipW_lt W, fun A c ws w hr hb h64 => by have := flipFlip_any (W : Int) A ws.length c ws w hr rfl (by omega) h64; rwa [ofW_of hW] at this⟩
theorem fn_back {W : Nat} (hW : IsW W) : WordsFn W 31 (backW W) := ⟨enters_of Tryz.func31 (by kernel_rfl) rfl, backW_len W, backW_lt W, fun A c ws w hr hb h64 => by have := flipBack_any (W : Int) A ws.length c ws w hr rfl (by omega) h64; rwa [ofW_of hW] at this⟩

set_option maxHeartbeats 1000000 in
set_option maxRecDepth 100000 in
/-- throughWords' closure, that has captured a function of words. -/
theorem through1_any {W : Nat} (hW : IsW W) (K : Nat) (f : List Nat → List Nat) (hK : WordsFn W K f) (g : Nat) (l : List UInt8) (v : Value) (w : World)
    (hg : Blk w g 51 [.func (.func K) #[] #[]]) (hv : IsBytes l v w) (hl : l.length ≤ 90000) :
    Calls Tryz.prog 83 #[v, .int .i64 (W : Int), .pointer (some ⟨g, 0, none⟩)] w (NewBs w (through f W l)) := by
  obtain ⟨A, c, rfl, hc, hr⟩ := hv
  have hp := hW.pos
  have c1 := wordTake_any W hW A l.length c l w hr rfl hc (by omega)
  obtain ⟨ws, hws⟩ : ∃ ws, ws = wordsOf W l := ⟨_, rfl⟩
  obtain ⟨rs, hrs⟩ : ∃ rs, rs = restOf W l := ⟨_, rfl⟩
  obtain ⟨X, hX⟩ : ∃ X, X = f ws := ⟨_, rfl⟩
  have hth : through f W l = layW W X ++ rs := by rw [hX, hws, hrs]; rfl
  rw [hth]
  rw [show wordsN (l.length / W) W l = ws from hws.symm, show l.drop (l.length / W * W) = rs from hrs.symm] at c1
  have hwl : ws.length ≤ 90000 := by rw [hws, wordsOf_len]; exact Nat.le_trans (Nat.div_le_self _ _) hl
  have hrl : rs.length < 8 := by have := rest_lt (W := W) (by omega) l; rw [hrs]; omega
  have h64 : ∀ x ∈ ws, x < 18446744073709551616 := by rw [hws]; exact lt_64 hW (wordsOf_lt (W := W) (by omega) l)
  have hx64 : ∀ x ∈ X, x < 18446744073709551616 := by rw [hX]; exact lt_64 hW (hK.2.2.1 ws)
  have hxl : X.length ≤ 90000 := by rw [hX, hK.2.1]; exact hwl
  have C1 := Lib.hid c1
  have C2 := Lib.hid (fun (A1 : Option Addr) (c1 : Nat) (w' : World) (h : Rd w' w'.heap.size A1 (wvs ws)) => hK.2.2.2 A1 c1 ws w' h (by omega) h64)
  rw [← hX] at C2
  have C3 := Lib.hid (fun (A1 : Option Addr) (c1 : Nat) (A2 : Option Addr) (c2 : Nat) (w' : World) (h : Rd w' w'.heap.size A1 (wvs X)) (h2 : Rd w' w'.heap.size A2 (bvs rs)) => wordLay_any W hW A1 X.length c1 X A2 rs.length c2 rs w' h rfl hx64 h2 rfl (by omega) (by omega))
  have HG := Lib.hid hg
  have HE := Lib.hid hK.1
  clear c1 hr hg hK h64 hx64 hW hth hws hrs hX hwl hxl hrl
  go_enter Tryz.func83, Tryz.ntmps83
  go_wp2_with fail
  refine C1.out.mono ?_
  rintro e w1 ⟨v1, v2, rfl, h1, h2, hb⟩
  have HG1 := Lib.hid (HG.out.grow hb)
  have HB := Lib.hid hb
  have H2 := Lib.hid h2
  obtain ⟨A1, c1, rfl, hc1, hr1⟩ := h1
  obtain ⟨A2, c2, rfl, hc2, hr2⟩ := h2
  have C4 := Lib.hid (C2.out A1 c1 w1 hr1)
  have hgc := HG1.out.cell 0
  simp only [List.getElem?_cons_zero] at hgc
  rw [wvs_length]
  clear hb hc1 hr1 hc2 hr2 C1 C2 HG
  go_wp2_with fail
  rw [HE.out]
  refine C4.out.mono ?_
  rintro e w2 ⟨v3, rfl, h3, hb2⟩
  have HB2 := Lib.hid (HB.out.trans (hb2.mono HB.out.size))
  have h2 := H2.out.grow hb2
  obtain ⟨A3, c3, rfl, -, hr3⟩ := h3
  obtain ⟨A4, c4, h4, -, hr4⟩ := h2
  obtain ⟨rfl, -, rfl⟩ : A2 = A4 ∧ rs.length = rs.length ∧ c2 = c4 := by simpa using h4
  have C5 := Lib.hid (C3.out A3 c3 A2 c2 w2 hr3 hr4)
  rw [wvs_length]
  clear hgc h4 hr3 hr4 hb2 HG1 HB C4 C3 H2
  go_wp2_with fail
  refine C5.out.mono ?_
  rintro e w3 ⟨v5, rfl, h5, hb3⟩
  have HB3 := Lib.hid (HB2.out.trans (hb3.mono HB2.out.size))
  have H5 := Lib.hid h5
  clear hb3 h5 C5 HB2
  go_wp2
  go_ret
  exact ⟨v5, rfl, H5.out, HB3.out⟩
end Go.Proofs.YtcenbaajojdjlaaGreatDoor
