/- Contracts of gorilla.Most and its reference; Pack by a width that is not right. · Pack and its reference, of any width. -/
import Derived.Test.YtcenbaajojdjlaaGreatDoorGorPack
import Derived.Test.YtcenbaajojdjlaaGreatDoorGorBits
namespace Go.Proofs.YtcenbaajojdjlaaGreatDoor
open Go.RowKit

/-- How many bytes words have at most. -/
def mostG (n W : Int) : Int := if rightB W = true ∧ 1 ≤ n ∧ n ≤ 1099511627776 then (8 * W + (n - 1) * (8 * W + 14) + 7) / 8 else 0
theorem mostG_not {n W : Int} (h : rightB W = false ∨ n < 1 ∨ 1099511627776 < n) : mostG n W = 0 := by
  unfold mostG
  rw [if_neg]
  rintro ⟨h1, h2, h3⟩
  rcases h with h | h | h
  · rw [h1] at h; cases h
  · omega
  · omega
end Go.Proofs.YtcenbaajojdjlaaGreatDoor
namespace Go.Proofs.YtcenbaajojdjlaaGreatDoor
open Go.RowKit

def packG (W : Int) (ws : List Nat) : List Bool := if rightB W = true then packB W.toNat ws else []
theorem packG_of {W : Nat} (hW : IsW W) (ws : List Nat) : packG (W : Int) ws = packB W ws := by
  unfold packG
  rw [hW.right.symm, if_pos rfl]
  rfl
theorem packs_nil_eq {bs : List UInt8} (h : Packs bs []) : bs = [] := h.unique Packs.nil
def AnyRel (w : World) (g : Nat) (i : Value) (wr : World) : Prop := i = .int .i64 0 ∧ WrAt wr w.heap.size g [] ∧ Below w.heap.size w wr
set_option maxHeartbeats 2000000 in
set_option maxRecDepth 100000 in
theorem gorPack_wrong (W : Int) (hW : rightB W = false) (a : Value) (w : World) :
    Calls Tryz.prog 69 #[a, .int .i64 W] w fun e w' => ∃ bs, Packs bs [] ∧ NewBy w bs e w' := by
  have C1 := Lib.hid (fun (w' : World) => flipFlip_wrong a W w' hW)
  clear hW
  go_enter Tryz.func69, Tryz.ntmps69
  go_wp2_with fail
  have hb1 : Below w.heap.size w ((w.alloc (.cells #[.slice none 0 0, .int .i64 0] 94)).alloc (.cells #[.int .i64 0, .int .i64 0, .int .i64 0] 96)) := ((Below.refl _ _).alloc (Nat.le_refl _) _).alloc (by simp) _
  have hat1 := (wrAt_new w w.heap.size (Nat.le_refl _)).only (OnlyT.of_below (B := 0) (ts := []) ((Below.refl _ _).alloc (Nat.le_refl _) (.cells #[.int .i64 0, .int .i64 0, .int .i64 0] 96))) (by decide) (by decide)
  refine (C1.out _).mono ?_
  rintro e w2 ⟨v, rfl, ⟨A1, c1, rfl, -, -⟩, hb2⟩
  have HAT := Lib.hid (hat1.only (OnlyT.of_below (B := 0) (ts := []) hb2) (by decide) (by decide))
  have HB := Lib.hid (hb1.trans (hb2.mono hb1.size))
  clear hb1 hat1 hb2 C1
  rw [show (wvs ([] : List Nat)).length = 0 from rfl]
  go_wp2_with fail
  go_loopw [15] (fun i wr => AnyRel w w.heap.size i wr) (fun _ _ => 0)
  case atStart => exact ⟨rfl, HAT.out, HB.out⟩
  case round =>
    clear HAT HB
    obtain ⟨rfl, hat, hbel⟩ := hrel
    have C2 := Lib.hid (wBytes_any w.heap.size w.heap.size [] wr hat (by decide))
    have HBE := Lib.hid hbel
    clear hat hbel
    go_wp2_with fail
    refine C2.out.mono ?_
    rintro e w3 ⟨bs, hpk, v, rfl, hown, hb3⟩
    have HR := Lib.hid (own_more hown HBE.out.size)
    have HB3 := Lib.hid (HBE.out.trans (hb3.mono HBE.out.size))
    clear hown hb3 C2
    go_wp2_with fail
    go_ret
    exact ⟨bs, hpk, _, rfl, HR.out, HB3.out⟩
theorem gPack_any (W : Int) (A : Option Addr) (n c : Nat) (ws : List Nat) (w : World) (hr : Rd w w.heap.size A (wvs ws)) (hn : ws.length = n) (hb1 : n ≤ 1000) (hlt64 : ∀ x ∈ ws, x < 18446744073709551616) (ht : TabA w) :
    Calls Tryz.prog 69 #[.slice A n c, .int .i64 W] w fun e w' => ∃ bs, Packs bs (packG W ws) ∧ NewBy w bs e w' := by
  cases hR : rightB W with
  | true =>
    obtain ⟨V, rfl, hV⟩ := isW_of hR
    rw [packG_of hV]
    exact gorPack_right hV A n c ws w hr hn hb1 hlt64 ht
  | false =>
    unfold packG
    rw [hR, if_neg (by decide)]
    exact gorPack_wrong W hR _ w
set_option maxHeartbeats 2000000 in
set_option maxRecDepth 100000 in
theorem rPack_any (W : Int) (A : Option Addr) (n c : Nat) (ws : List Nat) (w : World) (hr : Rd w w.heap.size A (wvs ws)) (hn : ws.length = n) (hb1 : n ≤ 1000) (hlt64 : ∀ x ∈ ws, x < 18446744073709551616) :
    Calls Tryz.prog 45 #[.slice A n c, .int .i64 W] w fun e w' => ∃ bs, Packs bs (packG W ws) ∧ NewBy w bs e w' := by
  cases hR : rightB W with
  | true =>
    obtain ⟨V, rfl, hV⟩ := isW_of hR
    rw [packG_of hV]
    have C1 := Lib.hid (refRight_any (V : Int) true hV.right)
    have C2 := Lib.hid (rBits_any hV A n c ws w hr hn hb1 hlt64)
    obtain ⟨L, hL⟩ : ∃ L, L = packB V ws := ⟨_, rfl⟩
    rw [← hL] at C2
    rw [← hL]
    clear hR hV hr hn hb1 hlt64 hL
    go_enter Tryz.func45, Tryz.ntmps45
    go_wp2_with fail
    refine (C1.out _).mono ?_
    rintro e w' ⟨rfl, rfl⟩
    go_wp2_with fail
    refine C2.out.mono ?_
    rintro e w2 ⟨v, rfl, hown, hb2, hl2⟩
    obtain ⟨A2, c2, rfl, -, -, -⟩ := own_form hown
    have C3 := Lib.hid (rfBytes_any A2 L.length c2 L w2 (Rd.of_own hown) rfl (by omega))
    have HB := Lib.hid hb2
    clear hown hb2 C2 hl2
    go_wp2_with fail
    refine C3.out.mono ?_
    rintro e w3 ⟨bs, hpk, v, rfl, hown3, hb3⟩
    have HR := Lib.hid (own_more hown3 HB.out.size)
    have HB3 := Lib.hid (HB.out.trans (hb3.mono HB.out.size))
    clear hown3 hb3 C3
    go_wp2_with fail
    go_ret
    exact ⟨bs, hpk, _, rfl, HR.out, HB3.out⟩
  | false =>
    unfold packG
    rw [hR, if_neg (by decide)]
    have C1 := Lib.hid (refRight_any W false hR.symm)
    clear hR hr hn hb1 hlt64
    go_enter Tryz.func45, Tryz.ntmps45
    go_wp2_with fail
    refine (C1.out _).mono ?_
    rintro e w' ⟨rfl, rfl⟩
    go_wp2
    go_ret
    exact ⟨[], Packs.nil, _, rfl, World.ownsRow_nil _ _ _ _, Below.refl _ _⟩
end Go.Proofs.YtcenbaajojdjlaaGreatDoor
