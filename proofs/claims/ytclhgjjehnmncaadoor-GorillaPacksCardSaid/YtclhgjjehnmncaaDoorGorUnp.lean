/- Contract of gorilla.Unpack, of bytes that Pack laid, and noughts behind them. -/
import Derived.Test.YtclhgjjehnmncaaDoorGorTaken
import Derived.Test.YtclhgjjehnmncaaDoorWordSame
namespace Go.Proofs.YtclhgjjehnmncaaDoor
open Go.RowKit

/-- The value is a slice of bytes, which has a place unless it has no room. -/
def IsRow (l : List UInt8) (v : Value) (w : World) : Prop := ∃ A c, v = .slice A l.length c ∧ l.length ≤ c ∧ Rd w w.heap.size A (bvs l) ∧ (A = none → c = 0)
theorem IsRow.of_own {w : World} {base e : Nat} {v : Value} {l : List UInt8} (h : w.ownsRow base e 1 v l.length (bvs l)) : IsRow l v w := by
  obtain ⟨A, c, rfl, hc, _⟩ := own_form h
  refine ⟨A, c, rfl, hc, Rd.of_own h, fun hA => ?_⟩
  rcases h.2 with ⟨h0, _⟩ | ⟨g, cap, cur, h0, _⟩
  · injection h0
  · injection h0 with h1
    rw [hA] at h1
    cases h1
theorem IsRow.grow {l : List UInt8} {v : Value} {w w' : World} (h : IsRow l v w) (hb : Below w.heap.size w w') : IsRow l v w' := by
  obtain ⟨A, c, rfl, hc, hr, h0⟩ := h
  exact ⟨A, c, rfl, hc, (hr.below hb).more hb.size, h0⟩
theorem IsRow.bytes {l : List UInt8} {v : Value} {w : World} (h : IsRow l v w) : IsBytes l v w := by
  obtain ⟨A, c, rfl, hc, hr, -⟩ := h
  exact ⟨A, c, rfl, hc, hr⟩
/-- What Unpack answers. -/
def GUnp (w : World) (W p : Nat) (ws : List Nat) (e : Ending) (w' : World) : Prop :=
  ∃ (v : Value) (f : Nat), e = .returned (.tuple #[v, .int .i64 (f : Int)]) ∧ Below w.heap.size w w' ∧ f = (if p < 8 then 0 else 16) ∧ (p < 8 → IsCells (wvs (fitW W ws)) v w')

set_option maxHeartbeats 2000000 in
set_option maxRecDepth 100000 in
theorem gorUnpack_right {W : Nat} (hW : IsW W) (l : List UInt8) (v : Value) (p : Nat) (ws : List Nat) (n : Nat) (hn : ws.length = n) (w : World) (hv : IsRow l v w) (hl : l.length ≤ 1000000) (hb1 : n ≤ 1000) (hp : p ≤ 1000) (hall : allBits l = packB W ws ++ List.replicate p false) :
    Calls Tryd.prog 11 #[v, .int .i64 (W : Int), .int .i64 (n : Int)] w (GUnp w W p ws) := by
  subst hn
  obtain ⟨A, c, rfl, hc, hr, hA⟩ := hv
  have C1 := Lib.hid (wordRight_any (W : Int) true hW.right)
  have hXl := flipW_len W ws
  have hXt := flipW_lt W ws
  have c2 := read_any A l.length c l w hr rfl (by omega) hA
  rw [hall] at c2
  have C2 := Lib.hid c2
  have C3 := Lib.hid (fun (g : Nat) (w' : World) (h : RdrIs w' g (packB W ws ++ List.replicate p false) 0) => taken_any hW g p (flipW W ws) ws.length (flipW_len W ws) hb1 hXt hp w' h)
  have hbf := back_flip W ws
  have hlt := fun x (hx : x ∈ flipW W ws) => Nat.lt_of_lt_of_le (hXt x hx) (show 256 ^ W ≤ 18446744073709551616 by rcases hW with rfl | rfl | rfl | rfl <;> decide)
  obtain ⟨X, hX⟩ : ∃ X, X = flipW W ws := ⟨_, rfl⟩
  rw [← hX] at C3 hbf hXl hlt
  have C4 := Lib.hid (fun (A' : Option Addr) (c' : Nat) (w' : World) (h : Rd w' w'.heap.size A' (wvs X)) => flipBack_right W hW A' X.length c' X w' h rfl (by omega) hlt)
  rw [hbf] at C4
  have hwi : (ws.length : Int) ≤ 1000 := by omega
  clear c2 hXt hbf hX hlt hW hr hA hall hXl
  go_enter Tryd.func11, Tryd.ntmps11
  go_wp2_with fail
  refine (C1.out _).mono ?_
  rintro e w' ⟨rfl, rfl⟩
  go_wp2_with fail
  refine C2.out.mono ?_
  rintro e w1 ⟨g, rfl, hg, hrd, hb1'⟩
  have HB1 := Lib.hid hb1'
  have HG := Lib.hid hg
  have C5 := Lib.hid (C3.out g w1 hrd)
  clear hg hrd hb1' C2 C3
  go_wp2_with fail
  refine C5.out.mono ?_
  rintro e w2 ⟨v2, rfl, hown, ho⟩
  obtain ⟨A2, c2, rfl, hc2, -, -⟩ := own_form hown
  have HB2 := Lib.hid (HB1.out.trans ((ho.base HG.out).below HB1.out.size))
  have C6 := Lib.hid (C4.out A2 c2 w2 (Rd.of_own hown))
  clear hown ho C5 C4
  by_cases h8 : p < 8
  · have hd : decide (p < 8) = true := by simpa using h8
    rw [hd]
    have H8 := Lib.hid h8
    clear h8 hd
    go_wp2_with fail
    refine C6.out.mono ?_
    rintro e w3 ⟨v3, rfl, hv3, hb3⟩
    have HV := Lib.hid hv3
    have HB3 := Lib.hid (HB2.out.trans (hb3.mono HB2.out.size))
    clear hv3 hb3 C6
    go_wp2
    go_ret2
    exact ⟨_, 0, rfl, HB3.out, by rw [if_pos H8.out], fun _ => HV.out⟩
  · have hd : decide (p < 8) = false := by simpa using h8
    rw [hd]
    have H8 := Lib.hid h8
    clear h8 hd C6
    go_wp2_with fail
    go_ret2
    exact ⟨_, 16, rfl, HB2.out, by rw [if_neg H8.out], fun h => absurd h H8.out⟩
end Go.Proofs.YtclhgjjehnmncaaDoor
