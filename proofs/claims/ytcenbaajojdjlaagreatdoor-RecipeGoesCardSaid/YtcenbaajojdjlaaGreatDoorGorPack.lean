/- Contract of gorilla.Pack. -/
import Derived.Test.YtcenbaajojdjlaaGreatDoorGorLay
import Derived.Test.YtcenbaajojdjlaaGreatDoorFlipEach
namespace Go.Proofs.YtcenbaajojdjlaaGreatDoor
open Go.RowKit

theorem winLay_any {W : Nat} (hW : IsW W) (s : Win) (hs : winOk W s) (x : Nat) (hx : x < 256 ^ W) (g B : Nat) (L : List Bool) (w : World) (h : WrAt w B g L) (hl : L.length < 800000000) (ht : TabA w) (hB0 : 0 < B) :
    Calls Tryz.prog 92 #[winV W s, .pointer (some ⟨g, 0, none⟩), .int .u64 (x : Int), .int .i64 (W : Int)] w (Lays w B g W L s x) := by
  by_cases h0 : x = 0
  · subst h0
    exact winLay_zero s hs g B L w h hl
  · cases hh : hasB s (aboveN W x) (belowN x) with
    | true => exact winLay_in hW s hs x h0 hx hh g B L w h hl ht hB0
    | false => exact winLay_new hW s hs x h0 hx hh g B L w h hl ht hB0
theorem TabA.pos {w : World} (h : TabA w) : 0 < w.heap.size := by
  obtain ⟨o, ho, _⟩ := cells_of_cell (h 0 (by decide))
  exact Nat.lt_of_le_of_lt (Nat.zero_le _) (Array.getElem?_eq_some_iff.1 ho).1
theorem gorL_next {W : Nat} {s : Win} {X : List Nat} {k x : Nat} (hk : X[k]? = some x) : gorL W s (X.drop k) = stepB W s x ++ gorL W (nextW W s x) (X.drop (k + 1)) := by
  obtain ⟨h, rfl⟩ := List.getElem?_eq_some_iff.1 hk
  rw [List.drop_eq_getElem_cons h]
  rfl
theorem gorB_first {W : Nat} {X : List Nat} {x : Nat} (hk : X[0]? = some x) : gorB W X = bitsOf x (8 * W) ++ gorL W none (X.drop 1) := by
  cases X with
  | nil => simp at hk
  | cons y t =>
    simp at hk
    subst hk
    rfl

/-- What holds at the head of a round. -/
def GPackRel (w : World) (W : Nat) (X : List Nat) (A : Option Addr) (g p : Nat) (i : Value) (wr : World) : Prop :=
  ∃ (k : Nat) (L : List Bool) (s : Win) (a m b : Nat), k ≤ X.length ∧ i = .int .i64 (k : Int) ∧ winV W s = triV a m b ∧ winOk W s ∧ WrAt wr w.heap.size g L ∧ Blk wr p 96 [.int .i64 (a : Int), .int .i64 (m : Int), .int .i64 (b : Int)] ∧
    RdT wr 63 A (wvs X) ∧ Below w.heap.size w wr ∧ L.length ≤ k * 78 ∧ Hid ((k = 0 ∧ L = [] ∧ s = none) ∨ (0 < k ∧ L ++ gorL W s (X.drop k) = gorB W X))

set_option maxHeartbeats 2000000 in
set_option maxRecDepth 100000 in
theorem gorPack_right {W : Nat} (hW : IsW W) (A : Option Addr) (n c : Nat) (ws : List Nat) (w : World) (hr : Rd w w.heap.size A (wvs ws)) (hn : ws.length = n) (hb1 : n ≤ 1000) (hlt64 : ∀ x ∈ ws, x < 18446744073709551616) (ht : TabA w) :
    Calls Tryz.prog 69 #[.slice A n c, .int .i64 (W : Int)] w fun e w' => ∃ bs, Packs bs (packB W ws) ∧ NewBy w bs e w' := by
  subst hn
  have hp := hW.pos
  have h8 : 256 ^ W ≤ 18446744073709551616 := by rcases hW with rfl | rfl | rfl | rfl <;> decide
  have C1 := Lib.hid (fun (w' : World) (hb : Below w.heap.size w w') => flipFlip_own W hW A ws.length c ws w' ((hr.below hb).more hb.size) rfl (by omega) hlt64)
  have hXl := flipW_len W ws
  have hXt := flipW_lt W ws
  have hpk : packB W ws = gorB W (flipW W ws) := rfl
  obtain ⟨X, hX⟩ : ∃ X, X = flipW W ws := ⟨_, rfl⟩
  rw [← hX] at C1 hXl hXt hpk
  rw [hpk]
  have HX := Lib.hid hXt
  have HXL := Lib.hid hXl
  have HT := Lib.hid ht
  have HT0 := Lib.hid ht.pos
  have HP := Lib.hid (And.intro hp h8)
  have HW := Lib.hid hW
  have hW8 : (W : Int) ≤ 8 := by omega
  have hXb : (X.length : Int) ≤ 1000 := by omega
  have hW1 : (1 : Int) ≤ (W : Int) := by omega
  clear hX hXl hXt hpk ht hp h8 hr hlt64 hW
  go_enter Tryz.func69, Tryz.ntmps69
  go_wp2_with fail
  have hb1 : Below w.heap.size w ((w.alloc (.cells #[.slice none 0 0, .int .i64 0] 94)).alloc (.cells #[.int .i64 0, .int .i64 0, .int .i64 0] 96)) := ((Below.refl _ _).alloc (Nat.le_refl _) _).alloc (by simp) _
  have hat1 := (wrAt_new w w.heap.size (Nat.le_refl _)).only (OnlyT.of_below (B := 0) (ts := []) ((Below.refl _ _).alloc (Nat.le_refl _) (.cells #[.int .i64 0, .int .i64 0, .int .i64 0] 96))) (by decide) (by decide)
  have hk1 : Blk ((w.alloc (.cells #[.slice none 0 0, .int .i64 0] 94)).alloc (.cells #[.int .i64 0, .int .i64 0, .int .i64 0] 96)) (w.heap.size + 1) 96 [.int .i64 0, .int .i64 0, .int .i64 0] := by
    have := heap_alloc_new (w.alloc (.cells #[.slice none 0 0, .int .i64 0] 94)) (.cells #[.int .i64 0, .int .i64 0, .int .i64 0] 96)
    simpa [Blk] using this
  refine (C1.out _ hb1).mono ?_
  rintro e w2 ⟨v, rfl, hown, hb2⟩
  have HAT := Lib.hid (hat1.only (OnlyT.of_below (B := 0) (ts := []) hb2) (by decide) (by decide))
  have HK := Lib.hid (hk1.grow hb2)
  have HB := Lib.hid (hb1.trans (hb2.mono hb1.size))
  obtain ⟨A1, c1, rfl, hc1, -, -⟩ := own_form hown
  have HR := Lib.hid (RdT.of_own hown)
  clear hb1 hat1 hk1 hb2 hown C1
  obtain ⟨P, hP⟩ : ∃ P, P = w.heap.size + 1 := ⟨_, rfl⟩
  rw [← hP] at HK
  rw [← hP]
  have HPP := Lib.hid hP
  clear hP
  go_wp2_with fail
  go_loopw [15, 7, 8] (fun i _ _ wr => GPackRel w W X A1 w.heap.size P i wr) (fun i _ _ _ => X.length - (intOf i).toNat)
  case atStart => exact ⟨0, [], none, 0, 0, 0, Nat.zero_le _, rfl, rfl, trivial, HAT.out, HK.out, HR.out, HB.out, Nat.zero_le _, Lib.hid (.inl ⟨rfl, rfl, rfl⟩)⟩
  case round =>
    clear HAT HK HR HB
    obtain ⟨k, L, s, a, m, b, hk, rfl, hf, hs, hat, hblk, hrd, hbel, hll, HG⟩ := hrel
    have HXL2 := HXL.out
    by_cases hlt : k < X.length
    · obtain ⟨ab, ao, rfl, -, hcell⟩ := hrd k _ (wvs_get X k hlt)
      obtain ⟨x, hx0⟩ : ∃ x, x = X[k] := ⟨_, rfl⟩
      rw [← hx0] at hcell
      have hxl : x < 256 ^ W := by rw [hx0]; exact HX.out _ (List.getElem_mem _)
      have hx : X[k]? = some x := by rw [hx0]; simp
      clear hx0
      have hki : (k : Int) < (X.length : Int) := by omega
      have HAT := Lib.hid hat
      have HBL := Lib.hid hblk
      have HRD := Lib.hid hrd
      have HBE := Lib.hid hbel
      have HLL := Lib.hid (And.intro hll (And.intro hlt HXL2))
      by_cases hk0 : k = 0
      · subst hk0
        rw [Nat.add_zero] at hcell
        have hg : L = [] ∧ s = none := by
          rcases HG.out with ⟨-, h1, h2⟩ | ⟨h1, -⟩
          · exact ⟨h1, h2⟩
          · omega
        obtain ⟨rfl, rfl⟩ := hg
        have hV : 8 * (W : Int) = ((8 * W : Nat) : Int) := by omega
        have c2 := wPut_any w.heap.size w.heap.size [] x (8 * W) wr hat (by simp) (by have := HP.out.2; omega) (by have := HP.out.1; omega)
        rw [← hV] at c2
        have C2 := Lib.hid c2
        have HH := Lib.hid (And.intro hf (And.intro hx hxl))
        clear hV c2 hat hblk hrd hbel hll hlt HXL2 hf hs hx hxl
        go_wp2_with fail
        refine C2.out.mono ?_
        rintro e w3 ⟨rfl, hat3, ho3⟩
        have HAT3 := Lib.hid hat3
        have HO3 := Lib.hid ho3
        clear hat3 ho3 C2
        go_wp2_with fail
        have hpl : 0 < X.length := HLL.out.2.1
        refine ⟨⟨0 + 1, [] ++ bitsOf x (8 * W), none, a, m, b, hpl, by go_num, HH.out.1, trivial, HAT3.out, HBL.out.only HO3.out (by decide), HRD.out.only HO3.out (by decide), HBE.out.trans (HO3.out.below HBE.out.size), ?_, Lib.hid (.inr ⟨by omega, ?_⟩)⟩, ?_⟩
        · have := HP.out.1
          simp [bitsOf_length]
          omega
        · rw [gorB_first HH.out.2.1]
          rfl
        · simp [intOf]; omega
      · have hki0 : ((k : Int) == 0) = false := by rw [beq_eq_false_iff_ne]; omega
        have hg : L ++ gorL W s (X.drop k) = gorB W X := by
          rcases HG.out with ⟨h1, -, -⟩ | ⟨-, h1⟩
          · exact absurd h1 hk0
          · exact h1
        rw [gorL_next hx, ← List.append_assoc] at hg
        have c2 := winLay_any HW.out s hs x hxl w.heap.size w.heap.size L wr hat (by omega) (HT.out.below hbel HT0.out) HT0.out
        have hsl := stepB_len (W := W) (x := x) (s := s)
        have hs2 := nextW_ok (by have := HP.out.1; omega) hxl hs
        unfold Lays at c2
        obtain ⟨a1, m1, b1, hf1, -, -, -, -, -⟩ := winV_form W (nextW W s x) hs2
        rw [hf, hf1] at c2
        unfold triV at c2
        have hc := hblk
        have c0 := hc.cell 0
        have c1 := hc.cell 1
        have c2' := hc.cell 2
        simp only [List.getElem?_cons_zero, List.getElem?_cons_succ] at c0 c1 c2'
        have C2 := Lib.hid c2
        have HH := Lib.hid (And.intro hg (And.intro hsl (And.intro hs2 (And.intro hf1 hk0))))
        clear c2 hat hblk hrd hbel hll hlt HXL2 hf hs hx hxl hg hsl hs2 hf1 hc HG
        go_wp2_with fail
        refine C2.out.mono ?_
        rintro e w3 ⟨rfl, hat3, ho3⟩
        have hk3 := HBL.out.only ho3 (by decide)
        have HAT3 := Lib.hid hat3
        have HO3 := Lib.hid ho3
        have HK3 := Lib.hid hk3
        have d0 := hk3.cell 0
        have d1 := hk3.cell 1
        have d2 := hk3.cell 2
        simp only [List.getElem?_cons_zero, List.getElem?_cons_succ] at d0 d1 d2
        have f0 := hk3.frozen 0
        have f1 := hk3.frozen 1
        have f2 := hk3.frozen 2
        clear hat3 ho3 C2 hk3 c0 c1 c2'
        go_wp2_with fail
        have hso := set3_only HK3.out (B := w.heap.size) (by have := HPP.out; omega) (.int .i64 (a1 : Int)) (.int .i64 (m1 : Int)) (.int .i64 (b1 : Int))
        have hb3 := HBE.out.trans (HO3.out.below HBE.out.size)
        refine ⟨⟨k + 1, L ++ stepB W s x, nextW W s x, a1, m1, b1, HLL.out.2.1, by go_num, HH.out.2.2.2.1, HH.out.2.2.1, HAT3.out.only hso (by decide) (by decide), set3 HK3.out _ _ _, (HRD.out.only HO3.out (by decide)).only hso (by decide), hb3.trans (hso.below hb3.size), ?_, Lib.hid (.inr ⟨by omega, HH.out.1⟩)⟩, ?_⟩
        · have h1 := HH.out.2.1
          have h2 := HP.out.1
          have h3 := HLL.out.1
          rw [List.length_append]
          omega
        · have := HLL.out.2.1
          simp [intOf]; omega
    · have hki : ¬ (k : Int) < (X.length : Int) := by omega
      have hL : L = gorB W X := by
        rcases HG.out with ⟨h1, h2, -⟩ | ⟨h1, h2⟩
        · have : X = [] := List.length_eq_zero_iff.1 (by omega)
          rw [h2, this]; rfl
        · rw [List.drop_of_length_le (by omega)] at h2
          simpa [gorL] using h2
      have C2 := Lib.hid (wBytes_any w.heap.size w.heap.size L wr hat (by omega))
      have HBE := Lib.hid hbel
      have HL := Lib.hid hL
      clear hat hblk hrd hbel hll hlt HXL2 hf hs hL HG
      go_wp2_with fail
      refine C2.out.mono ?_
      rintro e w3 ⟨bs, hpk, v, rfl, hown, hb3⟩
      have HR := Lib.hid (own_more hown HBE.out.size)
      have HB3 := Lib.hid (HBE.out.trans (hb3.mono HBE.out.size))
      clear hown hb3 C2
      go_wp2_with fail
      go_ret
      exact ⟨bs, HL.out ▸ hpk, _, rfl, HR.out, HB3.out⟩
end Go.Proofs.YtcenbaajojdjlaaGreatDoor
