/- Contract of gorilla.Unpack, of bytes that Pack laid, and noughts behind them. · Contract of gorilla.Unpack, of any bytes, any width, any number. -/
import Derived.Test.YtcenbaajojdjlaaGreatDoorGorTaken
import Derived.Test.YtcenbaajojdjlaaGreatDoorWordSame
import Derived.Test.YtcenbaajojdjlaaGreatDoorGorTak3
namespace Go.Proofs.YtcenbaajojdjlaaGreatDoor
open Go.RowKit

/-- The value is a slice of bytes, which has a place unless it has no room. -/
def IsRow (l : List UInt8) (v : Value) (w : World) : Prop := ∃ A c, v = .slice A l.length c ∧ l.length ≤ c ∧ Rd w w.heap.size A (bvs l) ∧ (A = none → c = 0)
theorem IsRow.of_own {w : World} {base e : Nat} {v : Value} {l : List UInt8} (h : w.ownsRow base e 1 v l.length (bvs l)) : IsRow l v w := by
  obtain ⟨A, c, rfl, hc, _⟩ := own_form h
  refine ⟨A, c, rfl, hc, Rd.of_own h, fun hA => ?_⟩
  rcases h.2 with ⟨h0, _⟩ | ⟨g, cap, cur, h0, _⟩
  · injection h0
  · injection h0 with h1
    rw [hA] at h1
    cases h1
theorem IsRow.grow {l : List UInt8} {v : Value} {w w' : World} (h : IsRow l v w) (hb : Below w.heap.size w w') : IsRow l v w' := by
  obtain ⟨A, c, rfl, hc, hr, h0⟩ := h
  exact ⟨A, c, rfl, hc, (hr.below hb).more hb.size, h0⟩
theorem IsRow.bytes {l : List UInt8} {v : Value} {w : World} (h : IsRow l v w) : IsBytes l v w := by
  obtain ⟨A, c, rfl, hc, hr, -⟩ := h
  exact ⟨A, c, rfl, hc, hr⟩
/-- What Unpack answers. -/
def GUnp (w : World) (W p : Nat) (ws : List Nat) (e : Ending) (w' : World) : Prop :=
  ∃ (v : Value) (f : Nat), e = .returned (.tuple #[v, .int .i64 (f : Int)]) ∧ Below w.heap.size w w' ∧ f = (if p < 8 then 0 else 16) ∧ (p < 8 → IsCells (wvs (fitW W ws)) v w')

set_option maxHeartbeats 2000000 in
set_option maxRecDepth 100000 in
theorem gorUnpack_right {W : Nat} (hW : IsW W) (l : List UInt8) (v : Value) (p : Nat) (ws : List Nat) (n : Nat) (hn : ws.length = n) (w : World) (hv : IsRow l v w) (hl : l.length ≤ 1000000) (hb1 : n ≤ 1000) (hp : p ≤ 1000) (hall : allBits l = packB W ws ++ List.replicate p false) :
    Calls Tryz.prog 70 #[v, .int .i64 (W : Int), .int .i64 (n : Int)] w (GUnp w W p ws) := by
  subst hn
  obtain ⟨A, c, rfl, hc, hr, hA⟩ := hv
  have C1 := Lib.hid (wordRight_any (W : Int) true hW.right)
  have hXl := flipW_len W ws
  have hXt := flipW_lt W ws
  have c2 := read_any A l.length c l w hr rfl (by omega) hA
  rw [hall] at c2
  have C2 := Lib.hid c2
  have C3 := Lib.hid (fun (g : Nat) (w' : World) (h : RdrIs w' g (packB W ws ++ List.replicate p false) 0) => taken_any hW g p (flipW W ws) ws.length (flipW_len W ws) hb1 hXt hp w' h)
  have hbf := back_flip W ws
  have hlt := fun x (hx : x ∈ flipW W ws) => Nat.lt_of_lt_of_le (hXt x hx) (show 256 ^ W ≤ 18446744073709551616 by rcases hW with rfl | rfl | rfl | rfl <;> decide)
  obtain ⟨X, hX⟩ : ∃ X, X = flipW W ws := ⟨_, rfl⟩
  rw [← hX] at C3 hbf hXl hlt
  have C4 := Lib.hid (fun (A' : Option Addr) (c' : Nat) (w' : World) (h : Rd w' w'.heap.size A' (wvs X)) => flipBack_right W hW A' X.length c' X w' h rfl (by omega) hlt)
  rw [hbf] at C4
  have hwi : (ws.length : Int) ≤ 1000 := by omega
  clear c2 hXt hbf hX hlt hW hr hA hall hXl
  go_enter Tryz.func70, Tryz.ntmps70
  go_wp2_with fail
  refine (C1.out _).mono ?_
  rintro e w' ⟨rfl, rfl⟩
  go_wp2_with fail
  refine C2.out.mono ?_
  rintro e w1 ⟨g, rfl, hg, hrd, hb1'⟩
  have HB1 := Lib.hid hb1'
  have HG := Lib.hid hg
  have C5 := Lib.hid (C3.out g w1 hrd)
  clear hg hrd hb1' C2 C3
  go_wp2_with fail
  refine C5.out.mono ?_
  rintro e w2 ⟨v2, rfl, hown, ho⟩
  obtain ⟨A2, c2, rfl, hc2, -, -⟩ := own_form hown
  have HB2 := Lib.hid (HB1.out.trans ((ho.base HG.out).below HB1.out.size))
  have C6 := Lib.hid (C4.out A2 c2 w2 (Rd.of_own hown))
  clear hown ho C5 C4
  by_cases h8 : p < 8
  · have hd : decide (p < 8) = true := by simpa using h8
    rw [hd]
    have H8 := Lib.hid h8
    clear h8 hd
    go_wp2_with fail
    refine C6.out.mono ?_
    rintro e w3 ⟨v3, rfl, hv3, hb3⟩
    have HV := Lib.hid hv3
    have HB3 := Lib.hid (HB2.out.trans (hb3.mono HB2.out.size))
    clear hv3 hb3 C6
    go_wp2
    go_ret2
    exact ⟨_, 0, rfl, HB3.out, by rw [if_pos H8.out], fun _ => HV.out⟩
  · have hd : decide (p < 8) = false := by simpa using h8
    rw [hd]
    have H8 := Lib.hid h8
    clear h8 hd C6
    go_wp2_with fail
    go_ret2
    exact ⟨_, 16, rfl, HB2.out, by rw [if_neg H8.out], fun h => absurd h H8.out⟩
end Go.Proofs.YtcenbaajojdjlaaGreatDoor
namespace Go.Proofs.YtcenbaajojdjlaaGreatDoor
open Go.RowKit

theorem loopR_some {W : Nat} : ∀ (k : Nat) (t : Nat × Nat × Nat) (s : List Bool × Nat) (X : List Nat) (s' : List Bool × Nat), WinT W t → loopR W k t s = some (X, s') → X.length = k ∧ ∀ x ∈ X, x < 2 ^ (8 * W)
  | 0, t, s, X, s', _, h => by
    rw [loopR] at h
    injection h with h
    injection h with h1 h2
    subst h1
    exact ⟨rfl, fun x hx => by cases hx⟩
  | k + 1, t, s, X, s', ht, h => by
    rw [loopR] at h
    split at h
    · rw [Option.map_eq_some_iff] at h
      obtain ⟨⟨Y, q⟩, hY, he⟩ := h
      injection he with h1 h2
      subst h1
      obtain ⟨e1, e2⟩ := loopR_some k _ _ _ _ (takeR_ok ht s) hY
      refine ⟨by simp only [List.length_cons]; omega, fun x hx => ?_⟩
      rcases List.mem_cons.1 hx with rfl | hx
      · exact takeR_lt ht s
      · exact e2 x hx
    · cases h
theorem takenR_some {W n : Nat} {L : List Bool} {X : List Nat} {s : List Bool × Nat} (h : takenR W n L = some (X, s)) : X.length = n ∧ n ≤ L.length ∧ ∀ x ∈ X, x < 2 ^ (8 * W) := by
  unfold takenR at h
  split at h
  · cases h
  next hl =>
  split at h
  next h0 =>
    injection h with h
    injection h with h1 h2
    subst h1
    exact ⟨h0.symm, by omega, fun x hx => by cases hx⟩
  next h0 =>
    rw [Option.map_eq_some_iff] at h
    obtain ⟨⟨Y, q⟩, hY, he⟩ := h
    injection he with h1 h2
    subst h1
    obtain ⟨e1, e2⟩ := loopR_some _ _ _ _ _ (.inl rfl) hY
    refine ⟨by simp only [List.length_cons]; omega, by omega, fun x hx => ?_⟩
    rcases List.mem_cons.1 hx with rfl | hx
    · exact getV_lt _ _
    · exact e2 x hx
/-- What Unpack tells: the number of its error, and the words. -/
def gorR (W : Int) (n : Int) (l : List UInt8) : Nat × List Nat :=
  if rightB W = true ∧ 0 ≤ n ∧ n ≤ 67108864 then
    match takenR W.toNat n.toNat (allBits l) with
    | none => (16, [])
    | some (X, s) => if doneE s = 0 then (0, backW W.toNat X) else (16, [])
  else (2, [])
def GUnpR (w : World) (o : Nat × List Nat) (e : Ending) (w' : World) : Prop :=
  ∃ v, e = .returned (.tuple #[v, .int .i64 (o.1 : Int)]) ∧ Below w.heap.size w w' ∧ IsCells (wvs o.2) v w'
theorem cells_none (w : World) : IsCells (wvs []) (.slice none 0 0) w := ⟨none, 0, rfl, Nat.le_refl _, Rd.nil_ _ _ _⟩
set_option maxHeartbeats 2000000 in
set_option maxRecDepth 100000 in
theorem gorUnpack_arg (W n : Int) (v : Value) (w : World) (h : ¬ (rightB W = true ∧ 0 ≤ n ∧ n ≤ 67108864)) :
    Calls Tryz.prog 70 #[v, .int .i64 W, .int .i64 n] w (GUnpR w (2, [])) := by
  by_cases hW : rightB W = true
  · have C1 := Lib.hid (wordRight_any W true hW.symm)
    by_cases h0 : n < 0
    · clear h hW
      go_enter Tryz.func70, Tryz.ntmps70
      go_wp2_with fail
      refine (C1.out _).mono ?_
      rintro e w' ⟨rfl, rfl⟩
      go_wp2
      go_ret2
      exact ⟨_, rfl, Below.refl _ _, cells_none _⟩
    · have h1 : 67108864 < n := by
        rcases Int.lt_or_le 67108864 n with g | g
        · exact g
        · exact absurd ⟨hW, by omega, g⟩ h
      have h2 : ¬ n < 0 := h0
      clear h hW h0
      go_enter Tryz.func70, Tryz.ntmps70
      go_wp2_with fail
      refine (C1.out _).mono ?_
      rintro e w' ⟨rfl, rfl⟩
      go_wp2
      go_ret2
      exact ⟨_, rfl, Below.refl _ _, cells_none _⟩
  · have C1 := Lib.hid (wordRight_any W false (by simpa using hW))
    clear h hW
    go_enter Tryz.func70, Tryz.ntmps70
    go_wp2_with fail
    refine (C1.out _).mono ?_
    rintro e w' ⟨rfl, rfl⟩
    go_wp2
    go_ret2
    exact ⟨_, rfl, Below.refl _ _, cells_none _⟩
set_option maxHeartbeats 2000000 in
set_option maxRecDepth 100000 in
theorem gorUnpack_st {W : Nat} (hW : IsW W) (l : List UInt8) (v : Value) (n : Nat) (hn : n ≤ 67108864) (w : World) (hv : IsBytes l v w) (hl : l.length ≤ 125000) :
    Calls Tryz.prog 70 #[v, .int .i64 (W : Int), .int .i64 (n : Int)] w (GUnpR w (match takenR W n (allBits l) with | none => (16, []) | some (X, s) => if doneE s = 0 then (0, backW W X) else (16, []))) := by
  obtain ⟨A, c, rfl, hc, hr⟩ := hv
  have hp := hW.pos
  have C1 := Lib.hid (wordRight_any (W : Int) true hW.right)
  have C2 := Lib.hid (read_all A l.length c l w hr rfl (by omega))
  have C3 := Lib.hid (fun (g : Nat) (w' : World) (h : RdrIs w' g (allBits l) 0) => taken_st hp.2 g n (allBits l) (by rw [allBits_length]; omega) hn w' h)
  have C4 := Lib.hid (fun (A' : Option Addr) (X : List Nat) (c' : Nat) (w' : World) (h : Rd w' w'.heap.size A' (wvs X)) (hb : X.length ≤ 1000000) (hx : ∀ x ∈ X, x < 2 ^ (8 * W)) => flipBack_right W hW A' X.length c' X w' h rfl (by omega) (fun x hq => Nat.lt_of_lt_of_le (hx x hq) (Nat.pow_le_pow_right (by decide) (show 8 * W ≤ 64 by omega))))
  have HS := Lib.hid (fun (X : List Nat) (s : List Bool × Nat) (h : takenR W n (allBits l) = some (X, s)) => (takenR_some h))
  have HAL := Lib.hid (show (allBits l).length ≤ 1000000 by rw [allBits_length]; omega)
  obtain ⟨o, ho⟩ : ∃ o, o = takenR W n (allBits l) := ⟨_, rfl⟩
  rw [← ho] at C3 HS ⊢
  have hni : (n : Int) ≤ 67108864 := by omega
  clear hr hW hp ho
  go_enter Tryz.func70, Tryz.ntmps70
  go_wp2_with fail
  refine (C1.out _).mono ?_
  rintro e w' ⟨rfl, rfl⟩
  go_wp2_with fail
  refine C2.out.mono ?_
  rintro e w1 ⟨g, rfl, hg, hrd, hb1'⟩
  have HB1 := Lib.hid hb1'
  have HG := Lib.hid hg
  have C5 := Lib.hid (C3.out g w1 hrd)
  clear hg hrd hb1' C2 C3
  go_wp2_with fail
  refine C5.out.mono ?_
  rintro e w2 ⟨ho, v2, ok, rfl, ⟨A2, n2, c2, rfl⟩, hcase⟩
  have HB2 := Lib.hid (HB1.out.trans ((ho.base HG.out).below HB1.out.size))
  clear ho C5
  cases o with
  | none =>
    simp only at hcase
    subst hcase
    clear HS
    go_wp2
    go_ret2
    exact ⟨_, rfl, HB2.out, cells_none _⟩
  | some q =>
    obtain ⟨X, s⟩ := q
    simp only at hcase ⊢
    obtain ⟨hok, hown⟩ := hcase
    by_cases h0 : doneE s = 0
    · have hok1 : ok = true := by rw [hok]; simpa using h0
      subst hok1
      obtain ⟨e1, e2, e3⟩ := HS.out X s rfl
      obtain ⟨A3, c3, hv3, -, -, -⟩ := own_form hown
      injection hv3 with f1 f2 f3
      subst f1 f2 f3
      have C6 := Lib.hid (C4.out A2 X c2 w2 (Rd.of_own hown) (by have := HAL.out; omega) e3)
      have H0 := Lib.hid h0
      clear hok hown e1 e2 e3 C4 HS h0
      go_wp2_with fail
      refine C6.out.mono ?_
      rintro e w3 ⟨v3, rfl, hv3, hb3⟩
      have HV := Lib.hid hv3
      have HB3 := Lib.hid (HB2.out.trans (hb3.mono HB2.out.size))
      clear hv3 hb3 C6
      go_wp2
      go_ret2
      exact ⟨_, rfl, HB3.out, HV.out⟩
    · have hok1 : ok = false := by rw [hok]; simpa using h0
      subst hok1
      have H0 := Lib.hid h0
      clear hok hown C4 HS h0
      go_wp2
      go_ret2
      exact ⟨_, rfl, HB2.out, cells_none _⟩
/-- Unpack, whatever it is asked of bytes. -/
theorem gorUnpack_any (W n : Int) (l : List UInt8) (v : Value) (w : World) (hv : IsBytes l v w) (hl : l.length ≤ 125000) :
    Calls Tryz.prog 70 #[v, .int .i64 W, .int .i64 n] w (GUnpR w (gorR W n l)) := by
  by_cases h : rightB W = true ∧ 0 ≤ n ∧ n ≤ 67108864
  · obtain ⟨h1, h2, h3⟩ := h
    obtain ⟨V, rfl, hV⟩ := isW_of h1
    obtain ⟨m, rfl⟩ := Int.eq_ofNat_of_zero_le h2
    unfold gorR
    rw [if_pos ⟨h1, h2, h3⟩]
    exact gorUnpack_st hV l v m (by omega) w hv hl
  · unfold gorR
    rw [if_neg h]
    exact gorUnpack_arg W n v w h
end Go.Proofs.YtcenbaajojdjlaaGreatDoor
