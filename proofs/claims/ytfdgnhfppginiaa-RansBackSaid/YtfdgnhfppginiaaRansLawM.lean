/- Layer 18: what Code says of any bytes; that it is told; of bytes that are all the same. -/
import Derived.Test.YtfdgnhfppginiaaRansCode
import Derived.Test.YtfdgnhfppginiaaRansDecD
namespace Go.Proofs.Ytfdgnhfppginiaa
open Go.RowKit Go.Sort

theorem calls_some {P : Program} {f : FuncId} {args : Array Value} {w : World} {R : Ending → World → Prop} (h : Calls P f args w R) : ∃ e w', R e w' :=
  let ⟨e, w', _, r, _⟩ := h []
  ⟨e, w', r⟩
theorem got_put18 {r : List Int} {T : Int} (hm : HistMay r) (hs : r.sum = T) (more : List UInt8) : hGot T (hPut r ++ more) = some (r, (hPut r).length) := by
  have h : hG [] (hPut r ++ more) 0 = some (r, (hPut r).length) := hGet_put hm.1 hm.2 more
  unfold hGot
  rw [h]
  simp only [filt, Option.bind_some]
  rw [if_pos hs]
theorem got_one (T : Int) (x : UInt8) : hGot T [x] = none := by
  have hx := x.toNat_lt
  unfold hGot
  by_cases h : 128 ≤ x.toNat
  · have h1 : lget [x] = (0, 0, 11) := by unfold lget lgetF; rw [if_neg (by simp), if_pos h]; rfl
    rw [hG_bad h1 (.inl (by decide))]
    rfl
  · have h1 : lget [x] = (x.toNat, 1, 0) := by unfold lget lgetF; rw [if_neg (by simp), if_neg h, if_neg (by simp)]; simp
    rw [hG_mid h1 (by simp; omega)]
    have h2 : lget ([x].drop 1) = (0, 0, 11) := rfl
    rw [hM_bad h2 (by simp [zerosI]; omega) (.inl (by decide))]
    rfl
/-- What Code lays of no bytes, or of some. -/
def RansQ (l Q : List UInt8) : Prop := (l = [] ∧ Q = []) ∨ (l ≠ [] ∧ RansSays l Q ∧ Q.length ≤ 20000)
theorem RansQ.one {l Q Q' : List UInt8} (h : RansQ l Q) (h' : RansQ l Q') : Q = Q' := by
  rcases h with ⟨h1, rfl⟩ | ⟨h1, h2, -⟩ <;> rcases h' with ⟨g1, rfl⟩ | ⟨g1, g2, -⟩
  · rfl
  · exact absurd h1 g1
  · exact absurd g1 h1
  · exact h2.one g2
set_option maxHeartbeats 1000000 in
set_option maxRecDepth 100000 in
theorem ransCode_nil (A : Option Addr) (m : Nat) (w : World) : Calls Try.prog 10 #[.slice A (0 : Nat) m] w fun e w' => e = .returned (.slice none 0 0) ∧ w' = w := by
  go_enter Try.func10, Try.ntmps10
  go_wp2
  go_ret
  exact ⟨rfl, rfl⟩
/-- What hands back bytes in a row of its own, or none. -/
def NewQ (w : World) (Q : List UInt8) (e : Ending) (w' : World) : Prop := ∃ v, e = .returned v ∧ IsBytes Q v w' ∧ Below w.heap.size w w'
theorem ransCode_q {l Q : List UInt8} (hQ : RansQ l Q) (hl : l.length ≤ 4000) (v : Value) (w : World) (h : IsBytes l v w) : Calls Try.prog 10 #[v] w (NewQ w Q) := by
  obtain ⟨A, c, rfl, hc, hr⟩ := h
  rcases hQ with ⟨rfl, rfl⟩ | ⟨h1, h2, -⟩
  · refine (ransCode_nil A c w).mono ?_
    rintro e w' ⟨rfl, rfl⟩
    exact ⟨_, rfl, bytes_nil18 _, Below.refl _ _⟩
  · refine (ransCode_any hr rfl (List.length_pos_iff.2 h1) hl).mono ?_
    rintro e w' ⟨v, B, rfl, hB, -, hown, hb⟩
    obtain rfl := hB.one h2
    exact ⟨v, rfl, IsBytes.of_own hown, hb⟩
theorem ransRef_q {l Q : List UInt8} (hQ : RansQ l Q) (hl : l.length ≤ 4000) (v : Value) (w : World) (h : IsBytes l v w) : Calls Try.prog 11 #[v] w (NewQ w Q) := by
  obtain ⟨A, c, rfl, hc, hr⟩ := h
  rcases hQ with ⟨rfl, rfl⟩ | ⟨h1, h2, -⟩
  · refine (ransRef_nil (m := c) hr).mono ?_
    rintro e w' ⟨rfl, hb⟩
    exact ⟨_, rfl, bytes_nil18 _, hb⟩
  · refine (ransRef_any hr rfl (List.length_pos_iff.2 h1) hl).mono ?_
    rintro e w' ⟨v, B, rfl, hB, -, hown, hb⟩
    obtain rfl := hB.one h2
    exact ⟨v, rfl, IsBytes.of_own hown, hb⟩
theorem ransQ_some {l : List UInt8} (hl : l.length ≤ 4000) {A : Option Addr} {w : World} (hr : Rd w w.heap.size A (bvs l)) : ∃ Q, RansQ l Q := by
  by_cases h : l = []
  · exact ⟨[], .inl ⟨h, rfl⟩⟩
  · obtain ⟨e, w', v, B, -, hB, hb, -⟩ := calls_some (ransCode_any (m := 0) hr rfl (List.length_pos_iff.2 h) hl)
    exact ⟨B, .inr ⟨h, hB, hb⟩⟩
set_option maxRecDepth 100000 in
/-- **P18.3**: what was coded is decoded; with a byte more it is none. -/
theorem ransBack_q {l Q : List UInt8} (hQ : RansQ l Q) (hl : l.length ≤ 4000) (v : Value) (w : World) :
    (IsBytes Q v w → Calls Try.prog 13 #[v, .int .i64 (l.length : Int)] w (DecSays w (l, 0))) ∧
    ∀ m : UInt8, IsBytes (Q ++ [m]) v w → Calls Try.prog 13 #[v, .int .i64 (l.length : Int)] w (DecSays w ([], 16)) := by
  rcases hQ with ⟨rfl, rfl⟩ | ⟨h1, h2, hb⟩
  · refine ⟨fun h => ?_, fun m h => ?_⟩
    · obtain ⟨A, c, rfl, hc, hr⟩ := h
      exact ransDec_nil A c w
    · obtain ⟨A, c, rfl, hc, hr⟩ := h
      exact ransDec_none (N := 0) hr rfl hc (by simp) (by decide) (by simp) (got_one _ m)
  · obtain ⟨r, x, T, hn, hin, rfl⟩ := h2
    have h0 : 0 < l.length := List.length_pos_iff.2 h1
    have hs := shares_of h0 hl hn
    have hdec : ∀ (more : List UInt8) (v : Value), more.length ≤ 1 → IsBytes (hPut r ++ u8s (be4 x ++ T) ++ more) v w → Calls Try.prog 13 #[v, .int .i64 (l.length : Int)] w (DecSays w (decQ (tellF r l.length (u8s (be4 x ++ T) ++ more)))) := fun more v hm h => by
      have hg := got_put18 (T := ((4096 : Nat) : Int)) ⟨hs.len, hs.may⟩ (by have := hs.sum; omega) (u8s (be4 x ++ T) ++ more)
      rw [← List.append_assoc] at hg
      have hdrop : (hPut r ++ u8s (be4 x ++ T) ++ more).drop (hPut r).length = u8s (be4 x ++ T) ++ more := by rw [List.append_assoc, List.drop_left' rfl]
      have hkl : (hPut r).length ≤ (hPut r ++ u8s (be4 x ++ T) ++ more).length := by simp only [List.length_append]; omega
      have hb2 : (hPut r ++ u8s (be4 x ++ T) ++ more).length ≤ 1000000 := by rw [List.length_append]; omega
      obtain ⟨M, hM⟩ : ∃ M, M = hPut r ++ u8s (be4 x ++ T) ++ more := ⟨_, rfl⟩
      rw [← hM] at hg hdrop hkl hb2 h
      obtain ⟨A, c, rfl, hc, hr⟩ := h
      have h3 := ransDec_some (N := l.length) hr rfl hc hb2 (by omega) h0 hg hs.len hs.nn hs.sum hkl
      rw [hdrop] at h3
      exact h3
    refine ⟨fun h => ?_, fun m h => ?_⟩
    · have h3 := hdec [] v (by simp) (by rw [List.append_nil]; exact h)
      rw [tell_coded hs hin, if_pos rfl] at h3
      exact h3
    · have h3 := hdec [m] v (by simp) h
      rw [tell_coded hs hin, if_neg (by simp)] at h3
      exact h3
/-- The shares of a text of one letter. -/
def rOne (c : Nat) : List Int := zerosI c ++ 4096 :: zerosI (255 - c)
theorem cnt_other {m : Nat} {c : UInt8} {j : Nat} (hj : j ≠ c.toNat) : (cntL (List.replicate m c)).getD j 0 = 0 := by
  induction m with
  | zero =>
    rw [show cntL (List.replicate 0 c) = List.replicate 256 0 from rfl, List.getD_eq_getElem?_getD, List.getElem?_replicate]
    split <;> rfl
  | succ m ih =>
    rw [List.replicate_succ', cntL_snoc, cntStep_get _ (cntL_len _), if_neg (Ne.symm hj)]
    exact ih
theorem sum_single : ∀ (l : List Int) (k : Nat), (∀ j, j ≠ k → l.getD j 0 = 0) → l.sum = l.getD k 0
  | [], k, _ => by simp
  | x :: l, 0, h => by
    have h0 : ∀ j, l.getD j 0 = 0 := fun j => by simpa using h (j + 1) (by omega)
    have hz : l.sum = 0 := by
      have := sum_single l l.length fun j _ => h0 j
      rw [this, h0]
    simp [hz]
  | x :: l, k + 1, h => by
    have hx : x = 0 := by simpa using h 0 (by omega)
    have := sum_single l k fun j hj => by simpa using h (j + 1) (by omega)
    simp [hx, this]
theorem norm_one {m : Nat} {c : UInt8} {r : List Int} (hs : SharesOf (List.replicate m c) r) (hn : NormR (cntL (List.replicate m c)) ((4096 : Nat) : Int) r) (h0 : 0 < m) (hm : m ≤ 4000) : r = rOne c.toNat := by
  have hc := c.toNat_lt
  have hcnt := cntL_len (List.replicate m c)
  have hle := cntL_le (List.replicate m c)
  have hnn := fun x hx => (hle x hx).1
  have hmany : many (cntL (List.replicate m c)) ≤ 4096 := by have := many_le (cntL (List.replicate m c)); rw [hcnt] at this; omega
  have hpos : 0 < (cntL (List.replicate m c)).sum := by
    have h2 := cntL_mem (l := List.replicate m c) (b := c) (by rw [List.mem_replicate]; exact ⟨by omega, rfl⟩)
    have hlt : c.toNat < (cntL (List.replicate m c)).length := by rw [hcnt]; exact hc
    have h4 := le_sum12 hnn hlt
    have e : (cntL (List.replicate m c)).getD c.toNat 0 = (cntL (List.replicate m c))[c.toNat] := by simp [List.getD_eq_getElem?_getD, hlt]
    omega
  obtain ⟨hal, -⟩ := hn.keeps hnn (by decide) hpos hmany
  have hz : ∀ j, j ≠ c.toNat → r.getD j 0 = 0 := fun j hj => by
    by_cases hj2 : j < 256
    · exact ((hal.2 j (by rw [hcnt]; exact hj2)).2).2 (cnt_other hj)
    · rw [List.getD_eq_getElem?_getD, List.getElem?_eq_none (by rw [hs.len]; omega)]; rfl
  have hcs : r.getD c.toNat 0 = 4096 := by rw [← sum_single r c.toNat hz]; exact hs.sum
  have hlr : (rOne c.toNat).length = 256 := by simp [rOne, zerosI]; omega
  apply List.ext_getElem
  · rw [hs.len, hlr]
  · intro j h1 h2
    have e1 : r.getD j 0 = r[j] := by simp [List.getD_eq_getElem?_getD, h1]
    rw [← e1]
    by_cases hj : j = c.toNat
    · subst hj
      rw [hcs]
      simp [rOne, zerosI]
    · rw [hz j hj]
      simp only [rOne]
      rcases Nat.lt_or_ge j c.toNat with g | g
      · rw [List.getElem_append_left (by simpa [zerosI] using g)]; simp [zerosI]
      · rw [List.getElem_append_right (by simpa [zerosI] using g)]
        obtain ⟨d, hd⟩ : ∃ d, j - (zerosI c.toNat).length = d + 1 := ⟨j - c.toNat - 1, by simp [zerosI]; omega⟩
        simp only [hd, List.getElem_cons_succ]
        simp [zerosI]
theorem pre_zero (k : Nat) (l : List Int) : fPre (zerosI k ++ l) k = 0 := by
  unfold fPre
  rw [List.take_left' (by simp [zerosI])]
  simp [zerosI]
/-- **P18.4**. -/
theorem rans_still {m : Nat} {c : UInt8} {B : List UInt8} (h : RansSays (List.replicate m c) B) (h0 : 0 < m) (hm : m ≤ 4000) : B = hPut (rOne c.toNat) ++ [0, 128, 0, 0] := by
  obtain ⟨r, x, T, hn, hin, rfl⟩ := h
  have hs := shares_of (by simpa using h0) (by simpa using hm) hn
  obtain rfl := norm_one hs hn h0 hm
  have hl : letL (rOne c.toNat) (List.replicate m c) = List.replicate m (0, 4096) := by
    unfold letL
    rw [List.map_replicate]
    have e1 : fPre (rOne c.toNat) c.toNat = 0 := pre_zero _ _
    have e2 : (rOne c.toNat).getD c.toNat 0 = 4096 := by simp [rOne, zerosI, List.getD_eq_getElem?_getD]
    rw [e1, e2]
    rfl
  rw [hl] at hin
  obtain ⟨rfl, rfl⟩ := hin.one (ransIn_still m)
  rfl
theorem put_zeros18 (l : List Int) : ∀ (k z : Nat), hPutF z (zerosI k ++ l) = hPutF (z + k) l
  | 0, z => by simp [zerosI]
  | k + 1, z => by
    have h : zerosI (k + 1) ++ l = 0 :: (zerosI k ++ l) := by simp [zerosI, List.replicate_succ]
    rw [h, hPutF_zero, put_zeros18 l k (z + 1), show z + 1 + k = z + (k + 1) by omega]
theorem put_rOne (c : Nat) : hPut (rOne c) = lput c ++ ([255, 31] ++ lput (255 - c)) := by
  unfold hPut rOne
  have h1 := put_zeros18 [] (255 - c) 0
  rw [List.append_nil, hPutF_nil] at h1
  have h2 : lput ((4096 : Int) - 1).toNat = [255, 31] := by
    rw [show ((4096 : Int) - 1).toNat = 4095 by decide, lput_big (by decide), lput_small (by decide)]; rfl
  rw [put_zeros18, hPutF_some _ _ (by decide), h1, h2, Nat.zero_add, Nat.zero_add]
theorem lput_short {n : Nat} (h : n < 256) : (lput n).length = if n < 128 then 1 else 2 := by
  by_cases h1 : n < 128
  · rw [if_pos h1, lput_small h1]; rfl
  · rw [if_neg h1, lput_big h1, lput_small (by omega)]; rfl
theorem still_len {c : Nat} (hc : c < 256) : (hPut (rOne c) ++ [0, 128, 0, 0] : List UInt8).length ≤ 9 := by
  rw [put_rOne, List.length_append, List.length_append, List.length_append, lput_short hc, lput_short (show 255 - c < 256 by omega)]
  simp only [List.length_cons, List.length_nil]
  split <;> split <;> omega
theorem one_65 : (hPut (rOne 65) ++ [0, 128, 0, 0] : List UInt8) = [65, 255, 31, 190, 1, 0, 128, 0, 0] := by
  rw [put_rOne, lput_small (by decide), lput_big (by decide), lput_small (by decide)]; rfl
end Go.Proofs.Ytfdgnhfppginiaa
