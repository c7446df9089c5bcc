/- Layer 19: what Code says of any bytes; that it is told; how long it is. -/
import Derived.Test.YtfdgnhfppginiaaRiceDec
import Derived.Test.YtfdgnhfppginiaaRiceCode
import Derived.Test.YtfdgnhfppginiaaRiceRefC
namespace Go.Proofs.Ytfdgnhfppginiaa
open Go.RowKit Go.Sort

theorem packs_some : ∀ (n : Nat) (L : List Bool), L.length = n → ∃ bs, Packs bs L
  | 0, L, h => by
    obtain rfl := List.length_eq_zero_iff.1 h
    exact ⟨[], Packs.nil⟩
  | n + 1, L, h => by
    have hne : L ≠ [] := fun e => by rw [e] at h; simp at h
    have e := List.dropLast_concat_getLast hne
    obtain ⟨bs, hb⟩ := packs_some n L.dropLast (by rw [List.length_dropLast]; omega)
    obtain ⟨b, hbb⟩ : ∃ b, b = L.getLast hne := ⟨_, rfl⟩
    rw [← hbb] at e
    rw [← e]
    obtain ⟨M, hM⟩ : ∃ M, M = L.dropLast := ⟨_, rfl⟩
    rw [← hM] at hb ⊢
    obtain ⟨c, hc⟩ : ∃ c : UInt8, c.toNat = ((if M.length % 8 = 0 then bs ++ [0] else bs).getD (M.length / 8) 0).toNat ||| b.toNat <<< (M.length % 8) := by
      refine ⟨UInt8.ofNat (((if M.length % 8 = 0 then bs ++ [0] else bs).getD (M.length / 8) 0).toNat ||| b.toNat <<< (M.length % 8)), ?_⟩
      rw [UInt8.toNat_ofNat', Nat.mod_eq_of_lt]
      have h1 := ((if M.length % 8 = 0 then bs ++ [0] else bs).getD (M.length / 8) 0).toNat_lt
      refine Nat.or_lt_two_pow (n := 8) h1 ?_
      have hr : M.length % 8 < 8 := Nat.mod_lt _ (by decide)
      obtain ⟨r, hr2⟩ : ∃ r, r = M.length % 8 := ⟨_, rfl⟩
      rw [← hr2] at hr ⊢
      have h2 : b.toNat ≤ 1 := by cases b <;> simp
      rw [Nat.shiftLeft_eq]
      have h3 : 2 ^ r ≤ 2 ^ 7 := Nat.pow_le_pow_right (by decide) (by omega)
      have h4 := Nat.mul_le_mul h2 h3
      omega
    exact ⟨_, hb.snoc b _ rfl c hc⟩
/-- What Code tells of bytes, by any width. -/
def RiceSays (W : Int) (l bs : List UInt8) : Prop :=
  (rightB W = false ∧ bs = []) ∨ ∃ (V : Nat) (L : List Bool), IsW V ∧ W = (V : Int) ∧ RiceB (8 * V) 16 1 (wordsOf V l) L ∧ Packs bs (L ++ allBits (restOf V l))
theorem RiceSays.one {W : Int} {l bs bs' : List UInt8} (h : RiceSays W l bs) (h' : RiceSays W l bs') : bs = bs' := by
  rcases h with ⟨h1, rfl⟩ | ⟨V, L, h1, h2, h3, h4⟩ <;> rcases h' with ⟨g1, rfl⟩ | ⟨V', L', g1, g2, g3, g4⟩
  · rfl
  · have := g1.right; rw [← g2, h1] at this; cases this
  · have := h1.right; rw [← h2, g1] at this; cases this
  · obtain rfl : V = V' := by omega
    obtain rfl := h3.one g3
    exact h4.unique g4
theorem riceWords_lt {V : Nat} (hV : IsW V) (l : List UInt8) : ∀ x ∈ wordsOf V l, x < 2 ^ (8 * V) := fun x hx => by
  rw [show 2 ^ (8 * V) = 256 ^ V by rw [Nat.pow_mul]]
  exact wordsOf_lt (W := V) (by have := hV.pos; omega) l x hx
/-- Words' bits by a right width. -/
theorem riceL_some {V : Nat} (hV : IsW V) (l : List UInt8) : ∃ L, RiceB (8 * V) 16 1 (wordsOf V l) L ∧ L.length ≤ (24 + 8 * V) * (l.length / V) := by
  obtain ⟨L, h1, h2⟩ := riceB_some (D := 8 * V) (wordsOf V l) 16 1 (counts_start (D_le hV).1) (riceWords_lt hV l)
  rw [wordsOf_len] at h2
  exact ⟨L, h1, h2⟩
theorem riceL_len {V n q : Nat} (hV : IsW V) (h : n ≤ (24 + 8 * V) * (q / V)) (hq : q ≤ 4000) : n ≤ 200000 := by
  rcases hV with rfl | rfl | rfl | rfl <;> omega
theorem riceSays_some (W : Int) (l : List UInt8) : ∃ bs, RiceSays W l bs := by
  by_cases hW : rightB W = true
  · obtain ⟨V, rfl, hV⟩ := isW_of hW
    obtain ⟨L, h1, -⟩ := riceL_some hV l
    obtain ⟨bs, hb⟩ := packs_some _ (L ++ allBits (restOf V l)) rfl
    exact ⟨bs, .inr ⟨V, L, hV, rfl, h1, hb⟩⟩
  · exact ⟨[], .inl ⟨by simpa using hW, rfl⟩⟩
theorem allBits_cons : ∀ (n : Nat) (x : UInt8) (t : List UInt8), t.length = n → allBits (x :: t) = bitsOf x.toNat 8 ++ allBits t
  | 0, x, t, h => by
    obtain rfl := List.length_eq_zero_iff.1 h
    have := allBits_snoc [] x
    rw [List.nil_append] at this
    rw [this, show allBits [] = [] from rfl, List.nil_append, List.append_nil]
  | n + 1, x, t, h => by
    have hne : t ≠ [] := fun e => by rw [e] at h; simp at h
    have e := List.dropLast_concat_getLast hne
    have ih := allBits_cons n x t.dropLast (by rw [List.length_dropLast]; omega)
    rw [← e, ← List.cons_append, allBits_snoc, ih, allBits_snoc, List.append_assoc]
theorem restF_all : ∀ (rs : List UInt8) (R : List Bool), restF rs.length (allBits rs ++ R, 0) = (rs, (R, 0))
  | [], R => by simp [restF, show allBits [] = [] from rfl]
  | x :: t, R => by
    have hx := x.toNat_lt
    obtain ⟨g1, g2⟩ := getV_bits x.toNat 8 (allBits t ++ R)
    rw [← List.append_assoc, ← allBits_cons _ x t rfl] at g1 g2
    rw [List.length_cons, restF, g1, g2, restF_all t R, Nat.mod_eq_of_lt (by omega)]
    simp
theorem any_zeros (k : Nat) : (List.replicate k false).any id = false := by
  rw [List.any_eq_false]
  intro x hx
  simp [(List.mem_replicate.1 hx).2]
/-- **P19.3**, for both: what Code laid, with so many noughts behind. -/
theorem rice_back {V : Nat} (hV : IsW V) {l bs : List UInt8} (h : RiceSays (V : Int) l bs) :
    (∃ o, RiceR (8 * V) (l.length / V) 16 1 (allBits bs, 0) o ∧ riceOut V l.length o = (l, 0)) ∧ ∃ o, RiceR (8 * V) (l.length / V) 16 1 (allBits (bs ++ [0]), 0) o ∧ riceOut V l.length o = ([], 16) := by
  rcases h with ⟨h1, -⟩ | ⟨V', L, h1, h2, h3, h4⟩
  · have := hV.right; rw [h1] at this; cases this
  · obtain rfl : V = V' := by omega
    have hp : 0 < V := by have := hV.pos; omega
    have hall := h4.all
    have hlen := h4.1
    obtain ⟨p, hpp⟩ : ∃ p, p = 8 * bs.length - (L ++ allBits (restOf V l)).length := ⟨_, rfl⟩
    rw [← hpp] at hall
    have hp8 : p < 8 := by omega
    have hrl : l.length % V = (restOf V l).length := by
      rw [restOf_len]
      have := Nat.div_add_mod l.length V
      rw [Nat.mul_comm] at this
      omega
    have hgo : ∀ q, RiceR (8 * V) (l.length / V) 16 1 (L ++ allBits (restOf V l) ++ List.replicate q false, 0) (some (wordsOf V l, (allBits (restOf V l) ++ List.replicate q false, 0))) := fun q => by
      have := h3.told (riceWords_lt hV l) (allBits (restOf V l) ++ List.replicate q false)
      rw [wordsOf_len, ← List.append_assoc] at this
      exact this
    have hout : ∀ q, riceOut V l.length (some (wordsOf V l, (allBits (restOf V l) ++ List.replicate q false, 0))) = if doneE (List.replicate q false, 0) = 0 then (l, 0) else ([], 16) := fun q => by
      unfold riceOut
      simp only
      rw [hrl, restF_all, lay_words]
    refine ⟨⟨_, by rw [hall]; exact hgo p, ?_⟩, ⟨_, by rw [allBits_snoc, hall, List.append_assoc, show bitsOf (0 : UInt8).toNat 8 = List.replicate 8 false from rfl, List.replicate_append_replicate]; exact hgo (p + 8), ?_⟩⟩
    · rw [hout, if_pos]
      unfold doneE
      rw [if_neg (by simp), if_neg (by simp; omega), if_neg (by rw [any_zeros]; simp)]
    · rw [hout, if_neg]
      unfold doneE
      rw [if_neg (by simp), if_pos (by simp)]
      decide
/-- **P19.4**, in bytes. -/
theorem rice_len {V : Nat} (hV : IsW V) {l bs : List UInt8} (h : RiceSays (V : Int) l bs) : bs.length ≤ l.length + 3 * (l.length / V) := by
  rcases h with ⟨h1, -⟩ | ⟨V', L, h1, h2, h3, h4⟩
  · have := hV.right; rw [h1] at this; cases this
  · obtain rfl : V = V' := by omega
    obtain ⟨L', g1, g2⟩ := riceL_some hV l
    obtain rfl := h3.one g1
    have h5 := h4.1
    rw [List.length_append, allBits_length, restOf_len] at h5
    rcases hV with rfl | rfl | rfl | rfl <;> omega
/-- Noughts by two counts of which the first is small: few bits. -/
theorem rice_small {D : Nat} : ∀ (n A N : Nat) (L : List Bool), A ≤ 16 → 1 ≤ N → RiceB D A N (List.replicate n 0) L → L.length ≤ n + 4 * (16 - N)
  | 0, A, N, L, _, _, h => by
    cases h
    exact Nat.zero_le _
  | n + 1, A, N, L, hA, hN, h => by
    rw [List.replicate_succ] at h
    cases h with
    | word _ _ k _ _ L2 hk hr =>
      have h0 : min 0 4294967296 = 0 := rfl
      have hA2 : behindA A N 0 ≤ 16 := by unfold behindA; rw [h0]; split <;> omega
      have hN2 : 1 ≤ behindN N ∧ 16 - behindN N ≤ 16 - (N + 1) := by unfold behindN; split <;> omega
      have ih := rice_small n _ _ L2 hA2 hN2.1 hr
      have hw : (riceW D k 0).length = 1 + k := by
        unfold riceW
        rw [Nat.zero_div, if_pos (by decide), List.length_append, bitsOf_length]
        rfl
      rw [List.length_append, hw]
      have hk4 : k ≤ 4 := by
        refine Nat.le_of_not_lt fun hlt => ?_
        have := hk.2 4 hlt
        omega
      by_cases h16 : 16 ≤ N
      · have hk0 : k = 0 := by
          refine Nat.eq_zero_of_not_pos fun hlt => ?_
          have := hk.2 0 hlt
          omega
        omega
      · omega
theorem leN_zeros : ∀ n : Nat, leN (List.replicate n 0) = 0
  | 0 => rfl
  | n + 1 => by rw [List.replicate_succ, leN, leN_zeros n]; rfl
theorem words_zeros (V : Nat) : ∀ (n m : Nat), wordsN n V (List.replicate m 0) = List.replicate n 0
  | 0, _ => rfl
  | n + 1, m => by
    rw [wordsN, List.take_replicate, List.drop_replicate, leN_zeros, words_zeros V n]
    rfl
theorem rice_zeros {V q : Nat} (hV : IsW V) {bs : List UInt8} (h : RiceSays (V : Int) (List.replicate (q * V) 0) bs) : bs.length ≤ 20 + q / 8 := by
  rcases h with ⟨h1, -⟩ | ⟨V', L, h1, h2, h3, h4⟩
  · have := hV.right; rw [h1] at this; cases this
  · obtain rfl : V = V' := by omega
    have hp : 0 < V := by have := hV.pos; omega
    have hd : q * V / V = q := Nat.mul_div_cancel q hp
    unfold wordsOf at h3
    rw [words_zeros, List.length_replicate, hd] at h3
    have h5 := rice_small q 16 1 L (Nat.le_refl _) (Nat.le_refl _) h3
    have h6 := h4.1
    rw [List.length_append, allBits_length, restOf_len, List.length_replicate, hd, Nat.sub_self] at h6
    omega
/-- The program's Code, by any width. -/
theorem riceCode_says (W : Int) {v : Value} {l : List UInt8} {w : World} (h : IsBytes l v w) (hl : l.length ≤ 4000) {Q : List UInt8} (hQ : RiceSays W l Q) :
    Calls Try.prog 14 #[v, .int .i64 W] w (NewBy w Q) := by
  obtain ⟨A, c, rfl, hc, hr⟩ := h
  by_cases hW : rightB W = true
  · obtain ⟨V, rfl, hV⟩ := isW_of hW
    obtain ⟨L, h1, h2⟩ := riceL_some hV l
    have h3 := riceL_len hV h2 hl
    refine (riceCode_gen (ws := wordsOf V l) (rs := restOf V l) (fun W' hb => wordTakeF_any V hV A l.length c l W' ((hr.below hb).more hb.size) rfl hc (by omega)) (fun _ => ⟨V, hV, rfl, rfl⟩) (riceWords_lt hV l) (D_le hV).1 h1 (by omega) (by rw [wordsOf_len]; have := Nat.div_le_self l.length V; omega) (by have := rest_lt (W := V) (by have := hV.pos; omega) l; have := hV.pos; omega)).mono ?_
    rintro e w' ⟨bs, hp, hn⟩
    obtain rfl := hQ.one (.inr ⟨V, L, hV, rfl, h1, hp⟩)
    exact hn
  · have hW2 : rightB W = false := by simpa using hW
    refine (riceCode_gen (D := 8) (ws := []) (rs := []) (fun W' hb => wordTakeF_wrong A l.length c W W' hW2) (fun h => absurd rfl h) (by simp) (Nat.le_refl _) (.none 16 1) (by simp) (by simp) (by simp)).mono ?_
    rintro e w' ⟨bs, hp, hn⟩
    obtain rfl : bs = [] := hp.unique Packs.nil
    obtain rfl := hQ.one (.inl ⟨hW2, rfl⟩)
    exact hn
theorem riceRCode_says (W : Int) {v : Value} {l : List UInt8} {w : World} (h : IsBytes l v w) (hl : l.length ≤ 2000) {Q : List UInt8} (hQ : RiceSays W l Q) :
    Calls Try.prog 15 #[v, .int .i64 W] w (NewBy w Q) := by
  obtain ⟨A, c, rfl, hc, hr⟩ := h
  by_cases hW : rightB W = true
  · obtain ⟨V, rfl, hV⟩ := isW_of hW
    obtain ⟨L, h1, h2⟩ := riceL_some hV l
    have h3 := riceL_len hV h2 (by omega)
    refine (riceRCode_any hV A c l w hr hc hl h1 h3).mono ?_
    rintro e w' ⟨bs, hp, hn⟩
    obtain rfl := hQ.one (.inr ⟨V, L, hV, rfl, h1, hp⟩)
    exact hn
  · have hW2 : rightB W = false := by simpa using hW
    obtain rfl := hQ.one (.inl ⟨hW2, rfl⟩)
    refine (riceRCode_wrong W hW2 A l.length c w).mono ?_
    rintro e w' ⟨rfl, rfl⟩
    exact ⟨_, rfl, World.ownsRow_nil _ _ _ _, Below.refl _ _⟩
end Go.Proofs.Ytfdgnhfppginiaa
