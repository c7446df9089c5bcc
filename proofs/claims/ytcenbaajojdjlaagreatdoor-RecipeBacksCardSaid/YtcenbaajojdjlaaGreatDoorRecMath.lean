/- Plain mathematics of layer 11: steps, recipes, and how they are undone. -/
import Derived.Test.YtcenbaajojdjlaaGreatDoorRecGor
import Derived.Test.YtcenbaajojdjlaaGreatDoorRunsTold
namespace Go.Proofs.YtcenbaajojdjlaaGreatDoor

/-- The words of bytes, and what is left behind them. -/
def wordsOf (W : Nat) (l : List UInt8) : List Nat := wordsN (l.length / W) W l
def restOf (W : Nat) (l : List UInt8) : List UInt8 := l.drop (l.length / W * W)
/-- What becomes of bytes when so much becomes of their words. -/
def through (f : List Nat → List Nat) (W : Nat) (l : List UInt8) : List UInt8 := layW W (f (wordsOf W l)) ++ restOf W l
theorem wordsOf_len (W : Nat) (l : List UInt8) : (wordsOf W l).length = l.length / W := wordsN_len _ _ _
theorem restOf_len (W : Nat) (l : List UInt8) : (restOf W l).length = l.length - l.length / W * W := by simp [restOf]
theorem through_len {f : List Nat → List Nat} {W : Nat} (hf : ∀ ws, (f ws).length = ws.length) (l : List UInt8) : (through f W l).length = l.length := by
  unfold through
  rw [List.length_append, layW_len, hf, wordsOf_len, restOf_len]
  have := Nat.div_mul_le_self l.length W
  omega
theorem words_of_lay {W : Nat} (hW : 0 < W) (ws : List Nat) (rest : List UInt8) (hr : rest.length < W) :
    wordsOf W (layW W ws ++ rest) = ws.map (· % 256 ^ W) ∧ restOf W (layW W ws ++ rest) = rest := by
  have hd : (layW W ws ++ rest).length / W = ws.length := by
    rw [List.length_append, layW_len, Nat.add_comm, Nat.add_mul_div_right _ _ hW, Nat.div_eq_of_lt hr, Nat.zero_add]
  unfold wordsOf restOf
  rw [hd]
  refine ⟨words_layW W ws rest, ?_⟩
  rw [List.drop_left' (layW_len W ws)]
theorem rest_lt {W : Nat} (hW : 0 < W) (l : List UInt8) : (restOf W l).length < W := by
  rw [restOf_len]
  have h1 := Nat.div_add_mod l.length W
  have h2 := Nat.mod_lt l.length hW
  rw [Nat.mul_comm] at h1
  omega
theorem lay_words {W : Nat} (l : List UInt8) : layW W (wordsOf W l) ++ restOf W l = l := by
  unfold wordsOf restOf
  rw [layW_words _ _ _ (Nat.div_mul_le_self _ _), List.take_append_drop]
theorem wordsOf_lt {W : Nat} (hW : 0 < W) (l : List UInt8) : ∀ x ∈ wordsOf W l, x < 256 ^ W := by
  have h := words_of_lay hW (wordsOf W l) (restOf W l) (rest_lt hW l)
  rw [lay_words] at h
  intro x hx
  rw [h.1] at hx
  obtain ⟨y, _, rfl⟩ := List.mem_map.1 hx
  exact Nat.mod_lt _ (Nat.pow_pos (by decide))
/-- What undoes words undoes bytes. -/
theorem through_back {f g : List Nat → List Nat} {W : Nat} (hW : 0 < W) (hlt : ∀ ws, ∀ x ∈ f ws, x < 256 ^ W) (l : List UInt8) (hg : g (f (wordsOf W l)) = (wordsOf W l).map (· % 256 ^ W)) :
    through g W (through f W l) = l := by
  have h := words_of_lay hW (f (wordsOf W l)) (restOf W l) (rest_lt hW l)
  unfold through
  rw [h.1, h.2, fit_self (hlt _), hg, fit_self (wordsOf_lt hW l), lay_words]

/-- The steps of a recipe, by their numbers. -/
def stepsL : Nat → List Nat
  | 1 => [1, 3]
  | 2 => [2, 3]
  | 3 => [4]
  | 4 => [5]
  | 5 => [1, 3, 5]
  | 6 => [2, 3, 5]
  | 7 => [4, 5]
  | 8 => [6]
  | 9 => [7]
  | 10 => [1, 3, 5, 7]
  | _ => []
/-- What a step makes of bytes. -/
def doR (W s : Nat) (l m : List UInt8) : Prop :=
  (s = 1 ∧ m = through (diffW W) W l) ∨ (s = 2 ∧ m = through (secondW W) W l) ∨ (s = 3 ∧ m = through (foldW W) W l) ∨ (s = 4 ∧ m = through (flipW W) W l) ∨ (s = 5 ∧ m = splitL W l)
    ∨ (s = 6 ∧ ∃ Q, Packs Q (packB W (wordsOf W l)) ∧ m = Q ++ restOf W l) ∨ (s = 7 ∧ m = packL l)
/-- What undoes a step, of so many bytes. -/
def undoR (W raw s : Nat) (m : List UInt8) : Option (List UInt8) :=
  if s = 1 then some (through (sumW W) W m)
  else if s = 2 then some (through (twiceW W) W m)
  else if s = 3 then some (through (unfoldW W) W m)
  else if s = 4 then some (through (backW W) W m)
  else if s = 5 then some (joinL W m)
  else if s = 6 then
    if m.length < raw % W then none
    else if (gorR (W : Int) ((raw / W : Nat) : Int) (m.take (m.length - raw % W))).1 = 0 then some (layW W (gorR (W : Int) ((raw / W : Nat) : Int) (m.take (m.length - raw % W))).2 ++ m.drop (m.length - raw % W)) else none
  else if s = 7 then if (unpackR m (raw : Int)).2 = 0 then some (unpackR m (raw : Int)).1 else none
  else none
theorem doR_unique {W s : Nat} {l m m' : List UInt8} (h : doR W s l m) (h' : doR W s l m') : m = m' := by
  unfold doR at h h'
  rcases h with ⟨rfl, rfl⟩ | ⟨rfl, rfl⟩ | ⟨rfl, rfl⟩ | ⟨rfl, rfl⟩ | ⟨rfl, rfl⟩ | ⟨rfl, Q, hQ, rfl⟩ | ⟨rfl, rfl⟩ <;>
  rcases h' with ⟨h0, rfl⟩ | ⟨h0, rfl⟩ | ⟨h0, rfl⟩ | ⟨h0, rfl⟩ | ⟨h0, rfl⟩ | ⟨h0, Q', hQ', rfl⟩ | ⟨h0, rfl⟩ <;>
  first
    | rfl
    | (cases h0; done)
    | (rw [hQ.unique hQ'])
/-- One step behind the other. -/
def goR (W : Nat) : List Nat → List UInt8 → List UInt8 → Prop
  | [], l, m => m = l
  | s :: t, l, m => ∃ k, doR W s l k ∧ goR W t k m
theorem goR_snoc {W s : Nat} : ∀ {A : List Nat} {l k m : List UInt8}, goR W A l k → doR W s k m → goR W (A ++ [s]) l m
  | [], l, k, m, h, h' => by
    cases h
    exact ⟨m, h', rfl⟩
  | a :: A, l, k, m, h, h' => by
    obtain ⟨j, h1, h2⟩ := h
    exact ⟨j, h1, goR_snoc h2 h'⟩
theorem goR_unique {W : Nat} : ∀ {A : List Nat} {l m m' : List UInt8}, goR W A l m → goR W A l m' → m = m'
  | [], l, m, m', h, h' => by cases h; cases h'; rfl
  | a :: A, l, m, m', h, h' => by
    obtain ⟨j, h1, h2⟩ := h
    obtain ⟨j', h1', h2'⟩ := h'
    obtain rfl := doR_unique h1 h1'
    exact goR_unique h2 h2'
def backR (W raw : Nat) : List Nat → List UInt8 → Option (List UInt8)
  | [], m => some m
  | s :: t, m => (undoR W raw s m).bind (backR W raw t)
theorem backR_snoc {W raw s : Nat} : ∀ {A : List Nat} {m : List UInt8}, backR W raw (A ++ [s]) m = (backR W raw A m).bind (undoR W raw s)
  | [], m => by
    simp [backR]
  | a :: A, m => by
    simp only [List.cons_append, backR]
    cases undoR W raw a m with
    | none => rfl
    | some k => exact backR_snoc

/- lengths -/
theorem undoR_keeps {W raw s : Nat} (hs : 1 ≤ s ∧ s ≤ 5) (m : List UInt8) : ∃ x, undoR W raw s m = some x ∧ x.length = m.length := by
  rcases (show s = 1 ∨ s = 2 ∨ s = 3 ∨ s = 4 ∨ s = 5 by omega) with rfl | rfl | rfl | rfl | rfl
  · exact ⟨_, rfl, through_len (sumW_len W) m⟩
  · exact ⟨_, rfl, through_len (fun ws => by unfold twiceW; rw [sumW_len, sumW_len]) m⟩
  · exact ⟨_, rfl, through_len (unfoldW_len W) m⟩
  · exact ⟨_, rfl, through_len (backW_len W) m⟩
  · exact ⟨_, rfl, joinL_len W m⟩
theorem doR_keeps {W s : Nat} (hs : 1 ≤ s ∧ s ≤ 5) {l m : List UInt8} (h : doR W s l m) : m.length = l.length := by
  unfold doR at h
  rcases h with ⟨rfl, rfl⟩ | ⟨rfl, rfl⟩ | ⟨rfl, rfl⟩ | ⟨rfl, rfl⟩ | ⟨rfl, rfl⟩ | ⟨rfl, _⟩ | ⟨rfl, _⟩
  · exact through_len (diffW_len W) l
  · exact through_len (fun ws => by unfold secondW; rw [diffW_len, diffW_len]) l
  · exact through_len (foldW_len W) l
  · exact through_len (flipW_len W) l
  · exact splitL_len W l
  · omega
  · omega
theorem gorR_some {W n : Nat} {l : List UInt8} (h : (gorR (W : Int) (n : Int) l).1 = 0) : (gorR (W : Int) (n : Int) l).2.length = n := by
  unfold gorR at h ⊢
  by_cases hc : rightB (W : Int) = true ∧ 0 ≤ (n : Int) ∧ (n : Int) ≤ 67108864
  · rw [if_pos hc] at h ⊢
    rw [Int.toNat_natCast, Int.toNat_natCast] at h ⊢
    cases hT : takenR W n (allBits l) with
    | none =>
      rw [hT] at h
      cases h
    | some q =>
      obtain ⟨X, s⟩ := q
      rw [hT] at h
      simp only at h ⊢
      by_cases hd : doneE s = 0
      · rw [if_pos hd]
        simp only
        rw [backW_len]
        exact (takenR_some hT).1
      · rw [if_neg hd] at h
        cases h
  · rw [if_neg hc] at h
    cases h
theorem runsR_some {l : List UInt8} {n : Nat} (h : (unpackR l (n : Int)).2 = 0) : (unpackR l (n : Int)).1.length = n ∧ unpackL l = some (unpackR l (n : Int)).1 := by
  unfold unpackR at h ⊢
  by_cases hc : (n : Int) < 0 ∨ 268435456 < (n : Int)
  · rw [if_pos hc] at h
    cases h
  · rw [if_neg hc] at h ⊢
    cases ho : unpackL l with
    | none =>
      rw [ho] at h
      cases h
    | some o =>
      rw [ho] at h
      simp only at h ⊢
      by_cases hl : (o.length : Int) = (n : Int)
      · rw [if_pos hl]
        exact ⟨by simp only; omega, rfl⟩
      · rw [if_neg hl] at h
        cases h
theorem undoR_raw {W raw s : Nat} (hs : s = 6 ∨ s = 7) {m x : List UInt8} (h : undoR W raw s m = some x) : x.length = raw := by
  rcases hs with rfl | rfl
  · unfold undoR at h
    simp only [show ¬ (6 = 1) by decide, show ¬ (6 = 2) by decide, show ¬ (6 = 3) by decide, show ¬ (6 = 4) by decide, show ¬ (6 = 5) by decide, if_false, if_true] at h
    split at h
    · cases h
    · rename_i hlt
      split at h
      · rename_i hz
        injection h with h
        subst h
        rw [List.length_append, layW_len, gorR_some hz, List.length_drop]
        have h1 := Nat.div_add_mod raw W
        rw [Nat.mul_comm] at h1
        omega
      · cases h
  · unfold undoR at h
    simp only [show ¬ (7 = 1) by decide, show ¬ (7 = 2) by decide, show ¬ (7 = 3) by decide, show ¬ (7 = 4) by decide, show ¬ (7 = 5) by decide, show ¬ (7 = 6) by decide, if_false, if_true] at h
    split at h
    · rename_i hz
      injection h with h
      subst h
      exact (runsR_some hz).1
    · cases h

/- what was done is undone -/
theorem undo_do {W s : Nat} (hW : IsW W) {l m : List UInt8} (hl : l.length ≤ 67108864) (h : doR W s l m) : undoR W l.length s m = some l := by
  have hp := hW.pos
  have h64 : ∀ x ∈ wordsOf W l, x < 18446744073709551616 := lt_64 hW (wordsOf_lt (by omega) l)
  unfold doR at h
  rcases h with ⟨rfl, rfl⟩ | ⟨rfl, rfl⟩ | ⟨rfl, rfl⟩ | ⟨rfl, rfl⟩ | ⟨rfl, rfl⟩ | ⟨rfl, Q, hQ, rfl⟩ | ⟨rfl, rfl⟩
  · exact congrArg some (through_back (by omega) (diffW_lt W) l (sum_diff hW _ h64))
  · exact congrArg some (through_back (f := secondW W) (g := twiceW W) (by omega) (fun ws => diffW_lt W _) l (twice_second hW _ h64))
  · exact congrArg some (through_back (by omega) (foldW_lt hW) l (unfold_foldW hW _))
  · exact congrArg some (through_back (by omega) (flipW_lt W) l (back_flip W _))
  · exact congrArg some (join_split (by omega) l)
  · have hr := rest_lt (W := W) (by omega) l
    have hrl := restOf_len W l
    have hm : l.length % W = (restOf W l).length := by
      have h1 := Nat.div_add_mod l.length W
      rw [Nat.mul_comm] at h1
      omega
    have hg := gorR_pack hW (wordsOf W l) Q hQ ((l.length / W : Nat) : Int) (by rw [wordsOf_len]) (by rw [wordsOf_len]; exact Nat.le_trans (Nat.div_le_self _ _) hl)
    have hcut : (Q ++ restOf W l).length - l.length % W = Q.length := by rw [List.length_append]; omega
    unfold undoR
    simp only [show ¬ (6 = 1) by decide, show ¬ (6 = 2) by decide, show ¬ (6 = 3) by decide, show ¬ (6 = 4) by decide, show ¬ (6 = 5) by decide, if_false, if_true]
    rw [if_neg (by rw [List.length_append]; omega), hcut, List.take_left' rfl, List.drop_left' rfl, hg, if_pos rfl]
    simp only
    rw [fit_self (wordsOf_lt (by omega) l), lay_words]
  · unfold undoR
    simp only [show ¬ (7 = 1) by decide, show ¬ (7 = 2) by decide, show ¬ (7 = 3) by decide, show ¬ (7 = 4) by decide, show ¬ (7 = 5) by decide, show ¬ (7 = 6) by decide, if_false, if_true]
    have hu : unpackR (packL l) (l.length : Int) = (l, 0) := by
      unfold unpackR
      rw [if_neg (by omega), unpack_pack]
      simp
    rw [hu, if_pos rfl]
end Go.Proofs.YtcenbaajojdjlaaGreatDoor
