/- Layer 26: what may lie beside a decoder; a part found, and taken, where bytes may follow; ways to take a byte. -/
import Derived.Test.YtgbibmgedmbboaaGreatBlendCode
import Derived.Test.YtgbibmgedmbboaaGreatRcPFind
namespace Go.Proofs.YtgbibmgedmbboaaGreat
open Go.RowKit Go.Sort Go.Shelf

/-- What a decoder has read of bytes T, behind which X follow. -/
def restS (T X : List Nat) : Nat × List Nat × Nat := (num4 (T ++ X), (T ++ X).drop 4, 0)
theorem num4_app {T : List Nat} (X : List Nat) (h : 4 ≤ T.length) : num4 (T ++ X) = num4 T := by
  match T, h with
  | a :: b :: c :: d :: T, _ => rfl
theorem restS_start {T X : List Nat} (hT : ∀ y ∈ T ++ X, y < 256) (hl : 4 ≤ T.length) : comesS 4 (0, T ++ X, 0) = restS T X := by
  unfold restS
  match T, hl with
  | a :: b :: c :: d :: T, _ => exact comesS_four a b c d (T ++ X) hT
/-- A part found, and taken. -/
theorem back_more {L R : Nat} {p : RcPart} {rest : List RcPart} {T X : List Nat} (h : Laid L R (p :: rest) T) (hs : InSpan L R) (hR : 65536 ≤ R) (hp : ∀ q ∈ p :: rest, q.ok) (hX : ∀ y ∈ X, y < 256) :
    ∃ (n L' R' : Nat) (T' : List Nat), Laid L' R' rest T' ∧ InSpan L' R' ∧ 65536 ≤ R' ∧ p.low ≤ n ∧ n < p.low + p.size ∧
      (∀ (w : World) (D K : Nat), DecAt w D K L R (restS T X) → Calls Tryz.prog 58 #[.pointer (some ⟨D, 0, none⟩), .int .i64 (p.total : Int)] w fun e w' => e = .returned (.int .i64 (n : Int)) ∧ DecAt w' D K L R (restS T X) ∧ TurnsB D D w w') ∧
      (∀ (w : World) (D K : Nat), DecAt w D K L R (restS T X) → Calls Tryz.prog 59 #[.pointer (some ⟨D, 0, none⟩), .int .i64 (p.low : Int), .int .i64 (p.size : Int), .int .i64 (p.total : Int)] w fun e w' => e = .returned (.int .i64 0) ∧ DecAt w' D K L' R' (restS T' X) ∧ TurnsB D D w w') := by
  obtain ⟨w1, w2, w3, w4⟩ := h.within hs hR hp
  obtain ⟨p1, p2, p3⟩ := hp p List.mem_cons_self
  obtain ⟨n1, n2, n3, n4⟩ := narrow_span hs hR p1 p2 p3
  cases h with
  | part _ _ _ _ o T L' R' hm hr =>
    obtain ⟨i1, i2⟩ := hm.inside n4
    obtain ⟨t1, t2, t3, t4⟩ := hr.within i1 i2 fun q hq => hp q (List.mem_cons_of_mem _ hq)
    obtain ⟨q1, q2⟩ := hm.within n4 T t1 t2 t3 t4
    have hC : num4 (o ++ T) < 4294967296 := by have := hs.2.2.1; omega
    obtain ⟨n, f1, f2, f3⟩ := findS_in (L := L) (R := R) (C := num4 (o ++ T)) (low := p.low) (size := p.size) (total := p.total) w3 hC n1 q1 q2 p2
    have hb : ∀ y ∈ o ++ (T ++ X), y < 256 := fun y hy => by
      rw [← List.append_assoc] at hy
      rcases List.mem_append.1 hy with hy | hy
      · exact w1 y hy
      · exact hX y hy
    have hcm := comesS_num o (T ++ X) 0 hb (by rw [List.length_append]; omega)
    rw [← List.append_assoc] at hcm
    rw [← num4_app X w2] at f1
    refine ⟨n, L', R', T, hr, i1, i2, f2, f3, fun w D K hd => ?_, fun w D K hd => ?_⟩
    · have := decFind_ok p.total hd hs hR (by omega) p3
      rw [f1] at this
      exact this
    · have := decTake_ok hd hs hR p1 p2 p3 hm
      rw [hcm] at this
      exact this
section
variable {w w' : World} {D K L R : Nat} {st : Nat × List Nat × Nat} {S : List Nat}
/-- Of S each block is known, is no decoder, and holds no byte. -/
def NoByte (S : List Nat) (w : World) : Prop := ∀ g ∈ S, ∃ t cs, Blk w g t cs ∧ t ≠ 135 ∧ ∀ v ∈ cs, ∀ x, v ≠ .int .u8 x
theorem DecAt.onlyS (h : DecAt w D K L R st) (hu : OnlyS S w w') (hS : NoByte S w) : DecAt w' D K L R st := by
  obtain ⟨A, n, m, h1, h2, h3, h4, h5, h6, h7⟩ := h
  refine ⟨A, n, m, hu.blk h1 fun hD => ?_, fun i u hi => ?_, h3, h4, h5, h6, h7⟩
  · obtain ⟨t, cs, hb, hne, -⟩ := hS D hD
    exact h1.ofType.ne hne.symm hb.ofType
  · obtain ⟨b, off, rfl, hb, hc⟩ := h2 i u hi
    refine ⟨b, off, rfl, hb, ?_⟩
    have hlt : b < w.heap.size := World.block_lt_of_cell? w _ hc
    rw [World.cell?_of_block (w := w) (w' := w') (a := ⟨b, off + i, none⟩) (hu.block b hlt fun hm => ?_)]
    · exact hc
    · obtain ⟨t, cs, hk, -, hv⟩ := hS b hm
      have e : cs[off + i]? = some u := (hk.cell (off + i)).symm.trans hc
      have hx : ∃ x, u = .int .u8 x := by
        simp only [nvs, List.getElem?_map, Option.map_eq_some_iff] at hi
        obtain ⟨y, -, rfl⟩ := hi
        exact ⟨_, rfl⟩
      obtain ⟨x, rfl⟩ := hx
      exact hv _ (List.mem_of_getElem? e) x rfl
theorem DecAt.kept (h : DecAt w D K L R st) (hk : ∀ k, k ≤ D → w'.heap[k]? = w.heap[k]?) : DecAt w' D K L R st := by
  obtain ⟨A, n, m, h1, h2, h3, h4, h5, h6, h7⟩ := h
  exact ⟨A, n, m, (hk D (Nat.le_refl _)).trans h1, h2.keep fun p hp => World.cell?_of_block (hk _ (by omega)), h3, h4, h5, h6, h7⟩
theorem DecAt.ofType (h : DecAt w D K L R st) : OfType w D 135 := by
  obtain ⟨A, n, m, h1, -⟩ := h
  exact h1.ofType
theorem DecAt.turned (h : DecAt w D K L R st) (ht : TurnsB D D w w') : OnlyT 0 [135] w w' :=
  (OnlyS.of_turns ht (S := [D]) (by simp)).onlyT fun g hg => by
    rw [List.mem_singleton.1 hg]
    exact ⟨Nat.zero_le _, _, by simp, h.ofType⟩
end
theorem zvs_nob (l : List Int) : ∀ v ∈ zvs l, ∀ x, v ≠ .int .u8 x := fun v hv x e => by
  obtain ⟨y, -, rfl⟩ := List.mem_map.1 hv
  cases e
theorem cvs_nob (l : List Nat) : ∀ v ∈ cvs l, ∀ x, v ≠ .int .u8 x := fun v hv x e => by
  obtain ⟨y, -, rfl⟩ := List.mem_map.1 hv
  cases e
theorem IsModel.nob {w : World} {a : ModA} {s : ModD} (h : IsModel w a s) : NoByte a.all w := fun g hg => by
  simp only [ModA.all, List.mem_cons, List.not_mem_nil, or_false] at hg
  rcases hg with rfl | rfl | rfl | rfl | rfl
  · refine ⟨_, _, h.mb, by decide, fun v hv x e => ?_⟩
    subst e
    simp [modC] at hv
  · exact ⟨_, _, h.b1.cb, by decide, cvs_nob _⟩
  · exact ⟨_, _, h.b2.cb, by decide, cvs_nob _⟩
  · exact ⟨_, _, h.b3.cb, by decide, cvs_nob _⟩
  · exact ⟨_, _, h.x.fb, by decide, zvs_nob _⟩
theorem IsFreq.nob {w : World} {F T S : Nat} {c : List Int} {st mo : Int} (h : IsFreq w F T S c st mo) : NoByte [T, S] w := fun g hg => by
  simp only [List.mem_cons, List.not_mem_nil, or_false] at hg
  rcases hg with rfl | rfl
  · refine ⟨_, _, h.tree.2.tb, by decide, fun v hv x e => ?_⟩
    subst e
    simp at hv
  · exact ⟨_, _, h.tree.2.sb, by decide, zvs_nob _⟩
/-- A way to take a byte: function K with what it has captured. -/
structure TakeJ {σ : Type} (V : Way σ) (K : Nat) (caps : Array Value) (S : List Nat) (own : Nat → Prop) (At : σ → World → Prop) : Prop where
  kept : ∀ {s : σ} {w w' : World}, At s w → (∀ k, own k → w'.heap[k]? = w.heap[k]?) → At s w'
  take : ∀ {s : σ} {c D Kd L R : Nat} {rest : List RcPart} {T X : List Nat} {w : World}, V.inv s → c < 256 → At s w → DecAt w D Kd L R (restS T X) → Laid L R (V.parts s c ++ rest) T → InSpan L R → 65536 ≤ R → (∀ p ∈ V.parts s c ++ rest, p.ok) → (∀ y ∈ X, y < 256) →
    Calls Tryz.prog K (#[.pointer (some ⟨D, 0, none⟩)] ++ caps) w fun e w' => e = .returned (.int .u8 (c : Int)) ∧ ∃ L' R' T', Laid L' R' rest T' ∧ InSpan L' R' ∧ 65536 ≤ R' ∧ At (V.next s c) w' ∧ DecAt w' D Kd L' R' (restS T' X) ∧ OnlyS (D :: S) w w'
end Go.Proofs.YtgbibmgedmbboaaGreat
