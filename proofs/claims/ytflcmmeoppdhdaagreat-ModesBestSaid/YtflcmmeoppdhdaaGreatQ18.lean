/-
  Layer 20: the reference's Depths.
-/
import Derived.Test.YtflcmmeoppdhdaaGreatQ15
import Derived.Test.YtflcmmeoppdhdaaGreatQ17
import Derived.Deep.RegionHeld3
import Derived.Deep.AppendLies
import Derived.Deep.DeepCutAuto
namespace Go.Proofs.YtflcmmeoppdhdaaGreat
open Go.RowKit Go.Sort Go.Shelf

theorem info_Th : (Tryz.prog.info? 228).map (fun i => (i.zero, i.size, i.bytes)) = some (some (.agg #[.int .i64 0, .int .i64 0, .slice none 0 0, .bool false]), 4, 48) := by kernel_rfl
/-- The letters under a thing. -/
def UnderV (w : World) (B : Nat) (v : Value) (us : List Nat) : Prop :=
  ∃ b c, v = .slice (some ⟨b, 0, none⟩) us.length c ∧ B < b ∧ us.length ≤ c ∧ c ≤ maxLen ∧ OfType w b 3 ∧ ∀ j u, (plv us)[j]? = some u → w.cell? ⟨b, j, none⟩ = some u
section
variable {w w' : World} {B : Nat} {v : Value} {us : List Nat}
theorem UnderV.keep (h : UnderV w B v us) (hk : ∀ b, B < b → OfType w b 3 → w'.heap[b]? = w.heap[b]?) : UnderV w' B v us := by
  obtain ⟨b, c, h1, h2, h3, h3b, h4, h5⟩ := h
  have e := hk b h2 h4
  refine ⟨b, c, h1, h2, h3, h3b, ?_, fun j u hu => ?_⟩
  · obtain ⟨cs, fr, hh⟩ := h4
    exact ⟨cs, fr, e.trans hh⟩
  · rw [World.cell?_of_block (a := ⟨b, j, none⟩) e]; exact h5 j u hu
theorem UnderV.grow (h : UnderV w B v us) (hb : Below w.heap.size w w') : UnderV w' B v us := h.keep fun b _ ht => hb.block b ht.lt
theorem UnderV.turned (h : UnderV w B v us) {row : Option Nat} (hg : w.grownBy w' row) (hr : ∀ k, row = some k → OfType w k 228) : UnderV w' B v us := h.keep fun b _ ht => hg.block b ht.lt (fun e => by
  exact (ht.ne (by decide)) (hr b e.symm))
theorem UnderV.things (h : UnderV w B v us) {G i : Nat} {u : Value} (hG : OfType w G 228) : UnderV (w.setCell ⟨G, i, none⟩ u) B v us := h.keep fun b _ ht => Below.heap_setCell _ _ _ b (by
  show b ≠ G
  intro e; subst e
  exact (ht.ne (by decide)) hG)
theorem UnderV.new (w : World) {B : Nat} (hB : B < w.heap.size) (i : Nat) : UnderV (w.alloc (.cells #[.int .i64 (i : Int)] 3)) B (.slice (some ⟨w.heap.size, 0, none⟩) 1 1) [i] :=
  ⟨w.heap.size, 1, rfl, hB, Nat.le_refl _, by simp only [maxLen]; omega, ⟨_, _, heap_alloc_new w _⟩, fun j u hu => by
    have h : Blk (w.alloc (.cells #[.int .i64 (i : Int)] 3)) w.heap.size 3 [.int .i64 (i : Int)] := heap_alloc_new w _
    rw [h.cell]; exact hu⟩
theorem own_atT {base n c g : Nat} {xs : List Value} (ho : w.ownsRow base 228 4 (.slice (some ⟨g, 0, none⟩) n c) n xs) {j : Nat} {u : Value} (h : xs[j]? = some u) : w.cell? ⟨g, j, none⟩ = some u := by
  have h1 := ho.cells (g := g) rfl j u h
  have e : (⟨g, 0, none⟩ : Addr).add j = ⟨g, j, none⟩ := by unfold Addr.add; split <;> simp_all
  rwa [e] at h1
end
theorem th_one (x N : Int) (a : Option Addr) (n c : Nat) : ∀ u ∈ [Value.int .i64 x, .int .i64 N, .slice a n c, .bool true], u.oneCell' = true := by
  intro u hu
  simp only [List.mem_cons, List.not_mem_nil, or_false] at hu
  rcases hu with rfl | rfl | rfl | rfl <;> rfl
theorem rd_new2 (w : World) (o : Obj) (cs : List Value) (t : TypeId) : Rd ((w.alloc o).alloc (.cells cs.toArray t)) ((w.alloc o).alloc (.cells cs.toArray t)).heap.size (some ⟨w.heap.size + 1, 0, none⟩) cs := by
  have h := Rd.new (w.alloc o) cs.toArray t
  rw [show (w.alloc o).heap.size = w.heap.size + 1 by simp] at h
  exact h
/-- The first k letters, as things. -/
structure Begun (w : World) (c : List Int) (k : Nat) (l : List Th) (wr : World) : Prop where
  len : l.length = rankL c k
  wt : ∀ j, j < l.length → (th l j).w = wtL c j ∧ (th l j).h = true
  und : ∀ j, j < l.length → ∃ i, UnderV wr w.heap.size (th l j).u [i] ∧ i < k ∧ 0 < c.getD i 0 ∧ rankL c i = j
theorem Begun.keep {w wr wr' : World} {c : List Int} {k : Nat} {l : List Th} (h : Begun w c k l wr) (hk : ∀ v us, UnderV wr w.heap.size v us → UnderV wr' w.heap.size v us) : Begun w c k l wr' :=
  ⟨h.len, h.wt, fun j hj => by
    obtain ⟨i, h1, h2⟩ := h.und j hj
    exact ⟨i, hk _ _ h1, h2⟩⟩
theorem Begun.skip {w wr : World} {c : List Int} {k : Nat} {l : List Th} (h : Begun w c k l wr) (hk : k < c.length) (h0 : ¬ 0 < c[k]) : Begun w c (k + 1) l wr :=
  ⟨by rw [rankL_skip hk h0]; exact h.len, h.wt, fun j hj => by
    obtain ⟨i, h1, h2, h3⟩ := h.und j hj
    exact ⟨i, h1, by omega, h3⟩⟩
theorem Begun.more {w wr : World} {c : List Int} {k : Nat} {l : List Th} {u : Value} (h : Begun w c k l wr) (hk : k < c.length) (h0 : 0 < c[k]) (hu : UnderV wr w.heap.size u [k]) : Begun w c (k + 1) (l ++ [⟨(c[k]).toNat, u, true⟩]) wr := by
  have hr := rankL_succ c k hk
  rw [if_pos h0] at hr
  refine ⟨by rw [List.length_append, hr, h.len]; rfl, fun j hj => ?_, fun j hj => ?_⟩
  · rw [List.length_append, List.length_singleton] at hj
    rw [th_push]
    by_cases e : j < l.length
    · rw [if_pos e]; exact h.wt j e
    · have e2 : j = l.length := by omega
      rw [if_neg e, if_pos e2, e2, h.len, wtL_rank c hk h0]
      exact ⟨rfl, rfl⟩
  · rw [List.length_append, List.length_singleton] at hj
    rw [th_push]
    by_cases e : j < l.length
    · rw [if_pos e]
      obtain ⟨i, h1, h2, h3⟩ := h.und j e
      exact ⟨i, h1, by omega, h3⟩
    · have e2 : j = l.length := by omega
      rw [if_neg e, if_pos e2]
      exact ⟨k, hu, by omega, by rw [getD_ltL hk]; exact h0, by rw [e2, h.len]⟩
/-- While the letters come. -/
def BeginRel (w : World) (c : List Int) (n : Nat) (v i : Value) (wr : World) : Prop :=
  ∃ (k : Nat) (l : List Th), k ≤ n ∧ i = .int .i64 (k : Int) ∧ Begun w c k l wr ∧ wr.ownsRow (w.heap.size + 1) 228 4 v l.length (tvs 0 l) ∧ Blk wr w.heap.size 3 (zvs (List.replicate n 0)) ∧ Below w.heap.size w wr
theorem under_own {w : World} {base n c g B : Nat} {us : List Nat} {xs : List Value} (h : w.ownsRow base 3 1 (.slice (some ⟨g, 0, none⟩) n c) n xs) (hx : xs = plv us) (hn : n = us.length) (hB : B < base) : UnderV w B (.slice (some ⟨g, 0, none⟩) n c) us := by
  subst hn hx
  obtain ⟨h1, h2⟩ := own_type h g rfl
  obtain ⟨A', c', e, h3, h4, -⟩ := own_form h
  injection e with e1 _ e2
  subst e2
  exact ⟨g, c, rfl, by omega, h3, h4, h2, fun j u hu => own_at h hu⟩
theorem cell_al {w : World} {a : Addr} {v : Value} {n : Nat} {o : Obj} (h : w.cell? a = some v) (hb : a.block < w.heap.size) : ((w.drewN n).drew.alloc o).cell? a = some v := by
  rw [World.cell?_alloc_lt _ _ _ (by exact hb)]; exact h
theorem news_keep {wr W : World} {b : Nat} {xs : List Value} (h : ∀ j u, xs[j]? = some u → wr.cell? ⟨b, j, none⟩ = some u) (hb : b < wr.heap.size) (hB : Below wr.heap.size wr W) : ∀ j u, xs[j]? = some u → W.cell? ((⟨b, 0, none⟩ : Addr).add j) = some u := fun j u hu => by
  have e : (⟨b, 0, none⟩ : Addr).add j = ⟨b, j, none⟩ := by unfold Addr.add; split <;> simp_all
  rw [e]
  exact (hB.cell (p := ⟨b, j, none⟩) hb).trans (h j u hu)
theorem UnderV.turnsB {w w' : World} {B : Nat} {v : Value} {us : List Nat} (h : UnderV w B v us) (ht : TurnsB B B w w') : UnderV w' B v us := h.keep fun b hb hty => ht.block b hty.lt (by omega) (by omega)
/-- What both are: a new row of the letters of the one, and of the other. -/
def BothR (wr : World) (B : Nat) (us : List Nat) (v : Value) (wx : World) : Prop := UnderV wx B v us ∧ Below wr.heap.size wr wx
theorem hcu8' {wc wq : World} {g B : Nat} {bs : List Nat} (h : ∀ j u, (plv bs)[j]? = some u → wc.cell? ⟨g, j, none⟩ = some u) (hg : g < wc.heap.size) (ht : TurnsB B B wc wq) (hB : B < g) (j : Nat) (hj : j < bs.length) : wq.cell? ⟨g, j, none⟩ = some (.int .i64 (bs[j] : Int)) := by
  have h1 := h j _ (plv_get bs j hj)
  rw [World.cell?_of_block (a := ⟨g, j, none⟩) (ht.block g hg (by omega) (by omega)), h1]
  simp [List.getD_eq_getElem?_getD, hj]
theorem heap_setCell_same' {w : World} {G i : Nat} {u : Value} {cs : Array Value} {t : TypeId} {fr : Nat × Nat} (h : w.heap[G]? = some (.cells cs t fr)) : (w.setCell ⟨G, i, none⟩ u).heap[G]? = some (.cells (cs.setIfInBounds i u) t fr) := by
  rw [setCell_eq_setRow w G i cs t fr u h]
  exact setRow_heap w G cs _ t fr h
/-- Between two rounds. -/
structure RSt (w : World) (c : List Int) (f : For) (l : List Th) (v : Value) (wr : World) : Prop where
  out : Blk wr w.heap.size 3 (zvs (outF f.d c))
  own : wr.ownsRow (w.heap.size + 1) 228 4 v f.N (tvs 0 l)
  len : l.length = f.N
  wt : ∀ k, k < f.N → (th l k).w = f.wt k ∧ (th l k).h = f.here k
  und : ∀ k, k < f.N → f.here k = true → ∃ us, UnderV wr w.heap.size (th l k).u us ∧ us ≠ [] ∧ us.Nodup ∧ ∀ i, i ∈ us ↔ Under c f k i
  way : ∃ hs, RWay c f hs
  below : Below w.heap.size w wr
theorem RSt.start {w wr : World} {c : List Int} {l : List Th} {v : Value} (h : Begun w c c.length l wr) (ho : wr.ownsRow (w.heap.size + 1) 228 4 v l.length (tvs 0 l)) (hb : Blk wr w.heap.size 3 (zvs (List.replicate c.length 0))) (hbl : Below w.heap.size w wr) :
    RSt w c (For.start (posL c).length (wtL c)) l v wr := by
  have hl : l.length = (posL c).length := by rw [h.len, rankL_all]
  refine ⟨?_, by show wr.ownsRow _ _ _ v (posL c).length _; rw [← hl]; exact ho, hl, fun k hk => ?_, fun k hk _ => ?_, ⟨_, RWay.start c⟩, hbl⟩
  · have e : outF (For.start (posL c).length (wtL c)).d c = List.replicate c.length 0 := outF_zero c
    rw [e]; exact hb
  · have hk2 : k < (posL c).length := hk
    obtain ⟨h1, h2⟩ := h.wt k (by omega)
    exact ⟨h1, by rw [h2]; show true = decide (k < (posL c).length); simp [hk2]⟩
  · have hk2 : k < (posL c).length := hk
    obtain ⟨i, h1, h2, h3, h4⟩ := h.und k (by omega)
    refine ⟨[i], h1, by simp, by simp, fun j => ?_⟩
    rw [List.mem_singleton]
    show j = i ↔ j < c.length ∧ 0 < c.getD j 0 ∧ rankL c j = k
    constructor
    · rintro rfl; exact ⟨h2, h3, h4⟩
    · rintro ⟨h5, h6, h7⟩
      exact rank_inj h5 h2 (by rw [← getD_ltL h5]; exact h6) (by rw [← getD_ltL h2]; exact h3) (by omega)
theorem RSt.least {w wr : World} {c : List Int} {f : For} {l : List Th} {v : Value} (h : RSt w c f l v wr) {but : Int} {a : Nat} (hl : LeastR l but f.N (a : Int)) : f.least (fun m => f.here m = true ∧ (m : Int) ≠ but) a ∧ a < f.N := by
  obtain ⟨hs, hw⟩ := h.way
  generalize hr : (a : Int) = r at hl
  cases hl with
  | none _ => omega
  | some b hb hmin =>
    obtain rfl : a = b := by omega
    have hwt := fun k hk => h.wt k hk
    refine ⟨⟨⟨by rw [← (hwt a hb.1).2]; exact hb.2.1, hb.2.2⟩, fun m hm hne => ?_⟩, hb.1⟩
    have hmN := hw.ok.less m hm.1
    have h1 := hmin m ⟨hmN, by rw [(hwt m hmN).2]; exact hm.1, hm.2⟩ hne
    rw [(hwt a hb.1).1, (hwt m hmN).1] at h1
    exact h1
theorem RSt.nobody {w wr : World} {c : List Int} {f : For} {l : List Th} {v : Value} (h : RSt w c f l v wr) {but : Int} (hl : LeastR l but f.N (-1)) : ∀ m, f.here m = true → (m : Int) = but := by
  obtain ⟨hs, hw⟩ := h.way
  generalize hr : (-1 : Int) = r at hl
  cases hl with
  | none hn =>
    intro m hm
    refine Classical.byContradiction fun hne => hn m ?_
    have hmN := hw.ok.less m hm
    exact ⟨hmN, by rw [(h.wt m hmN).2]; exact hm, hne⟩
  | some b hb hmin => omega
theorem RSt.done {w wr : World} {c : List Int} {f : For} {l : List Th} {v : Value} (h : RSt w c f l v wr) (h1 : (posL c).length ≠ 1) (hone : ∀ m m', f.here m = true → f.here m' = true → m = m') {n : Nat} (hn : c.length = n) :
    DeepR c (outF f.d c) ∧ LensV w.heap.size (outF f.d c) (.slice (some ⟨w.heap.size, 0, none⟩) n n) wr := by
  obtain ⟨hs, hw⟩ := h.way
  have hg := hw.way f (.last f hone)
  exact ⟨⟨f, hg, out_lens hg h1⟩, ⟨w.heap.size, n, rfl, by rw [outF_len, hn], Nat.le_refl _, h.out⟩⟩
theorem outF_small {w wr : World} {c : List Int} {f : For} {l : List Th} {v : Value} (h : RSt w c f l v wr) (hc : c.length ≤ 1500) (p : Nat) : -1 ≤ (outF f.d c).getD p 0 ∧ (outF f.d c).getD p 0 ≤ 1000000 := by
  obtain ⟨hs, hw⟩ := h.way
  have h1 := hw.small (rankL c p)
  have h2 := hw.most
  have h3 := rankL_le c c.length
  rw [rankL_all] at h3
  by_cases hp : p < c.length
  · rw [List.getD_eq_getElem?_getD, outF_get _ _ hp]
    simp only [Option.getD_some]
    split <;> omega
  · rw [List.getD_eq_getElem?_getD, List.getElem?_eq_none (by rw [outF_len]; omega)]
    simp
theorem round_end {w wr wc wq : World} {c : List Int} {f : For} {l : List Th} {G N c1 a b g8 c8 g9 c9 M : Nat} {w9 : World} {bs : List Nat} {xs : List Value}
    (h : RSt w c f l (.slice (some ⟨G, 0, none⟩) f.N c1) wr) (hN : N = f.N) (ha : f.least (fun m => f.here m = true ∧ (m : Int) ≠ -1) a ∧ a < f.N) (hb : f.least (fun m => f.here m = true ∧ (m : Int) ≠ (a : Int)) b ∧ b < f.N)
    (hwc : Below wr.heap.size wr wc) (hu8 : UnderV wc w.heap.size (.slice (some ⟨g8, 0, none⟩) M c8) bs) (hbs0 : bs ≠ []) (hbsn : bs.Nodup) (hbsm : ∀ i, i ∈ bs ↔ Under c f a i ∨ Under c f b i)
    (hq : TurnsB w.heap.size w.heap.size wc wq) (ho : Blk wq w.heap.size 3 (zvs (outF (f.both a b).d c)))
    (hx : xs = tvs 0 ((l.set a (gone (th l a))).set b (gone (th l b))) ++ [Value.int .i64 (((f.wt a + f.wt b : Nat) : Int)), .int .i64 (N : Int), .slice (some ⟨g8, 0, none⟩) M c8, .bool true])
    (hown : w9.ownsRow (w.heap.size + 1) 228 4 (.slice (some ⟨g9, 0, none⟩) (N + 1) c9) (N + 1) xs)
    (hty : OfType wq G 228) (hgr : (((wq.setCell ⟨G, a * 4 + 3, none⟩ (.bool false)).setCell ⟨G, b * 4 + 3, none⟩ (.bool false)).drew.alloc (.cells #[.int .i64 (((f.wt a + f.wt b : Nat) : Int)), .int .i64 (N : Int), .slice (some ⟨g8, 0, none⟩) M c8, .bool true] 228)).grownBy w9 (some G)) :
    ∃ f' l', RSt w c f' l' (.slice (some ⟨g9, 0, none⟩) (N + 1) c9) w9 ∧ f'.N = N + 1 := by
  obtain ⟨hs, hw⟩ := h.way
  have hla : f.least (fun m => f.here m = true) a := ⟨ha.1.1.1, fun m hm hne => ha.1.2 m ⟨hm, by omega⟩ hne⟩
  have hlb : f.least (fun m => f.here m = true ∧ m ≠ a) b := ⟨⟨hb.1.1.1, fun e => hb.1.1.2 (by rw [e])⟩, fun m hm hne => hb.1.2 m ⟨hm.1, fun e => hm.2 (by omega)⟩ hne⟩
  obtain ⟨hway, -, -⟩ := hw.step hla hlb
  have hgB : w.heap.size < G := by
    have := (own_type h.own G rfl).1
    omega
  have hal : a < l.length := by rw [h.len]; exact ha.2
  have hbl : b < l.length := by rw [h.len]; exact hb.2
  have hl2 : ((l.set a (gone (th l a))).set b (gone (th l b))).length = N := by simp [h.len, hN]
  have hty2 : OfType (wq.setCell ⟨G, a * 4 + 3, none⟩ (.bool false)) G 228 := by
    obtain ⟨cs, fr, e⟩ := hty
    exact ⟨_, _, heap_setCell_same' e⟩
  have hty3 : OfType ((wq.setCell ⟨G, a * 4 + 3, none⟩ (.bool false)).setCell ⟨G, b * 4 + 3, none⟩ (.bool false)) G 228 := by
    obtain ⟨cs, fr, e⟩ := hty2
    exact ⟨_, _, heap_setCell_same' e⟩
  have hgrow : ∀ v us, UnderV wq w.heap.size v us → UnderV w9 w.heap.size v us := fun v us hu => by
    have h1 := (hu.things (i := a * 4 + 3) (u := .bool false) hty).things (i := b * 4 + 3) (u := .bool false) hty2
    have h2 := h1.grow ((Below.refl ((wq.setCell ⟨G, a * 4 + 3, none⟩ (.bool false)).setCell ⟨G, b * 4 + 3, none⟩ (.bool false)).heap.size ((wq.setCell ⟨G, a * 4 + 3, none⟩ (.bool false)).setCell ⟨G, b * 4 + 3, none⟩ (.bool false))).drew.alloc (Nat.le_refl _) (.cells #[.int .i64 (((f.wt a + f.wt b : Nat) : Int)), .int .i64 (N : Int), .slice (some ⟨g8, 0, none⟩) M c8, .bool true] 228))
    refine h2.turned hgr fun q e => ?_
    have e2 : G = q := Option.some.inj e
    subst e2
    obtain ⟨cs, fr, e3⟩ := hty3
    refine ⟨cs, fr, ?_⟩
    have hlt := (Array.getElem?_eq_some_iff.1 e3).1
    exact (((Below.refl ((wq.setCell ⟨G, a * 4 + 3, none⟩ (.bool false)).setCell ⟨G, b * 4 + 3, none⟩ (.bool false)).heap.size ((wq.setCell ⟨G, a * 4 + 3, none⟩ (.bool false)).setCell ⟨G, b * 4 + 3, none⟩ (.bool false))).drew.alloc (Nat.le_refl _) _).block G hlt).trans e3
  have hold : ∀ v us, UnderV wr w.heap.size v us → UnderV w9 w.heap.size v us := fun v us hu => hgrow v us ((hu.grow hwc).turnsB hq)
  refine ⟨f.both a b, (l.set a (gone (th l a))).set b (gone (th l b)) ++ [⟨f.wt a + f.wt b, .slice (some ⟨g8, 0, none⟩) M c8, true⟩], ⟨?_, ?_, ?_, fun k hk => ?_, fun k hk hh => ?_, hway, ?_⟩, by show f.N + 1 = _; rw [hN]⟩
  · refine blk_row ((((ho.setOther _ _ (by show w.heap.size ≠ G; omega)).setOther _ _ (by show w.heap.size ≠ G; omega)).drew_).alloc_ _) hgr fun r e => ?_
    have e2 : G = r := Option.some.inj e
    omega
  · show w9.ownsRow _ _ _ _ (f.N + 1) _
    rw [← hN, tvs_append, hl2, Nat.zero_add]
    rw [hx] at hown
    exact hown
  · rw [List.length_append, hl2, List.length_singleton]
    show N + 1 = f.N + 1
    rw [hN]
  · have hk2 : k < f.N + 1 := hk
    rw [th_push, hl2]
    by_cases hkN : k < N
    · rw [if_pos hkN, th_set _ _ _ _ (by simpa using hbl), th_set _ _ _ _ hal, For.both_wt _ (by omega)]
      obtain ⟨h1, h2⟩ := h.wt k (by omega)
      have hh : (f.both a b).here k = if k = a ∨ k = b then false else f.here k := by
        show (if k = f.N then true else if k = a ∨ k = b then false else f.here k) = _
        rw [if_neg (by omega)]
      rw [hh]
      by_cases e1 : k = b
      · rw [if_pos e1, if_pos (.inr e1)]
        subst e1
        exact ⟨h1, rfl⟩
      · rw [if_neg e1]
        by_cases e2 : k = a
        · rw [if_pos e2, if_pos (.inl e2)]
          subst e2
          exact ⟨h1, rfl⟩
        · rw [if_neg e2, if_neg (fun x => x.elim e2 e1)]
          exact ⟨h1, h2⟩
    · have e : k = N := by omega
      rw [if_neg hkN, if_pos e, e, hN, For.both_wtN, (For.both_here f.N).2 (.inl rfl)]
      exact ⟨rfl, rfl⟩
  · have hk2 : k < f.N + 1 := hk
    rw [th_push, hl2]
    by_cases hkN : k < N
    · rcases (For.both_here k).1 hh with e | ⟨e1, e2, e3⟩
      · omega
      · rw [if_pos hkN, th_set _ _ _ _ (by simpa using hbl), th_set _ _ _ _ hal, if_neg e2, if_neg e1]
        obtain ⟨us, h1, h2, h3, h4⟩ := h.und k (by omega) e3
        exact ⟨us, hold _ _ h1, h2, h3, fun i => (h4 i).trans (under_old2 (by omega) e1 e2).symm⟩
    · have e : k = N := by omega
      rw [if_neg hkN, if_pos e]
      refine ⟨bs, hgrow _ _ (hu8.turnsB hq), hbs0, hbsn, fun i => ?_⟩
      rw [hbsm, e, hN]
      exact (under_N hw.ok).symm
  · have h0 := h.below
    have hsz := h0.size
    have h1 : Below w.heap.size w wc := h0.trans (hwc.mono hsz)
    have h2 : Below w.heap.size w wq := h1.trans (hq.below (Nat.le_refl _) (Nat.le_refl _) h1.size)
    have h3 := ((h2.setCell (p := ⟨G, a * 4 + 3, none⟩) (by show w.heap.size ≤ G; omega) (.bool false)).setCell (p := ⟨G, b * 4 + 3, none⟩) (by show w.heap.size ≤ G; omega) (.bool false)).drew
    have hs3 := h3.size
    refine (h3.alloc hs3 _).grown hgr (Nat.le_trans hs3 (by simp)) fun q e => ?_
    have e2 : G = q := Option.some.inj e
    omega
section
variable {w : World} {A : Option Addr} {n m : Nat} {c : List Int}
set_option maxHeartbeats 4000000 in
set_option maxRecDepth 100000 in
theorem ref_depths (hr : Rd w w.heap.size A (zvs c)) (hn : c.length = n) (hn1 : n ≤ 1500) (hc : Good c) :
    Calls Tryz.prog 111 #[.slice A n m] w fun e w' => ∃ v out, e = .returned v ∧ DeepR c out ∧ LensV w.heap.size out v w' ∧ Below w.heap.size w w' := by
  have hmk := fun W => make_eqI n (by omega) W
  obtain ⟨i0, hi0, hz0, hz1, hz2⟩ := info_parts info_Th
  have HR := Lib.hid hr
  have HC := Lib.hid hn
  have HX := Lib.hid hc
  clear hr hn hc
  go_enter Tryz.func111, Tryz.ntmps111
  go_wp2
  go_loopw [4, 5] (fun v i wr => BeginRel w c n v i wr) (fun _ i _ => n - (intOf i).toNat)
  case atStart => exact ⟨0, [], Nat.zero_le _, rfl, ⟨by simp [rankL, posL], fun j hj => by simp at hj, fun j hj => by simp at hj⟩, World.ownsRow_nil _ _ _ _, by
    have := heap_alloc_new w (.cells (plv (List.replicate n 0)).toArray 3)
    unfold Blk
    rw [this]
    simp [plv], (Below.refl _ _).alloc (Nat.le_refl _) _⟩
  case round =>
    obtain ⟨k, l, hk, rfl, hbg, hown, hblk, hb⟩ := hrel
    obtain ⟨A1, c1, rfl, hnc, hcm, hG⟩ := own_form hown
    have hbs := hb.size
    have hlen := hbg.len
    have hrk := rankL_le c k
    have hBlt := hblk.lt
    have HBG := Lib.hid hbg
    have HOWN := Lib.hid hown
    have HBL := Lib.hid hblk
    have HB := Lib.hid hb
    by_cases hlt : k < n
    · have hkc : k < c.length := by have := HC.out; omega
      obtain ⟨b, off, rfl, -, hcell⟩ := cell_of_rd (HR.out.below hb) hkc
      have hx := HX.out _ (List.getElem_mem hkc)
      have hki : (k : Int) < (n : Int) := by omega
      by_cases h0 : 0 < c[k]
      · have hxe : (((c[k]).toNat : Nat) : Int) = c[k] := by omega
        obtain ⟨N, hN⟩ : ∃ N, N = l.length := ⟨_, rfl⟩
        rw [← hN] at hlen HOWN hnc hG ⊢
        have HN := Lib.hid hN
        have hN4 : N ≤ 4096 := by omega
        have HLEN := Lib.hid hlen
        have HM := Lib.hid (fun (W : World) (u : Value) (h1 : ∀ v us, UnderV wr w.heap.size v us → UnderV W w.heap.size v us) (h2 : UnderV W w.heap.size u [k]) => (hbg.keep h1).more hkc h0 h2)
        obtain ⟨x, hxx⟩ : ∃ x, x = c[k]'hkc := ⟨_, rfl⟩
        rw [← hxx] at hcell h0 hxe hx HM
        have HXE := Lib.hid hxe
        have hxi : (0 : Int) < x := h0
        clear hbg hown hblk hb hxx hN hxe hlen hrk
        go_wp2_with ((with_reducible show wpList _ _ _ (({ dst := some 35, op := _, type := _, pos := _, after := _, guard := _ } : Oper) :: _) _ _); go_must (refine wpList_app rfl (.tmp 24) (.tmp 34) 226 rfl (w.heap.size + 1) 228 i0 (.agg #[.int .i64 0, .int .i64 0, .slice none 0 0, .bool false]) 4 48 Tryz.underlying226 hi0 hz0 hz1 hz2 rfl (by decide) _ _ _ rfl ((HOWN.out.alloc _).alloc _) _ _ 1 1 [Value.int .i64 x, .int .i64 (N : Int), .slice (some ⟨wr.heap.size, 0, none⟩) 1 1, .bool true] rfl (rd_new2 _ _ _ _) rfl (th_one _ _ _ _ _) (by simp only [maxLen]; omega) (by omega) (by simp; omega) ?_; intro v2 w2 hown2 hg2))
        have hown1 := (HOWN.out.alloc (.cells #[.int .i64 (k : Int)] 3)).alloc (.cells #[.int .i64 x, .int .i64 (N : Int), .slice (some ⟨wr.heap.size, 0, none⟩) 1 1, .bool true] 228)
        have hb2 := ((Below.refl wr.heap.size wr).alloc (Nat.le_refl _) (.cells #[.int .i64 (k : Int)] 3)).alloc (by simp) (.cells #[.int .i64 x, .int .i64 (N : Int), .slice (some ⟨wr.heap.size, 0, none⟩) 1 1, .bool true] 228)
        have hsz2 : wr.heap.size ≤ ((wr.alloc (.cells #[.int .i64 (k : Int)] 3)).alloc (.cells #[.int .i64 x, .int .i64 (N : Int), .slice (some ⟨wr.heap.size, 0, none⟩) 1 1, .bool true] 228)).heap.size := by simp; omega
        have hty := fun q hq => (own_type hown1 q hq).2
        have hbg2 := HM.out w2 (.slice (some ⟨wr.heap.size, 0, none⟩) 1 1) (fun v us h => (h.grow hb2).turned hg2 hty) (((UnderV.new wr hBlt k).grow ((Below.refl _ _).alloc (Nat.le_refl _) _)).turned hg2 hty)
        refine ⟨⟨k + 1, _, by omega, by go_num, hbg2, ?_, ?_, ?_⟩, by simp [intOf]; omega⟩
        · rw [List.length_append, List.length_singleton, ← HN.out, tvs_append, ← HN.out, Nat.zero_add]
          have e : tvs N [(⟨x.toNat, .slice (some ⟨wr.heap.size, 0, none⟩) 1 1, true⟩ : Th)] = [Value.int .i64 x, .int .i64 (N : Int), .slice (some ⟨wr.heap.size, 0, none⟩) 1 1, .bool true] := by
            simp only [tvs, tv, HXE.out, List.append_nil]
          rw [e]
          exact hown2
        · exact blk_row ((HBL.out.alloc_ _).alloc_ _) hg2 (fun r e => by have := (own_type hown1 r e).1; omega)
        · exact (HB.out.trans (hb2.mono hbs)).grown hg2 (by omega) (fun q hq => by have := (own_type hown1 q hq).1; omega)
      · have HEND := Lib.hid (show BeginRel w c n (.slice A1 l.length c1) (.int .i64 ((k + 1 : Nat) : Int)) wr from ⟨k + 1, l, by omega, rfl, hbg.skip hkc h0, hown, hblk, hb⟩)
        obtain ⟨x, hxx⟩ : ∃ x, x = c[k]'hkc := ⟨_, rfl⟩
        rw [← hxx] at hcell h0
        clear hbg hown hblk hb hxx hx hlen hrk
        go_wp2
        go_roundw
        case rel => exact HEND.out
        case measure => simp [intOf]; omega
    · obtain rfl : k = n := by omega
      have hkl : c.length = k := HC.out
      have hst : RSt w c (For.start (posL c).length (wtL c)) l (.slice A1 l.length c1) wr := by
        rw [← hkl] at hbg hblk
        exact RSt.start hbg hown hblk hb
      have hlL : l.length = (posL c).length := by rw [hlen, ← hkl, rankL_all]
      obtain ⟨L, hLL⟩ : ∃ L, L = (posL c).length := ⟨_, rfl⟩
      rw [← hLL] at hlL
      have hL4 : L ≤ 1500 := by omega
      by_cases h1 : L = 1
      · subst h1
        obtain ⟨i, hu, hi, hi0, -⟩ := hbg.und 0 (by omega)
        obtain ⟨b, cu, hue, hBb, -, -, hty, hcu⟩ := hu
        have hbl := hty.lt
        obtain ⟨G, rfl, hG1, hG2⟩ : ∃ g, A1 = some ⟨g, 0, none⟩ ∧ w.heap.size + 1 ≤ g ∧ g < wr.heap.size := hG.elim (fun e => absurd e (by omega)) id
        have hT := TRow.of fun j u hj => own_atT hown hj
        have hc2 := hT.c2 0 (by omega)
        rw [hue] at hc2
        have hci := hcu 0 _ (plv_get [i] 0 (by simp))
        have hik : i < k := hi
        have hco := hblk.cell i
        rw [zvs_at _ (by rw [List.length_replicate]; exact hik)] at hco
        have hfo := hblk.frozen i
        have hst2 := hblk.set_ i (.int .i64 1)
        rw [zvs_set] at hst2
        rw [hlL]
        simp only [Nat.zero_mul, Nat.zero_add, List.length_singleton] at hc2
        have hci2 : wr.cell? ⟨b, 0, none⟩ = some (.int .i64 (i : Int)) := hci
        have HD := Lib.hid (one_lens hLL.symm (by rw [hkl]; exact hik) (by rw [← getD_ltL (by rw [hkl]; exact hik)]; exact hi0))
        have HEND := Lib.hid (show LensV w.heap.size ((List.replicate c.length 0).set i 1) (.slice (some ⟨w.heap.size, 0, none⟩) k k) _ from ⟨w.heap.size, k, rfl, by simp [hkl], Nat.le_refl _, by rw [hkl]; exact hst2⟩)
        have HB5 := Lib.hid (hb.setCell (p := ⟨w.heap.size, i, none⟩) (Nat.le_refl _) (.int .i64 1))
        obtain ⟨y, hy⟩ : ∃ y, y = (List.replicate k (0 : Int)).getD i 0 := ⟨_, rfl⟩
        rw [← hy] at hco
        have hiki : (i : Int) < (k : Int) := by omega
        clear hbg hown hblk hb hst hlen hrk hLL hlL hkl hue hcu hci hT hst2 hy hmk hG hty hi hi0 HBG HOWN HBL HB
        go_wp2
        go_ret
        exact ⟨_, _, rfl, HD.out, HEND.out, HB5.out⟩
      · have HST := Lib.hid hst
        have HL := Lib.hid hLL
        have hN1 : l.length ≠ 1 := by omega
        have hN1i : ¬ ((l.length : Nat) : Int) = 1 := by omega
        obtain ⟨N0, hN0⟩ : ∃ N0, N0 = l.length := ⟨_, rfl⟩
        rw [← hN0] at hN1 hN1i hlL HST ⊢
        have hL1 : (posL c).length ≠ 1 := by rw [← hLL]; exact h1
        have HL1 := Lib.hid hL1
        have HLL := Lib.hid hlL
        clear hlL
        clear hbg hown hblk hb hst hlen hrk hLL hmk hG HBG HOWN HBL HB hnc hN0 hL1
        go_wp2
        have HQ := Lib.hid (show (((N0 : Nat) : Int) == 1) = false from beq_eq_false_iff_ne.2 (by omega))
        clear hN1 hN1i
        go_loopw [4] (fun v wr => ∃ (f : For) (l : List Th), RSt w c f l v wr ∧ lenT v = f.N) (fun v _ => 2 * L - lenT v)
        case atStart => exact ⟨_, l, HST.out, by show N0 = (posL c).length; rw [← HL.out]; exact HLL.out⟩
        case round =>
          clear HST
          obtain ⟨f, l, hst, hlt⟩ := hrel
          obtain ⟨A1, c1, rfl, hnc, hcm, hG⟩ := own_form hst.own
          obtain ⟨hs, hw⟩ := hst.way
          have hmost := hw.most
          rw [← HL.out] at hmost
          have hlen := hst.len
          obtain ⟨N, hN⟩ : ∃ N, N = f.N := ⟨_, rfl⟩
          have hT : ∀ G, A1 = some ⟨G, 0, none⟩ → TRow wr G l := fun G e => by
            have ho := hst.own
            rw [e] at ho
            exact TRow.of fun j u hj => own_atT ho hj
          rw [← hN] at hnc hG hmost hlen ⊢
          have hN3 : N ≤ 3000 := by omega
          have HN := Lib.hid hN
          have hA1 : 0 < N → ∃ G, A1 = some ⟨G, 0, none⟩ ∧ w.heap.size + 1 ≤ G ∧ G < wr.heap.size := fun h => hG.elim (fun e => absurd e (by omega)) id
          have HA1 := Lib.hid hA1
          obtain ⟨G, hTG, hAG⟩ : ∃ G, TRow wr G l ∧ (0 < N → A1 = some ⟨G, 0, none⟩) := by
            rcases Nat.eq_zero_or_pos N with e | e
            · exact ⟨0, ⟨fun i hi => by omega, fun i hi => by omega, fun i hi => by omega, fun i hi => by omega⟩, fun h => by omega⟩
            · obtain ⟨G, e1, -⟩ := hA1 e
              exact ⟨G, hT G e1, fun _ => e1⟩
          have C := Lib.hid (ref_least (cap := c1) hTG hlen (by omega) A1 hAG (-1) (by omega))
          have D := Lib.hid (fun (q : Nat) (a : Nat) (ha : a ≤ 10000) => ref_least (cap := c1) (w := wr.drewN q) (hTG.same rfl) hlen (by omega) A1 hAG (a : Int) (by omega))
          have HST := Lib.hid hst
          have HTG := Lib.hid hTG
          clear hst hs hw hN hT hA1 hG hTG hlt hmost hlen
          go_wp2_with fail
          refine C.out.mono ?_
          rintro _ w1 ⟨r1, rfl, hl1, q1, hw1⟩
          subst w1
          clear C
          rcases hl1.lt with rfl | ⟨a, rfl, haN⟩
          · have hone : ∀ m m', f.here m = true → f.here m' = true → m = m' := fun m m' hm _ => by
              have := HST.out.nobody (HN.out ▸ hl1) m hm; omega
            obtain ⟨hd, hlv⟩ := HST.out.done HL1.out hone HC.out
            have HEND := Lib.hid (And.intro hd (And.intro (hlv.grow (w' := wr.drewN q1) (below_drewN (Below.refl _ _) q1)) (below_drewN HST.out.below q1)))
            clear hd hlv hone hl1 D
            go_wp2
            go_ret
            exact ⟨_, _, rfl, HEND.out.1, HEND.out.2.1, HEND.out.2.2⟩
          · have hla := HST.out.least (HN.out ▸ hl1)
            have D2 := Lib.hid (D.out q1 a (by omega))
            have HLA := Lib.hid hla
            clear hl1 D hla
            go_wp2_with fail
            refine D2.out.mono ?_
            rintro _ w2 ⟨r2, rfl, hl2, q2, hw2⟩
            subst w2
            clear D2
            rcases hl2.lt with rfl | ⟨b, rfl, hbN⟩
            · have hone : ∀ m m', f.here m = true → f.here m' = true → m = m' := fun m m' hm hm' => by
                have h1 := HST.out.nobody (HN.out ▸ hl2) m hm
                have h2 := HST.out.nobody (HN.out ▸ hl2) m' hm'
                omega
              obtain ⟨hd, hlv⟩ := HST.out.done HL1.out hone HC.out
              have HEND := Lib.hid (And.intro hd (And.intro (hlv.grow (w' := (wr.drewN q1).drewN q2) (below_drewN (below_drewN (Below.refl _ _) q1) q2)) (below_drewN (below_drewN HST.out.below q1) q2)))
              clear hd hlv hone hl2
              go_wp2
              go_ret
              exact ⟨_, _, rfl, HEND.out.1, by simpa using HEND.out.2.1, by simpa using HEND.out.2.2⟩
            · have hlb := HST.out.least (HN.out ▸ hl2)
              have hne : b ≠ a := fun e => by have := hlb.1.1.2; omega
              have HLB := Lib.hid hlb
              clear hl2 hlb
              obtain ⟨G', e1, hG1, hG2⟩ := HA1.out (by omega)
              have hAG2 := hAG (by omega)
              rw [e1] at hAG2
              obtain rfl : G' = G := by injection hAG2 with e; injection e
              subst e1
              have haf : f.here a = true := HLA.out.1.1.1
              have hbf : f.here b = true := HLB.out.1.1.1
              obtain ⟨ua, hua, hua0, huan, huam⟩ := HST.out.und a HLA.out.2 haf
              obtain ⟨ub, hub, hub0, hubn, hubm⟩ := HST.out.und b HLB.out.2 hbf
              have hal : a < l.length := by rw [HST.out.len]; exact HLA.out.2
              have hbl : b < l.length := by rw [HST.out.len]; exact HLB.out.2
              have hcA := HTG.out.c2 a hal
              have hcB := HTG.out.c2 b hbl
              have HU := Lib.hid (And.intro huan (And.intro huam (And.intro hubn hubm)))
              obtain ⟨ba, ca, hea, hBa, hla, hcma, htya, hcua⟩ := hua
              obtain ⟨bb, cb, heb, hBb, hlb, hcmb, htyb, hcub⟩ := hub
              rw [hea] at hcA
              rw [heb] at hcB
              have hali : (a : Int) < (N : Int) := by omega
              have hbli : (b : Int) < (N : Int) := by omega
              have hua1 : 0 < ua.length := List.length_pos_iff.2 hua0
              have hub1 : 0 < ub.length := List.length_pos_iff.2 hub0
              obtain ⟨i1, hi1, hy0, hy1, hy2⟩ := info_parts info_int12
              have HCU := Lib.hid (And.intro hcua hcub)
              have HTY := Lib.hid (And.intro htya htyb)
              have hBlt : w.heap.size < wr.heap.size := HST.out.out.lt
              have hual : ua.length ≤ 1500 := Nat.le_trans (nodup_len c.length ua huan fun i hi => ((huam i).1 hi).1) (by have := HC.out; omega)
              have hubl : ub.length ≤ 1500 := Nat.le_trans (nodup_len c.length ub hubn fun i hi => ((hubm i).1 hi).1) (by have := HC.out; omega)
              clear huan huam hubn hubm hcua hcub htya htyb hua0 hub0 haf hbf hea heb hAG hAG2
              go_upto_region 17 with fail
              go_cut [8] (fun v wx => BothR wr w.heap.size (ua ++ ub) v wx)
              case first =>
                go_region_held3 (fun w' => w'.cell? ⟨G', a * 4 + 2, none⟩ = some (.slice (some ⟨ba, 0, none⟩) ua.length ca) ∧ w'.cell? ⟨G', b * 4 + 2, none⟩ = some (.slice (some ⟨bb, 0, none⟩) ub.length cb)) (first | go_keep | exact hS5 | exact hS6) (first
                  | (refine step_append_lies _ (by rfl) _ _ _ (by rfl) wr.heap.size 3 i1 (.int .i64 0) 1 8 Tryz.underlying53 hi1 hy0 hy1 hy2 rfl (by decide) _ 0 [] (by rfl) (own_none12 _ _ _ (Nat.le_refl _)) ⟨ba, 0, none⟩ ua.length ca (plv ua) (by rfl) (by rw [plv_length, Nat.mul_one]) (news_keep HCU.out.1 HTY.out.1.lt ((below_drewN (Below.refl _ _) (q1 + q2)).drew.alloc (Nat.le_refl _) _)) (plv_one ua) hua1 (by simp only [maxLen]; omega) (by omega) (by simp) (wr.heap.size + 1) (by simp) ?_; intro g5 c5 w5 hown5 hgr5 hat5 hlt5; have hS5 := And.intro (hgr5.cell (cell_al hcA hG2) (by intro e; have e2 : G' = wr.heap.size := Option.some.inj e; omega)) (hgr5.cell (cell_al hcB hG2) (by intro e; have e2 : G' = wr.heap.size := Option.some.inj e; omega)); have hb5 := ((below_drewN (Below.refl wr.heap.size wr) (q1 + q2)).drew.alloc (Nat.le_refl _) (.cells #[] 3)).grown hgr5 (by simp) (fun q hq => by have e2 : wr.heap.size = q := Option.some.inj hq; omega); have HOWN5 := Lib.hid hown5; have HB5 := Lib.hid hb5; clear hown5 hgr5 hat5 hlt5 hb5)
                  | (refine step_append_lies _ (by rfl) _ _ _ (by rfl) wr.heap.size 3 i1 (.int .i64 0) 1 8 Tryz.underlying53 hi1 hy0 hy1 hy2 rfl (by decide) _ (0 + ua.length) ([] ++ plv ua) (by rfl) HOWN5.out ⟨bb, 0, none⟩ ub.length cb (plv ub) (by rfl) (by rw [plv_length, Nat.mul_one]) (news_keep HCU.out.2 HTY.out.2.lt HB5.out) (plv_one ub) hub1 (by simp only [maxLen]; omega) (by omega) HB5.out.size w5.heap.size rfl ?_; intro g6 c6 w6 hown6 hgr6 hat6 hlt6; have hG5 := (HOWN5.out.lt g5 rfl).1; have hS6 := And.intro (hgr6.cell hS5.1 (by intro e; have e2 : G' = g5 := Option.some.inj e; omega)) (hgr6.cell hS5.2 (by intro e; have e2 : G' = g5 := Option.some.inj e; omega)); have hb6 := HB5.out.grown hgr6 HB5.out.size (fun q hq => by have e2 : g5 = q := Option.some.inj hq; omega); have HOWN6 := Lib.hid hown6; have HB6 := Lib.hid hb6; clear hown6 hgr6 hat6 hlt6 hb6))
                go_wp2_with fail
                go_meet
                have ho6 := HOWN6.out
                simp only [Nat.zero_add, List.nil_append] at ho6
                exact ⟨under_own ho6 (by rw [plv_append]) (by rw [List.length_append]) hBlt, HB6.out⟩
              obtain ⟨hub8, hb8⟩ := hcut
              obtain ⟨g8, c8, rfl, hB8, hl8, hcm8, hty8, hcu8⟩ := id hub8
              have hb8s := hb8.size
              have HUB := Lib.hid hub8
              have HB8 := Lib.hid hb8
              have HCU8 := Lib.hid (And.intro hty8 hcu8)
              have HOUT8 := Lib.hid (HST.out.out.grow hb8)
              have hbsl : (ua ++ ub).length ≤ 3000 := by rw [List.length_append]; omega
              have hbsn : (ua ++ ub).Nodup := by
                rw [List.nodup_append]
                exact ⟨HU.out.1, HU.out.2.2.1, fun x hx y hy e => by subst e; exact under_apart (fun e => hne e.symm) ((HU.out.2.1 x).1 hx) ((HU.out.2.2.2 x).1 hy)⟩
              have hbsm : ∀ i, i ∈ ua ++ ub ↔ Under c f a i ∨ Under c f b i := fun i => by rw [List.mem_append, HU.out.2.1, HU.out.2.2.2]
              obtain ⟨bs, hbs⟩ : ∃ bs, bs = ua ++ ub := ⟨_, rfl⟩
              rw [← hbs] at HUB HCU8 hbsl hbsn hbsm hl8 ⊢
              have HBS := Lib.hid (And.intro hbsn (And.intro hbsm hbs))
              have hbs0 : bs ≠ [] := by rw [hbs]; intro e; rw [List.append_eq_nil_iff] at e; rw [e.1] at hua1; simp at hua1
              have HBS0 := Lib.hid hbs0
              obtain ⟨M, hM⟩ : ∃ M, M = bs.length := ⟨_, rfl⟩
              rw [← hM] at hbsl hl8 ⊢
              have HM := Lib.hid hM
              have hoN : ∀ j (h : j < bs.length), bs[j] < c.length := fun j h => ((hbsm bs[j]).1 (List.getElem_mem h)).elim (fun e => e.1) (fun e => e.1)
              have HON := Lib.hid hoN
              clear hub8 hb8 hty8 hcu8 hbsn hbsm hbs hbs0 hM hoN hcA hcB HTY HCU hBa hBb hla hcma hlb hcmb hy0 hy1 hy2 hi1
              go_wp2
              go_loopw [9] (fun i wq => ∃ j : Nat, j ≤ M ∧ i = .int .i64 (j : Int) ∧ Blk wq w.heap.size 3 (zvs (incF (outF f.d c) (bs.take j))) ∧ TurnsB w.heap.size w.heap.size wc wq) (fun i _ => M - (intOf i).toNat)
              case atStart => exact ⟨0, Nat.zero_le _, rfl, by rw [List.take_zero, incF_nil]; exact HOUT8.out, TurnsB.refl _ _ _⟩
              case round =>
                obtain ⟨j, hj, rfl, hblk, htb⟩ := hrel
                have HBLK := Lib.hid hblk
                have HTB := Lib.hid htb
                have hsz := htb.size
                by_cases hjM : j < M
                · have hjb : j < bs.length := by rw [← HM.out]; exact hjM
                  have hpn := HON.out j hjb
                  obtain ⟨h1, h2⟩ := incF_step (outF f.d c) bs HBS.out.1 hjb (by rw [outF_len]; exact hpn)
                  have hcj := hcu8' HCU8.out.2 HCU8.out.1.lt htb hB8 j hjb
                  obtain ⟨p, hp⟩ : ∃ p, p = bs[j] := ⟨_, rfl⟩
                  rw [← hp] at h1 h2 hpn hcj
                  have hcp := hblk.cell p
                  rw [zvs_at _ (by rw [incF_len, outF_len]; exact hpn), h1] at hcp
                  have hfp := hblk.frozen p
                  have hgs := hblk.lt
                  have hpk : (p : Int) < (k : Int) := by have := HC.out; omega
                  have hset := hblk.set_ p (.int .i64 ((outF f.d c).getD p 0 + 1))
                  rw [zvs_set, h2] at hset
                  have HSET := Lib.hid hset
                  have hdb := outF_small (f := f) (c := c) HST.out (by have := HC.out; omega) p
                  obtain ⟨y, hy⟩ : ∃ y, y = (outF f.d c).getD p 0 := ⟨_, rfl⟩
                  rw [← hy] at hcp HSET hdb
                  have HT2 := Lib.hid (htb.trans (TurnsB.set_ p (.int .i64 (y + 1))))
                  have hjMi : (j : Int) < (M : Int) := by omega
                  clear hblk htb h1 h2 hp hset hy
                  go_wp2
                  go_region
                  go_wp2
                  go_roundw
                  case rel => exact ⟨j + 1, by omega, by go_num, HSET.out.drew_, HT2.out.drew⟩
                  case measure => simp [intOf]; omega
                · obtain rfl : j = M := by omega
                  have hbb := HBLK.out
                  rw [List.take_of_length_le (by have := HM.out; omega), inc_both HBS.out.2.1] at hbb
                  have HBB := Lib.hid hbb
                  have hownq := own_turns (own_kept HST.out.own HB8.out) HTB.out (Nat.lt_succ_self _) (Nat.lt_succ_self _)
                  have hTq : TRow _ G' l := TRow.of fun j u hj => own_atT hownq hj
                  have hca3 := hTq.c3 a hal
                  have hcb3 := hTq.c3 b hbl
                  have hca0 := hTq.c0 a hal
                  have hcb0 := hTq.c0 b hbl
                  rw [(HST.out.wt a HLA.out.2).1] at hca0
                  rw [(HST.out.wt b HLB.out.2).1] at hcb0
                  have hfa3 := hownq.frozenAt (a * 4 + 3)
                  have hfb3 := hownq.frozenAt (b * 4 + 3)
                  have HTYQ := Lib.hid (own_type hownq G' rfl).2
                  have hGlq := HTYQ.out.lt
                  have hownq2 := ((hownq.stored (a * 4 + 3) (.bool false)).1.stored (b * 4 + 3) (.bool false)).1
                  rw [tvs_gone l 0 a hal, tvs_gone _ 0 b (by simpa using hbl), th_set _ _ _ _ hal, if_neg hne, ← HN.out] at hownq2
                  have HOQ := Lib.hid hownq2
                  have hsumNL : f.wt a + f.wt b ≤ 9007199254740992 ∧ N + 2 ≤ 2 * L := by
                    obtain ⟨hs, hw⟩ := HST.out.way
                    have hla : f.least (fun m => f.here m = true) a := ⟨HLA.out.1.1.1, fun m hm hne => HLA.out.1.2 m ⟨hm, by omega⟩ hne⟩
                    have hlb : f.least (fun m => f.here m = true ∧ m ≠ a) b := ⟨⟨HLB.out.1.1.1, hne⟩, fun m hm hne => HLB.out.1.2 m ⟨hm.1, fun e => hm.2 (by omega)⟩ hne⟩
                    have h1 := (hw.step hla hlb).2.1
                    have h1b := (hw.step hla hlb).2.2
                    have h5 := HN.out
                    have h6 := HL.out
                    have h2 := allOf_sum (c := c) (fun x hx => (HX.out x hx).1)
                    have h3 := (good_sum HX.out).2
                    have h4 := HC.out
                    omega
                  obtain ⟨hsumw, hNL⟩ := hsumNL
                  obtain ⟨x, hx⟩ : ∃ x, x = f.wt a := ⟨_, rfl⟩
                  obtain ⟨y, hy⟩ : ∃ y, y = f.wt b := ⟨_, rfl⟩
                  rw [← hx] at hca0 hsumw
                  rw [← hy] at hcb0 hsumw
                  have HXY := Lib.hid (And.intro hx hy)
                  obtain ⟨ta, hta⟩ : ∃ t, t = (th l a).h := ⟨_, rfl⟩
                  obtain ⟨tb, htb⟩ : ∃ t, t = (th l b).h := ⟨_, rfl⟩
                  rw [← hta] at hca3
                  rw [← htb] at hcb3
                  have hA40 : a * 4 ≠ b * 4 + 3 := by omega
                  have hB40 : b * 4 ≠ a * 4 + 3 := by omega
                  have hab4 : a * 4 + 3 ≠ b * 4 + 3 := by omega
                  clear hownq hTq hbb hownq2 hx hy hta htb
                  have hwrap : IntKind.i64.wrap ((x : Int) + (y : Int)) = (x : Int) + (y : Int) := by simp [IntKind.wrap, IntKind.bits, IntKind.signed]; omega
                  have hnw : ∀ o, (((wr.setCell ⟨G', a * 4 + 3, none⟩ (.bool false)).setCell ⟨G', b * 4 + 3, none⟩ (.bool false)).alloc o).drew.heap[wr.heap.size]? = some o := fun o => by
                    have h := heap_alloc_new ((wr.setCell ⟨G', a * 4 + 3, none⟩ (.bool false)).setCell ⟨G', b * 4 + 3, none⟩ (.bool false)) o
                    rw [show ((wr.setCell ⟨G', a * 4 + 3, none⟩ (.bool false)).setCell ⟨G', b * 4 + 3, none⟩ (.bool false)).heap.size = wr.heap.size by simp [World.setCell]] at h
                    exact h
                  go_wp2
                  go_region_law (refine step_append_lies _ (by rfl) _ _ _ (by rfl) (w.heap.size + 1) 228 i0 (.agg #[.int .i64 0, .int .i64 0, .slice none 0 0, .bool false]) 4 48 Tryz.underlying226 hi0 hz0 hz1 hz2 rfl (by decide) _ _ _ (by rfl) ((own_drew HOQ.out).alloc _) _ 1 1 [.int .i64 ((x : Int) + (y : Int)), .int .i64 (N : Int), .slice (some ⟨g8, 0, none⟩) j c8, .bool true] (by rfl) (by rfl) (World.news_of_block (hnw _)) (th_one _ _ _ _ _) (by decide) (by simp only [maxLen]; omega) (by omega) (by simp; omega) _ rfl ?_; intro g9 c9 w9 hown9 hgr9 hat9 hlt9)
                  all_goals (obtain ⟨f', l', hrst, hfN⟩ := round_end (M := j) (c8 := c8) HST.out HN.out HLA.out HLB.out HB8.out (show UnderV wc w.heap.size (.slice (some ⟨g8, 0, none⟩) j c8) bs by rw [HM.out]; exact HUB.out) HBS0.out HBS.out.1 HBS.out.2.1 HTB.out HBB.out (by rw [← HXY.out.1, ← HXY.out.2, Int.natCast_add]) hown9 HTYQ.out (by rw [← HXY.out.1, ← HXY.out.2, Int.natCast_add]; exact hgr9))
                  all_goals (have HRST := Lib.hid (And.intro hrst hfN); clear hrst hfN hown9 hgr9 hat9 hlt9)
                  all_goals simp only [Act.put, List.getElem_toArray, List.getElem_cons_succ, List.getElem_cons_zero, List.setIfInBounds_toArray, List.set_cons_succ, List.set_cons_zero]
                  all_goals go_wp2
                  all_goals (refine ⟨?_, ?_⟩)
                  any_goals (show 2 * L - (N + 1) < 2 * L - N; omega)
                  all_goals simp only [HQ.out]
                  all_goals exact ⟨_, _, _, _, _, _, _, _, _, _, _, _, _, _, _, _, _, _, _, _, _, _, _, _, _, _, _, _, _, _, _, _, _, _, _, _, _, _, _, _, _, _, _, _, _, _, _, _, _, _, _, _, _, _, _, _, _, _, _, _, _, _, _, _, _, _, _, _, _, _, _, _, _, _, _, _, ⟨f', l', HRST.out.1, HRST.out.2.symm⟩, rfl⟩
end
end Go.Proofs.YtflcmmeoppdhdaaGreat
