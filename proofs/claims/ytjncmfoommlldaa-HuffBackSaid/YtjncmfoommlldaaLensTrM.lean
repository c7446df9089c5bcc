/- Layer 20: what holds while the tree is made. -/
import Derived.Test.YtjncmfoommlldaaHeapDo
import Derived.Test.YtjncmfoommlldaaLensR
namespace Go.Proofs.Ytjncmfoommlldaa
open Go.RowKit Go.Sort Go.Shelf

theorem HeapSet.congr {S S' : Pr → Prop} {l : List Pr} (h : HeapSet S l) (e : ∀ p, S p ↔ S' p) : HeapSet S' l := ⟨h.heap, h.nodup, fun p => (h.mem p).trans (e p)⟩
def sumW (l : List Pr) : Nat := (l.map (·.1)).sum
theorem sumW_perm {l m : List Pr} (h : l.Perm m) : sumW l = sumW m := (h.map _).sum_nat
theorem sumW_push (l : List Pr) (x : Pr) : sumW (l ++ [x]) = sumW l + x.1 := by simp [sumW]
theorem sumW_nil : sumW [] = 0 := rfl
theorem pop_split {l m : List Pr} {n : Nat} (hn : l.length = n + 1) (hp : m.Perm l) (hm : pat m n = pat l 0) : sumW (m.take n) + (pat l 0).1 = sumW l ∧ (m.take n).length = n := by
  have hml : m.length = n + 1 := by rw [hp.length_eq, hn]
  have h1 := List.take_append_drop n m
  have h2 : m.drop n = [pat l 0] := by
    rw [← hm, pat_get (by omega), List.drop_eq_getElem_cons (by omega), List.drop_eq_nil_of_le (by omega)]
  rw [h2] at h1
  refine ⟨?_, by simp; omega⟩
  rw [← sumW_push, h1, sumW_perm hp]
/-- The things of the first k counts. -/
def UpTo (c : List Int) (k : Nat) (p : Pr) : Prop := p.2 < rankL c k ∧ p.1 = wtL c p.2
theorem upTo_step {c : List Int} {k : Nat} (h : k < c.length) (h0 : 0 < c[k]) (p : Pr) : (UpTo c k p ∨ p = ((c[k]).toNat, rankL c k)) ↔ UpTo c (k + 1) p := by
  have hr := rankL_succ c k h
  rw [if_pos h0] at hr
  have hw := wtL_rank c h h0
  unfold UpTo
  rw [hr]
  constructor
  · rintro (⟨h1, h2⟩ | rfl)
    · exact ⟨by omega, h2⟩
    · exact ⟨by simp, hw.symm⟩
  · rintro ⟨h1, h2⟩
    by_cases e : p.2 = rankL c k
    · exact .inr (Prod.ext (by rw [h2, e, hw]) e)
    · exact .inl ⟨by omega, h2⟩
theorem upTo_new {c : List Int} {k : Nat} (x : Nat) : ¬ UpTo c k (x, rankL c k) := fun h => by have := h.1; simp at this
theorem upTo_all (c : List Int) (p : Pr) : UpTo c c.length p ↔ ForSet (For.start (posL c).length (wtL c)) p := by
  unfold UpTo ForSet For.start
  rw [rankL_all]
  simp
theorem upTo_none (c : List Int) : HeapSet (UpTo c 0) [] := ⟨fun i _ h => by simp at h, by simp, fun p => by simp [UpTo, rankL, posL]⟩
theorem allOf_rank {c : List Int} {k : Nat} (h : k < c.length) (h0 : 0 < c[k]) : allOf (wtL c) (rankL c (k + 1)) = allOf (wtL c) (rankL c k) + (c[k]).toNat := by
  have hr := rankL_succ c k h
  rw [if_pos h0] at hr
  rw [hr]
  simp only [allOf]
  rw [wtL_rank c h h0]
theorem rankL_skip {c : List Int} {k : Nat} (h : k < c.length) (h0 : ¬ 0 < c[k]) : rankL c (k + 1) = rankL c k := by
  have hr := rankL_succ c k h
  rwa [if_neg h0, Nat.add_zero] at hr
theorem allOf_sum {c : List Int} (hc : ∀ x ∈ c, 0 ≤ x) : (allOf (wtL c) (posL c).length : Int) = c.sum := by
  have ha := allOf_list (posL c) (fun x hx => Int.le_of_lt (posL_pos c x hx)) (posL c).length (Nat.le_refl _)
  rw [List.take_length, posL_sum c hc] at ha
  exact ha
theorem rankL_le (c : List Int) (k : Nat) : rankL c k ≤ k := by
  unfold rankL posL
  exact Nat.le_trans (List.length_filter_le _ _) (by rw [List.length_take]; omega)

/-- Between two joins: f is as far as it goes. -/
structure Joins (c : List Int) (f : For) (ab : List Nat) (l : List Pr) : Prop where
  set : HeapSet (ForSet f) l
  ok : f.Ok (posL c).length
  tree : TreeOk f ab
  way : ∀ g, Huff f g → Huff (For.start (posL c).length (wtL c)) g
  most : f.N + l.length = 2 * (posL c).length
  sum : sumW l = allOf (wtL c) (posL c).length
theorem joins_start {c : List Int} {l : List Pr} (h : HeapSet (UpTo c c.length) l) (hl : l.length = rankL c c.length) (hs : sumW l = allOf (wtL c) (rankL c c.length)) : Joins c (For.start (posL c).length (wtL c)) (List.replicate (posL c).length 0) l := by
  rw [rankL_all] at hl hs
  exact ⟨h.congr (upTo_all c), start_ok _ _, tree_start _ _, fun _ h => h, by show (posL c).length + l.length = _; omega, hs⟩
/-- The two least. -/
structure Two (f : For) (l2 : List Pr) (n : Nat) (pa pb : Pr) : Prop where
  a : f.least (fun m => f.here m = true) pa.2
  b : f.least (fun m => f.here m = true ∧ m ≠ pa.2) pb.2
  sa : ForSet f pa
  sb : ForSet f pb
  ne : pa.2 ≠ pb.2
  set : HeapSet (fun p => (ForSet f p ∧ p ≠ pa) ∧ p ≠ pb) l2
  len : l2.length = n
theorem Joins.two {c : List Int} {f : For} {ab : List Nat} {l m m2 : List Pr} {n : Nat} (h : Joins c f ab l) (hn : l.length = n + 2)
    (hp : m.Perm l) (hm : pat m (n + 1) = pat l 0) (hh : HeapN m (n + 1))
    (hp2 : m2.Perm (m.take (n + 1))) (hm2 : pat m2 n = pat (m.take (n + 1)) 0) (hh2 : HeapN m2 n) :
    Two f (m2.take n) n (pat l 0) (pat (m.take (n + 1)) 0) ∧ sumW (m2.take n) + ((pat l 0).1 + (pat (m.take (n + 1)) 0).1) = allOf (wtL c) (posL c).length := by
  obtain ⟨s1, s2, s3⟩ := pop_set h.set (by omega) hp hm hh
  obtain ⟨e1, e2⟩ := pop_split (by omega) hp hm
  obtain ⟨t1, t2, t3⟩ := pop_set s3 e2 hp2 hm2 hh2
  obtain ⟨e3, e4⟩ := pop_split e2 hp2 hm2
  obtain ⟨pa, hpa⟩ : ∃ pa, pa = pat l 0 := ⟨_, rfl⟩
  obtain ⟨pb, hpb⟩ : ∃ pb, pb = pat (m.take (n + 1)) 0 := ⟨_, rfl⟩
  rw [← hpa] at s1 s2 s3 e1 t1 t2 t3 ⊢
  rw [← hpb] at t1 t2 t3 e3 ⊢
  have hla : f.least (fun m => f.here m = true) pa.2 := for_least (S := ForSet f) (fun _ h => h) (fun m hm => ⟨hm, rfl⟩) (fun _ h => h.1) s1 s2
  have hne : pb.2 ≠ pa.2 := fun e => t1.2 (Prod.ext (by rw [t1.1.2, s1.2, e]) e)
  have hlb : f.least (fun m => f.here m = true ∧ m ≠ pa.2) pb.2 := for_least (S := fun p => ForSet f p ∧ p ≠ pa) (fun _ h => h.1) (fun m hm => ⟨⟨hm.1, rfl⟩, fun e => hm.2 (by rw [← e])⟩)
    (fun x hx => ⟨hx.1.1, fun e => hx.2 (Prod.ext (by rw [hx.1.2, s1.2, e]) e)⟩) t1 t2
  have hsum := h.sum
  exact ⟨⟨hla, hlb, s1, t1.1, fun e => hne e.symm, t3, e4⟩, by omega⟩
/-- Both go, and what stands above both comes. -/
theorem Joins.step {c : List Int} {f : For} {ab : List Nat} {l l2 l3 : List Pr} {n : Nat} {pa pb : Pr} (h : Joins c f ab l) (hn : l.length = n + 2) (ht : Two f l2 n pa pb) (hs : sumW l2 + (pa.1 + pb.1) = allOf (wtL c) (posL c).length)
    (hp3 : l3.Perm (l2 ++ [(pa.1 + pb.1, f.N)])) (hh3 : IsHeap l3) :
    Joins c (f.both pa.2 pb.2) ((ab.set pa.2 f.N).set pb.2 f.N ++ [0]) l3 := by
  have haN := h.ok.less _ ht.sa.1
  have hbN := h.ok.less _ ht.sb.1
  have hl3 : l3.length = n + 1 := by rw [hp3.length_eq, List.length_append, ht.len]; rfl
  have hs3 := sumW_perm hp3
  rw [sumW_push] at hs3
  refine ⟨?_, For.both_ok h.ok, tree_both h.tree ht.sa.1 ht.sb.1 haN hbN, fun g hg => h.way g (.join f g pa.2 pb.2 ht.a ht.b hg), ?_, ?_⟩
  · refine (ht.set.push (x := (pa.1 + pb.1, f.N)) (fun hx => ?_) hp3 hh3).congr (for_both h.ok ht.sa ht.sb)
    have := h.ok.less _ hx.1.1.1
    simp at this
  · show f.N + 1 + l3.length = _
    have := h.most
    omega
  · simp only at hs3
    omega
/-- What the tree comes to: the depths d of all things, by the row of what is above each. -/
structure TreeDone (c : List Int) (ab : List Nat) (g : For) : Prop where
  huff : Huff (For.start (posL c).length (wtL c)) g
  len : ab.length = g.N
  most : (posL c).length ≤ g.N
  few : g.N ≤ 2 * (posL c).length
  top : 0 < g.N → g.d (g.N - 1) = 0
  low : ∀ i, i < g.N - 1 → i < ab.getD i 0 ∧ ab.getD i 0 < g.N ∧ g.d i = g.d (ab.getD i 0) + 1
theorem Joins.done {c : List Int} {f : For} {ab : List Nat} {l : List Pr} (h : Joins c f ab l) (hl : l.length ≤ 1) : TreeDone c ab f := by
  have hone : ∀ m m', f.here m = true → f.here m' = true → m = m' := fun m m' hm hm' => by
    have h1 := (h.set.mem (f.wt m, m)).2 ⟨hm, rfl⟩
    have h2 := (h.set.mem (f.wt m', m')).2 ⟨hm', rfl⟩
    obtain ⟨i, hi, e1⟩ := List.mem_iff_getElem.1 h1
    obtain ⟨j, hj, e2⟩ := List.mem_iff_getElem.1 h2
    have hij : i = j := by omega
    subst hij
    have := e1.symm.trans e2
    exact (Prod.mk.inj this).2
  refine ⟨h.way f (.last f hone), h.tree.len, h.ok.most, by have := h.most; omega, fun h0 => (tree_end h.tree hone h0).1, fun i hi => (tree_end h.tree hone (by omega)).2 i hi⟩
end Go.Proofs.Ytjncmfoommlldaa
