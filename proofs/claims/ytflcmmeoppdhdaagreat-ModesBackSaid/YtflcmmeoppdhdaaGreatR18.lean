/-
  Layer 21: letters in order: what the library's sort leaves. · Layer 21: the program's codes.
-/
import Derived.Test.YtflcmmeoppdhdaaGreatR12
import Derived.Test.YtflcmmeoppdhdaaGreatR14
import Derived.Test.YtflcmmeoppdhdaaGreatR17
namespace Go.Proofs.YtflcmmeoppdhdaaGreat
open Go.RowKit Go.Sort Go.Shelf

theorem cfL_lt (l : List Int) (i j : Nat) : cfL l i j < 0 ↔ (l.getD i 0 < l.getD j 0 ∨ (l.getD i 0 = l.getD j 0 ∧ i < j)) := by
  unfold cfL orN cmpN
  obtain ⟨x, hx⟩ : ∃ x, x = l.getD i 0 := ⟨_, rfl⟩
  obtain ⟨y, hy⟩ : ∃ y, y = l.getD j 0 := ⟨_, rfl⟩
  rw [← hx, ← hy]
  by_cases h1 : x < y
  · simp [h1]
  · by_cases h2 : y < x
    · simp [h1, h2]; omega
    · by_cases h3 : i < j
      · have : (i : Int) < j := by omega
        simp [h1, h2, this]; omega
      · by_cases h4 : j < i
        · have h5 : (j : Int) < i := by omega
          have h6 : ¬ (i : Int) < j := by omega
          simp [h1, h2, h5, h6]; omega
        · have h5 : ¬ (j : Int) < i := by omega
          have h6 : ¬ (i : Int) < j := by omega
          simp [h1, h2, h5, h6]; omega
/-- A letter as a cell; letters are told within n. -/
def encM (n : Nat) (i : Nat) : Value := .int .i64 ((i % n : Nat) : Int)
def cfM (l : List Int) (n i j : Nat) : Int := cfL l (i % n) (j % n)
theorem cfM_swo (l : List Int) (n : Nat) : SWO (ltOf (cfM l n)) where
  irrefl x := by unfold ltOf cfM; rw [decide_eq_false_iff_not, cfL_lt]; omega
  trans x y z h1 h2 := by unfold ltOf cfM at *; rw [decide_eq_true_eq, cfL_lt] at *; omega
  ntrans x y z h1 h2 := by unfold ltOf cfM at *; rw [decide_eq_false_iff_not, cfL_lt] at *; omega
section
variable {w : World} {blk off m : Nat} {enc : Nat → Value} {d : Array Nat} {os : Array Obj}
theorem sort_other {j : Nat} (hj : j < w.heap.size) (hne : j ≠ blk) : (sortWorld enc w blk off m d os).heap[j]? = w.heap[j]? := by
  unfold sortWorld grow putRow mapBlock
  simp only
  rw [Array.getElem?_append_left (by simpa [Sort.ahead] using hj), Array.getElem?_modify, if_neg (fun e => hne e.symm)]
  rfl
theorem sort_below (hb : blk < w.heap.size) : Below blk w (sortWorld enc w blk off m d os) :=
  ⟨rfl, rfl, rfl, by simp [sortWorld, grow, putRow, mapBlock, Sort.ahead], fun k hk => sort_other (by omega) (by omega)⟩
end
/-- What the sort leaves is the letters in order. -/
theorem ord_sorted {l : List Int} {n : Nat} {d d' : Array Nat} (hn : l.length = n) (hl : ∀ x ∈ l, 0 ≤ x) (hd : d.toList = hereL (natL l)) (hp : PermIn 0 d.size d d') (hs : SortedIn (ltOf (cfM l n)) 0 d.size d') : OrdL (natL l) d'.toList := by
  have hperm : d'.toList.Perm d.toList := by
    have h := hp.2.2
    have e1 : d'.extract 0 d.size = d' := by rw [← hp.1]; simp
    have e2 : d.extract 0 d.size = d := by simp
    rwa [e1, e2] at h
  rw [hd] at hperm
  have hmem : ∀ i ∈ d'.toList, i < n := fun i hi => by
    have := (hereL_mem.1 (hperm.mem_iff.1 hi)).1
    rw [natL_len] at this; omega
  have hnod : d'.toList.Nodup := hperm.nodup_iff.2 (hereL_nodup _)
  refine ⟨hperm, List.pairwise_iff_getElem.2 fun i j hi hj hij => ?_⟩
  have hsz : d'.toList.length = d.size := by rw [Array.length_toList, hp.1]
  have h1 := hs i j (Nat.zero_le _) hij (by omega)
  have e1 : d'[i]! = d'.toList[i] := by rw [getElem!_pos d' i (by simpa using hi)]; simp
  have e2 : d'[j]! = d'.toList[j] := by rw [getElem!_pos d' j (by simpa using hj)]; simp
  rw [e1, e2] at h1
  have m1 := hmem _ (List.getElem_mem hi)
  have m2 := hmem _ (List.getElem_mem hj)
  have hne : d'.toList[i] ≠ d'.toList[j] := List.pairwise_iff_getElem.1 hnod i j hi hj hij
  obtain ⟨a, ha⟩ : ∃ a, a = d'.toList[i] := ⟨_, rfl⟩
  obtain ⟨b, hb⟩ : ∃ b, b = d'.toList[j] := ⟨_, rfl⟩
  rw [← ha, ← hb] at h1 hne
  rw [← ha] at m1 ⊢
  rw [← hb] at m2 ⊢
  unfold ltOf cfM at h1
  rw [decide_eq_false_iff_not, cfL_lt, Nat.mod_eq_of_lt m1, Nat.mod_eq_of_lt m2] at h1
  unfold lexB
  rw [decide_eq_true_eq, natL_get l (by omega), natL_get l (by omega)]
  have e3 : l.getD a 0 = l[a]'(by omega) := by simp [List.getD_eq_getElem?_getD, show a < l.length by omega]
  have e4 : l.getD b 0 = l[b]'(by omega) := by simp [List.getD_eq_getElem?_getD, show b < l.length by omega]
  rw [e3, e4] at h1
  have p1 := hl _ (List.getElem_mem (show a < l.length by omega))
  have p2 := hl _ (List.getElem_mem (show b < l.length by omega))
  omega
/-- Numbers as they are, of either sign. -/
def intS (S : List Nat) : List Int := S.map fun (x : Nat) => (x : Int)
theorem here_step (l : List Nat) (k : Nat) : ((List.range (k + 1)).filter fun i => decide (0 < l.getD i 0)) = ((List.range k).filter fun i => decide (0 < l.getD i 0)) ++ if 0 < l.getD k 0 then [k] else [] := by
  rw [List.range_succ, List.filter_append]
  congr 1
  by_cases h : 0 < l.getD k 0
  · rw [if_pos h, List.filter_cons_of_pos (by exact decide_eq_true h), List.filter_nil]
  · rw [if_neg h, List.filter_cons_of_neg (by rw [decide_eq_false h]; decide), List.filter_nil]
section
variable {w : World} {A : Option Addr} {n m : Nat} {l : List Int}
/-- The library's sort, of letters. -/
theorem sort_call {g c : Nat} {d : Array Nat} {E : Nat} {B : Nat} (hn : l.length = n) (hn0 : 0 < n) (hb : w.cell? ⟨E, 0, none⟩ = some (.slice A n m)) (hr : Rd w B A (zvs l)) (hB : B ≤ g) (hE : E < g) (hg : g < w.heap.size) (hsz : d.size ≤ 4096)
    (hH : Holds (encM n) w g 0 d) :
    Calls Tryz.prog 199 #[.slice (some ⟨g, 0, none⟩) d.size c, .func (.func 200) #[] #[.pointer (some ⟨E, 0, none⟩)]] w fun e w' =>
      e = .returned (.tuple #[]) ∧ ∃ d' q os, PermIn 0 d.size d d' ∧ SortedIn (ltOf (cfM l n)) 0 d.size d' ∧ w' = sortWorld (encM n) w g 0 q d' os := by
  have eg : ∀ args w, (callFunc 200 args).run Tryz.prog w = .ok (.enter 200 args) w := enters_of Tryz.func200 (by kernel_rfl) rfl
  have hcmp : CmpLays1 Tryz.prog 200 #[.pointer (some ⟨E, 0, none⟩)] (encM n) (cfM l n) g 0 d.size w := fun q os dk _ x y => by
    have hbl := sort_below (enc := encM n) (off := 0) (m := q) (d := dk) (os := os) hg
    have hb2 := (hbl.cell (p := ⟨E, 0, none⟩) hE).trans hb
    have hr2 := hr.below (hbl.mono hB)
    exact inOrder_cmp hb2 hr2 hn (x % n) (y % n) (Nat.mod_lt _ hn0) (Nat.mod_lt _ hn0)
  have hcon := Any.slices_SortFunc sortI (encM n) (fun _ => rfl) (cfM l n) (cfM_swo l n) 200 #[.pointer (some ⟨E, 0, none⟩)] g 0 c d w eg hcmp hH hg (by omega)
  exact hcon
theorem holds_own {B g c N : Nat} {d : Array Nat} (ho : w.ownsRow B 3 1 (.slice (some ⟨g, 0, none⟩) N c) N (zvs (intS d.toList))) (hlt : ∀ x ∈ d.toList, x < n) : Holds (encM n) w g 0 d := fun j hj => by
  have hj2 : j < d.toList.length := by rw [Array.length_toList]; exact hj
  have h1 := own_at ho (zvs_getC (intS d.toList) (k := j) (x := (d.toList[j] : Nat)) (by unfold intS; rw [List.getElem?_map, List.getElem?_eq_getElem hj2]; rfl))
  have h2 := ho.frozenAt j
  have e : d[j]! = d.toList[j] := by rw [getElem!_pos d j hj]; simp
  rw [Nat.zero_add, e]
  unfold encM
  rw [Nat.mod_eq_of_lt (hlt _ (List.getElem_mem hj2))]
  exact ⟨h1, h2⟩
theorem rd_holds {g : Nat} {d : Array Nat} (h : Holds (encM n) w g 0 d) (hlt : ∀ x ∈ d.toList, x < n) (hg : g < w.heap.size) : Rd w w.heap.size (some ⟨g, 0, none⟩) (zvs (intS d.toList)) := fun j u hu => by
  have hj2 : j < d.toList.length := by
    have := (List.getElem?_eq_some_iff.1 hu).1
    simpa [zvs, intS] using this
  have hj : j < d.size := by rw [← Array.length_toList]; exact hj2
  have h1 := (h j hj).1
  have e : d[j]! = d.toList[j] := by rw [getElem!_pos d j hj]; simp
  rw [e] at h1
  unfold encM at h1
  rw [Nat.mod_eq_of_lt (hlt _ (List.getElem_mem hj2))] at h1
  have h2 := zvs_getC (intS d.toList) (k := j) (x := (d.toList[j] : Nat)) (by unfold intS; rw [List.getElem?_map, List.getElem?_eq_getElem hj2]; rfl)
  rw [h2] at hu
  injection hu with hu
  subst hu
  exact ⟨g, 0, rfl, hg, h1⟩
set_option maxHeartbeats 2000000 in
set_option maxRecDepth 100000 in
/-- The letters that have a len, in order. -/
theorem inOrder_any (hr : Rd w w.heap.size A (zvs l)) (hn : l.length = n) (hn1 : n ≤ 4096) (hl : ∀ x ∈ l, 0 ≤ x) (hne : hereL (natL l) ≠ []) :
    Calls Tryz.prog 159 #[.slice A n m] w fun e w' => ∃ (G : Nat) (S : List Nat) (k c : Nat), e = .returned (.slice (some ⟨G, 0, none⟩) k c) ∧ OrdL (natL l) S ∧ S.length = k ∧ Rd w' w'.heap.size (some ⟨G, 0, none⟩) (zvs (intS S)) ∧ Below w.heap.size w w' ∧ w.heap.size ≤ G := by
  obtain ⟨i1, hi1, hy0, hy1, hy2⟩ := info_parts info_int12
  have hn0 : 0 < n := by
    rcases Nat.eq_zero_or_pos n with h | h
    · exfalso; apply hne
      have : natL l = [] := List.eq_nil_of_length_eq_zero (by rw [natL_len, hn, h])
      rw [this]; rfl
    · exact h
  obtain ⟨W1, hW1⟩ : ∃ W, W = w.alloc (.cells #[.slice A n m] 53) := ⟨_, rfl⟩
  have hbW : Below w.heap.size w W1 := by rw [hW1]; exact (Below.refl _ _).alloc (Nat.le_refl _) _
  have hszW : W1.heap.size = w.heap.size + 1 := by rw [hW1]; simp
  have hbox : W1.cell? ⟨w.heap.size, 0, none⟩ = some (.slice A n m) := by
    rw [hW1]; exact new_cell w [.slice A n m] 53 (k := 0) rfl
  have HR := Lib.hid (And.intro hr (And.intro hn (And.intro hl (And.intro hne hbW))))
  have HS := Lib.hid (And.intro hszW hbox)
  clear hr hn hl hne
  go_enter Tryz.func159, Tryz.ntmps159
  go_wp2_with fail
  rw [← hW1]
  go_loopw [3, 8] (fun v i wr => ∃ k : Nat, k ≤ n ∧ i = .int .i64 (k : Int) ∧ wr.ownsRow (w.heap.size + 1) 3 1 v (((List.range k).filter fun i => decide (0 < (natL l).getD i 0)).length) (zvs (intS ((List.range k).filter fun i => decide (0 < (natL l).getD i 0)))) ∧ Below (w.heap.size + 1) W1 wr) (fun _ i _ => n - (intOf i).toNat)
  case atStart => exact ⟨0, Nat.zero_le _, rfl, World.ownsRow_nil _ _ _ _, Below.refl _ _⟩
  case round =>
    obtain ⟨k, hk, rfl, hown, hb⟩ := hrel
    have hbs := hb.size
    have HB := Lib.hid hb
    have HOWN := Lib.hid hown
    by_cases hlt : k < n
    · have hkc : k < l.length := by have := HR.out.2.1; omega
      obtain ⟨b, off, rfl, -, hcell⟩ := cell_of_rd ((HR.out.1.below HR.out.2.2.2.2).below (hb.mono (Nat.le_succ _))) hkc
      have hki : (k : Int) < (n : Int) := by omega
      have hst := here_step (natL l) k
      rw [natL_get l hkc] at hst
      have hx0 := HR.out.2.2.1 _ (List.getElem_mem hkc)
      obtain ⟨x, hxx⟩ : ∃ x, x = l[k]'hkc := ⟨_, rfl⟩
      rw [← hxx] at hcell hst hx0
      obtain ⟨H, hH⟩ : ∃ H, H = ((List.range k).filter fun i => decide (0 < (natL l).getD i 0)) := ⟨_, rfl⟩
      rw [← hH] at hst HOWN hown
      have hHk : H.length ≤ k := by rw [hH]; exact Nat.le_trans (List.length_filter_le _ _) (by simp)
      obtain ⟨N, hN⟩ : ∃ N, N = H.length := ⟨_, rfl⟩
      rw [← hN] at HOWN hown hHk
      obtain ⟨Av, cv, rfl, -, -, -⟩ := own_form hown
      have HN := Lib.hid hN
      clear hown hb hxx hH hN
      by_cases h0 : 0 < x
      · rw [if_pos (by omega)] at hst
        have HST := Lib.hid hst
        clear hst
        go_wp2_with ((with_reducible show wpList _ _ _ (({ dst := some 18, op := _, type := _, pos := _, after := _, guard := _ } : Oper) :: _) _ _); go_must (refine wpList_app rfl (.tmp 15) (.tmp 17) 53 rfl (w.heap.size + 1) 3 i1 (.int .i64 0) 1 8 Tryz.underlying53 hi1 hy0 hy1 hy2 rfl (by decide) _ _ _ rfl (HOWN.out.alloc _) _ _ 1 1 _ rfl (Rd.new _ _ _) rfl (by intro u hu; simp at hu; subst hu; rfl) (by simp only [maxLen]; omega) (by omega) (by simp; have := HS.out.1; omega) ?_; intro v1 w2 hown1 hg1; have hb1 : Below (w.heap.size + 1) W1 w2 := (HB.out.alloc (by have := HS.out.1; omega) _).grown hg1 (by simp; omega) (own_block HOWN.out); have HO1 := Lib.hid (And.intro hown1 hb1); clear hg1 hown1 hb1))
        go_roundw
        case rel => exact ⟨k + 1, by omega, by go_num, by rw [HST.out, List.length_append, ← HN.out]; simpa [zvs, intS] using HO1.out.1, HO1.out.2⟩
        case measure => simp [intOf]; omega
      · rw [if_neg (by omega), List.append_nil] at hst
        have HST := Lib.hid hst
        clear hst
        go_wp2
        go_roundw
        case rel => exact ⟨k + 1, by omega, by go_num, by rw [HST.out, ← HN.out]; exact HOWN.out, HB.out⟩
        case measure => simp [intOf]; omega
    · obtain rfl : k = n := by omega
      have hHe : ((List.range k).filter fun i => decide (0 < (natL l).getD i 0)) = hereL (natL l) := by unfold hereL; rw [natL_len, HR.out.2.1]
      rw [hHe] at hown
      have hlt : ∀ x ∈ hereL (natL l), x < k := fun x hx => by
        have := (hereL_mem.1 hx).1
        rw [natL_len, HR.out.2.1] at this; exact this
      have hK4 : (hereL (natL l)).length ≤ k := by
        unfold hereL; rw [natL_len, HR.out.2.1]; exact Nat.le_trans (List.length_filter_le _ _) (by simp)
      have hK0 : (hereL (natL l)).length ≠ 0 := fun e => HR.out.2.2.2.1 (List.eq_nil_of_length_eq_zero e)
      obtain ⟨Av, cv, rfl, -, -, hform⟩ := own_form hown
      obtain ⟨g, rfl, hgB, hgl⟩ : ∃ g, Av = some ⟨g, 0, none⟩ ∧ w.heap.size + 1 ≤ g ∧ g < wr.heap.size := by
        rcases hform with h | h
        · exact absurd h hK0
        · exact h
      obtain ⟨d, hd⟩ : ∃ d : Array Nat, d.toList = hereL (natL l) := ⟨(hereL (natL l)).toArray, by simp⟩
      rw [← hd] at hown hlt hK4 hK0
      have hHo : Holds (encM k) wr g 0 d := holds_own hown hlt
      rw [← hd]
      have C := Lib.hid (sort_call (c := cv) (E := w.heap.size) HR.out.2.1 hn0 ((hb.cell (p := ⟨w.heap.size, 0, none⟩) (Nat.lt_succ_self _)).trans HS.out.2) ((HR.out.1.below HR.out.2.2.2.2).below (hb.mono (Nat.le_succ _))) (by omega) (by omega) hgl (by rw [← Array.length_toList]; omega) hHo)
      have HEND := Lib.hid (And.intro hd (And.intro hHo (And.intro hgl (And.intro hgB hlt))))
      obtain ⟨K, hK⟩ : ∃ K, K = d.toList.length := ⟨_, rfl⟩
      rw [← hK]
      rw [show d.size = K by rw [hK, Array.length_toList]] at C
      have HKK := Lib.hid hK
      clear hown hb hd hHo hK hHe hlt hK4 hK0 hform HOWN
      go_wp2_with fail
      refine C.out.mono ?_
      rintro _ w2 ⟨rfl, d', q, os, hp, hs, hw2⟩
      obtain ⟨hd, hHo, hgl, hgB, hlt⟩ := HEND.out
      rw [show K = d.size by rw [HKK.out, Array.length_toList]] at hp hs
      have hord := ord_sorted HR.out.2.1 HR.out.2.2.1 hd hp hs
      have hHo2 : Holds (encM k) w2 g 0 d' := by rw [hw2]; exact holds_sortWorld _ _ _ _ _ _ _ _ hgl hHo hp.1
      have hb2 : Below g wr w2 := by rw [hw2]; exact sort_below hgl
      have HF := Lib.hid (show OrdL (natL l) d'.toList ∧ d'.toList.length = K ∧ Rd w2 w2.heap.size (some ⟨g, 0, none⟩) (zvs (intS d'.toList)) ∧ Below w.heap.size w w2 from
        ⟨hord, by rw [HKK.out, Array.length_toList, Array.length_toList, hp.1], rd_holds hHo2 (fun x hx => by
          have := (hord.mem.1 hx).1
          rw [natL_len, HR.out.2.1] at this; exact this) (Nat.lt_of_lt_of_le hgl hb2.size), HR.out.2.2.2.2.trans ((HB.out.mono (Nat.le_succ _)).trans (hb2.mono (by omega)))⟩)
      clear hd hHo hgl hgB hlt hp hs hw2 hord hHo2 hb2
      go_wp2
      go_ret
      exact ⟨_, _, _, _, rfl, HF.out.1, HF.out.2.1, HF.out.2.2.1, HF.out.2.2.2, Nat.le_of_succ_le HEND.out.2.2.2.1⟩
end
end Go.Proofs.YtflcmmeoppdhdaaGreat
namespace Go.Proofs.YtflcmmeoppdhdaaGreat
open Go.RowKit Go.Sort Go.Shelf

/-- Codes at E: a row of codes, one a letter, and a map from codes to letters. -/
structure CAt (w : World) (E g M n : Nat) (cs : List Pr) (es : List (Pr × Nat)) : Prop where
  box : Blk w E 214 [.slice (some ⟨g, 0, none⟩) n n, .map (some M)]
  row : Blk w g 216 (pvs cs)
  len : cs.length = n
  map : MapC w M es
section
variable {w w' : World} {E g M n : Nat} {cs : List Pr} {es : List (Pr × Nat)}
theorem CAt.grow (h : CAt w E g M n cs es) (hb : Below w.heap.size w w') : CAt w' E g M n cs es := ⟨h.box.grow hb, h.row.grow hb, h.len, h.map.grow hb⟩
set_option maxHeartbeats 1000000 in
set_option maxRecDepth 100000 in
theorem codesOf_in (h : CAt w E g M n cs es) (i : Nat) (hi : i < n) : Calls Tryz.prog 99 #[.pointer (some ⟨E, 0, none⟩), .int .i64 (i : Int)] w fun e w' => e = .returned (.tuple #[.int .i64 ((pat cs i).1 : Int), .int .i64 ((pat cs i).2 : Int)]) ∧ ∃ q, w' = w.drewN q := by
  have c0 := h.box.cell 0
  simp only [List.getElem?_cons_zero] at c0
  have r0 := h.row.cell (i * 2)
  have r1 := h.row.cell (i * 2 + 1)
  rw [pvs_get0 _ _ (by rw [h.len]; exact hi)] at r0
  rw [pvs_get1 _ _ (by rw [h.len]; exact hi)] at r1
  have hii : (i : Int) < (n : Int) := by omega
  obtain ⟨x, hx⟩ : ∃ x, x = (pat cs i).1 := ⟨_, rfl⟩
  obtain ⟨y, hy⟩ : ∃ y, y = (pat cs i).2 := ⟨_, rfl⟩
  rw [← hx] at r0 ⊢
  rw [← hy] at r1 ⊢
  clear h hx hy
  go_enter Tryz.func99, Tryz.ntmps99
  go_wp2
  go_quiet (fail)
  go_wp2
  go_ret2
  exact ⟨rfl, _, rfl⟩
/-- What Letter tells. -/
def letV (o : Option (Nat × Value)) : Value := match o with
  | some r => .tuple #[r.2, .bool true]
  | none => .tuple #[.int .i64 0, .bool false]
set_option maxHeartbeats 1000000 in
set_option maxRecDepth 100000 in
theorem codesLetter (h : CAt w E g M n cs es) (x y : Int) : Calls Tryz.prog 167 #[.pointer (some ⟨E, 0, none⟩), .int .i64 x, .int .i64 y] w fun e w' => e = .returned (letV (findC x y es 0)) ∧ w' = w := by
  have c1 := h.box.cell 1
  simp only [List.getElem?_cons_succ, List.getElem?_cons_zero] at c1
  have hrun := run_cget w M es h.map x y
  unfold codeVI at hrun
  obtain ⟨o, ho⟩ : ∃ o, o = findC x y es 0 := ⟨_, rfl⟩
  rw [← ho] at hrun ⊢
  clear ho h
  cases o with
  | none =>
    simp only at hrun
    unfold letV
    go_enter Tryz.func167, Tryz.ntmps167
    go_wp2
    go_ret2
    exact ⟨rfl, rfl⟩
  | some r =>
    simp only at hrun
    unfold letV
    simp only
    go_enter Tryz.func167, Tryz.ntmps167
    go_wp2
    go_ret2
    exact ⟨rfl, rfl⟩
set_option maxHeartbeats 2000000 in
set_option maxRecDepth 100000 in
theorem codesGive (h : CAt w E g M n cs es) (hne : E ≠ g) (i : Nat) (hi : i < n) (k : Pr) (hk : ∀ p ∈ es, p.1 ≠ k) :
    Calls Tryz.prog 161 #[.pointer (some ⟨E, 0, none⟩), .int .i64 (i : Int), codeV k] w fun e w' => e = .returned (.tuple #[]) ∧ CAt w' E g M n (cs.set i k) (es ++ [(k, i)]) ∧ (w'.os = w.os ∧ w'.tape = w.tape ∧ w'.output = w.output ∧ w.heap.size ≤ w'.heap.size ∧ ∀ j, j < w.heap.size → j ≠ g → j ≠ M → w'.heap[j]? = w.heap[j]?) := by
  obtain ⟨a, b⟩ := k
  have c0 := h.box.cell 0
  have c1 := h.box.cell 1
  simp only [List.getElem?_cons_succ, List.getElem?_cons_zero] at c0 c1
  have r0 := h.row.cell (i * 2)
  have r1 := h.row.cell (i * 2 + 1)
  rw [pvs_get0 _ _ (by rw [h.len]; exact hi)] at r0
  rw [pvs_get1 _ _ (by rw [h.len]; exact hi)] at r1
  have f0 := h.row.frozen (i * 2)
  have f1 := h.row.frozen (i * 2 + 1)
  have hii : (i : Int) < (n : Int) := by omega
  have hE := h.box.lt
  have hg := h.row.lt
  have hM := h.map.lt
  have H := Lib.hid h
  obtain ⟨x, hx⟩ : ∃ x, x = (pat cs i).1 := ⟨_, rfl⟩
  obtain ⟨y, hy⟩ : ∃ y, y = (pat cs i).2 := ⟨_, rfl⟩
  rw [← hx] at r0
  rw [← hy] at r1
  have HK := Lib.hid hk
  clear h hx hy hk
  unfold codeV codeVI
  simp only
  go_enter Tryz.func161, Tryz.ntmps161
  go_wp2
  go_region
  have hMg : M ≠ g := fun e => by
    have h1 := H.out.map
    have h2 := H.out.row
    unfold MapC at h1; unfold Blk at h2
    rw [e] at h1; rw [h1] at h2; cases h2
  have hb1 : Blk ((((w.setCell ⟨g, i * 2, none⟩ (.int .i64 (a : Int))).setCell ⟨g, i * 2 + 1, none⟩ (.int .i64 (b : Int))).alloc (.cells #[.int .i64 (a : Int), .int .i64 (b : Int)] 216)).drew) E 214 [.slice (some ⟨g, 0, none⟩) n n, .map (some M)] := (((H.out.box.setOther _ _ hne).setOther _ _ hne).alloc_ _).drew_
  have hr1 : Blk ((((w.setCell ⟨g, i * 2, none⟩ (.int .i64 (a : Int))).setCell ⟨g, i * 2 + 1, none⟩ (.int .i64 (b : Int))).alloc (.cells #[.int .i64 (a : Int), .int .i64 (b : Int)] 216)).drew) g 216 (pvs (cs.set i (a, b))) := by
    rw [← pvs_set cs (a, b) i (by rw [H.out.len]; exact hi)]
    exact (((H.out.row.set_ _ _).set_ _ _).alloc_ _).drew_
  have hm1 : MapC ((((w.setCell ⟨g, i * 2, none⟩ (.int .i64 (a : Int))).setCell ⟨g, i * 2 + 1, none⟩ (.int .i64 (b : Int))).alloc (.cells #[.int .i64 (a : Int), .int .i64 (b : Int)] 216)).drew) M es := ((((H.out.map.set _ _ hMg).set _ _ hMg).grow ((Below.refl _ _).alloc (Nat.le_refl _) _))).same rfl
  have hx1 : Blk ((((w.setCell ⟨g, i * 2, none⟩ (.int .i64 (a : Int))).setCell ⟨g, i * 2 + 1, none⟩ (.int .i64 (b : Int))).alloc (.cells #[.int .i64 (a : Int), .int .i64 (b : Int)] 216)).drew) w.heap.size 216 [.int .i64 (a : Int), .int .i64 (b : Int)] := by
    have h := heap_alloc_new ((w.setCell ⟨g, i * 2, none⟩ (.int .i64 (a : Int))).setCell ⟨g, i * 2 + 1, none⟩ (.int .i64 (b : Int))) (.cells #[.int .i64 (a : Int), .int .i64 (b : Int)] 216)
    rw [show ((w.setCell ⟨g, i * 2, none⟩ (.int .i64 (a : Int))).setCell ⟨g, i * 2 + 1, none⟩ (.int .i64 (b : Int))).heap.size = w.heap.size by simp [World.setCell]] at h
    exact h
  have hfr : ∀ j, j < w.heap.size → j ≠ g → ((((w.setCell ⟨g, i * 2, none⟩ (.int .i64 (a : Int))).setCell ⟨g, i * 2 + 1, none⟩ (.int .i64 (b : Int))).alloc (.cells #[.int .i64 (a : Int), .int .i64 (b : Int)] 216)).drew).heap[j]? = w.heap[j]? := fun j hj hjg => by
    have h1 := ((Below.refl ((w.setCell ⟨g, i * 2, none⟩ (.int .i64 (a : Int))).setCell ⟨g, i * 2 + 1, none⟩ (.int .i64 (b : Int))).heap.size ((w.setCell ⟨g, i * 2, none⟩ (.int .i64 (a : Int))).setCell ⟨g, i * 2 + 1, none⟩ (.int .i64 (b : Int)))).alloc (Nat.le_refl _) (.cells #[.int .i64 (a : Int), .int .i64 (b : Int)] 216)).block j (by simpa [World.setCell] using hj)
    exact h1.trans ((Below.heap_setCell _ _ _ j hjg).trans (Below.heap_setCell _ _ _ j hjg))
  have hsz : w.heap.size ≤ ((((w.setCell ⟨g, i * 2, none⟩ (.int .i64 (a : Int))).setCell ⟨g, i * 2 + 1, none⟩ (.int .i64 (b : Int))).alloc (.cells #[.int .i64 (a : Int), .int .i64 (b : Int)] 216)).drew).heap.size := by simp [World.setCell]
  have HOS := Lib.hid (show (((((w.setCell ⟨g, i * 2, none⟩ (.int .i64 (a : Int))).setCell ⟨g, i * 2 + 1, none⟩ (.int .i64 (b : Int))).alloc (.cells #[.int .i64 (a : Int), .int .i64 (b : Int)] 216)).drew).os = w.os ∧ ((((w.setCell ⟨g, i * 2, none⟩ (.int .i64 (a : Int))).setCell ⟨g, i * 2 + 1, none⟩ (.int .i64 (b : Int))).alloc (.cells #[.int .i64 (a : Int), .int .i64 (b : Int)] 216)).drew).tape = w.tape ∧ ((((w.setCell ⟨g, i * 2, none⟩ (.int .i64 (a : Int))).setCell ⟨g, i * 2 + 1, none⟩ (.int .i64 (b : Int))).alloc (.cells #[.int .i64 (a : Int), .int .i64 (b : Int)] 216)).drew).output = w.output) from ⟨rfl, rfl, rfl⟩)
  have HFR := Lib.hid hfr
  clear r0 r1 f0 f1 c0 c1 hfr
  generalize ((((w.setCell ⟨g, i * 2, none⟩ (.int .i64 (a : Int))).setCell ⟨g, i * 2 + 1, none⟩ (.int .i64 (b : Int))).alloc (.cells #[.int .i64 (a : Int), .int .i64 (b : Int)] 216)).drew) = W1 at hb1 hr1 hm1 hx1 hsz HOS HFR ⊢
  obtain ⟨w2, hrun, hm2, hg2⟩ := run_cput W1.drew M es (hm1.same rfl) (a, b) i HK.out
  unfold codeV codeVI at hrun
  simp only at hrun
  have c1 := hb1.cell 1
  have x0 := hx1.cell 0
  have x1 := hx1.cell 1
  simp only [List.getElem?_cons_succ, List.getElem?_cons_zero] at c1 x0 x1
  have hEM : E ≠ M := fun e => by
    have h1 := H.out.map
    have h2 := H.out.box
    unfold MapC at h1; unfold Blk at h2
    rw [← e] at h1; rw [h1] at h2; cases h2
  have HEND := Lib.hid (show CAt w2 E g M n (cs.set i (a, b)) (es ++ [((a, b), i)]) ∧ (w2.os = w.os ∧ w2.tape = w.tape ∧ w2.output = w.output ∧ w.heap.size ≤ w2.heap.size ∧ ∀ j, j < w.heap.size → j ≠ g → j ≠ M → w2.heap[j]? = w.heap[j]?) from by
    refine ⟨⟨blk_row (hb1.drew_) hg2 (fun r e => by have e2 : M = r := Option.some.inj e; omega), blk_row (hr1.drew_) hg2 (fun r e => by have e2 : M = r := Option.some.inj e; omega), by rw [List.length_set]; exact H.out.len, hm2⟩, hg2.os.trans HOS.out.1, hg2.tape.trans HOS.out.2.1, hg2.output.trans HOS.out.2.2, Nat.le_trans hsz hg2.size, fun j hj h1 h2 => ?_⟩
    rw [hg2.block j (by exact Nat.lt_of_lt_of_le hj hsz) (fun e => h2 (Option.some.inj e.symm).symm)]
    exact HFR.out j hj h1)
  clear hb1 hr1 hm1 hx1 hm2 hg2 HOS
  go_wp2
  go_region
  go_end0
  exact ⟨rfl, HEND.out⟩
end
end Go.Proofs.YtflcmmeoppdhdaaGreat
