/-
  Layer 19: the program's Decode; what both answer to wrong arguments. · Layer 1: the Writer's contracts once more, wherever its row lies (frame: its own box, and bytes at or above B). Written by gen_bito.py out of BitD's text. · Layer 19: the program lays a word.
-/
import Derived.Test.YtflcmmeoppdhdaaGreatR03
import Derived.Test.YtflcmmeoppdhdaaGreatR04
import Derived.Test.YtflcmmeoppdhdaaGreatR06
import Derived.Test.YtflcmmeoppdhdaaGreatR08
namespace Go.Proofs.YtflcmmeoppdhdaaGreat
open Go.RowKit Go.Sort

/-- More words, or bytes, than there are bits: nothing is told. -/
theorem riceOut_few {W n : Nat} {L : List Bool} {o : Option (List Nat × (List Bool × Nat))} (ho : RiceR (8 * W) (n / W) 16 1 (L, 0) o) (h : L.length < n / W + n % W * 8) : riceOut W n o = ([], 16) := by
  cases o with
  | none => rfl
  | some p =>
    obtain ⟨X, s⟩ := p
    obtain ⟨h1, h2, -, -⟩ := ho.len X s rfl
    unfold riceOut
    simp only
    rw [if_neg]
    intro h3
    have h4 : (restF (n % W) s).2.2 = 0 := by
      unfold doneE at h3
      by_cases h5 : (restF (n % W) s).2.2 = 0
      · exact h5
      · rw [if_pos h5] at h3; exact h3
    obtain ⟨-, h6⟩ := restF_few _ _ h4
    simp only at h2
    omega
theorem doneE_stuck {s : List Bool × Nat} (h : s.2 ≠ 0) : doneE s ≠ 0 := by unfold doneE; rw [if_pos h]; exact h
set_option maxHeartbeats 4000000 in
set_option maxRecDepth 100000 in
theorem riceDec_any {W n : Nat} (hW : IsW W) (hn : n ≤ 67108864) (l : List UInt8) (v : Value) (w : World) (hv : IsBytes l v w) (hl : l.length ≤ 10000) {o : Option (List Nat × (List Bool × Nat))} (ho : RiceR (8 * W) (n / W) 16 1 (allBits l, 0) o) :
    Calls Tryz.prog 279 #[v, .int .i64 (W : Int), .int .i64 (n : Int)] w (RDSays w (riceOut W n o)) := by
  obtain ⟨A, c, rfl, hc, hr⟩ := hv
  have hp := hW.pos
  have C1 := Lib.hid (wordRight_any (W : Int) true hW.right)
  have C2 := Lib.hid (read_all A l.length c l w hr rfl (by omega))
  have hLl : (allBits l).length ≤ 80000 := by rw [allBits_length]; omega
  have hfew : (allBits l).length < n / W + n % W * 8 → riceOut W n o = ([], 16) := riceOut_few ho
  have hout : ∀ X s, o = some (X, s) → riceOut W n o = if doneE (restF (n % W) s).2 = 0 then (layW W X ++ (restF (n % W) s).1, 0) else ([], 16) := fun X s e => by rw [e]; rfl
  have hnone : o = none → riceOut W n o = ([], 16) := fun e => by rw [e]; rfl
  obtain ⟨L, hLe⟩ : ∃ L, L = allBits l := ⟨_, rfl⟩
  rw [← hLe] at C2 ho hLl hfew
  obtain ⟨Q, hQ⟩ : ∃ Q, Q = riceOut W n o := ⟨_, rfl⟩
  rw [← hQ] at hfew hnone ⊢
  simp only [← hQ] at hout
  obtain ⟨M, hM⟩ : ∃ M, M = n / W := ⟨_, rfl⟩
  obtain ⟨m, hm⟩ : ∃ m, m = n % W := ⟨_, rfl⟩
  rw [← hM] at ho
  rw [← hM, ← hm] at hfew
  simp only [← hm] at hout
  have hMi : (n : Int) / (W : Int) = (M : Int) := by rw [hM]; exact (Int.natCast_ediv _ _).symm
  have hMt : (n : Int).tdiv (W : Int) = (M : Int) := by rw [Int.tdiv_eq_ediv_of_nonneg (by omega)]; exact hMi
  have hmi : (n : Int) % (W : Int) = (m : Int) := by rw [hm]; exact (Int.natCast_emod _ _).symm
  have hmt : (n : Int).tmod (W : Int) = (m : Int) := by rw [Int.tmod_eq_emod_of_nonneg (by omega)]; exact hmi
  have hMn : M ≤ 67108864 := by rw [hM]; exact Nat.le_trans (Nat.div_le_self _ _) hn
  have hmW : m < W := by rw [hm]; exact Nat.mod_lt _ (by omega)
  have HO := Lib.hid ho
  have HFEW := Lib.hid hfew
  have HOUT := Lib.hid hout
  have HNONE := Lib.hid hnone
  have HWW := Lib.hid hW
  have HL := Lib.hid hLl
  have HMM := Lib.hid (And.intro hMn hmW)
  have hni : (n : Int) ≤ 67108864 := by omega
  have hn0 : (0 : Int) ≤ (n : Int) := by omega
  have hW8 : (W : Int) ≤ 8 := by omega
  have hW1 : (1 : Int) ≤ (W : Int) := by omega
  have hW0n : ¬ W = 0 := by omega
  have hW0 : ¬ (W : Int) = 0 := by omega
  have hM8 : (M : Int) ≤ 67108864 := by omega
  have hm8 : (m : Int) < 8 := by omega
  have hMw : IntKind.i64.wrap (M : Int) = (M : Int) := by rw [IntKind.wrap_i64]; omega
  obtain ⟨T, hT⟩ : ∃ T, T = m * 8 := ⟨_, rfl⟩
  have hT1 : IntKind.i64.wrap ((m : Int) * 8) = (T : Int) := by rw [IntKind.wrap_i64]; omega
  obtain ⟨U, hU⟩ : ∃ U, U = M + T := ⟨_, rfl⟩
  have hT2 : IntKind.i64.wrap ((M : Int) + (T : Int)) = (U : Int) := by rw [IntKind.wrap_i64]; omega
  have HU := Lib.hid (show U = M + m * 8 by omega)
  clear hr hLe hW hfew hout hnone hM hm hT hU hLl ho hQ hn hl hc hp hMn hmW
  go_enter Tryz.func279, Tryz.ntmps279
  go_wp2_with fail
  refine (C1.out _).mono ?_
  rintro _ w0 ⟨rfl, hw0⟩
  subst w0
  go_wp2_with fail
  refine C2.out.mono ?_
  rintro _ w1 ⟨g, rfl, hg, hrd, hb1⟩
  have hgl : g < w1.heap.size := by obtain ⟨_, _, _, _, hk, -⟩ := hrd; exact hk.lt
  have HRD := Lib.hid hrd
  have HB1 := Lib.hid hb1
  have HG := Lib.hid (And.intro hg hgl)
  have CL := Lib.hid (fun W' h => rLeft_is (w := W') (g := g) (L := L) h)
  clear hrd hb1 hg hgl C1 C2
  go_wp2
  refine wp_region_grow [⟨25, [], .is (.int .i64 (n : Int))⟩, ⟨26, [], .is (.int .i64 (W : Int))⟩, ⟨27, [0, 1], .is (.int .i64 (M : Int))⟩, ⟨28, [], .is (.int .i64 (n : Int))⟩, ⟨29, [], .is (.int .i64 (W : Int))⟩, ⟨30, [3, 4], .is (.int .i64 (m : Int))⟩,
      ⟨31, [5], .is (.int .i64 (T : Int))⟩, ⟨32, [2, 6], .is (.int .i64 (U : Int))⟩, ⟨33, [], .is (.pointer (some ⟨g, 0, none⟩))⟩, ⟨34, [8], .is (.int .i64 (L.length : Int))⟩, ⟨35, [7, 9], .is (.bool (decide ((L.length : Int) < (U : Int))))⟩]
    [(2, .int .i64 (n : Int)), (1, .int .i64 (W : Int)), (8, .pointer (some ⟨g, 0, none⟩))] (by kernel_rfl) (by kernel_rfl) (by kernel_rfl) (by kernel_rfl) (by kernel_rfl) ⟨rfl, rfl, rfl, trivial⟩ ?_ ?_
  · repeat' (first | exact OblGAll.nil | refine OblGAll.cons ?_ ?_)
    all_goals (intro ev yi w' hB hc hf ho hn; simp only [OutsSay, NeedSay, rowAt, Fact.says, and_true] at ho hn)
    all_goals (try ((simp [OpSays, execOp, Region.wanted, Fact.says, go_sem, ho, hn, hc, Below.refl, hT1, hT2]; done)))
    · rw [if_pos (by simp [Region.wanted])]
      simp [OpSays, execOp, go_sem, Fact.says, hn, hW0n, Below.refl]
      rw [hMi]; exact hMw
    · rw [if_pos (by simp [Region.wanted])]
      simp [OpSays, execOp, go_sem, Fact.says, hn, hW0n, Below.refl]
      exact hmt
    · rw [if_pos (by simp [Region.wanted])]
      exact says_call Tryz.call166 (vs := #[.pointer (some ⟨g, 0, none⟩)]) rfl hf (by simp [hn]) ((CL.out w' (HRD.out.only (OnlyT.of_below (B := w1.heap.size) (ts := []) hB) (by simp) (by simp))).mono fun e w2 ⟨he, hw⟩ => ⟨_, he, rfl, by rw [← hw]; exact (Below.refl _ _).drew⟩)
  · intro X w4 hb4 hx
    have hlast : X 10 = .bool (decide ((L.length : Int) < (U : Int))) := hx 10 (by decide)
    clear hx
    have HRD4 := Lib.hid (show RdrIs w4 g L 0 from HRD.out.only (OnlyT.of_below (B := w1.heap.size) (ts := []) hb4) (by simp) (by simp))
    have HB4 := Lib.hid (HB1.out.trans (hb4.mono HB1.out.size))
    have HG4 := Lib.hid (show w.heap.size ≤ g ∧ g < w4.heap.size from ⟨HG.out.1, Nat.lt_of_lt_of_le HG.out.2 hb4.size⟩)
    simp only [layAll, List.setIfInBounds_toArray, List.set_cons_succ, List.set_cons_zero, hlast]
    clear hlast hb4 HRD HB1 HG CL hT1 hT2
    by_cases hfw : L.length < U
    · have hQ := HFEW.out (by rw [← HU.out]; exact hfw)
      subst hQ
      have hdec : decide ((L.length : Int) < (U : Int)) = true := by simp; omega
      simp only [hdec]
      clear hdec HOUT HNONE HFEW
      go_wp2
      go_ret2
      exact ⟨_, rfl, isBytes_nil _, HB4.out⟩
    · have hdec : decide ((L.length : Int) < (U : Int)) = false := by simp; omega
      simp only [hdec]
      have hM100 : M ≤ 100000 := by have := HU.out; have := HL.out; omega
      have CW := Lib.hid (riceWords_any (s0 := (L, 0)) HWW.out w4 hM100 HRD4.out rfl HO.out)
      clear hdec hfw HFEW HRD4
      go_wp2_with fail
      refine CW.out.mono ?_
      rintro _ w5 ⟨ho5, (⟨rfl, hon⟩ | ⟨a, X, s, rfl, ha, hba, hXl, hXs, hrd5, hok⟩)⟩
      · have hQ := HNONE.out hon
        subst hQ
        have HB5 := Lib.hid (HB4.out.trans (ho5.lower HG4.out.1 HB4.out.size))
        clear ho5 CW HOUT HNONE
        go_wp2
        go_ret2
        exact ⟨_, rfl, isBytes_nil _, HB5.out⟩
      · have HB5 := Lib.hid (HB4.out.trans (ho5.lower HG4.out.1 HB4.out.size))
        have hg5 : g < w5.heap.size := Nat.lt_of_lt_of_le HG4.out.2 ho5.size
        have CP := Lib.hid (ricePlain_any (n := m) w5 (by have := HMM.out; omega) hrd5 hg5)
        have HBA := Lib.hid hba
        have HX := Lib.hid (And.intro hXl hXs)
        obtain ⟨rs, hrs⟩ : ∃ rs, rs = (restF m s).1 := ⟨_, rfl⟩
        obtain ⟨SE, hSE⟩ : ∃ SE, SE = (restF m s).2 := ⟨_, rfl⟩
        have hrl : rs.length = m := by rw [hrs]; exact restF_len m s
        have hone : doneE SE = 0 → Q = (layW W X ++ rs, 0) := fun h => by
          rcases hok with ⟨h1, h2⟩ | ⟨h1, h2⟩
          · rw [HOUT.out X s h2, ← hSE, if_pos h, hrs]
          · rw [hSE, restF_stuck m s h1] at h
            exact absurd h (doneE_stuck h1)
        have htwo : doneE SE ≠ 0 → Q = ([], 16) := fun h => by
          rcases hok with ⟨h1, h2⟩ | ⟨h1, h2⟩
          · rw [HOUT.out X s h2, ← hSE, if_neg h]
          · exact HNONE.out h2
        have HONE := Lib.hid hone
        have HTWO := Lib.hid htwo
        rw [← hrs, ← hSE] at CP
        clear ho5 CW hba hXl hXs hrd5 hok hone htwo hrs hSE HOUT HNONE
        go_wp2_with fail
        refine CP.out.mono ?_
        rintro _ w6 ⟨a2, rfl, ha2, hba2, hrd6, ho6⟩
        have hlen6 : SE.1.length ≤ 9000000000000000 := by
          obtain ⟨bs, at_, A', c', -, -, -, h4, -, h6⟩ := hrd6
          rw [h6, List.length_drop, allBits_length]
          omega
        have CD := Lib.hid (rDone_st g SE w6 hrd6 hlen6)
        have HBA6 := Lib.hid (HBA.out.only ho6 (by decide))
        have HBR6 := Lib.hid hba2
        have HB6 := Lib.hid (HB5.out.trans (ho6.lower HG4.out.1 HB5.out.size))
        obtain ⟨E, hE⟩ : ∃ E, E = doneE SE := ⟨_, rfl⟩
        rw [← hE] at CD HONE HTWO
        clear hrd6 ho6 hba2 hlen6 CP HBA HB5 hE
        by_cases hE0 : E = 0
        · have hQ := HONE.out hE0
          subst hQ
          subst hE0
          go_wp2_with fail
          refine CD.out.mono ?_
          rintro _ w7 ⟨rfl, ho7⟩
          have hba7 := HBA6.out.only ho7 (by decide)
          have hbr7 := HBR6.out.only ho7 (by decide)
          have HB7 := Lib.hid (HB6.out.trans (ho7.lower HG4.out.1 HB6.out.size))
          have CY := Lib.hid (wordLay_any W HWW.out (some ⟨a, 0, none⟩) M M X (some ⟨a2, 0, none⟩) m m rs w7 (Rd.of_blk hba7) HX.out.1 (fun x hx => Nat.lt_of_lt_of_le (HX.out.2 x hx) (Nat.pow_le_pow_right (n := 2) (by decide) (D_le HWW.out).2)) (Rd.of_blk hbr7) hrl hM100 (by have := HMM.out; omega))
          clear ho7 hba7 hbr7 CD HBA6 HBR6 HB6 HONE HTWO
          go_wp2_with fail
          refine CY.out.mono ?_
          rintro _ w8 ⟨v8, rfl, h8, hb8⟩
          have HE := Lib.hid (And.intro h8 (HB7.out.trans (hb8.mono HB7.out.size)))
          clear h8 hb8 CY
          go_wp2
          go_ret2
          exact ⟨_, rfl, HE.out.1, HE.out.2⟩
        · have hQ := HTWO.out hE0
          subst hQ
          have hei : ((E : Int) == 0) = false := by simp; omega
          have hei2 : ¬ (E : Int) = 0 := by omega
          clear hE0 HONE HTWO
          go_wp2_with fail
          refine CD.out.mono ?_
          rintro _ w7 ⟨rfl, ho7⟩
          have HB7 := Lib.hid (HB6.out.trans (ho7.lower HG4.out.1 HB6.out.size))
          clear ho7 CD HBA6 HBR6 HB6
          go_wp2
          go_ret2
          exact ⟨_, rfl, isBytes_nil _, HB7.out⟩
end Go.Proofs.YtflcmmeoppdhdaaGreat
namespace Go.Proofs.YtflcmmeoppdhdaaGreat
open Go.RowKit

/-- At block g lies a Writer that has the bits l, in a row of its own at or above B. -/
def WrO (w : World) (B g : Nat) (l : List Bool) : Prop :=
  ∃ v bs, Blk w g 159 [v, .int .i64 l.length] ∧ B ≤ w.heap.size ∧ w.ownsRow B 5 1 v bs.length (bvs bs) ∧ Packs bs l
/-- Only the box g, and bytes at or above B, are turned. -/
structure OnlyO (B g : Nat) (w w' : World) : Prop where
  os : w'.os = w.os
  tape : w'.tape = w.tape
  output : w'.output = w.output
  size : w.heap.size ≤ w'.heap.size
  block : ∀ k, k < w.heap.size → k ≠ g → (k < B ∨ ¬ OfType w k 5) → w'.heap[k]? = w.heap[k]?
section
variable {B g : Nat} {w w' w'' : World}
theorem OnlyO.refl (B g : Nat) (w : World) : OnlyO B g w w := ⟨rfl, rfl, rfl, Nat.le_refl _, fun _ _ _ _ => rfl⟩
theorem OnlyO.trans (h : OnlyO B g w w') (h' : OnlyO B g w' w'') : OnlyO B g w w'' :=
  ⟨h'.os.trans h.os, h'.tape.trans h.tape, h'.output.trans h.output, Nat.le_trans h.size h'.size, fun k hk hg hn => by
    have e := h.block k hk hg hn
    refine (h'.block k (Nat.lt_of_lt_of_le hk h.size) hg ?_).trans e
    rcases hn with hn | hn
    · exact .inl hn
    · refine .inr fun ho => hn ?_
      obtain ⟨cs, fr, ho⟩ := ho
      exact ⟨cs, fr, e ▸ ho⟩⟩
theorem OnlyO.drew (h : OnlyO B g w w') : OnlyO B g w w'.drew := ⟨h.os, h.tape, h.output, h.size, h.block⟩
theorem OnlyO.of_only (h : OnlyT B [5] w w') : OnlyO B g w w' := ⟨h.os, h.tape, h.output, h.size, fun k hk _ hn => h.block k hk (hn.imp id fun q t ht => by rw [List.mem_singleton.1 ht]; exact q)⟩
theorem OnlyO.of_below (h : Below w.heap.size w w') : OnlyO B g w w' := ⟨h.os, h.tape, h.output, h.size, fun k hk _ _ => h.block k hk⟩
theorem OnlyO.set_g (i : Nat) (u : Value) : OnlyO B g w (w.setCell ⟨g, i, none⟩ u) := ⟨rfl, rfl, rfl, by simp [World.setCell], fun k _ hg _ => Below.heap_setCell w _ u k (by simpa using hg)⟩
theorem OnlyO.set_new (h : OnlyO B g w w') {p : Addr} (hp : w.heap.size ≤ p.block) (u : Value) : OnlyO B g w (w'.setCell p u) :=
  ⟨h.os, h.tape, h.output, by simpa [World.setCell] using h.size, fun k hk hg hn => (Below.heap_setCell w' p u k (by omega)).trans (h.block k hk hg hn)⟩
theorem OnlyO.blkT {r : Nat} {t : TypeId} {cs : List Value} (h : OnlyO B g w w') (hb : Blk w r t cs) (ht : t ≠ 5) (hg : r ≠ g) : Blk w' r t cs := (h.block r hb.lt hg (.inr fun ho => hb.ofType.ne ht ho)).trans hb
theorem WrO.lt {l : List Bool} (h : WrO w B g l) : g < w.heap.size ∧ B ≤ w.heap.size := by
  obtain ⟨v, bs, h1, h0, -⟩ := h
  exact ⟨h1.lt, h0⟩
theorem OnlyO.below (h : OnlyO B g w w') {n : Nat} (hn : n ≤ B) (hg : n ≤ g) (hs : n ≤ w.heap.size) : Below n w w' := ⟨h.os, h.tape, h.output, h.size, fun k hk => h.block k (by omega) (by omega) (.inl (by omega))⟩
theorem WrO.kept {l : List Bool} (h : WrO w B g l) (hb : Below w.heap.size w w') : WrO w' B g l := by
  obtain ⟨v, bs, h1, h0, h2, h3⟩ := h
  exact ⟨v, bs, h1.grow hb, Nat.le_trans h0 hb.size, own_kept h2 hb, h3⟩
/-- Another box of another kind is turned. -/
theorem WrO.set_ {l : List Bool} {r i : Nat} {t : TypeId} {cs : List Value} (h : WrO w B g l) (hb : Blk w r t cs) (hg : r ≠ g) (ht : 5 ≠ t) (u : Value) : WrO (w.setCell ⟨r, i, none⟩ u) B g l := by
  obtain ⟨v, bs, h1, h0, h2, h3⟩ := h
  have ho : OnlyT 0 [t] w (w.setCell ⟨r, i, none⟩ u) := OnlyT.set_ hb (Nat.zero_le _) _ (by simp)
  exact ⟨v, bs, h1.setOther ⟨r, i, none⟩ u (by simpa using Ne.symm hg), by simpa [World.setCell] using h0, own_only h2 ho (by simpa using ht), h3⟩
theorem WrO.new (h : Blk w g 159 [.slice none 0 0, .int .i64 0]) (hB : B ≤ w.heap.size) : WrO w B g [] := ⟨_, [], h, hB, World.ownsRow_nil _ _ _ _, Packs.nil⟩
end
theorem layO_end {w : World} {B g r c n : Nat} {bs bs' : List UInt8} {l : List Bool} {b : Bool} {x : UInt8} {u : Value}
    (hblk : Blk w g 159 [.slice (some ⟨r, 0, none⟩) bs'.length c, u]) (hBg : B ≤ w.heap.size) (hown : w.ownsRow B 5 1 (.slice (some ⟨r, 0, none⟩) bs'.length c) bs'.length (bvs bs'))
    (hn : n = l.length) (hp : Packs bs l) (hbs : bs' = if l.length % 8 = 0 then bs ++ [0] else bs) (hx : bs'[n / 8]? = some x) :
    WrO ((w.setCell ⟨r, n / 8, none⟩ (.int .u8 (bits .or .u8 (x.toNat : Int) ((b.toNat : Int) * 2 ^ (n % 8) % 256)))).setCell ⟨g, 1, none⟩ (.int .i64 ((n : Int) + 1))).drew B g (l ++ [b]) ∧
    OnlyO B g w ((w.setCell ⟨r, n / 8, none⟩ (.int .u8 (bits .or .u8 (x.toNat : Int) ((b.toNat : Int) * 2 ^ (n % 8) % 256)))).setCell ⟨g, 1, none⟩ (.int .i64 ((n : Int) + 1))).drew := by
  obtain ⟨c8, he, hc8⟩ := or_bit x b (n % 8) (by omega)
  rw [he]
  obtain ⟨hst, hgr⟩ := hown.stored (n / 8) (.int .u8 c8.toNat)
  rw [bvs_set] at hst
  have ho1 : OnlyT B [5] w (w.setCell ⟨r, n / 8, none⟩ (.int .u8 c8.toNat)) := OnlyT.grown (e := 5) hgr (fun k hk => by injection hk with hk; subst hk; exact own_type hown r rfl) (by simp)
  have hblk1 := hblk.only ho1 (by decide)
  have ho2 : OnlyT 0 [159] (w.setCell ⟨r, n / 8, none⟩ (.int .u8 c8.toNat)) ((w.setCell ⟨r, n / 8, none⟩ (.int .u8 c8.toNat)).setCell ⟨g, 1, none⟩ (.int .i64 ((n : Int) + 1))) := OnlyT.set_ hblk1 (Nat.zero_le _) _ (by simp)
  have hst2 := own_only hst ho2 (by decide)
  have hblk2 := hblk1.set_ 1 (.int .i64 ((n : Int) + 1))
  have hsz : (bs'.set (n / 8) c8).length = bs'.length := by simp
  refine ⟨⟨.slice (some ⟨r, 0, none⟩) bs'.length c, bs'.set (n / 8) c8, ?_, by simpa [World.setCell] using hBg, by rw [hsz]; exact hst2, ?_⟩, ((OnlyO.of_only ho1).trans (OnlyO.set_g _ _)).drew⟩
  · have e : ((l ++ [b]).length : Int) = (n : Int) + 1 := by rw [hn]; simp
    rw [e]
    exact hblk2
  · subst hn
    exact hp.snoc b bs' hbs c8 (by rw [hc8, List.getD_eq_getElem?_getD, hx]; rfl)

set_option maxHeartbeats 1000000 in
set_option maxRecDepth 100000 in
theorem layO_any (g B : Nat) (l : List Bool) (b : Bool) (w : World) (h : WrO w B g l) (hl : l.length < 1000000000) :
    Calls Tryz.prog 203 #[.pointer (some ⟨g, 0, none⟩), .int .u8 b.toNat] w fun e w' => e = .returned (.tuple #[]) ∧ WrO w' B g (l ++ [b]) ∧ OnlyO B g w w' := by
  obtain ⟨i0, hi, hz0, hz1, hz2⟩ := info_parts info_u8'
  obtain ⟨v, bs, hblk, hBg, hown, hp⟩ := h
  obtain ⟨n, hn⟩ : ∃ n, n = l.length := ⟨_, rfl⟩
  rw [← hn] at hblk hl
  have hlen : bs.length = (n + 7) / 8 := by rw [hn]; exact hp.1
  have HN := Lib.hid hn
  have HP := Lib.hid hp
  clear hn hp
  by_cases h8 : n % 8 = 0
  · have hn0 : ((n : Int) % 8 == 0) = true := by rw [beq_iff_eq]; omega
    have hlb : bs.length ≤ 200000000 := by omega
    have hc0 := hblk.cell 0
    have hc1 := hblk.cell 1
    simp only [List.getElem?_cons_zero, List.getElem?_cons_succ] at hc0 hc1
    have hf0 := hblk.frozen 0
    have hf1 := hblk.frozen 1
    have hgs := hblk.lt
    have H8 := Lib.hid h8
    have HLEN := Lib.hid hlen
    have HBLK := Lib.hid hblk
    have HOWN := Lib.hid hown
    clear hlen hblk hown h8
    go_enter Tryz.func203, Tryz.ntmps203
    go_wp2_with (at_builtin; go_must (refine wpList_app rfl (.tmp 14) (.tmp 15) 22 rfl B 5 i0 (.int .u8 0) 1 1 Tryz.underlying22 hi hz0 hz1 hz2 rfl (by decide) _ _ _ rfl (HOWN.out.alloc _) _ _ 1 1 _ rfl (Rd.new _ _ _) rfl (by intro u hu; simp at hu; subst hu; rfl) (by simp only [maxLen]; omega) (by omega) (by simp; omega) ?_; intro v1 w1 hown1 hg1; obtain ⟨A1, c1, rfl, hn1, -, hA1⟩ := own_form hown1; have ho1 : OnlyT B [5] w w1 := (OnlyT.of_below ((Below.refl _ _).alloc (Nat.le_refl _) _)).trans (OnlyT.grown hg1 (own_type (HOWN.out.alloc _)) (by simp)); have hblk1 := HBLK.out.only ho1 (by decide); have hd0 := hblk1.cell 0; have hd1 := hblk1.cell 1; simp only [List.getElem?_cons_zero, List.getElem?_cons_succ] at hd0 hd1; have he0 := hblk1.frozen 0; have he1 := hblk1.frozen 1))
    obtain ⟨r, rfl, hBr, hr⟩ : ∃ r, A1 = some ⟨r, 0, none⟩ ∧ B ≤ r ∧ r < w1.heap.size := by
      rcases hA1 with h0 | h0
      · omega
      · exact h0
    clear hA1
    have hrg : r ≠ g := by
      intro e
      subst e
      exact (own_type hown1 r rfl).2.ne (show 5 ≠ 159 by decide) hblk1.ofType
    have hgr : g ≠ r := Ne.symm hrg
    have ho2 : OnlyT 0 [159] w1 (w1.setCell ⟨g, 0, none⟩ (.slice (some ⟨r, 0, none⟩) (bs.length + 1) c1)) := OnlyT.set_ hblk1 (Nat.zero_le _) _ (by simp)
    have hblk2 := hblk1.set_ 0 (.slice (some ⟨r, 0, none⟩) (bs.length + 1) c1)
    have hown2 := own_only hown1 ho2 (by decide)
    have ho12 : OnlyO B g w (w1.setCell ⟨g, 0, none⟩ (.slice (some ⟨r, 0, none⟩) (bs.length + 1) c1)) := (OnlyO.of_only ho1).trans (OnlyO.set_g _ _)
    clear hown1 hblk1 ho1 ho2 hd0 hd1 he0 he1 hc0 hc1 hf0 hf1
    generalize w1.setCell ⟨g, 0, none⟩ (.slice (some ⟨r, 0, none⟩) (bs.length + 1) c1) = w2 at *
    have hc0 := hblk2.cell 0
    have hc1 := hblk2.cell 1
    simp only [List.set_cons_zero, List.getElem?_cons_zero, List.getElem?_cons_succ] at hc0 hc1
    have hf0 := hblk2.frozen 0
    have hf1 := hblk2.frozen 1
    have hbn : bvs bs ++ [Value.int .u8 0] = bvs (bs ++ [0]) := by simp [bvs]
    have hbl : bs.length + 1 = (bs ++ [0]).length := by simp
    have hx : (bs ++ [0])[n / 8]? = some (0 : UInt8) := by rw [List.getElem?_append_right (by have := HLEN.out; have := H8.out; omega)]; have : n / 8 - bs.length = 0 := by { have := HLEN.out; have := H8.out; omega }; rw [this]; rfl
    have hcr : w2.cell? ⟨r, n / 8, none⟩ = some (.int .u8 0) := by
      have := hown2.cellAt (n / 8) (by have := HLEN.out; have := H8.out; omega)
      rw [this, hbn]
      unfold bvs
      rw [List.getElem?_map, hx]
      rfl
    have hfr := hown2.frozenAt (n / 8)
    have hq0 : (0 : Int) ≤ (n : Int) / 8 := by omega
    have hq1 : (n : Int) / 8 < ((bs.length + 1 : Nat) : Int) := by have := HLEN.out; have := H8.out; omega
    have HX := Lib.hid hx
    have HBLK2 := Lib.hid hblk2
    have HOWN2 := Lib.hid hown2
    have HBL := Lib.hid hbl
    have HBN := Lib.hid hbn
    have HO12 := Lib.hid ho12
    clear hx hblk2 hown2 hbl hbn ho12
    go_region
    go_wp2
    go_end0
    have hE := layO_end (b := b) (bs' := bs ++ [0]) (by rw [← HBL.out]; exact HBLK2.out) (Nat.le_trans hBg HO12.out.size) (by rw [← HBL.out, ← HBN.out]; exact HOWN2.out) HN.out HP.out (by rw [if_pos (by rw [← HN.out]; exact H8.out)]) HX.out
    rw [show (((0 : UInt8).toNat : Nat) : Int) = 0 from rfl] at hE
    exact ⟨rfl, hE.1, HO12.out.trans hE.2⟩
  · obtain ⟨A, c, rfl, hnc, _, hA⟩ := own_form hown
    obtain ⟨r, rfl, hBr, hr⟩ : ∃ r, A = some ⟨r, 0, none⟩ ∧ B ≤ r ∧ r < w.heap.size := by
      rcases hA with h0 | h0
      · omega
      · exact h0
    clear hA
    have hc0 := hblk.cell 0
    have hc1 := hblk.cell 1
    simp only [List.getElem?_cons_zero, List.getElem?_cons_succ] at hc0 hc1
    have hf0 := hblk.frozen 0
    have hf1 := hblk.frozen 1
    obtain ⟨x, hx⟩ : ∃ x : UInt8, bs[n / 8]? = some x := ⟨bs[n / 8]'(by omega), by simp⟩
    have hcr : w.cell? ⟨r, n / 8, none⟩ = some (.int .u8 x.toNat) := by
      have := hown.cellAt (n / 8) (by omega)
      rw [this]
      simp [bvs, hx]
    have hfr := hown.frozenAt (n / 8)
    have hrg : r ≠ g := by
      intro e
      subst e
      exact (own_type hown r rfl).2.ne (show 5 ≠ 159 by decide) hblk.ofType
    have hgr : g ≠ r := Ne.symm hrg
    have hn8 : ((n : Int) % 8 == 0) = false := by rw [beq_eq_false_iff_ne]; omega
    have hq0 : (0 : Int) ≤ (n : Int) / 8 := by omega
    have hq1 : (n : Int) / 8 < (bs.length : Int) := by omega
    have HX := Lib.hid hx
    have HLEN := Lib.hid hlen
    have HBLK := Lib.hid hblk
    have HOWN := Lib.hid hown
    have H8 := Lib.hid h8
    clear hx hlen hblk hown h8
    go_enter Tryz.func203, Tryz.ntmps203
    go_wp2
    go_region
    go_wp2
    go_end0
    have hE := layO_end (b := b) HBLK.out hBg HOWN.out HN.out HP.out (by rw [if_neg (by rw [← HN.out]; exact H8.out)]) HX.out
    exact ⟨rfl, hE.1, hE.2⟩


/-- What holds at the head of a round of Put. -/
def PutRelO (w : World) (B g : Nat) (l : List Bool) (V n : Nat) (i : Value) (wr : World) : Prop :=
  ∃ k : Nat, k ≤ n ∧ i = .int .i64 k ∧ WrO wr B g (l ++ bitsOf V k) ∧ OnlyO B g w wr

set_option maxHeartbeats 1000000 in
set_option maxRecDepth 100000 in
theorem oPut_any (g B : Nat) (l : List Bool) (V n : Nat) (w : World) (h : WrO w B g l) (hl : l.length < 900000000) (hV : V < 18446744073709551616) (hn : n ≤ 64) :
    Calls Tryz.prog 162 #[.pointer (some ⟨g, 0, none⟩), .int .u64 V, .int .i64 n] w fun e w' => e = .returned (.int .i64 0) ∧ WrO w' B g (l ++ bitsOf V n) ∧ OnlyO B g w w' := by
  have H := Lib.hid h
  clear h
  have hni : (n : Int) ≤ 64 := by omega
  have hn0 : ¬ (n : Int) < 0 := by omega
  have hn1 : ¬ (64 : Int) < n := by omega
  go_enter Tryz.func162, Tryz.ntmps162
  go_wp2
  go_loopw [17] (PutRelO w B g l V n) (fun i _ => n - (intOf i).toNat)
  case atStart => exact ⟨0, Nat.zero_le _, rfl, by rw [show bitsOf V 0 = [] from rfl, List.append_nil]; exact H.out, OnlyO.refl _ _ _⟩
  case round =>
    obtain ⟨k, hk, rfl, hat, ho⟩ := hrel
    have HAT := Lib.hid hat
    have HO := Lib.hid ho
    clear hat ho
    by_cases hlt : k < n
    · have hba := bit_arg V k hV
      have HBA := Lib.hid hba
      have hll : (l ++ bitsOf V k).length < 1000000000 := by rw [List.length_append, bitsOf_length]; omega
      have HLL := Lib.hid hll
      clear hba hll hV
      go_wp2_with (go_at_call 203; go_must (rw [HBA.out]; refine (layO_any g B _ (V.testBit k) _ HAT.out HLL.out).mono ?_; rintro e w1 ⟨rfl, hat1, ho1⟩; rw [List.append_assoc, ← bitsOf_succ] at hat1; have HAT1 := Lib.hid hat1; have HO1 := Lib.hid (HO.out.trans ho1); clear hat1 ho1))
      go_roundw
      case rel => exact ⟨k + 1, by omega, by go_num, HAT1.out, HO1.out⟩
      case measure => simp [intOf]; omega
    · obtain rfl : k = n := by omega
      go_wp2
      go_ret
      exact ⟨rfl, HAT.out, HO.out⟩


/-- What holds at the head of a round of Ones. -/
def OnesRelO (w : World) (B g : Nat) (l : List Bool) (n : Nat) (i : Value) (wr : World) : Prop :=
  ∃ k : Nat, k ≤ n ∧ i = .int .i64 k ∧ WrO wr B g (l ++ List.replicate k true) ∧ OnlyO B g w wr

set_option maxHeartbeats 1000000 in
set_option maxRecDepth 100000 in
theorem oOnes_any (g B : Nat) (l : List Bool) (n m : Nat) (w : World) (h : WrO w B g l) (hl : l.length < 900000000) (hn : n ≤ m) (hm : m ≤ 256) :
    Calls Tryz.prog 289 #[.pointer (some ⟨g, 0, none⟩), .int .i64 n, .int .i64 m] w fun e w' => e = .returned (.int .i64 0) ∧ WrO w' B g (l ++ onesOf n m) ∧ OnlyO B g w w' := by
  have H := Lib.hid h
  clear h
  have hni : (n : Int) ≤ (m : Int) := by omega
  have hmi : (m : Int) ≤ 256 := by omega
  have hn0 : ¬ (n : Int) < 0 := by omega
  have hn1 : ¬ (m : Int) < n := by omega
  have hn2 : ¬ (256 : Int) < m := by omega
  go_enter Tryz.func289, Tryz.ntmps289
  go_wp2
  go_loopw [21] (OnesRelO w B g l n) (fun i _ => n - (intOf i).toNat)
  case atStart => exact ⟨0, Nat.zero_le _, rfl, by rw [List.replicate_zero, List.append_nil]; exact H.out, OnlyO.refl _ _ _⟩
  case round =>
    obtain ⟨k, hk, rfl, hat, ho⟩ := hrel
    have HAT := Lib.hid hat
    have HO := Lib.hid ho
    clear hat ho
    have hll : (l ++ List.replicate k true).length < 1000000000 := by rw [List.length_append, List.length_replicate]; omega
    have HLL := Lib.hid hll
    clear hll
    by_cases hlt : k < n
    · go_wp2_with (go_at_call 203; go_must (refine (layO_any g B _ true _ HAT.out HLL.out).mono ?_; rintro e w1 ⟨rfl, hat1, ho1⟩; rw [List.append_assoc, ← List.replicate_succ'] at hat1; have HAT1 := Lib.hid hat1; have HO1 := Lib.hid (HO.out.trans ho1); clear hat1 ho1))
      go_roundw
      case rel => exact ⟨k + 1, by omega, by go_num, HAT1.out, HO1.out⟩
      case measure => simp [intOf]; omega
    · obtain rfl : k = n := by omega
      by_cases hlm : k < m
      · go_wp2_with (go_at_call 203; go_must (refine (layO_any g B _ false _ HAT.out HLL.out).mono ?_; rintro e w1 ⟨rfl, hat1, ho1⟩; have HAT1 := Lib.hid hat1; have HO1 := Lib.hid (HO.out.trans ho1); clear hat1 ho1))
        go_ret
        exact ⟨rfl, by have := HAT1.out; rw [List.append_assoc] at this; unfold onesOf; rw [if_pos hlm]; exact this, HO1.out⟩
      · have hlm' : ¬ (k : Int) < m := by omega
        go_wp2
        go_ret
        exact ⟨rfl, by unfold onesOf; rw [if_neg hlm, List.append_nil]; exact HAT.out, HO.out⟩

set_option maxHeartbeats 1000000 in
theorem oBytes_any (g B : Nat) (l : List Bool) (w : World) (h : WrO w B g l) (hl : l.length < 1000000000) :
    Calls Tryz.prog 101 #[.pointer (some ⟨g, 0, none⟩)] w fun e w' => ∃ bs, Packs bs l ∧ NewBy w bs e w' := by
  obtain ⟨v, bs, hblk, hBg, hown, hp⟩ := h
  obtain ⟨A, c, rfl, hnc, _, hA⟩ := own_form hown
  have hc0 := hblk.cell 0
  simp only [List.getElem?_cons_zero] at hc0
  have hr := Rd.of_own hown
  have hlen := hp.1
  have hcA : A = none → c = 0 := by
    rintro rfl
    rcases hown.2 with ⟨h0, _⟩ | ⟨_, _, _, h0, _⟩
    · injection h0
    · cases h0
  have hc := clone_any A bs.length c bs w hr rfl (by omega) hcA
  have HC := Lib.hid hc
  have HP := Lib.hid hp
  clear hblk hown hp hA hcA hc hr hlen hnc
  go_enter Tryz.func101, Tryz.ntmps101
  go_wp2_with (go_at_call 164; go_must (refine HC.out.mono ?_; rintro e w1 ⟨v1, rfl, hown1, hb1⟩))
  go_ret
  exact ⟨bs, HP.out, _, rfl, hown1, hb1⟩

end Go.Proofs.YtflcmmeoppdhdaaGreat
namespace Go.Proofs.YtflcmmeoppdhdaaGreat
open Go.RowKit Go.Sort

/-- What a word is worth by a parameter, as the walk says it. -/
theorem shr_val (v k : Nat) : (v : Int) / 2 ^ k = ((v / 2 ^ k : Nat) : Int) := by
  rw [Int.natCast_ediv]; simp
set_option maxHeartbeats 1000000 in
set_option maxRecDepth 100000 in
theorem riceLay_any {W A N K v g B : Nat} {l : List Bool} (hW : IsW W) (hc : CountsOk (8 * W) A N) (hK : IsK A N K) (hv : v < 2 ^ (8 * W)) (w : World) (hw : WrO w B g l) (hl : l.length ≤ 800000) :
    Calls Tryz.prog 283 #[cntV A N, .pointer (some ⟨g, 0, none⟩), .int .u64 (v : Int), .int .i64 (W : Int)] w fun e w' => e = .returned (cntV (behindA A N v) (behindN N)) ∧ WrO w' B g (l ++ riceW (8 * W) K v) ∧ OnlyO B g w w' := by
  obtain ⟨hgs, hBs⟩ := hw.lt
  have hv64 : v < 18446744073709551616 := Nat.lt_of_lt_of_le hv (Nat.pow_le_pow_right (n := 2) (by decide) (D_le hW).2)
  have hK33 := isK_few hc hK
  have C1 := Lib.hid (fun W' => ricePar_any hc hK W')
  have C4 := Lib.hid (fun W' => riceBeh_any (A := A) (N := N) (v := v) (by obtain ⟨g1, g2, g3, g4⟩ := hc; omega) hc.2.1 hv64 W')
  obtain ⟨A2, hA2⟩ : ∃ A2, A2 = behindA A N v := ⟨_, rfl⟩
  obtain ⟨N2, hN2⟩ : ∃ N2, N2 = behindN N := ⟨_, rfl⟩
  rw [← hA2, ← hN2] at C4 ⊢
  unfold cntV at C1 C4 ⊢
  have hb0 := ((Below.refl w.heap.size w).alloc (Nat.le_refl _) (.cells #[.int .u64 (A : Int), .int .u64 (N : Int)] 325)).alloc (by simp) (.cells #[.int .u64 0, .int .u64 0] 325)
  have hk0 : Blk ((w.alloc (.cells #[.int .u64 (A : Int), .int .u64 (N : Int)] 325)).alloc (.cells #[.int .u64 0, .int .u64 0] 325)) w.heap.size 325 [.int .u64 (A : Int), .int .u64 (N : Int)] := (show Blk _ w.heap.size 325 [.int .u64 (A : Int), .int .u64 (N : Int)] from heap_alloc_new w _).alloc_ _
  have hk1 : Blk ((w.alloc (.cells #[.int .u64 (A : Int), .int .u64 (N : Int)] 325)).alloc (.cells #[.int .u64 0, .int .u64 0] 325)) (w.heap.size + 1) 325 [.int .u64 0, .int .u64 0] := by
    have := heap_alloc_new (w.alloc (.cells #[.int .u64 (A : Int), .int .u64 (N : Int)] 325)) (.cells #[.int .u64 0, .int .u64 0] 325)
    rwa [World.size_alloc] at this
  have HW0 := Lib.hid (hw.kept hb0)
  have HB0 := Lib.hid (OnlyO.of_below (B := B) (g := g) hb0)
  have HK0 := Lib.hid hk0
  have HK1 := Lib.hid hk1
  have HL := Lib.hid hl
  have HWW := Lib.hid hW
  have hW8 : (W : Int) ≤ 8 := by have := hW.pos; omega
  have hW1 : (1 : Int) ≤ (W : Int) := by have := hW.pos; omega
  obtain ⟨q, hq⟩ : ∃ q, q = v / 2 ^ K := ⟨_, rfl⟩
  have hqi : (v : Int) / 2 ^ K = (q : Int) := by rw [hq]; exact shr_val v K
  have hri : riceW (8 * W) K v = if q < 24 then onesOf q 24 ++ bitsOf v K else onesOf 24 24 ++ bitsOf v (8 * W) := by rw [hq]; rfl
  obtain ⟨R, hR⟩ : ∃ R, R = riceW (8 * W) K v := ⟨_, rfl⟩
  rw [← hR] at hri ⊢
  have HRI := Lib.hid hri
  clear hri hR hq hA2 hN2 hb0 hk0 hk1 hw hc hK hv hl hW
  go_enter Tryz.func283, Tryz.ntmps283
  go_wp2_with fail
  obtain ⟨w0, hw0⟩ : ∃ w0, w0 = (w.alloc (.cells #[.int .u64 (A : Int), .int .u64 (N : Int)] 325)).alloc (.cells #[.int .u64 0, .int .u64 0] 325) := ⟨_, rfl⟩
  rw [← hw0] at HW0 HB0 HK0 HK1 ⊢
  clear hw0
  refine (C1.out _).mono ?_
  rintro _ w1 ⟨rfl, hb1⟩
  have HW1 := Lib.hid (HW0.out.kept hb1)
  have HB1 := Lib.hid (HB0.out.trans (OnlyO.of_below hb1))
  have HK10 := Lib.hid (HK0.out.grow hb1)
  have HK11 := Lib.hid (HK1.out.grow hb1)
  clear hb1 HW0 HB0 HK0 HK1 C1
  by_cases h24 : q < 24
  · have hqlt : (q : Int) < 24 := by omega
    have hri := HRI.out
    rw [if_pos h24] at hri
    have hqw : IntKind.i64.wrap (q : Int) = (q : Int) := by rw [IntKind.wrap_i64]; omega
    have hol := (onesOf_len q 24).1
    go_wp2_with fail
    refine (oOnes_any g B l q 24 w1 HW1.out (by have := HL.out; omega) (by omega) (by omega)).mono ?_
    rintro _ w2 ⟨rfl, hw2, ho2⟩
    have HW2 := Lib.hid hw2
    have HB2 := Lib.hid (HB1.out.trans ho2)
    have HK20 := Lib.hid (ho2.blkT HK10.out (by decide) (by omega))
    have HK21 := Lib.hid (ho2.blkT HK11.out (by decide) (by omega))
    clear hw2 ho2 HW1 HB1 HK10 HK11
    go_wp2_with fail
    refine (oPut_any g B _ v K w2 HW2.out (by rw [List.length_append]; have := HL.out; omega) hv64 (by omega)).mono ?_
    rintro _ w3 ⟨rfl, hw3, ho3⟩
    rw [List.append_assoc, ← hri] at hw3
    have HW3 := Lib.hid hw3
    have HB3 := Lib.hid (HB2.out.trans ho3)
    have HK30 := Lib.hid (ho3.blkT HK20.out (by decide) (by omega))
    have HK31 := Lib.hid (ho3.blkT HK21.out (by decide) (by omega))
    have hc0 := HK30.out.cell 0
    have hc1 := HK30.out.cell 1
    simp only [List.getElem?_cons_zero, List.getElem?_cons_succ] at hc0 hc1
    clear hw3 ho3 HW2 HB2 HK20 HK21 hri hol
    go_wp2_with fail
    refine (C4.out w3).mono ?_
    rintro _ w4 ⟨rfl, hb4⟩
    have HW4 := Lib.hid (HW3.out.kept hb4)
    have HB4 := Lib.hid (HB3.out.trans (OnlyO.of_below hb4))
    have HK41 := Lib.hid (HK31.out.grow hb4)
    have hc0 := HK41.out.cell 0
    have hc1 := HK41.out.cell 1
    have hf0 := HK41.out.frozen 0
    have hf1 := HK41.out.frozen 1
    simp only [List.getElem?_cons_zero, List.getElem?_cons_succ] at hc0 hc1
    clear hb4 HW3 HB3 HK30 HK31 C4
    go_wp2
    (try simp only [Exit.inBlock, Exit.then])
    exact bodyPost_ret (v := .agg #[.int .u64 (A2 : Int), .int .u64 (N2 : Int)]) (pcnt_end (p := w.heap.size + 1) Tryz.results283 rfl ((HK41.out.set_ 0 _).set_ 1 _)) rfl
      ⟨rfl, ((HW4.out.set_ HK41.out (by omega) (by decide) _).set_ (HK41.out.set_ 0 _) (by omega) (by decide) _), (HB4.out.set_new (p := ⟨w.heap.size + 1, 0, none⟩) (by simp) _).set_new (p := ⟨w.heap.size + 1, 1, none⟩) (by simp) _⟩
  · have hqlt : ¬ (q : Int) < 24 := by omega
    have hri := HRI.out
    rw [if_neg h24] at hri
    have H8W := Lib.hid (show (8 : Int) * (W : Int) = ((8 * W : Nat) : Int) by omega)
    have hol := (onesOf_len 24 24).1
    go_wp2_with fail
    refine (oOnes_any g B l 24 24 w1 HW1.out (by have := HL.out; omega) (by omega) (by omega)).mono ?_
    rintro _ w2 ⟨rfl, hw2, ho2⟩
    have HW2 := Lib.hid hw2
    have HB2 := Lib.hid (HB1.out.trans ho2)
    have HK20 := Lib.hid (ho2.blkT HK10.out (by decide) (by omega))
    have HK21 := Lib.hid (ho2.blkT HK11.out (by decide) (by omega))
    clear hw2 ho2 HW1 HB1 HK10 HK11
    go_wp2_with fail
    have hp := oPut_any g B _ v (8 * W) w2 HW2.out (by rw [List.length_append]; have := HL.out; omega) hv64 (by omega)
    rw [← H8W.out] at hp
    refine hp.mono ?_
    clear hp
    rintro _ w3 ⟨rfl, hw3, ho3⟩
    rw [List.append_assoc, ← hri] at hw3
    have HW3 := Lib.hid hw3
    have HB3 := Lib.hid (HB2.out.trans ho3)
    have HK30 := Lib.hid (ho3.blkT HK20.out (by decide) (by omega))
    have HK31 := Lib.hid (ho3.blkT HK21.out (by decide) (by omega))
    have hc0 := HK30.out.cell 0
    have hc1 := HK30.out.cell 1
    simp only [List.getElem?_cons_zero, List.getElem?_cons_succ] at hc0 hc1
    clear hw3 ho3 HW2 HB2 HK20 HK21 hri hol
    go_wp2_with fail
    refine (C4.out w3).mono ?_
    rintro _ w4 ⟨rfl, hb4⟩
    have HW4 := Lib.hid (HW3.out.kept hb4)
    have HB4 := Lib.hid (HB3.out.trans (OnlyO.of_below hb4))
    have HK41 := Lib.hid (HK31.out.grow hb4)
    have hc0 := HK41.out.cell 0
    have hc1 := HK41.out.cell 1
    have hf0 := HK41.out.frozen 0
    have hf1 := HK41.out.frozen 1
    simp only [List.getElem?_cons_zero, List.getElem?_cons_succ] at hc0 hc1
    clear hb4 HW3 HB3 HK30 HK31 C4
    go_wp2
    (try simp only [Exit.inBlock, Exit.then])
    exact bodyPost_ret (v := .agg #[.int .u64 (A2 : Int), .int .u64 (N2 : Int)]) (pcnt_end (p := w.heap.size + 1) Tryz.results283 rfl ((HK41.out.set_ 0 _).set_ 1 _)) rfl
      ⟨rfl, ((HW4.out.set_ HK41.out (by omega) (by decide) _).set_ (HK41.out.set_ 0 _) (by omega) (by decide) _), (HB4.out.set_new (p := ⟨w.heap.size + 1, 0, none⟩) (by simp) _).set_new (p := ⟨w.heap.size + 1, 1, none⟩) (by simp) _⟩
end Go.Proofs.YtflcmmeoppdhdaaGreat
