/-
  Contracts of layer 4: Lay of the code and of the reference. · Layer 19: the reference's Decode. · Contracts of bit.Reader, its state told by plain functions: Get, Ones, Done. · Layer 1: Get of a Reader whose row of bytes is known: a store into another row keeps it. Written by gen_rdra.py out of BitD's text. · A region that draws its order, in which some operations, in a row of their own ('calls'), turn the world one behind the other, and all others only read or make memory: G c is what holds once c of them are done. General: no code of the project.
-/
import Derived.Test.YtflcmmeoppdhdaaGreatR01
import Derived.Test.YtflcmmeoppdhdaaGreatR02
import Derived.Test.YtflcmmeoppdhdaaGreatR04
import Derived.Test.YtflcmmeoppdhdaaGreatR06
namespace Go.Proofs.YtflcmmeoppdhdaaGreat
open Go.RowKit

/-- What holds at the head of a round over the words: the words ahead are laid. -/
def LayRelW (w : World) (W : Nat) (ws : List Nat) (v i : Value) (wr : World) : Prop :=
  ∃ (k : Nat) (out : List UInt8), k ≤ ws.length ∧ i = .int .i64 k ∧ Hid (out = layW W (ws.take k)) ∧ out.length = k * W ∧ wr.ownsRow w.heap.size 5 1 v out.length (bvs out) ∧ Below w.heap.size w wr
/-- .. over a word's bytes. -/
def LayByte (w : World) (W x n0 : Nat) (out : List UInt8) (v t j : Value) (wr : World) : Prop :=
  ∃ (k : Nat) (o : List UInt8), k ≤ W ∧ j = .int .i64 k ∧ t = .int .u64 ((x / 256 ^ k : Nat) : Int) ∧ Hid (o = out ++ leB k x) ∧ o.length = n0 + k ∧ wr.ownsRow w.heap.size 5 1 v o.length (bvs o) ∧ Below w.heap.size w wr

set_option maxHeartbeats 1000000 in
set_option maxRecDepth 100000 in
theorem wordLay_any (W : Nat) (hW : IsW W) (A : Option Addr) (n c : Nat) (ws : List Nat) (A2 : Option Addr) (r c2 : Nat) (rest : List UInt8) (w : World) (hr : Rd w w.heap.size A (wvs ws)) (hn : ws.length = n) (hlt64 : ∀ x ∈ ws, x < 18446744073709551616) (hr2 : Rd w w.heap.size A2 (bvs rest)) (hrl : rest.length = r) (hb1 : n ≤ 100000) (hb2 : r ≤ 100000) :
    Calls Tryz.prog 286 #[.slice A n c, .int .i64 (W : Int), .slice A2 r c2] w (NewBs w (layW W ws ++ rest)) := by
  obtain ⟨j0, hj, hy0, hy1, hy2⟩ := info_parts info_u8w
  subst hn hrl
  have hW1 := hW.pos
  have c1 := wordRight_any (W : Int) true hW.right
  have C1 := Lib.hid c1
  have H64 := Lib.hid hlt64
  clear c1 hW hlt64
  go_enter Tryz.func286, Tryz.ntmps286
  have hprod : ws.length * W ≤ 800000 := by
    have : ws.length * W ≤ 100000 * 8 := Nat.mul_le_mul hb1 hW1.2
    omega
  obtain ⟨S, hS⟩ : ∃ S, S = ws.length * W := ⟨_, rfl⟩
  rw [← hS] at hprod
  have hSi : (ws.length : Int) * (W : Int) = (S : Int) := by rw [hS]; simp
  have HS := Lib.hid hS
  clear hS
  go_wp2_with (first
    | (go_at_call 18; go_must (refine (C1.out _).mono ?_; rintro e w' ⟨rfl, rfl⟩))
    | (at_make; go_must (refine wpList_mk rfl (.const (.int .i64 0)) (.tmp 19) 22 rfl w.heap.size 5 j0 (.int .u8 0) 1 Tryz.underlying22 hj hy0 rfl hy1 hy2 .i64 .i64 0 _ rfl rfl 0 (S + rest.length) rfl (by omega) (by omega) (by omega) (by simp only [maxLen]; omega) (Nat.le_refl _) ?_; intro w0 hg0 hown0 hgr0; have hb0 : Below w.heap.size w w0 := (Below.refl _ _).grown hgr0 (Nat.le_refl _) (by simp); clear hg0 hgr0)))
  clear hSi
  go_loopw [7, 23] (LayRelW w W ws) (fun _ i _ => ws.length - (intOf i).toNat)
  case atStart => exact ⟨0, [], Nat.zero_le _, rfl, rfl, by simp, by simpa [bvs] using hown0, hb0⟩
  case round =>
    obtain ⟨k, out, hk, rfl, HO, hol, hown, hb⟩ := hrel
    have hbs := hb.size
    have hkW : k * W ≤ 800000 := by
      have : k * W ≤ 100000 * 8 := Nat.mul_le_mul (by omega) hW1.2
      omega
    by_cases hlt : k < ws.length
    · obtain ⟨ab, ao, rfl, hab, hcell0⟩ := hr k _ (wvs_get ws k hlt)
      have hcell := (hb.cell (p := ⟨ab, ao + k, none⟩) hab).trans hcell0
      obtain ⟨x, hx⟩ : ∃ x, x = ws[k] := ⟨_, rfl⟩
      have hx64 : x < 18446744073709551616 := by rw [hx]; exact H64.out _ (List.getElem_mem _)
      rw [← hx] at hcell
      have hnext : Hid (layW W (ws.take (k + 1)) = out ++ leB W x) := by rw [layW_snoc W ws k hlt, HO.out, hx]; exact rfl
      have hd : decide ((k : Int) < (ws.length : Int)) = true := by rw [decide_eq_true_eq]; omega
      clear hx hcell0
      go_wp2
      go_loopw [7, 9, 28] (LayByte w W x (k * W) out) (fun _ _ i _ => W - (intOf i).toNat)
      case atStart => exact ⟨0, out, Nat.zero_le _, rfl, by simp, by simp [leB, Hid], by omega, hown, hb⟩
      case round =>
        clear hown hb hcell
        obtain ⟨j, o, hjW, rfl, rfl, Ho, hoL, hown, hb⟩ := hrel
        have hbs := hb.size
        by_cases hjl : j < W
        · obtain ⟨y, hy⟩ : ∃ y, y = x / 256 ^ j := ⟨_, rfl⟩
          have hy64 : y < 18446744073709551616 := by rw [hy]; exact Nat.lt_of_le_of_lt (Nat.div_le_self _ _) hx64
          have hyn : Hid (x / 256 ^ (j + 1) = y / 256) := by rw [hy, Nat.div_div_eq_div_mul, Nat.pow_succ]; exact rfl
          have hsn : Hid (out ++ leB (j + 1) x = o ++ [UInt8.ofNat (y % 256)]) := by rw [leB_snoc, Ho.out, ← hy, List.append_assoc]; exact rfl
          rw [← hy]
          clear hy Ho
          go_wp2_with ((with_reducible show wpList _ _ _ (({ dst := some 34, op := _, type := _, pos := _, after := _, guard := _ } : Oper) :: _) _ _); go_must (refine wpList_app rfl (.tmp 30) (.tmp 33) 22 rfl w.heap.size 5 j0 (.int .u8 0) 1 1 Tryz.underlying22 hj hy0 hy1 hy2 rfl (by decide) _ _ _ rfl (hown.alloc _) _ _ 1 1 _ rfl (Rd.new _ _ _) rfl (by intro u hu; simp at hu; subst hu; rfl) (by simp only [maxLen]; omega) (by omega) (by simp; omega) ?_; intro v1 w1 hown1 hg1; have hb1 : Below w.heap.size w w1 := (hb.alloc hbs _).grown hg1 (by simp; omega) (own_block hown); clear hg1 hown hb))
          have hown2 : w1.ownsRow w.heap.size 5 1 v1 (o ++ [UInt8.ofNat (y % 256)]).length (bvs (o ++ [UInt8.ofNat (y % 256)])) := by
            rw [bvs_push, List.length_append]; exact hown1
          clear hown1
          go_roundw
          case rel => exact ⟨j + 1, o ++ [UInt8.ofNat (y % 256)], by omega, by go_num, by rw [hyn.out]; go_num, hsn.out.symm, by rw [List.length_append]; simp only [List.length_cons, List.length_nil]; omega, hown2, hb1⟩
          case measure => simp [intOf]; omega
        · obtain rfl : j = W := by omega
          go_wp2
          go_roundw
          case rel => exact ⟨k + 1, o, by omega, by go_num, by rw [Ho.out, ← hnext.out]; exact rfl, by rw [hoL, Nat.add_mul, Nat.one_mul], hown, hb⟩
          case measure => simp [intOf]; omega
    · obtain rfl : k = ws.length := by omega
      rw [List.take_length] at HO
      have hnews : (bvs rest).length = rest.length * 1 := by rw [bvs_length, Nat.mul_one]
      have HNEWS := Lib.hid hnews
      clear hnews
      go_wp2_with ((with_reducible show wpList _ _ _ (({ dst := some 41, op := _, type := _, pos := _, after := _, guard := _ } : Oper) :: _) _ _); go_must (refine wpList_app rfl (.tmp 39) (.tmp 40) 22 rfl w.heap.size 5 j0 (.int .u8 0) 1 1 Tryz.underlying22 hj hy0 hy1 hy2 rfl (by decide) _ _ _ rfl hown w.heap.size A2 rest.length c2 (bvs rest) rfl (hr2.below hb) HNEWS.out (bvs_one _) (by simp only [maxLen]; omega) (by omega) hbs ?_; intro v1 w1 hown1 hg1; have hb1 : Below w.heap.size w w1 := hb.grown hg1 hbs (own_block hown); clear hg1 hown hb))
      go_ret
      refine ⟨v1, rfl, ?_, hb1⟩
      rw [← HO.out]
      apply IsBytes.of_own (base := w.heap.size) (e := 5)
      rw [List.length_append, bvs_append]
      exact hown1
end Go.Proofs.YtflcmmeoppdhdaaGreat
namespace Go.Proofs.YtflcmmeoppdhdaaGreat
open Go.RowKit Go.Sort

/-- So many bytes more, and what is left. -/
def restF : Nat → (List Bool × Nat) → List UInt8 × (List Bool × Nat)
  | 0, s => ([], s)
  | m + 1, s => (UInt8.ofNat (getV s 8) :: (restF m (getS s 8)).1, (restF m (getS s 8)).2)
theorem restF_len : ∀ (m : Nat) (s : List Bool × Nat), (restF m s).1.length = m
  | 0, _ => rfl
  | m + 1, s => by rw [restF, List.length_cons, restF_len m]
/-- What Decode tells: bytes, and an error. -/
def riceOut (W n : Nat) (o : Option (List Nat × (List Bool × Nat))) : List UInt8 × Nat := match o with
  | none => ([], 16)
  | some (X, s) => if doneE (restF (n % W) s).2 = 0 then (layW W X ++ (restF (n % W) s).1, 0) else ([], 16)
def aheadO (X : List Nat) (o : Option (List Nat × (List Bool × Nat))) : Option (List Nat × (List Bool × Nat)) := o.map fun p => (X ++ p.1, p.2)
theorem aheadO_cons (X : List Nat) (v : Nat) (o : Option (List Nat × (List Bool × Nat))) : aheadO X (o.map fun p => (v :: p.1, p.2)) = aheadO (X ++ [v]) o := by
  cases o with
  | none => rfl
  | some p => simp [aheadO]
theorem RiceR.next {D k A N K : Nat} {s : List Bool × Nat} {o : Option (List Nat × (List Bool × Nat))} (h : RiceR D (k + 1) A N s o) (hK : IsK A N K) :
    (riceV D K s = none → o = none) ∧ ∀ v s', riceV D K s = some (v, s') → ∃ o2, RiceR D k (behindA A N v) (behindN N) s' o2 ∧ o = o2.map fun p => (v :: p.1, p.2) := by
  cases h with
  | bad _ _ _ k2 _ hk hv =>
    obtain rfl := hK.one hk
    exact ⟨fun _ => rfl, fun v s' e => by rw [hv] at e; cases e⟩
  | word _ _ _ k2 v2 _ s2 o2 hk hv hr =>
    obtain rfl := hK.one hk
    refine ⟨fun e => by rw [hv] at e; (cases e), fun v s' e => ?_⟩
    rw [hv, Option.some.injEq, Prod.mk.injEq] at e
    obtain ⟨rfl, rfl⟩ := e
    exact ⟨o2, hr, rfl⟩
theorem lt_snoc' {M x : Nat} {X : List Nat} (h : ∀ y ∈ X, y < M) (hx : x < M) : ∀ y ∈ X ++ [x], y < M := by
  intro y hy
  rcases List.mem_append.1 hy with h1 | h1
  · exact h y h1
  · rw [List.mem_singleton.1 h1]; exact hx
/-- What Decode hands back. -/
def RDSays (w : World) (Q : List UInt8 × Nat) (e : Ending) (w' : World) : Prop := ∃ v, e = .returned (.tuple #[v, .int .i64 (Q.2 : Int)]) ∧ IsBytes Q.1 v w' ∧ Below w.heap.size w w'
theorem isBytes_nil (w : World) : IsBytes [] (.slice none 0 0) w := ⟨none, 0, rfl, Nat.le_refl _, Rd.nil_ _ _ _⟩
theorem OnlyT.lower {B g : Nat} {ts : List TypeId} {w w' : World} (h : OnlyT g ts w w') (hg : B ≤ g) (hB : B ≤ w.heap.size) : Below B w w' := (h.base hg).below hB
section
variable {D K q : Nat} {s s1 : List Bool × Nat}
theorem riceV_A (hq : q = onesV s 24) (h1 : s1 = onesS s 24) (h : q = 24) : riceV D K s = if (getS s1 D).2 = 0 then some (getV s1 D, getS s1 D) else none := by
  unfold riceV; rw [← hq, ← h1, if_pos h]
theorem riceV_C (hq : q = onesV s 24) (h1 : s1 = onesS s 24) (h : ¬ q = 24) (hc : 0 < q ∧ (2 ^ D - 1) / q < 2 ^ K) : riceV D K s = none := by
  unfold riceV; rw [← hq, ← h1, if_neg h, if_pos hc]
theorem riceV_D (hq : q = onesV s 24) (h1 : s1 = onesS s 24) (h : ¬ q = 24) (hc : ¬ (0 < q ∧ (2 ^ D - 1) / q < 2 ^ K)) (hd : 2 ^ D - 1 < q * 2 ^ K + getV s1 K) : riceV D K s = none := by
  unfold riceV; rw [← hq, ← h1, if_neg h, if_neg hc, if_pos hd]
theorem riceV_F (hq : q = onesV s 24) (h1 : s1 = onesS s 24) (h : ¬ q = 24) (hc : ¬ (0 < q ∧ (2 ^ D - 1) / q < 2 ^ K)) (hd : ¬ 2 ^ D - 1 < q * 2 ^ K + getV s1 K) : riceV D K s = if (getS s1 K).2 = 0 then some (q * 2 ^ K + getV s1 K, getS s1 K) else none := by
  unfold riceV; rw [← hq, ← h1, if_neg h, if_neg hc, if_neg hd]
end
end Go.Proofs.YtflcmmeoppdhdaaGreat
namespace Go.Proofs.YtflcmmeoppdhdaaGreat
open Go.RowKit

theorem rGet_st (g n : Nat) (s : List Bool × Nat) (w : World) (h : RdrIs w g s.1 s.2) (hn : n ≤ 64) :
    Calls Tryz.prog 165 #[.pointer (some ⟨g, 0, none⟩), .int .i64 (n : Int)] w fun e' w' => e' = .returned (.int .u64 (getV s n : Nat)) ∧ RdrIs w' g (getS s n).1 (getS s n).2 ∧ OnlyT g [222] w w' := by
  obtain ⟨L, e⟩ := s
  unfold getV getS
  simp only at h ⊢
  by_cases he : e = 0
  · subst he
    by_cases hl : n ≤ L.length
    · rw [if_pos ⟨rfl, hl⟩, if_pos rfl, if_pos hl]
      exact rGet_ok n h hn hl
    · rw [if_neg (fun q => hl q.2), if_pos rfl, if_neg hl]
      exact rGet_trunc n h hn (Nat.lt_of_not_le hl)
  · rw [if_neg (fun q => he q.1), if_neg he]
    refine (rGet_err (n : Int) e h he).mono ?_
    rintro e' w' ⟨rfl, rfl⟩
    exact ⟨rfl, h, OnlyT.refl _ _ _⟩
theorem rDone_st (g : Nat) (s : List Bool × Nat) (w : World) (h : RdrIs w g s.1 s.2) (hl : s.1.length ≤ 9000000000000000) :
    Calls Tryz.prog 105 #[.pointer (some ⟨g, 0, none⟩)] w fun e' w' => e' = .returned (.int .i64 (doneE s : Nat)) ∧ OnlyT g [222] w w' := by
  obtain ⟨L, e⟩ := s
  unfold doneE
  simp only at h hl ⊢
  by_cases he : e = 0
  · subst he
    rw [if_neg (by simp)]
    by_cases h8 : 8 ≤ L.length
    · rw [if_pos h8]
      refine (rDone_more h h8 hl).mono ?_
      rintro e' w' ⟨rfl, rfl⟩
      exact ⟨rfl, (OnlyT.refl _ _ _).drew⟩
    · rw [if_neg h8]
      by_cases ha : L.any id = true
      · rw [if_pos ha]
        obtain ⟨n, R, hL⟩ := any_split L ha
        have hlen := congrArg List.length hL
        simp at hlen
        refine (rDone_pay n R h (by omega) hL).mono ?_
        rintro e' w' ⟨rfl, rfl⟩
        exact ⟨rfl, (OnlyT.refl _ _ _).drew⟩
      · rw [if_neg ha]
        refine (rDone_ok L.length h (by omega) (any_none L ha)).mono ?_
        rintro e' w' ⟨rfl, rfl⟩
        exact ⟨rfl, (OnlyT.refl _ _ _).drew⟩
  · rw [if_pos he]
    refine (rDone_err e h he).mono ?_
    rintro e' w' ⟨rfl, rfl⟩
    exact ⟨rfl, OnlyT.refl _ _ _⟩
theorem rOnes_st (g m : Nat) (s : List Bool × Nat) (w : World) (h : RdrIs w g s.1 s.2) (hm : m ≤ 256) :
    Calls Tryz.prog 296 #[.pointer (some ⟨g, 0, none⟩), .int .i64 (m : Int)] w fun e' w' => e' = .returned (.int .i64 (onesV s m : Nat)) ∧ RdrIs w' g (onesS s m).1 (onesS s m).2 ∧ OnlyT g [222] w w' := by
  obtain ⟨L, e⟩ := s
  unfold onesV onesS
  simp only at h ⊢
  by_cases he : e = 0
  · subst he
    rw [if_pos rfl, if_pos rfl]
    rcases onesF_ways m L with ⟨R, h1, h2⟩ | ⟨n, R, h0, h1, h2⟩ | ⟨n, h0, h1, h2⟩
    · rw [h2]; exact rOnes_full m R h hm h1
    · rw [h2]; exact rOnes_stop m n R h hm h0 h1
    · rw [h2]; exact rOnes_trunc m n h hm h0 h1
  · rw [if_neg he, if_neg he]
    refine (rOnes_err (m : Int) e h he).mono ?_
    rintro e' w' ⟨rfl, rfl⟩
    exact ⟨rfl, h, OnlyT.refl _ _ _⟩
end Go.Proofs.YtflcmmeoppdhdaaGreat
namespace Go.Proofs.YtflcmmeoppdhdaaGreat
open Go.RowKit

/-- A Reader at g that reads just the row A of the bytes bs. -/
def RdrA (w : World) (g : Nat) (A : Option Addr) (c : Nat) (bs : List UInt8) (L : List Bool) (e : Nat) : Prop :=
  ∃ at_ : Nat, Blk w g 222 [.slice A bs.length c, .int .i64 at_, .int .i64 e] ∧ RdT w 5 A (bvs bs) ∧ at_ ≤ 8 * bs.length ∧ bs.length ≤ 140737488355000 ∧ bs.length ≤ c ∧ L = (allBits bs).drop at_
theorem RdrA.is {w : World} {g : Nat} {A : Option Addr} {c : Nat} {bs : List UInt8} {L : List Bool} {e : Nat} (h : RdrA w g A c bs L e) : RdrIs w g L e := by
  obtain ⟨at_, h⟩ := h
  exact ⟨bs, at_, A, c, h⟩
theorem RdrIs.at_ {w : World} {g : Nat} {L : List Bool} {e : Nat} (h : RdrIs w g L e) : ∃ A c bs, RdrA w g A c bs L e := by
  obtain ⟨bs, at_, A, c, h⟩ := h
  exact ⟨A, c, bs, at_, h⟩
theorem RdrA.only {B : Nat} {ts : List TypeId} {w w' : World} {g : Nat} {A : Option Addr} {c : Nat} {bs : List UInt8} {L : List Bool} {e : Nat} (h : RdrA w g A c bs L e) (ho : OnlyT B ts w w') (h1 : 222 ∉ ts) (h2 : 5 ∉ ts) : RdrA w' g A c bs L e := by
  obtain ⟨at_, hb, hr, rest⟩ := h
  exact ⟨at_, hb.only ho h1, hr.only ho h2, rest⟩
/-- The row's place, if there is a byte: below the blocks of now. -/
theorem RdrA.row {w : World} {g : Nat} {A : Option Addr} {c : Nat} {bs : List UInt8} {L : List Bool} {e : Nat} (h : RdrA w g A c bs L e) : bs = [] ∨ ∃ b off, A = some ⟨b, off, none⟩ ∧ b < w.heap.size := by
  obtain ⟨at_, hb, hr, rest⟩ := h
  cases bs with
  | nil => exact .inl rfl
  | cons x t =>
    obtain ⟨b, off, e1, e2, e3⟩ := hr 0 (.int .u8 (x.toNat : Int)) (by simp [bvs])
    exact .inr ⟨b, off, e1, e2.lt⟩
/-- A store into another row of bytes. -/
theorem RdrA.setOther {w : World} {g r i : Nat} {A : Option Addr} {c : Nat} {bs : List UInt8} {L : List Bool} {e : Nat} (h : RdrA w g A c bs L e) (hr : bs = [] ∨ ∃ b off, A = some ⟨b, off, none⟩ ∧ b ≠ r) (hg : g ≠ r) (u : Value) : RdrA (w.setCell ⟨r, i, none⟩ u) g A c bs L e := by
  obtain ⟨at_, hb, hrd, rest⟩ := h
  refine ⟨at_, hb.setOther ⟨r, i, none⟩ u (by simpa using hg), ?_, rest⟩
  rcases hr with rfl | ⟨b, off, rfl, hb2⟩
  · intro k u hu; simp [bvs] at hu
  · intro k v hv
    obtain ⟨b', off', e1, e2, e3⟩ := hrd k v hv
    injection e1 with e1
    injection e1 with e1 e4
    subst e1 e4
    have hh := Below.heap_setCell w ⟨r, i, none⟩ u b (by simpa using hb2)
    refine ⟨b, off, rfl, ?_, (World.cell?_of_block (w := w) (a := ⟨b, off + k, none⟩) hh).trans e3⟩
    obtain ⟨cs', fr, h2⟩ := e2
    exact ⟨cs', fr, hh.trans h2⟩
section
variable {w : World} {g c : Nat} {A : Option Addr} {bs : List UInt8} {L : List Bool}
set_option maxHeartbeats 1000000 in
theorem aGet_err (n : Int) (e : Nat) (h : RdrA w g A c bs L e) (he : e ≠ 0) : Calls Tryz.prog 165 #[.pointer (some ⟨g, 0, none⟩), .int .i64 n] w fun e' w' => e' = .returned (.int .u64 0) ∧ w = w' := by
  obtain ⟨at_, hb, hr, ha, hl, hlc, rfl⟩ := h
  have HB := Lib.hid hb
  have hne : (((e : Nat) : Int) != 0) = true := by rw [bne_iff_ne]; omega
  clear hb hr he
  go_enter Tryz.func165, Tryz.ntmps165
  go_wp2_with (go_at_call 168; go_must (refine (rErr_any _ _ _ HB.out).mono ?_; rintro e w' ⟨rfl, rfl⟩))
  go_ret
  exact ⟨rfl, rfl⟩
set_option maxHeartbeats 1000000 in
theorem aGet_trunc (n : Nat) (h : RdrA w g A c bs L 0) (hn : n ≤ 64) (hL1 : L.length < n) :
    Calls Tryz.prog 165 #[.pointer (some ⟨g, 0, none⟩), .int .i64 n] w fun e' w' => e' = .returned (.int .u64 0) ∧ RdrA w' g A c bs L 11 ∧ OnlyT g [222] w w' := by
  obtain ⟨at_, hb, hr, ha, hl, hlc, hL⟩ := h
  have hL2 : 8 * bs.length - at_ < n := by rw [hL, drop_len] at hL1; exact hL1
  have HB := Lib.hid hb
  have HR := Lib.hid hr
  have HL := Lib.hid hL
  have HL2 := Lib.hid hL2
  clear hb hr hL hL1 hL2
  go_enter Tryz.func165, Tryz.ntmps165
  go_wp2_with (first
    | (go_at_call 168; go_must (refine (rErr_any _ _ _ HB.out).mono ?_; rintro e w' ⟨rfl, rfl⟩))
    | (go_at_call 166; go_must (refine (rLeft_ok HB.out hl ha).mono ?_; rintro e w' ⟨rfl, rfl⟩))
    | (go_at_call 205; refine (within_ok _ _ _ _ _ (by omega) (by omega)).mono ?_; rintro e w' ⟨rfl, rfl⟩)
    | (go_at_call 205; go_must (refine (within_bad (w := w.drew) _ _ _ _ _ HB.out (by have := HL2.out; omega)).mono ?_; rintro e w' ⟨rfl, rfl⟩)))
  go_ret
  have ho : OnlyT g [222] w (w.setCell ⟨g, 2, none⟩ (.int .i64 11)) := OnlyT.set_ HB.out (Nat.le_refl _) _ (by simp)
  exact ⟨rfl, ⟨at_, HB.out.set_ 2 _, HR.out.only ho.drew (by decide), ha, hl, hlc, HL.out⟩, ho.drew⟩

set_option maxHeartbeats 1000000 in
set_option maxRecDepth 100000 in
theorem aGet_ok (n : Nat) (h : RdrA w g A c bs L 0) (hn : n ≤ 64) (hL1 : n ≤ L.length) :
    Calls Tryz.prog 165 #[.pointer (some ⟨g, 0, none⟩), .int .i64 n] w fun e' w' => e' = .returned (.int .u64 (valOf (L.take n))) ∧ RdrA w' g A c bs (L.drop n) 0 ∧ OnlyT g [222] w w' := by
  obtain ⟨at_, hb, hr, ha, hl, hlc, hL⟩ := h
  have hL2 : n ≤ 8 * bs.length - at_ := by rw [hL, drop_len] at hL1; exact hL1
  have hc1 := hb.cell 1
  simp only [List.getElem?_cons_zero, List.getElem?_cons_succ] at hc1
  have hf1 := hb.frozen 1
  have HB := Lib.hid hb
  have HR := Lib.hid hr
  have HL := Lib.hid hL
  have HL2 := Lib.hid hL2
  have hai : (at_ : Int) ≤ 1125899907000000 := by omega
  have hni : (n : Int) ≤ 64 := by omega
  clear hb hr hL hL2
  go_enter Tryz.func165, Tryz.ntmps165
  go_wp2_with (first
    | (go_at_call 168; go_must (refine (rErr_any _ _ _ HB.out).mono ?_; rintro e w' ⟨rfl, rfl⟩))
    | (go_at_call 166; go_must (refine (rLeft_ok HB.out hl ha).mono ?_; rintro e w' ⟨rfl, rfl⟩))
    | (go_at_call 205; refine (within_ok _ _ _ _ _ (by omega) (by have := HL2.out; omega)).mono ?_; rintro e w' ⟨rfl, rfl⟩))
  go_loop [5, 25] (GetRelR L n) (fun _ i => n - (intOf i).toNat)
  case atStart => exact ⟨0, Nat.zero_le _, rfl, by simp [valOf]⟩
  case round =>
    obtain ⟨k, hk, rfl, rfl⟩ := hrel
    by_cases hlt : k < n
    · have hb0 : L[k]? = some (bitAt bs (at_ + k)) := by
        rw [HL.out, List.getElem?_drop, allBits_get bs _ (by have := HL2.out; omega)]
      have hstep := get_bit L k _ hb0 (by omega)
      have HS := Lib.hid hstep
      clear hb0 hstep
      go_wp2_with (go_at_call 169; go_must (refine (rNext_any k _ (w := w.drew) HB.out HR.out hl (by have := HL2.out; omega)).mono ?_; rintro e w' ⟨rfl, rfl⟩))
      go_round
      case rel => exact ⟨k + 1, by omega, by go_num, by rw [HS.out]⟩
      case measure => simp [intOf]; omega
    · obtain rfl : k = n := by omega
      go_wp2
      go_ret
      have ho : OnlyT g [222] w (w.setCell ⟨g, 1, none⟩ (.int .i64 ((at_ : Int) + (k : Int)))) := OnlyT.set_ HB.out (Nat.le_refl _) _ (by simp)
      refine ⟨rfl, ⟨at_ + k, ?_, HR.out.only ho.drew (by decide), by have := HL2.out; omega, hl, hlc, by rw [HL.out, List.drop_drop]⟩, ho.drew⟩
      rw [show ((at_ + k : Nat) : Int) = (at_ : Int) + (k : Int) from rfl]
      exact HB.out.set_ 1 _

end
theorem aGet_st {A : Option Addr} {c : Nat} {bs : List UInt8} (g n : Nat) (s : List Bool × Nat) (w : World) (h : RdrA w g A c bs s.1 s.2) (hn : n ≤ 64) :
    Calls Tryz.prog 165 #[.pointer (some ⟨g, 0, none⟩), .int .i64 (n : Int)] w fun e' w' => e' = .returned (.int .u64 (getV s n : Nat)) ∧ RdrA w' g A c bs (getS s n).1 (getS s n).2 ∧ OnlyT g [222] w w' := by
  obtain ⟨L, e⟩ := s
  unfold getV getS
  simp only at h ⊢
  by_cases he : e = 0
  · subst he
    by_cases hl : n ≤ L.length
    · rw [if_pos ⟨rfl, hl⟩, if_pos rfl, if_pos hl]
      exact aGet_ok n h hn hl
    · rw [if_neg (fun q => hl q.2), if_pos rfl, if_neg hl]
      exact aGet_trunc n h hn (Nat.lt_of_not_le hl)
  · rw [if_neg (fun q => he q.1), if_neg he]
    refine (aGet_err (n : Int) e h he).mono ?_
    rintro e' w' ⟨rfl, rfl⟩
    exact ⟨rfl, h, OnlyT.refl _ _ _⟩
end Go.Proofs.YtflcmmeoppdhdaaGreat
namespace Go.Proofs.YtflcmmeoppdhdaaGreat
open Go.RowKit

/-- An operation as the prover sees it: its temporary, the operations that it leans on, its value, between how many calls it may stand; 'call': it is that call. -/
structure RowS where
  dst : Nat
  need : List Nat
  val : Value
  lo : Nat
  hi : Nat
  call : Option Nat
def rowS : List RowS → Nat → RowS
  | [], _ => ⟨0, [], undef, 0, 0, none⟩
  | r :: _, 0 => r
  | _ :: l, k + 1 => rowS l k
theorem rowS_get : ∀ (rows : List RowS) (k : Nat) (r : RowS), rows[k]? = some r → rowS rows k = r
  | [], _, _, h => by simp at h
  | _ :: _, 0, _, h => by simpa [rowS] using h
  | _ :: l, k + 1, r, h => rowS_get l k r (by simpa using h)
/-- How many calls are done at least, once it is done. -/
def RowS.lo2 (r : RowS) : Nat := match r.call with | some i => i + 1 | none => r.lo
def RowS.hi2 (r : RowS) : Nat := match r.call with | some i => i | none => r.hi
def NeedV (rows : List RowS) (ev : Operand → Value) (yi : Nat → Option Bool) : List Nat → Prop
  | [] => True
  | j :: l => ev (.tmp (rowS rows j).dst) = (rowS rows j).val ∧ yi j = boolOf (rowS rows j).val ∧ NeedV rows ev yi l
/-- Do the rows speak of these operations, and of r calls in order? -/
def rowsSOk (ops : Array Oper) (rows : List RowS) (r : Nat) : Bool :=
  rows.length == ops.size && (List.range ops.size).all fun k =>
    (rowS rows k).dst == dstOf ops k && ((rowS rows k).need.all fun j => ((ops[k]?).map fun o => (predsOf o).contains j).getD false) &&
    (match (rowS rows k).call with
      | some i => decide (i < r) && (decide (i = 0) || (((ops[k]?).map fun o => (predsOf o).any fun j => decide (i ≤ (rowS rows j).lo2)).getD false)) && ((List.range ops.size).all fun j => j == k || (rowS rows j).call != some i)
      | none => (decide ((rowS rows k).lo = 0) || (((ops[k]?).map fun o => (predsOf o).any fun j => decide ((rowS rows k).lo ≤ (rowS rows j).lo2)).getD false)) &&
          (decide ((rowS rows k).hi = r) || (List.range ops.size).any fun m => decide ((rowS rows m).hi2 ≤ (rowS rows k).hi) && (((ops[m]?).map fun o => (predsOf o).contains k).getD false)))
def lastCall (rows : List RowS) (r : Nat) : Bool := r == 0 || rows.any fun x => x.call == some (r - 1)

section
variable {P : Program} {ops : Array Oper} {a0 : Act} {rows : List RowS} {r : Nat} {G : Nat → World → Prop} {Q : Exit → Act → World → Prop}
def OblS (P : Program) (G : Nat → World → Prop) (rows : List RowS) (outs : List (Nat × Value)) (x : RowS) (o : Oper) : Prop :=
  ∀ (ev : Operand → Value) (yi : Nat → Option Bool) (w : World) (c : Nat), G c w → (match x.call with | some i => c = i | none => x.lo ≤ c ∧ c ≤ x.hi) → (∀ c, ev (.const c) = c) → (∀ f, ev (.func f) = .func (.func f) #[] #[]) → OutsSay ev outs → NeedV rows ev yi x.need →
    if Region.wanted o yi = true then OpSays P o ev w (fun v w' => v = x.val ∧ G (match x.call with | some i => i + 1 | none => c) w') else x.val = undef ∧ G (match x.call with | some i => i + 1 | none => c) w
def OblSAll (P : Program) (G : Nat → World → Prop) (rows : List RowS) (outs : List (Nat × Value)) : List RowS → List Oper → Prop
  | x :: rs, o :: os => OblS P G rows outs x o ∧ OblSAll P G rows outs rs os
  | _, _ => True
theorem OblSAll.cons {P : Program} {G : Nat → World → Prop} {rows : List RowS} {outs : List (Nat × Value)} {x : RowS} {rs : List RowS} {o : Oper} {os : List Oper} (h : OblS P G rows outs x o) (hs : OblSAll P G rows outs rs os) : OblSAll P G rows outs (x :: rs) (o :: os) := ⟨h, hs⟩
theorem OblSAll.nil {P : Program} {G : Nat → World → Prop} {rows : List RowS} {outs : List (Nat × Value)} : OblSAll P G rows outs [] [] := trivial
theorem OblSAll.at_ {rows : List RowS} {outs : List (Nat × Value)} : ∀ (rs : List RowS) (l : List Oper), OblSAll P G rows outs rs l → ∀ (k : Nat) (x : RowS) (o : Oper), rs[k]? = some x → l[k]? = some o → OblS P G rows outs x o
  | [], _, _, _, _, _, h, _ => by simp at h
  | _ :: _, [], _, _, _, _, _, h => by simp at h
  | x :: rs, o :: l, h, 0, _, _, hx, ho => by simp at hx ho; subst hx ho; exact h.1
  | x :: rs, o :: l, h, k + 1, _, _, hx, ho => OblSAll.at_ rs l h.2 k _ _ (by simpa using hx) (by simpa using ho)

/-- What holds between two operations. -/
structure MidS (ops : Array Oper) (a0 : Act) (rows : List RowS) (r : Nat) (G : Nat → World → Prop) (listed : Array Bool) (a : Act) (w : World) (c : Nat) : Prop where
  size : listed.size = ops.size
  defers : a.defers = a0.defers
  tmps : a.tmps.size = a0.tmps.size
  out : ∀ t, (List.range ops.size).all (fun k => dstOf ops k != t) = true → a.tmps[t]? = a0.tmps[t]?
  closed : ∀ k o, ops[k]? = some o → listed.getD k false = true → ∀ j ∈ predsOf o, listed.getD j false = true
  done : ∀ k, listed.getD k false = true → a.eval (.tmp (dstOf ops k)) = (rowS rows k).val
  lows : ∀ k, listed.getD k false = true → (rowS rows k).lo2 ≤ c
  highs : ∀ k, k < ops.size → listed.getD k false = false → c ≤ (rowS rows k).hi2
  most : c ≤ r
  glob : G c w

theorem rowS_ok (hrows : rowsSOk ops rows r = true) {k : Nat} {o : Oper} (ho : ops[k]? = some o) :
    (rowS rows k).dst = dstOf ops k ∧ (∀ j ∈ (rowS rows k).need, j ∈ predsOf o) ∧
    (∀ i, (rowS rows k).call = some i → i < r ∧ (i = 0 ∨ ∃ j ∈ predsOf o, i ≤ (rowS rows j).lo2) ∧ ∀ j, j < ops.size → j ≠ k → (rowS rows j).call ≠ some i) ∧
    ((rowS rows k).call = none → ((rowS rows k).lo = 0 ∨ ∃ j ∈ predsOf o, (rowS rows k).lo ≤ (rowS rows j).lo2) ∧ ((rowS rows k).hi = r ∨ ∃ m o', ops[m]? = some o' ∧ (rowS rows m).hi2 ≤ (rowS rows k).hi ∧ k ∈ predsOf o')) := by
  have hk : k < ops.size := (Array.getElem?_eq_some_iff.1 ho).1
  simp only [rowsSOk, Bool.and_eq_true] at hrows
  have h := List.all_eq_true.1 hrows.2 k (List.mem_range.2 hk)
  simp only [Bool.and_eq_true, beq_iff_eq, ho, Option.map_some, Option.getD_some] at h
  obtain ⟨⟨h1, h2⟩, h3⟩ := h
  refine ⟨h1, fun j hj => by simpa using List.all_eq_true.1 h2 j hj, fun i hi => ?_, fun hn => ?_⟩
  · rw [hi] at h3
    simp only [Bool.and_eq_true, decide_eq_true_eq, Bool.or_eq_true, List.any_eq_true] at h3
    obtain ⟨⟨h4, h5⟩, h6⟩ := h3
    refine ⟨h4, h5, fun j hj hne => ?_⟩
    have := List.all_eq_true.1 h6 j (List.mem_range.2 hj)
    simp only [Bool.or_eq_true, beq_iff_eq, bne_iff_ne] at this
    rcases this with h | h
    · exact absurd h hne
    · exact h
  · rw [hn] at h3
    simp only [Bool.and_eq_true, decide_eq_true_eq, Bool.or_eq_true, List.any_eq_true] at h3
    refine ⟨h3.1, h3.2.imp id ?_⟩
    rintro ⟨m, hm, h7, h8⟩
    have hm' := List.mem_range.1 hm
    have e : ops[m]? = some ops[m] := by simp [hm']
    refine ⟨m, ops[m], e, h7, ?_⟩
    rw [e] at h8
    simpa using h8

/-- One operation more. -/
theorem MidS.step (hok : dstsOk ops a0.tmps.size = true) (hac : acyc ops = true) (hrows : rowsSOk ops rows r = true)
    {listed : Array Bool} {a : Act} {w w' : World} {c : Nat} (hM : MidS ops a0 rows r G listed a w c) {i : Nat} {o : Oper} (ho : ops[i]? = some o) (hun : listed.getD i true = false) (hp : ∀ j ∈ predsOf o, listed.getD j false = true)
    {v : Value} (hv : v = (rowS rows i).val) {c' : Nat} (hc' : c' = match (rowS rows i).call with | some _ => c + 1 | none => c) (hci : ∀ q, (rowS rows i).call = some q → c = q) (hG : G c' w') :
    MidS ops a0 rows r G (listed.setIfInBounds i true) (a.put o.dst v) w' c' := by
  obtain ⟨hd, hdlt⟩ := dst_of_ok hok ho
  have hi : i < ops.size := (Array.getElem?_eq_some_iff.1 ho).1
  rw [hd]
  have hset : ∀ k, listed.getD k false = true → (listed.setIfInBounds i true).getD k false = true := by
    intro k hk
    by_cases e : k = i
    · subst e; simp [Array.getD_eq_getD_getElem?, hM.size, hi]
    · simpa [Array.getD_eq_getD_getElem?, Array.getElem?_setIfInBounds_ne (Ne.symm e)] using hk
  have hback : ∀ k, k ≠ i → (listed.setIfInBounds i true).getD k false = listed.getD k false := by
    intro k hk
    simp [Array.getD_eq_getD_getElem?, Array.getElem?_setIfInBounds_ne (Ne.symm hk)]
  have hself : (listed.setIfInBounds i true).getD i false = true := by simp [Array.getD_eq_getD_getElem?, hM.size, hi]
  have hmono : c ≤ c' := by
    cases hcl : (rowS rows i).call with
    | none => rw [hcl] at hc'; simp only at hc'; omega
    | some q => rw [hcl] at hc'; simp only at hc'; omega
  obtain ⟨r1, r2, r3, r4⟩ := rowS_ok hrows ho
  refine ⟨by simpa using hM.size, hM.defers, by simpa [Act.put] using hM.tmps, fun t ht => ?_, fun k o' ho' hk j hj => ?_, fun k hk => ?_, fun k hk => ?_, ?_, ?_, hG⟩
  · rw [← hM.out t ht]
    simp [Act.put, Array.getElem?_setIfInBounds_ne (not_dst ht hi)]
  · by_cases hki : k = i
    · subst hki
      rw [ho] at ho'
      injection ho' with ho'
      subst ho'
      exact hset j (hp j hj)
    · exact hset j (hM.closed k o' ho' (by rw [← hback k hki]; exact hk) j hj)
  · by_cases hki : k = i
    · subst hki
      rw [eval_put_same (by rw [hM.tmps]; exact hdlt)]
      exact hv
    · have hk' : listed.getD k false = true := by rw [← hback k hki]; exact hk
      have hklt : k < ops.size := by
        rcases Nat.lt_or_ge k ops.size with g | g
        · exact g
        · rw [← hM.size] at g; simp [Array.getD_eq_getD_getElem?, Array.getElem?_eq_none g] at hk'
      rw [eval_put_ne (dst_ne hok hi hklt (Ne.symm hki))]
      exact hM.done k hk'
  · by_cases hki : k = i
    · subst hki
      cases hcl : (rowS rows k).call with
      | some q =>
        have := hci q hcl
        rw [hcl] at hc'
        simp only at hc'
        simp only [RowS.lo2, hcl]
        omega
      | none =>
        simp only [RowS.lo2, hcl]
        rcases (r4 hcl).1 with h | ⟨j, hj, h⟩
        · omega
        · have := hM.lows j (hp j hj); omega
    · have := hM.lows k (by rw [← hback k hki]; exact hk); omega
  · cases hcl : (rowS rows i).call with
    | none =>
      rw [hcl] at hc'
      simp only at hc'
      subst hc'
      intro k hk hkf
      have hki : k ≠ i := by rintro rfl; rw [hself] at hkf; cases hkf
      exact hM.highs k hk (by rw [← hback k hki]; exact hkf)
    | some q =>
      rw [hcl] at hc'
      simp only at hc'
      have hcq := hci q hcl
      obtain ⟨hqr, -, huniq⟩ := r3 q hcl
      have key : ∀ d k, ops.size - k ≤ d → k < ops.size → (listed.setIfInBounds i true).getD k false = false → c' ≤ (rowS rows k).hi2 := by
        intro d
        induction d with
        | zero => intro k h1 h2; omega
        | succ d ih =>
          intro k h1 hk hkf
          have hki : k ≠ i := by rintro rfl; rw [hself] at hkf; cases hkf
          have hkf' : listed.getD k false = false := by rw [← hback k hki]; exact hkf
          have hhi := hM.highs k hk hkf'
          have hok' : ops[k]? = some ops[k] := by simp [hk]
          obtain ⟨-, -, -, s4⟩ := rowS_ok hrows hok'
          cases hck : (rowS rows k).call with
          | some p =>
            simp only [RowS.hi2, hck] at hhi ⊢
            have : p ≠ q := fun e => huniq k hk hki (by rw [hck, e])
            omega
          | none =>
            simp only [RowS.hi2, hck]
            rcases (s4 hck).2 with h | ⟨m, o', hm, h5, h6⟩
            · omega
            · have hml : m < ops.size := (Array.getElem?_eq_some_iff.1 hm).1
              have hkm : k < m := by
                obtain ⟨e, he, hek⟩ := List.mem_map.1 h6
                obtain ⟨he1, he2⟩ := List.mem_filter.1 he
                have h := List.all_eq_true.1 hac m (List.mem_range.2 hml)
                have h3 := List.all_eq_true.1 h e (by simpa [hm] using he1)
                simp only [he2, Bool.not_true, Bool.false_or, decide_eq_true_eq] at h3
                omega
              have hmf : (listed.setIfInBounds i true).getD m false = false := by
                cases hl : (listed.setIfInBounds i true).getD m false with
                | false => rfl
                | true =>
                  exfalso
                  by_cases hmi : m = i
                  · subst hmi
                    rw [ho] at hm
                    injection hm with hm
                    subst hm
                    have := hp k h6
                    rw [hkf'] at this; cases this
                  · have := hM.closed m o' hm (by rw [← hback m hmi]; exact hl) k h6
                    rw [hkf'] at this; cases this
              have := ih m (by omega) hml hmf
              omega
      exact fun k hk hkf => key (ops.size - k) k (Nat.le_refl _) hk hkf
  · cases hcl : (rowS rows i).call with
    | none => rw [hcl] at hc'; simp only at hc'; rw [hc']; exact hM.most
    | some q => rw [hcl] at hc'; simp only at hc'; have := hci q hcl; have := (r3 q hcl).1; omega
theorem needV_say {listed : Array Bool} {a : Act} {w : World} {c : Nat} (hM : MidS ops a0 rows r G listed a w c) (hok : dstsOk ops a0.tmps.size = true) (hrows : rowsSOk ops rows r = true) :
    ∀ l : List Nat, (∀ j ∈ l, listed.getD j false = true) → NeedV rows a.eval (yielded ops a.tmps) l
  | [], _ => trivial
  | j :: l, h => by
    have hj := h j (by simp)
    have hjl : j < ops.size := by
      rcases Nat.lt_or_ge j ops.size with g | g
      · exact g
      · rw [← hM.size] at g; simp [Array.getD_eq_getD_getElem?, Array.getElem?_eq_none g] at hj
    have hoj : ops[j]? = some ops[j] := by simp [hjl]
    obtain ⟨h1, h2⟩ := dst_of_ok hok hoj
    have hdn := hM.done j hj
    have hsz : dstOf ops j < a.tmps.size := by rw [hM.tmps]; exact h2
    refine ⟨by rw [(rowS_ok hrows hoj).1]; exact hdn, ?_, needV_say hM hok hrows l fun i hi => h i (by simp [hi])⟩
    rw [← hdn]
    simp only [yielded, hoj, Option.bind_some, h1, Act.eval]
    simp only [Array.getD_eq_getD_getElem?, Array.getElem?_eq_getElem hsz, Option.getD_some]
    generalize a.tmps[dstOf ops j] = u
    cases u <;> rfl
theorem outsS_say {listed : Array Bool} {a : Act} {w : World} {c : Nat} (hM : MidS ops a0 rows r G listed a w c) : ∀ outs : List (Nat × Value), outsOk ops outs = true → OutsSay a0.eval outs → OutsSay a.eval outs
  | [], _, _ => trivial
  | p :: l, hok, h => by
    simp only [outsOk, List.all_cons, Bool.and_eq_true] at hok
    refine ⟨?_, outsS_say hM l hok.2 h.2⟩
    have := hM.out p.1 hok.1
    rw [← h.1]
    simp [Act.eval, Array.getD_eq_getD_getElem?, this]
theorem wpAny_seq {outs : List (Nat × Value)} (hok : dstsOk ops a0.tmps.size = true) (hac : acyc ops = true) (hrows : rowsSOk ops rows r = true) (hlast : lastCall rows r = true) (hout : outsOk ops outs = true) (houts : OutsSay a0.eval outs) (hobl : OblSAll P G rows outs rows ops.toList)
    (hend : ∀ w : World, G r w → Q .normal ⟨layAll ops (fun k => (rowS rows k).val) 0 ops.toList a0.tmps, a0.defers⟩ w) :
    ∀ (fuel : Nat) (listed : Array Bool) (a : Act) (w : World) (c : Nat), unlisted listed ≤ fuel → MidS ops a0 rows r G listed a w c → wpAny P .any ops Q fuel listed a w := by
  have hlen : rows.length = ops.size := by
    simp only [rowsSOk, Bool.and_eq_true, beq_iff_eq] at hrows
    exact hrows.1
  have last : ∀ (listed : Array Bool) (a : Act) (w : World) (c : Nat), MidS ops a0 rows r G listed a w c → Region.ready .any ops listed = [] → Q .normal a w := by
    intro listed a w c hM hr
    have hall := all_listed hac hM.size hr
    have hc : c = r := by
      refine Nat.le_antisymm hM.most ?_
      simp only [lastCall, Bool.or_eq_true, beq_iff_eq, List.any_eq_true] at hlast
      rcases hlast with h | ⟨x, hx, hxc⟩
      · omega
      · obtain ⟨k, hk, hkx⟩ := List.mem_iff_getElem.1 hx
        have hrk : rowS rows k = x := rowS_get rows k x (by rw [List.getElem?_eq_getElem hk, hkx])
        have := hM.lows k (hall k (by omega))
        rw [hrk] at this
        simp only [RowS.lo2, hxc] at this
        omega
    subst hc
    have h := hend w hM.glob
    have e : a = ⟨layAll ops (fun k => (rowS rows k).val) 0 ops.toList a0.tmps, a0.defers⟩ := by
      obtain ⟨t, ds⟩ := a
      have hd : ds = a0.defers := hM.defers
      subst hd
      congr 1
      apply Array.ext_getElem?
      intro d
      by_cases hin : (List.range ops.size).all (fun k => dstOf ops k != d) = true
      · rw [layAll_get _ _ d _ 0 _ (fun k o ho => by
          have ho' : ops[k]? = some o := by simpa using ho
          rw [(dst_of_ok hok ho').1]
          intro e'
          injection e' with e'
          exact not_dst hin (Array.getElem?_eq_some_iff.1 ho').1 e')]
        exact hM.out d hin
      · obtain ⟨k, hk, hkd⟩ : ∃ k, k < ops.size ∧ dstOf ops k = d := by
          apply Classical.byContradiction
          intro hno
          refine hin (List.all_eq_true.2 fun k hk => ?_)
          rw [bne_iff_ne]
          exact fun e' => hno ⟨k, List.mem_range.1 hk, e'⟩
        have ho : ops[k]? = some ops[k] := by simp [hk]
        have hdk := dst_of_ok hok ho
        rw [hkd] at hdk
        rw [layAll_here _ _ d _ 0 _ k ops[k] (by simp [hk]) hdk.1 hdk.2 (fun j o' ho' hj => by
          have ho2 : ops[j]? = some o' := by simpa using ho'
          rw [(dst_of_ok hok ho2).1]
          intro e'
          injection e' with e'
          exact dst_ne hok (Array.getElem?_eq_some_iff.1 ho2).1 hk hj (e'.trans hkd.symm))]
        have hsz : d < t.size := by have := hM.tmps; simp only at this; rw [this]; exact hdk.2
        have hdn := hM.done k (hall k hk)
        rw [hkd] at hdn
        simp only [Act.eval, Array.getD_eq_getD_getElem?, Array.getElem?_eq_getElem hsz, Option.getD_some] at hdn
        rw [Array.getElem?_eq_getElem hsz, hdn, Nat.zero_add]
    rw [← e] at h
    exact h
  intro fuel
  induction fuel with
  | zero =>
    intro listed a w c hc hM
    have hr : Region.ready .any ops listed = [] := by
      apply List.eq_nil_iff_forall_not_mem.2
      intro i hi
      obtain ⟨hun, o, ho, _⟩ := mem_ready.1 hi
      have hi' : i < ops.size := (Array.getElem?_eq_some_iff.1 ho).1
      have : false ∈ (listed.toList.filter fun b => !b) := by
        rw [List.mem_filter]
        refine ⟨?_, rfl⟩
        have h2 : listed[i]? = some false := by
          simp [Array.getD_eq_getD_getElem?, hM.size, hi'] at hun
          simp [hM.size, hi', hun]
        exact Array.mem_toList_iff.2 (Array.mem_of_getElem? h2)
      have h3 : (listed.toList.filter fun b => !b) = [] := List.eq_nil_of_length_eq_zero (Nat.le_zero.1 hc)
      rw [h3] at this
      cases this
    exact ⟨hr, last listed a w c hM hr⟩
  | succ fuel ih =>
    intro listed a w c hc hM
    refine ⟨last listed a w c hM, fun i hi => ?_⟩
    obtain ⟨hun, o, ho, hall⟩ := mem_ready.1 hi
    have hi' : i < ops.size := (Array.getElem?_eq_some_iff.1 ho).1
    have hfalse : listed[i]? = some false := by
      simp [Array.getD_eq_getD_getElem?, hM.size, hi'] at hun
      simp [hM.size, hi', hun]
    have hf0 : listed.getD i false = false := by simp [Array.getD_eq_getD_getElem?, hfalse]
    have hc' : unlisted (listed.setIfInBounds i true) ≤ fuel := by
      have := unlisted_set listed.toList i (by simpa using hfalse)
      unfold unlisted at hc ⊢
      rw [Array.toList_setIfInBounds]
      omega
    have hri : rows[i]? = some (rowS rows i) := by
      have : rows[i]? = some rows[i] := List.getElem?_eq_getElem (by omega)
      rw [this, rowS_get rows i _ this]
    have hpr : ∀ j ∈ predsOf o, listed.getD j false = true := by
      intro j hj
      obtain ⟨e, he, rfl⟩ := List.mem_map.1 hj
      obtain ⟨he1, he2⟩ := List.mem_filter.1 he
      exact hall e (Array.mem_toList_iff.1 he1) he2
    obtain ⟨s1, s2, s3, s4⟩ := rowS_ok hrows ho
    have hhi := hM.highs i hi' hf0
    have hcall : ∀ q, (rowS rows i).call = some q → c = q := by
      intro q hq
      simp only [RowS.hi2, hq] at hhi
      obtain ⟨-, h5, -⟩ := s3 q hq
      rcases h5 with h5 | ⟨j, hj, h5⟩
      · omega
      · have := hM.lows j (hpr j hj); omega
    have hrange : match (rowS rows i).call with | some q => c = q | none => (rowS rows i).lo ≤ c ∧ c ≤ (rowS rows i).hi := by
      cases hcl : (rowS rows i).call with
      | some q => exact hcall q hcl
      | none =>
        simp only [RowS.hi2, hcl] at hhi
        refine ⟨?_, hhi⟩
        rcases (s4 hcl).1 with h5 | ⟨j, hj, h5⟩
        · omega
        · have := hM.lows j (hpr j hj); omega
    have hob := hobl.at_ rows ops.toList i _ o hri (by simpa using ho) a.eval (yielded ops a.tmps) w c hM.glob hrange (fun _ => rfl) (fun _ => rfl) (outsS_say hM outs hout houts) (needV_say hM hok hrows _ fun j hj => hpr j (s2 j hj))
    have hnext : (match (rowS rows i).call with | some q => q + 1 | none => c) = (match (rowS rows i).call with | some _ => c + 1 | none => c) := by
      cases hcl : (rowS rows i).call with
      | some q => have := hcall q hcl; simp only; omega
      | none => rfl
    rw [hnext] at hob
    unfold wpOp
    simp only [ho]
    by_cases hw : Region.wanted o (yielded ops a.tmps) = true
    · rw [if_pos hw] at hob ⊢
      exact .inl (hob.wp fun v w' hp => ih _ _ _ _ hc' (hM.step hok hac hrows ho hun hpr hp.1 rfl hcall hp.2))
    · rw [if_neg hw] at hob ⊢
      exact ih _ _ _ _ hc' (hM.step hok hac hrows ho hun hpr hob.1.symm rfl hcall hob.2)
end
section
variable {P : Program} {o : Oper} {ev : Operand → Value} {w : World} {post : Value → World → Prop}
end
end Go.Proofs.YtflcmmeoppdhdaaGreat
