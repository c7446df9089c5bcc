/-
  Layer 32: what FrameBack leans on. Pure. · Layer 32: the law FramePuts. · Layer 32: the law FrameBack.
-/
import Derived.Test.YtjignfnkcbklkaaQ05
import Derived.Test.YtjignfnkcbklkaaQ08
import Derived.Test.YtjignfnkcbklkaaQ10
import Derived.Test.YtjignfnkcbklkaaQ16
import Derived.Test.YtjignfnkcbklkaaQ17
import Derived.Test.YtjignfnkcbklkaaQ18
import Derived.Lib.QuietBelow
import Derived.BigQuiet
namespace Go.Proofs.Ytjignfnkcbklkaa
open Go.RowKit

/-- What Put tells: nothing, and an error; or the bytes. -/
theorem putR_cases (b u r m : Int) (nb np : Nat) (xs : List BP) (su : Int) : (∃ e, putR b u r m nb np xs su = ([], e) ∧ e ≠ 0) ∨
    (mayO b u r m = true ∧ np = nb ∧ xs.all (okP b) = true ∧ putR b u r m nb np xs su = (headS b.toNat u.toNat r.toNat m.toNat ++ bytesP xs ++ endL (rawP xs) su.toNat, 0)) := by
  unfold putR
  by_cases h1 : mayO b u r m = false
  · rw [if_pos h1]
    exact .inl ⟨_, rfl, by decide⟩
  · rw [if_neg h1]
    by_cases h2 : np ≠ nb
    · rw [if_pos h2]
      exact .inl ⟨_, rfl, by decide⟩
    · rw [if_neg h2]
      by_cases h3 : xs.all (okP b) = true
      · rw [if_pos h3]
        exact .inr ⟨by simpa using h1, by simpa using h2, h3, rfl⟩
      · rw [if_neg h3]
        exact .inl ⟨_, rfl, by decide⟩
def toN (q : BP) : Five × List UInt8 := ((q.1.mo.toNat, q.1.ra.toNat, q.1.mi.toNat, q.1.co.toNat, q.1.su.toNat), q.2)
theorem bytesN_of (xs : List BP) : bytesN (xs.map toN) = bytesP xs := by
  unfold bytesN bytesP
  rw [List.flatMap_map]
  rfl
theorem rawN_of : ∀ xs : List BP, rawN (xs.map toN) = rawP xs
  | [] => rfl
  | q :: r => by
    have := rawN_of r
    unfold rawN at this ⊢
    simp only [List.map_cons, List.sum_cons, rawP]
    rw [this]
    rfl
theorem okN_of {b : Nat} {q : BP} (hi : q.1.inI) (h : okP (b : Int) q = true) (hb : b ≤ 16777216) : okN b (toN q) ∧ ∃ mo ra mi co su : Nat, q.1 = ⟨mo, ra, mi, co, su, q.1.fr, q.1.pl⟩ ∧ (toN q).1 = (mo, ra, mi, co, su) ∧ ra ≤ 16777216 := by
  obtain ⟨mo, ra, mi, co, su, he, -, -, h4, -, -, h6, h7, -, h9, -⟩ := okP_nat hi h hb
  have h1 : (toN q).1 = (mo, ra, mi, co, su) := by
    unfold toN
    rw [he]
    simp only [Int.toNat_natCast]
  refine ⟨?_, mo, ra, mi, co, su, he, h1, h4⟩
  unfold okN
  rw [h1]
  exact ⟨h9, h7, h6⟩
theorem rawN_le : ∀ {b : Nat} (ys : List (Five × List UInt8)), (∀ q ∈ ys, q.1.2.1 ≤ b) → rawN ys ≤ b * ys.length
  | b, [], _ => Nat.zero_le _
  | b, q :: r, h => by
    have h1 := rawN_le r (fun x hx => h x (by simp [hx]))
    have h2 := h q (by simp)
    unfold rawN at h1 ⊢
    rw [List.map_cons, List.sum_cons, List.length_cons, Nat.mul_succ]
    omega
theorem placedB_len : ∀ (p t : Nat) (ys : List (Five × List UInt8)), (placedB p t ys).length = ys.length
  | _, _, [] => rfl
  | p, t, q :: r => by
    rw [show placedB p t (q :: r) = (q.1, p + (headB q.1).length, t) :: placedB (p + (headB q.1).length + q.2.length) (t + q.1.2.1) r from rfl, List.length_cons, List.length_cons, placedB_len]
/-- The i-th block, where it stands. -/
theorem placed_at : ∀ (ys : List (Five × List UInt8)) (P T : List UInt8) (p t i : Nat) (q : Five × List UInt8), P.length = p → ys[i]? = some q →
    ∃ fr, (placedB p t ys)[i]? = some (q.1, fr, t + rawN (ys.take i)) ∧ fr + q.2.length ≤ (P ++ (bytesN ys ++ T)).length ∧ ((P ++ (bytesN ys ++ T)).drop fr).take q.2.length = q.2
  | [], _, _, _, _, _, _, _, h => by simp at h
  | y :: r, P, T, p, t, 0, q, hp, h => by
    obtain rfl : y = q := by simpa using h
    have hl : P ++ (bytesN (y :: r) ++ T) = (P ++ headB y.1) ++ (y.2 ++ (bytesN r ++ T)) := by
      rw [show bytesN (y :: r) = (headB y.1 ++ y.2) ++ bytesN r from rfl]
      simp
    have hpl : (P ++ headB y.1).length = p + (headB y.1).length := by rw [List.length_append, hp]
    refine ⟨p + (headB y.1).length, by rw [show placedB p t (y :: r) = (y.1, p + (headB y.1).length, t) :: placedB (p + (headB y.1).length + y.2.length) (t + y.1.2.1) r from rfl, List.take_zero]; rfl, ?_, ?_⟩
    · rw [hl, List.length_append, hpl, List.length_append]
      omega
    · rw [hl, ← hpl, List.drop_left, List.take_left]
  | y :: r, P, T, p, t, i + 1, q, hp, h => by
    have hl : P ++ (bytesN (y :: r) ++ T) = (P ++ (headB y.1 ++ y.2)) ++ (bytesN r ++ T) := by
      rw [show bytesN (y :: r) = (headB y.1 ++ y.2) ++ bytesN r from rfl]
      simp
    obtain ⟨fr, h1, h2, h3⟩ := placed_at r (P ++ (headB y.1 ++ y.2)) T (p + (headB y.1).length + y.2.length) (t + y.1.2.1) i q (by rw [List.length_append, List.length_append, hp]; omega) (by simpa using h)
    refine ⟨fr, ?_, by rw [hl]; exact h2, by rw [hl]; exact h3⟩
    rw [show placedB p t (y :: r) = (y.1, p + (headB y.1).length, t) :: placedB (p + (headB y.1).length + y.2.length) (t + y.1.2.1) r from rfl, List.getElem?_cons_succ, h1, List.take_succ_cons]
    unfold rawN
    rw [List.map_cons, List.sum_cons, Nat.add_assoc]
theorem rawN_take {ys : List (Five × List UInt8)} {i : Nat} {q : Five × List UInt8} (h : ys[i]? = some q) : rawN (ys.take (i + 1)) = rawN (ys.take i) + q.1.2.1 := by
  rw [List.take_add_one, h]
  unfold rawN
  simp
theorem rawN_mono : ∀ (ys : List (Five × List UInt8)) (i : Nat), rawN (ys.take i) ≤ rawN ys
  | [], _ => by simp [rawN]
  | y :: r, 0 => by simp [rawN]
  | y :: r, i + 1 => by
    have := rawN_mono r i
    unfold rawN at this ⊢
    simp only [List.take_succ_cons, List.map_cons, List.sum_cons]
    omega
theorem piece17 {b : Nat} {q : BP} (hi : q.1.inI) (ho : okP (b : Int) q = true) (hb : b ≤ 16777216) : (pieceB q).length ≤ 17 := by
  obtain ⟨mo, ra, mi, co, su, he, -, -, h4, h5, h6, -, h7, h8, h9, h10⟩ := okP_nat hi ho hb
  rw [h8]
  obtain ⟨k5, k1, km, kz, kn⟩ := mayBk_nat h9
  refine blkL_len h4 ?_ ?_
  · by_cases h0 : mo = 0
    · have := kz h0; omega
    · exact (kn h0).1
  · by_cases h0 : mo = 0
    · have := kz h0; omega
    · have := kn h0; omega
theorem bytesP_few : ∀ (bs : List B7) (rs : List BRow), (∀ q ∈ bs.zip (rs.map BRow.l), (pieceB q).length ≤ 17) → (∀ x ∈ rs, x.l.length = x.n ∧ x.n ≤ 1000) → (bytesP (bs.zip (rs.map BRow.l))).length ≤ 17 * rs.length + sumF rs
  | [], rs, _, _ => by simp [bytesP]
  | _ :: _, [], _, _ => by simp [bytesP]
  | x :: bs, r :: rs, h, hr => by
    have ih := bytesP_few bs rs (fun q hq => h q (by simp only [List.map_cons, List.zip_cons_cons, List.mem_cons]; exact .inr hq)) (fun y hy => hr y (by simp [hy]))
    have h1 := h (x, r.l) (by simp)
    have h2 := hr r (by simp)
    rw [show bytesP ((x :: bs).zip ((r :: rs).map BRow.l)) = (pieceB (x, r.l) ++ r.l) ++ bytesP (bs.zip (rs.map BRow.l)) from rfl, List.length_append, List.length_append, List.length_cons]
    simp only [sumF]
    omega
/-- What was put: all that the law asks of it. -/
structure PutOk (b u r m su n1 : Nat) (bs : List B7) (rs : List BRow) (P : List UInt8) (ps : List Blk7) (tt : Nat) : Prop where
  yes : parseB P = ([(b : Int), (u : Int), (r : Int), (m : Int)], ps, tt, su, 0)
  more : ∀ x, parseB (P ++ [x]) = noStream 19
  cut : ∀ i, i < P.length → parseB (P.take i) = noStream 11
  plen : ps.length = n1
  len : P.length ≤ 9000
  tot : tt ≤ 838860800
  each : ∀ i, i < n1 → ∃ (mo ra mi co s fr at_ : Nat) (f7 p7 : Int) (x : BRow), bs[i]? = some ⟨mo, ra, mi, co, s, f7, p7⟩ ∧ rs[i]? = some x ∧ ps[i]? = some ((mo, ra, mi, co, s), fr, at_) ∧ fr + co ≤ P.length ∧ (P.drop fr).take co = x.l ∧ x.n = co ∧ co ≤ 1000
theorem putOk_of {b u r m su : Nat} {n1 nb : Nat} {bs : List B7} {rs : List BRow} {w : World} {B : Nat} (hbl : bs.length = nb) (hrl : rs.length = n1) (hn : n1 = nb) (hb : b ≤ 16777216) (hu : u ≤ 8) (hr : r ≤ 10) (hm : m ≤ 6)
    (hmay : mayO (b : Int) (u : Int) (r : Int) (m : Int) = true) (hs : su < 4294967296) (hin : ∀ x ∈ bs, x.inI) (hok : ∀ x ∈ rs, x.ok w B) (hfew : ∀ x ∈ rs, x.n ≤ 1000) (hsum : sumF rs ≤ 900) (h50 : nb ≤ 50) (hall : (bs.zip (rs.map BRow.l)).all (okP (b : Int)) = true) :
    ∃ ps tt, PutOk b u r m su n1 bs rs (headS b u r m ++ bytesP (bs.zip (rs.map BRow.l)) ++ endL (rawP (bs.zip (rs.map BRow.l))) su) ps tt ∧ (∀ (i : Nat) (q : Blk7), ps[i]? = some q → q.2.2 = rawN (((bs.zip (rs.map BRow.l)).map toN).take i)) ∧ tt = rawN ((bs.zip (rs.map BRow.l)).map toN) ∧
      ∀ (i mo ra mi co s fr at_ : Nat), ps[i]? = some ((mo, ra, mi, co, s), fr, at_) → rawN (((bs.zip (rs.map BRow.l)).map toN).take (i + 1)) = rawN (((bs.zip (rs.map BRow.l)).map toN).take i) + ra := by
  obtain ⟨xs, hxs⟩ : ∃ xs, xs = bs.zip (rs.map BRow.l) := ⟨_, rfl⟩
  rw [← hxs] at hall ⊢
  have hxl : xs.length = n1 := by rw [hxs, List.length_zip, List.length_map]; omega
  have hxi : ∀ (i : Nat) (q : BP), xs[i]? = some q → ∃ x : BRow, bs[i]? = some q.1 ∧ rs[i]? = some x ∧ x.l = q.2 := by
    intro i q hq
    rw [hxs] at hq
    obtain ⟨h1, h2⟩ := List.getElem?_zip_eq_some.1 hq
    rw [List.getElem?_map] at h2
    cases hx : rs[i]? with
    | none => rw [hx] at h2; simp at h2
    | some x =>
      rw [hx] at h2
      exact ⟨x, h1, rfl, by simpa using h2⟩
  have hin' : ∀ q ∈ xs, q.1.inI ∧ okP (b : Int) q = true ∧ q.2.length ≤ 1000 := by
    intro q hq
    obtain ⟨i, hi, hg⟩ := List.mem_iff_getElem.1 hq
    obtain ⟨x, h1, h2, h3⟩ := hxi i q (by rw [List.getElem?_eq_getElem hi, hg])
    have hx := List.mem_of_getElem? h2
    exact ⟨hin _ (List.mem_of_getElem? h1), List.all_eq_true.1 hall q hq, by rw [← h3, (hok x hx).1]; exact hfew x hx⟩
  obtain ⟨ys, hys⟩ : ∃ ys, ys = xs.map toN := ⟨_, rfl⟩
  have hokN : ∀ q ∈ ys, okN b q := by
    intro q hq
    rw [hys] at hq
    obtain ⟨z, hz, rfl⟩ := List.mem_map.1 hq
    exact (okN_of (hin' z hz).1 (hin' z hz).2.1 hb).1
  have hraw : ∀ q ∈ ys, q.1.2.1 ≤ 16777216 := by
    intro q hq
    rw [hys] at hq
    obtain ⟨z, hz, rfl⟩ := List.mem_map.1 hq
    obtain ⟨-, mo, ra, mi, co, s, -, h2, h3⟩ := okN_of (hin' z hz).1 (hin' z hz).2.1 hb
    rw [h2]
    exact h3
  have hyl : ys.length = n1 := by rw [hys, List.length_map, hxl]
  have htt : rawN ys ≤ 838860800 := by
    have := rawN_le ys hraw
    rw [hyl] at this
    omega
  have hP : headS b u r m ++ bytesP xs ++ endL (rawP xs) su = strL b u r m ys su := by
    unfold strL
    rw [hys, bytesN_of, rawN_of, List.append_assoc]
  have hP2 : strL b u r m ys su = headS b u r m ++ (bytesN ys ++ endL (rawN ys) su) := rfl
  have hone := parse_put hb hu hr hm hmay hokN (by omega) hs (more := [])
  rw [List.append_nil, if_pos rfl] at hone
  have hpl : ∀ (i : Nat) (q : Blk7), (placedB (headS b u r m).length 0 ys)[i]? = some q → i < n1 := fun i q h => by
    have := (List.getElem?_eq_some_iff.1 h).1
    rw [placedB_len, hyl] at this
    exact this
  have hat : ∀ (i : Nat) (q : Five × List UInt8), ys[i]? = some q → ∃ fr, (placedB (headS b u r m).length 0 ys)[i]? = some (q.1, fr, rawN (ys.take i)) ∧ fr + q.2.length ≤ (strL b u r m ys su).length ∧ ((strL b u r m ys su).drop fr).take q.2.length = q.2 := fun i q h => by
    obtain ⟨fr, h1, h2, h3⟩ := placed_at ys (headS b u r m) (endL (rawN ys) su) (headS b u r m).length 0 i q rfl h
    rw [Nat.zero_add] at h1
    exact ⟨fr, h1, h2, h3⟩
  refine ⟨placedB (headS b u r m).length 0 ys, rawN ys, ?_, ?_, by rw [hys], ?_⟩
  · rw [hP]
    refine ⟨hone, fun x => ?_, fun i hi => parse_cut hb hu hr hm hmay hokN (by omega) hi, by rw [placedB_len, hyl], ?_, htt, fun i hi => ?_⟩
    · have := parse_put hb hu hr hm hmay hokN (by omega) hs (more := [x])
      rw [if_neg (by simp)] at this
      exact this
    · have h1 := bytesP_few bs rs (by rw [← hxs]; exact fun q hq => piece17 (hin' q hq).1 (hin' q hq).2.1 hb) (fun x hx => ⟨(hok x hx).1, hfew x hx⟩)
      rw [← hxs, hrl] at h1
      have h2 := headS_len b u r m
      have h3 := lput_le b (by omega)
      have h4 := endL_len (n := rawN ys) (su := su) (by omega)
      rw [hP2, List.length_append, List.length_append, hys, bytesN_of, ← hys]
      omega
    · obtain ⟨z, hz⟩ : ∃ z, xs[i]? = some z := ⟨_, List.getElem?_eq_getElem (by omega)⟩
      obtain ⟨x, h1, h2, h3⟩ := hxi i z hz
      have hzm := List.mem_of_getElem? hz
      obtain ⟨ho, mo, ra, mi, co, s, he, h5, -⟩ := okN_of (hin' z hzm).1 (hin' z hzm).2.1 hb
      obtain ⟨fr, g1, g2, g3⟩ := hat i (toN z) (by rw [hys, List.getElem?_map, hz]; rfl)
      have hco : (toN z).2.length = co := by rw [ho.2.1, h5]
      rw [h5] at g1
      rw [hco] at g2 g3
      refine ⟨mo, ra, mi, co, s, fr, _, z.1.fr, z.1.pl, x, by rw [h1, ← he], h2, g1, g2, by rw [g3, h3]; rfl, ?_, ?_⟩
      · rw [← (hok x (List.mem_of_getElem? h2)).1, h3]
        exact hco
      · rw [← hco]
        exact (hin' z hzm).2.2
  · intro i q hq
    obtain ⟨y, hy⟩ : ∃ y, ys[i]? = some y := ⟨_, List.getElem?_eq_getElem (by rw [hyl]; exact hpl i q hq)⟩
    obtain ⟨fr, h1, -, -⟩ := hat i y hy
    rw [hq] at h1
    obtain rfl := Option.some.inj h1
    rw [hys]
  · intro i mo ra mi co s fr at_ hq
    obtain ⟨y, hy⟩ : ∃ y, ys[i]? = some y := ⟨_, List.getElem?_eq_getElem (by rw [hyl]; exact hpl i _ hq)⟩
    obtain ⟨fr2, h1, -, -⟩ := hat i y hy
    rw [hq] at h1
    have h6 := congrArg (fun z : Blk7 => z.1.2.1) (Option.some.inj h1)
    rw [← hys, rawN_take hy]
    simp only at h6
    omega
end Go.Proofs.Ytjignfnkcbklkaa
namespace Go.Proofs.Ytjignfnkcbklkaa
open Go.RowKit Go.Sort

theorem sumF_mem : ∀ (rs : List BRow) (x : BRow), x ∈ rs → min x.n 1000 ≤ sumF rs
  | y :: r, x, h => by
    rcases List.mem_cons.1 h with e | e
    · subst e
      simp only [sumF]
      omega
    · have := sumF_mem r x e
      simp only [sumF]
      omega
theorem few_small {rs : List BRow} (hl : rs.length ≤ 50) (h : sumF (rs.take 60) ≤ 900) : ∀ x ∈ rs, x.n ≤ 900 := fun x hx => by
  rw [List.take_of_length_le (by omega)] at h
  have := sumF_mem rs x hx
  omega
theorem payR_yes {l : List UInt8} {bs : List B7} {j fr co : Nat} {x : B7} (h : bs[j]? = some x) (hf : x.fr = fr) (hc : x.co = co) (hl : fr + co ≤ l.length) : payR l bs (j : Int) = (l.drop fr).take co := by
  unfold payR
  rw [if_pos (by omega), Int.toNat_natCast, h]
  simp only
  rw [if_pos (show payOk l.length x from ⟨by omega, by omega, by omega⟩), hf, hc, Int.toNat_natCast, Int.toNat_natCast]
end Go.Proofs.Ytjignfnkcbklkaa
namespace Go.Proofs.Ytjignfnkcbklkaa
open Go.RowKit Go.Sort

theorem set_two32 {w : World} {g : Nat} {t : TypeId} {v0 v1 v2 v3 v4 v5 v6 : Value} (h : Blk w g t [v0, v1, v2, v3, v4, v5, v6]) (x y : Value) : Blk ((w.setCell ⟨g, 5, none⟩ x).setCell ⟨g, 6, none⟩ y) g t [v0, v1, v2, v3, v4, x, y] := (h.set_ 5 x).set_ 6 y
/-- What stays while the blocks are held against one another. -/
structure BkP (b u r m tt su tn : Int) (A2 : Option Addr) (n1 c2 : Nat) (bs : List B7) (A1 : Option Addr) (rs : List BRow) (A3 : Option Addr) (P : List UInt8) (A4 : Option Addr) (c4 : Nat) (xs : List B7) (G0 G1 : Nat) (W wr : World) : Prop where
  st : StrI wr G0 b u r m (.slice A2 n1 c2) tt su
  x : StrI wr G1 b u r m (.slice A4 n1 c4) tn su
  bd : Rd wr wr.heap.size A2 (blksI bs)
  rd : RdRows wr wr.heap.size A1 rs
  p : Rd wr wr.heap.size A3 (bvs P)
  xd : Rd wr wr.heap.size A4 (blksI xs)
  below : Below W.heap.size W wr
theorem BkP.grow {b u r m tt su tn : Int} {A2 : Option Addr} {n1 c2 : Nat} {bs : List B7} {A1 : Option Addr} {rs : List BRow} {A3 : Option Addr} {P : List UInt8} {A4 : Option Addr} {c4 : Nat} {xs : List B7} {G0 G1 : Nat} {W wr w' : World}
    (h : BkP b u r m tt su tn A2 n1 c2 bs A1 rs A3 P A4 c4 xs G0 G1 W wr) (hb : Below wr.heap.size wr w') : BkP b u r m tt su tn A2 n1 c2 bs A1 rs A3 P A4 c4 xs G0 G1 W w' :=
  ⟨h.st.grow hb, h.x.grow hb, (h.bd.below hb).more hb.size, (h.rd.below hb).more hb.size, (h.p.below hb).more hb.size, (h.xd.below hb).more hb.size, h.below.trans (hb.mono h.below.size)⟩
set_option maxRecDepth 100000 in
set_option maxHeartbeats 8000000 in
theorem frameBack_law (b u r m : Int) (A2 : Option Addr) (nb c2 : Nat) (bs : List B7) (tt su : Int) (A1 : Option Addr) (n1 c1 : Nat) (rs : List BRow) (mr : Int) (W : World)
    (hbl : bs.length = nb) (_ : nb ≤ 9223372036854775807) (hin : ∀ x ∈ bs, x.inI) (hbd : Rd W W.heap.size A2 (blksI bs)) (hsu : 0 ≤ su ∧ su ≤ 4294967295)
    (hrl : rs.length = n1) (hrd : RdRows W W.heap.size A1 rs) (hrn : n1 ≤ 9223372036854775807) (hmr : 0 ≤ mr ∧ mr ≤ 255) :
    Calls Try.prog 4 #[.agg #[.int .i64 b, .int .i64 u, .int .i64 r, .int .i64 m, .slice A2 nb c2, .int .i64 tt, .int .u32 su], .slice A1 n1 c1, .int .u8 mr] W fun e w' => e = .returned (.bool true) ∧ Below W.heap.size W w' := by
  have CK := Lib.hid known32_any
  have CF := Lib.hid (fun w (h : RdRows w w.heap.size A1 rs) => refFew_any (b := b) (u := u) (r := r) (m := m) (tt := tt) (su := su) (A2 := A2) (nb := nb) (c2 := c2) (c1 := c1) w h (by omega))
  rw [hrl] at CF
  obtain ⟨w0, hw0⟩ : ∃ w0, w0 = W.alloc (.cells #[.int .i64 b, .int .i64 u, .int .i64 r, .int .i64 m, .slice A2 nb c2, .int .i64 tt, .int .u32 su] 27) := ⟨_, rfl⟩
  have hb0 : Below W.heap.size W w0 := by rw [hw0]; exact (Below.refl _ _).alloc (Nat.le_refl _) _
  have hs0 : StrI w0 W.heap.size b u r m (.slice A2 nb c2) tt su := by rw [hw0]; exact blk_new W _ _ rfl
  have HW0 := Lib.hid hw0
  have HB0 := Lib.hid hb0
  have HS0 := Lib.hid hs0
  have HBD := Lib.hid ((hbd.below hb0).more hb0.size)
  have HRD := Lib.hid ((hrd.below hb0).more hb0.size)
  have HI := Lib.hid (And.intro hbl (And.intro hrl (And.intro hin hsu)))
  clear hw0 hb0 hs0 hbd hrd hbl hrl hin hsu
  obtain ⟨Fw, hF⟩ : ∃ Fw, Fw = (decide (nb ≤ 50) && decide (n1 ≤ 50) && decide (sumF (rs.take 60) ≤ 900)) := ⟨_, rfl⟩
  rw [← hF] at CF
  have HF := Lib.hid hF
  clear hF
  obtain ⟨q0, q1, q2, q3, q4, q5, q6⟩ := HS0.out.cells
  cases Fw with
  | false =>
    go_enter Try.func4, Try.ntmps4
    go_wp2_with fail
    rw [← HW0.out]
    refine (CF.out w0 HRD.out).mono ?_
    rintro _ w1 ⟨rfl, hb1⟩
    have HB1 := Lib.hid (HB0.out.trans (hb1.mono HB0.out.size))
    clear q0 q1 q2 q3 q4 q5 q6 hb1
    go_wp2_with fail
    refine (CK.out _).mono ?_
    rintro _ wz ⟨rfl, hbz⟩
    have HBZ := Lib.hid (HB1.out.trans (hbz.mono HB1.out.size))
    clear hbz CK
    go_wp2
    go_ret
    exact ⟨rfl, HBZ.out⟩
  | true =>
    have hF := HF.out
    rw [eq_comm, Bool.and_eq_true, Bool.and_eq_true, decide_eq_true_eq, decide_eq_true_eq, decide_eq_true_eq] at hF
    obtain ⟨⟨hnb, hn1⟩, hsum⟩ := hF
    have hfew := few_small (by rw [HI.out.2.1]; omega) hsum
    have HFew := Lib.hid hfew
    have HSum := Lib.hid (show sumF rs ≤ 900 by rw [List.take_of_length_le (by rw [HI.out.2.1]; omega)] at hsum; exact hsum)
    have C1 := Lib.hid (fun w (h1 : Rd w w.heap.size A2 (blksI bs)) (h2 : RdRows w w.heap.size A1 rs) => frmPut_any (b := b) (u := u) (r := r) (m := m) (tt := tt) (su := su) (c2 := c2) (c1 := c1) w h1 h2 (by rw [HI.out.1]; omega) (fun x hx => by have := hfew x hx; omega) HI.out.2.2.1 HI.out.2.2.2)
    rw [HI.out.1, HI.out.2.1] at C1
    clear hfew hsum
    rcases putR_cases b u r m nb n1 (bs.zip (rs.map BRow.l)) su with ⟨E, hq, hE⟩ | ⟨hmay, hnn, hall, hq⟩
    · rw [hq] at C1
      have hEi : ¬ ((E : Int) = 0) := by omega
      clear hq hE
      go_enter Try.func4, Try.ntmps4
      go_wp2_with fail
      rw [← HW0.out]
      refine (CF.out w0 HRD.out).mono ?_
      rintro _ w1 ⟨rfl, hb1⟩
      have HB1 := Lib.hid (HB0.out.trans (hb1.mono HB0.out.size))
      have HS1 := Lib.hid (HS0.out.grow hb1)
      have HBD1 := Lib.hid ((HBD.out.below hb1).more hb1.size)
      have HRD1 := Lib.hid ((HRD.out.below hb1).more hb1.size)
      clear q0 q1 q2 q3 q4 q5 q6 hb1 HS0 HBD HRD HB0 HW0 CF HF
      obtain ⟨q0, q1, q2, q3, q4, q5, q6⟩ := HS1.out.cells
      go_wp2_with fail
      refine (C1.out w1 HBD1.out HRD1.out).mono ?_
      rintro _ w2 ⟨v2, rfl, ⟨A3, c3, rfl, -, -⟩, hb2⟩
      have HB2 := Lib.hid (HB1.out.trans (hb2.mono HB1.out.size))
      clear q0 q1 q2 q3 q4 q5 q6 hb2 HS1 HBD1 HRD1 HB1 C1
      simp only [List.length_nil]
      go_wp2_with fail
      refine (CK.out _).mono ?_
      rintro _ wz ⟨rfl, hbz⟩
      have HBZ := Lib.hid (HB2.out.trans (hbz.mono HB2.out.size))
      clear hbz CK
      go_wp2
      go_ret
      exact ⟨rfl, HBZ.out⟩
    · have hsu := HI.out.2.2.2
      obtain ⟨b, u, r, m, rfl, rfl, rfl, rfl, hb1, hb2, hu, hr10, hm6⟩ := mayO_nat hmay
      obtain ⟨su, rfl⟩ := Int.eq_ofNat_of_zero_le hsu.1
      have hu8 : u ≤ 8 := by rcases hu with h | h | h | h <;> omega
      have hsu4 : su < 4294967296 := by have h := hsu.2; omega
      obtain ⟨xs, tn, hP, hat, htn, hstep⟩ := putOk_of HI.out.1 HI.out.2.1 hnn hb2 hu8 hr10 hm6 hmay hsu4 HI.out.2.2.1 HRD.out.2 (fun x hx => by have := HFew.out x hx; omega) HSum.out hnb hall
      simp only [Int.toNat_natCast] at hq
      obtain ⟨P, hPe⟩ : ∃ P, P = headS b u r m ++ bytesP (bs.zip (rs.map BRow.l)) ++ endL (rawP (bs.zip (rs.map BRow.l))) su := ⟨_, rfl⟩
      rw [← hPe] at hq hP
      rw [hq] at C1
      obtain ⟨S, hS⟩ : ∃ S : Nat → Nat, ∀ i, S i = rawN (((bs.zip (rs.map BRow.l)).map toN).take i) := ⟨_, fun _ => rfl⟩
      simp only [← hS] at hat hstep
      have hS0 : S 0 = 0 := by rw [hS]; rfl
      have hSn : S n1 = tn := by rw [hS, htn, List.take_of_length_le]; rw [List.length_map, List.length_zip, List.length_map, HI.out.1, HI.out.2.1]; omega
      have hSle : ∀ i, S i ≤ 838860800 := fun i => by
        have h1 := rawN_mono ((bs.zip (rs.map BRow.l)).map toN) i
        have h2 := hP.tot
        rw [hS]
        omega
      clear hS htn hq hPe hb1 hu hmay hall hr10 hm6 hu8 hsu
      subst hnn
      obtain ⟨K, hK⟩ : ∃ K, K = P.length := ⟨_, rfl⟩
      have hK1 : K ≤ 100000 := by have := hP.len; omega
      obtain ⟨i0, hi, hz0, hz1, hz2⟩ := info_parts info_u8'
      have C2 := Lib.hid (fun A3 c3 w (hc : K ≤ c3) (hr : Rd w w.heap.size A3 (bvs P)) => frmParse_told (n := K) hK.symm (by have := hP.len; omega) hP.yes hP.plen hc w hr)
      have C3 := Lib.hid (fun A3 c3 w (hc : K + 1 ≤ c3) (hr : Rd w w.heap.size A3 (bvs (P ++ [UInt8.ofNat mr.toNat]))) => frmParse_told (n := K + 1) (N := 0) (by rw [List.length_append, hK]; rfl) (by have := hP.len; omega) (hP.more (UInt8.ofNat mr.toNat)) rfl hc w hr)
      have C4 := Lib.hid (fun i (h : i < K) A3 c3 w (hc : i ≤ c3) (hr : Rd w w.heap.size A3 (bvs (P.take i))) => frmParse_told (n := i) (N := 0) (by rw [List.length_take]; omega) (by have := hP.len; omega) (hP.cut i (by omega)) rfl hc w hr)
      have HE := Lib.hid hP.each
      have HAT := Lib.hid (And.intro hat hstep)
      have HSS := Lib.hid (And.intro hS0 (And.intro hSn hSle))
      have HXL := Lib.hid hP.plen
      have HK := Lib.hid hK
      have hKi : (K : Int) ≤ 100000 := by omega
      clear hP hat hstep hS0 hSn hSle hK
      go_enter Try.func4, Try.ntmps4
      go_wp2_with fail
      rw [← HW0.out]
      refine (CF.out w0 HRD.out).mono ?_
      rintro _ w1 ⟨rfl, hb1⟩
      have HB1 := Lib.hid (HB0.out.trans (hb1.mono HB0.out.size))
      have HS1 := Lib.hid (HS0.out.grow hb1)
      have HBD1 := Lib.hid ((HBD.out.below hb1).more hb1.size)
      have HRD1 := Lib.hid ((HRD.out.below hb1).more hb1.size)
      clear q0 q1 q2 q3 q4 q5 q6 hb1 HS0 HBD HRD HB0 HW0 CF HF
      obtain ⟨q0, q1, q2, q3, q4, q5, q6⟩ := HS1.out.cells
      go_wp2_with fail
      refine (C1.out w1 HBD1.out HRD1.out).mono ?_
      rintro _ w2 ⟨v2, rfl, ⟨A3, c3, rfl, hc3, hr3⟩, hb2⟩
      simp only at hc3 hr3 ⊢
      rw [← HK.out] at hc3 ⊢
      have HB2 := Lib.hid (HB1.out.trans (hb2.mono HB1.out.size))
      have HS2 := Lib.hid (HS1.out.grow hb2)
      have HBD2 := Lib.hid ((HBD1.out.below hb2).more hb2.size)
      have HRD2 := Lib.hid ((HRD1.out.below hb2).more hb2.size)
      have HR3 := Lib.hid hr3
      clear q0 q1 q2 q3 q4 q5 q6 hb2 HS1 HBD1 HRD1 HB1 C1 hr3
      go_wp2_with fail
      refine (C2.out A3 c3 w2 hc3 HR3.out).mono ?_
      rintro _ w3 ⟨A4, c4, rfl, hx3, hb3⟩
      obtain ⟨w4, hw4⟩ : ∃ w4, w4 = w3.alloc (.cells #[.int .i64 (b : Int), .int .i64 (u : Int), .int .i64 (r : Int), .int .i64 (m : Int), .slice A4 n1 c4, .int .i64 (tn : Int), .int .u32 (su : Int)] 27) := ⟨_, rfl⟩
      obtain ⟨G1, hG1⟩ : ∃ G1, G1 = w3.heap.size := ⟨_, rfl⟩
      obtain ⟨G0, hG0⟩ : ∃ G0, G0 = W.heap.size := ⟨_, rfl⟩
      have b4 : Below w3.heap.size w3 w4 := by rw [hw4]; exact (Below.refl _ _).alloc (Nat.le_refl _) _
      have hs4 : StrI w4 G1 (b : Int) (u : Int) (r : Int) (m : Int) (.slice A4 n1 c4) (tn : Int) (su : Int) := by rw [hw4]; exact blk_new _ _ _ hG1
      have b24 := hb3.trans (b4.mono hb3.size)
      have HB4 := Lib.hid (HB2.out.trans (b24.mono HB2.out.size))
      have hbk : BkP (b : Int) (u : Int) (r : Int) (m : Int) tt (su : Int) (tn : Int) A2 n1 c2 bs A1 rs A3 P A4 c4 (xs.map B7.of) G0 G1 W w4 :=
        ⟨by rw [hG0]; exact HS2.out.grow b24, hs4, (HBD2.out.below b24).more b24.size, (HRD2.out.below b24).more b24.size, (HR3.out.below b24).more b24.size, (hx3.below b4).more b4.size, HB4.out⟩
      have HBK := Lib.hid hbk
      have HW4 := Lib.hid hw4
      have HG := Lib.hid (And.intro hG0 hG1)
      have hlt1 : G1 < w4.heap.size := hs4.lt
      have hlt0 : G0 < w4.heap.size := hbk.st.lt
      have HLP := Lib.hid (show (bvs P).length = K * 1 by rw [bvs_length, HK.out, Nat.mul_one])
      have HMR := Lib.hid (show [Value.int .u8 mr] = bvs [UInt8.ofNat mr.toNat] by
        rw [show bvs [UInt8.ofNat mr.toNat] = [.int .u8 (((UInt8.ofNat mr.toNat).toNat : Nat) : Int)] from rfl, UInt8.toNat_ofNat']
        congr 2
        omega)
      clear hw4 hG1 hG0 b4 b24 hb3 hx3 hs4 hbk HS2 HBD2 HRD2 HB2 C2 HR3
      go_wp2_with (first
        | ((with_reducible show wpList _ _ _ (({ dst := some 44, op := _, type := _, pos := _, after := _, guard := _ } : Oper) :: _) _ _); rw [← HW4.out, ← HG.out.1, ← HG.out.2])
        | ((with_reducible show wpList _ _ _ (({ dst := some 46, op := _, type := _, pos := _, after := _, guard := _ } : Oper) :: _) _ _); go_must (refine wpList_app rfl (.tmp 44) (.tmp 45) 29 rfl w4.heap.size 5 i0 (.int .u8 0) 1 1 Try.underlying29 hi hz0 hz1 hz2 rfl (by decide) _ 0 [] rfl (World.ownsRow_made w4 #[] 0 (Nat.le_refl _) (Nat.zero_le _) rfl) w4.heap.size _ K _ (bvs P) rfl (HBK.out.p.alloc (Nat.le_refl _) _) HLP.out (bvs_one _) (by simp only [maxLen]; omega) (by omega) (by simp) ?_; intro v5 w5 hown5 hg5; rw [Nat.zero_add, List.nil_append] at hown5; have hb5 : Below w4.heap.size w4 w5 := ((Below.refl _ _).alloc (Nat.le_refl _) _).grown hg5 (by simp) (own_block (World.ownsRow_made (e := 5) (size := 1) w4 #[] 0 (Nat.le_refl _) (Nat.zero_le _) rfl)); clear hg5))
        | ((with_reducible show wpList _ _ _ (({ dst := some 49, op := _, type := _, pos := _, after := _, guard := _ } : Oper) :: _) _ _); go_must (refine wpList_app rfl (.tmp 46) (.tmp 48) 29 rfl w4.heap.size 5 i0 (.int .u8 0) 1 1 Try.underlying29 hi hz0 hz1 hz2 rfl (by decide) _ K _ rfl (own_kept hown5 ((Below.refl w5.heap.size w5).alloc (Nat.le_refl _) (.cells #[.int .u8 mr] 5))) _ _ 1 _ [.int .u8 mr] rfl (show Rd _ _ _ [Value.int .u8 mr] from Rd.new w5 #[.int .u8 mr] 5) rfl (fun u hu => by rw [List.mem_singleton.1 hu]; rfl) (by simp only [maxLen]; omega) (by omega) (by have := hb5.size; simp; omega) ?_; intro v6 w6 hown6 hg6; rw [HMR.out, ← bvs_append] at hown6; have hb6 : Below w4.heap.size w4 w6 := (hb5.alloc hb5.size _).grown hg6 (by have := hb5.size; simp; omega) (own_block (own_kept hown5 ((Below.refl w5.heap.size w5).alloc (Nat.le_refl _) (.cells #[.int .u8 mr] 5)))); clear hown5 hg6 hb5)))
      obtain ⟨A6, c6, rfl, hc6, -, -⟩ := own_form hown6
      have HR6 := Lib.hid (Rd.of_own hown6)
      have HBK6 := Lib.hid (HBK.out.grow hb6)
      clear hown6 hb6 HBK HB4
      refine (C3.out A6 c6 w6 hc6 HR6.out).mono ?_
      rintro _ w7 ⟨A7, c7, rfl, -, hb7⟩
      obtain ⟨w8, hw8⟩ : ∃ w8, w8 = w7.alloc (.cells #[.int .i64 0, .int .i64 0, .int .i64 0, .int .i64 0, .slice A7 0 c7, .int .i64 0, .int .u32 0] 27) := ⟨_, rfl⟩
      have b8 : Below w7.heap.size w7 w8 := by rw [hw8]; exact (Below.refl _ _).alloc (Nat.le_refl _) _
      have hbk := HBK6.out.grow (hb7.trans (b8.mono hb7.size))
      have HBK8 := Lib.hid hbk
      have HW8 := Lib.hid hw8
      rw [hw8] at hbk
      obtain ⟨q0, q1, q2, q3, q4, q5, q6⟩ := hbk.st.cells
      obtain ⟨p0, p1, p2, p3, p4, p5, p6⟩ := hbk.x.cells
      clear hw8 b8 hbk hb7 HBK6 HR6 C3 hlt0 hlt1
      go_wp2
      rw [← HW8.out]
      clear q0 q1 q2 q3 q4 q5 q6 p0 p1 p2 p3 p4 p5 p6 HW8 HW4
      go_loopw [13, 14] (fun av iv wr => ∃ i : Nat, i ≤ n1 ∧ iv = .int .i64 (i : Int) ∧ av = .int .i64 (S i : Int) ∧ BkP (b : Int) (u : Int) (r : Int) (m : Int) tt (su : Int) (tn : Int) A2 n1 c2 bs A1 rs A3 P A4 c4 (xs.map B7.of) G0 G1 W wr) (fun _ iv _ => n1 - (intOf iv).toNat)
      case atStart => exact ⟨0, Nat.zero_le _, rfl, by rw [HSS.out.1]; rfl, HBK8.out⟩
      case round =>
        obtain ⟨i, hin, rfl, rfl, hbk⟩ := hrel
        have HBK := Lib.hid hbk
        have hsi := HSS.out.2.2 i
        have hsi1 := HSS.out.2.2 (i + 1)
        clear hbk
        by_cases hlt : i < n1
        · have hii : (i : Int) < (n1 : Int) := by omega
          obtain ⟨mo, ra, mi, co, s, fr, at_, f7, p7, x, e1, e2, e3, e4, e5, e6, e7⟩ := HE.out i hlt
          obtain rfl : at_ = S i := HAT.out.1 i _ e3
          have hst := HAT.out.2 i _ _ _ _ _ _ _ e3
          have HST := Lib.hid hst
          have e8 : (xs.map B7.of)[i]? = some ⟨mo, ra, mi, co, s, fr, (S i : Int)⟩ := by rw [List.getElem?_map, e3]; rfl
          have CP := Lib.hid (fun w (h1 : Rd w w.heap.size A3 (bvs P)) (h2 : Rd w w.heap.size A4 (blksI (xs.map B7.of))) => frmPay_any (o0 := b) (o1 := u) (o2 := r) (o3 := m) (tt := (tn : Int)) (su := (su : Int)) (c := c3) (c2 := c4) (i : Int) w h1 HK.out.symm hc3 (by omega) h2 (fun y hy => by
            obtain ⟨z, hz, rfl⟩ := List.mem_map.1 hy
            obtain ⟨k, hk, hg⟩ := List.mem_iff_getElem.1 hz
            obtain ⟨mo', ra', mi', co', s', fr', at', f7', p7', x', -, -, e3', e4', -, -, e7'⟩ := HE.out k (by rw [← HXL.out]; exact hk)
            rw [List.getElem?_eq_getElem hk, hg] at e3'
            obtain rfl := Option.some.inj e3'
            have := HK.out
            simp only [B7.of]
            omega))
          rw [List.length_map, HXL.out, payR_yes e8 rfl rfl e4, e5] at CP
          obtain ⟨bB, oB, rfl, hbB, z0, z1, z2, z3, z4, z5, z6⟩ := rd_blk HBK.out.bd e1
          obtain ⟨bX, oX, rfl, hbX, y0, y1, y2, y3, y4, y5, y6⟩ := rd_blk HBK.out.xd e8
          simp only at z0 z1 z2 z3 z4 z5 z6 y0 y1 y2 y3 y4 y5 y6
          obtain ⟨-, -, -, -, q4, -, -⟩ := HBK.out.st.cells
          obtain ⟨-, -, -, -, p4, -, -⟩ := HBK.out.x.cells
          obtain ⟨wA, hwA⟩ : ∃ wA, wA = wr.alloc (.cells #[.int .i64 (mo : Int), .int .i64 (ra : Int), .int .i64 (mi : Int), .int .i64 (co : Int), .int .u32 (s : Int), .int .i64 f7, .int .i64 p7] 37) := ⟨_, rfl⟩
          obtain ⟨G2, hG2⟩ : ∃ G2, G2 = wr.heap.size := ⟨_, rfl⟩
          have bA : Below wr.heap.size wr wA := by rw [hwA]; exact (Below.refl _ _).alloc (Nat.le_refl _) _
          have hsA : Blk wA G2 37 [.int .i64 (mo : Int), .int .i64 (ra : Int), .int .i64 (mi : Int), .int .i64 (co : Int), .int .u32 (s : Int), .int .i64 f7, .int .i64 p7] := by rw [hwA]; exact blk_new _ _ _ hG2
          obtain ⟨wB, hwB⟩ : ∃ wB, wB = (wA.setCell ⟨G2, 5, none⟩ (.int .i64 (fr : Int))).setCell ⟨G2, 6, none⟩ (.int .i64 (S i : Int)) := ⟨_, rfl⟩
          have bB_ : Below wr.heap.size wr wB := by rw [hwB]; exact (bA.setCell (p := ⟨G2, 5, none⟩) (by rw [hG2]; exact Nat.le_refl _) _).setCell (p := ⟨G2, 6, none⟩) (by rw [hG2]; exact Nat.le_refl _) _
          have hsB : Blk wB G2 37 [.int .i64 (mo : Int), .int .i64 (ra : Int), .int .i64 (mi : Int), .int .i64 (co : Int), .int .u32 (s : Int), .int .i64 (fr : Int), .int .i64 (S i : Int)] := by rw [hwB]; exact set_two32 hsA _ _
          have HWA := Lib.hid hwA
          have HWB := Lib.hid hwB
          have HG2 := Lib.hid hG2
          have HBB := Lib.hid (HBK.out.grow bB_)
          have HSB := Lib.hid hsB
          have hltA : G2 < wA.heap.size := hsA.lt
          have a4 := (HBK.out.x.grow bA).cells.2.2.2.2.1
          have aw := (HBK.out.xd.below bA).more bA.size
          obtain ⟨bX', oX', he, -, -, -, -, -, -, t5, -⟩ := rd_blk aw e8
          obtain ⟨rfl, rfl⟩ : bX = bX' ∧ oX = oX' := by simpa using he
          have f5 := hsA.cell 5
          have fz5 : wA.frozen? ⟨G2, 5, none⟩ = false := hsA.frozen _
          have fz6 : wA.frozen? ⟨G2, 6, none⟩ = false := hsA.frozen _
          have f6 := (hsA.set_ 5 (.int .i64 (fr : Int))).cell 6
          simp only [List.getElem?_cons_zero, List.getElem?_cons_succ, List.set_cons_succ, List.set_cons_zero] at f5 f6 t5
          clear hwA hwB hG2 bA bB_ hsB hsA aw he hlt e3 e5
          go_wp2_with (first
            | ((with_reducible show wpList _ _ _ (({ dst := some 92, op := _, type := _, pos := _, after := _, guard := _ } : Oper) :: _) _ _); rw [← HWA.out, ← HG2.out])
            | ((with_reducible show wpList _ _ _ (({ dst := some 101, op := _, type := _, pos := _, after := _, guard := _ } : Oper) :: _) _ _); rw [← HWB.out]))
          obtain ⟨bR, oR, rfl, -, hcR, hokR⟩ := rows_at HBB.out.rd e2
          obtain ⟨bX2, oX2, he, -, -, -, -, -, -, -, -⟩ := rd_blk HBB.out.xd e8
          have HCP := Lib.hid (And.intro e2 e8)
          have hnl := hokR.1
          clear z0 z1 z2 z3 z4 z5 z6 y0 y1 y2 y3 y4 y5 y6 q4 p4 a4 t5 f5 f6 fz5 fz6 hltA HWA HG2 he e1 e2 e8
          rw [← HWB.out]
          clear HWB
          refine wp_region_grow [⟨101, [], .is (.pointer (some ⟨G1, 4, none⟩))⟩,
            ⟨102, [0], .is (.slice (some ⟨bX, oX, none⟩) n1 c4)⟩,
            ⟨103, [], .is (.int .i64 (i : Int))⟩,
            ⟨104, [1, 2], .is (.pointer (some ⟨bX, oX + i * 7, none⟩))⟩,
            ⟨105, [3], .is (.agg #[.int .i64 (mo : Int), .int .i64 (ra : Int), .int .i64 (mi : Int), .int .i64 (co : Int), .int .u32 (s : Int), .int .i64 (fr : Int), .int .i64 (S i : Int)])⟩,
            ⟨106, [], .is (.agg #[.int .i64 (mo : Int), .int .i64 (ra : Int), .int .i64 (mi : Int), .int .i64 (co : Int), .int .u32 (s : Int), .int .i64 (fr : Int), .int .i64 (S i : Int)])⟩,
            ⟨107, [4, 5], .is (.bool false)⟩,
            ⟨108, [6], .is (.bool false)⟩,
            ⟨109, [7], .is (.slice A3 K c3)⟩,
            ⟨110, [7], .is (.agg #[.int .i64 (b : Int), .int .i64 (u : Int), .int .i64 (r : Int), .int .i64 (m : Int), .slice (some ⟨bX, oX, none⟩) n1 c4, .int .i64 (tn : Int), .int .u32 (su : Int)])⟩,
            ⟨111, [7], .is (.int .i64 (i : Int))⟩,
            ⟨112, [7, 8, 9, 10], .bytes x.l⟩,
            ⟨113, [7, 11], .is (.string ⟨x.l.toArray⟩)⟩,
            ⟨114, [7], .is (.slice (some ⟨bR, oR, none⟩) n1 c1)⟩,
            ⟨115, [7], .is (.int .i64 (i : Int))⟩,
            ⟨116, [7, 13, 14], .is (.pointer (some ⟨bR, oR + i, none⟩))⟩,
            ⟨117, [7, 15], .is (.slice x.A x.n x.c)⟩,
            ⟨118, [7, 16], .is (.string ⟨x.l.toArray⟩)⟩,
            ⟨119, [7, 12, 17], .is (.bool false)⟩,
            ⟨120, [7, 18], .is (.bool false)⟩]
            [(9, .pointer (some ⟨G1, 0, none⟩)), (14, .int .i64 (i : Int)), (15, .pointer (some ⟨G2, 0, none⟩)), (7, .slice A3 K c3), (1, .slice (some ⟨bR, oR, none⟩) n1 c1)] (by kernel_rfl) (by kernel_rfl) (by kernel_rfl) (by kernel_rfl) (by kernel_rfl) ⟨rfl, rfl, rfl, rfl, rfl, trivial⟩ ?_ ?_
          · repeat' (first | exact OblGAll.nil | refine OblGAll.cons ?_ ?_)
            all_goals (intro ev yi w' hB hc hf ho hn; simp only [OutsSay, NeedSay, rowAt, Fact.says, and_true] at ho hn)
            all_goals (try ((simp [OpSays, execOp, Region.wanted, Fact.says, boolOf, go_sem, ho, hn, hc, Below.refl]; done)))
            · rw [if_pos (by simp [Region.wanted])]
              have q := ((HBB.out.grow hB).x.cells).2.2.2.2.1
              simp [OpSays, execOp, Fact.says, go_sem, hn, Below.refl, q]
            · rw [if_pos (by simp [Region.wanted])]
              simp [OpSays, execOp, Fact.says, go_sem, hn, Below.refl, hii]
            · rw [if_pos (by simp [Region.wanted])]
              obtain ⟨bX3, oX3, he, -, y0, y1, y2, y3, y4, y5, y6⟩ := rd_blk (HBB.out.grow hB).xd HCP.out.2
              obtain ⟨rfl, rfl⟩ : bX = bX3 ∧ oX = oX3 := by simpa using he
              simp only at y0 y1 y2 y3 y4 y5 y6
              simp [OpSays, execOp, Fact.says, go_sem, hn, Below.refl, y0, y1, y2, y3, y4, y5, y6]
            · rw [if_pos (by simp [Region.wanted])]
              have hq := HSB.out.grow hB
              have y0 := hq.cell 0
              have y1 := hq.cell 1
              have y2 := hq.cell 2
              have y3 := hq.cell 3
              have y4 := hq.cell 4
              have y5 := hq.cell 5
              have y6 := hq.cell 6
              simp only [List.getElem?_cons_zero, List.getElem?_cons_succ] at y0 y1 y2 y3 y4 y5 y6
              simp [OpSays, execOp, Fact.says, go_sem, ho, Below.refl, y0, y1, y2, y3, y4, y5, y6]
            · rw [if_pos (by simp [Region.wanted, hn, boolOf])]
              obtain ⟨y0, y1, y2, y3, y4, y5, y6⟩ := (HBB.out.grow hB).x.cells
              simp [OpSays, execOp, Fact.says, go_sem, ho, Below.refl, y0, y1, y2, y3, y4, y5, y6]
            · rw [if_pos (by simp [Region.wanted, hn, boolOf])]
              exact says_call Try.call9 (vs := #[.slice A3 K c3, .agg #[.int .i64 (b : Int), .int .i64 (u : Int), .int .i64 (r : Int), .int .i64 (m : Int), .slice (some ⟨bX, oX, none⟩) n1 c4, .int .i64 (tn : Int), .int .u32 (su : Int)], .int .i64 (i : Int)]) rfl hf (by simp [hn]) ((CP.out w' (HBB.out.grow hB).p (HBB.out.grow hB).xd).mono fun _ _ h => h)
            · rw [if_pos (by simp [Region.wanted, hn, boolOf])]
              exact says_str rfl Try.underlying29 Try.underlying5 Try.underlying9 (by simpa using hn.2.2.1) ⟨rfl, Below.refl _ _⟩
            · rw [if_pos (by simp [Region.wanted, hn, boolOf])]
              simp [OpSays, execOp, Fact.says, go_sem, hn, Below.refl, hii]
            · rw [if_pos (by simp [Region.wanted, hn, boolOf])]
              obtain ⟨bR3, oR3, he, -, hc3_, -⟩ := rows_at (HBB.out.grow hB).rd HCP.out.1
              obtain ⟨rfl, rfl⟩ : bR = bR3 ∧ oR = oR3 := by simpa using he
              simp [OpSays, execOp, Fact.says, go_sem, hn, Below.refl, hc3_]
            · rw [if_pos (by simp [Region.wanted, hn, boolOf])]
              obtain ⟨bR3, oR3, he, -, -, hok3⟩ := rows_at (HBB.out.grow hB).rd HCP.out.1
              exact says_str rfl Try.underlying29 Try.underlying5 Try.underlying9 (l := x.l) (by simp only [hn]; exact ⟨_, _, by rw [hok3.1], by rw [hok3.1]; exact hok3.2.1, hok3.2.2.2.more (by simp)⟩) ⟨rfl, Below.refl _ _⟩
          · intro X w9 hb9 hx
            have hlast : X 19 = .bool false := hx 19 (by decide)
            clear hx
            simp only [layAll, List.setIfInBounds_toArray, List.set_cons_succ, List.set_cons_zero]
            rw [hlast]
            have HBK9 := Lib.hid (HBB.out.grow hb9)
            have hs9 := HSB.out.grow hb9
            have c1_ := hs9.cell 1
            simp only [List.getElem?_cons_zero, List.getElem?_cons_succ] at c1_
            clear hb9 hs9 hlast HBB HSB CP HBK
            go_wp2
            go_roundw
            case rel => exact ⟨i + 1, by omega, by go_num, by rw [HST.out]; go_num, HBK9.out⟩
            case measure =>
              simp [intOf]
              omega
        · obtain rfl : i = n1 := by omega
          rw [HSS.out.2.1]
          clear hlt hsi hsi1 hin
          go_wp2
          clear HE HAT
          obtain ⟨w9, hw9⟩ : ∃ w9, w9 = wr := ⟨_, rfl⟩
          rw [← hw9] at HBK ⊢
          clear hw9
          go_loopw [16] (fun iv wr => ∃ j : Nat, j ≤ K ∧ iv = .int .i64 (j : Int) ∧ BkP (b : Int) (u : Int) (r : Int) (m : Int) tt (su : Int) (tn : Int) A2 i c2 bs A1 rs A3 P A4 c4 (xs.map B7.of) G0 G1 W wr) (fun iv _ => K - (intOf iv).toNat)
          case atStart => exact ⟨0, Nat.zero_le _, rfl, HBK.out⟩
          case round =>
            obtain ⟨j, hjK, rfl, hbj⟩ := hrel
            have HBJ := Lib.hid hbj
            clear hbj
            by_cases hlt : j < K
            · have hjj : (j : Int) < (K : Int) := by omega
              have hjc : (j : Int) ≤ (c3 : Int) := by omega
              have hjcn : j ≤ c3 := by omega
              have HJK := Lib.hid hlt
              have hrt : Rd wr wr.heap.size A3 (bvs (P.take j)) := by
                rw [← bvs_take]
                exact HBJ.out.p.take j
              have C5 := Lib.hid (C4.out j hlt A3 c3 wr hjcn hrt)
              clear hrt hlt
              go_wp2_with fail
              refine C5.out.mono ?_
              rintro _ w10 ⟨A10, c10, rfl, -, hb10⟩
              have HBJ2 := Lib.hid (HBJ.out.grow (hb10.trans (((Below.refl _ _).alloc (Nat.le_refl _) (.cells #[.int .i64 0, .int .i64 0, .int .i64 0, .int .i64 0, .slice A10 0 c10, .int .i64 0, .int .u32 0] 27)).mono hb10.size)))
              clear hb10 C5
              go_wp2
              go_roundw
              case rel => exact ⟨j + 1, by have := HJK.out; omega, by go_num, HBJ2.out⟩
              case measure =>
                have e1 := HJK.out
                simp [intOf]
                omega
            · obtain rfl : j = K := by omega
              obtain ⟨-, -, -, -, -, p5, -⟩ := HBJ.out.x.cells
              clear hlt
              go_wp2_with fail
              refine (CK.out _).mono ?_
              rintro _ wz ⟨rfl, hbz⟩
              have HBZ := Lib.hid (HBJ.out.below.trans (hbz.mono HBJ.out.below.size))
              clear hbz CK p5
              go_wp2
              go_ret
              exact ⟨rfl, HBZ.out⟩
end Go.Proofs.Ytjignfnkcbklkaa
