/- Layer 17: the law RcTakes. -/
import Derived.Test.YtgdebfjjohoghaaRcPuts
namespace Go.Proofs.Ytgdebfjjohoghaa
open Go.RowKit Go.Sort Go.Shelf

/-- What a span must be, while there is no error. -/
def Fine (L R : Nat) (s : Nat × List Nat × Nat) : Prop := s.2.2 = 0 → InSpan L R ∧ 65536 ≤ R
section
variable {w w' : World} {D K T S : Nat} {L R : Nat} {s : Nat × List Nat × Nat}
theorem DecAt.turned (h : DecAt w D K L R s) (ht : TurnsB T S w w') (h1 : D ≠ T) (h2 : D ≠ S) (h3 : K ≤ T) (h4 : K ≤ S) : DecAt w' D K L R s := by
  obtain ⟨A, n, m, hb, hr, hn, hnm, hn1, hK, h7⟩ := h
  have hlt := hb.lt
  exact ⟨A, n, m, ht.blk hb h1 h2, hr.below (ht.below h3 h4 (by omega)), hn, hnm, hn1, hK, h7⟩
theorem RefDecS.turned (h : RefDecS w D K L R s) (ht : TurnsB T S w w') (h1 : D ≠ T) (h2 : D ≠ S) (h3 : K ≤ T) (h4 : K ≤ S) : RefDecS w' D K L R s := by
  obtain ⟨A, n, m, hb, hr, hn, hnm, hn1, hK, h7⟩ := h
  have hlt := hb.lt
  exact ⟨A, n, m, ht.blk hb h1 h2, hr.below (ht.below h3 h4 (by omega)), hn, hnm, hn1, hK, h7⟩
theorem RefDecS.below (h : RefDecS w D K L R s) (hb : Below w.heap.size w w') : RefDecS w' D K L R s := RefDec.below h hb
theorem RefDecS.drew_ (h : RefDecS w D K L R s) : RefDecS w.drew D K L R s := by
  obtain ⟨A, n, m, hb, hr, h3, h4, h5, h6, h7⟩ := h
  exact ⟨A, n, m, hb.drew_, hr.drew, h3, h4, h5, h6, h7⟩
theorem RefDecS.lt (h : RefDecS w D K L R s) : D < w.heap.size := by
  obtain ⟨A, n, m, hb, -⟩ := h
  exact hb.lt
theorem RefDecS.err (h : RefDecS w D K L R s) : w.cell? ⟨D, 4, none⟩ = some (.int .i64 (s.2.2 : Int)) := by
  obtain ⟨A, n, m, hb, -⟩ := h
  exact hb.cell 4
end
/-- Find, of both: they tell the same, and leave the same. -/
theorem find_both {L R : Nat} {s : Nat × List Nat × Nat} (hf : Fine L R s) (total : Int) : ∃ (v : Int) (s1 : Nat × List Nat × Nat), Fine L R s1 ∧
    (∀ (w : World) (D K : Nat), DecAt w D K L R s → Calls Try.prog 15 #[.pointer (some ⟨D, 0, none⟩), .int .i64 total] w fun e w' => e = .returned (.int .i64 v) ∧ DecAt w' D K L R s1 ∧ TurnsB D D w w') ∧
    (∀ (w : World) (D K : Nat), RefDecS w D K L R s → Calls Try.prog 16 #[.pointer (some ⟨D, 0, none⟩), .int .i64 total] w fun e w' => e = .returned (.int .i64 v) ∧ RefDecS w' D K L R s1 ∧ TurnsB D D w w') := by
  obtain ⟨C, B, E⟩ := s
  by_cases hE : E = 0
  · subst hE
    obtain ⟨hi, hR⟩ := hf rfl
    by_cases ht : total < 1 ∨ 65536 < total
    · exact ⟨0, (C, B, 2), fun h => (by cases h), fun w D K h => decFind_arg total h ht, fun w D K h => rcFind_arg total h ht⟩
    · obtain ⟨T, rfl⟩ := Int.eq_ofNat_of_zero_le (show 0 ≤ total by omega)
      exact ⟨((findS L R C T).1 : Int), (C, B, (findS L R C T).2), fun _ => ⟨hi, hR⟩, fun w D K h => decFind_ok T h hi hR (by omega) (by omega), fun w D K h => rcFind_ok T h hi hR (by omega) (by omega)⟩
  · exact ⟨0, (C, B, E), hf, fun w D K h => (decFind_err total h hE).mono fun e w' ⟨h1, h2⟩ => ⟨h1, by rw [h2]; exact h, by rw [h2]; exact TurnsB.refl _ _ _⟩,
      fun w D K h => (rcFind_err total h hE).mono fun e w' ⟨h1, h2⟩ => ⟨h1, by rw [h2]; exact h, by rw [h2]; exact TurnsB.refl _ _ _⟩⟩
/-- Take, of both. -/
theorem take_both {L R : Nat} {s : Nat × List Nat × Nat} (hf : Fine L R s) (lo sz to : Int) (hsz : sz ≤ 9223372036854775807) : ∃ (L' R' : Nat) (s2 : Nat × List Nat × Nat), Fine L' R' s2 ∧
    (∀ (w : World) (D K : Nat), DecAt w D K L R s → Calls Try.prog 17 #[.pointer (some ⟨D, 0, none⟩), .int .i64 lo, .int .i64 sz, .int .i64 to] w fun e w' => e = .returned (.int .i64 (s2.2.2 : Int)) ∧ DecAt w' D K L' R' s2 ∧ TurnsB D D w w') ∧
    (∀ (w : World) (D K : Nat), RefDecS w D K L R s → Calls Try.prog 18 #[.pointer (some ⟨D, 0, none⟩), .agg #[.int .i64 lo, .int .i64 sz, .int .i64 to]] w fun e w' => e = .returned (.int .i64 (s2.2.2 : Int)) ∧ RefDecS w' D K L' R' s2 ∧ TurnsB D D w w') := by
  obtain ⟨C, B, E⟩ := s
  by_cases hE : E = 0
  · subst hE
    obtain ⟨hi, hR⟩ := hf rfl
    have hR2 : R < 4294967296 := by obtain ⟨a, b, c, d⟩ := hi; omega
    cases hm : mayP lo sz to with
    | false => exact ⟨L, R, (C, B, 2), fun h => (by cases h), fun w D K h => decTake_arg lo sz to hsz h hR hR2 hm, fun w D K h => rcTake_arg lo sz to h hm⟩
    | true =>
      have hy := mayP_yes hm
      obtain ⟨a, rfl⟩ := Int.eq_ofNat_of_zero_le hy.1
      obtain ⟨b, rfl⟩ := Int.eq_ofNat_of_zero_le (show 0 ≤ sz by omega)
      obtain ⟨c, rfl⟩ := Int.eq_ofNat_of_zero_le (show 0 ≤ to by omega)
      obtain ⟨p1, p2, p3⟩ := mayP_iff.1 hm
      obtain ⟨n1, n2, n3, n4⟩ := narrow_span hi hR p1 p2 p3
      obtain ⟨o, L', R', hmv, hi2, hR3, -⟩ := moves_all n4
      exact ⟨L', R', comesS o.length (C, B, 0), fun _ => ⟨hi2, hR3⟩, fun w D K h => decTake_ok h hi hR p1 p2 p3 hmv, fun w D K h => rcTake_ok h hi hR p1 p2 p3 hmv⟩
  · exact ⟨L, R, (C, B, E), hf, fun w D K h => (decTake_err lo sz to h hE).mono fun e w' ⟨h1, h2⟩ => ⟨h1, by rw [h2]; exact h, by rw [h2]; exact TurnsB.refl _ _ _⟩,
      fun w D K h => (rcTake_err lo sz to h hE).mono fun e w' ⟨h1, h2, h3⟩ => ⟨h1, h2, TurnsB.of_below h3⟩⟩
/-- What holds at the head of a round. -/
def TakesRel (w : World) (D X : Nat) (ss : List S3) (i : Value) (wr : World) : Prop :=
  ∃ (k L R : Nat) (s : Nat × List Nat × Nat), k ≤ ss.length ∧ i = .int .i64 (k : Int) ∧ Fine L R s ∧ DecAt wr D D L R s ∧ RefDecS wr X w.heap.size L R s ∧ Below w.heap.size w wr
/-- What holds within the test of a round: c of the four calls are done. -/
def TakesG (w : World) (D X Pb : Nat) (lo sz to : Int) (L R : Nat) (s s1 : Nat × List Nat × Nat) (L' R' : Nat) (s2 : Nat × List Nat × Nat) (c : Nat) (W : World) : Prop :=
  Blk W Pb 29 [.int .i64 lo, .int .i64 sz, .int .i64 to] ∧ Below w.heap.size w W ∧
    (match c with
      | 0 => DecAt W D D L R s ∧ RefDecS W X w.heap.size L R s
      | 1 => DecAt W D D L R s1 ∧ RefDecS W X w.heap.size L R s
      | 2 => DecAt W D D L R s1 ∧ RefDecS W X w.heap.size L R s1
      | 3 => DecAt W D D L' R' s2 ∧ RefDecS W X w.heap.size L R s1
      | _ => DecAt W D D L' R' s2 ∧ RefDecS W X w.heap.size L' R' s2)
theorem part_size : (Try.prog.info? 29).map (·.size) = some 3 := by kernel_rfl
section
variable {w : World} {D X Pb : Nat} {lo sz to : Int} {L R : Nat} {s s1 : Nat × List Nat × Nat} {L' R' : Nat} {s2 : Nat × List Nat × Nat} {W : World}
def Addrs (w : World) (D X Pb : Nat) : Prop := w.heap.size ≤ D ∧ D < X ∧ X < Pb
theorem takes_0 {v : Int} (ha : Addrs w D X Pb) (hG : TakesG w D X Pb lo sz to L R s s1 L' R' s2 0 W)
    (C : ∀ (w : World) (D K : Nat), DecAt w D K L R s → Calls Try.prog 15 #[.pointer (some ⟨D, 0, none⟩), .int .i64 to] w fun e w' => e = .returned (.int .i64 v) ∧ DecAt w' D K L R s1 ∧ TurnsB D D w w') :
    Calls Try.prog 15 #[.pointer (some ⟨D, 0, none⟩), .int .i64 to] W fun e w' => ∃ v2, e = .returned v2 ∧ v2 = .int .i64 v ∧ TakesG w D X Pb lo sz to L R s s1 L' R' s2 1 w' := by
  obtain ⟨a1, a2, a3⟩ := ha
  obtain ⟨g1, g2, g3, g4⟩ := hG
  have hlt := g3.lt
  exact (C W D D g3).mono fun e w2 ⟨h1, h2, h3⟩ => ⟨_, h1, rfl, h3.blk g1 (by omega) (by omega), g2.trans (h3.below a1 a1 (by omega)), h2, g4.turned h3 (by omega) (by omega) a1 a1⟩
theorem takes_1 {v : Int} (ha : Addrs w D X Pb) (hG : TakesG w D X Pb lo sz to L R s s1 L' R' s2 1 W)
    (C : ∀ (w : World) (D K : Nat), RefDecS w D K L R s → Calls Try.prog 16 #[.pointer (some ⟨D, 0, none⟩), .int .i64 to] w fun e w' => e = .returned (.int .i64 v) ∧ RefDecS w' D K L R s1 ∧ TurnsB D D w w') :
    Calls Try.prog 16 #[.pointer (some ⟨X, 0, none⟩), .int .i64 to] W fun e w' => ∃ v2, e = .returned v2 ∧ v2 = .int .i64 v ∧ TakesG w D X Pb lo sz to L R s s1 L' R' s2 2 w' := by
  obtain ⟨a1, a2, a3⟩ := ha
  obtain ⟨g1, g2, g3, g4⟩ := hG
  have hlt := g3.lt
  exact (C W X _ g4).mono fun e w2 ⟨h1, h2, h3⟩ => ⟨_, h1, rfl, h3.blk g1 (by omega) (by omega), g2.trans (h3.below (by omega) (by omega) (by omega)), g3.turned h3 (by omega) (by omega) (by omega) (by omega), h2⟩
theorem takes_2 (ha : Addrs w D X Pb) (hG : TakesG w D X Pb lo sz to L R s s1 L' R' s2 2 W)
    (C : ∀ (w : World) (D K : Nat), DecAt w D K L R s1 → Calls Try.prog 17 #[.pointer (some ⟨D, 0, none⟩), .int .i64 lo, .int .i64 sz, .int .i64 to] w fun e w' => e = .returned (.int .i64 (s2.2.2 : Int)) ∧ DecAt w' D K L' R' s2 ∧ TurnsB D D w w') :
    Calls Try.prog 17 #[.pointer (some ⟨D, 0, none⟩), .int .i64 lo, .int .i64 sz, .int .i64 to] W fun e w' => ∃ v2, e = .returned v2 ∧ v2 = .int .i64 (s2.2.2 : Int) ∧ TakesG w D X Pb lo sz to L R s s1 L' R' s2 3 w' := by
  obtain ⟨a1, a2, a3⟩ := ha
  obtain ⟨g1, g2, g3, g4⟩ := hG
  have hlt := g3.lt
  exact (C W D D g3).mono fun e w2 ⟨h1, h2, h3⟩ => ⟨_, h1, rfl, h3.blk g1 (by omega) (by omega), g2.trans (h3.below a1 a1 (by omega)), h2, g4.turned h3 (by omega) (by omega) a1 a1⟩
theorem takes_3 (ha : Addrs w D X Pb) (hG : TakesG w D X Pb lo sz to L R s s1 L' R' s2 3 W)
    (C : ∀ (w : World) (D K : Nat), RefDecS w D K L R s1 → Calls Try.prog 18 #[.pointer (some ⟨D, 0, none⟩), .agg #[.int .i64 lo, .int .i64 sz, .int .i64 to]] w fun e w' => e = .returned (.int .i64 (s2.2.2 : Int)) ∧ RefDecS w' D K L' R' s2 ∧ TurnsB D D w w') :
    Calls Try.prog 18 #[.pointer (some ⟨X, 0, none⟩), .agg #[.int .i64 lo, .int .i64 sz, .int .i64 to]] W fun e w' => ∃ v2, e = .returned v2 ∧ v2 = .int .i64 (s2.2.2 : Int) ∧ TakesG w D X Pb lo sz to L R s s1 L' R' s2 4 w' := by
  obtain ⟨a1, a2, a3⟩ := ha
  obtain ⟨g1, g2, g3, g4⟩ := hG
  have hlt := g3.lt
  exact (C W X _ g4).mono fun e w2 ⟨h1, h2, h3⟩ => ⟨_, h1, rfl, h3.blk g1 (by omega) (by omega), g2.trans (h3.below (by omega) (by omega) (by omega)), g3.turned h3 (by omega) (by omega) (by omega) (by omega), h2⟩
end
theorem takes_err {w : World} {D X Pb : Nat} {lo sz to : Int} {L R : Nat} {s s1 : Nat × List Nat × Nat} {L' R' : Nat} {s2 : Nat × List Nat × Nat} {W : World} {c : Nat} (hG : TakesG w D X Pb lo sz to L R s s1 L' R' s2 c W) (h1 : 4 ≤ c) (h2 : c ≤ 4) :
    Calls Try.prog 19 #[.pointer (some ⟨D, 0, none⟩)] W fun e w' => ∃ v2, e = .returned v2 ∧ v2 = .int .i64 (s2.2.2 : Int) ∧ TakesG w D X Pb lo sz to L R s s1 L' R' s2 c w' := by
  obtain rfl : c = 4 := by omega
  exact (decErr_any hG.2.2.1).mono fun _ _ h => ⟨_, h.1, rfl, by rw [h.2]; exact hG⟩
set_option maxHeartbeats 4000000 in
set_option maxRecDepth 100000 in
theorem rcTakes_law (A0 : Option Addr) (n0 m0 : Nat) (l : List UInt8) (A : Option Addr) (n m : Nat) (ss : List S3) (w : World) (hrb : Rd w w.heap.size A0 (bvs l)) (hl : l.length = n0) (hnm : n0 ≤ m0) (hr : RdS3 w w.heap.size A ss) (hn : ss.length = n) (hok : ∀ s ∈ ss, S3Ok s) (h63 : n ≤ 9223372036854775807) :
    Calls Try.prog 4 #[.slice A0 n0 m0, .slice A n m] w (Yes w) := by
  have CK := Lib.hid rcKnown_any
  by_cases hbig : 300 < n0 ∨ 200 < n
  · clear hr hn hok hrb hl hnm
    by_cases h300 : 300 < n0
    · have h2 : (300 : Int) < (n0 : Int) := by omega
      clear hbig
      go_enter Try.func4, Try.ntmps4
      go_wp2_with fail
      refine (CK.out _).mono ?_
      rintro e w' ⟨rfl, hb⟩
      go_wp2
      go_ret
      exact ⟨rfl, hb⟩
    · have h2 : decide ((300 : Int) < (n0 : Int)) = false := by simp; omega
      have h3 : (200 : Int) < (n : Int) := by omega
      clear hbig h300
      go_enter Try.func4, Try.ntmps4
      go_wp2_with fail
      refine (CK.out _).mono ?_
      rintro e w' ⟨rfl, hb⟩
      go_wp2
      go_ret
      exact ⟨rfl, hb⟩
  · have h2 : decide ((300 : Int) < (n0 : Int)) = false := by simp; omega
    have h3 : decide ((200 : Int) < (n : Int)) = false := by simp; omega
    have HR := Lib.hid hr
    have HN := Lib.hid hn
    have HOK := Lib.hid hok
    have HB0 := Lib.hid hbig
    have C1 := Lib.hid (decRead_any (w := w) (A := A0) (n := n0) (m := m0) l hrb hl (by omega))
    have C2 := Lib.hid (fun (W : World) (h : Below w.heap.size w W) => rcRead_any (w := W) (K := w.heap.size) (A := A0) (n := n0) (m := m0) (B := l.map UInt8.toNat) (by rw [nvs_bvs]; exact hrb.below h) h.size (by rw [List.length_map, hl]) hnm (by omega) (fun b hb => by obtain ⟨c, -, rfl⟩ := List.mem_map.1 hb; exact c.toNat_lt))
    obtain ⟨s0, hs0⟩ : ∃ s0, s0 = comesS 4 (0, l.map UInt8.toNat, 0) := ⟨_, rfl⟩
    rw [← hs0] at C1 C2
    clear hr hn hok h63 hrb hl hnm hbig hs0
    go_enter Try.func4, Try.ntmps4
    go_wp2_with fail
    refine C1.out.mono ?_
    rintro _ w1 ⟨D, rfl, hD, hd, hb1⟩
    have HD := Lib.hid hd
    have HB1 := Lib.hid hb1
    have HDS := Lib.hid hD
    clear hd hb1 hD C1
    go_wp2_with fail
    refine (C2.out w1 HB1.out).mono ?_
    rintro _ w2 ⟨rfl, hx, hb2⟩
    have hX1 : D < w1.heap.size := HD.out.lt
    obtain ⟨X, hX⟩ : ∃ X, X = w1.heap.size := ⟨_, rfl⟩
    rw [← hX] at hx hX1 ⊢
    have HDX := Lib.hid hX1
    have HREL := Lib.hid (show TakesRel w D X ss (.int .i64 ((0 : Nat) : Int)) w2 from ⟨0, 0, 4294967295, s0, Nat.zero_le _, rfl, fun _ => ⟨span_start, by decide⟩, HD.out.below hb2, hx, HB1.out.trans (hb2.mono HB1.out.size)⟩)
    clear hx hb2 hX hX1 C2 HD HB1 h2 h3
    go_wp2
    go_loopw [7] (TakesRel w D X ss) (fun i _ => n - (intOf i).toNat)
    case atStart => exact HREL.out
    case round =>
      clear HREL
      obtain ⟨k, L, R, s, hk, rfl, hf, hd, hx, hb⟩ := hrel
      have HF := Lib.hid hf
      have HD := Lib.hid hd
      have HX := Lib.hid hx
      have HB := Lib.hid hb
      clear hf hd hx hb
      by_cases hlt : k < n
      · have hks : k < ss.length := by have := HN.out; omega
        obtain ⟨ab, ao, rfl, hab, hc0, hc1, hc2⟩ := HR.out k ss[k] (List.getElem?_eq_getElem hks)
        obtain ⟨pp, hpp⟩ : ∃ s, s = ss[k]'hks := ⟨_, rfl⟩
        have hsok : S3Ok pp := HOK.out pp (by rw [hpp]; exact List.getElem_mem hks)
        rw [← hpp] at hc0 hc1 hc2
        have hd0 := (HB.out.cell (p := ⟨ab, _, none⟩) hab).trans hc0
        have hd1 := (HB.out.cell (p := ⟨ab, _, none⟩) hab).trans hc1
        have hd2 := (HB.out.cell (p := ⟨ab, _, none⟩) hab).trans hc2
        obtain ⟨lo, sz, to⟩ := pp
        have hsz : sz ≤ 9223372036854775807 := hsok.2.1.2
        dsimp only at hd0 hd1 hd2
        obtain ⟨v, s1, hf1, F1, F2⟩ := find_both HF.out to
        obtain ⟨L', R', s2, hf2, T1, T2⟩ := take_both hf1 lo sz to hsz
        have HF2 := Lib.hid hf2
        have HF1 := Lib.hid F1
        have HF3 := Lib.hid F2
        have HT1 := Lib.hid T1
        have HT2 := Lib.hid T2
        have hki : (k : Int) < (n : Int) := by omega
        have hk200 : (k : Int) ≤ 200 := by have := HB0.out; omega
        have HKS := Lib.hid (And.intro hks hlt)
        clear hc0 hc1 hc2 hpp hsok hsz hf1 F1 F2 hf2 T1 T2
        obtain ⟨w3, hw3⟩ : ∃ w3, w3 = wr.alloc (.cells #[.int .i64 lo, .int .i64 sz, .int .i64 to] 29) := ⟨_, rfl⟩
        obtain ⟨Pb, hPb⟩ : ∃ Pb, Pb = wr.heap.size := ⟨_, rfl⟩
        have hb3 : Below wr.heap.size wr w3 := by rw [hw3]; exact (Below.refl _ _).alloc (Nat.le_refl _) _
        have HG0 := Lib.hid (show TakesG w D X Pb lo sz to L R s s1 L' R' s2 0 w3.drew from ⟨(show Blk w3 Pb _ _ by rw [hw3, hPb]; exact heap_alloc_new wr _), (HB.out.trans (hb3.mono HB.out.size)).drew, (HD.out.below hb3).drew_, (HX.out.below hb3).drew_⟩)
        have HA := Lib.hid (show Addrs w D X Pb from ⟨HDS.out, HDX.out, by rw [hPb]; exact HX.out.lt⟩)
        have HW := Lib.hid hw3
        have HP := Lib.hid hPb
        clear hw3 hPb hb3 HD HX HF
        go_wp2
        simp only [← HW.out, ← HP.out]
        refine wp_region_seq [⟨33, [], .pointer (some ⟨D, 0, none⟩), 0, 0, none⟩,
            ⟨34, [], .pointer (some ⟨Pb, 2, none⟩), 0, 0, none⟩,
            ⟨35, [1], .int .i64 to, 0, 0, none⟩,
            ⟨36, [0, 2], .int .i64 v, 0, 0, some 0⟩,
            ⟨37, [], .pointer (some ⟨X, 0, none⟩), 0, 1, none⟩,
            ⟨38, [], .pointer (some ⟨Pb, 2, none⟩), 0, 1, none⟩,
            ⟨39, [5], .int .i64 to, 0, 1, none⟩,
            ⟨40, [4, 6], .int .i64 v, 0, 1, some 1⟩,
            ⟨41, [3, 7], .bool false, 2, 2, none⟩,
            ⟨42, [8], .bool false, 2, 2, none⟩,
            ⟨43, [9], .pointer (some ⟨D, 0, none⟩), 2, 2, none⟩,
            ⟨44, [9], .pointer (some ⟨Pb, 0, none⟩), 2, 2, none⟩,
            ⟨45, [11, 9], .int .i64 lo, 2, 2, none⟩,
            ⟨46, [9], .pointer (some ⟨Pb, 1, none⟩), 2, 2, none⟩,
            ⟨47, [13, 9], .int .i64 sz, 2, 2, none⟩,
            ⟨48, [9], .pointer (some ⟨Pb, 2, none⟩), 2, 2, none⟩,
            ⟨49, [15, 9], .int .i64 to, 2, 2, none⟩,
            ⟨50, [10, 12, 14, 16, 9], .int .i64 (s2.2.2 : Int), 2, 2, some 2⟩,
            ⟨51, [9], .pointer (some ⟨X, 0, none⟩), 2, 3, none⟩,
            ⟨52, [9], .agg #[.int .i64 lo, .int .i64 sz, .int .i64 to], 2, 3, none⟩,
            ⟨53, [18, 19, 9], .int .i64 (s2.2.2 : Int), 2, 3, some 3⟩,
            ⟨54, [17, 20, 9], .bool false, 4, 4, none⟩,
            ⟨55, [9, 21], .bool false, 4, 4, none⟩,
            ⟨56, [22], .bool false, 4, 4, none⟩,
            ⟨57, [23], .pointer (some ⟨D, 0, none⟩), 4, 4, none⟩,
            ⟨58, [24, 23], .int .i64 (s2.2.2 : Int), 4, 4, none⟩,
            ⟨59, [23], .pointer (some ⟨X, 0, none⟩), 4, 4, none⟩,
            ⟨60, [26, 23], .pointer (some ⟨X, 0, none⟩), 4, 4, none⟩,
            ⟨61, [27, 23], .pointer (some ⟨X, 4, none⟩), 4, 4, none⟩,
            ⟨62, [28, 23], .int .i64 (s2.2.2 : Int), 4, 4, none⟩,
            ⟨63, [25, 29, 23], .bool false, 4, 4, none⟩,
            ⟨64, [23, 30], .bool false, 4, 4, none⟩] 4 (TakesG w D X Pb lo sz to L R s s1 L' R' s2)
          [(5, .pointer (some ⟨D, 0, none⟩)), (8, .pointer (some ⟨Pb, 0, none⟩)), (6, .pointer (some ⟨X, 0, none⟩))] HG0.out (by kernel_rfl) (by kernel_rfl) (by kernel_rfl) (by kernel_rfl) (by kernel_rfl) (by kernel_rfl) ⟨rfl, rfl, rfl, trivial⟩ ?_ ?_
        · repeat' (first | exact OblSAll.nil | refine OblSAll.cons ?_ ?_)
          all_goals (intro ev yi w' c hG hcc hc hf ho hn; simp only [OutsSay, NeedV, rowS, and_true] at ho hn hcc)
          all_goals (try ((simp [OpSays, execOp, Region.wanted, boolOf, go_sem, ho, hn, hc, hG]; done)))
          · rw [if_pos (by simp [Region.wanted])]
            have hb := hG.1.cell 2
            simp only [List.getElem?_cons_zero, List.getElem?_cons_succ] at hb
            simp [OpSays, execOp, go_sem, hn, hb, hG]
          · rw [if_pos (by simp [Region.wanted])]
            exact says_call Try.call15 (vs := #[.pointer (some ⟨D, 0, none⟩), .int .i64 to]) rfl hf (by simp [hn]) (by obtain rfl : c = 0 := hcc; exact takes_0 HA.out hG HF1.out)
          · rw [if_pos (by simp [Region.wanted])]
            have hb := hG.1.cell 2
            simp only [List.getElem?_cons_zero, List.getElem?_cons_succ] at hb
            simp [OpSays, execOp, go_sem, hn, hb, hG]
          · rw [if_pos (by simp [Region.wanted])]
            exact says_call Try.call16 (vs := #[.pointer (some ⟨X, 0, none⟩), .int .i64 to]) rfl hf (by simp [hn]) (by obtain rfl : c = 1 := hcc; exact takes_1 HA.out hG HF3.out)
          · rw [if_pos (by simp [Region.wanted, hn, boolOf])]
            have hb := hG.1.cell 0
            simp only [List.getElem?_cons_zero] at hb
            simp [OpSays, execOp, go_sem, hn, hb, hG]
          · rw [if_pos (by simp [Region.wanted, hn, boolOf])]
            have hb := hG.1.cell 1
            simp only [List.getElem?_cons_zero, List.getElem?_cons_succ] at hb
            simp [OpSays, execOp, go_sem, hn, hb, hG]
          · rw [if_pos (by simp [Region.wanted, hn, boolOf])]
            have hb := hG.1.cell 2
            simp only [List.getElem?_cons_zero, List.getElem?_cons_succ] at hb
            simp [OpSays, execOp, go_sem, hn, hb, hG]
          · rw [if_pos (by simp [Region.wanted, hn, boolOf])]
            exact says_call Try.call17 (vs := #[.pointer (some ⟨D, 0, none⟩), .int .i64 lo, .int .i64 sz, .int .i64 to]) rfl hf (by simp [hn]) (by obtain rfl : c = 2 := hcc; exact takes_2 HA.out hG HT1.out)
          · rw [if_pos (by simp [Region.wanted, hn, boolOf])]
            exact says_load_struct rfl (by simp [ho]) hG.1 Try.underlying29 part_size ⟨rfl, hG⟩
          · rw [if_pos (by simp [Region.wanted, hn, boolOf])]
            exact says_call Try.call18 (vs := #[.pointer (some ⟨X, 0, none⟩), .agg #[.int .i64 lo, .int .i64 sz, .int .i64 to]]) rfl hf (by simp [hn]) (by obtain rfl : c = 3 := hcc; exact takes_3 HA.out hG HT2.out)
          · rw [if_pos (by simp [Region.wanted, hn, boolOf])]
            exact says_call Try.call19 (vs := #[.pointer (some ⟨D, 0, none⟩)]) rfl hf (by simp [hn]) (takes_err hG hcc.1 hcc.2)
          · rw [if_pos (by simp [Region.wanted, hn, boolOf])]
            obtain rfl : c = 4 := by omega
            have hb := hG.2.2.2.err
            simp [OpSays, execOp, go_sem, hn, hb, hG]
        · intro wE hGE
          simp only [layAll, rowS, List.setIfInBounds_toArray, List.set_cons_succ, List.set_cons_zero]
          have HE := Lib.hid hGE
          have hx4 := HE.out.2.2.2.err
          obtain ⟨Ab, nb, mb, hxb, -, hnb, -⟩ := HE.out.2.2.2
          have hx3 := hxb.cell 3
          simp only [List.getElem?_cons_zero, List.getElem?_cons_succ] at hx3
          have hXl := hxb.lt
          clear hGE hxb hd0 hd1 hd2 HF1 HF3 HT1 HT2 HG0 HA HW HP
          obtain ⟨e2, he2⟩ : ∃ e2, e2 = s2.2.2 := ⟨_, rfl⟩
          have HE2 := Lib.hid he2
          rw [← he2] at hx4
          simp only [← he2]
          clear he2
          by_cases hz : e2 = 0
          · subst hz
            by_cases hbn : s2.2.1 = []
            · obtain rfl : nb = 0 := by rw [← hnb, hbn]; rfl
              have HDN := Lib.hid (show doneS s2 = 0 by unfold doneS; rw [if_pos HE2.out.symm, if_pos hbn])
              clear hnb hbn
              have hdone := decDone_any HE.out.2.2.1
              rw [HDN.out] at hdone
              have CD := Lib.hid hdone
              clear hdone
              go_wp2_with fail
              refine CD.out.mono ?_
              rintro _ w5 ⟨rfl, hw5⟩
              subst w5
              clear CD hx4 hx3
              go_wp2
              go_roundw
              case rel => exact ⟨k + 1, L', R', s2, by have := HKS.out; omega, by go_num, HF2.out, HE.out.2.2.1, HE.out.2.2.2, HE.out.2.1⟩
              case measure => have := HKS.out; simp [intOf]; omega
            · have hnp : 0 < nb := by rw [← hnb]; exact List.length_pos_iff.2 hbn
              have hnp2 : (0 : Int) < (nb : Int) := by omega
              have HDN := Lib.hid (show doneS s2 = 16 by unfold doneS; rw [if_pos HE2.out.symm, if_neg hbn])
              clear hnb hbn hnp
              have hdone := decDone_any HE.out.2.2.1
              rw [HDN.out] at hdone
              have CD := Lib.hid hdone
              clear hdone
              go_wp2_with fail
              refine CD.out.mono ?_
              rintro _ w5 ⟨rfl, hw5⟩
              subst w5
              clear CD hx4 hx3
              go_wp2
              go_roundw
              case rel => exact ⟨k + 1, L', R', s2, by have := HKS.out; omega, by go_num, HF2.out, HE.out.2.2.1, HE.out.2.2.2, HE.out.2.1⟩
              case measure => simp [intOf]; omega
          · have hzi : ((e2 : Int) == 0) = false := by simp; omega
            have HDN := Lib.hid (show doneS s2 = e2 by unfold doneS; rw [if_neg (by have := HE2.out; omega)]; exact HE2.out.symm)
            clear hnb hz
            have hdone := decDone_any HE.out.2.2.1
            rw [HDN.out] at hdone
            have CD := Lib.hid hdone
            clear hdone
            go_wp2_with fail
            refine CD.out.mono ?_
            rintro _ w5 ⟨rfl, hw5⟩
            subst w5
            clear CD hx4 hx3
            go_wp2
            go_roundw
            case rel => exact ⟨k + 1, L', R', s2, by have := HKS.out; omega, by go_num, HF2.out, HE.out.2.2.1, HE.out.2.2.2, HE.out.2.1⟩
            case measure => simp [intOf]; omega
      · obtain rfl : n = k := by have := HN.out; omega
        have hxe := HX.out.err
        clear HOK HR HF
        go_wp2
        refine wp_region_grow [⟨83, [], .is (.pointer (some ⟨D, 0, none⟩))⟩,
          ⟨84, [0], .is (.int .i64 (s.2.2 : Int))⟩,
          ⟨85, [], .is (.pointer (some ⟨X, 0, none⟩))⟩,
          ⟨86, [2], .is (.pointer (some ⟨X, 0, none⟩))⟩,
          ⟨87, [3], .is (.pointer (some ⟨X, 4, none⟩))⟩,
          ⟨88, [4], .is (.int .i64 (s.2.2 : Int))⟩,
          ⟨89, [1, 5], .is (.bool true)⟩,
          ⟨90, [6], .is (.bool true)⟩,
          ⟨91, [7], .is (.bool true)⟩,
          ⟨92, [7, 8], .is (.bool true)⟩,
          ⟨4, [9], .is (.bool true)⟩]
          [(5, .pointer (some ⟨D, 0, none⟩)), (6, .pointer (some ⟨X, 0, none⟩))] (by kernel_rfl) (by kernel_rfl) (by kernel_rfl) (by kernel_rfl) (by kernel_rfl) ⟨rfl, rfl, trivial⟩ ?_ ?_
        · repeat' (first | exact OblGAll.nil | refine OblGAll.cons ?_ ?_)
          all_goals (intro ev yi w' hB hc hf ho hn; simp only [OutsSay, NeedSay, rowAt, Fact.says, and_true] at ho hn)
          all_goals (try ((simp [OpSays, execOp, Region.wanted, Fact.says, boolOf, go_sem, ho, hn, hc, Below.refl]; done)))
          · rw [if_pos (by simp [Region.wanted])]
            exact says_call Try.call19 (vs := #[.pointer (some ⟨D, 0, none⟩)]) rfl hf (by simp [hn]) ((decErr_any (HD.out.below hB)).mono fun _ _ h => ⟨_, h.1, rfl, by rw [h.2]; exact Below.refl _ _⟩)
          · rw [if_pos (by simp [Region.wanted])]
            have hb := (HX.out.below hB).err
            simp [OpSays, execOp, go_sem, hn, hb, Fact.says, Below.refl]
          · rw [if_pos (by simp [Region.wanted, hn, boolOf])]
            exact says_call Try.call7 (vs := #[]) rfl hf (by simp) ((CK.out w').mono fun _ _ h => ⟨_, h.1, rfl, h.2⟩)
        · intro X w4 hb4 hx
          have hlast : X 10 = .bool true := hx 10 (by decide)
          clear hx
          have HL := Lib.hid hlast
          clear hlast
          simp only [layAll, List.setIfInBounds_toArray, List.set_cons_succ, List.set_cons_zero]
          go_wp2
          go_ret
          exact ⟨congrArg Ending.returned HL.out, HB.out.trans (hb4.mono HB.out.size)⟩
end Go.Proofs.Ytgdebfjjohoghaa
