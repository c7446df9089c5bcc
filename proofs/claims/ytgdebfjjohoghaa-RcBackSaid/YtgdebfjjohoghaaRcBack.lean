/- Layer 17: the law RcBack. -/
import Derived.Test.YtgdebfjjohoghaaRcPuts
namespace Go.Proofs.Ytgdebfjjohoghaa
open Go.RowKit Go.Sort Go.Shelf

/-- Parts as cells. -/
def s3vs (l : List S3) : List Value := l.flatMap fun s => [.int .i64 s.kind, .int .i64 s.i, .int .i64 s.n]
theorem s3vs_snoc (l : List S3) (s : S3) : s3vs (l ++ [s]) = s3vs l ++ [.int .i64 s.kind, .int .i64 s.i, .int .i64 s.n] := by simp [s3vs]
theorem s3vs_length : ∀ (l : List S3), (s3vs l).length = l.length * 3
  | [] => rfl
  | s :: l => by
    have h : s3vs (s :: l) = [.int .i64 s.kind, .int .i64 s.i, .int .i64 s.n] ++ s3vs l := rfl
    rw [h, List.length_append, s3vs_length l, List.length_cons]
    simp only [List.length_cons, List.length_nil]
    omega
theorem s3vs_get : ∀ (l : List S3) (i : Nat) (s : S3), l[i]? = some s → (s3vs l)[i * 3]? = some (.int .i64 s.kind) ∧ (s3vs l)[i * 3 + 1]? = some (.int .i64 s.i) ∧ (s3vs l)[i * 3 + 2]? = some (.int .i64 s.n)
  | [], _, _, h => by simp at h
  | x :: l, 0, s, h => by simp at h; subst h; exact ⟨rfl, rfl, rfl⟩
  | x :: l, i + 1, s, h => by
    have hx : s3vs (x :: l) = [.int .i64 x.kind, .int .i64 x.i, .int .i64 x.n] ++ s3vs l := rfl
    obtain ⟨h0, h1, h2⟩ := s3vs_get l i s (by simpa using h)
    have e : ∀ j, (s3vs (x :: l))[(i + 1) * 3 + j]? = (s3vs l)[i * 3 + j]? := fun j => by
      rw [hx, show (i + 1) * 3 + j = (i * 3 + j) + 3 by omega]
      rfl
    refine ⟨?_, ?_, ?_⟩
    · have := e 0; rw [Nat.add_zero, Nat.add_zero] at this; rw [this]; exact h0
    · rw [e 1]; exact h1
    · rw [e 2]; exact h2
theorem RdS3.of_rd {w : World} {B : Nat} {A : Option Addr} {ss : List S3} (h : Rd w B A (s3vs ss)) : RdS3 w B A ss := fun i s hi => by
  obtain ⟨h0, h1, h2⟩ := s3vs_get ss i s hi
  obtain ⟨b, off, rfl, hb, c0⟩ := h _ _ h0
  obtain ⟨b1, off1, e1, -, c1⟩ := h _ _ h1
  obtain ⟨b2, off2, e2, -, c2⟩ := h _ _ h2
  injection e1 with e1
  injection e1 with f1 g1
  injection e2 with e2
  injection e2 with f2 g2
  subst f1 g1 f2 g2
  exact ⟨b, off, rfl, hb, c0, c1, c2⟩
/-- The parts that may be, as they are. -/
def keptS (ss : List S3) : List S3 := ss.filter fun s => mayP s.kind s.i s.n
theorem keptS_snoc (ss : List S3) (s : S3) : keptS (ss ++ [s]) = keptS ss ++ if mayP s.kind s.i s.n = true then [s] else [] := by
  unfold keptS
  rw [List.filter_append]
  congr 1
  by_cases h : mayP s.kind s.i s.n = true
  · rw [if_pos h]; simp [h]
  · rw [if_neg h]; simp [h]
theorem keptS_len (ss : List S3) : (keptS ss).length ≤ ss.length := List.length_filter_le _ _
theorem keptS_parts (ss : List S3) : (keptS ss).map partOf = partsOf ss := rfl
theorem u8s_nat : ∀ (o : List Nat), (∀ x ∈ o, x < 256) → (u8s o).map UInt8.toNat = o
  | [], _ => rfl
  | x :: o, h => by
    have h1 := h x (by simp)
    have := u8s_nat o fun y hy => h y (by simp [hy])
    simp only [u8s, List.map_cons] at this ⊢
    rw [this, show (UInt8.ofNat x).toNat = x by rw [UInt8.toNat_ofNat']; omega]
theorem comesS_start {B : List Nat} (hB : ∀ y ∈ B, y < 256) (hl : 4 ≤ B.length) : comesS 4 (0, B, 0) = (num4 B, B.drop 4, 0) := by
  match B, hl with
  | a :: b :: c :: d :: T, _ => exact comesS_four a b c d T hB
/-- A part found, and taken. -/
theorem back_round {L R : Nat} {p : RcPart} {rest : List RcPart} {B : List Nat} (h : Laid L R (p :: rest) B) (hs : InSpan L R) (hR : 65536 ≤ R) (hp : ∀ q ∈ p :: rest, q.ok) :
    ∃ (n L' R' : Nat) (T : List Nat), Laid L' R' rest T ∧ InSpan L' R' ∧ 65536 ≤ R' ∧ p.low ≤ n ∧ n < p.low + p.size ∧ n ≤ 65536 ∧
      (∀ (w : World) (D K : Nat), DecAt w D K L R (num4 B, B.drop 4, 0) → Calls Try.prog 15 #[.pointer (some ⟨D, 0, none⟩), .int .i64 (p.total : Int)] w fun e w' => e = .returned (.int .i64 (n : Int)) ∧ DecAt w' D K L R (num4 B, B.drop 4, 0) ∧ TurnsB D D w w') ∧
      (∀ (w : World) (D K : Nat), DecAt w D K L R (num4 B, B.drop 4, 0) → Calls Try.prog 17 #[.pointer (some ⟨D, 0, none⟩), .int .i64 (p.low : Int), .int .i64 (p.size : Int), .int .i64 (p.total : Int)] w fun e w' => e = .returned (.int .i64 0) ∧ DecAt w' D K L' R' (num4 T, T.drop 4, 0) ∧ TurnsB D D w w') := by
  obtain ⟨w1, w2, w3, w4⟩ := h.within hs hR hp
  obtain ⟨p1, p2, p3⟩ := hp p List.mem_cons_self
  obtain ⟨n1, n2, n3, n4⟩ := narrow_span hs hR p1 p2 p3
  cases h with
  | part _ _ _ _ o T L' R' hm hr =>
    obtain ⟨i1, i2⟩ := hm.inside n4
    obtain ⟨t1, t2, t3, t4⟩ := hr.within i1 i2 fun q hq => hp q (List.mem_cons_of_mem _ hq)
    obtain ⟨q1, q2⟩ := hm.within n4 T t1 t2 t3 t4
    have hC : num4 (o ++ T) < 4294967296 := by have := hs.2.2.1; omega
    obtain ⟨n, f1, f2, f3⟩ := findS_in (L := L) (R := R) (C := num4 (o ++ T)) (low := p.low) (size := p.size) (total := p.total) w3 hC n1 q1 q2 p2
    have hcm := comesS_num o T 0 w1 t2
    refine ⟨n, L', R', T, hr, i1, i2, f2, f3, by omega, fun w D K hd => ?_, fun w D K hd => ?_⟩
    · have := decFind_ok p.total hd hs hR (by omega) p3
      rw [f1] at this
      exact this
    · have := decTake_ok hd hs hR p1 p2 p3 hm
      rw [hcm] at this
      exact this
theorem part_info : (Try.prog.info? 29).map (fun i => (i.zero, i.size, i.bytes)) = some (some (.agg #[.int .i64 0, .int .i64 0, .int .i64 0]), 3, 24) := by kernel_rfl
/-- What holds at the head of a round of the first loop. -/
def BackRel1 (w : World) (E : Nat) (ss : List S3) (v i : Value) (wr : World) : Prop :=
  ∃ (k L R : Nat) (o : List Nat), k ≤ ss.length ∧ i = .int .i64 (k : Int) ∧ Enc (partsOf (ss.take k)) L R o ∧ EncAt wr E L R o ∧ wr.ownsRow w.heap.size 29 3 v (keptS (ss.take k)).length (s3vs (keptS (ss.take k))) ∧ Below w.heap.size w wr
/-- What holds at the head of a round of the second loop. -/
def BackRel2 (w4 : World) (D : Nat) (ps : List RcPart) (i : Value) (wr : World) : Prop :=
  ∃ (j L R : Nat) (T : List Nat), j ≤ ps.length ∧ i = .int .i64 (j : Int) ∧ Laid L R (ps.drop j) T ∧ InSpan L R ∧ 65536 ≤ R ∧ DecAt wr D D L R (num4 T, T.drop 4, 0) ∧ Below w4.heap.size w4 wr
set_option maxHeartbeats 4000000 in
set_option maxRecDepth 100000 in
theorem rcBack_law (A : Option Addr) (n m : Nat) (ss : List S3) (w : World) (hr : RdS3 w w.heap.size A ss) (hn : ss.length = n) (hok : ∀ s ∈ ss, S3Ok s) (h63 : n ≤ 9223372036854775807) :
    Calls Try.prog 5 #[.slice A n m] w (Yes w) := by
  have CK := Lib.hid rcKnown_any
  obtain ⟨i0, hi0, hz0, hz1, hz2⟩ := info_parts part_info
  by_cases h300 : 300 < n
  · have h2 : (300 : Int) < (n : Int) := by omega
    clear hr hn hok
    go_enter Try.func5, Try.ntmps5
    go_wp2_with fail
    refine (CK.out _).mono ?_
    rintro e w' ⟨rfl, hb⟩
    go_wp2
    go_ret
    exact ⟨rfl, hb⟩
  · have h2 : ¬ ((300 : Int) < (n : Int)) := by omega
    have hn300 : n ≤ 300 := by omega
    have HR := Lib.hid hr
    have HN := Lib.hid hn
    have HOK := Lib.hid hok
    have HN3 := Lib.hid hn300
    clear hr hn hok h63 hn300
    go_enter Try.func5, Try.ntmps5
    go_wp2_with fail
    refine (rcBegin_any w).mono ?_
    rintro _ w1 ⟨E, rfl, hE, he1, hb1⟩
    have HREL := Lib.hid (show BackRel1 w E ss (.slice none 0 0) (.int .i64 ((0 : Nat) : Int)) w1 from ⟨0, 0, 4294967295, [], Nat.zero_le _, rfl, by simpa [partsOf] using Enc.nil, he1, by simpa [keptS, s3vs] using World.ownsRow_nil _ _ _ _, hb1⟩)
    have HE := Lib.hid hE
    clear he1 hb1 hE
    go_wp2
    go_loopw [4, 5] (BackRel1 w E ss) (fun _ i _ => n - (intOf i).toNat)
    case atStart => exact HREL.out
    case round =>
      clear HREL
      obtain ⟨k, L, R, o, hk, rfl, henc, hat, hown, hb⟩ := hrel
      obtain ⟨Av, cv, rfl, -, -, -⟩ := own_form hown
      have HEN := Lib.hid henc
      have HAT := Lib.hid hat
      have HOWN := Lib.hid hown
      have HB := Lib.hid hb
      clear henc hat hown hb
      have hql : (keptS (ss.take k)).length ≤ 300 := by
        have h1 := keptS_len (ss.take k)
        rw [List.length_take] at h1
        have := HN.out
        have := HN3.out
        omega
      obtain ⟨q, hq⟩ : ∃ q, q = (keptS (ss.take k)).length := ⟨_, rfl⟩
      rw [← hq] at hql HOWN ⊢
      by_cases hlt : k < n
      · have hks : k < ss.length := by have := HN.out; omega
        obtain ⟨ab, ao, rfl, hab, hc0, hc1, hc2⟩ := HR.out k ss[k] (List.getElem?_eq_getElem hks)
        have hsn := take_snocS ss hks
        obtain ⟨s, hs⟩ : ∃ s, s = ss[k]'hks := ⟨_, rfl⟩
        have hsok : S3Ok s := HOK.out s (by rw [hs]; exact List.getElem_mem hks)
        rw [← hs] at hc0 hc1 hc2 hsn
        have hl1000 : ss.length ≤ 1000 := by have := HN.out; have := HN3.out; omega
        obtain ⟨L', R', o', hen2, CP2⟩ := encPut_one hks hs hsok hl1000 HEN.out (HAT.out.same (w' := wr.drew) rfl)
        have HEN2 := Lib.hid hen2
        have hd0 := (HB.out.cell (p := ⟨ab, _, none⟩) hab).trans hc0
        have hd1 := (HB.out.cell (p := ⟨ab, _, none⟩) hab).trans hc1
        have hd2 := (HB.out.cell (p := ⟨ab, _, none⟩) hab).trans hc2
        have HC0 := Lib.hid hc0
        have HC1 := Lib.hid hc1
        have HC2 := Lib.hid hc2
        have HAB := Lib.hid hab
        have HSN := Lib.hid hsn
        have HQ := Lib.hid hq
        have CQ := Lib.hid CP2
        obtain ⟨lo, sz, to⟩ := s
        dsimp only at CQ hd0 hd1 hd2 HC0 HC1 HC2
        have hki : (k : Int) < (n : Int) := by omega
        have hk300 : (k : Int) ≤ 300 := by have := HN3.out; omega
        have HKS := Lib.hid (And.intro hks hlt)
        have hkp := keptS_snoc (ss.take k) ⟨lo, sz, to⟩
        rw [← hsn] at hkp
        have HKP := Lib.hid hkp
        dsimp only at HKP
        clear hc0 hc1 hc2 hs hsok hl1000 hen2 CP2 hsn hq hkp HEN
        obtain ⟨mb, hmb⟩ : ∃ mb, mb = mayP lo sz to := ⟨_, rfl⟩
        rw [← hmb] at CQ HKP
        clear hmb
        cases mb with
        | true =>
          go_wp2
          refine wp_region_seq [⟨21, [], .pointer (some ⟨E, 0, none⟩), 0, 0, none⟩,
              ⟨22, [], .slice (some ⟨ab, ao, none⟩) n m, 0, 0, none⟩,
              ⟨23, [], .int .i64 (k : Int), 0, 0, none⟩,
              ⟨24, [1, 2], .pointer (some ⟨ab, ao + k * 3, none⟩), 0, 0, none⟩,
              ⟨25, [3], .pointer (some ⟨ab, ao + k * 3, none⟩), 0, 0, none⟩,
              ⟨26, [4], .int .i64 lo, 0, 0, none⟩,
              ⟨27, [], .slice (some ⟨ab, ao, none⟩) n m, 0, 0, none⟩,
              ⟨28, [], .int .i64 (k : Int), 0, 0, none⟩,
              ⟨29, [6, 7], .pointer (some ⟨ab, ao + k * 3, none⟩), 0, 0, none⟩,
              ⟨30, [8], .pointer (some ⟨ab, ao + k * 3 + 1, none⟩), 0, 0, none⟩,
              ⟨31, [9], .int .i64 sz, 0, 0, none⟩,
              ⟨32, [], .slice (some ⟨ab, ao, none⟩) n m, 0, 0, none⟩,
              ⟨33, [], .int .i64 (k : Int), 0, 0, none⟩,
              ⟨34, [11, 12], .pointer (some ⟨ab, ao + k * 3, none⟩), 0, 0, none⟩,
              ⟨35, [13], .pointer (some ⟨ab, ao + k * 3 + 2, none⟩), 0, 0, none⟩,
              ⟨36, [14], .int .i64 to, 0, 0, none⟩,
              ⟨37, [0, 5, 10, 15], .int .i64 0, 0, 0, some 0⟩,
              ⟨38, [16], .bool true, 1, 1, none⟩] 1 (OneG wr.drew fun W => EncAt W E L' R' o' ∧ OnlyT E encT wr.drew W)
            [(3, .pointer (some ⟨E, 0, none⟩)), (0, .slice (some ⟨ab, ao, none⟩) n m), (5, .int .i64 (k : Int))] (OneG.zero _ _) (by kernel_rfl) (by kernel_rfl) (by kernel_rfl) (by kernel_rfl) (by kernel_rfl) (by kernel_rfl) ⟨rfl, rfl, rfl, trivial⟩ ?_ ?_
          · repeat' (first | exact OblSAll.nil | refine OblSAll.cons ?_ ?_)
            all_goals (intro ev yi w' c hG hcc hc hf ho hn; simp only [OutsSay, NeedV, rowS, and_true] at ho hn hcc)
            all_goals (try ((simp [OpSays, execOp, Region.wanted, go_sem, ho, hn, hc, hG, hki]; done)))
            · rw [if_pos (by simp [Region.wanted])]
              obtain rfl : c = 0 := by omega
              obtain rfl : w' = wr.drew := hG
              simp [OpSays, execOp, go_sem, hn, hd0, OneG]
            · rw [if_pos (by simp [Region.wanted])]
              obtain rfl : c = 0 := by omega
              obtain rfl : w' = wr.drew := hG
              simp [OpSays, execOp, go_sem, hn, hd1, OneG]
            · rw [if_pos (by simp [Region.wanted])]
              obtain rfl : c = 0 := by omega
              obtain rfl : w' = wr.drew := hG
              simp [OpSays, execOp, go_sem, hn, hd2, OneG]
            · rw [if_pos (by simp [Region.wanted])]
              exact says_call Try.call10 (vs := #[.pointer (some ⟨E, 0, none⟩), .int .i64 lo, .int .i64 sz, .int .i64 to]) rfl hf (by simp [hn]) (by rw [hcc] at hG; rw [show w' = wr.drew from hG]; exact CQ.out.mono fun _ _ h => ⟨_, h.1, rfl, h.2⟩)
          · intro wE hGE
            simp only [layAll, rowS, List.setIfInBounds_toArray, List.set_cons_succ, List.set_cons_zero]
            have hq : EncAt wE E L' R' o' ∧ OnlyT E encT wr.drew wE := hGE
            have HQ2 := Lib.hid hq
            have hbe : Below w.heap.size w wE := HB.out.drew.trans (encT_only hq.2 HE.out (Nat.le_of_lt HAT.out.lt))
            have hoe : wE.ownsRow w.heap.size 29 3 (.slice Av q cv) q (s3vs (keptS (ss.take k))) := own_only (own_drew HOWN.out) hq.2 (by decide)
            have HBE := Lib.hid hbe
            have HOE := Lib.hid hoe
            clear hq hGE hd0 hd1 hd2
            have hd0 := (hbe.cell (p := ⟨ab, _, none⟩) HAB.out).trans HC0.out
            have hd1 := (hbe.cell (p := ⟨ab, _, none⟩) HAB.out).trans HC1.out
            have hd2 := (hbe.cell (p := ⟨ab, _, none⟩) HAB.out).trans HC2.out
            have HQL := Lib.hid hql
            clear hbe hoe CQ HOWN HB HAT
            go_wp2_with ((with_reducible show wpList _ _ _ (({ dst := some 45, op := _, type := _, pos := _, after := _, guard := _ } : Oper) :: _) _ _); go_must (refine wpList_app rfl (.tmp 39) (.tmp 44) 22 rfl w.heap.size 29 i0 (.agg #[.int .i64 0, .int .i64 0, .int .i64 0]) 3 24 Try.underlying22 hi0 hz0 hz1 hz2 rfl (by decide) _ _ _ rfl (HOE.out.alloc _) _ _ 1 1 _ rfl (Rd.new _ _ _) rfl (by intro u hu; simp at hu; rcases hu with rfl | rfl | rfl <;> rfl) (by have := HQL.out; simp only [maxLen]; omega) (by have := HQL.out; omega) (by have := HBE.out.size; simp; omega) ?_; intro v3 w3 hown3 hg3; have HOWN3 := Lib.hid hown3; have HG3 := Lib.hid hg3; clear hown3 hg3))
            have ha : OnlyT w.heap.size [29] wE (wE.alloc (.cells #[.int .i64 lo, .int .i64 sz, .int .i64 to] 29)) := OnlyT.of_below ((Below.refl _ _).alloc (Nat.le_refl _) _)
            have hg : OnlyT w.heap.size [29] (wE.alloc (.cells #[.int .i64 lo, .int .i64 sz, .int .i64 to] 29)) w3 := OnlyT.grown HG3.out (own_type (HOE.out.alloc _)) (by simp)
            have hot := ha.trans hg
            have H1 := Lib.hid (HQ2.out.1.only hot (by decide) (by decide))
            have H2 := Lib.hid (HBE.out.trans (hot.below HBE.out.size))
            have hkq : (keptS (ss.take (k + 1))).length = q + 1 := by rw [HKP.out, if_pos trivial, List.length_append, ← HQ.out, List.length_singleton]
            have hkv : s3vs (keptS (ss.take (k + 1))) = s3vs (keptS (ss.take k)) ++ [.int .i64 lo, .int .i64 sz, .int .i64 to] := by rw [HKP.out, if_pos trivial, s3vs_snoc]
            have H3 := Lib.hid (show w3.ownsRow w.heap.size 29 3 v3 (keptS (ss.take (k + 1))).length (s3vs (keptS (ss.take (k + 1)))) by rw [hkq, hkv]; exact HOWN3.out)
            clear ha hg hot hkq hkv HOWN3 HG3 hd0 hd1 hd2
            go_wp2
            go_roundw
            case rel => exact ⟨k + 1, L', R', o', by have := HKS.out; omega, by go_num, HEN2.out, H1.out, H3.out, H2.out⟩
            case measure => have := HKS.out; simp [intOf]; omega
        | false =>
          go_wp2
          refine wp_region_seq [⟨21, [], .pointer (some ⟨E, 0, none⟩), 0, 0, none⟩,
              ⟨22, [], .slice (some ⟨ab, ao, none⟩) n m, 0, 0, none⟩,
              ⟨23, [], .int .i64 (k : Int), 0, 0, none⟩,
              ⟨24, [1, 2], .pointer (some ⟨ab, ao + k * 3, none⟩), 0, 0, none⟩,
              ⟨25, [3], .pointer (some ⟨ab, ao + k * 3, none⟩), 0, 0, none⟩,
              ⟨26, [4], .int .i64 lo, 0, 0, none⟩,
              ⟨27, [], .slice (some ⟨ab, ao, none⟩) n m, 0, 0, none⟩,
              ⟨28, [], .int .i64 (k : Int), 0, 0, none⟩,
              ⟨29, [6, 7], .pointer (some ⟨ab, ao + k * 3, none⟩), 0, 0, none⟩,
              ⟨30, [8], .pointer (some ⟨ab, ao + k * 3 + 1, none⟩), 0, 0, none⟩,
              ⟨31, [9], .int .i64 sz, 0, 0, none⟩,
              ⟨32, [], .slice (some ⟨ab, ao, none⟩) n m, 0, 0, none⟩,
              ⟨33, [], .int .i64 (k : Int), 0, 0, none⟩,
              ⟨34, [11, 12], .pointer (some ⟨ab, ao + k * 3, none⟩), 0, 0, none⟩,
              ⟨35, [13], .pointer (some ⟨ab, ao + k * 3 + 2, none⟩), 0, 0, none⟩,
              ⟨36, [14], .int .i64 to, 0, 0, none⟩,
              ⟨37, [0, 5, 10, 15], .int .i64 2, 0, 0, some 0⟩,
              ⟨38, [16], .bool false, 1, 1, none⟩] 1 (OneG wr.drew fun W => EncAt W E L' R' o' ∧ OnlyT E encT wr.drew W)
            [(3, .pointer (some ⟨E, 0, none⟩)), (0, .slice (some ⟨ab, ao, none⟩) n m), (5, .int .i64 (k : Int))] (OneG.zero _ _) (by kernel_rfl) (by kernel_rfl) (by kernel_rfl) (by kernel_rfl) (by kernel_rfl) (by kernel_rfl) ⟨rfl, rfl, rfl, trivial⟩ ?_ ?_
          · repeat' (first | exact OblSAll.nil | refine OblSAll.cons ?_ ?_)
            all_goals (intro ev yi w' c hG hcc hc hf ho hn; simp only [OutsSay, NeedV, rowS, and_true] at ho hn hcc)
            all_goals (try ((simp [OpSays, execOp, Region.wanted, go_sem, ho, hn, hc, hG, hki]; done)))
            · rw [if_pos (by simp [Region.wanted])]
              obtain rfl : c = 0 := by omega
              obtain rfl : w' = wr.drew := hG
              simp [OpSays, execOp, go_sem, hn, hd0, OneG]
            · rw [if_pos (by simp [Region.wanted])]
              obtain rfl : c = 0 := by omega
              obtain rfl : w' = wr.drew := hG
              simp [OpSays, execOp, go_sem, hn, hd1, OneG]
            · rw [if_pos (by simp [Region.wanted])]
              obtain rfl : c = 0 := by omega
              obtain rfl : w' = wr.drew := hG
              simp [OpSays, execOp, go_sem, hn, hd2, OneG]
            · rw [if_pos (by simp [Region.wanted])]
              exact says_call Try.call10 (vs := #[.pointer (some ⟨E, 0, none⟩), .int .i64 lo, .int .i64 sz, .int .i64 to]) rfl hf (by simp [hn]) (by rw [hcc] at hG; rw [show w' = wr.drew from hG]; exact CQ.out.mono fun _ _ h => ⟨_, h.1, rfl, h.2⟩)
          · intro wE hGE
            simp only [layAll, rowS, List.setIfInBounds_toArray, List.set_cons_succ, List.set_cons_zero]
            have hq : EncAt wE E L' R' o' ∧ OnlyT E encT wr.drew wE := hGE
            have HQ2 := Lib.hid hq
            have hbe : Below w.heap.size w wE := HB.out.drew.trans (encT_only hq.2 HE.out (Nat.le_of_lt HAT.out.lt))
            have hoe : wE.ownsRow w.heap.size 29 3 (.slice Av q cv) q (s3vs (keptS (ss.take k))) := own_only (own_drew HOWN.out) hq.2 (by decide)
            have HBE := Lib.hid hbe
            have HOE := Lib.hid hoe
            clear hq hGE hd0 hd1 hd2
            have hkq : keptS (ss.take (k + 1)) = keptS (ss.take k) := by rw [HKP.out]; simp
            have H3 := Lib.hid (show wE.ownsRow w.heap.size 29 3 (.slice Av q cv) (keptS (ss.take (k + 1))).length (s3vs (keptS (ss.take (k + 1)))) by rw [hkq, ← HQ.out]; exact hoe)
            clear hbe hoe CQ HOWN HB HAT hkq HOE
            go_wp2
            go_roundw
            case rel => exact ⟨k + 1, L', R', o', by have := HKS.out; omega, by go_num, HEN2.out, HQ2.out.1, H3.out, HBE.out⟩
            case measure => have := HKS.out; simp [intOf]; omega
      · obtain rfl : n = k := by have := HN.out; omega
        have htk : ss.take n = ss := List.take_of_length_le (by have := HN.out; omega)
        rw [htk] at hq HOWN HEN
        have hins := HEN.out.inside (partsOf_ok _)
        have hol : o.length ≤ 90000 := by
          have h1 := hins.2.2.2
          have h2 := partsOf_len ss
          have := HN.out
          have := HN3.out
          omega
        have hlaid := HEN.out.bytes
        obtain ⟨b1, b2, -, -⟩ := hlaid.within span_start (by decide) (partsOf_ok _)
        have c1 := encBytes_any HAT.out hins.1.1 hol
        have hol2 : (o ++ be4 L).length ≤ 100000 := by rw [List.length_append, show (be4 L).length = 4 from rfl]; omega
        obtain ⟨Bs, hBs⟩ : ∃ Bs, Bs = o ++ be4 L := ⟨_, rfl⟩
        rw [← hBs] at c1 b1 b2 hlaid hol2
        have C1 := Lib.hid c1
        have HP := Lib.hid (show RdS3 wr wr.heap.size Av (keptS ss) from RdS3.of_rd (Rd.of_own HOWN.out))
        have HLA := Lib.hid hlaid
        have HB1 := Lib.hid (And.intro b1 b2)
        have HOL := Lib.hid hol2
        have HQ := Lib.hid hq
        have hq300 : (q : Int) ≤ 300 := by omega
        clear hins hol hol2 hBs c1 hlaid b1 b2 HEN HAT HOWN htk hq HOK HR h2 hlt
        obtain ⟨Wr, hWr⟩ : ∃ Wr, Wr = wr := ⟨_, rfl⟩
        subst hWr
        go_wp2_with fail
        refine C1.out.mono ?_
        rintro _ w5 ⟨v5, rfl, hown5, hb5⟩
        obtain ⟨A5, c5, rfl, -, -, -⟩ := own_form hown5
        have c2 := decRead_any (w := w5) (m := c5) (u8s Bs) (Rd.of_own hown5) (u8s_length _) (by have := HOL.out; omega)
        rw [u8s_nat _ HB1.out.1, comesS_start HB1.out.1 HB1.out.2] at c2
        have C2 := Lib.hid c2
        have HB5 := Lib.hid hb5
        clear c2 hown5 hb5 C1
        go_wp2_with fail
        refine C2.out.mono ?_
        rintro _ w6 ⟨D, rfl, hD, hd, hb6⟩
        have HDS := Lib.hid (show Wr.heap.size ≤ D from Nat.le_trans HB5.out.size hD)
        have HREL := Lib.hid (show BackRel2 Wr D (partsOf ss) (.int .i64 ((0 : Nat) : Int)) w6 from ⟨0, 0, 4294967295, Bs, Nat.zero_le _, rfl, HLA.out, span_start, by decide, hd, HB5.out.trans (hb6.mono HB5.out.size)⟩)
        clear hD hd hb6 C2 HB5 HLA HB1 HOL
        go_wp2
        go_loopw [7] (BackRel2 Wr D (partsOf ss)) (fun i _ => q - (intOf i).toNat)
        case atStart => exact HREL.out
        case round =>
          clear HREL
          obtain ⟨j, L1, R1, T, hj, rfl, hla, hi, hR, hd, hb⟩ := hrel
          have hpl : (partsOf ss).length = q := by rw [HQ.out, ← keptS_parts, List.length_map]
          have HD := Lib.hid hd
          have HBB := Lib.hid hb
          clear hd hb
          by_cases hlt : j < q
          · have hjs : j < (keptS ss).length := by rw [← HQ.out]; exact hlt
            obtain ⟨pb, po, rfl, hpb, hc0, hc1, hc2⟩ := HP.out j (keptS ss)[j] (List.getElem?_eq_getElem hjs)
            obtain ⟨s, hs⟩ : ∃ s, s = (keptS ss)[j]'hjs := ⟨_, rfl⟩
            have hmay : mayP s.kind s.i s.n = true := by
              have hm : s ∈ keptS ss := by rw [hs]; exact List.getElem_mem hjs
              exact (List.mem_filter.1 hm).2
            have hdr : (partsOf ss).drop j = partOf s :: (partsOf ss).drop (j + 1) := by
              rw [List.drop_eq_getElem_cons (show j < (partsOf ss).length by omega)]
              congr 1
              rw [hs]
              simp [← keptS_parts]
            rw [hdr] at hla
            rw [← hs] at hc0 hc1 hc2
            obtain ⟨x, L2, R2, T2, k1, k2, k3, k4, k5, k6, CF, CT⟩ := back_round hla hi hR (fun p hp => partsOf_ok ss p (List.mem_of_mem_drop (by rw [hdr]; exact hp)))
            obtain ⟨⟨o1, o2, o3⟩, e1, e2, e3⟩ := partOf_ok hmay
            rw [e3] at CF CT
            rw [e1, e2] at CT
            have hlow : ¬ ((x : Int) < s.kind) := by omega
            have hhi : ¬ (s.kind + s.i ≤ (x : Int)) := by omega
            have hws : wrap64 (s.kind + s.i) = s.kind + s.i := IntWalk.wrap64_in _ (by omega)
            have hd0 := (HBB.out.cell (p := ⟨pb, _, none⟩) hpb).trans hc0
            have hd1 := (HBB.out.cell (p := ⟨pb, _, none⟩) hpb).trans hc1
            have hd2 := (HBB.out.cell (p := ⟨pb, _, none⟩) hpb).trans hc2
            have HF := Lib.hid CF
            have HT := Lib.hid CT
            have HK := Lib.hid (And.intro k1 (And.intro k2 k3))
            have HJ := Lib.hid (And.intro hlt hpl)
            have HWS := Lib.hid hws
            have HLH := Lib.hid (And.intro hlow hhi)
            obtain ⟨lo, sz, to⟩ := s
            dsimp only at hd0 hd1 hd2 HF HT HWS HLH
            have hji : (j : Int) < (q : Int) := by omega
            have hj300 : (j : Int) ≤ 300 := by omega
            obtain ⟨w3, hw3⟩ : ∃ w3, w3 = wr.alloc (.cells #[.int .i64 lo, .int .i64 sz, .int .i64 to] 29) := ⟨_, rfl⟩
            obtain ⟨Pb, hPb⟩ : ∃ Pb, Pb = wr.heap.size := ⟨_, rfl⟩
            have hb3 : Below wr.heap.size wr w3 := by rw [hw3]; exact (Below.refl _ _).alloc (Nat.le_refl _) _
            have hpk : Blk w3 Pb 29 [.int .i64 lo, .int .i64 sz, .int .i64 to] := by rw [hw3, hPb]; exact heap_alloc_new wr _
            have hDP : D < Pb := by rw [hPb]; exact HD.out.lt
            have HPK := Lib.hid hpk
            have HDP := Lib.hid hDP
            have HD3 := Lib.hid (HD.out.below hb3)
            have HB3 := Lib.hid (HBB.out.trans (hb3.mono HBB.out.size))
            have hp2 := hpk.cell 2
            simp only [List.getElem?_cons_zero, List.getElem?_cons_succ] at hp2
            have HW := Lib.hid hw3
            have HPP := Lib.hid hPb
            clear hj hla hi hR hpl hjs hpb hc0 hc1 hc2 hs hmay hdr k1 k2 k3 k4 k5 k6 CF CT o1 o2 o3 e1 e2 e3 hlow hhi hws hw3 hPb hb3 hpk hDP HD HBB hlt
            go_wp2_with fail
            simp only [← HW.out, ← HPP.out]
            refine (HF.out w3 D D HD3.out).mono ?_
            rintro _ w7 ⟨rfl, hd7, ht7⟩
            have hpk7 := ht7.blk HPK.out (by have := HDP.out; omega) (by have := HDP.out; omega)
            have hp0 := hpk7.cell 0
            have hp1 := hpk7.cell 1
            have hp2 := hpk7.cell 2
            simp only [List.getElem?_cons_zero, List.getElem?_cons_succ] at hp0 hp1 hp2
            have HD7 := Lib.hid hd7
            have HB7 := Lib.hid (HB3.out.trans (ht7.below HDS.out HDS.out HB3.out.size))
            obtain ⟨hlow, hhi⟩ := HLH.out
            have hws := HWS.out
            clear hd7 ht7 hpk7 HF HD3 HB3 HW HPP HPK hd0 hd1 hd2
            go_wp2_with fail
            refine (HT.out w7 D D HD7.out).mono ?_
            rintro _ w8 ⟨rfl, hd8, ht8⟩
            have HD8 := Lib.hid hd8
            have HB8 := Lib.hid (HB7.out.trans (ht8.below HDS.out HDS.out HB7.out.size))
            clear hd8 ht8 HT HD7 HB7 hp0 hp1 hp2 hws HWS HLH
            have hin : lo ≤ (x : Int) ∧ (x : Int) < lo + sz := by omega
            go_wp2
            go_roundw
            case rel => exact ⟨j + 1, L2, R2, T2, by have := HJ.out; omega, by go_num, HK.out.1, HK.out.2.1, HK.out.2.2, HD8.out, HB8.out⟩
            case measure => have := HJ.out; simp [intOf]; omega
          · obtain rfl : j = q := by omega
            rw [List.drop_of_length_le (Nat.le_of_eq hpl)] at hla
            have hT : T = be4 L1 := by
              cases hla with
              | last => rfl
            have CD := Lib.hid (decDone_any HD.out)
            rw [show doneS (num4 T, T.drop 4, 0) = 0 by rw [hT]; rfl] at CD
            have HBW := Lib.hid (HB.out.trans (HBB.out.mono HB.out.size))
            clear hla hT hpl hi hR hj HP HD HBB HB hlt
            go_wp2_with fail
            refine CD.out.mono ?_
            rintro _ w7 ⟨rfl, hw7⟩
            subst w7
            go_wp2_with fail
            refine (CK.out _).mono ?_
            rintro _ w8 ⟨rfl, hb8⟩
            have HB8 := Lib.hid (HBW.out.trans (hb8.mono HBW.out.size))
            clear hb8
            go_wp2
            go_ret
            exact ⟨rfl, HB8.out⟩
end Go.Proofs.Ytgdebfjjohoghaa
