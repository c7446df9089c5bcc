/- Layer 28: the reference's Read. -/
import Derived.Test.YtnfkekaeppgaoaaOptRd
namespace Go.Proofs.Ytnfkekaeppgaoaa
open Go.RowKit Go.Sort

def boolC (s : List Bool) : List Value := s.map fun x => .bool x
def keyCs : List Value := [.string (strA (keyL 0)), .string (strA (keyL 1)), .string (strA (keyL 2)), .string (strA (keyL 3))]
theorem keyC_at {k : Nat} (hk : k < 4) : keyCs[k]? = some (.string (strA (keyL k))) := by
  rcases (show k = 0 ∨ k = 1 ∨ k = 2 ∨ k = 3 by omega) with rfl | rfl | rfl | rfl <;> rfl
/-- What Read's blocks hold. -/
structure RdW (W w : World) (R O K E g : Nat) (cur : Array Value) (st : List Int × List Bool) : Prop where
  res : Blk w R 24 [.int .i64 0, .int .i64 0, .int .i64 0, .int .i64 0]
  opt : Blk w O 24 (optC st.1)
  keys : Blk w K 42 keyCs
  seen : Blk w E 43 (boolC st.2)
  row : w.heap[g]? = some (.cells cur 9 (0, 0))
  below : Below W.heap.size W w
theorem RdW.drew {W w : World} {R O K E g : Nat} {cur : Array Value} {st : List Int × List Bool} (h : RdW W w R O K E g cur st) : RdW W w.drew R O K E g cur st :=
  ⟨h.res, h.opt, h.keys, h.seen, h.row, h.below.drew⟩
theorem RdW.grow {W w w' : World} {R O K E g : Nat} {cur : Array Value} {st : List Int × List Bool} (h : RdW W w R O K E g cur st) (hb : Below w.heap.size w w') : RdW W w' R O K E g cur st :=
  ⟨h.res.grow hb, h.opt.grow hb, h.keys.grow hb, h.seen.grow hb, (hb.block g (Array.getElem?_eq_some_iff.1 h.row).1).trans h.row, h.below.trans (hb.mono h.below.size)⟩
theorem cutG_pos (c : UInt8) : ∀ (l cur : List UInt8), 0 < (cutG c cur l).length
  | [], _ => by simp [cutG]
  | x :: t, cur => by
    unfold cutG
    split
    · simp
    · exact cutG_pos c t _
/-- Does a text begin with a key? -/
theorem begins_key {x k : List UInt8} (h : k.length ≤ x.length) : (((strA x).extract 0 k.length).toList == (strA k).toList) = decide (k <+: x) := by
  rw [strA_extract, strA_list, strA_list, List.drop_zero, Nat.sub_zero]
  by_cases hp : k <+: x
  · obtain ⟨t, rfl⟩ := hp
    simp
  · rw [decide_eq_false hp, beq_eq_false_iff_ne]
    intro e
    exact hp ⟨x.drop k.length, by
      have := List.take_append_drop k.length x
      rwa [e] at this⟩
theorem RdW.mark {W w : World} {R O K E g : Nat} {cur : Array Value} {st : List Int × List Bool} (h : RdW W w R O K E g cur st) (hord : R < O ∧ O < K ∧ K < E ∧ E < g) (hW : R = W.heap.size) (j : Nat) : RdW W (w.setCell ⟨E, j, none⟩ (.bool true)) R O K E g cur (st.1, st.2.set j true) := by
  refine ⟨h.res.setOther _ _ (by simp only; omega), h.opt.setOther _ _ (by simp only; omega), h.keys.setOther _ _ (by simp only; omega), ?_, (Below.heap_setCell w _ _ g (by simp only; omega)).trans h.row, h.below.setCell (p := ⟨E, j, none⟩) (by simp only; omega) _⟩
  have := h.seen.set_ j (.bool true)
  unfold boolC at this ⊢
  rwa [← List.map_set] at this
theorem RdW.put {W w : World} {R O K E g : Nat} {cur : Array Value} {o : List Int} {s : List Bool} (h : RdW W w R O K E g cur (o, s)) (hord : R < O ∧ O < K ∧ K < E ∧ E < g) (hW : R = W.heap.size) (c : Nat) (n : Int) : RdW W (w.setCell ⟨O, c, none⟩ (.int .i64 n)) R O K E g cur (o.set c n, s) := by
  refine ⟨h.res.setOther _ _ (by simp only; omega), ?_, h.keys.setOther _ _ (by simp only; omega), h.seen.setOther _ _ (by simp only; omega), (Below.heap_setCell w _ _ g (by simp only; omega)).trans h.row, h.below.setCell (p := ⟨O, c, none⟩) (by simp only; omega) _⟩
  have := h.opt.set_ c (.int .i64 n)
  rwa [optC_set] at this
def atI (x : List UInt8) (k : Nat) : Int := if keyAt x < k then (keyAt x : Int) else -1
theorem atI_next {x : List UInt8} {k : Nat} (hk : k < 4) : atI x (k + 1) = if keyL k <+: x then (k : Int) else atI x k := by
  have h1 := keyAt_one (x := x) hk
  unfold atI
  by_cases h : keyL k <+: x
  · rw [if_pos h, h1.1 h, if_pos (by omega)]
  · rw [if_neg h]
    have : keyAt x ≠ k := fun e => h (h1.2 e)
    by_cases hl : keyAt x < k
    · rw [if_pos hl, if_pos (by omega)]
    · rw [if_neg hl, if_neg (by omega)]
theorem boolC_at {s : List Bool} (hs : s.length = 4) {k : Nat} (hk : k < 4) : (boolC s)[k]? = some (.bool (s.getD k false)) := by
  unfold boolC
  rw [List.getElem?_map, List.getD_eq_getElem?_getD, List.getElem?_eq_getElem (by omega)]
  rfl
/-- What holds at the head of a round of Read. -/
def OutP (P : List (List UInt8)) (W : World) (R O K E g : Nat) (cur : Array Value) (iv : Value) (wr : World) : Prop :=
  ∃ (i : Nat) (st : List Int × List Bool), i ≤ P.length ∧ iv = .int .i64 (i : Int) ∧ RdW W wr R O K E g cur st ∧ st.1.length = 4 ∧ st.2.length = 4 ∧ pairsR P ([65536, 1, 0, 6], seen0) = pairsR (P.drop i) st
/-- .. and in it at the head of a round over the keys. -/
def InP (x : List UInt8) (W : World) (R O K E g : Nat) (cur : Array Value) (st : List Int × List Bool) (av kv : Value) (wr : World) : Prop :=
  ∃ k : Nat, k ≤ 4 ∧ kv = .int .i64 (k : Int) ∧ av = .int .i64 (atI x k) ∧ RdW W wr R O K E g cur st
set_option maxRecDepth 100000 in
set_option maxHeartbeats 4000000 in
theorem refRead_any {l : List UInt8} (hl : l.length ≤ 1000) (W : World) : Calls Try.prog 9 #[.string (strA l)] W fun e w' => e = .returned (.tuple #[optA (readR l).1, .int .i64 ((readR l).2 : Int)]) ∧ Below W.heap.size W w' := by
  have CF := Lib.hid refFirst_any
  have CC := Lib.hid (refCut_any l 32 hl)
  have hem := strA_empty l
  have HR := Lib.hid (readR_all l)
  unfold optV at CF
  obtain ⟨S, hS⟩ : ∃ S, S = strA l := ⟨_, rfl⟩
  rw [← hS] at CC hem ⊢
  clear hS
  by_cases hl0 : l = []
  · have hem2 : S.toList.isEmpty = true := by rw [hem, hl0]; rfl
    have hrd : readR l = ([65536, 1, 0, 6], 0) := by rw [hl0]; rfl
    have HRD := Lib.hid hrd
    clear hem hrd CC HR
    go_enter Try.func9, Try.ntmps9
    go_wp2_with fail
    refine (CF.out _).mono ?_
    rintro e w1 ⟨rfl, hb1⟩
    have hR1 : Blk w1 W.heap.size 24 [.int .i64 0, .int .i64 0, .int .i64 0, .int .i64 0] := (hb1.block _ (by simp)).trans (heap_alloc_new W _)
    have HB1 := Lib.hid (((Below.refl W.heap.size W).alloc (Nat.le_refl _) _).trans (hb1.mono (by simp)))
    have HR1 := Lib.hid hR1
    have q0 := hR1.cell 0
    have q1 := hR1.cell 1
    have q2 := hR1.cell 2
    have q3 := hR1.cell 3
    have f0 := hR1.frozen 0
    have f1 := hR1.frozen 1
    have f2 := hR1.frozen 2
    have f3 := hR1.frozen 3
    have hlt := hR1.lt
    have HS := Lib.hid (below4 HB1.out (Nat.le_refl _) (.int .i64 65536) (.int .i64 1) (.int .i64 0) (.int .i64 6))
    clear hb1 hR1
    simp only [List.getElem?_cons_zero, List.getElem?_cons_succ] at q0 q1 q2 q3
    go_wp2
    exact bodyPost_ret (results_cell_tmp Try.results9 _ _ W.heap.size 24 _ (0, 0) _ rfl ((set4 HR1.out _ _ _ _).alloc_ _) Try.underlying24 rfl size_opt) rfl ⟨by rw [HRD.out]; rfl, HS.out.alloc HS.out.size _⟩
  · have hem2 : S.toList.isEmpty = false := by rw [hem]; cases l with | nil => exact absurd rfl hl0 | cons a t => rfl
    have hra : rAll l [65536, 1, 0, 6] = pairsR (cutL 32 l) ([65536, 1, 0, 6], seen0) := if_neg hl0
    rw [hra] at HR
    clear hem hra hl0
    go_enter Try.func9, Try.ntmps9
    go_wp2_with fail
    refine (CF.out _).mono ?_
    rintro e w1 ⟨rfl, hb1⟩
    have hR1 : Blk w1 W.heap.size 24 [.int .i64 0, .int .i64 0, .int .i64 0, .int .i64 0] := (hb1.block _ (by simp)).trans (heap_alloc_new W _)
    have HB1 := Lib.hid (((Below.refl W.heap.size W).alloc (Nat.le_refl _) _).trans (hb1.mono (by simp)))
    have HR1 := Lib.hid hR1
    clear hb1 hR1
    go_wp2_with fail
    have hOb : Blk (w1.alloc (.cells #[.int .i64 65536, .int .i64 1, .int .i64 0, .int .i64 6] 24)) w1.heap.size 24 (optC [65536, 1, 0, 6]) := heap_alloc_new w1 _
    obtain ⟨w2, hw2⟩ : ∃ w2, w2 = w1.alloc (.cells #[.int .i64 65536, .int .i64 1, .int .i64 0, .int .i64 6] 24) := ⟨_, rfl⟩
    have hs2 : w2.heap.size = w1.heap.size + 1 := by rw [hw2]; simp
    have HR2 := HR1.out.alloc_ (.cells #[.int .i64 65536, .int .i64 1, .int .i64 0, .int .i64 6] 24)
    have HB2 := HB1.out.alloc HB1.out.size (.cells #[.int .i64 65536, .int .i64 1, .int .i64 0, .int .i64 6] 24)
    have hRO := HR1.out.lt
    rw [← hw2] at hOb HR2 HB2
    have hKb : Blk (w2.alloc (.cells keyCs.toArray 42)) w2.heap.size 42 keyCs := heap_alloc_new w2 _
    obtain ⟨w3, hw3⟩ : ∃ w3, w3 = w2.alloc (.cells keyCs.toArray 42) := ⟨_, rfl⟩
    have hs3 : w3.heap.size = w1.heap.size + 1 + 1 := by rw [hw3]; simp [hs2]
    have hO3 := hOb.alloc_ (.cells keyCs.toArray 42)
    have hR3 := HR2.alloc_ (.cells keyCs.toArray 42)
    have hB3 := HB2.alloc HB2.size (.cells keyCs.toArray 42)
    rw [← hw3] at hKb hO3 hR3 hB3
    rw [hs2] at hKb
    have hEb : Blk (w3.alloc (.cells #[.bool false, .bool false, .bool false, .bool false] 43)) w3.heap.size 43 (boolC seen0) := heap_alloc_new w3 _
    obtain ⟨w4, hw4⟩ : ∃ w4, w4 = w3.alloc (.cells #[.bool false, .bool false, .bool false, .bool false] 43) := ⟨_, rfl⟩
    have hs4 : w4.heap.size = w1.heap.size + 1 + 1 + 1 := by rw [hw4]; simp [hs3]
    have hO4 := hO3.alloc_ (.cells #[.bool false, .bool false, .bool false, .bool false] 43)
    have hR4 := hR3.alloc_ (.cells #[.bool false, .bool false, .bool false, .bool false] 43)
    have hK4 := hKb.alloc_ (.cells #[.bool false, .bool false, .bool false, .bool false] 43)
    have hB4 := hB3.alloc hB3.size (.cells #[.bool false, .bool false, .bool false, .bool false] 43)
    rw [← hw4] at hEb hO4 hR4 hK4 hB4
    rw [hs3] at hEb
    have e4 : ((w1.alloc (.cells #[.int .i64 65536, .int .i64 1, .int .i64 0, .int .i64 6] 24)).alloc (.cells #[.string ⟨#[98, 108, 111, 99, 107, 61]⟩, .string ⟨#[119, 105, 100, 116, 104, 61]⟩, .string ⟨#[114, 101, 99, 105, 112, 101, 61]⟩, .string ⟨#[109, 111, 100, 101, 61]⟩] 42)).alloc (.cells #[.bool false, .bool false, .bool false, .bool false] 43) = w4 := by
      rw [hw4, hw3, hw2]
      rfl
    rw [e4]
    obtain ⟨R, hRR⟩ : ∃ R, R = W.heap.size := ⟨_, rfl⟩
    obtain ⟨O, hOO⟩ : ∃ O, O = w1.heap.size := ⟨_, rfl⟩
    obtain ⟨K, hKK⟩ : ∃ K, K = w1.heap.size + 1 := ⟨_, rfl⟩
    obtain ⟨E, hEE⟩ : ∃ E, E = w1.heap.size + 1 + 1 := ⟨_, rfl⟩
    rw [← hRR] at hR4 hRO ⊢
    rw [← hOO] at hO4 hRO
    rw [← hKK] at hK4
    rw [← hEE] at hEb
    rw [← hEE, ← hKK, ← hOO]
    have HRT := Lib.hid hRR
    refine (CC.out w4).mono ?_
    rintro e w5 ⟨v5, rfl, ho5, hb5⟩
    obtain ⟨hlen5, hrow⟩ := ho5
    have hP1 : 0 < (cutL 32 l).length := cutG_pos 32 l []
    rcases hrow with ⟨-, h0⟩ | ⟨g, cap, cur, rfl, hg1, hg2, hg3, hcm, -, hg6⟩
    · omega
    have hget : ∀ i x, (cutL 32 l)[i]? = some x → w5.cell? ⟨g, i, none⟩ = some (.string (strA x)) := fun i x hx => by
      have h1 : (svsS (cutL 32 l))[i]? = some (.string (strA x)) := by unfold svsS; rw [List.getElem?_map, hx]; rfl
      rw [← hg6, List.getElem?_take_of_lt (by have := (List.getElem?_eq_some_iff.1 hx).1; omega)] at h1
      simp [World.cell?, hg2]
      simpa using h1
    have HW5 := Lib.hid (show RdW W w5 R O K E g cur ([65536, 1, 0, 6], seen0) from ⟨hR4.grow hb5, hO4.grow hb5, hK4.grow hb5, hEb.grow hb5, hg2, hB4.trans (hb5.mono hB4.size)⟩)
    have HGE := Lib.hid hget
    have HCU := Lib.hid hg2
    have HORD := Lib.hid (show R < O ∧ O < K ∧ K < E ∧ E < g from ⟨hRO, by omega, by omega, by omega⟩)
    obtain ⟨P, hP⟩ : ∃ P, P = cutL 32 l := ⟨_, rfl⟩
    rw [← hP] at HR HGE hlen5 hP1 hg3 ⊢
    clear HR1 HB1 HR2 HB2 hO3 hR3 hB3 hKb hEb hO4 hR4 hK4 hB4 hOb hs2 hs3 hs4 hw2 hw3 hw4 e4 hRO hb5 hg6 hget hRR hOO hKK hEE hP hg2 CC CF
    go_wp2_with fail
    obtain ⟨N, hN⟩ : ∃ N, N = P.length := ⟨_, rfl⟩
    rw [← hN]
    have HN := Lib.hid hN
    have hNm : N ≤ 9223372036854775807 := by
      have : (maxLen : Nat) ≤ 9223372036854775807 := by decide
      omega
    clear hcm
    go_loopw [8, 9, 10, 11, 12] (fun iv _ _ _ _ wr => OutP P W R O K E g cur iv wr) (fun iv _ _ _ _ _ => N - (intOf iv).toNat)
    case atStart => exact ⟨0, ([65536, 1, 0, 6], seen0), Nat.zero_le _, rfl, HW5.out, rfl, rfl, rfl⟩
    case round =>
      obtain ⟨i, st, hi, rfl, hRW, hl1, hl2, hpr⟩ := hrel
      have HRW := Lib.hid hRW
      have HL1 := Lib.hid hl1
      have HL2 := Lib.hid hl2
      have HPR := Lib.hid hpr
      have hiN : i ≤ N := by rw [hN]; exact hi
      clear hRW hl1 hl2 hpr hi
      by_cases hlt : i < N
      · have hiP : i < P.length := by omega
        obtain ⟨x, hx⟩ : ∃ x, P[i]? = some x := ⟨_, List.getElem?_eq_getElem hiP⟩
        have HGX := Lib.hid (fun (w : World) (h : w.heap[g]? = some (.cells cur 9 (0, 0))) => show w.cell? ⟨g, i, none⟩ = some (.string (strA x)) from (World.cell?_of_block (w := w5) (h.trans HCU.out.symm)).trans (HGE.out i x hx))
        have HDR := Lib.hid (show P.drop i = x :: P.drop (i + 1) by
          rw [List.drop_eq_getElem_cons hiP]
          congr 1
          exact Option.some.inj ((List.getElem?_eq_getElem hiP).symm.trans hx))
        have hii : (i : Int) < (N : Int) := by omega
        obtain ⟨X, hX⟩ : ∃ X, X = strA x := ⟨_, rfl⟩
        rw [← hX] at HGX
        have HX := Lib.hid hX
        have HIP := Lib.hid hiP
        clear hx hX hlt hiP hN
        go_wp2
        go_loopw [9, 11] (fun av kv wq => InP x W R O K E g cur st av kv wq) (fun _ kv _ => 4 - (intOf kv).toNat)
        case atStart => exact ⟨0, by decide, rfl, rfl, HRW.out⟩
        case round =>
          obtain ⟨k, hk, rfl, rfl, hQ⟩ := hrel
          have HQ := Lib.hid hQ
          have hcx := HGX.out _ hQ.row
          by_cases hk4 : k < 4
          · have hki : (k : Int) < 4 := by omega
            have hck := hQ.keys.cell k
            rw [keyC_at hk4] at hck
            have HAT := Lib.hid (atI_next (x := x) hk4)
            have hszX : X.size = x.length := by rw [HX.out]; exact strA_size x
            have hszK : (strA (keyL k)).size = (keyL k).length := strA_size _
            by_cases hlen : (keyL k).length ≤ x.length
            · have hbg := begins_key hlen
              rw [← HX.out] at hbg
              obtain ⟨Kk, hKk⟩ : ∃ Kk, Kk = strA (keyL k) := ⟨_, rfl⟩
              obtain ⟨mk, hmk⟩ : ∃ mk, mk = (keyL k).length := ⟨_, rfl⟩
              obtain ⟨nx, hnx⟩ : ∃ nx, nx = x.length := ⟨_, rfl⟩
              rw [← hKk] at hck hszK hbg
              rw [← hmk] at hszK hbg hlen
              rw [← hnx] at hszX hlen
              have hleni : (mk : Int) ≤ (nx : Int) := by omega
              have HKn := Lib.hid hnx
              by_cases hpf : keyL k <+: x
              · rw [decide_eq_true hpf] at hbg
                have HAT2 := Lib.hid (HAT.out.trans (if_pos hpf))
                clear hQ hKk hmk hpf hnx HAT
                go_wp2_with fail
                go_region
                all_goals
                  go_wp2
                  go_roundw
                  case rel => exact ⟨k + 1, by omega, by go_num, by rw [HAT2.out], HQ.out.drew⟩
                  case measure => simp [intOf]; omega
              · rw [decide_eq_false hpf] at hbg
                have HAT2 := Lib.hid (HAT.out.trans (if_neg hpf))
                clear hQ hKk hmk hpf hnx HAT
                go_wp2_with fail
                go_region
                all_goals
                  go_wp2
                  go_roundw
                  case rel => exact ⟨k + 1, by omega, by go_num, by rw [HAT2.out], HQ.out.drew⟩
                  case measure => simp [intOf]; omega
            · have hpf : ¬ keyL k <+: x := fun h => hlen h.length_le
              obtain ⟨Kk, hKk⟩ : ∃ Kk, Kk = strA (keyL k) := ⟨_, rfl⟩
              obtain ⟨mk, hmk⟩ : ∃ mk, mk = (keyL k).length := ⟨_, rfl⟩
              obtain ⟨nx, hnx⟩ : ∃ nx, nx = x.length := ⟨_, rfl⟩
              rw [← hKk] at hck hszK
              rw [← hmk] at hszK hlen
              rw [← hnx] at hszX hlen
              have hleni : ¬ (mk : Int) ≤ (nx : Int) := by omega
              have HAT2 := Lib.hid (HAT.out.trans (if_neg hpf))
              clear hQ hKk hmk hpf hnx HAT
              go_wp2_with fail
              go_region
              all_goals
                go_wp2
                go_roundw
                case rel => exact ⟨k + 1, by omega, by go_num, by rw [HAT2.out], HQ.out.drew⟩
                case measure => simp [intOf]; omega
          · obtain rfl : k = 4 := by omega
            clear hQ
            have hpx : ∀ r, pairR st x = r → pairsR P ([65536, 1, 0, 6], seen0) = r.bind (pairsR (P.drop (i + 1))) := fun r h => by rw [HPR.out, HDR.out, pairsR, h]
            by_cases hka : keyAt x < 4
            · obtain ⟨j, hj⟩ : ∃ j, j = keyAt x := ⟨_, rfl⟩
              have hj4 : j < 4 := by omega
              have hat : atI x 4 = (j : Int) := by unfold atI; rw [if_pos hka, hj]
              rw [hat]
              have HJ4 := Lib.hid hj4
              have hse := HQ.out.seen.cell j
              rw [boolC_at HL2.out hj4] at hse
              have hji : (j : Int) < 4 := by omega
              have hjn : ¬ (j : Int) < 0 := by omega
              cases hsn : st.2.getD j false with
              | true =>
                rw [hsn] at hse
                have hpn : pairR st x = none := by unfold pairR; rw [if_pos (.inr (by rw [← hj]; exact hsn))]
                have hrd : readR l = ([0, 0, 0, 0], 30) := by rw [HR.out, hpx _ hpn]; rfl
                have HRD := Lib.hid hrd
                clear hpn hrd hat hj hsn hpx hcx hka hj4
                have q0 := HQ.out.res.cell 0
                have q1 := HQ.out.res.cell 1
                have q2 := HQ.out.res.cell 2
                have q3 := HQ.out.res.cell 3
                have f0 := HQ.out.res.frozen 0
                have f1 := HQ.out.res.frozen 1
                have f2 := HQ.out.res.frozen 2
                have f3 := HQ.out.res.frozen 3
                simp only [List.getElem?_cons_zero, List.getElem?_cons_succ] at q0 q1 q2 q3
                go_wp2
                exact bodyPost_ret (results_cell_tmp Try.results9 _ _ R 24 _ (0, 0) _ rfl (set4 HQ.out.res _ _ _ _) Try.underlying24 rfl size_opt) rfl ⟨by rw [HRD.out]; rfl, below4 HQ.out.below (Nat.le_of_eq HRT.out.symm) _ _ _ _⟩
              | false =>
                rw [hsn] at hse
                have hpre : keyL j <+: x := (keyAt_one hj4).2 hj.symm
                have hlen := hpre.length_le
                have hck := HQ.out.keys.cell j
                rw [keyC_at hj4] at hck
                have hszX : X.size = x.length := by rw [HX.out]; exact strA_size x
                have hszK : (strA (keyL j)).size = (keyL j).length := strA_size _
                have hcut : X.extract (keyL j).length x.length = strA (x.drop (keyL j).length) := by
                  rw [HX.out, strA_extract, List.take_of_length_le (by rw [List.length_drop]; omega)]
                have hpv : pairR st x = if valR j (x.drop (keyL j).length) < 0 then none else some (st.1.set j (valR j (x.drop (keyL j).length)), st.2.set j true) := by
                  unfold pairR
                  rw [if_neg, ← hj]
                  rw [← hj]
                  rintro (h | h)
                  · omega
                  · rw [hsn] at h; cases h
                obtain ⟨Kk, hKk⟩ : ∃ Kk, Kk = strA (keyL j) := ⟨_, rfl⟩
                obtain ⟨v, hv⟩ : ∃ v, v = x.drop (keyL j).length := ⟨_, rfl⟩
                rw [← hv] at hcut hpv
                obtain ⟨mk, hmk⟩ : ∃ mk, mk = (keyL j).length := ⟨_, rfl⟩
                obtain ⟨nx, hnx⟩ : ∃ nx, nx = x.length := ⟨_, rfl⟩
                rw [← hKk] at hck hszK
                rw [← hmk] at hszK hlen hcut
                rw [← hnx] at hszX hlen hcut
                have hleni : (mk : Int) ≤ (nx : Int) := by omega
                have HPV := Lib.hid hpv
                have HPX := Lib.hid hpx
                have HCT := Lib.hid hcut
                have HJ := Lib.hid hj
                clear hpv hpx hcut hKk hmk hnx hpre hat hj hsn hka hv
                go_wp2_with fail
                go_region
                all_goals
                  rw [HCT.out]
                  obtain ⟨w8, hw8⟩ : ∃ w8, w8 = wr.drew := ⟨_, rfl⟩
                  have HQ8 := Lib.hid HQ.out.drew
                  rw [← hw8] at HQ8 ⊢
                  have HLT := Lib.hid hii
                  clear hw8 hcx hse hck hszX hszK hlen hleni
                  by_cases h3 : j = 3
                  · have h3i : ((j : Int) == 3) = true := by rw [beq_iff_eq]; omega
                    have CM := Lib.hid (fun w => refMode_any (nameAt_mode v) w)
                    go_wp2_with fail
                    refine (CM.out _).mono ?_
                    rintro e w9 ⟨rfl, hb9⟩
                    have HQ9 := Lib.hid (HQ8.out.grow hb9)
                    clear hb9 CM h3i
                    obtain ⟨nv, hnv⟩ : ∃ nv, nv = valR j v := ⟨_, rfl⟩
                    have HNV := Lib.hid hnv
                    rw [show modeR (modeAt v) = nv by rw [hnv]; unfold valR; rw [if_pos h3]]
                    clear hnv
                    by_cases hneg : nv < 0
                    · have hrd : readR l = ([0, 0, 0, 0], 30) := by rw [HR.out, HPX.out _ (HPV.out.trans (if_pos (by rw [← HNV.out]; exact hneg)))]; rfl
                      have HRD := Lib.hid hrd
                      clear hrd
                      have q0 := HQ9.out.res.cell 0
                      have q1 := HQ9.out.res.cell 1
                      have q2 := HQ9.out.res.cell 2
                      have q3 := HQ9.out.res.cell 3
                      have f0 := HQ9.out.res.frozen 0
                      have f1 := HQ9.out.res.frozen 1
                      have f2 := HQ9.out.res.frozen 2
                      have f3 := HQ9.out.res.frozen 3
                      simp only [List.getElem?_cons_zero, List.getElem?_cons_succ] at q0 q1 q2 q3
                      go_wp2
                      exact bodyPost_ret (results_cell_tmp Try.results9 _ _ R 24 _ (0, 0) _ rfl (set4 HQ9.out.res _ _ _ _) Try.underlying24 rfl size_opt) rfl ⟨by rw [HRD.out]; rfl, below4 HQ9.out.below (Nat.le_of_eq HRT.out.symm) _ _ _ _⟩
                    · have HNN := Lib.hid (HPV.out.trans (if_neg (show ¬ valR j v < 0 by rw [← HNV.out]; exact hneg)))
                      have hE9 := HQ9.out.seen.cell j
                      have hE9f := HQ9.out.seen.frozen j
                      rw [boolC_at HL2.out HJ4.out] at hE9
                      obtain ⟨ob, hob⟩ : ∃ ob, ob = st.2.getD j false := ⟨_, rfl⟩
                      rw [← hob] at hE9
                      clear hob
                      obtain ⟨jv, hjv⟩ : ∃ jv : Int, jv = (j : Int) := ⟨_, rfl⟩
                      rw [← hjv]
                      obtain rfl : jv = 3 := by omega
                      obtain rfl : j = 3 := by omega
                      clear hjv
                      have hO9 : (w9.setCell ⟨E, 3, none⟩ (.bool true)).cell? ⟨O, 3, none⟩ = (optC st.1)[(3 : Nat)]? := (HQ9.out.mark HORD.out HRT.out 3).opt.cell 3
                      have hO9f := (HQ9.out.mark HORD.out HRT.out 3).opt.frozen 3
                      rw [show (optC st.1)[(3 : Nat)]? = some (.int .i64 (st.1.getD 3 0)) by unfold optC; rw [List.getElem?_map, List.getD_eq_getElem?_getD, List.getElem?_eq_getElem (by have := HL1.out; omega)]; rfl] at hO9
                      obtain ⟨ov, hov⟩ : ∃ ov, ov = st.1.getD 3 0 := ⟨_, rfl⟩
                      rw [← hov] at hO9
                      have HQN := Lib.hid ((HQ9.out.mark HORD.out HRT.out 3).put HORD.out HRT.out 3 nv)
                      clear hov
                      go_wp2
                      go_roundw
                      case rel =>
                        refine ⟨i + 1, (st.1.set 3 nv, st.2.set 3 true), HIP.out, by go_num, HQN.out, by simpa using HL1.out, by simpa using HL2.out, ?_⟩
                        rw [HPX.out _ HNN.out, ← HNV.out]
                        rfl
                      case measure =>
                        have e1 := HLT.out
                        simp [intOf]
                        omega
                  · have h3i : ((j : Int) == 3) = false := by rw [beq_eq_false_iff_ne]; omega
                    have CM := Lib.hid (fun w => refNumber_any v w)
                    go_wp2_with fail
                    refine (CM.out _).mono ?_
                    rintro e w9 ⟨rfl, hw9⟩
                    subst hw9
                    have HQ9 := HQ8
                    clear CM h3i
                    obtain ⟨nv, hnv⟩ : ∃ nv, nv = valR j v := ⟨_, rfl⟩
                    have HNV := Lib.hid hnv
                    rw [show numR (numO v) = nv by rw [hnv]; unfold valR; rw [if_neg h3]]
                    clear hnv
                    by_cases hneg : nv < 0
                    · have hrd : readR l = ([0, 0, 0, 0], 30) := by rw [HR.out, HPX.out _ (HPV.out.trans (if_pos (by rw [← HNV.out]; exact hneg)))]; rfl
                      have HRD := Lib.hid hrd
                      clear hrd
                      have q0 := HQ9.out.res.cell 0
                      have q1 := HQ9.out.res.cell 1
                      have q2 := HQ9.out.res.cell 2
                      have q3 := HQ9.out.res.cell 3
                      have f0 := HQ9.out.res.frozen 0
                      have f1 := HQ9.out.res.frozen 1
                      have f2 := HQ9.out.res.frozen 2
                      have f3 := HQ9.out.res.frozen 3
                      simp only [List.getElem?_cons_zero, List.getElem?_cons_succ] at q0 q1 q2 q3
                      go_wp2
                      exact bodyPost_ret (results_cell_tmp Try.results9 _ _ R 24 _ (0, 0) _ rfl (set4 HQ9.out.res _ _ _ _) Try.underlying24 rfl size_opt) rfl ⟨by rw [HRD.out]; rfl, below4 HQ9.out.below (Nat.le_of_eq HRT.out.symm) _ _ _ _⟩
                    · have HNN := Lib.hid (HPV.out.trans (if_neg (show ¬ valR j v < 0 by rw [← HNV.out]; exact hneg)))
                      have hE9 := HQ9.out.seen.cell j
                      have hE9f := HQ9.out.seen.frozen j
                      rw [boolC_at HL2.out HJ4.out] at hE9
                      obtain ⟨ob, hob⟩ : ∃ ob, ob = st.2.getD j false := ⟨_, rfl⟩
                      rw [← hob] at hE9
                      clear hob
                      rcases (show j = 0 ∨ j = 1 ∨ j = 2 by omega) with hjx | hjx | hjx
                      · obtain ⟨jv, hjv⟩ : ∃ jv : Int, jv = (j : Int) := ⟨_, rfl⟩
                        rw [← hjv]
                        obtain rfl : jv = 0 := by omega
                        obtain rfl : j = 0 := by omega
                        clear hjv
                        have hO9 : (w9.setCell ⟨E, 0, none⟩ (.bool true)).cell? ⟨O, 0, none⟩ = (optC st.1)[(0 : Nat)]? := (HQ9.out.mark HORD.out HRT.out 0).opt.cell 0
                        have hO9f := (HQ9.out.mark HORD.out HRT.out 0).opt.frozen 0
                        rw [show (optC st.1)[(0 : Nat)]? = some (.int .i64 (st.1.getD 0 0)) by unfold optC; rw [List.getElem?_map, List.getD_eq_getElem?_getD, List.getElem?_eq_getElem (by have := HL1.out; omega)]; rfl] at hO9
                        obtain ⟨ov, hov⟩ : ∃ ov, ov = st.1.getD 0 0 := ⟨_, rfl⟩
                        rw [← hov] at hO9
                        have HQN := Lib.hid ((HQ9.out.mark HORD.out HRT.out 0).put HORD.out HRT.out 0 nv)
                        clear hov
                        go_wp2
                        go_roundw
                        case rel =>
                          refine ⟨i + 1, (st.1.set 0 nv, st.2.set 0 true), HIP.out, by go_num, HQN.out, by simpa using HL1.out, by simpa using HL2.out, ?_⟩
                          rw [HPX.out _ HNN.out, ← HNV.out]
                          rfl
                        case measure =>
                          have e1 := HLT.out
                          simp [intOf]
                          omega
                      · obtain ⟨jv, hjv⟩ : ∃ jv : Int, jv = (j : Int) := ⟨_, rfl⟩
                        rw [← hjv]
                        obtain rfl : jv = 1 := by omega
                        obtain rfl : j = 1 := by omega
                        clear hjv
                        have hO9 : (w9.setCell ⟨E, 1, none⟩ (.bool true)).cell? ⟨O, 1, none⟩ = (optC st.1)[(1 : Nat)]? := (HQ9.out.mark HORD.out HRT.out 1).opt.cell 1
                        have hO9f := (HQ9.out.mark HORD.out HRT.out 1).opt.frozen 1
                        rw [show (optC st.1)[(1 : Nat)]? = some (.int .i64 (st.1.getD 1 0)) by unfold optC; rw [List.getElem?_map, List.getD_eq_getElem?_getD, List.getElem?_eq_getElem (by have := HL1.out; omega)]; rfl] at hO9
                        obtain ⟨ov, hov⟩ : ∃ ov, ov = st.1.getD 1 0 := ⟨_, rfl⟩
                        rw [← hov] at hO9
                        have HQN := Lib.hid ((HQ9.out.mark HORD.out HRT.out 1).put HORD.out HRT.out 1 nv)
                        clear hov
                        go_wp2
                        go_roundw
                        case rel =>
                          refine ⟨i + 1, (st.1.set 1 nv, st.2.set 1 true), HIP.out, by go_num, HQN.out, by simpa using HL1.out, by simpa using HL2.out, ?_⟩
                          rw [HPX.out _ HNN.out, ← HNV.out]
                          rfl
                        case measure =>
                          have e1 := HLT.out
                          simp [intOf]
                          omega
                      · obtain ⟨jv, hjv⟩ : ∃ jv : Int, jv = (j : Int) := ⟨_, rfl⟩
                        rw [← hjv]
                        obtain rfl : jv = 2 := by omega
                        obtain rfl : j = 2 := by omega
                        clear hjv
                        have hO9 : (w9.setCell ⟨E, 2, none⟩ (.bool true)).cell? ⟨O, 2, none⟩ = (optC st.1)[(2 : Nat)]? := (HQ9.out.mark HORD.out HRT.out 2).opt.cell 2
                        have hO9f := (HQ9.out.mark HORD.out HRT.out 2).opt.frozen 2
                        rw [show (optC st.1)[(2 : Nat)]? = some (.int .i64 (st.1.getD 2 0)) by unfold optC; rw [List.getElem?_map, List.getD_eq_getElem?_getD, List.getElem?_eq_getElem (by have := HL1.out; omega)]; rfl] at hO9
                        obtain ⟨ov, hov⟩ : ∃ ov, ov = st.1.getD 2 0 := ⟨_, rfl⟩
                        rw [← hov] at hO9
                        have HQN := Lib.hid ((HQ9.out.mark HORD.out HRT.out 2).put HORD.out HRT.out 2 nv)
                        clear hov
                        go_wp2
                        go_roundw
                        case rel =>
                          refine ⟨i + 1, (st.1.set 2 nv, st.2.set 2 true), HIP.out, by go_num, HQN.out, by simpa using HL1.out, by simpa using HL2.out, ?_⟩
                          rw [HPX.out _ HNN.out, ← HNV.out]
                          rfl
                        case measure =>
                          have e1 := HLT.out
                          simp [intOf]
                          omega
            · have hat : atI x 4 = -1 := by unfold atI; rw [if_neg hka]
              rw [hat]
              have hpn : pairR st x = none := by unfold pairR; rw [if_pos (.inl (by have := keyAt_le x; omega))]
              have hrd : readR l = ([0, 0, 0, 0], 30) := by rw [HR.out, hpx _ hpn]; rfl
              have HRD := Lib.hid hrd
              clear hpn hrd hat hpx hcx hka
              have q0 := HQ.out.res.cell 0
              have q1 := HQ.out.res.cell 1
              have q2 := HQ.out.res.cell 2
              have q3 := HQ.out.res.cell 3
              have f0 := HQ.out.res.frozen 0
              have f1 := HQ.out.res.frozen 1
              have f2 := HQ.out.res.frozen 2
              have f3 := HQ.out.res.frozen 3
              simp only [List.getElem?_cons_zero, List.getElem?_cons_succ] at q0 q1 q2 q3
              go_wp2
              exact bodyPost_ret (results_cell_tmp Try.results9 _ _ R 24 _ (0, 0) _ rfl (set4 HQ.out.res _ _ _ _) Try.underlying24 rfl size_opt) rfl ⟨by rw [HRD.out]; rfl, below4 HQ.out.below (Nat.le_of_eq HRT.out.symm) _ _ _ _⟩
      · obtain rfl : i = N := by omega
        obtain ⟨x0, x1, x2, x3, hx⟩ := four_of HL1.out
        have hall : pairsR P ([65536, 1, 0, 6], seen0) = some st := by rw [HPR.out, HN.out, List.drop_length]; rfl
        have hrd : readR l = if mayO x0 x1 x2 x3 = true then ([x0, x1, x2, x3], 0) else ([0, 0, 0, 0], 10) := by
          rw [HR.out, hall]
          show (if mayL st.1 = true then (st.1, 0) else ([0, 0, 0, 0], 10)) = _
          rw [hx]
          rfl
        have CM := Lib.hid (refMay_any x0 x1 x2 x3)
        unfold optV at CM
        have HRD := Lib.hid hrd
        have hbo := HRW.out.opt
        rw [hx] at hbo
        have HO3 := Lib.hid (show Blk wr O 24 [.int .i64 x0, .int .i64 x1, .int .i64 x2, .int .i64 x3] from hbo)
        clear hrd hall hx hbo hlt hN
        have o0 := HO3.out.cell 0
        have o1 := HO3.out.cell 1
        have o2 := HO3.out.cell 2
        have o3 := HO3.out.cell 3
        simp only [List.getElem?_cons_zero, List.getElem?_cons_succ] at o0 o1 o2 o3
        go_wp2_with fail
        refine (CM.out _).mono ?_
        rintro e w9 ⟨rfl, hb9⟩
        have HQ9 := Lib.hid (HRW.out.grow hb9)
        have HO9 := Lib.hid (HO3.out.grow hb9)
        clear o0 o1 o2 o3 hb9 HO3
        cases hm : mayO x0 x1 x2 x3 with
        | false =>
          have hrd : readR l = ([0, 0, 0, 0], 10) := by rw [HRD.out, hm]; rfl
          have HRD2 := Lib.hid hrd
          clear hrd hm
          have q0 := HQ9.out.res.cell 0
          have q1 := HQ9.out.res.cell 1
          have q2 := HQ9.out.res.cell 2
          have q3 := HQ9.out.res.cell 3
          have f0 := HQ9.out.res.frozen 0
          have f1 := HQ9.out.res.frozen 1
          have f2 := HQ9.out.res.frozen 2
          have f3 := HQ9.out.res.frozen 3
          simp only [List.getElem?_cons_zero, List.getElem?_cons_succ] at q0 q1 q2 q3
          go_wp2
          exact bodyPost_ret (results_cell_tmp Try.results9 _ _ R 24 _ (0, 0) _ rfl (set4 HQ9.out.res _ _ _ _) Try.underlying24 rfl size_opt) rfl ⟨by rw [HRD2.out]; rfl, below4 HQ9.out.below (Nat.le_of_eq HRT.out.symm) _ _ _ _⟩
        | true =>
          have hrd : readR l = ([x0, x1, x2, x3], 0) := by rw [HRD.out, hm]; rfl
          have HRD2 := Lib.hid hrd
          clear hrd hm
          have q0 := HQ9.out.res.cell 0
          have q1 := HQ9.out.res.cell 1
          have q2 := HQ9.out.res.cell 2
          have q3 := HQ9.out.res.cell 3
          have f0 := HQ9.out.res.frozen 0
          have f1 := HQ9.out.res.frozen 1
          have f2 := HQ9.out.res.frozen 2
          have f3 := HQ9.out.res.frozen 3
          have o0 := HO9.out.cell 0
          have o1 := HO9.out.cell 1
          have o2 := HO9.out.cell 2
          have o3 := HO9.out.cell 3
          simp only [List.getElem?_cons_zero, List.getElem?_cons_succ] at q0 q1 q2 q3 o0 o1 o2 o3
          go_wp2
          exact bodyPost_ret (results_cell_tmp Try.results9 _ _ R 24 _ (0, 0) _ rfl (set4 HQ9.out.res _ _ _ _) Try.underlying24 rfl size_opt) rfl ⟨by rw [HRD2.out]; rfl, below4 HQ9.out.below (Nat.le_of_eq HRT.out.symm) _ _ _ _⟩
end Go.Proofs.Ytnfkekaeppgaoaa
