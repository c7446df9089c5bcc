/- Layer 29: HeadBack. -/
import Derived.Test.YtnfkekaeppgaoaaHeadLaws
namespace Go.Proofs.Ytnfkekaeppgaoaa
open Go.RowKit Go.Sort

/-- What holds at the head of a round over the beginnings. -/
def BegP (L : List UInt8) (K : Nat) (A : Option Addr) (W : World) (iv : Value) (wr : World) : Prop :=
  ∃ i : Nat, i ≤ K ∧ iv = .int .i64 (i : Int) ∧ Rd wr wr.heap.size A (bvs L) ∧ Below W.heap.size W wr
set_option maxRecDepth 100000 in
set_option maxHeartbeats 4000000 in
theorem headBack_law (b u r m : Int) (A : Option Addr) (n c : Nat) (l : List UInt8) (W : World) (hr : Rd W W.heap.size A (bvs l)) (hn : l.length = n) (_ : n ≤ c) : Calls Try.prog 6 #[.agg #[.int .i64 b, .int .i64 u, .int .i64 r, .int .i64 m], .slice A n c] W fun e w' => e = .returned (.bool true) ∧ Below W.heap.size W w' := by
  have CK := Lib.hid known29_any
  have CM := Lib.hid (refMay_any b u r m)
  have hO := heap_alloc_new W (.cells #[.int .i64 b, .int .i64 u, .int .i64 r, .int .i64 m] 24)
  have HO := Lib.hid (show Blk (W.alloc (.cells #[.int .i64 b, .int .i64 u, .int .i64 r, .int .i64 m] 24)) W.heap.size 24 [.int .i64 b, .int .i64 u, .int .i64 r, .int .i64 m] from hO)
  have HB := Lib.hid ((Below.refl W.heap.size W).alloc (Nat.le_refl _) (.cells #[.int .i64 b, .int .i64 u, .int .i64 r, .int .i64 m] 24))
  clear hO
  cases hmay : mayO b u r m with
  | false =>
    rw [hmay] at CM
    unfold optV at CM
    clear hmay hr
    go_enter Try.func6, Try.ntmps6
    go_wp2_with fail
    refine (CM.out _).mono ?_
    rintro e w2 ⟨rfl, hb2⟩
    have HB2 := Lib.hid (HB.out.trans (hb2.mono HB.out.size))
    clear hb2
    go_wp2_with fail
    refine (CK.out _).mono ?_
    rintro e w3 ⟨rfl, hb3⟩
    have HB3 := Lib.hid (HB2.out.trans (hb3.mono HB2.out.size))
    clear hb3
    go_wp2
    go_ret
    exact ⟨rfl, HB3.out⟩
  | true =>
    rw [hmay] at CM
    by_cases hl : 100 < n
    · have hli : (100 : Int) < (n : Int) := by omega
      unfold optV at CM
      clear hmay hr
      go_enter Try.func6, Try.ntmps6
      go_wp2_with fail
      refine (CM.out _).mono ?_
      rintro e w2 ⟨rfl, hb2⟩
      have HB2 := Lib.hid (HB.out.trans (hb2.mono HB.out.size))
      clear hb2
      go_wp2_with fail
      refine (CK.out _).mono ?_
      rintro e w3 ⟨rfl, hb3⟩
      have HB3 := Lib.hid (HB2.out.trans (hb3.mono HB2.out.size))
      clear hb3
      go_wp2
      go_ret
      exact ⟨rfl, HB3.out⟩
    · have hli : ¬ (100 : Int) < (n : Int) := by omega
      obtain ⟨i0, hi, hz0, hz1, hz2⟩ := info_parts info_u8'
      obtain ⟨b', u', r', m', rfl, rfl, rfl, rfl, hb1, hb2, hu, hr10, hm6⟩ := mayO_nat hmay
      have hu8 : u' ≤ 8 := by rcases hu with h | h | h | h <;> omega
      have C1 := Lib.hid (fun w => hdPut_yes (b := b') (u := u') (r := r') (m := m') hb2 hu8 hr10 hm6 hmay w)
      obtain ⟨hlg, hgp⟩ := get_put (b := b') (u := u') (r := r') (m := m') hb2 hu8 hr10 hm6 hmay l
      have hcut := Lib.hid (fun i (h : i < (headS b' u' r' m').length) => get_cut (b := b') (u := u') (r := r') (m := m') hb2 h)
      have hlen := headS_len b' u' r' m'
      have hl4 := lput_le b' (by omega)
      unfold optV at CM C1
      obtain ⟨L, hL⟩ : ∃ L, L = headS b' u' r' m' := ⟨_, rfl⟩
      rw [← hL] at C1 hlen hlg hgp hcut
      obtain ⟨K, hK⟩ : ∃ K, K = L.length := ⟨_, rfl⟩
      have hK21 : K ≤ 21 := by omega
      have hK0 : 0 < K := by omega
      have C2 := Lib.hid (fun A3 k3 w (hr : Rd w w.heap.size A3 (bvs (L ++ l))) (hk : K + n ≤ k3) => hdGet_any A3 (K + n) k3 (L ++ l) w hr (by rw [List.length_append, hK, hn]) hk (by omega) hlg)
      rw [hgp, ← hK] at C2
      unfold GetOut at C2
      rw [show optA ([(b' : Int), (u' : Int), (r' : Int), (m' : Int)], K, 0).1 = .agg #[.int .i64 (b' : Int), .int .i64 (u' : Int), .int .i64 (r' : Int), .int .i64 (m' : Int)] from rfl] at C2
      have C3 := Lib.hid (fun i (h : i < K) A3 k3 w (hk : i ≤ k3) (hr : Rd w w.heap.size A3 (bvs (L.take i))) => show Calls Try.prog 14 #[.slice A3 i k3] w fun e w' => e = .returned (.tuple #[.agg #[.int .i64 0, .int .i64 0, .int .i64 0, .int .i64 0], .int .i64 0, .int .i64 11]) ∧ Below w.heap.size w w' from by
        obtain ⟨m2, j2, e2, h1, h2⟩ := hcut.out i (by rw [← hK]; exact h)
        have := hdGet_any A3 i k3 (L.take i) w hr (by rw [List.length_take]; omega) hk (by omega) h1
        rw [h2] at this
        exact this)
      have HRL := Lib.hid hr
      have HN := Lib.hid hn
      have HK := Lib.hid hK
      have hKi : (K : Int) ≤ 21 := by omega
      clear hmay hb1 hb2 hu hr10 hm6 hu8 hlen hl4 hL hK hcut hlg hgp hr hn
      go_enter Try.func6, Try.ntmps6
      go_wp2_with fail
      refine (CM.out _).mono ?_
      rintro e w1 ⟨rfl, hb1⟩
      have hO1 := HO.out.grow hb1
      have HO1 := Lib.hid hO1
      have HB1 := Lib.hid (HB.out.trans (hb1.mono HB.out.size))
      have q0 := hO1.cell 0
      have q1 := hO1.cell 1
      have q2 := hO1.cell 2
      have q3 := hO1.cell 3
      simp only [List.getElem?_cons_zero, List.getElem?_cons_succ] at q0 q1 q2 q3
      clear hb1 hO1 HO HB
      go_wp2_with fail
      refine (C1.out _).mono ?_
      rintro e w2 ⟨v2, rfl, hv2, hb2⟩
      obtain ⟨A2, k2, rfl, hk2, hr2⟩ := hv2
      rw [← HK.out] at hk2 ⊢
      have HR2 := Lib.hid hr2
      have HO2 := Lib.hid (HO1.out.grow hb2)
      have HB2 := Lib.hid (HB1.out.trans (hb2.mono HB1.out.size))
      have HL2 := Lib.hid (show (bvs L).length = K * 1 by rw [bvs_length, HK.out, Nat.mul_one])
      have HLl := Lib.hid (show (bvs l).length = n * 1 by rw [bvs_length, HN.out, Nat.mul_one])
      clear hb2 hr2 q0 q1 q2 q3 HO1 HB1
      go_wp2_with (first
        | ((with_reducible show wpList _ _ _ (({ dst := some 31, op := _, type := _, pos := _, after := _, guard := _ } : Oper) :: _) _ _); go_must (refine wpList_app rfl (.tmp 29) (.tmp 30) 29 rfl w2.heap.size 5 i0 (.int .u8 0) 1 1 Try.underlying29 hi hz0 hz1 hz2 rfl (by decide) _ 0 [] rfl (World.ownsRow_made w2 #[] 0 (Nat.le_refl _) (Nat.zero_le _) rfl) w2.heap.size _ K _ (bvs L) rfl (HR2.out.alloc (Nat.le_refl _) _) HL2.out (bvs_one _) (by simp only [maxLen]; omega) (by omega) (by simp) ?_; intro v3 w3 hown3 hg3; rw [Nat.zero_add, List.nil_append] at hown3; have hb3 : Below w2.heap.size w2 w3 := ((Below.refl _ _).alloc (Nat.le_refl _) _).grown hg3 (by simp) (own_block (World.ownsRow_made (e := 5) (size := 1) w2 #[] 0 (Nat.le_refl _) (Nat.zero_le _) rfl)); clear hg3))
        | ((with_reducible show wpList _ _ _ (({ dst := some 33, op := _, type := _, pos := _, after := _, guard := _ } : Oper) :: _) _ _); go_must (refine wpList_app rfl (.tmp 31) (.tmp 32) 29 rfl w2.heap.size 5 i0 (.int .u8 0) 1 1 Try.underlying29 hi hz0 hz1 hz2 rfl (by decide) _ K _ rfl hown3 W.heap.size _ n _ (bvs l) rfl ((HRL.out.below HB2.out).below (hb3.mono HB2.out.size)) HLl.out (bvs_one _) (by simp only [maxLen]; omega) (by omega) hb3.size ?_; intro v4 w4 hown4 hg4; rw [← bvs_append] at hown4; have hb4 : Below w2.heap.size w2 w4 := hb3.grown hg4 hb3.size (own_block hown3); clear hown3 hg4 hb3)))
      obtain ⟨A4, k4, rfl, hk4, -, -⟩ := own_form hown4
      have HR4 := Lib.hid (Rd.of_own hown4)
      have HB4 := Lib.hid (HB2.out.trans (hb4.mono HB2.out.size))
      have HO4 := Lib.hid (HO2.out.grow hb4)
      have HR24 := Lib.hid ((HR2.out.below hb4).more hb4.size)
      clear hown4 hb4 HB2 HO2 HR2
      refine (C2.out A4 k4 w4 HR4.out hk4).mono ?_
      rintro e w5 ⟨rfl, hb5⟩
      have hO5 := HO4.out.grow hb5
      have HB5 := Lib.hid ((HB4.out.trans (hb5.mono HB4.out.size)).alloc (Nat.le_trans HB4.out.size hb5.size) (.cells #[.int .i64 (b' : Int), .int .i64 (u' : Int), .int .i64 (r' : Int), .int .i64 (m' : Int)] 24))
      have HR25 := Lib.hid ((((HR24.out.below hb5).more hb5.size).alloc (Nat.le_refl _) (.cells #[.int .i64 (b' : Int), .int .i64 (u' : Int), .int .i64 (r' : Int), .int .i64 (m' : Int)] 24)).more (B' := (w5.alloc (.cells #[.int .i64 (b' : Int), .int .i64 (u' : Int), .int .i64 (r' : Int), .int .i64 (m' : Int)] 24)).heap.size) (by simp))
      have hlt := hO5.lt
      have q0 := hO5.cell 0
      have q1 := hO5.cell 1
      have q2 := hO5.cell 2
      have q3 := hO5.cell 3
      simp only [List.getElem?_cons_zero, List.getElem?_cons_succ] at q0 q1 q2 q3
      clear hb5 hO5 HB4 HO4 HR4 HR24 CM C1 C2 HRL
      go_wp2
      obtain ⟨w6, hw6⟩ : ∃ w6, w6 = w5.alloc (.cells #[.int .i64 (b' : Int), .int .i64 (u' : Int), .int .i64 (r' : Int), .int .i64 (m' : Int)] 24) := ⟨_, rfl⟩
      rw [← hw6] at HR25 HB5 ⊢
      clear hw6 hlt q0 q1 q2 q3
      go_loopw [10] (fun iv wr => BegP L K A2 W iv wr) (fun iv _ => K - (intOf iv).toNat)
      case atStart => exact ⟨0, Nat.zero_le _, rfl, HR25.out, HB5.out⟩
      case round =>
        obtain ⟨i, hiK, rfl, hR, hB⟩ := hrel
        have HR := Lib.hid hR
        have HB := Lib.hid hB
        clear hR hB
        by_cases hlt : i < K
        · have hii : (i : Int) < (K : Int) := by omega
          have hik : (i : Int) ≤ (k2 : Int) := by omega
          have hikn : i ≤ k2 := by omega
          have HIK := Lib.hid hlt
          have hrt : Rd wr wr.heap.size A2 (bvs (L.take i)) := by
            rw [← bvs_take]
            exact HR.out.take i
          have C4 := Lib.hid (C3.out i hlt A2 k2 wr hikn hrt)
          clear hrt hlt
          go_wp2_with fail
          refine C4.out.mono ?_
          rintro e w7 ⟨rfl, hb7⟩
          have HR7 := Lib.hid ((((HR.out.below hb7).more hb7.size).alloc (Nat.le_refl _) (.cells #[.int .i64 0, .int .i64 0, .int .i64 0, .int .i64 0] 24)).more (B' := (w7.alloc (.cells #[.int .i64 0, .int .i64 0, .int .i64 0, .int .i64 0] 24)).heap.size) (by simp))
          have HB7 := Lib.hid ((HB.out.trans (hb7.mono HB.out.size)).alloc (Nat.le_trans HB.out.size hb7.size) (.cells #[.int .i64 0, .int .i64 0, .int .i64 0, .int .i64 0] 24))
          clear hb7 C4
          go_wp2
          go_roundw
          case rel => exact ⟨i + 1, by have := HIK.out; omega, by go_num, HR7.out, HB7.out⟩
          case measure =>
            have e1 := HIK.out
            simp [intOf]
            omega
        · obtain rfl : i = K := by omega
          clear hlt
          go_wp2_with fail
          refine (CK.out _).mono ?_
          rintro e w7 ⟨rfl, hb7⟩
          have HB7 := Lib.hid (HB.out.trans (hb7.mono HB.out.size))
          clear hb7
          go_wp2
          go_ret
          exact ⟨rfl, HB7.out⟩
end Go.Proofs.Ytnfkekaeppgaoaa
