/- Layer 16: the reference's Get. -/
import Derived.Test.YtcaefobaochokaaHistTake
import Derived.Test.YtcaefobaochokaaHistZeros
import Derived.Test.YtcaefobaochokaaLebGet
import Derived.Test.YtcaefobaochokaaNormFn
namespace Go.Proofs.Ytcaefobaochokaa
open Go.RowKit Go.Sort Go.Shelf

/-- What the reference's Get hands back. -/
def RGot (w : World) (r : Option (List Int × Nat)) (e : Ending) (w' : World) : Prop :=
  Below w.heap.size w w' ∧ match r with
  | none => e = .returned (.tuple #[.slice none 0 0, .int .i64 0, .int .i64 16])
  | some (l, k) => l.length = 256 ∧ ∃ v, e = .returned (.tuple #[v, .int .i64 (k : Int), .int .i64 0]) ∧ w'.ownsRow w.heap.size 3 1 v 256 (zvs l)
theorem RGot.no {w w' : World} {r : Option (List Int × Nat)} (hb : Below w.heap.size w w') (h : r = none) : RGot w r (.returned (.tuple #[.slice none 0 0, .int .i64 0, .int .i64 16])) w' := by
  subst h; exact ⟨hb, rfl⟩
theorem RGot.yes {w w' : World} {r : Option (List Int × Nat)} {l : List Int} {k : Nat} {v : Value} (hb : Below w.heap.size w w') (h : r = some (l, k)) (hl : l.length = 256) (hS : w'.ownsRow w.heap.size 3 1 v 256 (zvs l)) : RGot w r (.returned (.tuple #[v, .int .i64 (k : Int), .int .i64 0])) w' := by
  subst h; exact ⟨hb, hl, v, rfl, hS⟩
/-- How it stands ahead of a turn. -/
def TurnInv (G : Option (List Int × Nat)) (l : List UInt8) (out : List Int) (s turn : Nat) : Prop :=
  (turn % 2 = 0 ∧ turn ≤ 2 * out.length ∧ G = hG out (l.drop s) s) ∨ (turn % 2 = 1 ∧ out.length < 256 ∧ turn ≤ 2 * out.length + 1 ∧ G = hM out (l.drop s) s)
theorem turn_bad {G : Option (List Int × Nat)} {l : List UInt8} {out : List Int} {s turn q j e : Nat} (h : TurnInv G l out s turn) (hg : lget (l.drop s) = (q, j, e)) (hb : e ≠ 0 ∨ 65535 < q) : G = none := by
  rcases h with ⟨-, -, rfl⟩ | ⟨-, h, -, rfl⟩
  · exact hG_bad hg (by omega)
  · exact hM_bad hg (by omega) hb
theorem turn_share {G : Option (List Int × Nat)} {l : List UInt8} {out : List Int} {s turn q j : Nat} (h : TurnInv G l out s turn) (hg : lget (l.drop s) = (q, j, 0)) (hq : q ≤ 65535) (ht : turn % 2 = 1) : out.length + 1 ≤ 256 ∧ TurnInv G l (out ++ [(q : Int) + 1]) (s + j) (turn + 1) := by
  rcases h with ⟨h, -⟩ | ⟨-, h, h2, rfl⟩
  · omega
  · refine ⟨h, .inl ⟨by omega, by simp; omega, ?_⟩⟩
    rw [hM_more hg (by omega) hq, List.drop_drop]
theorem turn_much {G : Option (List Int × Nat)} {l : List UInt8} {out : List Int} {s turn q j e : Nat} (h : TurnInv G l out s turn) (hg : lget (l.drop s) = (q, j, e)) (ht : turn % 2 = 0) (hq : 256 < out.length + q) : G = none := by
  rcases h with ⟨-, -, rfl⟩ | ⟨h, -⟩
  · exact hG_bad hg (.inr (.inr hq))
  · omega
theorem turn_noughts {G : Option (List Int × Nat)} {l : List UInt8} {out : List Int} {s turn q j : Nat} (h : TurnInv G l out s turn) (hg : lget (l.drop s) = (q, j, 0)) (ht : turn % 2 = 0) (hq : out.length + q ≤ 256) :
    (out.length + q = 256 → G = some (out ++ zerosI q, s + j)) ∧ (out.length + q < 256 → TurnInv G l (out ++ zerosI q) (s + j) (turn + 1)) := by
  have hlen : (out ++ zerosI q).length = out.length + q := by simp [zerosI]
  rcases h with ⟨-, h, rfl⟩ | ⟨h, -⟩
  · rw [hG_mid hg hq, List.drop_drop]
    exact ⟨fun h => hM_end (by rw [hlen]; exact h), fun h2 => .inr ⟨by omega, by rw [hlen]; exact h2, by rw [hlen]; omega, rfl⟩⟩
  · omega
theorem turn_few {G : Option (List Int × Nat)} {l : List UInt8} {out : List Int} {s turn : Nat} (h : TurnInv G l out s turn) (ho : out.length ≤ 256) : turn ≤ 512 := by
  rcases h with ⟨-, h, -⟩ | ⟨-, g, h, -⟩ <;> omega
theorem lget_okR {l : List UInt8} {k j e : Nat} (h : lget l = (k, j, e)) : k < 18446744073709551616 ∧ j ≤ l.length := by
  rcases lget_told l with ⟨q, h1, h2, h3, -⟩ | h1 | h1
  · rw [h] at h1
    simp only [Prod.mk.injEq] at h1
    obtain ⟨rfl, rfl, rfl⟩ := h1
    exact ⟨h2, h3⟩
  · rw [h] at h1
    simp only [Prod.mk.injEq] at h1
    obtain ⟨rfl, rfl, rfl⟩ := h1
    exact ⟨by decide, Nat.zero_le _⟩
  · rw [h] at h1
    simp only [Prod.mk.injEq] at h1
    obtain ⟨rfl, rfl, rfl⟩ := h1
    exact ⟨by decide, Nat.zero_le _⟩
/-- What holds at the head of a turn. -/
def RGetRel (w : World) (n : Nat) (l : List UInt8) (G : Option (List Int × Nat)) (v sv tv : Value) (wr : World) : Prop :=
  ∃ (out : List Int) (s turn : Nat), sv = .int .i64 (s : Int) ∧ tv = .int .i64 (turn : Int) ∧ s ≤ n ∧ out.length ≤ 256 ∧ wr.ownsRow w.heap.size 3 1 v out.length (zvs out) ∧ Below w.heap.size w wr ∧ Hid (TurnInv G l out s turn) ∧ Hid (∀ x ∈ out, 0 ≤ x ∧ x ≤ 65536)
section
variable {w : World} {A : Option Addr} {n m : Nat} {l : List UInt8}
theorem rhGet_arg (bits : Int) (hb : bits < 1 ∨ 16 < bits) (v : Value) :
    Calls Try.prog 11 #[v, .int .i64 bits] w fun e w' => e = .returned (.tuple #[.slice none 0 0, .int .i64 0, .int .i64 2]) ∧ w' = w := by
  go_enter Try.func11, Try.ntmps11
  by_cases h : bits < 1
  · clear hb
    go_wp2
    go_ret3
    exact ⟨rfl, rfl⟩
  · have h2 : 16 < bits := by omega
    clear hb
    go_wp2
    go_ret3
    exact ⟨rfl, rfl⟩
theorem size_u8g : (Try.prog.info? 5).map (·.size) = some 1 := by kernel_rfl
set_option maxHeartbeats 2000000 in
set_option maxRecDepth 100000 in
theorem rhGet_any (b T : Nat) (hb1 : 1 ≤ b) (hb2 : b ≤ 16) (hT : T = 2 ^ b) (hr : Rd w w.heap.size A (bvs l)) (hn : l.length = n) (hnm : n ≤ m) (hn1 : n ≤ 1000000) :
    Calls Try.prog 11 #[.slice A n m, .int .i64 (b : Int)] w (RGot w (hGot (T : Int) l)) := by
  obtain ⟨i0, hi, hz0, hz1, hz2⟩ := info_parts info_int12
  have hT1 : T ≤ 65536 := by rw [hT]; exact Nat.pow_le_pow_right (n := 2) (by decide) hb2
  obtain ⟨R, hR⟩ : ∃ R, R = hGot (T : Int) l := ⟨_, rfl⟩
  rw [← hR]
  obtain ⟨G, hG0⟩ : ∃ G, G = hG [] l 0 := ⟨_, rfl⟩
  unfold hGot at hR
  rw [← hG0] at hR
  have HRR := Lib.hid hR
  have HR := Lib.hid hr
  have HN := Lib.hid hn
  have HT := Lib.hid hT
  have HBN := Lib.hid (bvs_length l ▸ hn : (bvs l).length = n)
  have HINV := Lib.hid (show TurnInv G l [] 0 0 from .inl ⟨rfl, Nat.zero_le _, by rw [List.drop_zero]; exact hG0⟩)
  clear hr hn hT hR hG0
  go_enter Try.func11, Try.ntmps11
  go_wp2
  go_loop [7, 8] (fun t i => ∃ k : Nat, k ≤ b ∧ i = .int .i64 (k : Int) ∧ t = .int .i64 ((2 ^ k : Nat) : Int)) (fun _ i => b - (intOf i).toNat)
  case atStart => exact ⟨0, Nat.zero_le _, rfl, rfl⟩
  case round =>
    obtain ⟨k, hk, rfl, rfl⟩ := hrel
    by_cases hlt : k < b
    · have hp : 2 ^ (k + 1) ≤ 65536 := Nat.pow_le_pow_right (n := 2) (by decide) (show k + 1 ≤ 16 by omega)
      have hp2 : 2 ^ (k + 1) = 2 * 2 ^ k := by rw [Nat.pow_succ]; omega
      obtain ⟨P, hP⟩ : ∃ P, P = 2 ^ k := ⟨_, rfl⟩
      rw [← hP] at hp2 ⊢
      rw [hp2] at hp
      have HP := Lib.hid hp2
      have hki : (k : Int) < (b : Int) := by omega
      clear hp2 hP
      go_wp2
      go_round
      case rel => exact ⟨k + 1, by omega, by go_num, by rw [HP.out]; simp⟩
      case measure => simp [intOf]; omega
    · obtain rfl : k = b := by omega
      rw [← HT.out]
      clear HT hlt hk hb1 hb2
      go_wp2
      go_loopw [9, 10, 11] (RGetRel w n l G) (fun _ _ t _ => 600 - (intOf t).toNat)
      case atStart => exact ⟨[], 0, 0, rfl, rfl, Nat.zero_le _, by simp, World.ownsRow_nil _ _ _ _, Below.refl _ _, HINV, Lib.hid (by simp)⟩
      case round =>
        clear HINV
        obtain ⟨out, s, turn, rfl, rfl, hs, hol, hown, hb, HI, HX⟩ := hrel
        have hbs := hb.size
        have htn := turn_few HI.out hol
        obtain ⟨A1, c1, rfl, -, -, -⟩ := own_form hown
        obtain ⟨⟨q, j, e⟩, hg⟩ : ∃ t, lget (l.drop s) = t := ⟨_, rfl⟩
        have hq64 := (lget_okR hg).1
        have hjl := (lget_okR hg).2
        rw [List.length_drop, HN.out] at hjl
        have C1 := Lib.hid (fun (A' : Option Addr) (c' : Nat) (h : Rd wr w.heap.size A' (bvs (l.drop s))) => refGet_any A' (n - s) c' (l.drop s) wr (h.more hbs) (by rw [List.length_drop, HN.out]) (by omega) q j e hg)
        have HOWN := Lib.hid hown
        have HB := Lib.hid hb
        have HRW := Lib.hid (HR.out.below hb)
        have hti : (turn : Int) < 600 := by omega
        clear hown hb
        go_wp2_with ((with_reducible show wpList _ _ _ (({ dst := some 35, op := _, type := _, pos := _, after := _, guard := _ } : Oper) :: _) _ _); go_must (refine wpList_from rfl (.tmp 33) (.tmp 34) rfl Try.underlying24 size_u8g w.heap.size A n m s (bvs l) rfl rfl HRW.out HBN.out hnm hs ?_; intro A' c' hc' hrd'; rw [bvs_drop] at hrd'))
        refine (C1.out A' c' hrd').mono ?_
        rintro _ w' ⟨rfl, hw⟩
        obtain rfl : _ = w' := hw
        clear C1 hrd' hc'
        by_cases hbad : e ≠ 0 ∨ 65535 < q
        · have HG := Lib.hid (turn_bad HI.out hg hbad)
          clear hg HI HX
          by_cases he : e = 0
          · subst he
            have hqi : (65535 : Int) < (q : Int) := by omega
            clear hbad
            go_wp2
            go_ret3
            exact RGot.no HB.out (HRR.out.trans (by rw [HG.out]; rfl))
          · have hei : ¬ ((e : Int) = 0) := by omega
            clear hbad he
            go_wp2
            go_ret3
            exact RGot.no HB.out (HRR.out.trans (by rw [HG.out]; rfl))
        · obtain rfl : e = 0 := by omega
          have hq : q ≤ 65535 := by omega
          have hsj : s + j ≤ n := by omega
          clear hbad hq64
          by_cases hp : turn % 2 = 1
          · have hpi : (turn : Int) % 2 = 1 := by omega
            obtain ⟨i1, i2⟩ := turn_share HI.out hg hq hp
            have HI2 := Lib.hid i2
            have HX2 := Lib.hid (show ∀ x ∈ out ++ [(q : Int) + 1], 0 ≤ x ∧ x ≤ 65536 from fun x hx => by
              rcases List.mem_append.1 hx with h | h
              · exact HX.out x h
              · have := List.mem_singleton.1 h; omega)
            clear i2 hg HI HX hp
            go_wp2_with ((with_reducible show wpList _ _ _ (({ dst := some 57, op := _, type := _, pos := _, after := _, guard := _ } : Oper) :: _) _ _); go_must (refine wpList_app rfl (.tmp 52) (.tmp 56) 22 rfl w.heap.size 3 i0 (.int .i64 0) 1 8 Try.underlying22 hi hz0 hz1 hz2 rfl (by decide) _ _ _ rfl (HOWN.out.alloc _) _ _ 1 1 _ rfl (Rd.new _ _ _) rfl (by intro u hu; simp at hu; subst hu; rfl) (by simp only [maxLen]; omega) (by omega) (by simp; omega) ?_; intro v1 w2 hown1 hg1; have hb1 : Below w.heap.size w w2 := (HB.out.alloc hbs _).grown hg1 (by simp; omega) (own_block HOWN.out); clear hg1))
            go_roundw
            case rel => exact ⟨out ++ [(q : Int) + 1], s + j, turn + 1, by go_num, by go_num, hsj, by simp; omega, by simpa [zvs] using hown1, hb1, HI2, HX2⟩
            case measure => simp [intOf]; omega
          · have hpi : (turn : Int) % 2 = 0 := by omega
            have hp0 : turn % 2 = 0 := by omega
            clear hp
            by_cases hmuch : 256 < out.length + q
            · have HG := Lib.hid (turn_much HI.out hg hp0 hmuch)
              have hmi : 256 < (out.length : Int) + (q : Int) := by omega
              clear hg HI HX hmuch
              go_wp2
              go_ret3
              exact RGot.no HB.out (HRR.out.trans (by rw [HG.out]; rfl))
            · have hmi : ¬ 256 < (out.length : Int) + (q : Int) := by omega
              have HTN := Lib.hid (turn_noughts HI.out hg hp0 (by omega))
              have HX2 := Lib.hid (show ∀ x ∈ out ++ zerosI q, 0 ≤ x ∧ x ≤ 65536 from fun x hx => by
                rcases List.mem_append.1 hx with h | h
                · exact HX.out x h
                · have := (List.mem_replicate.1 h).2; omega)
              clear hg HI HX
              by_cases hend : out.length + q = 256
              · have HG := Lib.hid (HTN.out.1 hend)
                have hz : zvs out ++ List.replicate q (Value.int .i64 0) = zvs (out ++ zerosI q) := by simp [zvs, zerosI]
                have HZ := Lib.hid hz
                have HLEN := Lib.hid (show (out ++ zerosI q).length = 256 by rw [List.length_append, zerosI_len]; exact hend)
                obtain ⟨F, hF⟩ : ∃ F, F = out ++ zerosI q := ⟨_, rfl⟩
                rw [← hF] at HG HZ HLEN HX2
                have hsm := sum_most 65536 (l := F) (fun x hx => (HX2.out x hx).2)
                rw [HLEN.out] at hsm
                have HNN := Lib.hid (fun x hx => (HX2.out x hx).1 : ∀ x ∈ F, 0 ≤ x)
                have CS := Lib.hid (fun (W : World) (A2 : Option Addr) (c2 : Nat) (h : Rd W W.heap.size A2 (zvs F)) => rnSum_any (n := 256) (m := c2) h HLEN.out (by decide) HNN.out (by omega))
                obtain ⟨z, hz2⟩ : ∃ z, z = F.sum := ⟨_, rfl⟩
                rw [← hz2] at CS hsm
                have HSZ := Lib.hid hz2
                have HEND := Lib.hid hend
                clear hz hF hz2 HTN hmi hp0
                go_wp2_with ((with_reducible show wpList _ _ _ (({ dst := some 66, op := _, type := _, pos := _, after := _, guard := _ } : Oper) :: _) _ _); go_must (refine wpList_app_zeros rfl (.tmp 64) (.tmp 65) 22 41 rfl w.heap.size 3 i0 (.int .i64 0) .u64 .u64 Try.underlying22 Try.underlying41 hi hz0 hz1 (by rw [hz2]; decide) rfl rfl _ _ _ rfl HOWN.out q rfl (by omega) hbs ?_; intro v1 w2 hown1 hg1; rw [HEND.out, HZ.out] at hown1; have hb1 := HB.out.grown hg1 hbs (own_block HOWN.out); clear hg1; obtain ⟨A2, c2, rfl, -, -, -⟩ := own_form hown1))
                refine (CS.out _ A2 c2 (Rd.of_own hown1)).mono ?_
                rintro _ w' ⟨rfl, hw⟩
                obtain rfl : _ = w' := hw.symm
                have HO2 := Lib.hid hown1
                have HB2 := Lib.hid hb1
                clear hown1 hb1 CS HOWN HB
                by_cases hzT : z = (T : Int)
                · subst hzT
                  go_wp2
                  go_ret3
                  exact RGot.yes HB2.out (HRR.out.trans (by rw [HG.out]; simp only [filt, Option.bind_some]; rw [if_pos HSZ.out.symm])) HLEN.out HO2.out
                · go_wp2
                  go_ret3
                  exact RGot.no HB2.out (HRR.out.trans (by rw [HG.out]; simp only [filt, Option.bind_some]; rw [if_neg (fun h => hzT (HSZ.out.trans h))]))
              · have hlt2 : out.length + q < 256 := by omega
                have HI2 := Lib.hid (HTN.out.2 hlt2)
                have HZ := Lib.hid (show zvs out ++ List.replicate q (Value.int .i64 0) = zvs (out ++ zerosI q) by simp [zvs, zerosI])
                obtain ⟨p, hp⟩ : ∃ p, p = out.length + q := ⟨_, rfl⟩
                have HP := Lib.hid (show p = (out ++ zerosI q).length by rw [List.length_append, zerosI_len]; exact hp)
                have hp256 : ¬ ((p : Int) = 256) := by omega
                have hple : p ≤ 256 := by omega
                have HPP := Lib.hid hp.symm
                clear hp HTN hmi hp0 hend
                go_wp2_with ((with_reducible show wpList _ _ _ (({ dst := some 66, op := _, type := _, pos := _, after := _, guard := _ } : Oper) :: _) _ _); go_must (refine wpList_app_zeros rfl (.tmp 64) (.tmp 65) 22 41 rfl w.heap.size 3 i0 (.int .i64 0) .u64 .u64 Try.underlying22 Try.underlying41 hi hz0 hz1 (by rw [hz2]; decide) rfl rfl _ _ _ rfl HOWN.out q rfl (by omega) hbs ?_; intro v1 w2 hown1 hg1; rw [HPP.out, HZ.out] at hown1; have hb1 := HB.out.grown hg1 hbs (own_block HOWN.out); clear hg1; obtain ⟨A2, c2, rfl, -, -, -⟩ := own_form hown1))
                go_roundw
                case rel => exact ⟨out ++ zerosI q, s + j, turn + 1, by go_num, by go_num, hsj, by rw [← HP.out]; exact hple, by rw [← HP.out]; exact hown1, hb1, HI2, HX2⟩
                case measure => simp [intOf]; omega
end
end Go.Proofs.Ytcaefobaochokaa
