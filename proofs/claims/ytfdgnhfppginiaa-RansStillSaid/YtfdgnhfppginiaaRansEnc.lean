/- Layer 18: the program's encoder: give, in, turned. -/
import Derived.Test.YtfdgnhfppginiaaRansRef
import Derived.Test.YtfdgnhfppginiaaRansRev
import Derived.Deep.AppendLies
import Derived.Deep.RegionLaw
import Derived.BigRegion
namespace Go.Proofs.Ytfdgnhfppginiaa
open Go.RowKit Go.Sort

/-- The encoder at E: a state, and the bytes that went out, in a row of its own. -/
def EncS (w : World) (E x : Nat) (O : List UInt8) : Prop :=
  ∃ v, Blk w E 47 [.int .i64 (x : Int), v] ∧ w.ownsRow (E + 1) 5 1 v O.length (bvs O)
def encRT : List TypeId := [47, 5]
section
variable {w : World} {E x : Nat} {O : List UInt8}
theorem EncS.below {w' : World} (h : EncS w E x O) (hb : Below w.heap.size w w') : EncS w' E x O := by
  obtain ⟨v, hbl, hown⟩ := h
  exact ⟨v, hbl.grow hb, own_kept hown hb⟩
theorem EncS.same {w' : World} (h : EncS w E x O) (e : w'.heap = w.heap) : EncS w' E x O := by
  obtain ⟨v, hbl, hown⟩ := h
  refine ⟨v, hbl.same e, hown.1, ?_⟩
  rw [e]; exact hown.2
theorem EncS.lt (h : EncS w E x O) : E < w.heap.size := by
  obtain ⟨v, hbl, -⟩ := h
  exact hbl.lt
theorem own_setCellR {base e size n : Nat} {v : Value} {xs : List Value} {p : Addr} {u : Value} (h : w.ownsRow base e size v n xs) (hp : p.block < base) : (w.setCell p u).ownsRow base e size v n xs := by
  refine ⟨h.1, ?_⟩
  rcases h.2 with h0 | ⟨g, cap, cur, rfl, hbg, hg, rest⟩
  · exact .inl h0
  · exact .inr ⟨g, cap, cur, rfl, hbg, by rw [Below.heap_setCell w p u g (by omega)]; exact hg, rest⟩
theorem EncS.setX (h : EncS w E x O) (y : Nat) : EncS (w.setCell ⟨E, 0, none⟩ (.int .i64 (y : Int))) E y O ∧ OnlyT E encRT w (w.setCell ⟨E, 0, none⟩ (.int .i64 (y : Int))) := by
  obtain ⟨v, hb, hown⟩ := h
  exact ⟨⟨v, hb.set_ 0 _, own_setCellR hown (Nat.lt_succ_self _)⟩, OnlyT.set_ hb (Nat.le_refl _) _ (by simp [encRT])⟩
theorem give_end {A1 : Option Addr} {c1 c g7 cap7 : Nat} {w7 : World} (hown : w.ownsRow (E + 1) 5 1 (.slice A1 O.length c1) O.length (bvs O)) (hx : c < 256)
    (hb7 : Blk w7 E 47 [.int .i64 (x : Int), .slice A1 O.length c1]) (hg7 : World.grownBy (w.drew.alloc (.cells #[.int .u8 (c : Int)] 5)) w7 (Value.slice A1 O.length c1).ownBlock)
    (hown7 : w7.ownsRow (E + 1) 5 1 (.slice (some ⟨g7, 0, none⟩) (O.length + 1) cap7) (O.length + 1) (bvs O ++ [.int .u8 (c : Int)])) :
    EncS (w7.setCell ⟨E, 1, none⟩ (.slice (some ⟨g7, 0, none⟩) (O.length + 1) cap7)) E x (O ++ [UInt8.ofNat c]) ∧ OnlyT E encRT w (w7.setCell ⟨E, 1, none⟩ (.slice (some ⟨g7, 0, none⟩) (O.length + 1) cap7)) := by
  have h1 : OnlyT E encRT w (w.drew.alloc (.cells #[.int .u8 (c : Int)] 5)) := OnlyT.of_below ((Below.refl _ _).drew.alloc (Nat.le_refl _) _)
  have h2 : OnlyT E encRT (w.drew.alloc (.cells #[.int .u8 (c : Int)] 5)) w7 := OnlyT.grown hg7 (fun k hk => by
    obtain ⟨a, b⟩ := own_type (own_kept hown ((Below.refl w.heap.size w).drew.alloc (Nat.le_refl _) (.cells #[.int .u8 (c : Int)] 5))) k hk
    exact ⟨by omega, b⟩) (by simp [encRT])
  refine ⟨⟨_, hb7.set_ 1 _, ?_⟩, (h1.trans h2).trans (OnlyT.set_ hb7 (Nat.le_refl _) _ (by simp [encRT]))⟩
  have e : bvs (O ++ [UInt8.ofNat c]) = bvs O ++ [.int .u8 (c : Int)] := by
    rw [bvs_append]; simp [bvs, UInt8.toNat_ofNat', Nat.mod_eq_of_lt hx]
  rw [e, List.length_append, List.length_singleton]
  exact own_setCellR hown7 (Nat.lt_succ_self _)
set_option maxHeartbeats 2000000 in
set_option maxRecDepth 100000 in
theorem ransGive_any (h : EncS w E x O) (ho : O.length ≤ 100000) :
    Calls Try.prog 73 #[.pointer (some ⟨E, 0, none⟩)] w fun e w' => e = .returned (.tuple #[]) ∧ EncS w' E (x / 256) (O ++ [UInt8.ofNat (x % 256)]) ∧ OnlyT E encRT w w' := by
  obtain ⟨v, hb, hown⟩ := h
  obtain ⟨A1, c1, rfl, -, -, -⟩ := own_form hown
  obtain ⟨i0, hi0, hz0, hz1, hz2⟩ := info_parts info_u8r
  obtain ⟨c, hc, hc2⟩ : ∃ c, c = x % 256 ∧ c < 256 := ⟨_, rfl, by omega⟩
  obtain ⟨d, hd⟩ : ∃ d, d = x / 256 := ⟨_, rfl⟩
  have e1 : IntKind.u8.wrap (x : Int) = (c : Int) := by rw [IntKind.wrap_u8]; omega
  have e2 : (x : Int) % 256 = (c : Int) := by omega
  have e3 : (x : Int) / 2 ^ 8 = (d : Int) := by omega
  have e4 : (x : Int) / 256 = (d : Int) := by omega
  have hc0 := hb.cell 0
  have hc1 := hb.cell 1
  have hf0 := hb.frozen 0
  have hf1 := hb.frozen 1
  simp only [List.getElem?_cons_zero, List.getElem?_cons_succ] at hc0 hc1
  have HB := Lib.hid hb
  have HOWN := Lib.hid hown
  have HO := Lib.hid ho
  rw [← hc, ← hd]
  have HX := Lib.hid hc2
  have hgl : E < w.heap.size := hb.lt
  clear hb hown ho hc hc2 hd
  go_enter Try.func73, Try.ntmps73
  go_wp2
  go_region_law (refine step_append_lies _ (by rfl) _ _ _ (by rfl) (E + 1) 5 i0 (.int .u8 0) 1 1 Try.underlying22 hi0 hz0 hz1 hz2 rfl (by decide) _ _ _ (by rfl) ((own_drew HOWN.out).alloc _) _ 1 1 [.int .u8 (c : Int)] (by rfl) (by rfl) (World.news_of_block (heap_alloc_new _ _)) (by intro u hu; simp at hu; subst hu; rfl) (by decide) (by simp only [maxLen]; have := HO.out; omega) (by have := HO.out; omega) (by have := HB.out.lt; simp; omega) _ rfl ?_; intro g7 cap7 w7 hown7 hgr7 hat7 hlt7; have hrow := own_block HOWN.out; have hb7 : Blk w7 E 47 [.int .i64 (x : Int), .slice A1 O.length c1] := blk_row ((HB.out.same (w' := w.drew) rfl).alloc_ _) hgr7 (fun r e => by have := hrow r e; omega); have hc7 := hb7.cell 0; have hc8 := hb7.cell 1; have hf7 := hb7.frozen 0; have hf8 := hb7.frozen 1; simp only [List.getElem?_cons_zero, List.getElem?_cons_succ] at hc7 hc8; have HB7 := Lib.hid hb7; have HG7 := Lib.hid hgr7; have HOWN7 := Lib.hid hown7; clear hb7 hgr7 hown7 hat7 hlt7 hrow)
  all_goals
    obtain ⟨hE, hO⟩ := give_end HOWN.out HX.out HB7.out HG7.out HOWN7.out
    clear hc0 hc1 hf0 hf1 HB7 HG7 HOWN7 hc7 hc8 hf7 hf8
    generalize World.setCell w7 ⟨E, 1, none⟩ _ = w8 at *
    obtain ⟨v8, hb8, hown8⟩ := hE
    have HE := Lib.hid (show EncS w8 E x (O ++ [UInt8.ofNat c]) from ⟨v8, hb8, hown8⟩)
    have HO8 := Lib.hid hO
    have hc0 := hb8.cell 0
    have hf0 := hb8.frozen 0
    simp only [List.getElem?_cons_zero] at hc0
    clear hb8 hown8 hO
    go_wp2
    refine bodyPost_end (results_none rfl _ _ _) rfl ?_
    exact ⟨rfl, (HE.out.setX d).1, HO8.out.trans (HE.out.setX d).2⟩
/-- The state, as the world has it. -/
def encX (w : World) (E : Nat) : Nat := match w.cell? ⟨E, 0, none⟩ with
  | some (.int _ i) => i.toNat
  | _ => 0
theorem EncS.state (h : EncS w E x O) : encX w E = x := by
  obtain ⟨v, hb, -⟩ := h
  have hc := hb.cell 0
  simp only [List.getElem?_cons_zero] at hc
  unfold encX
  rw [hc]
  simp
/-- What holds at the head of a round of in. -/
def InRel (w : World) (E s y : Nat) (O : List UInt8) (o : List Nat) (wr : World) : Prop :=
  ∃ (x1 : Nat) (o1 o2 : List Nat), o1 ++ o2 = o ∧ Goes s x1 o2 y ∧ x1 < 2147483648 ∧ EncS wr E x1 (O ++ u8s o1) ∧ OnlyT E encRT w wr
set_option maxHeartbeats 2000000 in
set_option maxRecDepth 100000 in
theorem ransIn_any {f s y : Nat} {o : List Nat} (h : EncS w E x O) (hx : x < 2147483648) (hs : 1 ≤ s) (hf : f + s ≤ 4096) (hr : s * 2048 ≤ x) (ho : O.length ≤ 90000) (hg : Goes s x o y) :
    Calls Try.prog 24 #[.pointer (some ⟨E, 0, none⟩), .int .i64 (f : Int), .int .i64 (s : Int)] w fun e w' => e = .returned (.tuple #[]) ∧ EncS w' E (inX f s y) (O ++ u8s o) ∧ OnlyT E encRT w w' := by
  have hyr := hg.range hr
  have hol := goes_few hs 2 x o y hg (by omega)
  have HREL := Lib.hid (show InRel w E s y O o w from ⟨x, [], o, rfl, hg, hx, by rw [show u8s [] = [] from rfl, List.append_nil]; exact h, OnlyT.refl _ _ _⟩)
  have HYR := Lib.hid hyr
  have HO := Lib.hid (And.intro ho hol)
  have hs4 : (s : Int) ≤ 4096 := by omega
  have hs1 : (1 : Int) ≤ (s : Int) := by omega
  have hsw : IntKind.i64.wrap ((s : Int) * 524288) = (s : Int) * 524288 := by rw [IntKind.wrap_i64]; omega
  have HS := Lib.hid (And.intro hs hf)
  clear h hx hr ho hg hyr hol
  go_enter Try.func24, Try.ntmps24
  go_wp2
  go_loopw [] (InRel w E s y O o) (fun wr => encX wr E)
  case atStart => exact HREL.out
  case round =>
    clear HREL
    obtain ⟨x1, o1, o2, hoo, hg, hx1, he, hot⟩ := hrel
    have hmx := he.state
    have hol := congrArg List.length hoo
    rw [List.length_append] at hol
    have C := Lib.hid (ransGive_any he (by rw [List.length_append, u8s_length]; have := HO.out; omega))
    have HE := Lib.hid he
    have HOT := Lib.hid hot
    obtain ⟨v, hb, -⟩ := id he
    have hgl := hb.lt
    have hc0 := hb.cell 0
    have hf0 := hb.frozen 0
    simp only [List.getElem?_cons_zero] at hc0
    have HOO := Lib.hid hoo
    have HG := Lib.hid hg
    have HMX := Lib.hid hmx
    have HGL := Lib.hid hgl
    clear hoo hg he hot hb hmx hol
    by_cases hmore : s * 524288 ≤ x1
    · obtain ⟨o3, ho3, hg3⟩ : ∃ o3, o2 = x1 % 256 :: o3 ∧ Goes s (x1 / 256) o3 y := by
        cases HG.out with
        | stop _ h => omega
        | more _ o3 _ _ hr => exact ⟨o3, rfl, hr⟩
      have hmi : (s : Int) * 524288 ≤ (x1 : Int) := by omega
      have HG3 := Lib.hid (And.intro ho3 hg3)
      have hd31 : x1 / 256 < 2147483648 ∧ x1 / 256 < x1 := by omega
      have HD := Lib.hid hd31
      clear hd31 ho3 hg3
      go_wp2_with fail
      refine C.out.mono ?_
      rintro _ w5 ⟨rfl, he5, ho5⟩
      have HE5 := Lib.hid he5
      have HO5 := Lib.hid (HOT.out.trans ho5)
      clear he5 ho5 C HE HOT hc0 hf0
      go_wp2
      go_roundw
      case rel => exact ⟨x1 / 256, o1 ++ [x1 % 256], o3, by rw [List.append_assoc, ← HOO.out, HG3.out.1]; rfl, HG3.out.2, HD.out.1, by rw [u8s_snoc, ← List.append_assoc]; exact HE5.out, HO5.out⟩
      case measure => rw [HE5.out.state, HMX.out]; exact HD.out.2
    · obtain ⟨rfl, rfl⟩ : o2 = [] ∧ x1 = y := by
        cases HG.out with
        | stop => exact ⟨rfl, rfl⟩
        | more _ _ _ h _ => exact absurd h hmore
      have hoo := HOO.out
      rw [List.append_nil] at hoo
      subst hoo
      obtain ⟨q, mm, q4, qf, d1, d2, d3, d4, d5, d6, d7, d8, d9⟩ := in_vals HS.out.1 HS.out.2 HYR.out.2
      have hmi : ¬ (s : Int) * 524288 ≤ (x1 : Int) := by omega
      have hs0 : ¬ (s : Int) = 0 := by omega
      have hs0n : ¬ s = 0 := by omega
      obtain ⟨X, hX⟩ : ∃ X, X = inX f s x1 := ⟨_, rfl⟩
      rw [← hX] at d8
      have HX := Lib.hid hX
      clear C hX
      go_wp2
      go_region
      all_goals (go_wp2; refine bodyPost_end (results_none rfl _ _ _) rfl ?_)
      all_goals exact ⟨rfl, by rw [← HX.out]; exact (HE.out.setX X).1.same rfl, (HOT.out.trans (HE.out.setX X).2).drew⟩
end
end Go.Proofs.Ytfdgnhfppginiaa
