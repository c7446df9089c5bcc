/- Layer 26: the bytes that are taken, one behind the other (an iterator). · Layer 26: what is decoded by a way. -/
import Derived.Test.YtgbibmgedmbboaaGreatBlendRc
import Derived.Test.YtgbibmgedmbboaaGreatRangeBoth
import Derived.BigRegionIn
import Derived.OwnWalkIn
namespace Go.Proofs.YtgbibmgedmbboaaGreat
open Go.RowKit Go.Sort Go.Shelf

section
variable {σ : Type} {V : Way σ}
/-- How a decoder stands behind bytes pre of l. -/
def GoodB (V : Way σ) (s0 : σ) (l X : List Nat) (dn : Nat) (pre : List Nat) (L R : Nat) (st : Nat × List Nat × Nat) : Prop :=
  (∀ c rest, l = pre ++ c :: rest → ∃ T, st = restS T X ∧ Laid L R (V.all (V.seen s0 pre) (c :: rest)) T ∧ InSpan L R ∧ 65536 ≤ R) ∧ (l = pre → doneS st = dn)
theorem GoodB.next {s0 : σ} {l X pre rest T : List Nat} {dn c L R : Nat} (h : l = pre ++ c :: rest) (hdn : l ≠ [] → dn = if X = [] then 0 else 16) (hla : Laid L R (V.all (V.next (V.seen s0 pre) c) rest) T) (hs : InSpan L R) (hR : 65536 ≤ R) : GoodB V s0 l X dn (pre ++ [c]) L R (restS T X) := by
  refine ⟨fun c' rest' h' => ?_, fun h' => ?_⟩
  · rw [h, List.append_assoc] at h'
    have e := List.append_cancel_left h'
    simp only [List.singleton_append, List.cons.injEq, true_and] at e
    subst e
    exact ⟨T, rfl, by rw [Way.seen_snoc]; exact hla, hs, hR⟩
  · have e : c :: rest = [c] := List.append_cancel_left (h.symm.trans h')
    simp only [List.cons.injEq, true_and] at e
    subst e
    rw [hdn (by rw [h]; simp)]
    have hT : T = be4 L := by
      cases hla with
      | last => rfl
    rw [hT]
    show (if (0 : Nat) = 0 then (if (be4 L ++ X).drop 4 = [] then 0 else 16) else 0) = _
    rw [if_pos rfl, show (be4 L ++ X).drop 4 = X from rfl]
/-- How all stands behind bytes pre of l. -/
structure TkSt (V : Way σ) (At : σ → World → Prop) (s0 : σ) (l X : List Nat) (dn D Kd Bn Bt Bd : Nat) (f : Value) (pre : List Nat) (L R : Nat) (st : Nat × List Nat × Nat) (w : World) : Prop where
  bn : Boxed w Bn 3 (.int .i64 (l.length : Int))
  bt : Boxed w Bt 53 f
  bd : Boxed w Bd 97 (.pointer (some ⟨D, 0, none⟩))
  at_ : At (V.seen s0 pre) w
  d : DecAt w D Kd L R st
  good : GoodB V s0 l X dn pre L R st
theorem TkSt.kept {K : Nat} {caps : Array Value} {S : List Nat} {own keep : Nat → Prop} {At : σ → World → Prop} {s0 : σ} {l X pre : List Nat} {dn D Kd Bn Bt Bd L R : Nat} {f : Value} {st : Nat × List Nat × Nat} {w w' : World} (HJ : TakeJ V K caps S own At)
    (hk : (∀ k, k ≤ D → keep k) ∧ (∀ k, own k → keep k) ∧ keep Bn ∧ keep Bt ∧ keep Bd) (h : TkSt V At s0 l X dn D Kd Bn Bt Bd f pre L R st w) (hb : KeepsB keep w w') : TkSt V At s0 l X dn D Kd Bn Bt Bd f pre L R st w' :=
  ⟨(hb.2 _ hk.2.2.1).trans h.bn, (hb.2 _ hk.2.2.2.1).trans h.bt, (hb.2 _ hk.2.2.2.2).trans h.bd, HJ.kept h.at_ fun k ho => hb.2 k (hk.2.1 k ho), h.d.kept fun k hkd => hb.2 k (hk.1 k hkd), h.good⟩
set_option maxRecDepth 100000 in
set_option maxHeartbeats 4000000 in
theorem taken1_hands {K : Nat} {caps : Array Value} {S : List Nat} {own keep : Nat → Prop} {At : σ → World → Prop} (HJ : TakeJ V K caps S own At) (hE : Enters Tryz.prog K) (N : Nat) (hN : 1 ≤ N) {D Kd Bn Bt Bd : Nat} {l X : List Nat} {s0 : σ} {dn L0 R0 : Nat} {st0 : Nat × List Nat × Nat} {w : World}
    (hk : (∀ k, k ≤ D → keep k) ∧ (∀ k, own k → keep k) ∧ keep Bn ∧ keep Bt ∧ keep Bd) (hS : Bn ∉ D :: S ∧ Bt ∉ D :: S ∧ Bd ∉ D :: S) (hi : V.inv s0) (hl : ∀ c ∈ l, c < 256) (hX : ∀ y ∈ X, y < 256) (hlen : l.length ≤ 1000000) (hdn : l ≠ [] → dn = if X = [] then 0 else 16)
    (h0 : TkSt V At s0 l X dn D Kd Bn Bt Bd (.func (.func K) #[] caps) [] L0 R0 st0 w) :
    HandsBoth N Tryz.prog 87 #[.pointer (some ⟨Bn, 0, none⟩), .pointer (some ⟨Bt, 0, none⟩), .pointer (some ⟨Bd, 0, none⟩)] (D :: S) keep (fun c : Nat => #[Value.int .u8 (c : Int)]) l (fun W => ∃ L R st, DecAt W D Kd L R st ∧ doneS st = dn) w := by
  intro lp J W hW hJ hY hJ0
  have HH := Lib.hid HJ
  have HE := Lib.hid hE
  have HK := Lib.hid hk
  have HS := Lib.hid hS
  have HI := Lib.hid hi
  have HL := Lib.hid hl
  have HX := Lib.hid hX
  have HDN := Lib.hid hdn
  have h0' := h0.kept HJ hk hW
  have hcn := h0'.bn.cell
  have H0 := Lib.hid h0'
  clear HJ hE hk hS hi hl hX hdn h0 h0' hW
  refine callsIn_of_wp Tryz.func87 rfl trivial ?_ rfl
  simp only [Tryz.ntmps87, List.size_toArray, List.length_cons, List.length_nil, Nat.reduceAdd, Nat.reduceSub, Array.replicate_succ, Array.replicate_zero, List.push_toArray, List.append_toArray, List.nil_append, List.cons_append]
  gi_wp2
  gi_loopw [7] (fun i wr => ∃ (pre rest : List Nat) (L R : Nat) (st : Nat × List Nat × Nat), l = pre ++ rest ∧ i = .int .i64 (pre.length : Int) ∧ TkSt V At s0 l X dn D Kd Bn Bt Bd (.func (.func K) #[] caps) pre L R st wr ∧ J pre wr)
    (fun i _ => l.length - (intOf i).toNat)
  case atStart => exact ⟨[], l, L0, R0, st0, rfl, rfl, H0.out, hJ0⟩
  case round =>
    clear H0 hcn hJ0
    obtain ⟨pre, rest, L, R, st, hl2, rfl, ht, hj⟩ := hrel
    have HT := Lib.hid ht
    have hct := ht.bt.cell
    have hcd := ht.bd.cell
    have hll : l.length = pre.length + rest.length := by rw [hl2, List.length_append]
    clear ht
    cases rest with
    | nil =>
      rw [List.append_nil] at hl2
      have hge : ¬ ((pre.length : Int) < (l.length : Int)) := by rw [hl2]; omega
      have HEND := Lib.hid (HT.out.good.2 hl2)
      clear hct hcd
      gi_wp2
      go_end0
      exact ⟨⟨_, rfl⟩, hj, L, R, st.1, st.2.1, st.2.2, HT.out.d, HEND.out⟩
    | cons c r =>
      have hlt : (pre.length : Int) < (l.length : Int) := by rw [hll, List.length_cons]; omega
      have hpl : pre.length < 1000000 := by rw [hll, List.length_cons] at hlen; omega
      have hmem : ∀ x ∈ pre, x < 256 := fun x hx => HL.out x (by rw [hl2]; simp [hx])
      have hmem2 : ∀ x ∈ c :: r, x < 256 := fun x hx => HL.out x (by rw [hl2]; simp only [List.mem_append]; exact .inr hx)
      have hinv := Way.seen_inv pre HI.out hmem
      obtain ⟨T, hst, hla, hsp, hR⟩ := HT.out.good.1 c r hl2
      have hd := HT.out.d
      rw [hst] at hd
      have CT := Lib.hid (HH.out.take hinv (hmem2 c (by simp)) HT.out.at_ hd hla hsp hR (Way.all_ok (V := V) (c :: r) hinv hmem2) HX.out)
      have HL2 := Lib.hid hl2
      have HJ2 := Lib.hid hj
      clear hmem hmem2 hinv hst hla hsp hR hd hl2 hj hll
      gi_wp2_with fail
      refine ⟨trivial, ?_⟩
      rw [HE.out]
      refine ⟨(fun h => by cases h), ?_⟩
      refine (callsIn_wide.2 CT.out).mono ?_
      rintro e w3 ⟨rfl, L', R', T', hla, hsp, hR, hat, hd, hu⟩
      have HG := Lib.hid (GoodB.next HL2.out HDN.out hla hsp hR)
      have hs := HS.out
      have ht3 : Boxed w3 Bn 3 (.int .i64 (l.length : Int)) ∧ Boxed w3 Bt 53 (.func (.func K) #[] caps) ∧ Boxed w3 Bd 97 (.pointer (some ⟨D, 0, none⟩)) := ⟨hu.blk (cs := [_]) HT.out.bn hs.1, hu.blk (cs := [_]) HT.out.bt hs.2.1, hu.blk (cs := [_]) HT.out.bd hs.2.2⟩
      have HT3 := Lib.hid ht3
      have HA3 := Lib.hid hat
      have HD3 := Lib.hid hd
      have HJ3 := Lib.hid (hJ _ _ _ HJ2.out hu)
      have hcd := ht3.2.2.cell
      have ce := decErr_any hd
      rw [show (((restS T' X).2.2 : Nat) : Int) = 0 from rfl] at ce
      have CE := Lib.hid ce
      clear hla hsp hR hat hd hu hs ht3 CT HT HJ2 ce
      gi_wp2_with fail
      refine ⟨trivial, (callsIn_wide.2 CE.out).mono ?_⟩
      rintro e w' ⟨rfl, hw⟩
      obtain rfl : _ = w' := hw.symm
      obtain ⟨fn, tmps, assign, body, hy, hYR⟩ := hY pre c r _ HL2.out.symm HJ3.out
      gi_wp2
      refine hYR.mono ?_
      rintro e3 w4 ⟨rfl, hJ4, hk4⟩
      have hT4 := TkSt.kept HH.out HK.out ⟨HT3.out.1, HT3.out.2.1, HT3.out.2.2, (by rw [Way.seen_snoc]; exact HA3.out), HD3.out, HG.out⟩ hk4
      have HT4 := Lib.hid hT4
      clear hT4 hk4 HT3 HA3 HD3 HG CE
      gi_wp2
      refine ⟨⟨pre ++ [c], r, L', R', _, by rw [HL2.out, List.append_assoc]; rfl, ?_, HT4.out, hJ4⟩, ?_⟩
      · rw [List.length_append, List.length_singleton]
        exact congrArg (Value.int IntKind.i64) (by omega)
      · simp only [intOf]
        omega
end
end Go.Proofs.YtgbibmgedmbboaaGreat
namespace Go.Proofs.YtgbibmgedmbboaaGreat
open Go.RowKit Go.Sort Go.Shelf
attribute [local go_sem] Oper.semAt_some

theorem taken_any (D K : Nat) (n : Int) (caps : Array Value) (w : World) : Calls Tryz.prog 55 #[.pointer (some ⟨D, 0, none⟩), .int .i64 n, .func (.func K) #[] caps] w fun e w' =>
    e = .returned (.func (.func 87) #[] #[.pointer (some ⟨w.heap.size + 1, 0, none⟩), .pointer (some ⟨w.heap.size + 1 + 1, 0, none⟩), .pointer (some ⟨w.heap.size, 0, none⟩)]) ∧ w'.heap.size = w.heap.size + 3 ∧
      Boxed w' (w.heap.size + 1) 3 (.int .i64 n) ∧ Boxed w' (w.heap.size + 1 + 1) 53 (.func (.func K) #[] caps) ∧ Boxed w' w.heap.size 97 (.pointer (some ⟨D, 0, none⟩)) ∧ Below w.heap.size w w' := by
  go_enter Tryz.func55, Tryz.ntmps55
  go_wp2
  go_ret
  have h1 := Boxed.new w 97 (.pointer (some ⟨D, 0, none⟩))
  have h2 := Boxed.new (w.alloc (.cells #[.pointer (some ⟨D, 0, none⟩)] 97)) 3 (.int .i64 n)
  have h3 := Boxed.new ((w.alloc (.cells #[.pointer (some ⟨D, 0, none⟩)] 97)).alloc (.cells #[.int .i64 n] 3)) 53 (.func (.func K) #[] caps)
  simp only [World.size_alloc] at h2 h3
  exact ⟨rfl, by simp, h2.alloc _, h3, (h1.alloc _).alloc _, (((Below.refl _ _).alloc (Nat.le_refl _) _).alloc (by simp) _).alloc (by simp; omega) _⟩
/-- Between two rounds: the box of what was taken, and its row. -/
structure DecI (w : World) (B Bb N0 : Nat) (pre : List Nat) (W : World) : Prop where
  row : ∃ v, Boxed W Bb 22 v ∧ W.ownsRow N0 5 1 v pre.length (nvs pre)
  below : Below B w W
theorem DecI.turns {w A C : World} {B Bb N0 : Nat} {S : List Nat} {pre : List Nat} (h : DecI w B Bb N0 pre A) (hu : TurnsF N0 S A C) (hS : ∀ k ∈ S, B ≤ k ∧ k < N0) (hb : Bb ∉ S) (hN : B ≤ N0) (hB : B ≤ w.heap.size) : DecI w B Bb N0 pre C := by
  obtain ⟨⟨v, h1, h2⟩, h3⟩ := h
  exact ⟨⟨v, hu.blk (cs := [_]) h1 hb, hu.own h2 fun k hk => (hS k hk).2⟩, h3.trans (hu.below (fun k hk => (hS k hk).1) hN (Nat.le_trans hB h3.size))⟩
theorem nvs_snoc (l : List Nat) (c : Nat) : nvs (l ++ [c]) = nvs l ++ [.int .u8 (c : Int)] := by simp [nvs]
theorem nvs_u8s {l : List Nat} (h : ∀ c ∈ l, c < 256) : nvs l = bvs (u8s l) := by
  simp only [nvs, bvs, u8s, List.map_map]
  refine List.map_congr_left fun c hc => ?_
  have := h c hc
  simp [UInt8.toNat_ofNat']
  omega
/-- What a round of the loop over them leaves. -/
def keepBl (Bb N0 k : Nat) : Prop := k < N0 ∧ k ≠ Bb
theorem decI_more {w Wd w4 : World} {B Bb N0 c : Nat} {pre : List Nat} {v v' : Value} {tmp : Obj} (h1 : Boxed Wd Bb 22 v) (h2 : Wd.ownsRow N0 5 1 v pre.length (nvs pre)) (h3 : Below B w Wd) (hB : B ≤ Bb) (hN : Bb < N0) (hs : N0 ≤ Wd.heap.size)
    (hown : w4.ownsRow N0 5 1 v' (pre.length + 1) (nvs pre ++ [.int .u8 (c : Int)])) (hg : (Wd.alloc tmp).grownBy w4 v.ownBlock) :
    Boxed w4 Bb 22 v ∧ KeepsFrom N0 Wd (w4.setCell ⟨Bb, 0, none⟩ v') ∧ KeepsB (keepBl Bb N0) Wd (w4.setCell ⟨Bb, 0, none⟩ v') ∧ DecI w B Bb N0 (pre ++ [c]) (w4.setCell ⟨Bb, 0, none⟩ v') := by
  obtain ⟨a1, a2, a3, a4, a5⟩ := h1.appended (by decide) (own_more h2 (Nat.le_of_lt hN)) (by omega) (Nat.le_refl _) (own_more hown (Nat.le_of_lt hN)) hg
  have hrow := own_block h2
  refine ⟨a1, a4.from _, ⟨a4.size, fun k hk => ?_⟩, ⟨⟨v', a2, ?_⟩, h3.trans (a5.mono hB)⟩⟩
  · obtain ⟨k1, k2⟩ := hk
    refine (Below.heap_setCell _ _ _ _ k2).trans ((hg.block k (by simp; omega) fun e => ?_).trans (Below.heap_alloc _ _ _ (by omega)))
    have := hrow k e.symm
    omega
  · rw [List.length_append, List.length_singleton, nvs_snoc]
    exact hown.kept (grownBy_setCell' w4 Bb v') (.inr (a1.not_row (by decide) hown).symm)
set_option maxRecDepth 100000 in
set_option maxHeartbeats 8000000 in
theorem decoded_any {σ : Type} {V : Way σ} {K : Nat} {caps : Array Value} {S : List Nat} {own : Nat → Prop} {At : σ → World → Prop} (HJ : TakeJ V K caps S own At) (hE : Enters Tryz.prog K) {w : World} {B : Nat} {A : Option Addr} {M m N : Nat} {bs : List UInt8} {l X : List Nat} {s0 : σ} {dn : Nat}
    (hr : Rd w w.heap.size A (bvs bs)) (hM : bs.length = M) (hM1 : M ≤ 100000) (hN : l.length = N) (hN1 : N ≤ 1000) (hl : ∀ c ∈ l, c < 256) (hX : ∀ y ∈ X, y < 256) (hi : V.inv s0) (hat : At s0 w) (hown : ∀ k, own k → k < w.heap.size) (hS : ∀ k ∈ S, B ≤ k ∧ k < w.heap.size) (hB : B ≤ w.heap.size)
    (hdn : l ≠ [] → dn = if X = [] then 0 else 16) (hdd : dn = 0 ∨ dn = 16) (hg : GoodB V s0 l X dn [] 0 4294967295 (comesS 4 (0, bs.map UInt8.toNat, 0))) (hne : N ≠ 0 ∨ (N = 0 ∧ M ≠ 0)) :
    Calls Tryz.prog 25 #[.slice A M m, .int .i64 (N : Int), .func (.func K) #[] caps] w fun e w' => ∃ v, e = .returned (.tuple #[v, .int .i64 (dn : Int)]) ∧ IsBytes (if dn = 0 then u8s l else []) v w' ∧ Below B w w' := by
  obtain ⟨i0, hi0, hz0, hz1, hz2⟩ := info_parts info_u8r
  have CR := Lib.hid (decRead_any (m := m) bs hr hM (by omega))
  have HH := Lib.hid HJ
  have HE := Lib.hid hE
  have HN := Lib.hid hN
  have HN1 := Lib.hid (show l.length ≤ 1000 by rw [hN]; exact hN1)
  have HL := Lib.hid hl
  have HX := Lib.hid hX
  have HI := Lib.hid hi
  have HA := Lib.hid hat
  have HO := Lib.hid hown
  have HS := Lib.hid hS
  have HB := Lib.hid hB
  have HDN := Lib.hid hdn
  have HDD := Lib.hid hdd
  have HG := Lib.hid hg
  obtain ⟨nv, hnv⟩ : ∃ nv : Int, nv = (N : Int) := ⟨_, rfl⟩
  rw [← hnv]
  have t1 : ¬ (nv < 0) := by omega
  have t2 : ¬ ((67108864 : Int) < nv) := by omega
  have hne2 : (nv == 0) = false ∨ ((nv == 0) = true ∧ ¬ ((M : Int) = 0)) := by
    rcases hne with h | ⟨h1, h2⟩
    · exact .inl (by simp; omega)
    · exact .inr ⟨by simp; omega, by omega⟩
  have HNV := Lib.hid (show nv = (l.length : Int) by rw [hnv, hN])
  clear HN hnv hne HJ hE hr hM hM1 hN hN1 hl hX hi hat hown hS hB hdn hdd hg
  refine (callsIn_wide (n := 4)).1 ?_
  refine callsIn_of_wp_marks Tryz.func25 rfl trivial ?_ rfl
  simp only [Tryz.ntmps25, List.size_toArray, List.length_cons, List.length_nil, Nat.reduceAdd, Nat.reduceSub, Array.replicate_succ, Array.replicate_zero, List.push_toArray, List.append_toArray, List.nil_append, List.cons_append]
  rcases hne2 with hn | ⟨hn, hm⟩
  all_goals
    gi_wp2_with fail
    refine ⟨trivial, (callsIn_wide.2 CR.out).mono ?_⟩
    rintro e w1 ⟨D, rfl, hD, hd, hb1⟩
    have hb2 := (Boxed.new w1 22 (.slice none 0 0))
    have hbw2 : Below w1.heap.size w1 (w1.alloc (.cells #[.slice none 0 0] 22)) := (Below.refl _ _).alloc (Nat.le_refl _) _
    have hsz2 : (w1.alloc (.cells #[.slice none 0 0] 22)).heap.size = w1.heap.size + 1 := World.size_alloc _ _
    obtain ⟨w2, hw2⟩ : ∃ w2, w2 = w1.alloc (.cells #[.slice none 0 0] 22) := ⟨_, rfl⟩
    obtain ⟨Bb, hBb⟩ : ∃ Bb, Bb = w1.heap.size := ⟨_, rfl⟩
    rw [← hw2, ← hBb] at hb2
    rw [← hw2] at hbw2
    rw [← hw2, ← hBb] at hsz2
    have hDl := hd.lt
    rw [← hBb] at hDl
    have HD2 := Lib.hid (hd.below hbw2)
    have HB2 := Lib.hid (hb1.trans (hbw2.mono hb1.size))
    have HBX := Lib.hid hb2
    have HW := Lib.hid (And.intro hw2 hBb)
    have HSZ := Lib.hid (And.intro hsz2 (And.intro hDl (And.intro hD (show w.heap.size ≤ Bb by rw [hBb]; exact hb1.size))))
    clear hb2 hbw2 hsz2 hw2 hBb hDl hd hb1 hD CR
    gi_wp2_with fail
    simp only [← HW.out.1, ← HW.out.2]
    refine ⟨trivial, (callsIn_wide.2 (taken_any D K nv caps w2)).mono ?_⟩
    rintro e w3 ⟨rfl, hs3, hbn, hbt, hbd, hb3⟩
    have hbx3 : Boxed w3 Bb 22 (.slice none 0 0) := Blk.grow (cs := [_]) HBX.out hb3
    rw [HSZ.out.1] at hs3 hbn hbt hbd
    have hb03 := HB2.out.trans (hb3.mono HB2.out.size)
    have hz := HSZ.out
    have hsS := HS.out
    have h0 : TkSt V At s0 l X dn D D (Bb + 1 + 1) (Bb + 1 + 1 + 1) (Bb + 1) (.func (.func K) #[] caps) [] 0 4294967295 (comesS 4 (0, bs.map UInt8.toNat, 0)) w3 :=
      ⟨by rw [← HNV.out]; exact hbn, hbt, hbd, HH.out.kept HA.out (fun k hk => hb03.block k (HO.out k hk)), HD2.out.below hb3, HG.out⟩
    have hns : ∀ j, Bb + j ∉ D :: S := fun j hj => by
      rcases List.mem_cons.1 hj with hj | hj
      · omega
      · have := (hsS _ hj).2; omega
    have HHN := Lib.hid (taken1_hands HH.out HE.out 3 (by omega) (keep := keepBl Bb w3.heap.size) ⟨fun k hk => ⟨by omega, by omega⟩, fun k hk => by have := HO.out k hk; exact ⟨by omega, by omega⟩, ⟨by omega, by omega⟩, ⟨by omega, by omega⟩, ⟨by omega, by omega⟩⟩ ⟨hns 2, hns 3, hns 1⟩ HI.out HL.out HX.out (by have := HN1.out; omega) HDN.out h0)
    have HI0 := Lib.hid (⟨⟨_, hbx3, World.ownsRow_nil _ _ _ _⟩, hb03.mono HB.out⟩ : DecI w B Bb w3.heap.size [] w3)
    have HNS := Lib.hid (And.intro hs3 (And.intro (show Bb ∉ D :: S from hns 0) (show ∀ k ∈ D :: S, B ≤ k ∧ k < w3.heap.size from fun k hk => by
      have := HB.out
      rcases List.mem_cons.1 hk with rfl | hk
      · omega
      · have := hsS _ hk; omega)))
    have h4 : w2.heap.size = Bb + 1 := HSZ.out.1
    rw [h4]
    clear hs3 hbn hbt hbd hb3 hbx3 hb03 hz hsS h0 hns h4
    gi_wp2
    refine wpIn_range_both (by omega) (gf := 87) (lb := #[.pointer (some ⟨Bb + 1 + 1, 0, none⟩), .pointer (some ⟨Bb + 1 + 1 + 1, 0, none⟩), .pointer (some ⟨Bb + 1, 0, none⟩)]) rfl (enters_of Tryz.func87 (by kernel_rfl) rfl)
      HHN.out (fun k hk => hk.1) (fun k hk => (HNS.out.2.2 k hk).2) (fun _ => rfl) ?_
      (DecI w B Bb w3.heap.size) (fun s A C h hu => h.turns hu HNS.out.2.2 HNS.out.2.1 (by have := HNS.out.1; have := HSZ.out; have := HB.out; omega) HB.out) HI0.out ?_ ?_ ?_ ?_
    · rintro A C ⟨L, R, st, hd, he⟩ hu
      refine ⟨L, R, st, hd.kept fun k hk => ?_, he⟩
      have h1 := hd.lt
      rcases hu.block k (by omega) List.not_mem_nil with ⟨h2, -⟩ | e
      · have := HNS.out.1; have := HSZ.out; omega
      · exact e
    rotate_left
    · intro lq x Wd K hK
      gi_wp2
      exact hK
    · rintro lq pre c rest Wd hxs ⟨⟨v, hv, hrow⟩, hbw⟩ hsz
      obtain ⟨Av, cv, rfl, -, -, -⟩ := own_form hrow
      have hc := hv.cell
      have hpl : pre.length < 1000 := by
        have h1 := congrArg List.length hxs
        rw [List.length_append, List.length_cons] at h1
        have := HN1.out
        omega
      have HV := Lib.hid (And.intro hv (And.intro hrow (And.intro hbw hsz)))
      clear hv hbw hxs
      gi_wp2_with (gi_at_builtin; refine wpListIn_append_own _ rfl _ _ 22 rfl w3.heap.size 5 i0 (.int .u8 0) 1 1 Tryz.underlying22 hi0 hz0 hz1 hz2 rfl (by decide) _ pre.length (nvs pre) rfl (hrow.alloc _) ⟨Wd.heap.size, 0, none⟩ 1 1 [.int .u8 (c : Int)] rfl rfl (cell_one_new _ _ _) (by simp [Value.oneCell']) (by simp only [maxLen]; omega) (by omega) (by simp; omega) ?_; intro v4 w4 hown4 hg4 _; obtain ⟨A4, c4, rfl, -, -, -⟩ := own_form hown4; obtain ⟨a1, a2, a3, a4⟩ := decI_more HV.out.1 HV.out.2.1 HV.out.2.2.1 (by have := HSZ.out; have := HB.out; omega) (by have := HNS.out.1; omega) HV.out.2.2.2 hown4 hg4; have hc4 := a1.cell; have hf4 := a1.frozen; have HR4 := Lib.hid (And.intro a2 (And.intro a3 a4)); clear hown4 hg4 a1 a2 a3 a4)
      exact HR4.out
    · rintro D' Wd hD' ⟨⟨v, hv, hrow⟩, hbw⟩ ⟨L, R, st, hd, he⟩ hK
      have CD := decDone_any hd
      rw [he] at CD
      obtain ⟨Av, cv, rfl, -, -, -⟩ := own_form hrow
      have hc := hv.cell
      have hDw : w.heap.size ≤ D' := by have := HNS.out.1; have := HSZ.out; omega
      have HF := Lib.hid (hbw.trans (belowK_b (w := w) HB.out Wd D' _ (.deferred none) hDw hK rfl rfl))
      have hrw := ownsRow_putObj hrow (.deferred none) hK rfl
      have hll : l.length = (u8s l).length := (u8s_length l).symm
      rw [nvs_u8s HL.out, hll] at hrw
      have hbs := IsBytes.of_own hrw
      rw [u8s_length] at hbs
      have HRW := Lib.hid hbs
      have HK := Lib.hid hK
      clear hv hbw hd he hrow hK hll hrw hbs
      rcases HDD.out with rfl | rfl
      · have cd : Calls Tryz.prog 56 #[.pointer (some ⟨D, 0, none⟩)] Wd fun e w' => e = .returned (.int .i64 0) ∧ w' = Wd := CD
        have CD0 := Lib.hid cd
        clear CD cd
        gi_wp2_with fail
        refine ⟨trivial, (callsIn_wide.2 CD0.out).mono ?_⟩
        rintro e w' ⟨rfl, hw⟩
        obtain rfl : _ = w' := hw.symm
        gi_wp2
        refine ⟨by simp, .inl ⟨_, _, rfl, run_takeDeferred HK.out, ?_⟩⟩
        refine ⟨_, results_tmp2 rfl _ _ _, ?_⟩
        exact ⟨_, rfl, HRW.out, HF.out⟩
      · have cd : Calls Tryz.prog 56 #[.pointer (some ⟨D, 0, none⟩)] Wd fun e w' => e = .returned (.int .i64 16) ∧ w' = Wd := CD
        have CD0 := Lib.hid cd
        clear CD cd
        gi_wp2_with fail
        refine ⟨trivial, (callsIn_wide.2 CD0.out).mono ?_⟩
        rintro e w' ⟨rfl, hw⟩
        obtain rfl : _ = w' := hw.symm
        gi_wp2
        refine ⟨by simp, .inl ⟨_, _, rfl, run_takeDeferred HK.out, ?_⟩⟩
        refine ⟨_, results_tmp2 rfl _ _ _, ?_⟩
        exact ⟨_, rfl, nil_bytes _, HF.out⟩
end Go.Proofs.YtgbibmgedmbboaaGreat
