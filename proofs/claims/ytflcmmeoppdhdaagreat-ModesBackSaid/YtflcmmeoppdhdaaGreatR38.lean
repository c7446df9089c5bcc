/-
  Layer 26: Decode and Adapted, of what was coded. · Layer 27: what the program's Code and Decode tell, by any mode. · Layer 27: the modes' names: Name, Find; the reference's Names. · Layer 27: the fixed calls. · Layer 27: the law ModesBack.
-/
import Derived.Test.YtflcmmeoppdhdaaGreatR36
import Derived.Test.YtflcmmeoppdhdaaGreatR37
import Derived.Lib.SlBytesConst
namespace Go.Proofs.YtflcmmeoppdhdaaGreat
open Go.RowKit Go.Sort Go.Shelf

/-- What hands back bytes and an error. -/
def DecBl (w : World) (Q : List UInt8) (n : Nat) (e : Ending) (w' : World) : Prop := ∃ v, e = .returned (.tuple #[v, .int .i64 (n : Int)]) ∧ IsBytes Q v w' ∧ Below w.heap.size w w'
section
variable {σ : Type} {V : Way σ}
/-- What a decoder stands for at the start of what was coded, and of bytes behind it. -/
theorem goodB_start {s0 : σ} (hi : V.inv s0) {l Q : List UInt8} (hQ : BldQ V s0 l Q) (X : List UInt8) (hX : X.length ≤ 1) (h0 : ¬ (l = [] ∧ Q ++ X = [])) :
    GoodB V s0 (l.map UInt8.toNat) (X.map UInt8.toNat) (if X = [] then 0 else 16) [] 0 4294967295 (comesS 4 (0, (Q ++ X).map UInt8.toNat, 0)) := by
  rcases hQ with ⟨rfl, rfl⟩ | ⟨h1, T, h2, rfl, -⟩
  · refine ⟨fun c rest h => by simp at h, fun _ => ?_⟩
    match X, hX with
    | [], _ => exact absurd ⟨rfl, rfl⟩ h0
    | [x], _ => rw [if_neg (by simp)]; rfl
  · have hok := Way.all_ok (V := V) (l.map UInt8.toNat) hi (u8_lt l)
    obtain ⟨b1, b2, -, -⟩ := h2.within span_start (by decide) hok
    have e : (u8s T ++ X).map UInt8.toNat = T ++ X.map UInt8.toNat := by
      rw [List.map_append]
      congr 1
      simp only [u8s, List.map_map]
      refine (List.map_congr_left fun c hc => ?_).trans (List.map_id T)
      have := b1 c hc
      simp [UInt8.toNat_ofNat']
      omega
    rw [e, restS_start (fun y hy => by
      rcases List.mem_append.1 hy with hy | hy
      · exact b1 y hy
      · exact u8_lt X y hy) b2]
    refine ⟨fun c rest h => ⟨T, rfl, ?_, span_start, by decide⟩, fun h => ?_⟩
    · rw [List.nil_append] at h
      rw [← h]
      exact h2
    · exact absurd (List.map_eq_nil_iff.1 h) h1
end
theorem takeBits_any (M : Nat) (w : World) : Calls Tryz.prog 95 #[.pointer (some ⟨M, 0, none⟩)] w fun e w' => ∃ Bm, e = .returned (.func (.func 152) #[] #[.pointer (some ⟨Bm, 0, none⟩)]) ∧ w.heap.size ≤ Bm ∧ Boxed w' Bm 151 (.pointer (some ⟨M, 0, none⟩)) ∧ Below w.heap.size w w' := by
  go_enter Tryz.func95, Tryz.ntmps95
  go_wp2
  go_ret
  exact ⟨w.heap.size, rfl, Nat.le_refl _, Boxed.new _ _ _, (Below.refl _ _).alloc (Nat.le_refl _) _⟩
theorem takeLetter_any (M : Nat) (w : World) : Calls Tryz.prog 92 #[.pointer (some ⟨M, 0, none⟩)] w fun e w' => ∃ Bm, e = .returned (.func (.func 142) #[] #[.pointer (some ⟨Bm, 0, none⟩)]) ∧ w.heap.size ≤ Bm ∧ Boxed w' Bm 144 (.pointer (some ⟨M, 0, none⟩)) ∧ Below w.heap.size w w' := by
  go_enter Tryz.func92, Tryz.ntmps92
  go_wp2
  go_ret
  exact ⟨w.heap.size, rfl, Nat.le_refl _, Boxed.new _ _ _, (Below.refl _ _).alloc (Nat.le_refl _) _⟩
theorem bitsTake_j {Bm : Nat} {a : ModA} : TakeJ bitWay 152 #[.pointer (some ⟨Bm, 0, none⟩)] a.all (fun k => k = Bm ∨ k ∈ a.every) (BitsAt Bm a) :=
  ⟨fun {s w w'} h hk => by
    have q : ∀ {g : Nat} {t : TypeId} {cs : List Value}, Blk w g t cs → g ∈ a.every → Blk w' g t cs := fun hb hg => (hk _ (.inr hg)).trans hb
    have m := h.m
    exact ⟨(hk _ (.inl rfl)).trans h.box, ⟨q m.mb (by simp [ModA.every]), ⟨q m.b1.fb (by simp [ModA.every]), q m.b1.cb (by simp [ModA.every]), m.b1.row, m.b1.pow, m.b1.lo⟩, ⟨q m.b2.fb (by simp [ModA.every]), q m.b2.cb (by simp [ModA.every]), m.b2.row, m.b2.pow, m.b2.lo⟩, ⟨q m.b3.fb (by simp [ModA.every]), q m.b3.cb (by simp [ModA.every]), m.b3.row, m.b3.pow, m.b3.lo⟩, ⟨q m.x.fb (by simp [ModA.every]), m.x.wts, m.x.lo⟩, m.ok, m.n12, m.n13, m.n23⟩⟩,
   fun _ hc hat hd hla hsp hR hps hX => takeBits1_any hc hat hd hla hsp hR hps hX⟩
theorem letter_take {Bm F T S : Nat} : TakeJ letWay 142 #[.pointer (some ⟨Bm, 0, none⟩)] [T, S] (fun k => k = Bm ∨ k = F ∨ k = T ∨ k = S) (LetAt Bm F T S) :=
  ⟨fun h hk => ⟨(hk _ (.inl rfl)).trans h.box, ⟨(hk _ (.inr (.inl rfl))).trans h.f.fb, h.f.tree.1, (hk _ (.inr (.inr (.inl rfl)))).trans h.f.tree.2.tb, (hk _ (.inr (.inr (.inr rfl)))).trans h.f.tree.2.sb⟩⟩,
   fun hi hc hat hd hla hsp hR hps hX => takeLetter1_any hi hc hat hd hla hsp hR hps hX⟩
set_option maxRecDepth 100000 in
theorem decoded_nil (A : Option Addr) (m : Nat) (f : Value) (w : World) : Calls Tryz.prog 91 #[.slice A (0 : Nat) m, .int .i64 ((0 : Nat) : Int), f] w fun e w' => e = .returned (.tuple #[.slice none 0 0, .int .i64 0]) ∧ w' = w := by
  go_enter Tryz.func91, Tryz.ntmps91
  go_wp2
  go_ret2
  exact ⟨rfl, rfl⟩
/-- What decoded says of what was coded by a way, and of a byte more. -/
theorem decoded_q {σ : Type} {V : Way σ} {K : Nat} {caps : Array Value} {S : List Nat} {own : Nat → Prop} {At : σ → World → Prop} (HJ : TakeJ V K caps S own At) (hE : Enters Tryz.prog K) {w : World} {B : Nat} {A : Option Addr} {m : Nat} {l Q X : List UInt8} {s0 : σ}
    (hQ : BldQ V s0 l Q) (hl : l.length ≤ 1000) (hX : X.length ≤ 1) (hr : Rd w w.heap.size A (bvs (Q ++ X))) (hi : V.inv s0) (hat : At s0 w) (hown : ∀ k, own k → k < w.heap.size) (hS : ∀ k ∈ S, B ≤ k ∧ k < w.heap.size) (hB : B ≤ w.heap.size) :
    Calls Tryz.prog 91 #[.slice A (Q ++ X).length m, .int .i64 (l.length : Int), .func (.func K) #[] caps] w fun e w' => ∃ v, e = .returned (.tuple #[v, .int .i64 ((if X = [] then 0 else 16 : Nat) : Int)]) ∧ IsBytes (if X = [] then l else []) v w' ∧ Below B w w' := by
  by_cases h0 : l = [] ∧ Q ++ X = []
  · obtain ⟨rfl, h2⟩ := h0
    obtain ⟨-, rfl⟩ := List.append_eq_nil_iff.1 h2
    rw [h2]
    refine (decoded_nil A m _ w).mono ?_
    rintro e w' ⟨rfl, rfl⟩
    exact ⟨_, rfl, nilBytes _, Below.refl _ _⟩
  · have hlen : (Q ++ X).length ≤ 100000 := by
      rw [List.length_append]
      rcases hQ with ⟨-, rfl⟩ | ⟨-, T, -, rfl, hT⟩
      · simp; omega
      · rw [u8s_length]; omega
    have hll : (l.map UInt8.toNat).length = l.length := List.length_map _
    have hlu : u8s (l.map UInt8.toNat) = l := by
      simp only [u8s, List.map_map]
      exact (List.map_congr_left fun c _ => UInt8.ofNat_toNat).trans (List.map_id l)
    refine (decoded_any (B := B) (m := m) (X := X.map UInt8.toNat) HJ hE hr rfl hlen hll hl (u8_lt l) (u8_lt X) hi hat hown hS hB ?_ ?_ (goodB_start hi hQ X hX h0) ?_).mono ?_
    · intro _
      by_cases hx : X = []
      · rw [if_pos hx, if_pos (by rw [hx]; rfl)]
      · rw [if_neg hx, if_neg (fun e => hx (List.map_eq_nil_iff.1 e))]
    · split
      · exact .inl rfl
      · exact .inr rfl
    · by_cases hl0 : l = []
      · refine .inr ⟨by rw [hl0]; rfl, fun e => h0 ⟨hl0, List.length_eq_zero_iff.1 e⟩⟩
      · exact .inl fun e => hl0 (List.length_eq_zero_iff.1 e)
    · rintro e w' ⟨v, rfl, hv, hb⟩
      refine ⟨v, rfl, ?_, hb⟩
      rw [hlu] at hv
      by_cases hx : X = []
      · rw [if_pos hx] at hv ⊢
        exact hv
      · rw [if_neg hx] at hv ⊢
        exact hv
set_option maxHeartbeats 1000000 in
set_option maxRecDepth 100000 in
/-- P26.3, bit by bit: what was coded is decoded; with a byte more it is none. -/
theorem blendDecode_q {w : World} {l Q X : List UInt8} (hQ : BldQ bitWay newD l Q) (hl : l.length ≤ 1000) (hX : X.length ≤ 1) (v : Value) (h : IsBytes (Q ++ X) v w) :
    Calls Tryz.prog 48 #[v, .int .i64 (l.length : Int)] w (DecBl w (if X = [] then l else []) (if X = [] then 0 else 16)) := by
  obtain ⟨A, c, rfl, hc, hr⟩ := h
  have HQ := Lib.hid hQ
  have HL := Lib.hid hl
  have HX := Lib.hid hX
  have HR := Lib.hid hr
  obtain ⟨N, hN⟩ : ∃ N, N = l.length := ⟨_, rfl⟩
  obtain ⟨M, hM⟩ : ∃ M, M = (Q ++ X).length := ⟨_, rfl⟩
  rw [← hN, ← hM]
  have HN := Lib.hid (And.intro hN hM)
  obtain ⟨Z, hZ⟩ : ∃ Z, Z = if X = [] then l else [] := ⟨_, rfl⟩
  obtain ⟨z, hz⟩ : ∃ z, z = if X = [] then 0 else 16 := ⟨_, rfl⟩
  rw [← hZ, ← hz]
  have HZ := Lib.hid (And.intro hZ hz)
  clear hQ hl hr hc hN hM hX hZ hz
  go_enter Tryz.func48, Tryz.ntmps48
  go_wp2_with fail
  refine (modNew_any w).mono ?_
  rintro e w1 ⟨a, rfl, hm1, hlo1, hb1⟩
  have H1 := Lib.hid (And.intro hm1 (And.intro hlo1 hb1))
  clear hm1 hlo1 hb1
  go_wp2_with fail
  refine (takeBits_any a.M w1).mono ?_
  rintro e w2 ⟨Bm, rfl, -, hbox, hb2⟩
  have hb12 := H1.out.2.2.trans (hb2.mono H1.out.2.2.size)
  have hm2 := H1.out.1.grow hb2
  have hev := hm2.lt
  have C := decoded_q (B := w.heap.size) (m := c) (bitsTake_j (Bm := Bm) (a := a)) (enters_of Tryz.func152 (by kernel_rfl) rfl) HQ.out HL.out HX.out ((HR.out.below hb12).more hb12.size) newD_ok ⟨hbox, hm2⟩
    (fun k hk => by
      rcases hk with rfl | hk
      · exact Blk.lt (cs := [_]) hbox
      · exact hev k hk) (fun k hk => ⟨H1.out.2.1 k (ModA.all_every k hk), hev k (ModA.all_every k hk)⟩) hb12.size
  rw [← HN.out.1, ← HN.out.2, ← HZ.out.1, ← HZ.out.2] at C
  have C1 := Lib.hid C
  have HB := Lib.hid hb12
  clear hbox hb2 hb12 C H1 hm2 hev
  go_wp2_with fail
  refine C1.out.mono ?_
  rintro e w3 ⟨v, rfl, hv, hb3⟩
  have HF := Lib.hid (And.intro hv (HB.out.trans hb3))
  clear hv hb3 C1
  go_wp2
  go_ret2
  exact ⟨v, rfl, HF.out⟩
set_option maxHeartbeats 1000000 in
set_option maxRecDepth 100000 in
/-- P26.3, letter by letter. -/
theorem blendAdapted_q {w : World} {l Q X : List UInt8} (hQ : BldQ letWay noneF l Q) (hl : l.length ≤ 1000) (hX : X.length ≤ 1) (v : Value) (h : IsBytes (Q ++ X) v w) :
    Calls Tryz.prog 46 #[v, .int .i64 (l.length : Int)] w (DecBl w (if X = [] then l else []) (if X = [] then 0 else 16)) := by
  obtain ⟨A, c, rfl, hc, hr⟩ := h
  have HQ := Lib.hid hQ
  have HL := Lib.hid hl
  have HX := Lib.hid hX
  have HR := Lib.hid hr
  obtain ⟨N, hN⟩ : ∃ N, N = l.length := ⟨_, rfl⟩
  obtain ⟨M, hM⟩ : ∃ M, M = (Q ++ X).length := ⟨_, rfl⟩
  rw [← hN, ← hM]
  have HN := Lib.hid (And.intro hN hM)
  obtain ⟨Z, hZ⟩ : ∃ Z, Z = if X = [] then l else [] := ⟨_, rfl⟩
  obtain ⟨z, hz⟩ : ∃ z, z = if X = [] then 0 else 16 := ⟨_, rfl⟩
  rw [← hZ, ← hz]
  have HZ := Lib.hid (And.intro hZ hz)
  clear hQ hl hr hc hN hM hX hZ hz
  go_enter Tryz.func46, Tryz.ntmps46
  go_wp2_with fail
  refine (letterCounts_any w).mono ?_
  rintro e w1 ⟨F, T, S, rfl, hm1, hlo1, hb1⟩
  have H1 := Lib.hid (And.intro hm1 (And.intro hlo1 hb1))
  clear hm1 hlo1 hb1
  go_wp2_with fail
  refine (takeLetter_any F w1).mono ?_
  rintro e w2 ⟨Bm, rfl, -, hbox, hb2⟩
  have hb12 := H1.out.2.2.trans (hb2.mono H1.out.2.2.size)
  have hm2 : IsFreq w2 F T S noneF 24 16384 := ⟨H1.out.1.fb.grow hb2, H1.out.1.tree.grow hb2⟩
  have C := decoded_q (B := w.heap.size) (m := c) (letter_take (Bm := Bm) (F := F) (T := T) (S := S)) (enters_of Tryz.func142 (by kernel_rfl) rfl) HQ.out HL.out HX.out ((HR.out.below hb12).more hb12.size) noneF_inv ⟨hbox, hm2⟩
    (fun k hk => by
      rcases hk with rfl | rfl | rfl | rfl
      · exact Blk.lt (cs := [_]) hbox
      · exact hm2.fb.lt
      · exact hm2.tree.2.tb.lt
      · exact hm2.tree.2.sb.lt) (fun k hk => by
      simp only [List.mem_cons, List.not_mem_nil, or_false] at hk
      rcases hk with rfl | rfl
      · exact ⟨H1.out.2.1.1, hm2.tree.2.tb.lt⟩
      · exact ⟨H1.out.2.1.2, hm2.tree.2.sb.lt⟩) hb12.size
  rw [← HN.out.1, ← HN.out.2, ← HZ.out.1, ← HZ.out.2] at C
  have C1 := Lib.hid C
  have HB := Lib.hid hb12
  clear hbox hb2 hb12 C H1 hm2
  go_wp2_with fail
  refine C1.out.mono ?_
  rintro e w3 ⟨v, rfl, hv, hb3⟩
  have HF := Lib.hid (And.intro hv (HB.out.trans hb3))
  clear hv hb3 C1
  go_wp2
  go_ret2
  exact ⟨v, rfl, HF.out⟩
end Go.Proofs.YtflcmmeoppdhdaaGreat
namespace Go.Proofs.YtflcmmeoppdhdaaGreat
open Go.RowKit Go.Sort Go.Shelf

set_option maxRecDepth 100000 in
theorem huffDec_nil {v : Value} {w : World} (h : IsBytes [] v w) : Calls Tryz.prog 50 #[v, .int .i64 0] w (SaysM w [] 0) := by
  obtain ⟨A, c, rfl, hc, hr⟩ := h
  go_enter Tryz.func50, Tryz.ntmps50
  go_wp2
  go_ret2
  exact ⟨_, rfl, none_bytes _, Below.refl _ _⟩
section
variable {k V : Nat} {l Q : List UInt8}
theorem wayCode_any (hk : k ≤ 5) (hQ : ModeQ k V l Q) (hl : l.length ≤ 1000) {v : Value} {W : World} (h : IsBytes l v W) : Calls Tryz.prog (codeK k) #[wayX k, v, .int .i64 (V : Int)] W (NewM W Q) := by
  rcases (show k = 0 ∨ k = 1 ∨ k = 2 ∨ k = 3 ∨ k = 4 ∨ k = 5 by omega) with rfl | rfl | rfl | rfl | rfl | rfl
  · rw [show Q = l from hQ]
    exact theyCode_any _ h (by omega)
  · exact wordsCode_any fun W' hb => (riceCode_says (V : Int) (h.grow hb) (by omega) hQ).mono fun _ _ => newBy_m
  · exact lettersCode_any (enters_of Tryz.func43 (by kernel_rfl) rfl) fun W' hb => ransCode_q hQ (by omega) v W' (h.grow hb)
  · exact lettersCode_any (enters_of Tryz.func45 (by kernel_rfl) rfl) fun W' hb => blendAdapt_q hQ hl v (h.grow hb)
  · exact lettersCode_any (enters_of Tryz.func47 (by kernel_rfl) rfl) fun W' hb => blendCode_q hQ hl v (h.grow hb)
  · exact lettersCode_any (enters_of Tryz.func49 (by kernel_rfl) rfl) fun W' hb => huffCode_q hQ (by omega) v W' (h.grow hb)
/-- **P27.1**: Code, by any mode. -/
theorem modesCode_q (hk : k ≤ 5) (hV : IsW V) (hQ : ModeQ k V l Q) (hl : l.length ≤ 1000) {v : Value} {w : World} (h : IsBytes l v w) : Calls Tryz.prog 8 #[.int .i64 (k : Int), v, .int .i64 (V : Int)] w (SaysM w Q 0) :=
  mdsCode_any hk hV fun _ hb => wayCode_any hk hQ hl (h.grow hb)
theorem modeQ_some (k : Nat) {V : Nat} (l : List UInt8) (hl : l.length ≤ 1000) {A : Option Addr} {w : World} (hr : Rd w w.heap.size A (bvs l)) : ∃ Q, ModeQ k V l Q := by
  match k with
  | 0 => exact ⟨l, rfl⟩
  | 1 => exact riceSays_some _ l
  | 2 => exact ransQ_some (by omega) hr
  | 3 => exact bldQ_some letWay noneF_inv l hl
  | 4 => exact bldQ_some bitWay newD_ok l hl
  | k + 5 => exact huffQ_some (by omega) hr
theorem riceSays_len {V : Nat} (hV : IsW V) {l Q : List UInt8} (h : RiceSays (V : Int) l Q) (hl : l.length ≤ 1000) : Q.length ≤ 10000 := by
  rcases h with ⟨h1, -⟩ | ⟨V', L, h1, h2, h3, h4⟩
  · have := hV.right; rw [h1] at this; cases this
  · obtain rfl : V = V' := by omega
    obtain ⟨L', g1, g2⟩ := riceL_some hV l
    obtain rfl := h3.one g1
    have h5 := h4.1
    rw [List.length_append, allBits_len, restOf_len] at h5
    have : (24 + 8 * V) * (l.length / V) ≤ 32 * l.length := by
      rcases hV with rfl | rfl | rfl | rfl <;> omega
    omega
theorem wayDec_any (hk : k ≤ 5) (hV : IsW V) (hQ : ModeQ k V l Q) (hl : l.length ≤ 1000) {v : Value} {W : World} (h : IsBytes Q v W) : Calls Tryz.prog (decK k) #[wayX k, v, .int .i64 (V : Int), .int .i64 (l.length : Int)] W (SaysM W l 0) := by
  rcases (show k = 0 ∨ k = 1 ∨ k = 2 ∨ k = 3 ∨ k = 4 ∨ k = 5 by omega) with rfl | rfl | rfl | rfl | rfl | rfl
  · obtain rfl : Q = l := hQ
    exact theyDec_any _ h (by omega)
  · obtain ⟨⟨o, ho, hout⟩, -⟩ := rice_back hV hQ
    refine wordsDec_any fun W' hb => ?_
    have C := riceDec_any hV (n := l.length) (by omega) Q v W' (h.grow hb) (riceSays_len hV hQ hl) ho
    rw [hout] at C
    exact C
  · exact lettersDec_any (enters_of Tryz.func44 (by kernel_rfl) rfl) fun W' hb => (ransBack_q hQ (by omega) v W').1 (h.grow hb)
  · exact lettersDec_any (enters_of Tryz.func46 (by kernel_rfl) rfl) fun W' hb => blendAdapted_q (X := []) hQ hl (by decide) v (by rw [List.append_nil]; exact h.grow hb)
  · exact lettersDec_any (enters_of Tryz.func48 (by kernel_rfl) rfl) fun W' hb => blendDecode_q (X := []) hQ hl (by decide) v (by rw [List.append_nil]; exact h.grow hb)
  · refine lettersDec_any (enters_of Tryz.func50 (by kernel_rfl) rfl) fun W' hb => ?_
    by_cases h0 : l = []
    · subst h0
      rcases (show HuffQ [] Q from hQ) with ⟨-, rfl⟩ | ⟨h1, -⟩
      · exact huffDec_nil (h.grow hb)
      · exact absurd rfl h1
    · exact (huffBack_q hQ h0 (by omega) v W').1 (h.grow hb)
/-- **P27.4**: what is coded by any mode is decoded by it. -/
theorem modesDecode_q (hk : k ≤ 5) (hV : IsW V) (hQ : ModeQ k V l Q) (hl : l.length ≤ 1000) {v : Value} {w : World} (h : IsBytes Q v w) : Calls Tryz.prog 16 #[.int .i64 (k : Int), v, .int .i64 (V : Int), .int .i64 (l.length : Int)] w (SaysM w l 0) := by
  have h2 := h
  obtain ⟨A, c, rfl, hc, hr⟩ := h2
  exact mdsDecode_any hk hV (by omega) (leastM_le hV hQ) fun _ hb => wayDec_any hk hV hQ hl (h.grow hb)
end
end Go.Proofs.YtflcmmeoppdhdaaGreat
namespace Go.Proofs.YtflcmmeoppdhdaaGreat
open Go.RowKit Go.Sort Go.Shelf

/-- The name of mode k. -/
def nmA : Nat → ByteArray
  | 0 => ⟨#[115, 116, 111, 114, 101, 100]⟩
  | 1 => ⟨#[114, 105, 99, 101]⟩
  | 2 => ⟨#[114, 97, 110, 115]⟩
  | 3 => ⟨#[97, 100, 97, 112, 116]⟩
  | 4 => ⟨#[98, 108, 101, 110, 100]⟩
  | 5 => ⟨#[104, 117, 102, 102]⟩
  | _ => ⟨#[97, 117, 116, 111]⟩
theorem size_names : (Tryz.prog.info? 28).map (·.size) = some 7 := by kernel_rfl
def namesV : Value := .agg #[.string (nmA 0), .string (nmA 1), .string (nmA 2), .string (nmA 3), .string (nmA 4), .string (nmA 5), .string (nmA 6)]
def namesL : List Value := [.string (nmA 0), .string (nmA 1), .string (nmA 2), .string (nmA 3), .string (nmA 4), .string (nmA 5), .string (nmA 6)]
theorem names_at {k : Nat} (hk : k < 7) : namesL[k]? = some (.string (nmA k)) := by
  rcases (show k = 0 ∨ k = 1 ∨ k = 2 ∨ k = 3 ∨ k = 4 ∨ k = 5 ∨ k = 6 by omega) with rfl | rfl | rfl | rfl | rfl | rfl | rfl <;> rfl
theorem names_idx {k : Nat} (hk : k < 7) (w : World) : (Instr.index 28 namesV (.int .i64 (k : Int))).run Tryz.prog w = .ok (.string (nmA k)) w := by
  rcases (show k = 0 ∨ k = 1 ∨ k = 2 ∨ k = 3 ∨ k = 4 ∨ k = 5 ∨ k = 6 by omega) with rfl | rfl | rfl | rfl | rfl | rfl | rfl
  all_goals kernel_rfl
set_option maxRecDepth 100000 in
set_option maxHeartbeats 1000000 in
theorem modeNames_any (w : World) : Calls Tryz.prog 24 #[] w fun e w' => e = .returned namesV ∧ Below w.heap.size w w' := by
  go_enter Tryz.func24, Tryz.ntmps24
  go_wp2
  exact bodyPost_ret (v := namesV) (results_cell_row Tryz.results24 _ _ w.heap.size 28 _ (0, 0) _ rfl (heap_alloc_new w _) Tryz.underlying28 rfl size_names) rfl ⟨rfl, (Below.refl _ _).alloc (Nat.le_refl _) _⟩
/-- The names as a row in new memory. -/
theorem names_row (w : World) : Blk (w.alloc (.cells #[.string (nmA 0), .string (nmA 1), .string (nmA 2), .string (nmA 3), .string (nmA 4), .string (nmA 5), .string (nmA 6)] 28)) w.heap.size 28 namesL ∧ Below w.heap.size w (w.alloc (.cells #[.string (nmA 0), .string (nmA 1), .string (nmA 2), .string (nmA 3), .string (nmA 4), .string (nmA 5), .string (nmA 6)] 28)) :=
  ⟨heap_alloc_new w _, (Below.refl _ _).alloc (Nat.le_refl _) _⟩
def nameOf (m : Int) : ByteArray := if 0 ≤ m ∧ m < 7 then nmA m.toNat else ⟨#[]⟩
set_option maxRecDepth 100000 in
set_option maxHeartbeats 1000000 in
theorem mdsName_any (m : Int) (w : World) : Calls Tryz.prog 12 #[.int .i64 m] w fun e w' => e = .returned (.string (nameOf m)) ∧ Below w.heap.size w w' := by
  have CN := Lib.hid modeNames_any
  unfold namesV at CN
  by_cases h : 0 ≤ m ∧ m < 7
  · have ho : nameOf m = nmA m.toNat := if_pos h
    obtain ⟨k, rfl⟩ := Int.eq_ofNat_of_zero_le h.1
    have ha := names_at (show k < 7 by omega)
    have h0 : ¬ (k : Int) < 0 := by omega
    have h1 : (k : Int) < 7 := h.2
    have h2 : decide ((k : Int) < 0) = false := by simp
    have h3 : decide (7 ≤ (k : Int)) = false := by simp; omega
    rw [Int.toNat_natCast] at ho
    rw [ho]
    obtain ⟨V, hV⟩ : ∃ V, V = nmA k := ⟨_, rfl⟩
    rw [← hV] at ha ⊢
    have HA := Lib.hid ha
    clear hV ha ho h
    go_enter Tryz.func12, Tryz.ntmps12
    go_wp2_with fail
    refine (CN.out _).mono ?_
    rintro e w1 ⟨rfl, hb⟩
    obtain ⟨hr2, hb2⟩ := names_row w1
    have hc := hr2.cell k
    rw [HA.out] at hc
    have HB2 := Lib.hid (hb.trans (hb2.mono hb.size))
    clear hr2 hb2 hb
    go_wp2
    go_ret
    exact ⟨rfl, HB2.out⟩
  · have ho : nameOf m = ⟨#[]⟩ := if_neg h
    rw [ho]
    have h2 : (decide (m < 0) || decide (7 ≤ m)) = true := by
      by_cases h : m < 0
      · simp [h]
      · simp [show (7 : Int) ≤ m by omega]
    clear h ho
    go_enter Tryz.func12, Tryz.ntmps12
    go_wp2_with fail
    refine (CN.out _).mono ?_
    rintro e w1 ⟨rfl, hb⟩
    obtain ⟨hr2, hb2⟩ := names_row w1
    have HB2 := Lib.hid (hb.trans (hb2.mono hb.size))
    clear hr2 hb2 hb
    go_wp2
    all_goals
      go_ret
      exact ⟨rfl, HB2.out⟩
/-- Of seven modes p has this name (7: none). -/
def NameAt (s : ByteArray) (p : Nat) : Prop := p ≤ 7 ∧ ∀ k, k < 7 → ((nmA k).toList == s.toList) = decide (k = p)
theorem nmA_apart : ∀ k, k < 7 → ∀ j, j < 7 → ((nmA k).data.toList == (nmA j).data.toList) = decide (k = j) := by decide
theorem nameAt_self {p : Nat} (hp : p < 7) : NameAt (nmA p) p := ⟨by omega, fun k hk => by rw [ByteArray.toList_eq, ByteArray.toList_eq]; exact nmA_apart k hk p hp⟩
set_option maxRecDepth 100000 in
set_option maxHeartbeats 2000000 in
theorem mdsFind_any {s : ByteArray} {p : Nat} (hp : NameAt s p) (w : World) : Calls Tryz.prog 11 #[.string s] w fun e w' => e = .returned (.tuple #[.int .i64 ((if p < 7 then p else 0 : Nat) : Int), .bool (decide (p < 7))]) ∧ Below w.heap.size w w' := by
  have CN := Lib.hid modeNames_any
  have HP := Lib.hid hp
  obtain ⟨N, hN⟩ : ∃ N, N = namesV := ⟨_, rfl⟩
  obtain ⟨a, ha⟩ : ∃ a : Nat, a = if p < 7 then p else 0 := ⟨_, rfl⟩
  obtain ⟨d, hd⟩ : ∃ d : Bool, d = decide (p < 7) := ⟨_, rfl⟩
  have HX := Lib.hid (fun (k : Nat) (hk : k < 7) (w : World) => names_idx hk w)
  rw [← hN] at CN HX
  rw [← ha, ← hd]
  have HA := Lib.hid (And.intro ha hd)
  clear hN hp ha hd
  go_enter Tryz.func11, Tryz.ntmps11
  go_wp2_with fail
  refine (CN.out _).mono ?_
  rintro e w1 ⟨rfl, hb⟩
  have HB := Lib.hid hb
  clear hb
  go_wp2
  go_loopw [7] (fun i wr => ∃ k : Nat, k ≤ 7 ∧ i = .int .i64 (k : Int) ∧ k ≤ p ∧ wr = w1) (fun i _ => 7 - (intOf i).toNat)
  case atStart => exact ⟨0, by decide, rfl, Nat.zero_le _, rfl⟩
  case round =>
    obtain ⟨k, hk, rfl, hkp, rfl⟩ := hrel
    have HK := Lib.hid hkp
    clear hkp
    by_cases hlt : k < 7
    · have hx := HX.out k hlt wr
      have he := HP.out.2 k hlt
      obtain ⟨x, hx2⟩ : ∃ x, x = nmA k := ⟨_, rfl⟩
      rw [← hx2] at hx he
      have hki : (k : Int) < 7 := by omega
      clear hx2
      by_cases hpk : k = p
      · have heq : (x.toList == s.toList) = true := by rw [he]; simp [hpk]
        have hp7 : p < 7 := by omega
        have HPK := Lib.hid hpk
        have HP7 := Lib.hid hp7
        clear he hp7 hpk
        go_wp2
        go_ret2
        refine ⟨?_, HB.out⟩
        rw [HA.out.1, HA.out.2, if_pos HP7.out, HPK.out]
        simp [HP7.out]
      · have heq : (x.toList == s.toList) = false := by rw [he]; simp [hpk]
        have HN := Lib.hid hpk
        clear he hpk
        go_wp2
        go_roundw
        case rel => exact ⟨k + 1, by omega, by go_num, by have := HK.out; have := HN.out; omega, trivial⟩
        case measure => simp [intOf]; omega
    · obtain rfl : k = 7 := by omega
      have hp7 : p = 7 := by have := HP.out.1; have := HK.out; omega
      have HP7 := Lib.hid hp7
      clear hp7
      go_wp2
      go_ret2
      refine ⟨?_, HB.out⟩
      rw [HA.out.1, HA.out.2, HP7.out]
      rfl
end Go.Proofs.YtflcmmeoppdhdaaGreat
namespace Go.Proofs.YtflcmmeoppdhdaaGreat
open Go.RowKit Go.Sort Go.Shelf

theorem rd_newM (w : World) (cs : Array Value) (t : TypeId) (fr : Nat × Nat) : Rd (w.alloc (.cells cs t fr)) (w.alloc (.cells cs t fr)).heap.size (some ⟨w.heap.size, 0, none⟩) cs.toList := fun k u hu => by
  refine ⟨w.heap.size, 0, rfl, by simp, ?_⟩
  rw [Nat.zero_add, World.cell?_alloc_mark]
  rw [← hu]; simp
set_option maxRecDepth 100000 in
set_option maxHeartbeats 2000000 in
theorem mdsKnown_any (w : World) : Calls Tryz.prog 7 #[] w (Yes w) := by
  have C1 : Hid (∀ (v : Value) (W' : World), IsBytes [97] v W' → Calls Tryz.prog 8 #[.int .i64 0, v, .int .i64 1] W' (SaysM W' [97] 0)) := fun v W' h =>
    mdsCode_any (k := 0) (by decide) (V := 1) (.inl rfl) (v := v) (fun W2 hb => theyCode_any (l := [97]) 1 (h.grow hb) (by decide))
  have C2 := Lib.hid (mdsFind_any (nameAt_self (p := 4) (by decide)))
  have C3 := Lib.hid (mdsName_any 2)
  rw [show nameOf 2 = (⟨#[114, 97, 110, 115]⟩ : ByteArray) from rfl] at C3
  rw [show nmA 4 = (⟨#[98, 108, 101, 110, 100]⟩ : ByteArray) from rfl] at C2
  have hcv := fun (w : World) (C : Array Value) (n c : Nat) => Lib.run_convert_bytes_const (P := Tryz.prog) w 22 5 C n c Tryz.underlying22 Tryz.underlying5
  go_enter Tryz.func7, Tryz.ntmps7
  go_wp2_with fail
  have hk : IsBytes [97] (.slice (some ⟨w.heap.size, 0, none⟩) 1 1) (w.alloc (.cells #[.int .u8 97] 5 (1, 2))) := ⟨_, 1, rfl, by decide, rd_newM w #[.int .u8 97] _ _⟩
  refine (C1.out _ _ hk).mono ?_
  rintro e w1 ⟨v, rfl, hv, hb⟩
  have HV := Lib.hid hv
  have HB := Lib.hid (((Below.refl _ _).alloc (Nat.le_refl _) _).trans (hb.mono (by simp)))
  clear hv hb C1 hk hcv
  go_wp2_with fail
  refine (C2.out _).mono ?_
  rintro e w2 ⟨rfl, hb⟩
  have HV2 := Lib.hid (HV.out.grow hb)
  have HB2 := Lib.hid (HB.out.trans (hb.mono HB.out.size))
  clear hb
  go_wp2_with ((with_reducible show wpList _ _ _ (({ dst := some 19, op := _, type := _, pos := _, after := _, guard := _ } : Oper) :: _) _ _); go_must (refine wpList_strW rfl 22 9 5 (.tmp 18) rfl Tryz.underlying22 Tryz.underlying5 Tryz.underlying9 _ HV2.out ?_))
  refine (C3.out _).mono ?_
  rintro e w3 ⟨rfl, hb⟩
  have HB3 := Lib.hid (HB2.out.trans (hb.mono HB2.out.size))
  clear hb
  go_wp2
  go_ret
  exact ⟨rfl, HB3.out⟩
end Go.Proofs.YtflcmmeoppdhdaaGreat
namespace Go.Proofs.YtflcmmeoppdhdaaGreat
open Go.RowKit Go.Sort Go.Shelf

set_option maxRecDepth 100000 in
set_option maxHeartbeats 2000000 in
theorem modesBack_core {k V : Nat} (hk : k ≤ 5) (hV : IsW V) (n u : Nat) (hn : k = n % 6) (hw : wrap64 (2 ^ (u % 4)) = (V : Int)) (A : Option Addr) (c : Nat) (l : List UInt8) (w : World) (hr : Rd w w.heap.size A (bvs l)) (hLc : l.length ≤ c) (h500 : l.length ≤ 500) :
    Calls Tryz.prog 6 #[.int .u8 (n : Int), .slice A l.length c, .int .u8 (u : Int)] w (Yes w) := by
  have CK := Lib.hid mdsKnown_any
  have h2 : ¬ (500 : Int) < (l.length : Int) := by omega
  have hni : (n : Int) % 6 = (k : Int) := by omega
  have hv0 : IsBytes l (.slice A l.length c) w := ⟨A, c, rfl, hLc, hr⟩
  obtain ⟨Q, hQ⟩ := modeQ_some k (V := V) l (by omega) hr
  have C1 := Lib.hid (modesCode_q hk hV hQ (by omega) hv0)
  have C2 := Lib.hid (fun (v : Value) (W' : World) (h : IsBytes Q v W') => modesDecode_q hk hV hQ (by omega) h)
  have HV0 := Lib.hid hv0
  clear hv0 hr hQ h500 hk hV hn
  go_enter Tryz.func6, Tryz.ntmps6
  go_wp2_with fail
  refine C1.out.mono ?_
  rintro e w1 ⟨v1, rfl, hv1, hb1⟩
  have C3 := Lib.hid (C2.out _ _ hv1)
  have HV1 := Lib.hid (HV0.out.grow hb1)
  have HB1 := Lib.hid hb1
  clear hv1 hb1 C1 C2 HV0
  go_wp2_with fail
  refine C3.out.mono ?_
  rintro e w2 ⟨v2, rfl, hv2, hb2⟩
  have HV2 := Lib.hid hv2
  have HV3 := Lib.hid (HV1.out.grow hb2)
  have HB2 := Lib.hid (HB1.out.trans (hb2.mono HB1.out.size))
  clear hv2 hb2 C3 HV1 HB1
  go_wp2_with (first
    | ((with_reducible show wpList _ _ _ (({ dst := some 47, op := _, type := _, pos := _, after := _, guard := _ } : Oper) :: _) _ _); go_must (refine wpList_strW rfl 22 9 5 (.tmp 46) rfl Tryz.underlying22 Tryz.underlying5 Tryz.underlying9 _ HV2.out ?_))
    | ((with_reducible show wpList _ _ _ (({ dst := some 49, op := _, type := _, pos := _, after := _, guard := _ } : Oper) :: _) _ _); go_must (refine wpList_strW rfl 22 9 5 (.tmp 48) rfl Tryz.underlying22 Tryz.underlying5 Tryz.underlying9 _ HV3.out ?_))
    | (go_at_call 7; go_must (refine (CK.out _).mono ?_; rintro e w3 ⟨rfl, hb3⟩; have HB3 := Lib.hid (HB2.out.trans (hb3.mono HB2.out.size)); clear hb3)))
  go_ret
  exact ⟨rfl, HB3.out⟩
set_option maxRecDepth 100000 in
set_option maxHeartbeats 2000000 in
theorem modesBack_law (n u : Nat) (A : Option Addr) (L c : Nat) (l : List UInt8) (w : World) (hr : Rd w w.heap.size A (bvs l)) (hL : l.length = L) (hLc : L ≤ c) (hL63 : L ≤ 9223372036854775807) :
    Calls Tryz.prog 6 #[.int .u8 (n : Int), .slice A L c, .int .u8 (u : Int)] w (Yes w) := by
  subst hL
  have CK := Lib.hid mdsKnown_any
  by_cases h500 : 500 < l.length
  · have h2 : (500 : Int) < (l.length : Int) := by omega
    clear hr
    go_enter Tryz.func6, Tryz.ntmps6
    go_wp2_with fail
    refine (CK.out _).mono ?_
    rintro e w' ⟨rfl, hb⟩
    go_wp2
    go_ret
    exact ⟨rfl, hb⟩
  · obtain ⟨V, hV, hw⟩ := width_of u
    exact modesBack_core (k := n % 6) (by omega) hV n u rfl hw A c l w hr hLc (by omega)
end Go.Proofs.YtflcmmeoppdhdaaGreat
