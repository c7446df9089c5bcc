/-
  Layer 26: a byte, laid bit by bit. · Layer 26: coding by how often each letter was seen; a byte, laid as a letter. · Layer 26: what is coded by a way; Code, Adapt. · Layer 26: Code and Adapt. · Layer 27: the ways of coding, as values of an interface.
-/
import Derived.Test.YtflcmmeoppdhdaaGreatR03
import Derived.Test.YtflcmmeoppdhdaaGreatR04
import Derived.Test.YtflcmmeoppdhdaaGreatR05
import Derived.Test.YtflcmmeoppdhdaaGreatR34
import Derived.Laws.Rows
import Derived.OwnWalk
namespace Go.Proofs.YtflcmmeoppdhdaaGreat
open Go.RowKit Go.Sort

theorem and1_i64 (n : Nat) (h : n ≤ 9223372036854775807) : bits .and .i64 (n : Int) 1 = ((n % 2 : Nat) : Int) := by
  have e1 : (BitVec.ofInt 64 (n : Int)).toNat = n := by simp; omega
  have e2 : (BitVec.ofInt 64 1).toNat = 1 := by decide
  have e : bits .and .i64 (n : Int) 1 = IntKind.i64.wrap ((((BitVec.ofInt 64 (n : Int)).toNat &&& (BitVec.ofInt 64 1).toNat : Nat)) : Int) := by
    rw [← BitVec.toNat_and]
    rfl
  rw [e, e1, e2, Nat.and_one_is_mod, IntKind.wrap_i64]
  omega
theorem bit_high {c k : Nat} (hc : c < 256) : bits .and .i64 ((c : Int) / 2 ^ (7 - k)) 1 = ((bitD c k : Nat) : Int) := by
  have e : (c : Int) / 2 ^ (7 - k) = ((c / 2 ^ (7 - k) : Nat) : Int) := by simp
  have h := Nat.div_le_self c (2 ^ (7 - k))
  rw [e]
  unfold bitD
  exact and1_i64 _ (by omega)
/-- What stands behind k bits of a byte. -/
structure LayRelBl (w wr : World) (B Bm E : Nat) (a : ModA) (s : ModD) (ps : List RcPart) (c k : Nat) (L R : Nat) (o : List Nat) : Prop where
  at_ : BitsAt Bm a (runK s c k) wr
  e : EncAt wr E L R o
  enc : Enc (ps ++ bitsP s c k) L R o
  below : Below B w wr
  size : w.heap.size ≤ wr.heap.size
set_option maxHeartbeats 4000000 in
set_option maxRecDepth 100000 in
theorem layBits1_any {w : World} {B Bm E L R c : Nat} {a : ModA} {s : ModD} {ps : List RcPart} {o : List Nat} (hlo : ∀ k ∈ a.every, B ≤ k) (hc : c < 256) (hat : BitsAt Bm a s w) (he : EncAt w E L R o) (hBE : B ≤ E) (hen : Enc ps L R o) (hps : ∀ p ∈ ps, p.ok) (hpl : ps.length ≤ 10000) :
    Calls Tryz.prog 146 #[.pointer (some ⟨E, 0, none⟩), .int .u8 (c : Int), .pointer (some ⟨Bm, 0, none⟩)] w fun e w' => e = .returned (.tuple #[]) ∧ ∃ L' R' o', BitsAt Bm a (runK s c 8) w' ∧ EncAt w' E L' R' o' ∧ Enc (ps ++ bitsP s c 8) L' R' o' ∧ Below B w w' := by
  have HLO := Lib.hid hlo
  have HPS := Lib.hid hps
  have HPL := Lib.hid hpl
  have HBE := Lib.hid hBE
  have H0 := Lib.hid (⟨hat, he, by simpa [bitsP] using hen, Below.refl _ _, Nat.le_refl _⟩ : LayRelBl w w B Bm E a s ps c 0 L R o)
  clear hlo hat he hBE hen hps hpl
  go_enter Tryz.func146, Tryz.ntmps146
  go_wp2
  go_loopw [7] (fun i wr => ∃ (k L R : Nat) (o : List Nat), k ≤ 8 ∧ i = .int .i64 (k : Int) ∧ LayRelBl w wr B Bm E a s ps c k L R o) (fun i _ => 8 - (intOf i).toNat)
  case atStart => exact ⟨0, L, R, o, Nat.zero_le _, rfl, H0.out⟩
  case round =>
    clear H0
    obtain ⟨k, L, R, o, hk, rfl, hrel⟩ := hrel
    have HR := Lib.hid hrel
    have hbox := hrel.at_.box.cell
    clear hrel
    by_cases hlt : k < 8
    · have hki : (k : Int) < 8 := by omega
      have hb2 := bitD_lt c k
      obtain ⟨b, hb⟩ : ∃ b, b = bitD c k := ⟨_, rfl⟩
      rw [← hb] at hb2
      have HBIT := Lib.hid (bit_high (k := k) hc)
      rw [← hb] at HBIT
      have CP := Lib.hid (modP_any HR.out.at_.m)
      have CQ := Lib.hid (fun W => part_any (runK s c k) b W)
      have hok := bitP_ok (runK s c k) b
      have hpk : ∀ p ∈ ps ++ bitsP s c k, p.ok := fun p hp => by
        rcases List.mem_append.1 hp with hp | hp
        · exact HPS.out p hp
        · exact bitsP_ok s c k p hp
      have hins := HR.out.enc.inside hpk
      have hol : o.length ≤ 90000 := by
        have h1 := hins.2.2.2
        rw [List.length_append, bitsP_len] at h1
        have := HPL.out
        omega
      obtain ⟨o2, L', R', hm, hen2⟩ := HR.out.enc.more hpk hok
      have hbs := bitsP_snoc s c k
      rw [← hb] at hbs
      rw [List.append_assoc, ← hbs] at hen2
      have hseen : runK s c (k + 1) = (runK s c k).seen (b : Int) := by rw [hb]; rfl
      have CE := Lib.hid (fun (W : World) (h : EncAt W E L R o) => encPut_ok h hol hins.1 hins.2.1 hok.1 hok.2.1 hok.2.2 hm)
      have HEN := Lib.hid hen2
      have HSEEN := Lib.hid hseen
      clear hok hpk hins hol hm hen2 hbs hseen hb
      obtain ⟨⟨lo, sz, tot⟩, hp⟩ : ∃ p, p = bitP (runK s c k) b := ⟨_, rfl⟩
      rw [← hp] at CQ CE
      dsimp only at CQ CE
      obtain ⟨p, hpp⟩ : ∃ p, p = (runK s c k).chance := ⟨_, rfl⟩
      rw [← hpp] at CP CQ
      clear hp hpp
      go_wp2_with fail
      rw [HBIT.out]
      refine CP.out.mono ?_
      rintro e w1 ⟨rfl, hb1⟩
      have HE1 := Lib.hid (HR.out.e.below hb1)
      have HA1 := Lib.hid (HR.out.at_.grow hb1)
      have HB1 := Lib.hid hb1
      clear hbox hb1 CP
      go_wp2_with fail
      refine (CQ.out _).mono ?_
      rintro e w' ⟨rfl, hw⟩
      obtain rfl : _ = w' := hw.symm
      go_wp2_with fail
      refine (CE.out _ HE1.out).mono ?_
      rintro e w2 ⟨rfl, he2, hu2⟩
      have ha2 := HA1.out.onlyT hu2 (by decide) (by decide) (by decide) (by decide) (by decide)
      have hbox := ha2.box.cell
      have CS := Lib.hid (modSeen_any (b : Int) ha2.m)
      have HU2 := Lib.hid ((OnlyT.of_below HB1.out).trans hu2)
      have HE2 := Lib.hid he2
      have HA2 := Lib.hid ha2
      clear he2 hu2 ha2 CQ CE HE1 HA1 HB1
      go_wp2_with fail
      refine CS.out.mono ?_
      rintro e w3 ⟨⟨u, rfl⟩, hm3, hu3⟩
      have ht3 := HA2.out.m.turned hu3 HLO.out
      have hb23 : Below B wr w3 := ((HU2.out.base HBE.out).below (Nat.le_trans HBE.out (Nat.le_of_lt HR.out.e.lt))).trans (ht3.below (Nat.le_trans HBE.out (Nat.le_of_lt HE2.out.lt)))
      have HN := Lib.hid (⟨by rw [HSEEN.out]; exact HA2.out.next hm3 ht3, HE2.out.only ht3 (by decide) (by decide), HEN.out, HR.out.below.trans hb23, Nat.le_trans HR.out.size hb23.size⟩ : LayRelBl w w3 B Bm E a s ps c (k + 1) L' R' (o ++ o2))
      clear hm3 hu3 ht3 hb23 hbox CS HU2 HE2 HA2
      go_wp2
      go_roundw
      case rel => exact ⟨k + 1, L', R', o ++ o2, by omega, by go_num, HN.out⟩
      case measure => simp [intOf]; omega
    · obtain rfl : k = 8 := by omega
      go_wp2
      refine bodyPost_end (results_none rfl _ _ _) rfl ?_
      exact ⟨rfl, L, R, o, HR.out.at_, HR.out.e, HR.out.enc, HR.out.below⟩
end Go.Proofs.YtflcmmeoppdhdaaGreat
namespace Go.Proofs.YtflcmmeoppdhdaaGreat
open Go.RowKit Go.Sort

theorem fHalf_sum2 : ∀ (c : List Int), 2 * (fHalf c).sum ≤ c.sum + c.length
  | [] => by simp [fHalf]
  | x :: c => by
    have h := fHalf_sum2 c
    have e : fHalf (x :: c) = (x + 1) / 2 :: fHalf c := rfl
    rw [e, List.sum_cons, List.sum_cons, List.length_cons]
    omega
/-- Counts behind a letter more, ahead of their being held, and held. -/
def shrF (c : List Int) : List Int := if c.sum ≤ 16384 then c else fHalf c
def letNext (c : List Int) (k : Nat) : List Int := shrF (c.set k (c.getD k 0 + 24))
def InvF (c : List Int) : Prop := Ones 256 c ∧ c.sum ≤ 16384
theorem shrunk_shrF {c : List Int} (h : Ones 256 c) (hs : c.sum ≤ 16408) : Shrunk 16384 c (shrF c) := by
  unfold shrF
  by_cases hc : c.sum ≤ 16384
  · rw [if_pos hc]; exact .stop c hc
  · rw [if_neg hc]
    have h2 := fHalf_sum2 c
    have h3 := h.1
    exact .more c _ (by omega) (.stop _ (by omega))
theorem getD_at {c : List Int} {k : Nat} (hk : k < c.length) : c.getD k 0 = c[k] := by
  rw [List.getD_eq_getElem?_getD, List.getElem?_eq_getElem hk, Option.getD_some]
theorem letNext_shrunk {c : List Int} {k : Nat} (h : InvF c) (hk : k < 256) : Shrunk 16384 (c.set k (c.getD k 0 + 24)) (letNext c k) ∧ InvF (letNext c k) := by
  have hk' : k < c.length := by rw [h.1.1]; exact hk
  have ho : Ones 256 (c.set k (c.getD k 0 + 24)) := by rw [getD_at hk']; exact h.1.set hk' (by decide)
  have hs : (c.set k (c.getD k 0 + 24)).sum ≤ 16408 := by
    rw [getD_at hk', set_sum c k hk' 24]
    have := h.2
    omega
  have hsh := shrunk_shrF ho hs
  exact ⟨hsh, hsh.ones ho⟩
/-- A letter's part. -/
def letP (c : List Int) (k : Nat) : RcPart := ⟨(fPre c k).toNat, (c.getD k 0).toNat, c.sum.toNat⟩
theorem letP_vals {c : List Int} {k : Nat} (h : InvF c) (hk : k < 256) : ((letP c k).low : Int) = fPre c k ∧ ((letP c k).size : Int) = c.getD k 0 ∧ ((letP c k).total : Int) = c.sum ∧ 0 ≤ fPre c k ∧ 1 ≤ c.getD k 0 ∧ fPre c k + c.getD k 0 ≤ c.sum ∧ fPre c (k + 1) = fPre c k + c.getD k 0 := by
  have hk' : k < c.length := by rw [h.1.1]; exact hk
  have nn : ∀ x ∈ c, 0 ≤ x := fun x hx => Int.le_trans (by decide) (h.1.2 x hx)
  have h1 := h.1.2 _ (List.getElem_mem hk')
  have h2 := fPre_succ c k hk'
  have h3 := fPre_le nn (k + 1)
  have h4 := fPre_nn nn k
  rw [← getD_at hk'] at h1 h2
  unfold letP
  dsimp only
  exact ⟨by omega, by omega, by omega, by omega, by omega, by omega, by omega⟩
theorem letP_ok {c : List Int} {k : Nat} (h : InvF c) (hk : k < 256) : (letP c k).ok := by
  obtain ⟨h1, h2, h3, h4, h5, h6, -⟩ := letP_vals h hk
  have := h.2
  unfold RcPart.ok
  omega
/-- By how often each letter was seen. -/
def letWay : Way (List Int) where
  parts c k := [letP c k]
  next := letNext
  inv := InvF
  keeps h hk := (letNext_shrunk h hk).2
  oks h hk p hp := by rw [List.mem_singleton.1 hp]; exact letP_ok h hk
  few _ _ := by simp
/-- No letter was seen. -/
def noneF : List Int := List.replicate 256 1
theorem ones_sum (n : Nat) : (List.replicate n (1 : Int)).sum = n := by simp
theorem noneF_inv : InvF noneF := ⟨ones_rep 256, by have h := ones_sum 256; unfold noneF; rw [h]; decide⟩

/-- A box at Bm with counts. -/
structure LetAt (Bm F T S : Nat) (c : List Int) (w : World) : Prop where
  box : Boxed w Bm 144 (.pointer (some ⟨F, 0, none⟩))
  f : IsFreq w F T S c 24 16384
section
variable {w w' : World} {B Bm F T S : Nat} {ts : List TypeId} {c c' : List Int}
theorem LetAt.onlyT (h : LetAt Bm F T S c w) (ho : OnlyT B ts w w') (h0 : 144 ∉ ts) (h1 : 241 ∉ ts) (h2 : 265 ∉ ts) (h3 : 3 ∉ ts) : LetAt Bm F T S c w' :=
  ⟨Blk.only (cs := [_]) h.box ho h0, h.f.onlyT ho h1 h2 h3⟩
theorem LetAt.grow (h : LetAt Bm F T S c w) (hb : Below w.heap.size w w') : LetAt Bm F T S c w' := h.onlyT (B := 0) (ts := []) (OnlyT.of_below hb) List.not_mem_nil List.not_mem_nil List.not_mem_nil List.not_mem_nil
theorem LetAt.next (h : LetAt Bm F T S c w) (hm : IsFreq w' F T S c' 24 16384) (ho : OnlyT B frqT w w') : LetAt Bm F T S c' w' := ⟨Blk.only (cs := [_]) h.box ho (by decide), hm⟩
/-- Seen, of counts that may be. -/
theorem letSeen_any {k : Nat} (h : IsFreq w F T S c 24 16384) (hi : InvF c) (hk : k < 256) :
    Calls Tryz.prog 137 #[.pointer (some ⟨F, 0, none⟩), .int .i64 (k : Int)] w fun e w' => e = .returned (.int .i64 0) ∧ IsFreq w' F T S (letNext c k) 24 16384 ∧ TurnsB T S w w' := by
  have hl := hi.1.1
  have hk' : k < c.length := by rw [hl]; exact hk
  refine (freqSeen_any k h (by rw [hl]; exact hi.1) hk' (by decide) (by have := hi.2; omega) (by rw [hl]; decide)).mono ?_
  rintro e w' ⟨h1, ⟨r, h2, h3⟩, h4⟩
  have h5 := (letNext_shrunk hi hk).1
  rw [getD_at hk'] at h5
  exact ⟨h1, h5.one h2 ▸ h3, h4⟩
end
set_option maxHeartbeats 4000000 in
set_option maxRecDepth 100000 in
theorem layLetter1_any {w : World} {B Bm F T S E L R k : Nat} {c : List Int} {ps : List RcPart} {o : List Nat} (hlo : B ≤ T ∧ B ≤ S) (hi : InvF c) (hk : k < 256) (hat : LetAt Bm F T S c w) (he : EncAt w E L R o) (hBE : B ≤ E) (hen : Enc ps L R o) (hps : ∀ p ∈ ps, p.ok) (hpl : ps.length ≤ 10000) :
    Calls Tryz.prog 133 #[.pointer (some ⟨E, 0, none⟩), .int .u8 (k : Int), .pointer (some ⟨Bm, 0, none⟩)] w fun e w' => e = .returned (.tuple #[]) ∧ ∃ L' R' o', LetAt Bm F T S (letNext c k) w' ∧ EncAt w' E L' R' o' ∧ Enc (ps ++ [letP c k]) L' R' o' ∧ Below B w w' := by
  have hk' : k < c.length := by rw [hi.1.1]; exact hk
  have CO := Lib.hid (freqOf_at k hat.f hk')
  have hok := letP_ok hi hk
  obtain ⟨v1, v2, v3, -⟩ := letP_vals hi hk
  have hins := hen.inside hps
  have hol : o.length ≤ 90000 := by have := hins.2.2.2; omega
  obtain ⟨o2, L', R', hm, hen2⟩ := hen.more hps hok
  have CE := Lib.hid (fun (W : World) (h : EncAt W E L R o) => encPut_ok h hol hins.1 hins.2.1 hok.1 hok.2.1 hok.2.2 hm)
  rw [← getD_at hk', ← v1, ← v2] at CO
  have HEN := Lib.hid hen2
  have HI := Lib.hid hi
  have HA := Lib.hid hat
  have HE := Lib.hid he
  have HV := Lib.hid v3
  have HLO := Lib.hid hlo
  have HBE := Lib.hid hBE
  have hbox := hat.box.cell
  have kw : IntKind.i64.wrap (k : Int) = (k : Int) := by rw [IntKind.wrap_i64]; omega
  clear v1 v2 v3 hok hins hol hm hen2 hps hpl hi hat he hen hk' hlo hBE
  obtain ⟨⟨lo, sz, tot⟩, hp⟩ : ∃ p, p = letP c k := ⟨_, rfl⟩
  rw [← hp] at CO CE HV
  dsimp only at CO CE HV
  clear hp
  go_enter Tryz.func133, Tryz.ntmps133
  go_wp2_with fail
  refine CO.out.mono ?_
  rintro e w1 ⟨rfl, hb1⟩
  have ha1 := HA.out.grow hb1
  have HA1 := Lib.hid ha1
  have HE1 := Lib.hid (HE.out.below hb1)
  have HB1 := Lib.hid hb1
  have CT := freqTotal_any ha1.f
  rw [← HV.out] at CT
  have CT1 := Lib.hid CT
  have hbox := ha1.box.cell
  clear hb1 ha1 CO CT
  go_wp2_with fail
  refine CT1.out.mono ?_
  rintro e w' ⟨rfl, hw⟩
  obtain rfl : _ = w' := hw.symm
  go_wp2_with fail
  refine (CE.out _ HE1.out).mono ?_
  rintro e w2 ⟨rfl, he2, hu2⟩
  have ha2 := HA1.out.onlyT hu2 (by decide) (by decide) (by decide) (by decide)
  have hbox := ha2.box.cell
  have CS := Lib.hid (letSeen_any ha2.f HI.out hk)
  have HU2 := Lib.hid ((OnlyT.of_below HB1.out).trans hu2)
  have HE2 := Lib.hid he2
  have HA2 := Lib.hid ha2
  clear he2 hu2 ha2 CE CT1 HE1 HA1 HB1
  go_wp2_with fail
  refine CS.out.mono ?_
  rintro e w3 ⟨rfl, hm3, hu3⟩
  have ht3 := HA2.out.f.turned hu3 HLO.out
  have hb23 : Below B w w3 := ((HU2.out.base HBE.out).below (Nat.le_trans HBE.out (Nat.le_of_lt HE.out.lt))).trans (ht3.below (Nat.le_trans HBE.out (Nat.le_of_lt HE2.out.lt)))
  have HN := Lib.hid (And.intro (HA2.out.next hm3 ht3) (And.intro (HE2.out.only ht3 (by decide) (by decide)) hb23))
  clear hm3 hu3 ht3 hb23 hbox CS HU2 HE2 HA2
  go_wp2
  refine bodyPost_end (results_none rfl _ _ _) rfl ?_
  exact ⟨rfl, L', R', o ++ o2, HN.out.1, HN.out.2.1, HEN.out, HN.out.2.2⟩
end Go.Proofs.YtflcmmeoppdhdaaGreat
namespace Go.Proofs.YtflcmmeoppdhdaaGreat
open Go.RowKit Go.Sort

/-- A way to lay a byte: function K with what it has captured. -/
structure LayJ {σ : Type} (V : Way σ) (K : Nat) (caps : Array Value) (B : Nat) (At : σ → World → Prop) : Prop where
  grow : ∀ {s : σ} {w w' : World}, At s w → Below w.heap.size w w' → At s w'
  lay : ∀ {s : σ} {c E L R : Nat} {ps : List RcPart} {o : List Nat} {w : World}, V.inv s → c < 256 → At s w → EncAt w E L R o → B ≤ E → Enc ps L R o → (∀ p ∈ ps, p.ok) → ps.length ≤ 10000 →
    Calls Tryz.prog K (#[.pointer (some ⟨E, 0, none⟩), .int .u8 (c : Int)] ++ caps) w fun e w' => e = .returned (.tuple #[]) ∧ ∃ L' R' o', At (V.next s c) w' ∧ EncAt w' E L' R' o' ∧ Enc (ps ++ V.parts s c) L' R' o' ∧ Below B w w'
/-- What holds at the head of a round. -/
structure CodRel {σ : Type} (V : Way σ) (At : σ → World → Prop) (w wr : World) (B E : Nat) (s : σ) (l : List Nat) (L R : Nat) (o : List Nat) : Prop where
  at_ : At (V.seen s l) wr
  e : EncAt wr E L R o
  enc : Enc (V.all s l) L R o
  below : Below B w wr
theorem map_take_snoc {l : List UInt8} {k : Nat} (h : k < l.length) : (l.take (k + 1)).map UInt8.toNat = (l.take k).map UInt8.toNat ++ [l[k].toNat] := by
  have e : l.take (k + 1) = l.take k ++ [l[k]] := by rw [List.take_add_one, List.getElem?_eq_getElem h]; rfl
  rw [e, List.map_append]
  rfl
theorem u8_lt (l : List UInt8) : ∀ c ∈ l.map UInt8.toNat, c < 256 := fun c hc => by
  obtain ⟨x, -, rfl⟩ := List.mem_map.1 hc
  exact x.toNat_lt
set_option maxHeartbeats 4000000 in
set_option maxRecDepth 100000 in
theorem coded_any {σ : Type} {V : Way σ} {K : Nat} {caps : Array Value} {B : Nat} {At : σ → World → Prop} (HJ : LayJ V K caps B At) (hE : Enters Tryz.prog K) {w : World} {A : Option Addr} {n m : Nat} {l : List UInt8} {s : σ} (hr : Rd w B A (bvs l)) (hn : l.length = n) (h1 : 1 ≤ n) (hn1 : n ≤ 1000) (hB : B ≤ w.heap.size) (hi : V.inv s) (hat : At s w) :
    Calls Tryz.prog 88 #[.slice A n m, .func (.func K) #[] caps] w fun e w' => ∃ v Q, e = .returned v ∧ Laid 0 4294967295 (V.all s (l.map UInt8.toNat)) Q ∧ Q.length ≤ 90000 ∧ w'.ownsRow B 5 1 v Q.length (bvs (u8s Q)) ∧ Below B w w' := by
  have HH := Lib.hid HJ
  have HE := Lib.hid hE
  have HRD := Lib.hid hr
  have HN := Lib.hid hn
  have HN1 := Lib.hid hn1
  have HI := Lib.hid hi
  have HA := Lib.hid hat
  have HB := Lib.hid hB
  have h0 : ¬ ((n : Int) = 0) := by omega
  have h0' : 0 < (n : Int) := by omega
  clear HJ hE hr hn hn1 hi hat hB h1
  go_enter Tryz.func88, Tryz.ntmps88
  go_wp2_with fail
  refine (rcBegin_any w).mono ?_
  rintro _ w1 ⟨E, rfl, hE, he1, hb1⟩
  have HBE := Lib.hid (Nat.le_trans HB.out hE)
  have HREL := Lib.hid (⟨HH.out.grow HA.out hb1, he1, Enc.nil, hb1.mono HB.out⟩ : CodRel V At w w1 B E s [] 0 4294967295 [])
  clear hE he1 hb1 HA h0'
  go_wp2
  go_loopw [14] (fun i wr => ∃ (k L R : Nat) (o : List Nat), k ≤ n ∧ i = .int .i64 (k : Int) ∧ CodRel V At w wr B E s ((l.take k).map UInt8.toNat) L R o) (fun i _ => n - (intOf i).toNat)
  case atStart => exact ⟨0, 0, 4294967295, [], Nat.zero_le _, rfl, HREL.out⟩
  case round =>
    clear HREL
    obtain ⟨k, L, R, o, hk, rfl, hrel⟩ := hrel
    have HR := Lib.hid hrel
    clear hrel
    by_cases hlt : k < n
    · have hkl : k < l.length := by rw [HN.out]; exact hlt
      obtain ⟨ab, ao, rfl, hab, hcell0⟩ := HRD.out k _ (bvs_get l k hkl)
      have hcell := (HR.out.below.cell (p := ⟨ab, ao + k, none⟩) hab).trans hcell0
      have hsn := map_take_snoc hkl
      obtain ⟨c, hc⟩ : ∃ c, c = l[k].toNat := ⟨_, rfl⟩
      have hc256 : c < 256 := by rw [hc]; exact l[k].toNat_lt
      rw [← hc] at hcell hsn
      obtain ⟨pre, hpre⟩ : ∃ pre, pre = (l.take k).map UInt8.toNat := ⟨_, rfl⟩
      have hplt : ∀ x ∈ pre, x < 256 := by rw [hpre]; exact u8_lt _
      have hpl : pre.length ≤ 1000 := by rw [hpre, List.length_map, List.length_take]; have := HN1.out; omega
      rw [← hpre] at HR hsn
      have hok := Way.all_ok (V := V) pre HI.out hplt
      have hlen := (Way.all_len (V := V) s pre).2
      have CL := Lib.hid (HH.out.lay (Way.seen_inv pre HI.out hplt) hc256 HR.out.at_ HR.out.e HBE.out HR.out.enc hok (by omega))
      have HSN := Lib.hid hsn
      have hki : (k : Int) < (n : Int) := by omega
      have hk1 : k < 1000 := by have := HN1.out; omega
      clear hcell0 hab hkl hc hpre hplt hpl hok hlen hsn
      go_wp2_with fail
      rw [HE.out]
      refine CL.out.mono ?_
      rintro e w3 ⟨rfl, L', R', o', ha3, he3, hen3, hb3⟩
      have HN3 := Lib.hid (⟨by rw [HSN.out, Way.seen_snoc]; exact ha3, he3, by rw [HSN.out, Way.all_snoc]; exact hen3, HR.out.below.trans hb3⟩ : CodRel V At w w3 B E s ((l.take (k + 1)).map UInt8.toNat) L' R' o')
      clear ha3 he3 hen3 hb3 CL hcell
      go_wp2
      go_roundw
      case rel => exact ⟨k + 1, L', R', o', by omega, by go_num, HN3.out⟩
      case measure => simp [intOf]; omega
    · obtain rfl : k = n := by omega
      have htk : l.take k = l := List.take_of_length_le (by rw [HN.out]; exact Nat.le_refl _)
      rw [htk] at HR
      have hok := Way.all_ok (V := V) (l.map UInt8.toNat) HI.out (u8_lt l)
      have hlen := (Way.all_len (V := V) s (l.map UInt8.toNat)).2
      rw [List.length_map, HN.out] at hlen
      have hins := HR.out.enc.inside hok
      have hol : o.length ≤ 80000 := by have := hins.2.2.2; have := HN1.out; omega
      have CB := Lib.hid (encBytes_any HR.out.e hins.1.1 (by omega))
      have HEND := Lib.hid (And.intro HR.out.enc.bytes (show (o ++ be4 L).length ≤ 90000 by rw [List.length_append, show (be4 L).length = 4 from rfl]; omega))
      clear hok hlen hins hol htk
      go_wp2_with fail
      refine CB.out.mono ?_
      rintro e w4 ⟨v, rfl, hown, hb4⟩
      have hsz := Nat.le_trans HB.out HR.out.below.size
      have HF := Lib.hid (And.intro (own_more hown hsz) (HR.out.below.trans (hb4.mono hsz)))
      clear hown hb4 CB
      go_wp2
      go_ret
      exact ⟨v, o ++ be4 L, rfl, HEND.out.1, HEND.out.2, HF.out.1, HF.out.2⟩
end Go.Proofs.YtflcmmeoppdhdaaGreat
namespace Go.Proofs.YtflcmmeoppdhdaaGreat
open Go.RowKit Go.Sort

theorem Laid.one {L R : Nat} {ps : List RcPart} {T : List Nat} (h : Laid L R ps T) : ∀ {T' : List Nat}, Laid L R ps T' → T = T' := by
  induction h with
  | last L R => intro T' h'; cases h' with
    | last => rfl
  | part L R p ps o T L' R' hm hr ih => intro T' h'; cases h' with
    | part _ _ _ _ o2 T2 L2 R2 hm2 hr2 =>
      obtain ⟨rfl, rfl, rfl⟩ := hm.one hm2
      rw [ih hr2]
/-- What is coded by a way of no bytes, or of some. -/
def BldQ {σ : Type} (V : Way σ) (s : σ) (l Q : List UInt8) : Prop := (l = [] ∧ Q = []) ∨ (l ≠ [] ∧ ∃ T, Laid 0 4294967295 (V.all s (l.map UInt8.toNat)) T ∧ Q = u8s T ∧ T.length ≤ 90000)
theorem enc_all : ∀ (ps : List RcPart), (∀ p ∈ ps, p.ok) → ∃ L R o, Enc ps.reverse L R o
  | [], _ => ⟨_, _, _, Enc.nil⟩
  | p :: ps, h => by
    obtain ⟨L, R, o, he⟩ := enc_all ps fun q hq => h q (by simp [hq])
    obtain ⟨o2, L', R', -, he2⟩ := he.more (fun q hq => h q (by simp at hq; simp [hq])) (h p (by simp))
    exact ⟨L', R', o ++ o2, by rw [List.reverse_cons]; exact he2⟩
theorem bldQ_some {σ : Type} (V : Way σ) {s : σ} (hi : V.inv s) (l : List UInt8) (hl : l.length ≤ 1000) : ∃ Q, BldQ V s l Q := by
  by_cases h : l = []
  · exact ⟨[], .inl ⟨h, rfl⟩⟩
  · have hok := Way.all_ok (V := V) (l.map UInt8.toNat) hi (u8_lt l)
    have hlen := (Way.all_len (V := V) s (l.map UInt8.toNat)).2
    rw [List.length_map] at hlen
    obtain ⟨L, R, o, he⟩ := enc_all (V.all s (l.map UInt8.toNat)).reverse (fun p hp => hok p (by simpa using hp))
    rw [List.reverse_reverse] at he
    have hins := (he.inside hok).2.2.2
    exact ⟨u8s (o ++ be4 L), .inr ⟨h, _, he.bytes, rfl, by rw [List.length_append, show (be4 L).length = 4 from rfl]; omega⟩⟩
/-- What hands back bytes in a new row, or none. -/
def NewBl (w : World) (Q : List UInt8) (e : Ending) (w' : World) : Prop := ∃ v, e = .returned v ∧ IsBytes Q v w' ∧ Below w.heap.size w w'
theorem nilBytes (w : World) : IsBytes [] (.slice none 0 0) w := ⟨none, 0, rfl, Nat.le_refl _, Rd.nil_ _ _ _⟩
theorem own_bytes {w : World} {B : Nat} {v : Value} {T : List Nat} (h : w.ownsRow B 5 1 v T.length (bvs (u8s T))) : IsBytes (u8s T) v w := by
  obtain ⟨A, c, rfl, hc, -, -⟩ := own_form h
  exact ⟨A, c, by rw [u8s_length], by rw [u8s_length]; exact hc, Rd.of_own h⟩
section
variable {w : World}
theorem layBits_any (M : Nat) (w : World) : Calls Tryz.prog 93 #[.pointer (some ⟨M, 0, none⟩)] w fun e w' => ∃ Bm, e = .returned (.func (.func 146) #[] #[.pointer (some ⟨Bm, 0, none⟩)]) ∧ w.heap.size ≤ Bm ∧ Boxed w' Bm 151 (.pointer (some ⟨M, 0, none⟩)) ∧ Below w.heap.size w w' := by
  go_enter Tryz.func93, Tryz.ntmps93
  go_wp2
  go_ret
  exact ⟨w.heap.size, rfl, Nat.le_refl _, Boxed.new _ _ _, (Below.refl _ _).alloc (Nat.le_refl _) _⟩
theorem layLetter_any (M : Nat) (w : World) : Calls Tryz.prog 89 #[.pointer (some ⟨M, 0, none⟩)] w fun e w' => ∃ Bm, e = .returned (.func (.func 133) #[] #[.pointer (some ⟨Bm, 0, none⟩)]) ∧ w.heap.size ≤ Bm ∧ Boxed w' Bm 144 (.pointer (some ⟨M, 0, none⟩)) ∧ Below w.heap.size w w' := by
  go_enter Tryz.func89, Tryz.ntmps89
  go_wp2
  go_ret
  exact ⟨w.heap.size, rfl, Nat.le_refl _, Boxed.new _ _ _, (Below.refl _ _).alloc (Nat.le_refl _) _⟩
set_option maxRecDepth 100000 in
theorem letterCounts_any (w : World) : Calls Tryz.prog 90 #[] w fun e w' => ∃ F T S, e = .returned (.pointer (some ⟨F, 0, none⟩)) ∧ IsFreq w' F T S noneF 24 16384 ∧ (w.heap.size ≤ T ∧ w.heap.size ≤ S) ∧ Below w.heap.size w w' := by
  have C := Lib.hid (freqNew_any 256 24 16384 w (by unfold MayF; decide))
  go_enter Tryz.func90, Tryz.ntmps90
  go_wp2_with fail
  refine C.out.mono ?_
  rintro e w1 ⟨F, rfl, T, S, hf, ⟨-, hT, hS⟩, hb⟩
  have H := Lib.hid (And.intro hf (And.intro (And.intro hT hS) hb))
  clear hf hT hS hb
  go_wp2
  go_ret
  exact ⟨F, T, S, rfl, H.out⟩
set_option maxRecDepth 100000 in
theorem coded_nil (A : Option Addr) (m : Nat) (f : Value) (w : World) : Calls Tryz.prog 88 #[.slice A (0 : Nat) m, f] w fun e w' => e = .returned (.slice none 0 0) ∧ w' = w := by
  go_enter Tryz.func88, Tryz.ntmps88
  go_wp2
  go_ret
  exact ⟨rfl, rfl⟩
/-- What coded says, by a way. -/
theorem coded_q {σ : Type} {V : Way σ} {K : Nat} {caps : Array Value} {B : Nat} {At : σ → World → Prop} (HJ : LayJ V K caps B At) (hE : Enters Tryz.prog K) {A : Option Addr} {m : Nat} {l Q : List UInt8} {s : σ} (hQ : BldQ V s l Q) (hl : l.length ≤ 1000) (hr : Rd w B A (bvs l)) (hB : B ≤ w.heap.size) (hi : V.inv s) (hat : At s w) :
    Calls Tryz.prog 88 #[.slice A l.length m, .func (.func K) #[] caps] w fun e w' => ∃ v, e = .returned v ∧ IsBytes Q v w' ∧ Below B w w' := by
  rcases hQ with ⟨rfl, rfl⟩ | ⟨h1, h2⟩
  · refine (coded_nil A m _ w).mono ?_
    rintro e w' ⟨rfl, rfl⟩
    exact ⟨_, rfl, nilBytes _, Below.refl _ _⟩
  · refine (coded_any HJ hE (m := m) hr rfl (List.length_pos_iff.2 h1) hl hB hi hat).mono ?_
    rintro e w' ⟨v, T, rfl, hT, -, hown, hb⟩
    obtain ⟨T2, hT2, rfl, -⟩ := h2
    rw [hT2.one hT]
    exact ⟨v, rfl, own_bytes hown, hb⟩
theorem bits_lay {B Bm : Nat} {a : ModA} (hlo : ∀ k ∈ a.every, B ≤ k) : LayJ bitWay 146 #[.pointer (some ⟨Bm, 0, none⟩)] B (BitsAt Bm a) :=
  ⟨fun h hb => h.grow hb, fun _ hc hat he hBE hen hps hpl => layBits1_any hlo hc hat he hBE hen hps hpl⟩
theorem letter_lay {B Bm F T S : Nat} (hlo : B ≤ T ∧ B ≤ S) : LayJ letWay 133 #[.pointer (some ⟨Bm, 0, none⟩)] B (LetAt Bm F T S) :=
  ⟨fun h hb => h.grow hb, fun hi hc hat he hBE hen hps hpl => layLetter1_any hlo hi hc hat he hBE hen hps hpl⟩
set_option maxHeartbeats 1000000 in
set_option maxRecDepth 100000 in
theorem blendCode_q {l Q : List UInt8} (hQ : BldQ bitWay newD l Q) (hl : l.length ≤ 1000) (v : Value) (h : IsBytes l v w) : Calls Tryz.prog 47 #[v] w (NewBl w Q) := by
  obtain ⟨A, c, rfl, hc, hr⟩ := h
  have HQ := Lib.hid hQ
  have HL := Lib.hid hl
  have HR := Lib.hid hr
  obtain ⟨N, hN⟩ : ∃ N, N = l.length := ⟨_, rfl⟩
  rw [← hN]
  have HN := Lib.hid hN
  clear hQ hl hr hc hN
  go_enter Tryz.func47, Tryz.ntmps47
  go_wp2_with fail
  refine (modNew_any w).mono ?_
  rintro e w1 ⟨a, rfl, hm1, hlo1, hb1⟩
  have H1 := Lib.hid (And.intro hm1 (And.intro hlo1 hb1))
  clear hm1 hlo1 hb1
  go_wp2_with fail
  refine (layBits_any a.M w1).mono ?_
  rintro e w2 ⟨Bm, rfl, -, hbox, hb2⟩
  have hb12 := H1.out.2.2.trans (hb2.mono H1.out.2.2.size)
  have C := coded_q (m := c) (bits_lay (Bm := Bm) H1.out.2.1) (enters_of Tryz.func146 (by kernel_rfl) rfl) HQ.out HL.out (HR.out.below hb12) hb12.size newD_ok ⟨hbox, H1.out.1.grow hb2⟩
  rw [← HN.out] at C
  have C1 := Lib.hid C
  have HB := Lib.hid hb12
  clear hbox hb2 hb12 C H1
  go_wp2_with fail
  refine C1.out.mono ?_
  rintro e w3 ⟨v, rfl, hv, hb3⟩
  have HF := Lib.hid (And.intro hv (HB.out.trans hb3))
  clear hv hb3 C1
  go_wp2
  go_ret
  exact ⟨v, rfl, HF.out⟩
set_option maxHeartbeats 1000000 in
set_option maxRecDepth 100000 in
theorem blendAdapt_q {l Q : List UInt8} (hQ : BldQ letWay noneF l Q) (hl : l.length ≤ 1000) (v : Value) (h : IsBytes l v w) : Calls Tryz.prog 45 #[v] w (NewBl w Q) := by
  obtain ⟨A, c, rfl, hc, hr⟩ := h
  have HQ := Lib.hid hQ
  have HL := Lib.hid hl
  have HR := Lib.hid hr
  obtain ⟨N, hN⟩ : ∃ N, N = l.length := ⟨_, rfl⟩
  rw [← hN]
  have HN := Lib.hid hN
  clear hQ hl hr hc hN
  go_enter Tryz.func45, Tryz.ntmps45
  go_wp2_with fail
  refine (letterCounts_any w).mono ?_
  rintro e w1 ⟨F, T, S, rfl, hm1, hlo1, hb1⟩
  have H1 := Lib.hid (And.intro hm1 (And.intro hlo1 hb1))
  clear hm1 hlo1 hb1
  go_wp2_with fail
  refine (layLetter_any F w1).mono ?_
  rintro e w2 ⟨Bm, rfl, -, hbox, hb2⟩
  have hb12 := H1.out.2.2.trans (hb2.mono H1.out.2.2.size)
  have C := coded_q (m := c) (letter_lay (Bm := Bm) (F := F) H1.out.2.1) (enters_of Tryz.func133 (by kernel_rfl) rfl) HQ.out HL.out (HR.out.below hb12) hb12.size noneF_inv ⟨hbox, ⟨H1.out.1.fb.grow hb2, H1.out.1.tree.grow hb2⟩⟩
  rw [← HN.out] at C
  have C1 := Lib.hid C
  have HB := Lib.hid hb12
  clear hbox hb2 hb12 C H1
  go_wp2_with fail
  refine C1.out.mono ?_
  rintro e w3 ⟨v, rfl, hv, hb3⟩
  have HF := Lib.hid (And.intro hv (HB.out.trans hb3))
  clear hv hb3 C1
  go_wp2
  go_ret
  exact ⟨v, rfl, HF.out⟩
end
end Go.Proofs.YtflcmmeoppdhdaaGreat
namespace Go.Proofs.YtflcmmeoppdhdaaGreat
open Go.RowKit Go.Sort

/-- A function, as a value. -/
def fnV (K : Nat) : Value := .func (.func K) #[] #[]
/-- The way of mode k: its type, what it holds. -/
def wayT : Nat → Nat
  | 0 => 74
  | 1 => 75
  | 2 => 78
  | 3 => 78
  | 4 => 78
  | _ => 80
def wayX : Nat → Value
  | 0 => .agg #[]
  | 1 => .agg #[]
  | 2 => .agg #[fnV 43, fnV 44]
  | 3 => .agg #[fnV 45, fnV 46]
  | 4 => .agg #[fnV 47, fnV 48]
  | _ => .agg #[fnV 49, fnV 50]
abbrev wayV (k : Nat) : Value := .iface (wayT k) (wayX k)
def waysL : List Value := [wayV 0, wayV 1, wayV 2, wayV 3, wayV 4, wayV 5]
theorem size_ways : (Tryz.prog.info? 48).map (·.size) = some 6 := by kernel_rfl
set_option maxRecDepth 100000 in
set_option maxHeartbeats 1000000 in
theorem allWays_any (w : World) : Calls Tryz.prog 25 #[] w fun e w' => e = .returned (.agg #[.iface (wayT 0) (wayX 0), .iface (wayT 1) (wayX 1), .iface (wayT 2) (wayX 2), .iface (wayT 3) (wayX 3), .iface (wayT 4) (wayX 4), .iface (wayT 5) (wayX 5)]) ∧ Below w.heap.size w w' := by
  go_enter Tryz.func25, Tryz.ntmps25
  go_wp2
  exact bodyPost_ret (v := .agg #[.iface (wayT 0) (wayX 0), .iface (wayT 1) (wayX 1), .iface (wayT 2) (wayX 2), .iface (wayT 3) (wayX 3), .iface (wayT 4) (wayX 4), .iface (wayT 5) (wayX 5)]) (results_cell_row Tryz.results25 _ _ w.heap.size 48 _ (0, 0) _ rfl (heap_alloc_new w _) Tryz.underlying48 rfl size_ways) rfl ⟨rfl, (Below.refl _ _).alloc (Nat.le_refl _) _⟩
theorem ways_at (k : Nat) (hk : k ≤ 5) : waysL[k]? = some (wayV k) := by
  match k, hk with
  | 0, _ => rfl
  | 1, _ => rfl
  | 2, _ => rfl
  | 3, _ => rfl
  | 4, _ => rfl
  | 5, _ => rfl
/-- The ways as a row in new memory. -/
theorem ways_row (w : World) : Blk (w.alloc (.cells #[.iface (wayT 0) (wayX 0), .iface (wayT 1) (wayX 1), .iface (wayT 2) (wayX 2), .iface (wayT 3) (wayX 3), .iface (wayT 4) (wayX 4), .iface (wayT 5) (wayX 5)] 48)) w.heap.size 48 waysL ∧ Below w.heap.size w (w.alloc (.cells #[.iface (wayT 0) (wayX 0), .iface (wayT 1) (wayX 1), .iface (wayT 2) (wayX 2), .iface (wayT 3) (wayX 3), .iface (wayT 4) (wayX 4), .iface (wayT 5) (wayX 5)] 48)) :=
  ⟨heap_alloc_new w _, (Below.refl _ _).alloc (Nat.le_refl _) _⟩
set_option maxRecDepth 100000 in
set_option maxHeartbeats 1000000 in
theorem wayOf_any {k : Nat} (hk : k ≤ 5) (w : World) : Calls Tryz.prog 17 #[.int .i64 (k : Int)] w fun e w' => e = .returned (.tuple #[wayV k, .bool true]) ∧ Below w.heap.size w w' := by
  have ha := ways_at k hk
  have h0 : ¬ (k : Int) < 0 := by omega
  have h1 : (k : Int) < 6 := by omega
  have h2 : decide ((k : Int) < 0) = false := by simp
  have h3 : decide (6 ≤ (k : Int)) = false := by simp; omega
  obtain ⟨V, hV⟩ : ∃ V, V = wayV k := ⟨_, rfl⟩
  rw [← hV] at ha ⊢
  have HA := Lib.hid ha
  clear hV hk ha
  go_enter Tryz.func17, Tryz.ntmps17
  go_wp2_with fail
  refine (allWays_any _).mono ?_
  rintro e w1 ⟨rfl, hb⟩
  obtain ⟨hr2, hb2⟩ := ways_row w1
  have hc := hr2.cell k
  rw [HA.out] at hc
  have HB2 := Lib.hid (hb.trans (hb2.mono hb.size))
  clear hr2 hb2 hb
  go_wp2
  go_ret2
  exact ⟨rfl, HB2.out⟩
/-- What a method's call comes to: the function, what it is called with first. -/
def codeK : Nat → Nat
  | 0 => 271
  | 1 => 275
  | _ => 302
def decK : Nat → Nat
  | 0 => 272
  | 1 => 276
  | _ => 303
theorem meth_code {k : Nat} (hk : k ≤ 5) (w : World) : Sem.run Tryz.prog (method (Tryz.prog.types.size + 100) (wayT k) (wayX k) "winepress/modes.code") w = .ok (codeK k, wayX k) w := by
  rcases (show k = 0 ∨ k = 1 ∨ k = 2 ∨ k = 3 ∨ k = 4 ∨ k = 5 by omega) with rfl | rfl | rfl | rfl | rfl | rfl
  all_goals kernel_rfl
theorem meth_dec {k : Nat} (hk : k ≤ 5) (w : World) : Sem.run Tryz.prog (method (Tryz.prog.types.size + 100) (wayT k) (wayX k) "winepress/modes.decode") w = .ok (decK k, wayX k) w := by
  rcases (show k = 0 ∨ k = 1 ∨ k = 2 ∨ k = 3 ∨ k = 4 ∨ k = 5 by omega) with rfl | rfl | rfl | rfl | rfl | rfl
  all_goals kernel_rfl
def leaK : Nat → Nat
  | 0 => 273
  | 1 => 277
  | _ => 304
theorem meth_least {k : Nat} (hk : k = 0 ∨ k = 1 ∨ k = 5) (w : World) : Sem.run Tryz.prog (method (Tryz.prog.types.size + 100) (wayT k) (wayX k) "winepress/modes.least") w = .ok (leaK k, wayX k) w := by
  rcases hk with rfl | rfl | rfl
  all_goals kernel_rfl
theorem asserts_yes {k : Nat} (hk : k = 0 ∨ k = 1 ∨ k = 5) (w : World) : (Instr.typeAssert (wayV k) 43 82 true).run Tryz.prog w = .ok (.tuple #[wayV k, .bool true]) w := by
  rcases hk with rfl | rfl | rfl
  all_goals kernel_rfl
theorem least_one (p : String → Bool) (f : String → String) (s : String) : ∃ m, (Instr.least ([s].partition p).2 <|> Instr.least (([s].partition p).1.map f)) = some m := by
  cases h : p s with
  | true => exact ⟨f s, by simp [List.partition, List.partition.loop, h, Instr.least]⟩
  | false => exact ⟨s, by simp [List.partition, List.partition.loop, h, Instr.least]⟩
theorem missing_one {want : Array (String × Nat)} {got : Array Method} {s : String} (h : (want.toList.filter fun x => !got.any fun m => m.name == x.1 && m.sig == x.2).map (·.1) = [s]) : ∃ m, Instr.missingMethod want got = some m := by
  unfold Instr.missingMethod
  simp only
  rw [h]
  exact least_one _ _ s
def lackOf (d : Option TypeDesc) (i : Option TypeInfo) : Option (List String) :=
  match d, i with
  | some (.interface want), some ti => some ((want.toList.filter fun x => !ti.methods.any fun m => m.name == x.1 && m.sig == x.2).map (·.1))
  | _, _ => none
theorem lack_one : lackOf (Tryz.prog.underlying 82) (Tryz.prog.info? 78) = some ["winepress/modes.least"] := by kernel_rfl
theorem lack_of {d : Option TypeDesc} {i : Option TypeInfo} {l : List String} (h : lackOf d i = some l) : ∃ want ti, d = some (.interface want) ∧ i = some ti ∧ (want.toList.filter fun x => !ti.methods.any fun m => m.name == x.1 && m.sig == x.2).map (·.1) = l := by
  unfold lackOf at h
  split at h
  · next want ti => exact ⟨want, ti, rfl, rfl, Option.some.inj h⟩
  · cases h
theorem asserts_not {k : Nat} (hk : k = 2 ∨ k = 3 ∨ k = 4) (w : World) : (Instr.typeAssert (wayV k) 43 82 true).run Tryz.prog w = .ok (.tuple #[.nilIface, .bool false]) w := by
  obtain ⟨want, ti, h1, h2, h3⟩ := lack_of lack_one
  obtain ⟨m, hm⟩ := missing_one h3
  have h4 := run_typeInfo (P := Tryz.prog) w h2
  have hz : (zeroValue 82).run Tryz.prog w = .ok .nilIface w := by kernel_rfl
  have ht : wayT k = 78 := by rcases hk with rfl | rfl | rfl <;> rfl
  unfold Instr.typeAssert wayV
  rw [ht]
  simp [run_underlying h1, h4, hm, hz, go_sem]
theorem filled_any (n : Nat) (hn : n ≤ 1000000000) (w : World) : Calls Tryz.prog 280 #[.int .i64 (n : Int)] w fun e w' => e = .returned (.int .i64 (((n + 7) / 8 : Nat) : Int)) ∧ w' = w := by
  have h : ((n : Int) + 8 - 1) / 8 = (((n + 7) / 8 : Nat) : Int) := by omega
  rw [← h]
  clear h
  go_enter Tryz.func280, Tryz.ntmps280
  go_wp2
  go_ret
  exact ⟨rfl, rfl⟩
theorem theyLeast_any (V n : Int) (w : World) : Calls Tryz.prog 273 #[.agg #[], .int .i64 V, .int .i64 n] w fun e w' => e = .returned (.int .i64 n) ∧ Below w.heap.size w w' := by
  go_enter Tryz.func273, Tryz.ntmps273
  go_wp2
  go_ret
  exact ⟨rfl, (Below.refl _ _).alloc (Nat.le_refl _) _⟩
theorem codesLeast_any (V : Int) (n : Nat) (hn : n ≤ 100000000) (x : Array Value) (w : World) : Calls Tryz.prog 304 #[.agg x, .int .i64 V, .int .i64 (n : Int)] w fun e w' => e = .returned (.int .i64 ((if n = 0 then 0 else (260 + n + 7) / 8 : Nat) : Int)) ∧ Below w.heap.size w w' := by
  by_cases h0 : n = 0
  · subst h0
    rw [if_pos rfl]
    go_enter Tryz.func304, Tryz.ntmps304
    go_wp2
    go_ret
    exact ⟨rfl, (Below.refl _ _).alloc (Nat.le_refl _) _⟩
  · rw [if_neg h0]
    have h1 : ((n : Int) == 0) = false := by rw [beq_eq_false_iff_ne]; omega
    have C := filled_any (260 + n) (by omega)
    obtain ⟨N, hN⟩ : ∃ N : Int, N = ((260 + n : Nat) : Int) := ⟨_, rfl⟩
    obtain ⟨M, hM⟩ : ∃ M : Int, M = (((260 + n + 7) / 8 : Nat) : Int) := ⟨_, rfl⟩
    have hN2 : 260 + (n : Int) = N := by omega
    rw [← hN, ← hM] at C
    rw [← hM]
    have CF := Lib.hid C
    have HN := Lib.hid hN2
    have h2 : (n : Int) ≤ 100000000 := by omega
    clear h0 C hN hM hn hN2
    go_enter Tryz.func304, Tryz.ntmps304
    go_wp2_with fail
    rw [HN.out]
    refine (CF.out _).mono ?_
    rintro e w1 ⟨rfl, rfl⟩
    go_wp2
    go_ret
    exact ⟨rfl, (Below.refl _ _).alloc (Nat.le_refl _) _⟩
theorem words_vals {V n : Nat} (hn : n ≤ 100000000) (hV : 1 ≤ V ∧ V ≤ 8) : ∃ q m m8 s : Nat, (n : Int) / (V : Int) = (q : Int) ∧ (n : Int).tdiv (V : Int) = (q : Int) ∧ (n : Int) % (V : Int) = (m : Int) ∧ (n : Int).tmod (V : Int) = (m : Int) ∧ IntKind.i64.wrap (q : Int) = (q : Int) ∧ IntKind.i64.wrap (m : Int) = (m : Int) ∧ IntKind.i64.wrap ((m : Int) * 8) = (m8 : Int) ∧ IntKind.i64.wrap ((q : Int) + (m8 : Int)) = (s : Int) ∧ s = n / V + n % V * 8 ∧ s ≤ 1000000000 := by
  have h1 : n / V ≤ n := Nat.div_le_self _ _
  have h2 : n % V < V := Nat.mod_lt _ (by omega)
  have e1 : (n : Int) / (V : Int) = ((n / V : Nat) : Int) := (Int.natCast_ediv _ _).symm
  have e2 : (n : Int) % (V : Int) = ((n % V : Nat) : Int) := (Int.natCast_emod _ _).symm
  obtain ⟨q, hq⟩ : ∃ q, q = n / V := ⟨_, rfl⟩
  obtain ⟨m, hm⟩ : ∃ m, m = n % V := ⟨_, rfl⟩
  rw [← hq] at h1 e1 ⊢
  rw [← hm] at h2 e2 ⊢
  refine ⟨q, m, m * 8, q + m * 8, e1, ?_, e2, ?_, ?_, ?_, ?_, ?_, rfl, by omega⟩
  · rw [Int.tdiv_eq_ediv_of_nonneg (by omega)]; exact e1
  · rw [Int.tmod_eq_emod_of_nonneg (by omega)]; exact e2
  · rw [IntKind.wrap_i64]; omega
  · rw [IntKind.wrap_i64]; omega
  · rw [IntKind.wrap_i64]; omega
  · rw [IntKind.wrap_i64]; omega
set_option maxRecDepth 100000 in
set_option maxHeartbeats 1000000 in
theorem wordsLeast_any {V : Nat} (hV : IsW V) (n : Nat) (hn : n ≤ 100000000) (w : World) : Calls Tryz.prog 277 #[.agg #[], .int .i64 (V : Int), .int .i64 (n : Int)] w fun e w' => e = .returned (.int .i64 (((n / V + n % V * 8 + 7) / 8 : Nat) : Int)) ∧ Below w.heap.size w w' := by
  have hp := hV.pos
  obtain ⟨q, m, m8, s, d1, d2, d3, d4, d5, d6, d7, d8, d9, d10⟩ := words_vals hn hp
  have CF := Lib.hid (filled_any s d10)
  obtain ⟨M, hM⟩ : ∃ M : Int, M = (((s + 7) / 8 : Nat) : Int) := ⟨_, rfl⟩
  rw [← d9, ← hM]
  rw [← hM] at CF
  have hV0 : ¬ ((V : Int) = 0) := by omega
  have HD := Lib.hid (And.intro d1 (And.intro d2 (And.intro d3 (And.intro d4 (And.intro d5 (And.intro d6 (And.intro d7 d8)))))))
  clear hV hp d9 d10 hM d1 d2 d3 d4 d5 d6 d7 d8 hn
  go_enter Tryz.func277, Tryz.ntmps277
  go_wp2
  obtain ⟨d1, d2, d3, d4, d5, d6, d7, d8⟩ := HD.out
  go_quiet ((go_at_call 280; exact quietOf fun W _ => CF.out W))
  go_wp2
  go_ret
  exact ⟨rfl, below_drewn ((Below.refl _ _).alloc (Nat.le_refl _) _)⟩
end Go.Proofs.YtflcmmeoppdhdaaGreat
