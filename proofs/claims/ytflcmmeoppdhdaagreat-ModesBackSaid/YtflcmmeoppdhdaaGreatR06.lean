/-
  Contracts of bit.Writer. · Contracts of slices.Clone, Writer.Bytes, bit.Read and bit.Reader. · Contracts of bit.Reader: Get, Ones, Done. · Contracts of bit.Reader: Err, Left, Done over what is left. · Layer 19: the reference's Bits and Code.
-/
import Derived.Test.YtflcmmeoppdhdaaGreatR01
import Derived.Test.YtflcmmeoppdhdaaGreatR02
import Derived.Test.YtflcmmeoppdhdaaGreatR03
import Derived.Test.YtflcmmeoppdhdaaGreatR04
import Derived.Test.YtflcmmeoppdhdaaGreatR05
import Derived.Test.YtflcmmeoppdhdaaGreatProg
import Derived.Deep.DeepMust
import Derived.BigRegion
import Derived.BigQuiet
import Derived.Deep.QuietTactic
import Derived.StillTailTactics
import Derived.Deep.RegionWith
namespace Go.Proofs.YtflcmmeoppdhdaaGreat
open Go.RowKit


/-- At block g lies a Writer that has the bits l. -/
def WrAt (w : World) (B g : Nat) (l : List Bool) : Prop :=
  ∃ v bs, Blk w g 159 [v, .int .i64 l.length] ∧ B ≤ g ∧ w.ownsRow B 5 1 v bs.length (bvs bs) ∧ Packs bs l

theorem bvs_set (l : List UInt8) (k : Nat) (c : UInt8) : (bvs l).set k (.int .u8 c.toNat) = bvs (l.set k c) := by simp [bvs, List.map_set]
theorem u8n {n : Nat} (h : n < 256) : (UInt8.ofNat n).toNat = n := by simp [UInt8.toNat_ofNat']; omega
theorem or_bit (x : UInt8) (b : Bool) (r : Nat) (hr : r < 8) :
    ∃ c : UInt8, bits .or .u8 (x.toNat : Int) ((b.toNat : Int) * 2 ^ r % 256) = (c.toNat : Int) ∧ c.toNat = x.toNat ||| b.toNat <<< r := by
  have hx := x.toNat_lt
  have hb : b.toNat ≤ 1 := by cases b <;> simp
  have hp : 2 ^ r ≤ 128 := by have := Nat.pow_le_pow_right (n := 2) (by decide) (show r ≤ 7 by omega); simpa using this
  have hs : b.toNat <<< r ≤ 128 := by
    rw [Nat.shiftLeft_eq]
    have := Nat.mul_le_mul hb hp
    omega
  have hlt : x.toNat ||| b.toNat <<< r < 2 ^ 8 := Nat.or_lt_two_pow (by omega) (by omega)
  have e : (b.toNat : Int) * 2 ^ r % 256 = ((b.toNat <<< r : Nat) : Int) := by
    rw [Nat.shiftLeft_eq] at hs ⊢
    have : ((b.toNat * 2 ^ r : Nat) : Int) = (b.toNat : Int) * 2 ^ r := by simp
    rw [← this]
    omega
  refine ⟨UInt8.ofNat (x.toNat ||| b.toNat <<< r), ?_, ?_⟩
  · rw [e, u8_or _ _ (by omega) (by omega) (by omega) (by omega), Int.toNat_natCast, Int.toNat_natCast]
    rw [u8n hlt]
  · exact u8n hlt

/-- What the end of lay leaves. -/
theorem lay_end {w : World} {B g r c n : Nat} {bs bs' : List UInt8} {l : List Bool} {b : Bool} {x : UInt8} {u : Value}
    (hblk : Blk w g 159 [.slice (some ⟨r, 0, none⟩) bs'.length c, u]) (hBg : B ≤ g) (hown : w.ownsRow B 5 1 (.slice (some ⟨r, 0, none⟩) bs'.length c) bs'.length (bvs bs'))
    (hn : n = l.length) (hp : Packs bs l) (hbs : bs' = if l.length % 8 = 0 then bs ++ [0] else bs) (hx : bs'[n / 8]? = some x) :
    WrAt ((w.setCell ⟨r, n / 8, none⟩ (.int .u8 (bits .or .u8 (x.toNat : Int) ((b.toNat : Int) * 2 ^ (n % 8) % 256)))).setCell ⟨g, 1, none⟩ (.int .i64 ((n : Int) + 1))).drew B g (l ++ [b]) ∧
    OnlyT B [159, 5] w ((w.setCell ⟨r, n / 8, none⟩ (.int .u8 (bits .or .u8 (x.toNat : Int) ((b.toNat : Int) * 2 ^ (n % 8) % 256)))).setCell ⟨g, 1, none⟩ (.int .i64 ((n : Int) + 1))).drew := by
  obtain ⟨c8, he, hc8⟩ := or_bit x b (n % 8) (by omega)
  rw [he]
  obtain ⟨hst, hgr⟩ := hown.stored (n / 8) (.int .u8 c8.toNat)
  rw [bvs_set] at hst
  have ho1 : OnlyT B [5] w (w.setCell ⟨r, n / 8, none⟩ (.int .u8 c8.toNat)) := OnlyT.grown (e := 5) hgr (fun k hk => by injection hk with hk; subst hk; exact own_type hown r rfl) (by simp)
  have hblk1 := hblk.only ho1 (by decide)
  have ho2 : OnlyT B [159] (w.setCell ⟨r, n / 8, none⟩ (.int .u8 c8.toNat)) ((w.setCell ⟨r, n / 8, none⟩ (.int .u8 c8.toNat)).setCell ⟨g, 1, none⟩ (.int .i64 ((n : Int) + 1))) := OnlyT.set_ hblk1 hBg _ (by simp)
  have hst2 := own_only hst ho2 (by decide)
  have hblk2 := hblk1.set_ 1 (.int .i64 ((n : Int) + 1))
  have hsz : (bs'.set (n / 8) c8).length = bs'.length := by simp
  refine ⟨⟨.slice (some ⟨r, 0, none⟩) bs'.length c, bs'.set (n / 8) c8, ?_, hBg, by rw [hsz]; exact hst2, ?_⟩, ((ho1.more (ts' := [159, 5]) (by simp)).trans (ho2.more (ts' := [159, 5]) (by simp))).drew⟩
  · have e : ((l ++ [b]).length : Int) = (n : Int) + 1 := by rw [hn]; simp
    rw [e]
    exact hblk2
  · subst hn
    exact hp.snoc b bs' hbs c8 (by rw [hc8, List.getD_eq_getElem?_getD, hx]; rfl)

set_option maxHeartbeats 1000000 in
set_option maxRecDepth 100000 in
theorem lay_any (g B : Nat) (l : List Bool) (b : Bool) (w : World) (h : WrAt w B g l) (hl : l.length < 1000000000) :
    Calls Tryz.prog 203 #[.pointer (some ⟨g, 0, none⟩), .int .u8 b.toNat] w fun e w' => e = .returned (.tuple #[]) ∧ WrAt w' B g (l ++ [b]) ∧ OnlyT B [159, 5] w w' := by
  obtain ⟨i0, hi, hz0, hz1, hz2⟩ := info_parts info_u8'
  obtain ⟨v, bs, hblk, hBg, hown, hp⟩ := h
  obtain ⟨n, hn⟩ : ∃ n, n = l.length := ⟨_, rfl⟩
  rw [← hn] at hblk hl
  have hlen : bs.length = (n + 7) / 8 := by rw [hn]; exact hp.1
  have HN := Lib.hid hn
  have HP := Lib.hid hp
  clear hn hp
  by_cases h8 : n % 8 = 0
  · have hn0 : ((n : Int) % 8 == 0) = true := by rw [beq_iff_eq]; omega
    have hlb : bs.length ≤ 200000000 := by omega
    have hc0 := hblk.cell 0
    have hc1 := hblk.cell 1
    simp only [List.getElem?_cons_zero, List.getElem?_cons_succ] at hc0 hc1
    have hf0 := hblk.frozen 0
    have hf1 := hblk.frozen 1
    have hgs := hblk.lt
    have H8 := Lib.hid h8
    have HLEN := Lib.hid hlen
    have HBLK := Lib.hid hblk
    have HOWN := Lib.hid hown
    clear hlen hblk hown h8
    go_enter Tryz.func203, Tryz.ntmps203
    go_wp2_with (at_builtin; go_must (refine wpList_app rfl (.tmp 14) (.tmp 15) 22 rfl B 5 i0 (.int .u8 0) 1 1 Tryz.underlying22 hi hz0 hz1 hz2 rfl (by decide) _ _ _ rfl (HOWN.out.alloc _) _ _ 1 1 _ rfl (Rd.new _ _ _) rfl (by intro u hu; simp at hu; subst hu; rfl) (by simp only [maxLen]; omega) (by omega) (by simp; omega) ?_; intro v1 w1 hown1 hg1; obtain ⟨A1, c1, rfl, hn1, -, hA1⟩ := own_form hown1; have ho1 : OnlyT B [5] w w1 := (OnlyT.of_below ((Below.refl _ _).alloc (Nat.le_refl _) _)).trans (OnlyT.grown hg1 (own_type (HOWN.out.alloc _)) (by simp)); have hblk1 := HBLK.out.only ho1 (by decide); have hd0 := hblk1.cell 0; have hd1 := hblk1.cell 1; simp only [List.getElem?_cons_zero, List.getElem?_cons_succ] at hd0 hd1; have he0 := hblk1.frozen 0; have he1 := hblk1.frozen 1))
    obtain ⟨r, rfl, hBr, hr⟩ : ∃ r, A1 = some ⟨r, 0, none⟩ ∧ B ≤ r ∧ r < w1.heap.size := by
      rcases hA1 with h0 | h0
      · omega
      · exact h0
    clear hA1
    have hrg : r ≠ g := by
      intro e
      subst e
      exact (own_type hown1 r rfl).2.ne (show 5 ≠ 159 by decide) hblk1.ofType
    have hgr : g ≠ r := Ne.symm hrg
    have ho2 : OnlyT B [159] w1 (w1.setCell ⟨g, 0, none⟩ (.slice (some ⟨r, 0, none⟩) (bs.length + 1) c1)) := OnlyT.set_ hblk1 hBg _ (by simp)
    have hblk2 := hblk1.set_ 0 (.slice (some ⟨r, 0, none⟩) (bs.length + 1) c1)
    have hown2 := own_only hown1 ho2 (by decide)
    have ho12 : OnlyT B [159, 5] w (w1.setCell ⟨g, 0, none⟩ (.slice (some ⟨r, 0, none⟩) (bs.length + 1) c1)) := (ho1.more (by simp)).trans (ho2.more (by simp))
    clear hown1 hblk1 ho1 ho2 hd0 hd1 he0 he1 hc0 hc1 hf0 hf1
    generalize w1.setCell ⟨g, 0, none⟩ (.slice (some ⟨r, 0, none⟩) (bs.length + 1) c1) = w2 at *
    have hc0 := hblk2.cell 0
    have hc1 := hblk2.cell 1
    simp only [List.set_cons_zero, List.getElem?_cons_zero, List.getElem?_cons_succ] at hc0 hc1
    have hf0 := hblk2.frozen 0
    have hf1 := hblk2.frozen 1
    have hbn : bvs bs ++ [Value.int .u8 0] = bvs (bs ++ [0]) := by simp [bvs]
    have hbl : bs.length + 1 = (bs ++ [0]).length := by simp
    have hx : (bs ++ [0])[n / 8]? = some (0 : UInt8) := by rw [List.getElem?_append_right (by have := HLEN.out; have := H8.out; omega)]; have : n / 8 - bs.length = 0 := by { have := HLEN.out; have := H8.out; omega }; rw [this]; rfl
    have hcr : w2.cell? ⟨r, n / 8, none⟩ = some (.int .u8 0) := by
      have := hown2.cellAt (n / 8) (by have := HLEN.out; have := H8.out; omega)
      rw [this, hbn]
      unfold bvs
      rw [List.getElem?_map, hx]
      rfl
    have hfr := hown2.frozenAt (n / 8)
    have hq0 : (0 : Int) ≤ (n : Int) / 8 := by omega
    have hq1 : (n : Int) / 8 < ((bs.length + 1 : Nat) : Int) := by have := HLEN.out; have := H8.out; omega
    have HX := Lib.hid hx
    have HBLK2 := Lib.hid hblk2
    have HOWN2 := Lib.hid hown2
    have HBL := Lib.hid hbl
    have HBN := Lib.hid hbn
    have HO12 := Lib.hid ho12
    clear hx hblk2 hown2 hbl hbn ho12
    go_region
    go_wp2
    go_end0
    have hE := lay_end (b := b) (bs' := bs ++ [0]) (by rw [← HBL.out]; exact HBLK2.out) hBg (by rw [← HBL.out, ← HBN.out]; exact HOWN2.out) HN.out HP.out (by rw [if_pos (by rw [← HN.out]; exact H8.out)]) HX.out
    rw [show (((0 : UInt8).toNat : Nat) : Int) = 0 from rfl] at hE
    exact ⟨rfl, hE.1, HO12.out.trans hE.2⟩
  · obtain ⟨A, c, rfl, hnc, _, hA⟩ := own_form hown
    obtain ⟨r, rfl, hBr, hr⟩ : ∃ r, A = some ⟨r, 0, none⟩ ∧ B ≤ r ∧ r < w.heap.size := by
      rcases hA with h0 | h0
      · omega
      · exact h0
    clear hA
    have hc0 := hblk.cell 0
    have hc1 := hblk.cell 1
    simp only [List.getElem?_cons_zero, List.getElem?_cons_succ] at hc0 hc1
    have hf0 := hblk.frozen 0
    have hf1 := hblk.frozen 1
    obtain ⟨x, hx⟩ : ∃ x : UInt8, bs[n / 8]? = some x := ⟨bs[n / 8]'(by omega), by simp⟩
    have hcr : w.cell? ⟨r, n / 8, none⟩ = some (.int .u8 x.toNat) := by
      have := hown.cellAt (n / 8) (by omega)
      rw [this]
      simp [bvs, hx]
    have hfr := hown.frozenAt (n / 8)
    have hrg : r ≠ g := by
      intro e
      subst e
      exact (own_type hown r rfl).2.ne (show 5 ≠ 159 by decide) hblk.ofType
    have hgr : g ≠ r := Ne.symm hrg
    have hn8 : ((n : Int) % 8 == 0) = false := by rw [beq_eq_false_iff_ne]; omega
    have hq0 : (0 : Int) ≤ (n : Int) / 8 := by omega
    have hq1 : (n : Int) / 8 < (bs.length : Int) := by omega
    have HX := Lib.hid hx
    have HLEN := Lib.hid hlen
    have HBLK := Lib.hid hblk
    have HOWN := Lib.hid hown
    have H8 := Lib.hid h8
    clear hx hlen hblk hown h8
    go_enter Tryz.func203, Tryz.ntmps203
    go_wp2
    go_region
    go_wp2
    go_end0
    have hE := lay_end (b := b) HBLK.out hBg HOWN.out HN.out HP.out (by rw [if_neg (by rw [← HN.out]; exact H8.out)]) HX.out
    exact ⟨rfl, hE.1, hE.2⟩

theorem bit_arg (V k : Nat) (hV : V < 18446744073709551616) : bits .and .u64 ((V : Int) / 2 ^ k) 1 % 256 = ((V.testBit k).toNat : Int) := by
  have hd : V / 2 ^ k ≤ V := Nat.div_le_self _ _
  have ht := Nat.testBit_eq_decide_div_mod_eq (x := V) (i := k)
  have e : (V : Int) / 2 ^ k = ((V / 2 ^ k : Nat) : Int) := by simp
  rw [e, ht]
  generalize V / 2 ^ k = q at *
  rw [and1_u64 _ (by omega) (by omega)]
  rcases Nat.mod_two_eq_zero_or_one q with h | h
  · rw [h]; simp; omega
  · rw [h]; simp; omega

end Go.Proofs.YtflcmmeoppdhdaaGreat
namespace Go.Proofs.YtflcmmeoppdhdaaGreat
open Go.RowKit

/-- At block g lies a Reader of which the bits L are left, with the error e. -/
def RdrIs (w : World) (g : Nat) (L : List Bool) (e : Nat) : Prop :=
  ∃ (bs : List UInt8) (at_ : Nat) (A : Option Addr) (c : Nat), Blk w g 222 [.slice A bs.length c, .int .i64 at_, .int .i64 e] ∧ RdT w 5 A (bvs bs) ∧ at_ ≤ 8 * bs.length ∧ bs.length ≤ 140737488355000 ∧ bs.length ≤ c ∧ L = (allBits bs).drop at_

theorem RdrIs.only {B : Nat} {ts : List TypeId} {w w' : World} {g : Nat} {L : List Bool} {e : Nat} (h : RdrIs w g L e) (ho : OnlyT B ts w w') (h1 : 222 ∉ ts) (h2 : 5 ∉ ts) : RdrIs w' g L e := by
  obtain ⟨bs, at_, A, c, hb, hr, rest⟩ := h
  exact ⟨bs, at_, A, c, hb.only ho h1, hr.only ho h2, rest⟩

set_option maxHeartbeats 1000000 in
theorem read_all (A : Option Addr) (n c : Nat) (l : List UInt8) (w : World) (hr : Rd w w.heap.size A (bvs l)) (hn : l.length = n) (hn1 : n ≤ 140737488355000) :
    Calls Tryz.prog 102 #[.slice A n c] w fun e w' => ∃ g, e = .returned (.pointer (some ⟨g, 0, none⟩)) ∧ w.heap.size ≤ g ∧ RdrIs w' g (allBits l) 0 ∧ Below w.heap.size w w' := by
  have hc := clone_all A n c l w hr hn hn1
  have HC := Lib.hid hc
  have HN := Lib.hid hn
  clear hc hn hr
  go_enter Tryz.func102, Tryz.ntmps102
  go_wp2_with (go_at_call 164; go_must (refine HC.out.mono ?_; rintro e w1 ⟨v1, rfl, hown1, hb1⟩; obtain ⟨A1, c1, rfl, hc1, -, -⟩ := own_form hown1))
  go_ret
  have hlen := HN.out
  have hblk : Blk (w1.alloc (.cells #[.slice A1 l.length c1, .int .i64 0, .int .i64 0] 222)) w1.heap.size 222 [.slice A1 l.length c1, .int .i64 0, .int .i64 0] := heap_alloc_new w1 _
  have hrd := (RdT.of_own (hown1.alloc (.cells #[.slice A1 l.length c1, .int .i64 0, .int .i64 0] 222)))
  exact ⟨w1.heap.size, rfl, hb1.size, ⟨l, 0, A1, c1, hblk, hrd, Nat.zero_le _, by omega, hc1, rfl⟩, hb1.alloc hb1.size _⟩
theorem bit_arg8 (x : UInt8) (r : Nat) : bits .and .u8 ((x.toNat : Int) / 2 ^ r) 1 = ((x.toNat.testBit r).toNat : Int) := by
  have hx := x.toNat_lt
  have hd : x.toNat / 2 ^ r ≤ x.toNat := Nat.div_le_self _ _
  have ht := Nat.testBit_eq_decide_div_mod_eq (x := x.toNat) (i := r)
  have e : (x.toNat : Int) / 2 ^ r = ((x.toNat / 2 ^ r : Nat) : Int) := by simp
  rw [e, ht]
  generalize x.toNat / 2 ^ r = q at *
  rw [u8_and _ _ (by omega) (by omega) (by omega) (by omega), Int.toNat_natCast, show ((1 : Int).toNat) = 1 from rfl, nat_mask1]
  rcases Nat.mod_two_eq_zero_or_one q with h | h <;> rw [h] <;> rfl

/- The reader's small methods. -/
section
variable {w : World} {g : Nat} {bs : List UInt8} {at_ e c : Nat} {A : Option Addr}
set_option maxHeartbeats 1000000 in
theorem rErr_any (u0 u1 : Value) (e : Int) (h : Blk w g 222 [u0, u1, .int .i64 e]) :
    Calls Tryz.prog 168 #[.pointer (some ⟨g, 0, none⟩)] w fun e' w' => e' = .returned (.int .i64 e) ∧ w = w' := by
  have hc2 := h.cell 2
  simp only [List.getElem?_cons_zero, List.getElem?_cons_succ] at hc2
  clear h
  go_enter Tryz.func168, Tryz.ntmps168
  go_wp2
  go_ret
  exact ⟨rfl, rfl⟩
set_option maxHeartbeats 1000000 in
theorem rLeft_ok (h : Blk w g 222 [.slice A bs.length c, .int .i64 at_, .int .i64 0]) (hl : bs.length ≤ 140737488355000) (ha : at_ ≤ 8 * bs.length) :
    Calls Tryz.prog 166 #[.pointer (some ⟨g, 0, none⟩)] w fun e' w' => e' = .returned (.int .i64 ((8 * bs.length - at_ : Nat) : Int)) ∧ w.drew = w' := by
  have hc0 := h.cell 0
  have hc1 := h.cell 1
  simp only [List.getElem?_cons_zero, List.getElem?_cons_succ] at hc0 hc1
  have H := Lib.hid h
  clear h
  obtain ⟨n, hn⟩ : ∃ n, n = bs.length := ⟨_, rfl⟩
  rw [← hn] at hc0 hl ha ⊢
  have HN := Lib.hid hn
  clear hn
  have hni : (n : Int) ≤ 140737488355000 := by omega
  have hai : (at_ : Int) ≤ 8 * (n : Int) := by omega
  go_enter Tryz.func166, Tryz.ntmps166
  go_wp2_with (go_at_call 168; go_must (refine (rErr_any _ _ _ H.out).mono ?_; rintro e w' ⟨rfl, rfl⟩))
  go_region
  go_wp2
  go_ret
  exact ⟨ret_int (by omega), rfl⟩

set_option maxHeartbeats 1000000 in
set_option maxRecDepth 100000 in
theorem rNext_any (k : Nat) (u2 : Value) (h : Blk w g 222 [.slice A bs.length c, .int .i64 at_, u2]) (hr : RdT w 5 A (bvs bs)) (hl : bs.length ≤ 140737488355000) (hk : at_ + k < 8 * bs.length) :
    Calls Tryz.prog 169 #[.pointer (some ⟨g, 0, none⟩), .int .i64 k] w fun e' w' => e' = .returned (.int .u8 ((bitAt bs (at_ + k)).toNat : Nat)) ∧ w = w' := by
  have hc0 := h.cell 0
  have hc1 := h.cell 1
  simp only [List.getElem?_cons_zero, List.getElem?_cons_succ] at hc0 hc1
  obtain ⟨x, hx⟩ : ∃ x : UInt8, bs[(k + at_) / 8]? = some x := ⟨bs[(k + at_) / 8]'(by omega), by simp⟩
  obtain ⟨b, off, rfl, _, hcx⟩ := hr ((k + at_) / 8) (.int .u8 x.toNat) (by simp [bvs, hx])
  have hbit : bitAt bs (at_ + k) = x.toNat.testBit ((k + at_) % 8) := by
    simp only [bitAt, Nat.add_comm at_ k, List.getD_eq_getElem?_getD, hx, Option.getD_some]
  rw [hbit]
  obtain ⟨n, hn⟩ : ∃ n, n = bs.length := ⟨_, rfl⟩
  rw [← hn] at hc0 hl hk
  clear h hr hx hbit hn
  have hx8 := x.toNat_lt
  have hni : (n : Int) ≤ 140737488355000 := by omega
  have hki : (k : Int) + (at_ : Int) < 8 * (n : Int) := by omega
  have hq0 : 0 ≤ ((k : Int) + (at_ : Int)) / 8 := by omega
  have hq1 : ((k : Int) + (at_ : Int)) / 8 < (n : Int) := by omega
  go_enter Tryz.func169, Tryz.ntmps169
  go_wp2
  go_ret
  exact ⟨ret_int (bit_arg8 x ((k + at_) % 8)), rfl⟩

set_option maxHeartbeats 1000000 in
theorem rKeep_any (u0 u1 : Value) (e : Int) (h : Blk w g 222 [u0, u1, .int .i64 0]) :
    Calls Tryz.prog 206 #[.pointer (some ⟨g, 0, none⟩), .int .i64 e] w fun e' w' => e' = .returned (.tuple #[]) ∧ w.setCell ⟨g, 2, none⟩ (.int .i64 e) = w' := by
  have hc2 := h.cell 2
  simp only [List.getElem?_cons_zero, List.getElem?_cons_succ] at hc2
  have hf2 := h.frozen 2
  clear h
  go_enter Tryz.func206, Tryz.ntmps206
  go_wp2
  go_end0
  exact ⟨rfl, rfl⟩
set_option maxHeartbeats 1000000 in
theorem within_ok (n m e : Int) (f : Value) (w : World) (h0 : 0 ≤ n) (h1 : n ≤ m) :
    Calls Tryz.prog 205 #[.int .i64 n, .int .i64 m, .int .i64 e, f] w fun e' w' => e' = .returned (.bool true) ∧ w = w' := by
  go_enter Tryz.func205, Tryz.ntmps205
  go_wp2
  go_ret
  exact ⟨rfl, rfl⟩
set_option maxHeartbeats 1000000 in
theorem within_bad (u0 u1 : Value) (n m e : Int) (h : Blk w g 222 [u0, u1, .int .i64 0]) (hn : n < 0 ∨ m < n) :
    Calls Tryz.prog 205 #[.int .i64 n, .int .i64 m, .int .i64 e, .func (.func 206) #[.pointer (some ⟨g, 0, none⟩)] #[]] w fun e' w' => e' = .returned (.bool false) ∧ w.setCell ⟨g, 2, none⟩ (.int .i64 e) = w' := by
  have H := Lib.hid h
  clear h
  by_cases h0 : n < 0
  · clear hn
    go_enter Tryz.func205, Tryz.ntmps205
    go_wp2_with (go_at_call 206; go_must (refine (rKeep_any _ _ _ H.out).mono ?_; rintro e' w' ⟨rfl, rfl⟩))
    go_ret
    exact ⟨rfl, rfl⟩
  · have h1 : m < n := by omega
    have h2 : 0 ≤ n := by omega
    clear hn h0
    go_enter Tryz.func205, Tryz.ntmps205
    go_wp2_with (go_at_call 206; go_must (refine (rKeep_any _ _ _ H.out).mono ?_; rintro e' w' ⟨rfl, rfl⟩))
    go_ret
    exact ⟨rfl, rfl⟩
end
end Go.Proofs.YtflcmmeoppdhdaaGreat
namespace Go.Proofs.YtflcmmeoppdhdaaGreat
open Go.RowKit

theorem drop_get (bs : List UInt8) (at_ k : Nat) (b : Bool) (h : ((allBits bs).drop at_)[k]? = some b) : b = bitAt bs (at_ + k) ∧ at_ + k < 8 * bs.length := by
  rw [List.getElem?_drop] at h
  have hlt : at_ + k < 8 * bs.length := by
    have := (List.getElem?_eq_some_iff.1 h).1
    rwa [allBits_length] at this
  rw [allBits_get bs _ hlt] at h
  injection h with h
  exact ⟨h.symm, hlt⟩
theorem drop_len (bs : List UInt8) (at_ : Nat) : ((allBits bs).drop at_).length = 8 * bs.length - at_ := by rw [List.length_drop, allBits_length]

/-- the number so far, and one bit more -/
theorem get_bit (L : List Bool) (k : Nat) (b : Bool) (hb : L[k]? = some b) (hk : k < 64) :
    bits .or .u64 (valOf (L.take k) : Int) (IntKind.u64.wrap (IntKind.u64.wrap (b.toNat : Int) * 2 ^ k)) = (valOf (L.take (k + 1)) : Int) := by
  have hkl := (List.getElem?_eq_some_iff.1 hb).1
  have ht : L.take (k + 1) = L.take k ++ [b] := by rw [List.take_add_one, hb]; rfl
  have hl : (L.take k).length = k := by rw [List.length_take]; omega
  have hv := valOf_lt (L.take k)
  rw [hl] at hv
  have hp : (2 : Nat) ^ k ≤ 2 ^ 63 := Nat.pow_le_pow_right (by decide) (by omega)
  have hb1 : b.toNat ≤ 1 := by cases b <;> simp
  have hm : b.toNat * 2 ^ k ≤ 2 ^ k := by have := Nat.mul_le_mul_right (2 ^ k) hb1; rwa [Nat.one_mul] at this
  have e : (b.toNat : Int) * 2 ^ k = ((b.toNat * 2 ^ k : Nat) : Int) := by simp
  have ew : IntKind.u64.wrap (b.toNat : Int) = (b.toNat : Int) := by rw [IntKind.wrap_u64]; omega
  have hmod : ((b.toNat * 2 ^ k : Nat) : Int) % 2 ^ k = 0 := by rw [← e]; exact Int.mul_emod_left _ _
  have hv2 : ((valOf (L.take k) : Nat) : Int) < 2 ^ k := by
    have : ((valOf (L.take k) : Nat) : Int) < ((2 ^ k : Nat) : Int) := by exact_mod_cast hv
    simpa using this
  rw [ht, valOf_snoc, hl, ew, e, IntKind.wrap_u64]
  generalize b.toNat * 2 ^ k = q at *
  generalize valOf (L.take k) = v at *
  rw [Int.emod_eq_of_lt (by omega) (by omega), orHigh_u64 _ _ k (by omega) hv2 (by omega) hmod (by omega) (by omega)]
  omega

section
variable {w : World} {g : Nat} {L : List Bool}
set_option maxHeartbeats 1000000 in
theorem rGet_err (n : Int) (e : Nat) (h : RdrIs w g L e) (he : e ≠ 0) : Calls Tryz.prog 165 #[.pointer (some ⟨g, 0, none⟩), .int .i64 n] w fun e' w' => e' = .returned (.int .u64 0) ∧ w = w' := by
  obtain ⟨bs, at_, A, c, hb, hr, ha, hl, hlc, rfl⟩ := h
  have HB := Lib.hid hb
  have hne : (((e : Nat) : Int) != 0) = true := by rw [bne_iff_ne]; omega
  clear hb hr he
  go_enter Tryz.func165, Tryz.ntmps165
  go_wp2_with (go_at_call 168; go_must (refine (rErr_any _ _ _ HB.out).mono ?_; rintro e w' ⟨rfl, rfl⟩))
  go_ret
  exact ⟨rfl, rfl⟩
set_option maxHeartbeats 1000000 in
theorem rGet_trunc (n : Nat) (h : RdrIs w g L 0) (hn : n ≤ 64) (hL1 : L.length < n) :
    Calls Tryz.prog 165 #[.pointer (some ⟨g, 0, none⟩), .int .i64 n] w fun e' w' => e' = .returned (.int .u64 0) ∧ RdrIs w' g L 11 ∧ OnlyT g [222] w w' := by
  obtain ⟨bs, at_, A, c, hb, hr, ha, hl, hlc, hL⟩ := h
  have hL2 : 8 * bs.length - at_ < n := by rw [hL, drop_len] at hL1; exact hL1
  have HB := Lib.hid hb
  have HR := Lib.hid hr
  have HL := Lib.hid hL
  have HL2 := Lib.hid hL2
  clear hb hr hL hL1 hL2
  go_enter Tryz.func165, Tryz.ntmps165
  go_wp2_with (first
    | (go_at_call 168; go_must (refine (rErr_any _ _ _ HB.out).mono ?_; rintro e w' ⟨rfl, rfl⟩))
    | (go_at_call 166; go_must (refine (rLeft_ok HB.out hl ha).mono ?_; rintro e w' ⟨rfl, rfl⟩))
    | (go_at_call 205; refine (within_ok _ _ _ _ _ (by omega) (by omega)).mono ?_; rintro e w' ⟨rfl, rfl⟩)
    | (go_at_call 205; go_must (refine (within_bad (w := w.drew) _ _ _ _ _ HB.out (by have := HL2.out; omega)).mono ?_; rintro e w' ⟨rfl, rfl⟩)))
  go_ret
  have ho : OnlyT g [222] w (w.setCell ⟨g, 2, none⟩ (.int .i64 11)) := OnlyT.set_ HB.out (Nat.le_refl _) _ (by simp)
  exact ⟨rfl, ⟨bs, at_, A, c, HB.out.set_ 2 _, HR.out.only ho.drew (by decide), ha, hl, hlc, HL.out⟩, ho.drew⟩

def GetRelR (L : List Bool) (n : Nat) (v i : Value) : Prop := ∃ k : Nat, k ≤ n ∧ i = .int .i64 k ∧ v = .int .u64 (valOf (L.take k))

set_option maxHeartbeats 1000000 in
set_option maxRecDepth 100000 in
theorem rGet_ok (n : Nat) (h : RdrIs w g L 0) (hn : n ≤ 64) (hL1 : n ≤ L.length) :
    Calls Tryz.prog 165 #[.pointer (some ⟨g, 0, none⟩), .int .i64 n] w fun e' w' => e' = .returned (.int .u64 (valOf (L.take n))) ∧ RdrIs w' g (L.drop n) 0 ∧ OnlyT g [222] w w' := by
  obtain ⟨bs, at_, A, c, hb, hr, ha, hl, hlc, hL⟩ := h
  have hL2 : n ≤ 8 * bs.length - at_ := by rw [hL, drop_len] at hL1; exact hL1
  have hc1 := hb.cell 1
  simp only [List.getElem?_cons_zero, List.getElem?_cons_succ] at hc1
  have hf1 := hb.frozen 1
  have HB := Lib.hid hb
  have HR := Lib.hid hr
  have HL := Lib.hid hL
  have HL2 := Lib.hid hL2
  have hai : (at_ : Int) ≤ 1125899907000000 := by omega
  have hni : (n : Int) ≤ 64 := by omega
  clear hb hr hL hL2
  go_enter Tryz.func165, Tryz.ntmps165
  go_wp2_with (first
    | (go_at_call 168; go_must (refine (rErr_any _ _ _ HB.out).mono ?_; rintro e w' ⟨rfl, rfl⟩))
    | (go_at_call 166; go_must (refine (rLeft_ok HB.out hl ha).mono ?_; rintro e w' ⟨rfl, rfl⟩))
    | (go_at_call 205; refine (within_ok _ _ _ _ _ (by omega) (by have := HL2.out; omega)).mono ?_; rintro e w' ⟨rfl, rfl⟩))
  go_loop [5, 25] (GetRelR L n) (fun _ i => n - (intOf i).toNat)
  case atStart => exact ⟨0, Nat.zero_le _, rfl, by simp [valOf]⟩
  case round =>
    obtain ⟨k, hk, rfl, rfl⟩ := hrel
    by_cases hlt : k < n
    · have hb0 : L[k]? = some (bitAt bs (at_ + k)) := by
        rw [HL.out, List.getElem?_drop, allBits_get bs _ (by have := HL2.out; omega)]
      have hstep := get_bit L k _ hb0 (by omega)
      have HS := Lib.hid hstep
      clear hb0 hstep
      go_wp2_with (go_at_call 169; go_must (refine (rNext_any k _ (w := w.drew) HB.out HR.out hl (by have := HL2.out; omega)).mono ?_; rintro e w' ⟨rfl, rfl⟩))
      go_round
      case rel => exact ⟨k + 1, by omega, by go_num, by rw [HS.out]⟩
      case measure => simp [intOf]; omega
    · obtain rfl : k = n := by omega
      go_wp2
      go_ret
      have ho : OnlyT g [222] w (w.setCell ⟨g, 1, none⟩ (.int .i64 ((at_ : Int) + (k : Int)))) := OnlyT.set_ HB.out (Nat.le_refl _) _ (by simp)
      refine ⟨rfl, ⟨bs, at_ + k, A, c, ?_, HR.out.only ho.drew (by decide), by have := HL2.out; omega, hl, hlc, by rw [HL.out, List.drop_drop]⟩, ho.drew⟩
      rw [show ((at_ + k : Nat) : Int) = (at_ : Int) + (k : Int) from rfl]
      exact HB.out.set_ 1 _

/- runs of ones -/
set_option maxHeartbeats 1000000 in
theorem rOnes_err (n : Int) (e : Nat) (h : RdrIs w g L e) (he : e ≠ 0) : Calls Tryz.prog 296 #[.pointer (some ⟨g, 0, none⟩), .int .i64 n] w fun e' w' => e' = .returned (.int .i64 0) ∧ w = w' := by
  obtain ⟨bs, at_, A, c, hb, hr, ha, hl, hlc, rfl⟩ := h
  have HB := Lib.hid hb
  have hne : (((e : Nat) : Int) != 0) = true := by rw [bne_iff_ne]; omega
  clear hb hr he
  go_enter Tryz.func296, Tryz.ntmps296
  go_wp2_with (go_at_call 168; go_must (refine (rErr_any _ _ _ HB.out).mono ?_; rintro e w' ⟨rfl, rfl⟩))
  go_ret
  exact ⟨rfl, rfl⟩
def CountR (n : Nat) (i : Value) : Prop := ∃ k : Nat, k ≤ n ∧ i = .int .i64 k

set_option maxHeartbeats 1000000 in
set_option maxRecDepth 100000 in
theorem rOnes_full (m : Nat) (R : List Bool) (h : RdrIs w g L 0) (hm : m ≤ 256) (hL0 : L = List.replicate m true ++ R) :
    Calls Tryz.prog 296 #[.pointer (some ⟨g, 0, none⟩), .int .i64 m] w fun e' w' => e' = .returned (.int .i64 m) ∧ RdrIs w' g R 0 ∧ OnlyT g [222] w w' := by
  obtain ⟨bs, at_, A, c, hb, hr, ha, hl, hlc, hL⟩ := h
  have hL2 : m ≤ 8 * bs.length - at_ := by rw [← drop_len, ← hL, hL0]; simp
  have hc1 := hb.cell 1
  simp only [List.getElem?_cons_zero, List.getElem?_cons_succ] at hc1
  have hf1 := hb.frozen 1
  have HB := Lib.hid hb
  have HR := Lib.hid hr
  have HL := Lib.hid hL
  have HL0 := Lib.hid hL0
  have HL2 := Lib.hid hL2
  have hai : (at_ : Int) ≤ 1125899907000000 := by omega
  have hmi : (m : Int) ≤ 256 := by omega
  clear hb hr hL hL2 hL0
  go_enter Tryz.func296, Tryz.ntmps296
  go_wp2_with (first
    | (go_at_call 168; go_must (refine (rErr_any _ _ _ HB.out).mono ?_; rintro e w' ⟨rfl, rfl⟩))
    | (go_at_call 166; go_must (refine (rLeft_ok HB.out hl ha).mono ?_; rintro e w' ⟨rfl, rfl⟩))
    | (go_at_call 205; go_must (refine (within_ok _ _ _ _ _ (by omega) (by omega)).mono ?_; rintro e w' ⟨rfl, rfl⟩)))
  go_loop [20] (CountR m) (fun i => m - (intOf i).toNat)
  case atStart => exact ⟨0, Nat.zero_le _, rfl⟩
  case round =>
    obtain ⟨k, hk, rfl⟩ := hrel
    by_cases hlt : k < m
    · have hb0 : L[k]? = some true := by rw [HL0.out, List.getElem?_append_left (by simp; omega)]; simp [hlt]
      obtain ⟨hbit, hbl⟩ := drop_get bs at_ k true (by rw [← HL.out]; exact hb0)
      have hn := fun (W : World) (H : Blk W g 222 [.slice A bs.length c, .int .i64 at_, .int .i64 0]) (HR : RdT W 5 A (bvs bs)) => rNext_any (w := W) k _ H HR hl hbl
      rw [← hbit] at hn
      have HNX := Lib.hid hn
      clear hb0 hbit hn hbl
      go_wp2_with (first
        | (go_at_call 205; go_must (refine (within_ok _ _ _ _ _ (by omega) (by have := HL2.out; omega)).mono ?_; rintro e w' ⟨rfl, rfl⟩))
        | (go_at_call 169; go_must (refine (HNX.out w.drew HB.out HR.out).mono ?_; rintro e w' ⟨rfl, rfl⟩)))
      go_round
      case rel => exact ⟨k + 1, by omega, by go_num⟩
      case measure => simp [intOf]; omega
    · obtain rfl : k = m := by omega
      go_wp2
      go_ret
      have ho : OnlyT g [222] w (w.setCell ⟨g, 1, none⟩ (.int .i64 ((at_ : Int) + (k : Int)))) := OnlyT.set_ HB.out (Nat.le_refl _) _ (by simp)
      refine ⟨rfl, ⟨bs, at_ + k, A, c, ?_, HR.out.only ho.drew (by decide), by have := HL2.out; omega, hl, hlc, ?_⟩, ho.drew⟩
      · rw [show ((at_ + k : Nat) : Int) = (at_ : Int) + (k : Int) from rfl]
        exact HB.out.set_ 1 _
      · rw [← List.drop_drop, ← HL.out, HL0.out]; simp

set_option maxHeartbeats 1000000 in
set_option maxRecDepth 100000 in
theorem rOnes_stop (m n : Nat) (R : List Bool) (h : RdrIs w g L 0) (hm : m ≤ 256) (hn : n < m) (hL0 : L = List.replicate n true ++ false :: R) :
    Calls Tryz.prog 296 #[.pointer (some ⟨g, 0, none⟩), .int .i64 m] w fun e' w' => e' = .returned (.int .i64 n) ∧ RdrIs w' g R 0 ∧ OnlyT g [222] w w' := by
  obtain ⟨bs, at_, A, c, hb, hr, ha, hl, hlc, hL⟩ := h
  have hL2 : n + 1 ≤ 8 * bs.length - at_ := by rw [← drop_len, ← hL, hL0]; simp
  have hc1 := hb.cell 1
  simp only [List.getElem?_cons_zero, List.getElem?_cons_succ] at hc1
  have hf1 := hb.frozen 1
  have HB := Lib.hid hb
  have HR := Lib.hid hr
  have HL := Lib.hid hL
  have HL0 := Lib.hid hL0
  have HL2 := Lib.hid hL2
  have hai : (at_ : Int) ≤ 1125899907000000 := by omega
  have hmi : (m : Int) ≤ 256 := by omega
  clear hb hr hL hL2 hL0
  go_enter Tryz.func296, Tryz.ntmps296
  go_wp2_with (first
    | (go_at_call 168; go_must (refine (rErr_any _ _ _ HB.out).mono ?_; rintro e w' ⟨rfl, rfl⟩))
    | (go_at_call 166; go_must (refine (rLeft_ok HB.out hl ha).mono ?_; rintro e w' ⟨rfl, rfl⟩))
    | (go_at_call 205; go_must (refine (within_ok _ _ _ _ _ (by omega) (by omega)).mono ?_; rintro e w' ⟨rfl, rfl⟩)))
  go_loop [20] (CountR n) (fun i => n - (intOf i).toNat)
  case atStart => exact ⟨0, Nat.zero_le _, rfl⟩
  case round =>
    obtain ⟨k, hk, rfl⟩ := hrel
    by_cases hlt : k < n
    · have hb0 : L[k]? = some true := by rw [HL0.out, List.getElem?_append_left (by simp; omega)]; simp [hlt]
      obtain ⟨hbit, hbl⟩ := drop_get bs at_ k true (by rw [← HL.out]; exact hb0)
      have hn := fun (W : World) (H : Blk W g 222 [.slice A bs.length c, .int .i64 at_, .int .i64 0]) (HR : RdT W 5 A (bvs bs)) => rNext_any (w := W) k _ H HR hl hbl
      rw [← hbit] at hn
      have HNX := Lib.hid hn
      clear hb0 hbit hn hbl
      go_wp2_with (first
        | (go_at_call 205; go_must (refine (within_ok _ _ _ _ _ (by omega) (by have := HL2.out; omega)).mono ?_; rintro e w' ⟨rfl, rfl⟩))
        | (go_at_call 169; go_must (refine (HNX.out w.drew HB.out HR.out).mono ?_; rintro e w' ⟨rfl, rfl⟩)))
      go_round
      case rel => exact ⟨k + 1, by omega, by go_num⟩
      case measure => simp [intOf]; omega
    · obtain rfl : k = n := by omega
      have hb0 : L[k]? = some false := by rw [HL0.out, List.getElem?_append_right (by simp)]; simp
      obtain ⟨hbit, hbl⟩ := drop_get bs at_ k false (by rw [← HL.out]; exact hb0)
      have hn := fun (W : World) (H : Blk W g 222 [.slice A bs.length c, .int .i64 at_, .int .i64 0]) (HR : RdT W 5 A (bvs bs)) => rNext_any (w := W) k _ H HR hl hbl
      rw [← hbit] at hn
      have HNX := Lib.hid hn
      clear hb0 hbit hn hbl
      go_wp2_with (first
        | (go_at_call 205; go_must (refine (within_ok _ _ _ _ _ (by omega) (by have := HL2.out; omega)).mono ?_; rintro e w' ⟨rfl, rfl⟩))
        | (go_at_call 169; go_must (refine (HNX.out w.drew HB.out HR.out).mono ?_; rintro e w' ⟨rfl, rfl⟩)))
      go_ret
      have ho : OnlyT g [222] w (w.setCell ⟨g, 1, none⟩ (.int .i64 ((at_ : Int) + ((k : Int) + 1)))) := OnlyT.set_ HB.out (Nat.le_refl _) _ (by simp)
      refine ⟨rfl, ⟨bs, at_ + (k + 1), A, c, ?_, HR.out.only ho.drew (by decide), by have := HL2.out; omega, hl, hlc, ?_⟩, ho.drew⟩
      · rw [show ((at_ + (k + 1) : Nat) : Int) = (at_ : Int) + ((k : Int) + 1) from rfl]
        exact HB.out.set_ 1 _
      · rw [← List.drop_drop, ← HL.out, HL0.out, List.drop_append]; simp

set_option maxHeartbeats 1000000 in
set_option maxRecDepth 100000 in
theorem rOnes_trunc (m n : Nat) (h : RdrIs w g L 0) (hm : m ≤ 256) (hn : n < m) (hL0 : L = List.replicate n true) :
    Calls Tryz.prog 296 #[.pointer (some ⟨g, 0, none⟩), .int .i64 m] w fun e' w' => e' = .returned (.int .i64 0) ∧ RdrIs w' g L 11 ∧ OnlyT g [222] w w' := by
  obtain ⟨bs, at_, A, c, hb, hr, ha, hl, hlc, hL⟩ := h
  have hL2 : n = 8 * bs.length - at_ := by rw [← drop_len, ← hL, hL0]; simp
  have HB := Lib.hid hb
  have HR := Lib.hid hr
  have HL := Lib.hid hL
  have HL0 := Lib.hid hL0
  have HL2 := Lib.hid hL2
  have hmi : (m : Int) ≤ 256 := by omega
  clear hb hr hL hL2 hL0
  go_enter Tryz.func296, Tryz.ntmps296
  go_wp2_with (first
    | (go_at_call 168; go_must (refine (rErr_any _ _ _ HB.out).mono ?_; rintro e w' ⟨rfl, rfl⟩))
    | (go_at_call 166; go_must (refine (rLeft_ok HB.out hl ha).mono ?_; rintro e w' ⟨rfl, rfl⟩))
    | (go_at_call 205; go_must (refine (within_ok _ _ _ _ _ (by omega) (by omega)).mono ?_; rintro e w' ⟨rfl, rfl⟩)))
  go_loop [20] (CountR n) (fun i => n - (intOf i).toNat)
  case atStart => exact ⟨0, Nat.zero_le _, rfl⟩
  case round =>
    obtain ⟨k, hk, rfl⟩ := hrel
    by_cases hlt : k < n
    · have hb0 : L[k]? = some true := by rw [HL0.out]; simp [hlt]
      obtain ⟨hbit, hbl⟩ := drop_get bs at_ k true (by rw [← HL.out]; exact hb0)
      have hn := fun (W : World) (H : Blk W g 222 [.slice A bs.length c, .int .i64 at_, .int .i64 0]) (HR : RdT W 5 A (bvs bs)) => rNext_any (w := W) k _ H HR hl hbl
      rw [← hbit] at hn
      have HNX := Lib.hid hn
      clear hb0 hbit hn hbl
      go_wp2_with (first
        | (go_at_call 205; go_must (refine (within_ok _ _ _ _ _ (by omega) (by have := HL2.out; omega)).mono ?_; rintro e w' ⟨rfl, rfl⟩))
        | (go_at_call 169; go_must (refine (HNX.out w.drew HB.out HR.out).mono ?_; rintro e w' ⟨rfl, rfl⟩)))
      go_round
      case rel => exact ⟨k + 1, by omega, by go_num⟩
      case measure => simp [intOf]; omega
    · obtain rfl : k = n := by omega
      go_wp2_with (go_at_call 205; go_must (refine (within_bad (w := w.drew) _ _ _ _ _ HB.out (by have := HL2.out; omega)).mono ?_; rintro e w' ⟨rfl, rfl⟩))
      go_ret
      have ho : OnlyT g [222] w (w.setCell ⟨g, 2, none⟩ (.int .i64 11)) := OnlyT.set_ HB.out (Nat.le_refl _) _ (by simp)
      exact ⟨rfl, ⟨bs, at_, A, c, HB.out.set_ 2 _, HR.out.only ho.drew (by decide), ha, hl, hlc, HL.out⟩, ho.drew⟩
end
end Go.Proofs.YtflcmmeoppdhdaaGreat
namespace Go.Proofs.YtflcmmeoppdhdaaGreat
open Go.RowKit

section
variable {w : World} {g : Nat} {L : List Bool}
theorem rErr_is (e : Nat) (h : RdrIs w g L e) : Calls Tryz.prog 168 #[.pointer (some ⟨g, 0, none⟩)] w fun e' w' => e' = .returned (.int .i64 e) ∧ w = w' := by
  obtain ⟨bs, at_, A, c, hb, _⟩ := h
  exact rErr_any _ _ _ hb
theorem rLeft_is (h : RdrIs w g L 0) : Calls Tryz.prog 166 #[.pointer (some ⟨g, 0, none⟩)] w fun e' w' => e' = .returned (.int .i64 (L.length : Nat)) ∧ w.drew = w' := by
  obtain ⟨bs, at_, A, c, hb, hr, ha, hl, _, rfl⟩ := h
  rw [drop_len]
  exact rLeft_ok hb hl ha
theorem rNext_is (k : Nat) (b : Bool) (h : RdrIs w g L 0) (hb : L[k]? = some b) :
    Calls Tryz.prog 169 #[.pointer (some ⟨g, 0, none⟩), .int .i64 k] w fun e' w' => e' = .returned (.int .u8 (b.toNat : Nat)) ∧ w = w' := by
  obtain ⟨bs, at_, A, c, hblk, hr, ha, hl, _, rfl⟩ := h
  obtain ⟨rfl, hlt⟩ := drop_get bs at_ k b hb
  exact rNext_any k _ hblk hr hl hlt

set_option maxHeartbeats 1000000 in
theorem rDone_err (e : Nat) (h : RdrIs w g L e) (he : e ≠ 0) : Calls Tryz.prog 105 #[.pointer (some ⟨g, 0, none⟩)] w fun e' w' => e' = .returned (.int .i64 e) ∧ w = w' := by
  have H := Lib.hid (rErr_is e h)
  have hne : (((e : Nat) : Int) != 0) = true := by rw [bne_iff_ne]; omega
  clear h he
  go_enter Tryz.func105, Tryz.ntmps105
  go_wp2_with (go_at_call 168; go_must (refine H.out.mono ?_; rintro e w' ⟨rfl, rfl⟩))
  go_ret
  exact ⟨rfl, rfl⟩
set_option maxHeartbeats 1000000 in
theorem rDone_more (h : RdrIs w g L 0) (hl : 8 ≤ L.length) (hl2 : L.length ≤ 9000000000000000) : Calls Tryz.prog 105 #[.pointer (some ⟨g, 0, none⟩)] w fun e' w' => e' = .returned (.int .i64 22) ∧ w.drew = w' := by
  have H := Lib.hid (rErr_is 0 h)
  have H2 := Lib.hid (rLeft_is h)
  have hli : (8 : Int) ≤ (L.length : Int) := by omega
  clear h
  go_enter Tryz.func105, Tryz.ntmps105
  go_wp2_with (first
    | (go_at_call 168; go_must (refine H.out.mono ?_; rintro e w' ⟨rfl, rfl⟩))
    | (go_at_call 166; go_must (refine H2.out.mono ?_; rintro e w' ⟨rfl, rfl⟩)))
  go_ret
  exact ⟨rfl, rfl⟩
set_option maxHeartbeats 1000000 in
theorem rDone_ok (n : Nat) (h : RdrIs w g L 0) (hn : n < 8) (hL : L = List.replicate n false) : Calls Tryz.prog 105 #[.pointer (some ⟨g, 0, none⟩)] w fun e' w' => e' = .returned (.int .i64 0) ∧ w.drew = w' := by
  have H := Lib.hid (rErr_is 0 h)
  have h2 := rLeft_is h
  rw [show L.length = n by rw [hL]; simp] at h2
  have H2 := Lib.hid h2
  have H3 := Lib.hid h
  have HL := Lib.hid hL
  have hni : (n : Int) < 8 := by omega
  clear h h2 hL
  go_enter Tryz.func105, Tryz.ntmps105
  go_wp2_with (first
    | (go_at_call 168; go_must (refine H.out.mono ?_; rintro e w' ⟨rfl, rfl⟩))
    | (go_at_call 166; go_must (refine H2.out.mono ?_; rintro e w' ⟨rfl, rfl⟩)))
  go_loop [16] (CountR n) (fun i => n - (intOf i).toNat)
  case atStart => exact ⟨0, Nat.zero_le _, rfl⟩
  case round =>
    obtain ⟨k, hk, rfl⟩ := hrel
    by_cases hlt : k < n
    · have hb0 : L[k]? = some false := by rw [HL.out]; simp [hlt]
      have HB0 := Lib.hid hb0
      clear hb0
      go_wp2_with (go_at_call 169; go_must (refine (rNext_is (w := w.drew) k false H3.out HB0.out).mono ?_; rintro e w' ⟨rfl, rfl⟩))
      go_round
      case rel => exact ⟨k + 1, by omega, by go_num⟩
      case measure => simp [intOf]; omega
    · obtain rfl : k = n := by omega
      go_wp2
      go_ret
      exact ⟨rfl, rfl⟩
set_option maxHeartbeats 1000000 in
theorem rDone_pay (n : Nat) (R : List Bool) (h : RdrIs w g L 0) (hn : n + 1 + R.length < 8) (hL : L = List.replicate n false ++ true :: R) : Calls Tryz.prog 105 #[.pointer (some ⟨g, 0, none⟩)] w fun e' w' => e' = .returned (.int .i64 16) ∧ w.drew = w' := by
  have H := Lib.hid (rErr_is 0 h)
  have h2 := rLeft_is h
  obtain ⟨t, ht⟩ : ∃ t, t = n + 1 + R.length := ⟨_, rfl⟩
  rw [show L.length = t by rw [hL, ht]; simp; omega] at h2
  have H2 := Lib.hid h2
  have H3 := Lib.hid h
  have HL := Lib.hid hL
  have hni : (t : Int) < 8 := by omega
  have hnt : n < t := by omega
  clear h h2 hL ht hn
  go_enter Tryz.func105, Tryz.ntmps105
  go_wp2_with (first
    | (go_at_call 168; go_must (refine H.out.mono ?_; rintro e w' ⟨rfl, rfl⟩))
    | (go_at_call 166; go_must (refine H2.out.mono ?_; rintro e w' ⟨rfl, rfl⟩)))
  go_loop [16] (CountR n) (fun i => n - (intOf i).toNat)
  case atStart => exact ⟨0, Nat.zero_le _, rfl⟩
  case round =>
    obtain ⟨k, hk, rfl⟩ := hrel
    by_cases hlt : k < n
    · have hb0 : L[k]? = some false := by rw [HL.out, List.getElem?_append_left (by simp; omega)]; simp [hlt]
      have HB0 := Lib.hid hb0
      clear hb0
      go_wp2_with (go_at_call 169; go_must (refine (rNext_is (w := w.drew) k false H3.out HB0.out).mono ?_; rintro e w' ⟨rfl, rfl⟩))
      go_round
      case rel => exact ⟨k + 1, by omega, by go_num⟩
      case measure => simp [intOf]; omega
    · obtain rfl : k = n := by omega
      have hb0 : L[k]? = some true := by rw [HL.out, List.getElem?_append_right (by simp)]; simp
      have HB0 := Lib.hid hb0
      clear hb0
      go_wp2_with (go_at_call 169; go_must (refine (rNext_is (w := w.drew) k true H3.out HB0.out).mono ?_; rintro e w' ⟨rfl, rfl⟩))
      go_ret
      exact ⟨rfl, rfl⟩
end
end Go.Proofs.YtflcmmeoppdhdaaGreat
namespace Go.Proofs.YtflcmmeoppdhdaaGreat
open Go.RowKit Go.Sort

/-- A word's place among those that are left. -/
theorem riceB_next {D A N : Nat} {ws : List Nat} {k : Nat} {R : List Bool} (h : RiceB D A N (ws.drop k) R) (hk : k < ws.length) : ∃ (K : Nat) (R2 : List Bool), IsK A N K ∧ R = riceW D K ws[k] ++ R2 ∧ RiceB D (behindA A N ws[k]) (behindN N) (ws.drop (k + 1)) R2 := by
  rw [List.drop_eq_getElem_cons hk] at h
  cases h with
  | word _ _ K _ _ R2 hK hr => exact ⟨K, R2, hK, rfl, hr⟩
theorem D_le {W : Nat} (hW : IsW W) : 8 ≤ 8 * W ∧ 8 * W ≤ 64 := by have := hW.pos; omega
end Go.Proofs.YtflcmmeoppdhdaaGreat
