/- Contracts of bit.Writer. -/
import Derived.Test.YtclhgjjehnmncaaDoorProg
import Derived.Test.YtclhgjjehnmncaaDoorMem
import Derived.Test.YtclhgjjehnmncaaDoorBitMath
import Derived.Deep.DeepMust
import Derived.BigRegion
namespace Go.Proofs.YtclhgjjehnmncaaDoor
open Go.RowKit

theorem info_u8' : (Tryd.prog.info? 5).map (fun i => (i.zero, i.size, i.bytes)) = some (some (.int .u8 0), 1, 1) := by kernel_rfl

/-- At block g lies a Writer that has the bits l. -/
def WrAt (w : World) (B g : Nat) (l : List Bool) : Prop :=
  ∃ v bs, Blk w g 38 [v, .int .i64 l.length] ∧ B ≤ g ∧ w.ownsRow B 5 1 v bs.length (bvs bs) ∧ Packs bs l

theorem bvs_set (l : List UInt8) (k : Nat) (c : UInt8) : (bvs l).set k (.int .u8 c.toNat) = bvs (l.set k c) := by simp [bvs, List.map_set]
theorem u8n {n : Nat} (h : n < 256) : (UInt8.ofNat n).toNat = n := by simp [UInt8.toNat_ofNat']; omega
theorem or_bit (x : UInt8) (b : Bool) (r : Nat) (hr : r < 8) :
    ∃ c : UInt8, bits .or .u8 (x.toNat : Int) ((b.toNat : Int) * 2 ^ r % 256) = (c.toNat : Int) ∧ c.toNat = x.toNat ||| b.toNat <<< r := by
  have hx := x.toNat_lt
  have hb : b.toNat ≤ 1 := by cases b <;> simp
  have hp : 2 ^ r ≤ 128 := by have := Nat.pow_le_pow_right (n := 2) (by decide) (show r ≤ 7 by omega); simpa using this
  have hs : b.toNat <<< r ≤ 128 := by
    rw [Nat.shiftLeft_eq]
    have := Nat.mul_le_mul hb hp
    omega
  have hlt : x.toNat ||| b.toNat <<< r < 2 ^ 8 := Nat.or_lt_two_pow (by omega) (by omega)
  have e : (b.toNat : Int) * 2 ^ r % 256 = ((b.toNat <<< r : Nat) : Int) := by
    rw [Nat.shiftLeft_eq] at hs ⊢
    have : ((b.toNat * 2 ^ r : Nat) : Int) = (b.toNat : Int) * 2 ^ r := by simp
    rw [← this]
    omega
  refine ⟨UInt8.ofNat (x.toNat ||| b.toNat <<< r), ?_, ?_⟩
  · rw [e, u8_or _ _ (by omega) (by omega) (by omega) (by omega), Int.toNat_natCast, Int.toNat_natCast]
    rw [u8n hlt]
  · exact u8n hlt

/-- What the end of lay leaves. -/
theorem lay_end {w : World} {B g r c n : Nat} {bs bs' : List UInt8} {l : List Bool} {b : Bool} {x : UInt8} {u : Value}
    (hblk : Blk w g 38 [.slice (some ⟨r, 0, none⟩) bs'.length c, u]) (hBg : B ≤ g) (hown : w.ownsRow B 5 1 (.slice (some ⟨r, 0, none⟩) bs'.length c) bs'.length (bvs bs'))
    (hn : n = l.length) (hp : Packs bs l) (hbs : bs' = if l.length % 8 = 0 then bs ++ [0] else bs) (hx : bs'[n / 8]? = some x) :
    WrAt ((w.setCell ⟨r, n / 8, none⟩ (.int .u8 (bits .or .u8 (x.toNat : Int) ((b.toNat : Int) * 2 ^ (n % 8) % 256)))).setCell ⟨g, 1, none⟩ (.int .i64 ((n : Int) + 1))).drew B g (l ++ [b]) ∧
    OnlyT B [38, 5] w ((w.setCell ⟨r, n / 8, none⟩ (.int .u8 (bits .or .u8 (x.toNat : Int) ((b.toNat : Int) * 2 ^ (n % 8) % 256)))).setCell ⟨g, 1, none⟩ (.int .i64 ((n : Int) + 1))).drew := by
  obtain ⟨c8, he, hc8⟩ := or_bit x b (n % 8) (by omega)
  rw [he]
  obtain ⟨hst, hgr⟩ := hown.stored (n / 8) (.int .u8 c8.toNat)
  rw [bvs_set] at hst
  have ho1 : OnlyT B [5] w (w.setCell ⟨r, n / 8, none⟩ (.int .u8 c8.toNat)) := OnlyT.grown (e := 5) hgr (fun k hk => by injection hk with hk; subst hk; exact own_type hown r rfl) (by simp)
  have hblk1 := hblk.only ho1 (by decide)
  have ho2 : OnlyT B [38] (w.setCell ⟨r, n / 8, none⟩ (.int .u8 c8.toNat)) ((w.setCell ⟨r, n / 8, none⟩ (.int .u8 c8.toNat)).setCell ⟨g, 1, none⟩ (.int .i64 ((n : Int) + 1))) := OnlyT.set_ hblk1 hBg _ (by simp)
  have hst2 := own_only hst ho2 (by decide)
  have hblk2 := hblk1.set_ 1 (.int .i64 ((n : Int) + 1))
  have hsz : (bs'.set (n / 8) c8).length = bs'.length := by simp
  refine ⟨⟨.slice (some ⟨r, 0, none⟩) bs'.length c, bs'.set (n / 8) c8, ?_, hBg, by rw [hsz]; exact hst2, ?_⟩, ((ho1.more (ts' := [38, 5]) (by simp)).trans (ho2.more (ts' := [38, 5]) (by simp))).drew⟩
  · have e : ((l ++ [b]).length : Int) = (n : Int) + 1 := by rw [hn]; simp
    rw [e]
    exact hblk2
  · subst hn
    exact hp.snoc b bs' hbs c8 (by rw [hc8, List.getD_eq_getElem?_getD, hx]; rfl)

set_option maxHeartbeats 1000000 in
set_option maxRecDepth 100000 in
theorem lay_any (g B : Nat) (l : List Bool) (b : Bool) (w : World) (h : WrAt w B g l) (hl : l.length < 1000000000) :
    Calls Tryd.prog 27 #[.pointer (some ⟨g, 0, none⟩), .int .u8 b.toNat] w fun e w' => e = .returned (.tuple #[]) ∧ WrAt w' B g (l ++ [b]) ∧ OnlyT B [38, 5] w w' := by
  obtain ⟨i0, hi, hz0, hz1, hz2⟩ := info_parts info_u8'
  obtain ⟨v, bs, hblk, hBg, hown, hp⟩ := h
  obtain ⟨n, hn⟩ : ∃ n, n = l.length := ⟨_, rfl⟩
  rw [← hn] at hblk hl
  have hlen : bs.length = (n + 7) / 8 := by rw [hn]; exact hp.1
  have HN := Lib.hid hn
  have HP := Lib.hid hp
  clear hn hp
  by_cases h8 : n % 8 = 0
  · have hn0 : ((n : Int) % 8 == 0) = true := by rw [beq_iff_eq]; omega
    have hlb : bs.length ≤ 200000000 := by omega
    have hc0 := hblk.cell 0
    have hc1 := hblk.cell 1
    simp only [List.getElem?_cons_zero, List.getElem?_cons_succ] at hc0 hc1
    have hf0 := hblk.frozen 0
    have hf1 := hblk.frozen 1
    have hgs := hblk.lt
    have H8 := Lib.hid h8
    have HLEN := Lib.hid hlen
    have HBLK := Lib.hid hblk
    have HOWN := Lib.hid hown
    clear hlen hblk hown h8
    go_enter Tryd.func27, Tryd.ntmps27
    go_wp2_with (at_builtin; go_must (refine wpList_app rfl (.tmp 14) (.tmp 15) 24 rfl B 5 i0 (.int .u8 0) 1 1 Tryd.underlying24 hi hz0 hz1 hz2 rfl (by decide) _ _ _ rfl (HOWN.out.alloc _) _ _ 1 1 _ rfl (Rd.new _ _ _) rfl (by intro u hu; simp at hu; subst hu; rfl) (by simp only [maxLen]; omega) (by omega) (by simp; omega) ?_; intro v1 w1 hown1 hg1; obtain ⟨A1, c1, rfl, hn1, -, hA1⟩ := own_form hown1; have ho1 : OnlyT B [5] w w1 := (OnlyT.of_below ((Below.refl _ _).alloc (Nat.le_refl _) _)).trans (OnlyT.grown hg1 (own_type (HOWN.out.alloc _)) (by simp)); have hblk1 := HBLK.out.only ho1 (by decide); have hd0 := hblk1.cell 0; have hd1 := hblk1.cell 1; simp only [List.getElem?_cons_zero, List.getElem?_cons_succ] at hd0 hd1; have he0 := hblk1.frozen 0; have he1 := hblk1.frozen 1))
    obtain ⟨r, rfl, hBr, hr⟩ : ∃ r, A1 = some ⟨r, 0, none⟩ ∧ B ≤ r ∧ r < w1.heap.size := by
      rcases hA1 with h0 | h0
      · omega
      · exact h0
    clear hA1
    have hrg : r ≠ g := by
      intro e
      subst e
      exact (own_type hown1 r rfl).2.ne (show 5 ≠ 38 by decide) hblk1.ofType
    have hgr : g ≠ r := Ne.symm hrg
    have ho2 : OnlyT B [38] w1 (w1.setCell ⟨g, 0, none⟩ (.slice (some ⟨r, 0, none⟩) (bs.length + 1) c1)) := OnlyT.set_ hblk1 hBg _ (by simp)
    have hblk2 := hblk1.set_ 0 (.slice (some ⟨r, 0, none⟩) (bs.length + 1) c1)
    have hown2 := own_only hown1 ho2 (by decide)
    have ho12 : OnlyT B [38, 5] w (w1.setCell ⟨g, 0, none⟩ (.slice (some ⟨r, 0, none⟩) (bs.length + 1) c1)) := (ho1.more (by simp)).trans (ho2.more (by simp))
    clear hown1 hblk1 ho1 ho2 hd0 hd1 he0 he1 hc0 hc1 hf0 hf1
    generalize w1.setCell ⟨g, 0, none⟩ (.slice (some ⟨r, 0, none⟩) (bs.length + 1) c1) = w2 at *
    have hc0 := hblk2.cell 0
    have hc1 := hblk2.cell 1
    simp only [List.set_cons_zero, List.getElem?_cons_zero, List.getElem?_cons_succ] at hc0 hc1
    have hf0 := hblk2.frozen 0
    have hf1 := hblk2.frozen 1
    have hbn : bvs bs ++ [Value.int .u8 0] = bvs (bs ++ [0]) := by simp [bvs]
    have hbl : bs.length + 1 = (bs ++ [0]).length := by simp
    have hx : (bs ++ [0])[n / 8]? = some (0 : UInt8) := by rw [List.getElem?_append_right (by have := HLEN.out; have := H8.out; omega)]; have : n / 8 - bs.length = 0 := by { have := HLEN.out; have := H8.out; omega }; rw [this]; rfl
    have hcr : w2.cell? ⟨r, n / 8, none⟩ = some (.int .u8 0) := by
      have := hown2.cellAt (n / 8) (by have := HLEN.out; have := H8.out; omega)
      rw [this, hbn]
      unfold bvs
      rw [List.getElem?_map, hx]
      rfl
    have hfr := hown2.frozenAt (n / 8)
    have hq0 : (0 : Int) ≤ (n : Int) / 8 := by omega
    have hq1 : (n : Int) / 8 < ((bs.length + 1 : Nat) : Int) := by have := HLEN.out; have := H8.out; omega
    have HX := Lib.hid hx
    have HBLK2 := Lib.hid hblk2
    have HOWN2 := Lib.hid hown2
    have HBL := Lib.hid hbl
    have HBN := Lib.hid hbn
    have HO12 := Lib.hid ho12
    clear hx hblk2 hown2 hbl hbn ho12
    go_region
    go_wp2
    go_end0
    have hE := lay_end (b := b) (bs' := bs ++ [0]) (by rw [← HBL.out]; exact HBLK2.out) hBg (by rw [← HBL.out, ← HBN.out]; exact HOWN2.out) HN.out HP.out (by rw [if_pos (by rw [← HN.out]; exact H8.out)]) HX.out
    rw [show (((0 : UInt8).toNat : Nat) : Int) = 0 from rfl] at hE
    exact ⟨rfl, hE.1, HO12.out.trans hE.2⟩
  · obtain ⟨A, c, rfl, hnc, _, hA⟩ := own_form hown
    obtain ⟨r, rfl, hBr, hr⟩ : ∃ r, A = some ⟨r, 0, none⟩ ∧ B ≤ r ∧ r < w.heap.size := by
      rcases hA with h0 | h0
      · omega
      · exact h0
    clear hA
    have hc0 := hblk.cell 0
    have hc1 := hblk.cell 1
    simp only [List.getElem?_cons_zero, List.getElem?_cons_succ] at hc0 hc1
    have hf0 := hblk.frozen 0
    have hf1 := hblk.frozen 1
    obtain ⟨x, hx⟩ : ∃ x : UInt8, bs[n / 8]? = some x := ⟨bs[n / 8]'(by omega), by simp⟩
    have hcr : w.cell? ⟨r, n / 8, none⟩ = some (.int .u8 x.toNat) := by
      have := hown.cellAt (n / 8) (by omega)
      rw [this]
      simp [bvs, hx]
    have hfr := hown.frozenAt (n / 8)
    have hrg : r ≠ g := by
      intro e
      subst e
      exact (own_type hown r rfl).2.ne (show 5 ≠ 38 by decide) hblk.ofType
    have hgr : g ≠ r := Ne.symm hrg
    have hn8 : ((n : Int) % 8 == 0) = false := by rw [beq_eq_false_iff_ne]; omega
    have hq0 : (0 : Int) ≤ (n : Int) / 8 := by omega
    have hq1 : (n : Int) / 8 < (bs.length : Int) := by omega
    have HX := Lib.hid hx
    have HLEN := Lib.hid hlen
    have HBLK := Lib.hid hblk
    have HOWN := Lib.hid hown
    have H8 := Lib.hid h8
    clear hx hlen hblk hown h8
    go_enter Tryd.func27, Tryd.ntmps27
    go_wp2
    go_region
    go_wp2
    go_end0
    have hE := lay_end (b := b) HBLK.out hBg HOWN.out HN.out HP.out (by rw [if_neg (by rw [← HN.out]; exact H8.out)]) HX.out
    exact ⟨rfl, hE.1, hE.2⟩

theorem bit_arg (V k : Nat) (hV : V < 18446744073709551616) : bits .and .u64 ((V : Int) / 2 ^ k) 1 % 256 = ((V.testBit k).toNat : Int) := by
  have hd : V / 2 ^ k ≤ V := Nat.div_le_self _ _
  have ht := Nat.testBit_eq_decide_div_mod_eq (x := V) (i := k)
  have e : (V : Int) / 2 ^ k = ((V / 2 ^ k : Nat) : Int) := by simp
  rw [e, ht]
  generalize V / 2 ^ k = q at *
  rw [and1_u64 _ (by omega) (by omega)]
  rcases Nat.mod_two_eq_zero_or_one q with h | h
  · rw [h]; simp; omega
  · rw [h]; simp; omega

/-- What holds at the head of a round of Put. -/
def PutRelW (w : World) (B g : Nat) (l : List Bool) (V n : Nat) (i : Value) (wr : World) : Prop :=
  ∃ k : Nat, k ≤ n ∧ i = .int .i64 k ∧ WrAt wr B g (l ++ bitsOf V k) ∧ OnlyT B [38, 5] w wr

set_option maxHeartbeats 1000000 in
set_option maxRecDepth 100000 in
theorem wPut_any (g B : Nat) (l : List Bool) (V n : Nat) (w : World) (h : WrAt w B g l) (hl : l.length < 900000000) (hV : V < 18446744073709551616) (hn : n ≤ 64) :
    Calls Tryd.prog 15 #[.pointer (some ⟨g, 0, none⟩), .int .u64 V, .int .i64 n] w fun e w' => e = .returned (.int .i64 0) ∧ WrAt w' B g (l ++ bitsOf V n) ∧ OnlyT B [38, 5] w w' := by
  have H := Lib.hid h
  clear h
  have hni : (n : Int) ≤ 64 := by omega
  have hn0 : ¬ (n : Int) < 0 := by omega
  have hn1 : ¬ (64 : Int) < n := by omega
  go_enter Tryd.func15, Tryd.ntmps15
  go_wp2
  go_loopw [17] (PutRelW w B g l V n) (fun i _ => n - (intOf i).toNat)
  case atStart => exact ⟨0, Nat.zero_le _, rfl, by rw [show bitsOf V 0 = [] from rfl, List.append_nil]; exact H.out, OnlyT.refl _ _ _⟩
  case round =>
    obtain ⟨k, hk, rfl, hat, ho⟩ := hrel
    have HAT := Lib.hid hat
    have HO := Lib.hid ho
    clear hat ho
    by_cases hlt : k < n
    · have hba := bit_arg V k hV
      have HBA := Lib.hid hba
      have hll : (l ++ bitsOf V k).length < 1000000000 := by rw [List.length_append, bitsOf_length]; omega
      have HLL := Lib.hid hll
      clear hba hll hV
      go_wp2_with (go_at_call 27; go_must (rw [HBA.out]; refine (lay_any g B _ (V.testBit k) _ HAT.out HLL.out).mono ?_; rintro e w1 ⟨rfl, hat1, ho1⟩; rw [List.append_assoc, ← bitsOf_succ] at hat1; have HAT1 := Lib.hid hat1; have HO1 := Lib.hid (HO.out.trans ho1); clear hat1 ho1))
      go_roundw
      case rel => exact ⟨k + 1, by omega, by go_num, HAT1.out, HO1.out⟩
      case measure => simp [intOf]; omega
    · obtain rfl : k = n := by omega
      go_wp2
      go_ret
      exact ⟨rfl, HAT.out, HO.out⟩

set_option maxHeartbeats 1000000 in
theorem wPut_bad (p : Option Addr) (V n : Int) (w : World) (hp : p ≠ none) (hn : n < 0 ∨ 64 < n) :
    Calls Tryd.prog 15 #[.pointer p, .int .u64 V, .int .i64 n] w fun e w' => e = .returned (.int .i64 2) ∧ w = w' := by
  obtain ⟨a, rfl⟩ := Option.ne_none_iff_exists'.1 hp
  rcases hn with hn | hn
  · go_enter Tryd.func15, Tryd.ntmps15
    go_wp2
    go_ret
    exact ⟨rfl, rfl⟩
  · have hn0 : ¬ n < 0 := by omega
    go_enter Tryd.func15, Tryd.ntmps15
    go_wp2
    go_ret
    exact ⟨rfl, rfl⟩
set_option maxHeartbeats 1000000 in
theorem wPut_nil (V n : Int) (w : World) : Calls Tryd.prog 15 #[.pointer none, .int .u64 V, .int .i64 n] w fun e w' => e = .returned (.int .i64 1) ∧ w = w' := by
  go_enter Tryd.func15, Tryd.ntmps15
  go_wp2
  go_ret
  exact ⟨rfl, rfl⟩
set_option maxHeartbeats 1000000 in
theorem wBytes_nil (w : World) : Calls Tryd.prog 17 #[.pointer none] w fun e w' => e = .returned (.slice none 0 0) ∧ w = w' := by
  go_enter Tryd.func17, Tryd.ntmps17
  go_wp2
  go_ret
  exact ⟨rfl, rfl⟩
/-- What holds at the head of a round of Ones. -/
def OnesRelW (w : World) (B g : Nat) (l : List Bool) (n : Nat) (i : Value) (wr : World) : Prop :=
  ∃ k : Nat, k ≤ n ∧ i = .int .i64 k ∧ WrAt wr B g (l ++ List.replicate k true) ∧ OnlyT B [38, 5] w wr

end Go.Proofs.YtclhgjjehnmncaaDoor
