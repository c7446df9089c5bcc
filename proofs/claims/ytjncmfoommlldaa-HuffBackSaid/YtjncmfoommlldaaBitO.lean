/- Layer 1: the Writer's contracts once more, wherever its row lies (frame: its own box, and bytes at or above B). Written by gen_bito.py out of BitD's text. -/
import Derived.Test.YtjncmfoommlldaaBitD
namespace Go.Proofs.Ytjncmfoommlldaa
open Go.RowKit

/-- At block g lies a Writer that has the bits l, in a row of its own at or above B. -/
def WrO (w : World) (B g : Nat) (l : List Bool) : Prop :=
  ∃ v bs, Blk w g 37 [v, .int .i64 l.length] ∧ B ≤ w.heap.size ∧ w.ownsRow B 5 1 v bs.length (bvs bs) ∧ Packs bs l
/-- Only the box g, and bytes at or above B, are turned. -/
structure OnlyO (B g : Nat) (w w' : World) : Prop where
  os : w'.os = w.os
  tape : w'.tape = w.tape
  output : w'.output = w.output
  size : w.heap.size ≤ w'.heap.size
  block : ∀ k, k < w.heap.size → k ≠ g → (k < B ∨ ¬ OfType w k 5) → w'.heap[k]? = w.heap[k]?
section
variable {B g : Nat} {w w' w'' : World}
theorem OnlyO.refl (B g : Nat) (w : World) : OnlyO B g w w := ⟨rfl, rfl, rfl, Nat.le_refl _, fun _ _ _ _ => rfl⟩
theorem OnlyO.trans (h : OnlyO B g w w') (h' : OnlyO B g w' w'') : OnlyO B g w w'' :=
  ⟨h'.os.trans h.os, h'.tape.trans h.tape, h'.output.trans h.output, Nat.le_trans h.size h'.size, fun k hk hg hn => by
    have e := h.block k hk hg hn
    refine (h'.block k (Nat.lt_of_lt_of_le hk h.size) hg ?_).trans e
    rcases hn with hn | hn
    · exact .inl hn
    · refine .inr fun ho => hn ?_
      obtain ⟨cs, fr, ho⟩ := ho
      exact ⟨cs, fr, e ▸ ho⟩⟩
theorem OnlyO.drew (h : OnlyO B g w w') : OnlyO B g w w'.drew := ⟨h.os, h.tape, h.output, h.size, h.block⟩
theorem OnlyO.of_only (h : OnlyT B [5] w w') : OnlyO B g w w' := ⟨h.os, h.tape, h.output, h.size, fun k hk _ hn => h.block k hk (hn.imp id fun q t ht => by rw [List.mem_singleton.1 ht]; exact q)⟩
theorem OnlyO.of_below (h : Below w.heap.size w w') : OnlyO B g w w' := ⟨h.os, h.tape, h.output, h.size, fun k hk _ _ => h.block k hk⟩
theorem OnlyO.set_g (i : Nat) (u : Value) : OnlyO B g w (w.setCell ⟨g, i, none⟩ u) := ⟨rfl, rfl, rfl, by simp [World.setCell], fun k _ hg _ => Below.heap_setCell w _ u k (by simpa using hg)⟩
theorem OnlyO.set_new (h : OnlyO B g w w') {p : Addr} (hp : w.heap.size ≤ p.block) (u : Value) : OnlyO B g w (w'.setCell p u) :=
  ⟨h.os, h.tape, h.output, by simpa [World.setCell] using h.size, fun k hk hg hn => (Below.heap_setCell w' p u k (by omega)).trans (h.block k hk hg hn)⟩
/-- What lay below B, but for the box, stays. -/
theorem OnlyO.keeps (h : OnlyO B g w w') {k : Nat} (hk : k < w.heap.size) (hB : k < B) (hg : k ≠ g) : w'.heap[k]? = w.heap[k]? := h.block k hk hg (.inl hB)
theorem OnlyO.blk {r : Nat} {t : TypeId} {cs : List Value} (h : OnlyO B g w w') (hb : Blk w r t cs) (hB : r < B) (hg : r ≠ g) : Blk w' r t cs := (h.block r hb.lt hg (.inl hB)).trans hb
theorem OnlyO.blkT {r : Nat} {t : TypeId} {cs : List Value} (h : OnlyO B g w w') (hb : Blk w r t cs) (ht : t ≠ 5) (hg : r ≠ g) : Blk w' r t cs := (h.block r hb.lt hg (.inr fun ho => hb.ofType.ne ht ho)).trans hb
theorem WrO.lt {l : List Bool} (h : WrO w B g l) : g < w.heap.size ∧ B ≤ w.heap.size := by
  obtain ⟨v, bs, h1, h0, -⟩ := h
  exact ⟨h1.lt, h0⟩
theorem OnlyO.rd {A : Option Addr} {xs : List Value} (h : OnlyO B g w w') (hr : Rd w B A xs) (hB : B ≤ w.heap.size) (hA : ∀ p, A = some p → p.block ≠ g) : Rd w' B A xs := fun k u hu => by
  obtain ⟨b, off, rfl, hb, hc⟩ := hr k u hu
  exact ⟨b, off, rfl, hb, (World.cell?_of_block (h.block b (by omega) (hA _ rfl) (.inl hb))).trans hc⟩
theorem OnlyO.below (h : OnlyO B g w w') {n : Nat} (hn : n ≤ B) (hg : n ≤ g) (hs : n ≤ w.heap.size) : Below n w w' := ⟨h.os, h.tape, h.output, h.size, fun k hk => h.block k (by omega) (by omega) (.inl (by omega))⟩
theorem WrO.kept {l : List Bool} (h : WrO w B g l) (hb : Below w.heap.size w w') : WrO w' B g l := by
  obtain ⟨v, bs, h1, h0, h2, h3⟩ := h
  exact ⟨v, bs, h1.grow hb, Nat.le_trans h0 hb.size, own_kept h2 hb, h3⟩
/-- Another box of another kind is turned. -/
theorem WrO.set_ {l : List Bool} {r i : Nat} {t : TypeId} {cs : List Value} (h : WrO w B g l) (hb : Blk w r t cs) (hg : r ≠ g) (ht : 5 ≠ t) (u : Value) : WrO (w.setCell ⟨r, i, none⟩ u) B g l := by
  obtain ⟨v, bs, h1, h0, h2, h3⟩ := h
  have ho : OnlyT 0 [t] w (w.setCell ⟨r, i, none⟩ u) := OnlyT.set_ hb (Nat.zero_le _) _ (by simp)
  exact ⟨v, bs, h1.setOther ⟨r, i, none⟩ u (by simpa using Ne.symm hg), by simpa [World.setCell] using h0, own_only h2 ho (by simpa using ht), h3⟩
theorem WrO.new (h : Blk w g 37 [.slice none 0 0, .int .i64 0]) (hB : B ≤ w.heap.size) : WrO w B g [] := ⟨_, [], h, hB, World.ownsRow_nil _ _ _ _, Packs.nil⟩
end
theorem layO_end {w : World} {B g r c n : Nat} {bs bs' : List UInt8} {l : List Bool} {b : Bool} {x : UInt8} {u : Value}
    (hblk : Blk w g 37 [.slice (some ⟨r, 0, none⟩) bs'.length c, u]) (hBg : B ≤ w.heap.size) (hown : w.ownsRow B 5 1 (.slice (some ⟨r, 0, none⟩) bs'.length c) bs'.length (bvs bs'))
    (hn : n = l.length) (hp : Packs bs l) (hbs : bs' = if l.length % 8 = 0 then bs ++ [0] else bs) (hx : bs'[n / 8]? = some x) :
    WrO ((w.setCell ⟨r, n / 8, none⟩ (.int .u8 (bits .or .u8 (x.toNat : Int) ((b.toNat : Int) * 2 ^ (n % 8) % 256)))).setCell ⟨g, 1, none⟩ (.int .i64 ((n : Int) + 1))).drew B g (l ++ [b]) ∧
    OnlyO B g w ((w.setCell ⟨r, n / 8, none⟩ (.int .u8 (bits .or .u8 (x.toNat : Int) ((b.toNat : Int) * 2 ^ (n % 8) % 256)))).setCell ⟨g, 1, none⟩ (.int .i64 ((n : Int) + 1))).drew := by
  obtain ⟨c8, he, hc8⟩ := or_bit x b (n % 8) (by omega)
  rw [he]
  obtain ⟨hst, hgr⟩ := hown.stored (n / 8) (.int .u8 c8.toNat)
  rw [bvs_set] at hst
  have ho1 : OnlyT B [5] w (w.setCell ⟨r, n / 8, none⟩ (.int .u8 c8.toNat)) := OnlyT.grown (e := 5) hgr (fun k hk => by injection hk with hk; subst hk; exact own_type hown r rfl) (by simp)
  have hblk1 := hblk.only ho1 (by decide)
  have ho2 : OnlyT 0 [37] (w.setCell ⟨r, n / 8, none⟩ (.int .u8 c8.toNat)) ((w.setCell ⟨r, n / 8, none⟩ (.int .u8 c8.toNat)).setCell ⟨g, 1, none⟩ (.int .i64 ((n : Int) + 1))) := OnlyT.set_ hblk1 (Nat.zero_le _) _ (by simp)
  have hst2 := own_only hst ho2 (by decide)
  have hblk2 := hblk1.set_ 1 (.int .i64 ((n : Int) + 1))
  have hsz : (bs'.set (n / 8) c8).length = bs'.length := by simp
  refine ⟨⟨.slice (some ⟨r, 0, none⟩) bs'.length c, bs'.set (n / 8) c8, ?_, by simpa [World.setCell] using hBg, by rw [hsz]; exact hst2, ?_⟩, ((OnlyO.of_only ho1).trans (OnlyO.set_g _ _)).drew⟩
  · have e : ((l ++ [b]).length : Int) = (n : Int) + 1 := by rw [hn]; simp
    rw [e]
    exact hblk2
  · subst hn
    exact hp.snoc b bs' hbs c8 (by rw [hc8, List.getD_eq_getElem?_getD, hx]; rfl)

set_option maxHeartbeats 1000000 in
set_option maxRecDepth 100000 in
theorem layO_any (g B : Nat) (l : List Bool) (b : Bool) (w : World) (h : WrO w B g l) (hl : l.length < 1000000000) :
    Calls Try.prog 52 #[.pointer (some ⟨g, 0, none⟩), .int .u8 b.toNat] w fun e w' => e = .returned (.tuple #[]) ∧ WrO w' B g (l ++ [b]) ∧ OnlyO B g w w' := by
  obtain ⟨i0, hi, hz0, hz1, hz2⟩ := info_parts info_u8'
  obtain ⟨v, bs, hblk, hBg, hown, hp⟩ := h
  obtain ⟨n, hn⟩ : ∃ n, n = l.length := ⟨_, rfl⟩
  rw [← hn] at hblk hl
  have hlen : bs.length = (n + 7) / 8 := by rw [hn]; exact hp.1
  have HN := Lib.hid hn
  have HP := Lib.hid hp
  clear hn hp
  by_cases h8 : n % 8 = 0
  · have hn0 : ((n : Int) % 8 == 0) = true := by rw [beq_iff_eq]; omega
    have hlb : bs.length ≤ 200000000 := by omega
    have hc0 := hblk.cell 0
    have hc1 := hblk.cell 1
    simp only [List.getElem?_cons_zero, List.getElem?_cons_succ] at hc0 hc1
    have hf0 := hblk.frozen 0
    have hf1 := hblk.frozen 1
    have hgs := hblk.lt
    have H8 := Lib.hid h8
    have HLEN := Lib.hid hlen
    have HBLK := Lib.hid hblk
    have HOWN := Lib.hid hown
    clear hlen hblk hown h8
    go_enter Try.func52, Try.ntmps52
    go_wp2_with (at_builtin; go_must (refine wpList_app rfl (.tmp 14) (.tmp 15) 22 rfl B 5 i0 (.int .u8 0) 1 1 Try.underlying22 hi hz0 hz1 hz2 rfl (by decide) _ _ _ rfl (HOWN.out.alloc _) _ _ 1 1 _ rfl (Rd.new _ _ _) rfl (by intro u hu; simp at hu; subst hu; rfl) (by simp only [maxLen]; omega) (by omega) (by simp; omega) ?_; intro v1 w1 hown1 hg1; obtain ⟨A1, c1, rfl, hn1, -, hA1⟩ := own_form hown1; have ho1 : OnlyT B [5] w w1 := (OnlyT.of_below ((Below.refl _ _).alloc (Nat.le_refl _) _)).trans (OnlyT.grown hg1 (own_type (HOWN.out.alloc _)) (by simp)); have hblk1 := HBLK.out.only ho1 (by decide); have hd0 := hblk1.cell 0; have hd1 := hblk1.cell 1; simp only [List.getElem?_cons_zero, List.getElem?_cons_succ] at hd0 hd1; have he0 := hblk1.frozen 0; have he1 := hblk1.frozen 1))
    obtain ⟨r, rfl, hBr, hr⟩ : ∃ r, A1 = some ⟨r, 0, none⟩ ∧ B ≤ r ∧ r < w1.heap.size := by
      rcases hA1 with h0 | h0
      · omega
      · exact h0
    clear hA1
    have hrg : r ≠ g := by
      intro e
      subst e
      exact (own_type hown1 r rfl).2.ne (show 5 ≠ 37 by decide) hblk1.ofType
    have hgr : g ≠ r := Ne.symm hrg
    have ho2 : OnlyT 0 [37] w1 (w1.setCell ⟨g, 0, none⟩ (.slice (some ⟨r, 0, none⟩) (bs.length + 1) c1)) := OnlyT.set_ hblk1 (Nat.zero_le _) _ (by simp)
    have hblk2 := hblk1.set_ 0 (.slice (some ⟨r, 0, none⟩) (bs.length + 1) c1)
    have hown2 := own_only hown1 ho2 (by decide)
    have ho12 : OnlyO B g w (w1.setCell ⟨g, 0, none⟩ (.slice (some ⟨r, 0, none⟩) (bs.length + 1) c1)) := (OnlyO.of_only ho1).trans (OnlyO.set_g _ _)
    clear hown1 hblk1 ho1 ho2 hd0 hd1 he0 he1 hc0 hc1 hf0 hf1
    generalize w1.setCell ⟨g, 0, none⟩ (.slice (some ⟨r, 0, none⟩) (bs.length + 1) c1) = w2 at *
    have hc0 := hblk2.cell 0
    have hc1 := hblk2.cell 1
    simp only [List.set_cons_zero, List.getElem?_cons_zero, List.getElem?_cons_succ] at hc0 hc1
    have hf0 := hblk2.frozen 0
    have hf1 := hblk2.frozen 1
    have hbn : bvs bs ++ [Value.int .u8 0] = bvs (bs ++ [0]) := by simp [bvs]
    have hbl : bs.length + 1 = (bs ++ [0]).length := by simp
    have hx : (bs ++ [0])[n / 8]? = some (0 : UInt8) := by rw [List.getElem?_append_right (by have := HLEN.out; have := H8.out; omega)]; have : n / 8 - bs.length = 0 := by { have := HLEN.out; have := H8.out; omega }; rw [this]; rfl
    have hcr : w2.cell? ⟨r, n / 8, none⟩ = some (.int .u8 0) := by
      have := hown2.cellAt (n / 8) (by have := HLEN.out; have := H8.out; omega)
      rw [this, hbn]
      unfold bvs
      rw [List.getElem?_map, hx]
      rfl
    have hfr := hown2.frozenAt (n / 8)
    have hq0 : (0 : Int) ≤ (n : Int) / 8 := by omega
    have hq1 : (n : Int) / 8 < ((bs.length + 1 : Nat) : Int) := by have := HLEN.out; have := H8.out; omega
    have HX := Lib.hid hx
    have HBLK2 := Lib.hid hblk2
    have HOWN2 := Lib.hid hown2
    have HBL := Lib.hid hbl
    have HBN := Lib.hid hbn
    have HO12 := Lib.hid ho12
    clear hx hblk2 hown2 hbl hbn ho12
    go_region
    go_wp2
    go_end0
    have hE := layO_end (b := b) (bs' := bs ++ [0]) (by rw [← HBL.out]; exact HBLK2.out) (Nat.le_trans hBg HO12.out.size) (by rw [← HBL.out, ← HBN.out]; exact HOWN2.out) HN.out HP.out (by rw [if_pos (by rw [← HN.out]; exact H8.out)]) HX.out
    rw [show (((0 : UInt8).toNat : Nat) : Int) = 0 from rfl] at hE
    exact ⟨rfl, hE.1, HO12.out.trans hE.2⟩
  · obtain ⟨A, c, rfl, hnc, _, hA⟩ := own_form hown
    obtain ⟨r, rfl, hBr, hr⟩ : ∃ r, A = some ⟨r, 0, none⟩ ∧ B ≤ r ∧ r < w.heap.size := by
      rcases hA with h0 | h0
      · omega
      · exact h0
    clear hA
    have hc0 := hblk.cell 0
    have hc1 := hblk.cell 1
    simp only [List.getElem?_cons_zero, List.getElem?_cons_succ] at hc0 hc1
    have hf0 := hblk.frozen 0
    have hf1 := hblk.frozen 1
    obtain ⟨x, hx⟩ : ∃ x : UInt8, bs[n / 8]? = some x := ⟨bs[n / 8]'(by omega), by simp⟩
    have hcr : w.cell? ⟨r, n / 8, none⟩ = some (.int .u8 x.toNat) := by
      have := hown.cellAt (n / 8) (by omega)
      rw [this]
      simp [bvs, hx]
    have hfr := hown.frozenAt (n / 8)
    have hrg : r ≠ g := by
      intro e
      subst e
      exact (own_type hown r rfl).2.ne (show 5 ≠ 37 by decide) hblk.ofType
    have hgr : g ≠ r := Ne.symm hrg
    have hn8 : ((n : Int) % 8 == 0) = false := by rw [beq_eq_false_iff_ne]; omega
    have hq0 : (0 : Int) ≤ (n : Int) / 8 := by omega
    have hq1 : (n : Int) / 8 < (bs.length : Int) := by omega
    have HX := Lib.hid hx
    have HLEN := Lib.hid hlen
    have HBLK := Lib.hid hblk
    have HOWN := Lib.hid hown
    have H8 := Lib.hid h8
    clear hx hlen hblk hown h8
    go_enter Try.func52, Try.ntmps52
    go_wp2
    go_region
    go_wp2
    go_end0
    have hE := layO_end (b := b) HBLK.out hBg HOWN.out HN.out HP.out (by rw [if_neg (by rw [← HN.out]; exact H8.out)]) HX.out
    exact ⟨rfl, hE.1, hE.2⟩


/-- What holds at the head of a round of Put. -/
def PutRelO (w : World) (B g : Nat) (l : List Bool) (V n : Nat) (i : Value) (wr : World) : Prop :=
  ∃ k : Nat, k ≤ n ∧ i = .int .i64 k ∧ WrO wr B g (l ++ bitsOf V k) ∧ OnlyO B g w wr

set_option maxHeartbeats 1000000 in
set_option maxRecDepth 100000 in
theorem oPut_any (g B : Nat) (l : List Bool) (V n : Nat) (w : World) (h : WrO w B g l) (hl : l.length < 900000000) (hV : V < 18446744073709551616) (hn : n ≤ 64) :
    Calls Try.prog 35 #[.pointer (some ⟨g, 0, none⟩), .int .u64 V, .int .i64 n] w fun e w' => e = .returned (.int .i64 0) ∧ WrO w' B g (l ++ bitsOf V n) ∧ OnlyO B g w w' := by
  have H := Lib.hid h
  clear h
  have hni : (n : Int) ≤ 64 := by omega
  have hn0 : ¬ (n : Int) < 0 := by omega
  have hn1 : ¬ (64 : Int) < n := by omega
  go_enter Try.func35, Try.ntmps35
  go_wp2
  go_loopw [17] (PutRelO w B g l V n) (fun i _ => n - (intOf i).toNat)
  case atStart => exact ⟨0, Nat.zero_le _, rfl, by rw [show bitsOf V 0 = [] from rfl, List.append_nil]; exact H.out, OnlyO.refl _ _ _⟩
  case round =>
    obtain ⟨k, hk, rfl, hat, ho⟩ := hrel
    have HAT := Lib.hid hat
    have HO := Lib.hid ho
    clear hat ho
    by_cases hlt : k < n
    · have hba := bit_arg V k hV
      have HBA := Lib.hid hba
      have hll : (l ++ bitsOf V k).length < 1000000000 := by rw [List.length_append, bitsOf_length]; omega
      have HLL := Lib.hid hll
      clear hba hll hV
      go_wp2_with (go_at_call 52; go_must (rw [HBA.out]; refine (layO_any g B _ (V.testBit k) _ HAT.out HLL.out).mono ?_; rintro e w1 ⟨rfl, hat1, ho1⟩; rw [List.append_assoc, ← bitsOf_succ] at hat1; have HAT1 := Lib.hid hat1; have HO1 := Lib.hid (HO.out.trans ho1); clear hat1 ho1))
      go_roundw
      case rel => exact ⟨k + 1, by omega, by go_num, HAT1.out, HO1.out⟩
      case measure => simp [intOf]; omega
    · obtain rfl : k = n := by omega
      go_wp2
      go_ret
      exact ⟨rfl, HAT.out, HO.out⟩


/-- What holds at the head of a round of Ones. -/
def OnesRelO (w : World) (B g : Nat) (l : List Bool) (n : Nat) (i : Value) (wr : World) : Prop :=
  ∃ k : Nat, k ≤ n ∧ i = .int .i64 k ∧ WrO wr B g (l ++ List.replicate k true) ∧ OnlyO B g w wr

set_option maxHeartbeats 1000000 in
theorem oBytes_any (g B : Nat) (l : List Bool) (w : World) (h : WrO w B g l) (hl : l.length < 1000000000) :
    Calls Try.prog 17 #[.pointer (some ⟨g, 0, none⟩)] w fun e w' => ∃ bs, Packs bs l ∧ NewBy w bs e w' := by
  obtain ⟨v, bs, hblk, hBg, hown, hp⟩ := h
  obtain ⟨A, c, rfl, hnc, _, hA⟩ := own_form hown
  have hc0 := hblk.cell 0
  simp only [List.getElem?_cons_zero] at hc0
  have hr := Rd.of_own hown
  have hlen := hp.1
  have hcA : A = none → c = 0 := by
    rintro rfl
    rcases hown.2 with ⟨h0, _⟩ | ⟨_, _, _, h0, _⟩
    · injection h0
    · cases h0
  have hc := clone_any A bs.length c bs w hr rfl (by omega) hcA
  have HC := Lib.hid hc
  have HP := Lib.hid hp
  clear hblk hown hp hA hcA hc hr hlen hnc
  go_enter Try.func17, Try.ntmps17
  go_wp2_with (go_at_call 37; go_must (refine HC.out.mono ?_; rintro e w1 ⟨v1, rfl, hown1, hb1⟩))
  go_ret
  exact ⟨bs, HP.out, _, rfl, hown1, hb1⟩

end Go.Proofs.Ytjncmfoommlldaa
