/-
  Layer 20: the program's tree of counts.
-/
import Derived.Test.YtflcmmeoppdhdaaGreatR12
import Derived.Test.YtflcmmeoppdhdaaGreatR15
import Derived.Lib.Walk
namespace Go.Proofs.YtflcmmeoppdhdaaGreat
open Go.RowKit Go.Sort Go.Shelf

/-- Places as cells. -/
def plv (l : List Nat) : List Value := zvs (l.map fun (n : Nat) => (n : Int))
theorem plv_length (l : List Nat) : (plv l).length = l.length := by simp [plv, zvs]
theorem plv_get (l : List Nat) (k : Nat) (h : k < l.length) : (plv l)[k]? = some (.int .i64 ((l.getD k 0 : Nat) : Int)) := by
  simp [plv, zvs, h, List.getD_eq_getElem?_getD]
theorem plv_set (l : List Nat) (k x : Nat) : (plv l).set k (.int .i64 (x : Int)) = plv (l.set k x) := by simp [plv, zvs, List.map_set]
theorem plv_append (l m : List Nat) : plv (l ++ m) = plv l ++ plv m := by simp [plv, zvs]
theorem plv_zeros (n : Nat) : plv (List.replicate n 0) = List.replicate n (Value.int .i64 0) := by simp [plv, zvs]
def lenT : Value → Nat
  | .slice _ n _ => n
  | _ => 0
/-- make of n noughts, as an equation. -/
theorem make_eqI (n : Nat) (hn : n ≤ 1000000) (w : World) :
    (Instr.makeSlice 53 (.int .i64 (n : Int)) (.int .i64 (n : Int))).run Tryz.prog w = .ok (.slice (some ⟨w.heap.size, 0, none⟩) n n) (w.alloc (.cells (plv (List.replicate n 0)).toArray 3)) := by
  obtain ⟨i, hi, hz, hsize, hby⟩ := info_parts info_int12
  have hbn : ((i.bytes * n : Nat) : Int) ≤ 281474976710656 := by rw [hby]; omega
  rw [Int.natCast_mul] at hbn
  have hrun := run_make (P := Tryz.prog) w 53 3 i (.int .i64 0) Tryz.underlying53 hi hz .i64 .i64 n n (by omega) (Int.le_refl _) hbn (by omega)
  have hzs : (Value.int .i64 0).cells = #[.int .i64 0] := rfl
  simp only [Int.toNat_natCast, hsize, Nat.mul_one, hzs] at hrun
  have hcells : madeCells #[Value.int .i64 0] n = (List.replicate n (Value.int .i64 0)).toArray := by
    apply Array.ext'; rw [toList_madeCells_one]
  rw [hcells] at hrun
  rw [plv_zeros]
  exact hrun

theorem own_full (w : World) {base n : Nat} {e : TypeId} {xs : List Value} (hn : xs.length = n) (hm : n ≤ maxLen) (hb : base ≤ w.heap.size) : (w.alloc (.cells xs.toArray e)).ownsRow base e 1 (.slice (some ⟨w.heap.size, 0, none⟩) n n) n xs :=
  ⟨by rw [hn, Nat.mul_one], .inr ⟨w.heap.size, n, xs.toArray, rfl, hb, heap_alloc_new w _, Nat.le_refl _, hm, by simp [hn], by rw [Nat.mul_one]; exact List.take_of_length_le (Nat.le_of_eq hn)⟩⟩
section
variable {w w' : World} {T S cap : Nat} {l : List Pr}
theorem HAt.turned (h : HAt w T S cap l) {row : Option Nat} (hg : w.grownBy w' row) (h1 : ∀ r, row = some r → r ≠ T) (h2 : ∀ r, row = some r → r ≠ S) : HAt w' T S cap l := by
  obtain ⟨cur, h3, h4⟩ := h.row
  exact ⟨blk_row h.box hg h1, ⟨cur, blk_row h3 hg h2, h4⟩, h.room, h.most⟩
theorem own_turnsI {base n : Nat} {v : Value} {xs : List Value} (ho : w.ownsRow base 3 1 v n xs) (h : HAt w T S cap l) (ht : TurnsB T S w w') : w'.ownsRow base 3 1 v n xs := by
  refine ⟨ho.1, ?_⟩
  have h1 := own_ne h.box ho (by decide)
  obtain ⟨cur, h3, -⟩ := h.row
  have h2 := own_ne h3 ho (by decide)
  rcases ho.2 with h0 | ⟨g, cap, cur, rfl, hbg, hg, rest⟩
  · exact .inl h0
  · exact .inr ⟨g, cap, cur, rfl, hbg, by rw [ht.block g (Array.getElem?_eq_some_iff.1 hg).1 (h1 g rfl) (h2 g rfl)]; exact hg, rest⟩
theorem own_at {base n c g : Nat} {xs : List Value} (ho : w.ownsRow base 3 1 (.slice (some ⟨g, 0, none⟩) n c) n xs) {j : Nat} {u : Value} (h : xs[j]? = some u) : w.cell? ⟨g, j, none⟩ = some u := by
  have h1 := ho.cells (g := g) rfl j u h
  have e : (⟨g, 0, none⟩ : Addr).add j = ⟨g, j, none⟩ := by unfold Addr.add; split <;> simp_all
  rwa [e] at h1
theorem own_apart {base n : Nat} {g c : Nat} {xs : List Value} (ho : w.ownsRow base 3 1 (.slice (some ⟨g, 0, none⟩) n c) n xs) (h : HAt w T S cap l) : g ≠ T ∧ g ≠ S := by
  obtain ⟨cur, h3, -⟩ := h.row
  exact ⟨own_ne h.box ho (by decide) g rfl, own_ne h3 ho (by decide) g rfl⟩
end
section
variable {w : World} {A : Option Addr} {n m : Nat} {c : List Int}
/-- While the letters come. -/
def CameRel (w : World) (c : List Int) (i : Value) (wr : World) : Prop :=
  ∃ (k S cap : Nat) (l : List Pr), k ≤ c.length ∧ i = .int .i64 (k : Int) ∧ HAt wr (w.heap.size + 1) S cap l ∧ HeapSet (UpTo c k) l ∧ l.length = rankL c k ∧ sumWL l = allOf (wtL c) (rankL c k) ∧ w.heap.size ≤ S ∧ Below w.heap.size w wr
/-- While things are joined. -/
def JoinRel (w : World) (c : List Int) (v : Value) (wr : World) : Prop :=
  ∃ (f : For) (ab : List Nat) (S cap : Nat) (l : List Pr), Joins c f ab l ∧ HAt wr (w.heap.size + 1) S cap l ∧ w.heap.size ≤ S ∧ wr.ownsRow w.heap.size 3 1 v f.N (plv ab) ∧ lenT v = f.N ∧ Below w.heap.size w wr
set_option maxHeartbeats 2000000 in
set_option maxRecDepth 100000 in
theorem lens_tree (hr : Rd w w.heap.size A (zvs c)) (hn : c.length = n) (hn1 : n ≤ 4096) (hc : ∀ x ∈ c, 0 ≤ x ∧ x ≤ 1099511627776) (hsum : c.sum ≤ 9007199254740992) :
    Calls Tryz.prog 224 #[.slice A n m] w fun e w' => ∃ g ab v, e = .returned v ∧ TreeDone c ab g ∧ w'.ownsRow w.heap.size 3 1 v ab.length (plv ab) ∧ Below w.heap.size w w' := by
  have HR := Lib.hid hr
  have HC := Lib.hid hn
  have HB := Lib.hid hc
  have HS := Lib.hid hsum
  clear hr hn hc hsum
  go_enter Tryz.func224, Tryz.ntmps224
  go_wp2
  go_loopw [14, 5] (fun i _ wr => CameRel w c i wr) (fun i _ _ => n - (intOf i).toNat)
  case atStart =>
    have h0 := heap_alloc2_new w (.cells #[] 284) (.cells #[.slice (some ⟨w.heap.size, 0, none⟩) 0 0] 281)
    have h1 := heap_alloc2_old w (.cells #[] 284) (.cells #[.slice (some ⟨w.heap.size, 0, none⟩) 0 0] 281)
    exact ⟨0, w.heap.size, 0, [], Nat.zero_le _, rfl, ⟨h0, ⟨[], h1, rfl, rfl⟩, Nat.le_refl _, Nat.zero_le _⟩, upTo_none c, by simp [rankL, posL], by simp [sumWL, rankL, posL, allOf], Nat.le_refl _, ((Below.refl _ _).alloc (Nat.le_refl _) _).alloc (by simp) _⟩
  case round =>
    obtain ⟨k, S, cap, l, hk, rfl, hh, hset, hlen, hsw, hS, hb⟩ := hrel
    rw [HC.out] at hk
    have HH := Lib.hid hh
    have HSET := Lib.hid (And.intro hset (And.intro hlen hsw))
    have HBL := Lib.hid hb
    have hbs := hb.size
    have hbox := hh.boxCell
    by_cases hlt : k < n
    · have hkc : k < c.length := by have := HC.out; omega
      obtain ⟨b, off, rfl, -, hcell⟩ := cell_of_rd (HR.out.below hb) hkc
      have hx := HB.out _ (List.getElem_mem hkc)
      have hki : (k : Int) < (n : Int) := by omega
      have C := Lib.hid (things_len (some ⟨S, 0, none⟩) l.length cap wr)
      have hrk := rankL_le c k
      by_cases h0 : 0 < c[k]
      · have D := Lib.hid (lens_come hh hset.heap (by omega) ((c[k]).toNat, l.length))
        have hxe : (((c[k]).toNat : Nat) : Int) = c[k] := by omega
        have e1 := upTo_step hkc h0
        have e2 := allOf_rank hkc h0
        have e3 := rankL_succ c k hkc
        rw [if_pos h0] at e3
        obtain ⟨x, hxx⟩ : ∃ x, x = c[k]'hkc := ⟨_, rfl⟩
        rw [← hxx] at hcell h0 D hxe e1 e2 hx
        unfold thingV at D
        simp only at D
        rw [hxe] at D
        have HE := Lib.hid (And.intro e1 (And.intro e2 e3))
        obtain ⟨N, hN⟩ : ∃ N, N = l.length := ⟨_, rfl⟩
        rw [← hN] at C D hbox
        have HN := Lib.hid hN
        clear hh hset hlen hsw hb e1 e2 e3 hxx hN hxe hrk
        go_wp2_with fail
        refine C.out.mono ?_
        rintro _ w0 ⟨rfl, hw0⟩
        subst w0
        clear C
        go_wp2_with fail
        refine D.out.mono ?_
        rintro _ w2 ⟨rfl, S2, cap2, l2, h2, hp2, hi2, ht2, hs2⟩
        have hl2 : l2.length = N + 1 := by rw [hp2.length_eq, List.length_append, HN.out]; rfl
        have HEND := Lib.hid (show CameRel w c (.int .i64 ((k + 1 : Nat) : Int)) w2 from ⟨k + 1, S2, cap2, l2, by omega, rfl, h2, by
          have g := HSET.out.1.push (x := (x.toNat, rankL c k)) (upTo_new _) (by rw [← HSET.out.2.1, ← HN.out]; exact hp2) hi2
          exact g.congr HE.out.1, by rw [hl2, HE.out.2.2, HN.out, HSET.out.2.1], by
          rw [sumW_perm hp2, sumW_push, HE.out.2.1, HSET.out.2.2], by rcases hs2 with rfl | e <;> omega, HBL.out.trans (ht2.below (by omega) hS (by omega))⟩)
        clear h2 hp2 hi2 ht2 hs2 hl2
        go_wp2
        go_roundw
        case rel => exact HEND.out
        case measure => simp [intOf]; omega
      · have e3 := rankL_skip hkc h0
        obtain ⟨x, hxx⟩ : ∃ x, x = c[k]'hkc := ⟨_, rfl⟩
        rw [← hxx] at hcell h0
        have HEND := Lib.hid (show CameRel w c (.int .i64 ((k + 1 : Nat) : Int)) wr from ⟨k + 1, S, cap, l, by omega, rfl, hh, hset.congr fun p => by unfold UpTo; rw [e3], by rw [e3]; exact hlen, by rw [e3]; exact hsw, hS, hb⟩)
        clear hh hset hlen hsw hb e3 hxx C hrk
        go_wp2
        go_roundw
        case rel => exact HEND.out
        case measure => simp [intOf]; omega
    · obtain rfl : k = n := by omega
      have hkl : c.length = k := HC.out
      have C := Lib.hid (things_len (some ⟨S, 0, none⟩) l.length cap wr)
      have hj : Joins c (For.start (posL c).length (wtL c)) (List.replicate (posL c).length 0) l := by
        rw [← hkl] at hset hlen hsw
        exact joins_start hset hlen hsw
      have hlL : l.length = (posL c).length := by rw [hlen, ← hkl, rankL_all]
      have hL : (posL c).length ≤ 4096 := by have := rankL_le c k; omega
      obtain ⟨L, hLL⟩ : ∃ L, L = (posL c).length := ⟨_, rfl⟩
      rw [← hLL] at hlL hL
      rw [hlL] at C hbox
      have hmk := fun W => make_eqI L (by omega) W
      have HJ := Lib.hid hj
      have HL := Lib.hid hLL
      clear hh hset hlen hsw hb hj hLL hlL HSET hkl
      go_wp2_with fail
      refine C.out.mono ?_
      rintro _ w0 ⟨rfl, hw0⟩
      subst w0
      clear C
      have hsum : (allOf (wtL c) (posL c).length : Int) ≤ 9007199254740992 := by rw [allOf_sum fun x hx => (HB.out x hx).1]; exact HS.out
      have hsumN : allOf (wtL c) (posL c).length ≤ 9007199254740992 := by omega
      have HSUM := Lib.hid hsumN
      clear hsum hsumN
      go_wp2
      have HST := Lib.hid (show JoinRel w c (.slice (some ⟨wr.heap.size, 0, none⟩) L L) (wr.alloc (.cells (plv (List.replicate L 0)).toArray 3)) from by
        have hL2 := HL.out
        refine ⟨_, _, S, cap, l, HJ.out, HH.out.grow ((Below.refl _ _).alloc (Nat.le_refl _) _), hS, ?_, hL2, HBL.out.alloc hbs _⟩
        show _ = _ ∧ _
        show (wr.alloc (.cells (plv (List.replicate L 0)).toArray 3)).ownsRow w.heap.size 3 1 (.slice (some ⟨wr.heap.size, 0, none⟩) L L) (posL c).length (plv (List.replicate (posL c).length 0))
        rw [← hL2]
        exact own_full wr (by rw [plv_length, List.length_replicate]) (by simp only [maxLen]; omega) hbs)
      have HBL0 := Lib.hid HBL.out
      clear hmk HJ HBL hbox HH hS hbs hk hlt
      go_loopw [6] (fun v wr => JoinRel w c v wr) (fun v _ => 2 * L - lenT v)
      case atStart => exact HST.out
      case round =>
        clear HST HBL0
        obtain ⟨f, ab, S, cap, l, hj, hh, hS, hown, hlt, hb⟩ := hrel
        obtain ⟨G0, cG, rfl, hnc, hcm, hG⟩ := own_form hown
        have hbs := hb.size
        have hbox := hh.boxCell
        have hfl := hj.tree.len
        have hmo := hj.most
        rw [← HL.out] at hmo
        have hll : l.length ≤ 2 * L := by omega
        have C := Lib.hid (things_len (some ⟨S, 0, none⟩) l.length cap wr)
        obtain ⟨N, hN⟩ : ∃ N, N = f.N := ⟨_, rfl⟩
        rw [← hN] at hfl hmo hlt hown hnc hG ⊢
        have HB0 := Lib.hid hb
        have HJ := Lib.hid (And.intro hj (And.intro hN hfl))
        have HH := Lib.hid hh
        have HOWN := Lib.hid hown
        clear hj hh hown hb hN hlt hfl
        by_cases h2 : 2 ≤ l.length
        · obtain ⟨n, hn⟩ : ∃ n, l.length = n + 2 := ⟨l.length - 2, by omega⟩
          rw [hn] at hbox C hmo hll h2
          have HN := Lib.hid hn
          have D := Lib.hid (lens_least HH.out HJ.out.1.set.heap (n + 1) (by omega) (by omega))
          obtain ⟨pa, hpa⟩ : ∃ pa, pa = pat l 0 := ⟨_, rfl⟩
          rw [← hpa] at D
          obtain ⟨a0, a1⟩ := pa
          have HPA := Lib.hid hpa
          clear hn hpa
          go_wp2_with fail
          refine C.out.mono ?_
          rintro _ w0 ⟨rfl, hw0⟩
          subst w0
          clear C
          go_wp2_with fail
          refine D.out.mono ?_
          rintro _ w1 ⟨he1, m1, hp1, hm1, hh1, hA1, ht1⟩
          subst he1
          have hset1 := (pop_set HJ.out.1.set HN.out hp1 hm1 hh1).2.2
          have hl1 := (pop_split HN.out hp1 hm1).2
          have E := Lib.hid (lens_least hA1 hset1.heap n hl1 (by omega))
          obtain ⟨pb, hpb⟩ : ∃ pb, pb = pat (m1.take (n + 1)) 0 := ⟨_, rfl⟩
          rw [← hpb] at E
          obtain ⟨b0, b1⟩ := pb
          have ho1 := own_turnsI HOWN.out HH.out ht1
          have HPB := Lib.hid hpb
          have H1 := Lib.hid (And.intro hp1 (And.intro hm1 (And.intro hh1 (And.intro hA1 (And.intro ht1 ho1)))))
          clear hp1 hm1 hh1 hA1 ht1 hset1 hl1 D hbox ho1 hpb
          go_wp2_with fail
          refine E.out.mono ?_
          rintro _ w2 ⟨he2, m2, hp2, hm2, hh2, hA2, ht2⟩
          subst he2
          obtain ⟨hT2, hS2⟩ := Joins.two HJ.out.1 HN.out H1.out.1 H1.out.2.1 H1.out.2.2.1 hp2 hm2 hh2
          rw [← HPA.out, ← HPB.out] at hT2 hS2
          have ho2 := own_turnsI H1.out.2.2.2.2.2 H1.out.2.2.2.1 ht2
          have htt := H1.out.2.2.2.2.1.trans ht2
          have hsz2 := htt.size
          have haN : a1 < N := by rw [HJ.out.2.1]; exact HJ.out.1.ok.less _ hT2.sa.1
          have hbN : b1 < N := by rw [HJ.out.2.1]; exact HJ.out.1.ok.less _ hT2.sb.1
          have hab : a1 ≠ b1 := hT2.ne
          have hsumb : a0 + b0 ≤ 9007199254740992 := by have := HSUM.out; simp only at hS2; omega
          have hN0 : 0 < N := by omega
          obtain ⟨G, rfl, hbG, hGlt⟩ : ∃ g, G0 = some ⟨g, 0, none⟩ ∧ w.heap.size ≤ g ∧ g < wr.heap.size := hG.elim (fun e => absurd e (by omega)) id
          obtain ⟨hGT, hGS⟩ := own_apart ho2 hA2
          have hcA := own_at ho2 (plv_get ab a1 (by rw [HJ.out.2.2]; exact haN))
          have hcB := own_at ho2 (plv_get ab b1 (by rw [HJ.out.2.2]; exact hbN))
          have hfA := ho2.frozenAt a1
          have hfB := ho2.frozenAt b1
          have H2 := Lib.hid (And.intro hT2 (And.intro hS2 (And.intro hA2 (And.intro htt ho2))))
          have H2B := Lib.hid (HB0.out.trans (htt.below (by omega) hS hbs))
          have hbox2 := hA2.boxCell
          have hG2 : G < w2.heap.size := by omega
          have hT2 : w.heap.size + 1 < w2.heap.size := hA2.box.lt
          clear hp2 hm2 hh2 hA2 ht2 ho2 htt E hT2 hS2 H1 HPA HPB hG
          unfold thingV
          simp only
          go_wp2
          go_region
          have hgr1 := ((World.ownsRow.stored H2.out.2.2.2.2 a1 (.int .i64 (N : Int))).1.stored b1 (.int .i64 (N : Int))).1
          rw [plv_set, plv_set] at hgr1
          have HO3 := Lib.hid (own_drew ((hgr1.alloc (.cells #[.int .i64 (a0 : Int), .int .i64 (a1 : Int)] 284)).alloc (.cells #[.int .i64 (b0 : Int), .int .i64 (b1 : Int)] 284)))
          have HA3 := Lib.hid ((((H2.out.2.2.1.setOther (i := a1) (v := .int .i64 (N : Int)) (fun e => hGT e.symm) (fun e => hGS e.symm)).setOther (i := b1) (v := .int .i64 (N : Int)) (fun e => hGT e.symm) (fun e => hGS e.symm)).grow (((Below.refl _ _).alloc (Nat.le_refl _) (.cells #[.int .i64 (a0 : Int), .int .i64 (a1 : Int)] 284)).alloc (by simp) (.cells #[.int .i64 (b0 : Int), .int .i64 (b1 : Int)] 284))).drewN 1)
          have hsz : ((w2.setCell ⟨G, a1, none⟩ (.int .i64 (N : Int))).setCell ⟨G, b1, none⟩ (.int .i64 (N : Int))).heap.size = w2.heap.size := by simp [World.setCell]
          have hBA := heap_alloc2_old ((w2.setCell ⟨G, a1, none⟩ (.int .i64 (N : Int))).setCell ⟨G, b1, none⟩ (.int .i64 (N : Int))) (.cells #[.int .i64 (a0 : Int), .int .i64 (a1 : Int)] 284) (.cells #[.int .i64 (b0 : Int), .int .i64 (b1 : Int)] 284)
          have hBB := heap_alloc2_new ((w2.setCell ⟨G, a1, none⟩ (.int .i64 (N : Int))).setCell ⟨G, b1, none⟩ (.int .i64 (N : Int))) (.cells #[.int .i64 (a0 : Int), .int .i64 (a1 : Int)] 284) (.cells #[.int .i64 (b0 : Int), .int .i64 (b1 : Int)] 284)
          rw [hsz] at hBA hBB
          have HB3 := Lib.hid ((((H2B.out.setCell (p := ⟨G, a1, none⟩) hbG (.int .i64 (N : Int))).setCell (p := ⟨G, b1, none⟩) hbG (.int .i64 (N : Int))).alloc (by rw [hsz]; omega) (.cells #[.int .i64 (a0 : Int), .int .i64 (a1 : Int)] 284)).alloc (by simp; omega) (.cells #[.int .i64 (b0 : Int), .int .i64 (b1 : Int)] 284)).drew
          have HBX := Lib.hid (And.intro (show Blk _ w2.heap.size 284 [.int .i64 (a0 : Int), .int .i64 (a1 : Int)] from hBA) (show Blk _ (w2.heap.size + 1) 284 [.int .i64 (b0 : Int), .int .i64 (b1 : Int)] from hBB))
          have hsz3 : w2.heap.size ≤ ((((w2.setCell ⟨G, a1, none⟩ (.int .i64 (N : Int))).setCell ⟨G, b1, none⟩ (.int .i64 (N : Int))).alloc (.cells #[.int .i64 (a0 : Int), .int .i64 (a1 : Int)] 284)).alloc (.cells #[.int .i64 (b0 : Int), .int .i64 (b1 : Int)] 284)).drew.heap.size := by simp [World.setCell]; omega
          have HBX2 := Lib.hid (And.intro (HBX.out.1.same (w' := ((((w2.setCell ⟨G, a1, none⟩ (.int .i64 (N : Int))).setCell ⟨G, b1, none⟩ (.int .i64 (N : Int))).alloc (.cells #[.int .i64 (a0 : Int), .int .i64 (a1 : Int)] 284)).alloc (.cells #[.int .i64 (b0 : Int), .int .i64 (b1 : Int)] 284)).drew) rfl) (HBX.out.2.same (w' := ((((w2.setCell ⟨G, a1, none⟩ (.int .i64 (N : Int))).setCell ⟨G, b1, none⟩ (.int .i64 (N : Int))).alloc (.cells #[.int .i64 (a0 : Int), .int .i64 (a1 : Int)] 284)).alloc (.cells #[.int .i64 (b0 : Int), .int .i64 (b1 : Int)] 284)).drew) rfl))
          clear hgr1 hsz hcA hcB hfA hfB hbox2 hBA hBB HBX
          rw [show ((((w2.setCell ⟨G, a1, none⟩ (.int .i64 (N : Int))).setCell ⟨G, b1, none⟩ (.int .i64 (N : Int))).alloc (.cells #[.int .i64 (a0 : Int), .int .i64 (a1 : Int)] 284)).alloc (.cells #[.int .i64 (b0 : Int), .int .i64 (b1 : Int)] 284)).drewN 1 = ((((w2.setCell ⟨G, a1, none⟩ (.int .i64 (N : Int))).setCell ⟨G, b1, none⟩ (.int .i64 (N : Int))).alloc (.cells #[.int .i64 (a0 : Int), .int .i64 (a1 : Int)] 284)).alloc (.cells #[.int .i64 (b0 : Int), .int .i64 (b1 : Int)] 284)).drew from rfl] at HA3
          generalize ((((w2.setCell ⟨G, a1, none⟩ (.int .i64 (N : Int))).setCell ⟨G, b1, none⟩ (.int .i64 (N : Int))).alloc (.cells #[.int .i64 (a0 : Int), .int .i64 (a1 : Int)] 284)).alloc (.cells #[.int .i64 (b0 : Int), .int .i64 (b1 : Int)] 284)).drew = W3 at HO3 HA3 HB3 HBX2 hsz3 ⊢
          obtain ⟨i0, hi0, hz0, hz1, hz2⟩ := info_parts info_int12
          have hbs3 := HB3.out.size
          go_wp2_with ((with_reducible show wpList _ _ _ (({ dst := some 57, op := _, type := _, pos := _, after := _, guard := _ } : Oper) :: _) _ _); go_must (refine wpList_app rfl (.tmp 55) (.tmp 56) 53 rfl w.heap.size 3 i0 (.int .i64 0) 1 8 Tryz.underlying53 hi0 hz0 hz1 hz2 rfl (by decide) _ _ _ rfl (HO3.out.alloc _) _ _ 1 1 _ rfl (Rd.new _ _ _) rfl (by intro u hu; simp at hu; subst hu; rfl) (by simp only [maxLen]; omega) (by omega) (by simp; omega) ?_; intro v4 w4 hown4 hg4; have hA4 := (HA3.out.grow ((Below.refl _ _).alloc (Nat.le_refl _) _)).turned hg4 (fun r e => by have e2 : G = r := Option.some.inj e; omega) (fun r e => by have e2 : G = r := Option.some.inj e; omega); have hb4 := (HB3.out.alloc hbs3 _).grown hg4 (by simp; omega) (own_block HO3.out); have hx4 := blk_row (HBX2.out.1.alloc_ _) hg4 (fun r e => by have e2 : G = r := Option.some.inj e; omega); have hy4 := blk_row (HBX2.out.2.alloc_ _) hg4 (fun r e => by have e2 : G = r := Option.some.inj e; omega); have hcx := hx4.cell 0; have hcy := hy4.cell 0; simp only [List.getElem?_cons_zero] at hcx hcy; clear hg4 hx4 hy4))
          obtain ⟨A4, c4, rfl, -, -, -⟩ := own_form hown4
          rw [show [Value.int .i64 0] = plv [0] from rfl, ← plv_append] at hown4
          have hT4 := H2.out.1
          have D4 := Lib.hid (lens_come hA4 hT4.set.heap (by rw [hT4.len]; omega) (a0 + b0, N))
          unfold thingV at D4
          simp only [Int.natCast_add] at D4
          have HOWN4 := Lib.hid hown4
          have HA4 := Lib.hid hA4
          have HB4 := Lib.hid hb4
          have hbs4 := hb4.size
          clear hown4 hA4 hb4 hT4
          go_wp2_with fail
          refine D4.out.mono ?_
          rintro _ w5 ⟨rfl, S5, cap5, l5, h5, hp5, hi5, ht5, hs5⟩
          have ho5 := own_turnsI HOWN4.out HA4.out ht5
          have HEND := Lib.hid (show JoinRel w c (.slice A4 (N + 1) c4) w5 from by
            have hN := HJ.out.2.1
            have hj := HJ.out.1.step (l2 := m2.take n) (n := n) (pa := (a0, a1)) (pb := (b0, b1)) (l3 := l5) HN.out H2.out.1 H2.out.2.1 (by rw [← hN]; exact hp5) hi5
            rw [← hN] at hj
            refine ⟨_, _, S5, cap5, l5, hj, h5, by rcases hs5 with rfl | e <;> omega, ?_, ?_, HB4.out.trans (ht5.below (by omega) hS (by omega))⟩
            · show w5.ownsRow w.heap.size 3 1 (.slice A4 (N + 1) c4) (f.N + 1) _
              rw [← hN]; exact ho5
            · show N + 1 = f.N + 1
              rw [← hN])
          clear h5 hp5 hi5 ht5 hs5 ho5
          go_wp2
          go_roundw
          case rel => exact HEND.out
          case measure => simp [lenT]; omega
        · have HEND := Lib.hid (show TreeDone c ab f from HJ.out.1.done (by omega))
          have hNf : f.N = N := HJ.out.2.1.symm
          have hab : ab.length = N := HJ.out.2.2
          have HRES := Lib.hid (show wr.ownsRow w.heap.size 3 1 (.slice G0 N cG) ab.length (plv ab) by rw [hab]; exact HOWN.out)
          obtain ⟨q, hq⟩ : ∃ q, q = l.length := ⟨_, rfl⟩
          rw [← hq] at hbox C h2 hmo hll
          clear hNf hab HH HJ HOWN hq
          go_wp2_with fail
          refine C.out.mono ?_
          rintro _ w0 ⟨rfl, hw0⟩
          subst w0
          clear C
          go_wp2
          go_ret
          exact ⟨f, ab, _, rfl, HEND.out, HRES.out, HB0.out⟩
end
end Go.Proofs.YtflcmmeoppdhdaaGreat
