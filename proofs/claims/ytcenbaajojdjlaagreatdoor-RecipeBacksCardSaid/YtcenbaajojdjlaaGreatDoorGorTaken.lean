/- Contract of gorilla's taken: the words that bits tell. -/
import Derived.Test.YtcenbaajojdjlaaGreatDoorGorTake2
namespace Go.Proofs.YtcenbaajojdjlaaGreatDoor
open Go.RowKit

theorem take_any {W : Nat} (hW : IsW W) (s : Win) (hs : winOk W s) (x : Nat) (hx : x < 256 ^ W) (g : Nat) (R : List Bool) (w : World) (h : RdrIs w g (stepB W s x ++ R) 0) :
    Calls Tryz.prog 111 #[winV W s, .pointer (some ⟨g, 0, none⟩), .int .i64 (W : Int)] w (Takes w g W R s x) := by
  by_cases h0 : x = 0
  · subst h0
    exact take_zero s hs g R w h
  · cases hh : hasB s (aboveN W x) (belowN x) with
    | true => exact take_in hW s hs x h0 hx hh g R w h
    | false => exact take_new hW s hs x h0 hx hh g R w h
theorem gorB_len {W : Nat} (hW : 1 ≤ W) (X : List Nat) : X.length ≤ (gorB W X).length := by
  cases X with
  | nil => simp [gorB]
  | cons x t =>
    have := gorL_len W none t
    simp only [gorB, List.length_append, bitsOf_length, List.length_cons]
    omega
theorem wvs_take (X : List Nat) (k : Nat) (x : Nat) (hx : X[k]? = some x) : wvs (X.take (k + 1)) = wvs (X.take k) ++ [.int .u64 (x : Int)] := by
  rw [List.take_add_one, hx]
  simp [wvs]
def lenOfV : Value → Nat
  | .slice _ n _ => n
  | _ => 0
theorem rd_new2 (w : World) (o : Obj) (cs : Array Value) (t : TypeId) : Rd ((w.alloc o).alloc (.cells cs t)) ((w.alloc o).alloc (.cells cs t)).heap.size (some ⟨w.heap.size + 1, 0, none⟩) cs.toList := by
  rw [← World.size_alloc w o]
  exact Rd.new (w.alloc o) cs t
theorem one1 (v : Value) (h : v.oneCell' = true) : ∀ u ∈ #[v].toList, u.oneCell' = true := by
  intro u hu
  simp at hu
  subst hu
  exact h
theorem rdr_grown {w w' : World} {g B e : Nat} {ts : List TypeId} {L : List Bool} {o : Obj} (h : RdrIs w g L e) (ho : OnlyT B ts (w.alloc o) w') (h1 : 119 ∉ ts) (h2 : 5 ∉ ts) : RdrIs w' g L e :=
  (h.only (OnlyT.of_below (B := 0) (ts := []) ((Below.refl w.heap.size w).alloc (Nat.le_refl _) o)) (by simp) (by simp)).only ho h1 h2
theorem rdr_grown2 {w w' : World} {g B e : Nat} {ts : List TypeId} {L : List Bool} {o o' : Obj} (h : RdrIs w g L e) (ho : OnlyT B ts ((w.alloc o).alloc o') w') (h1 : 119 ∉ ts) (h2 : 5 ∉ ts) : RdrIs w' g L e :=
  rdr_grown (rdr_grown (B := 0) (ts := []) h (OnlyT.refl _ _ _) (by simp) (by simp)) ho h1 h2
theorem blk_grown2 {w w' : World} {g B : Nat} {t : TypeId} {ts : List TypeId} {cs : List Value} {o o' : Obj} (h : Blk w g t cs) (ho : OnlyT B ts ((w.alloc o).alloc o') w') (h1 : t ∉ ts) : Blk w' g t cs :=
  ((h.alloc_ o).alloc_ o').only ho h1
theorem blk_new2 {w w' : World} {B : Nat} {t : TypeId} {ts : List TypeId} {cs : List Value} {o' : Obj} (ho : OnlyT B ts ((w.alloc (.cells cs.toArray t)).alloc o') w') (h1 : t ∉ ts) : Blk w' w.heap.size t cs :=
  (Blk.alloc_ (show Blk (w.alloc (.cells cs.toArray t)) w.heap.size t cs from heap_alloc_new w _) o').only ho h1
/-- What holds at the head of a round. -/
def TakenRel (w : World) (g W p : Nat) (X : List Nat) (P : Nat) (v : Value) (wr : World) : Prop :=
  ∃ (k : Nat) (s : Win) (a m b : Nat), k ≤ X.length ∧ wr.ownsRow w.heap.size 63 1 v k (wvs (X.take k)) ∧ winV W s = triV a m b ∧ winOk W s ∧ RdrIs wr g (gorL W s (X.drop k) ++ List.replicate p false) 0 ∧
    Blk wr P 96 [.int .i64 (a : Int), .int .i64 (m : Int), .int .i64 (b : Int)] ∧ OnlyT g [119] w wr
/-- What taken answers. -/
def Tells (w : World) (g p : Nat) (X : List Nat) (e : Ending) (w' : World) : Prop :=
  ∃ v, e = .returned (.tuple #[v, .bool (decide (p < 8))]) ∧ w'.ownsRow w.heap.size 63 1 v X.length (wvs X) ∧ OnlyT g [119] w w'

set_option maxHeartbeats 4000000 in
set_option maxRecDepth 100000 in
theorem taken_any {W : Nat} (hW : IsW W) (g p : Nat) (X : List Nat) (n : Nat) (hn : X.length = n) (hb1 : n ≤ 1000) (hX : ∀ x ∈ X, x < 256 ^ W) (hp : p ≤ 1000) (w : World) (h : RdrIs w g (gorB W X ++ List.replicate p false) 0) :
    Calls Tryz.prog 94 #[.pointer (some ⟨g, 0, none⟩), .int .i64 (W : Int), .int .i64 (n : Int)] w (Tells w g p X) := by
  obtain ⟨i0, hi, hz0, hz1, hz2⟩ := info_parts info_u64r
  have hpw := hW.pos
  have h8 : 256 ^ W ≤ 18446744073709551616 := by rcases hW with rfl | rfl | rfl | rfl <;> decide
  have hg := h.lt
  have hlen : n ≤ (gorB W X ++ List.replicate p false).length := by
    have := gorB_len hpw.1 X
    rw [List.length_append]
    omega
  have C1 := Lib.hid (rLeft_is h)
  have HH : Hid (RdrIs w.drew g (gorB W X ++ List.replicate p false) 0) := h.only (OnlyT.refl 0 [] w).drew (by simp) (by simp)
  have hli : (n : Int) ≤ ((gorB W X ++ List.replicate p false).length : Int) := by omega
  obtain ⟨LL, hLL⟩ : ∃ LL, LL = (gorB W X ++ List.replicate p false).length := ⟨_, rfl⟩
  rw [← hLL] at hli
  have hc1 := C1.out
  rw [← hLL] at hc1
  have C1 := Lib.hid hc1
  have hW8 : (W : Int) ≤ 8 := by omega
  have hW1 : (1 : Int) ≤ (W : Int) := by omega
  have HX := Lib.hid hX
  have HXN := Lib.hid hn
  have HW := Lib.hid (And.intro hW (And.intro hpw h8))
  clear h hLL hlen hc1 hX hn hW hpw h8
  go_enter Tryz.func94, Tryz.ntmps94
  go_wp2_with fail
  refine C1.out.mono ?_
  rintro e w1 ⟨rfl, rfl⟩
  clear C1
  by_cases hn0 : n = 0
  · have hX0 : X = [] := List.length_eq_zero_iff.1 (by have := HXN.out; omega)
    have hgb : gorB W X ++ List.replicate p false = List.replicate p false := by rw [hX0]; rfl
    rw [hgb] at HH
    have hn1 : ¬ (0 : Int) < (n : Int) := by omega
    have HN0 := Lib.hid hn0
    clear hgb hX0 hn0
    go_wp2_with (at_make; go_must (refine wpList_mk rfl (.const (.int .i64 0)) (.tmp 17) 53 rfl w.heap.size 63 i0 (.int .u64 0) 8 Tryz.underlying53 hi hz0 rfl hz1 hz2 .i64 .i64 _ _ rfl rfl 0 n rfl rfl (Nat.zero_le _) (by omega) (by simp only [maxLen]; omega) (Nat.le_refl _) ?_; intro w2 hg2 hown2 hgr2))
    have hb2 : Below w.heap.size w.drew w2 := (Below.refl w.heap.size w.drew).grown hgr2 (Nat.le_refl _) (by simp)
    have hr2 := HH.out.only (OnlyT.of_below (B := 0) (ts := []) hb2) (by decide) (by decide)
    have hsz2 : w.heap.size ≤ w2.heap.size := hb2.size
    have HR4 := Lib.hid (hr2.only (OnlyT.of_below (B := 0) (ts := []) ((Below.refl w2.heap.size w2).alloc (Nat.le_refl _) (.cells #[.int .i64 0, .int .i64 0, .int .i64 0] 96))) (by decide) (by decide))
    have HO4 := Lib.hid (((OnlyT.refl g [119] w).drew.trans (OnlyT.of_below hb2)).late ((Below.refl w.heap.size w2).alloc hsz2 (.cells #[.int .i64 0, .int .i64 0, .int .i64 0] 96)))
    have HW4 := Lib.hid (hown2.alloc (.cells #[.int .i64 0, .int .i64 0, .int .i64 0] 96))
    have hk4 : Blk (w2.alloc (.cells #[.int .i64 0, .int .i64 0, .int .i64 0] 96)) w2.heap.size 96 [.int .i64 0, .int .i64 0, .int .i64 0] := heap_alloc_new w2 _
    have HK4 := Lib.hid hk4
    clear hk4 hr2 hb2 hg2 hown2 hgr2 HH
    go_loopw [8, 10, 11, 12] (fun v _ _ _ wr => TakenRel w g W p X w2.heap.size v wr) (fun v _ _ _ _ => n - lenOfV v)
    case atStart => exact ⟨0, none, 0, 0, 0, Nat.zero_le _, HW4.out, rfl, trivial, by have := HR4.out; rw [List.drop_of_length_le (by have := HXN.out; have := HN0.out; omega)]; exact this, HK4.out, HO4.out⟩
    case round =>
      clear HR4 HO4 HW4 HK4
      obtain ⟨k, s, a, m, b, hk, hown, hf, hs, hrd, hblk, ho⟩ := hrel
      have hlt : ¬ k < X.length := by have := HXN.out; have := HN0.out; omega
      have hrd2 := hrd
      rw [List.drop_of_length_le (by have := HXN.out; omega)] at hrd2
      have hrd3 : RdrIs wr g (List.replicate p false) 0 := by simpa [gorL] using hrd2
      rw [List.take_of_length_le (by have := HXN.out; omega)] at hown
      have hkx : k = X.length := by omega
      rw [hkx] at hown
      have HOWN := Lib.hid hown
      have HO := Lib.hid ho
      obtain ⟨A1, c1, rfl, hc1, hc2, -⟩ := own_form hown
      simp only [maxLen] at hc2
      have hki : ¬ (X.length : Int) < (n : Int) := by have := HXN.out; omega
      clear hrd hrd2 hown ho hblk hf hs hkx hk
      by_cases h8 : p < 8
      · have C2 := Lib.hid (rDone_ok p hrd3 h8 rfl)
        have hd : decide (p < 8) = true := by simpa using h8
        have HD := Lib.hid hd
        clear hrd3 h8 hd
        go_wp2_with fail
        refine C2.out.mono ?_
        rintro e w9 ⟨rfl, rfl⟩
        go_wp2
        go_ret2
        exact ⟨_, by rw [HD.out]; rfl, HOWN.out, HO.out.drew⟩
      · have C2 := Lib.hid (rDone_more hrd3 (by simp; omega) (by simp; omega))
        have hd : decide (p < 8) = false := by simpa using h8
        have HD := Lib.hid hd
        clear hrd3 h8 hd
        go_wp2_with fail
        refine C2.out.mono ?_
        rintro e w9 ⟨rfl, rfl⟩
        go_wp2
        go_ret2
        exact ⟨_, by rw [HD.out]; rfl, HOWN.out, HO.out.drew⟩
  · have hn1 : (0 : Int) < (n : Int) := by omega
    have hx : X[0]? = some (X.getD 0 0) := by rw [List.getD_eq_getElem?_getD, List.getElem?_eq_getElem (by have := HXN.out; omega)]; rfl
    have hx64 : X.getD 0 0 < 256 ^ W := by obtain ⟨hh, hq⟩ := List.getElem?_eq_some_iff.1 hx; rw [← hq]; exact HX.out _ (List.getElem_mem _)
    have hwt := wvs_take X 0 _ hx
    obtain ⟨x0, hx0⟩ : ∃ x0, x0 = X.getD 0 0 := ⟨_, rfl⟩
    rw [← hx0] at hx hx64 hwt
    have hgb : gorB W X ++ List.replicate p false = bitsOf x0 (8 * W) ++ (gorL W none (X.drop 1) ++ List.replicate p false) := by rw [gorB_first hx, List.append_assoc]
    rw [hgb] at HH
    have HWT := Lib.hid hwt
    have H64 := Lib.hid hx64
    clear hgb hx0 hx hwt hx64
    go_wp2_with (at_make; go_must (refine wpList_mk rfl (.const (.int .i64 0)) (.tmp 17) 53 rfl w.heap.size 63 i0 (.int .u64 0) 8 Tryz.underlying53 hi hz0 rfl hz1 hz2 .i64 .i64 _ _ rfl rfl 0 n rfl rfl (Nat.zero_le _) (by omega) (by simp only [maxLen]; omega) (Nat.le_refl _) ?_; intro w2 hg2 hown2 hgr2))
    have hb2 : Below w.heap.size w.drew w2 := (Below.refl w.heap.size w.drew).grown hgr2 (Nat.le_refl _) (by simp)
    have HR2 := Lib.hid (HH.out.only (OnlyT.of_below (B := 0) (ts := []) hb2) (by decide) (by decide))
    have HO2 := Lib.hid ((OnlyT.refl g [119] w).drew.trans (OnlyT.of_below hb2))
    have HW2 := Lib.hid hown2
    have hV : 8 * (W : Int) = ((8 * W : Nat) : Int) := by omega
    have c2 := rGet_bits g x0 (8 * W) _ w2 HR2.out (by have := HW.out.2.1; omega) (by rw [← pow_256]; exact H64.out)
    rw [← hV] at c2
    have C2 := Lib.hid c2
    clear hg2 hown2 hgr2 hb2 hV c2 HH HR2
    refine C2.out.mono ?_
    rintro e w3 ⟨rfl, hr3, ho3⟩
    have HR3 := Lib.hid hr3
    have HO3 := Lib.hid (HO2.out.trans ho3)
    have HW3 := Lib.hid (own_only HW2.out ho3 (by decide))
    have hsz3 : w.heap.size ≤ w3.heap.size := HO3.out.size
    clear hr3 ho3 C2 HO2 HW2
    go_wp2_with ((with_reducible show wpList _ _ _ (({ dst := some 27, op := _, type := _, pos := _, after := _, guard := _ } : Oper) :: _) _ _); go_must (refine wpList_app rfl (.tmp 21) (.tmp 26) 53 rfl w.heap.size 63 i0 (.int .u64 0) 1 8 Tryz.underlying53 hi hz0 hz1 hz2 rfl (by decide) _ _ _ rfl (HW3.out.alloc _) _ _ 1 1 _ rfl (Rd.new _ _ _) rfl (by intro u hu; simp at hu; subst hu; rfl) (by simp only [maxLen]; omega) (by omega) (by simp; omega) ?_; intro v4 w4 hown4 hg4; have hb4 : Below w.heap.size w3 w4 := ((Below.refl w.heap.size w3).alloc hsz3 _).grown hg4 (by simp; omega) (own_block HW3.out); have ho4 := OnlyT.grown (B := w.heap.size) (ts := [63]) hg4 (own_type (HW3.out.alloc _)) (by simp); have hr4 := rdr_grown HR3.out ho4 (by decide) (by decide); clear ho4 hg4))
    have hsz4 : w.heap.size ≤ w4.heap.size := Nat.le_trans hsz3 hb4.size
    have HR4 := Lib.hid (hr4.only (OnlyT.of_below (B := 0) (ts := []) ((Below.refl w4.heap.size w4).alloc (Nat.le_refl _) (.cells #[.int .i64 0, .int .i64 0, .int .i64 0] 96))) (by decide) (by decide))
    have HO4 := Lib.hid (HO3.out.late (hb4.trans ((Below.refl w.heap.size w4).alloc hsz4 (.cells #[.int .i64 0, .int .i64 0, .int .i64 0] 96))))
    have HW4 := Lib.hid (hown4.alloc (.cells #[.int .i64 0, .int .i64 0, .int .i64 0] 96))
    have hk4 : Blk (w4.alloc (.cells #[.int .i64 0, .int .i64 0, .int .i64 0] 96)) w4.heap.size 96 [.int .i64 0, .int .i64 0, .int .i64 0] := heap_alloc_new w4 _
    have HK4 := Lib.hid hk4
    obtain ⟨P, hP⟩ : ∃ P, P = w4.heap.size := ⟨_, rfl⟩
    rw [← hP] at HK4
    have HPP := Lib.hid (show w.heap.size ≤ P by omega)
    simp only [← hP]
    generalize w4.alloc (.cells #[.int .i64 0, .int .i64 0, .int .i64 0] 96) = w6 at *
    clear hk4 hr4 hb4 hown4 hP HR3 HO3 HW3 hsz4 hsz3
    go_loopw [8, 10, 11, 12] (fun v _ _ _ wr => TakenRel w g W p X P v wr) (fun v _ _ _ _ => n - lenOfV v)
    case atStart => exact ⟨1, none, 0, 0, 0, by have := HXN.out; omega, by rw [HWT.out]; exact HW4.out, rfl, trivial, HR4.out, HK4.out, HO4.out⟩
    case round =>
      clear HR4 HO4 HW4 HK4
      obtain ⟨k, s, a, m, b, hk, hown, hf, hs, hrd, hblk, ho⟩ := hrel
      by_cases hlt : k < X.length
      · skip
        have hx : X[k]? = some X[k] := by simp
        obtain ⟨x, hx0⟩ : ∃ x, x = X[k] := ⟨_, rfl⟩
        rw [← hx0] at hx
        have hxl : x < 256 ^ W := by rw [hx0]; exact HX.out _ (List.getElem_mem _)
        clear hx0
        rw [gorL_next hx, List.append_assoc] at hrd
        have c2 := take_any HW.out.1 s hs x hxl g _ wr hrd
        have hs2 := nextW_ok (by have := HW.out.2.1; omega) hxl hs
        have hwt := wvs_take X k x hx
        unfold Takes at c2
        obtain ⟨a1, m1, b1, hf1, -, -, -, -, -⟩ := winV_form W (nextW W s x) hs2
        rw [hf, hf1] at c2
        unfold triV at c2
        have hc := hblk
        have c0 := hc.cell 0
        have c1 := hc.cell 1
        have c2' := hc.cell 2
        simp only [List.getElem?_cons_zero, List.getElem?_cons_succ] at c0 c1 c2'
        have C2 := Lib.hid c2
        have HH := Lib.hid (And.intro hs2 (And.intro hf1 hwt))
        have HOWN := Lib.hid hown
        have HO := Lib.hid ho
        have HBL := Lib.hid hblk
        obtain ⟨A1, cc1, rfl, hcc1, hcc2, -⟩ := own_form hown
        simp only [maxLen] at hcc2
        have hki : (k : Int) < (n : Int) := by have := HXN.out; omega
        have HKN := Lib.hid (show k < X.length from hlt)
        clear c2 hrd hown ho hblk hf hs hxl hs2 hf1 hc hx hwt hlt hk
        go_wp2_with fail
        refine C2.out.mono ?_
        rintro e w4 ⟨rfl, hr4, ho4⟩
        have HR4 := Lib.hid hr4
        have HO4 := Lib.hid (HO.out.trans ho4)
        have HK4 := Lib.hid (HBL.out.only ho4 (by decide))
        have HW4 := Lib.hid (own_only HOWN.out ho4 (by decide))
        have hsz4 : w.heap.size ≤ w4.heap.size := HO4.out.size
        have HPL := Lib.hid HK4.out.lt
        have hA1 : k + 1 ≤ maxLen := by have := HKN.out; simp only [maxLen]; omega
        have hA2 : (k + 1) * 8 ≤ 140737488355328 := by have := HKN.out; have := HXN.out; omega
        clear hr4 ho4 C2 c0 c1 c2' HOWN HO HBL
        go_wp2_with ((with_reducible show wpList _ _ _ (({ dst := some 45, op := _, type := _, pos := _, after := _, guard := _ } : Oper) :: _) _ _); go_must (refine wpList_app rfl (.tmp 42) (.tmp 44) 53 rfl w.heap.size 63 i0 (.int .u64 0) 1 8 Tryz.underlying53 hi hz0 hz1 hz2 rfl (by decide) _ _ _ rfl ((HW4.out.alloc _).alloc _) _ _ 1 1 _ rfl (rd_new2 _ _ #[.int .u64 (x : Int)] _) rfl (one1 (.int .u64 (x : Int)) rfl) hA1 hA2 (by simp; omega) ?_; intro v5 w5 hown5 hg5; have hb5 : Below w.heap.size w4 w5 := (((Below.refl w.heap.size w4).alloc hsz4 _).alloc (by simp; omega) _).grown hg5 (by simp; omega) (own_block HW4.out); have ho5 := OnlyT.grown (B := w.heap.size) (ts := [63]) hg5 (own_type ((HW4.out.alloc _).alloc _)) (by simp); have hq5 := blk_new2 (cs := [.int .i64 (a1 : Int), .int .i64 (m1 : Int), .int .i64 (b1 : Int)]) ho5 (by decide); have hp5 := blk_grown2 HK4.out ho5 (by decide); have hr5 := rdr_grown2 HR4.out ho5 (by decide) (by decide); clear ho5 hg5; have HQ5 := Lib.hid hq5; have HP5 := Lib.hid hp5; have HR5 := Lib.hid hr5; have HB5 := Lib.hid hb5; have HW5 := Lib.hid hown5; have e0 := hq5.cell 0; have e1 := hq5.cell 1; have e2 := hq5.cell 2; have d0 := hp5.cell 0; have d1 := hp5.cell 1; have d2 := hp5.cell 2; simp only [List.getElem?_cons_zero, List.getElem?_cons_succ] at e0 e1 e2 d0 d1 d2; have f0 := hp5.frozen 0; have f1 := hp5.frozen 1; have f2 := hp5.frozen 2; clear hq5 hp5 hr5 hb5 hown5))
        have hso := set3_only HP5.out (B := w.heap.size) HPP.out (.int .i64 (a1 : Int)) (.int .i64 (m1 : Int)) (.int .i64 (b1 : Int))
        obtain ⟨A2, cc2, rfl, -, -, -⟩ := own_form HW5.out
        have hlt := HKN.out
        have hxn := HXN.out
        refine ⟨⟨k + 1, nextW W s x, a1, m1, b1, hlt, ?_, HH.out.2.1, HH.out.1, HR5.out.only hso (by decide) (by decide), set3 HP5.out _ _ _, (HO4.out.late HB5.out).late (set3_below HPP.out _ _ _)⟩, ?_⟩
        · rw [HH.out.2.2]
          exact own_only HW5.out hso (by decide)
        · simp [lenOfV]; omega
      · skip
        have hrd2 := hrd
        rw [List.drop_of_length_le (by have := HXN.out; omega)] at hrd2
        have hrd3 : RdrIs wr g (List.replicate p false) 0 := by simpa [gorL] using hrd2
        rw [List.take_of_length_le (by have := HXN.out; omega)] at hown
        have hkx : k = X.length := by omega
        rw [hkx] at hown
        have HOWN := Lib.hid hown
        have HO := Lib.hid ho
        obtain ⟨A1, c1, rfl, hc1, hc2, -⟩ := own_form hown
        simp only [maxLen] at hc2
        have hki : ¬ (X.length : Int) < (n : Int) := by have := HXN.out; omega
        clear hrd hrd2 hown ho hblk hf hs hkx hk
        by_cases h8 : p < 8
        · have C2 := Lib.hid (rDone_ok p hrd3 h8 rfl)
          have hd : decide (p < 8) = true := by simpa using h8
          have HD := Lib.hid hd
          clear hrd3 h8 hd
          go_wp2_with fail
          refine C2.out.mono ?_
          rintro e w9 ⟨rfl, rfl⟩
          go_wp2
          go_ret2
          exact ⟨_, by rw [HD.out]; rfl, HOWN.out, HO.out.drew⟩
        · have C2 := Lib.hid (rDone_more hrd3 (by simp; omega) (by simp; omega))
          have hd : decide (p < 8) = false := by simpa using h8
          have HD := Lib.hid hd
          clear hrd3 h8 hd
          go_wp2_with fail
          refine C2.out.mono ?_
          rintro e w9 ⟨rfl, rfl⟩
          go_wp2
          go_ret2
          exact ⟨_, by rw [HD.out]; rfl, HOWN.out, HO.out.drew⟩
end Go.Proofs.YtcenbaajojdjlaaGreatDoor
