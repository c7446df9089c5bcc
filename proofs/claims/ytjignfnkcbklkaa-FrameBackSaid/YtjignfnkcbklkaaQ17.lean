/-
  Layer 32: the program: Put. · Layer 32: the reference's Few. · A stream that came in: four options, a slice of blocks, a number and a sum.
-/
import Derived.Test.YtjignfnkcbklkaaQ08
import Derived.Test.YtjignfnkcbklkaaQ10
import Derived.Test.YtjignfnkcbklkaaQ14
import Derived.Test.YtjignfnkcbklkaaQ16
import Derived.Lib.QuietBelow
import Derived.BigQuiet
import Derived.Lib.MinMax
import Derived.Deep.Slices
import Derived.ChangeSame
import Derived.Test.YtjignfnkcbklkaaProg
import Derived.Lib.SmallJoins
import Derived.Deep.Fields
namespace Go.Proofs.Ytjignfnkcbklkaa
open Go.RowKit Go.Sort

/-- The box of a stream. -/
def StrI (w : World) (g : Nat) (b u r m : Int) (v : Value) (tt su : Int) : Prop := Blk w g 27 [.int .i64 b, .int .i64 u, .int .i64 r, .int .i64 m, v, .int .i64 tt, .int .u32 su]
theorem StrI.cells {w : World} {g : Nat} {b u r m tt su : Int} {v : Value} (h : StrI w g b u r m v tt su) : w.cell? ⟨g, 0, none⟩ = some (.int .i64 b) ∧ w.cell? ⟨g, 1, none⟩ = some (.int .i64 u) ∧ w.cell? ⟨g, 2, none⟩ = some (.int .i64 r) ∧ w.cell? ⟨g, 3, none⟩ = some (.int .i64 m) ∧ w.cell? ⟨g, 4, none⟩ = some v ∧ w.cell? ⟨g, 5, none⟩ = some (.int .i64 tt) ∧ w.cell? ⟨g, 6, none⟩ = some (.int .u32 su) := ⟨Blk.cell h 0, Blk.cell h 1, Blk.cell h 2, Blk.cell h 3, Blk.cell h 4, Blk.cell h 5, Blk.cell h 6⟩
theorem StrI.grow {w w' : World} {g : Nat} {b u r m tt su : Int} {v : Value} (h : StrI w g b u r m v tt su) (hb : Below w.heap.size w w') : StrI w' g b u r m v tt su := Blk.grow h hb
theorem rows_at {w : World} {B : Nat} {A : Option Addr} {rs : List BRow} (h : RdRows w B A rs) {k : Nat} {x : BRow} (hk : rs[k]? = some x) : ∃ b off, A = some ⟨b, off, none⟩ ∧ b < B ∧ w.cell? ⟨b, off + k, none⟩ = some (.slice x.A x.n x.c) ∧ x.ok w B := by
  obtain ⟨b, off, e, hb, hc⟩ := h.1 k x.val (by rw [List.getElem?_map, hk]; rfl)
  exact ⟨b, off, e, hb, hc, h.2 x (List.mem_of_getElem? hk)⟩
theorem own_ne32 {w : World} {B M n : Nat} {v : Value} {xs : List Value} {t : TypeId} {cs : List Value} (h : Blk w M t cs) (ho : w.ownsRow B 5 1 v n xs) (hne : t ≠ 5) : ∀ r, v.ownBlock = some r → r ≠ M := fun r e => by
  have h2 := (own_type ho r e).2
  intro e2
  subst e2
  exact (h.ofType.ne hne) h2
/-- At the head of a round of Put. -/
structure PutV (W : World) (b u r m : Int) (sv : Value) (tt su : Int) (H : List UInt8) (xs : List BP) (k : Nat) (v : Value) (wr : World) : Prop where
  box : StrI wr W.heap.size b u r m sv tt su
  own : wr.ownsRow (W.heap.size + 1) 5 1 v (H ++ bytesP (xs.take k)).length (bvs (H ++ bytesP (xs.take k)))
  below : Below W.heap.size W wr
theorem PutV.grow {W : World} {b u r m : Int} {sv : Value} {tt su : Int} {H : List UInt8} {xs : List BP} {k : Nat} {v : Value} {wr w' : World} (h : PutV W b u r m sv tt su H xs k v wr) (hb : Below wr.heap.size wr w') : PutV W b u r m sv tt su H xs k v w' :=
  ⟨h.box.grow hb, own_kept h.own hb, h.below.trans (hb.mono h.below.size)⟩
set_option maxRecDepth 100000 in
set_option maxHeartbeats 8000000 in
theorem frmPut_any {b u r m tt su : Int} {A2 A1 : Option Addr} {c2 c1 : Nat} {bs : List B7} {rs : List BRow} (W : World) (hb : Rd W W.heap.size A2 (blksI bs)) (hrs : RdRows W W.heap.size A1 rs) (hbl : bs.length ≤ 50) (hfew : ∀ x ∈ rs, x.n ≤ 1000)
    (hin : ∀ x ∈ bs, x.inI) (hsu : 0 ≤ su ∧ su ≤ 4294967295) :
    Calls Try.prog 7 #[.agg #[.int .i64 b, .int .i64 u, .int .i64 r, .int .i64 m, .slice A2 bs.length c2, .int .i64 tt, .int .u32 su], .slice A1 rs.length c1] W (PutOut W (putR b u r m bs.length rs.length (bs.zip (rs.map BRow.l)) su)) := by
  obtain ⟨su, rfl⟩ : ∃ n : Nat, su = (n : Int) := ⟨su.toNat, by omega⟩
  obtain ⟨i0, hi, hz0, hz1, hz2⟩ := info_parts info_u8
  have hB1 : Below W.heap.size W (W.alloc (.cells #[.int .i64 b, .int .i64 u, .int .i64 r, .int .i64 m, .slice A2 bs.length c2, .int .i64 tt, .int .u32 su] 27)) := (Below.refl _ _).alloc (Nat.le_refl _) _
  have hS1 : StrI (W.alloc (.cells #[.int .i64 b, .int .i64 u, .int .i64 r, .int .i64 m, .slice A2 bs.length c2, .int .i64 tt, .int .u32 su] 27)) W.heap.size b u r m (.slice A2 bs.length c2) tt su := blk_new W _ _ rfl
  have HB1 := Lib.hid hB1
  have HS1 := Lib.hid hS1
  unfold putR
  cases hmay : mayO b u r m with
  | false =>
    rw [if_pos rfl]
    have C := Lib.hid (hdPut_no hmay)
    unfold optV at C
    clear hb hrs hfew hin hB1 hS1 hmay
    go_enter Try.func7, Try.ntmps7
    go_wp2_with fail
    refine (C.out _).mono ?_
    rintro _ w2 ⟨rfl, hb2⟩
    have HB2 := Lib.hid (HB1.out.trans (hb2.mono HB1.out.size))
    clear hb2 C
    go_wp2
    go_ret2
    exact ⟨_, rfl, nilB32 _, HB2.out⟩
  | true =>
    rw [if_neg (show ¬ true = false by decide)]
    obtain ⟨b, u, r, m, rfl, rfl, rfl, rfl, -, hb2, hu, hr10, hm6⟩ := mayO_nat hmay
    have hu8 : u ≤ 8 := by rcases hu with h | h | h | h <;> omega
    have C := Lib.hid (fun w => hdPut_own (b := b) (u := u) (r := r) (m := m) hb2 hu8 hr10 hm6 hmay w)
    simp only [Int.toNat_natCast]
    have hHl : (headS b u r m).length ≤ 21 := by rw [headS_len]; have := lput_le b (by omega); omega
    obtain ⟨H, hH⟩ : ∃ H, H = headS b u r m := ⟨_, rfl⟩
    rw [← hH] at C hHl ⊢
    unfold optV at C
    clear hmay hH hu hu8 hr10 hm6 hB1 hS1
    by_cases hlen : rs.length ≠ bs.length
    · rw [if_pos hlen]
      have hli : ¬ (rs.length : Int) = (bs.length : Int) := by omega
      clear hb hrs hfew hin
      go_enter Try.func7, Try.ntmps7
      go_wp2_with fail
      refine (C.out _).mono ?_
      rintro _ w2 ⟨v2, rfl, -, hbw⟩
      have HB2 := Lib.hid (HB1.out.trans (hbw.mono HB1.out.size))
      obtain ⟨q0, q1, q2, q3, q4, q5, q6⟩ := (HS1.out.grow hbw).cells
      clear hbw C
      go_wp2
      go_ret2
      exact ⟨_, rfl, nilB32 _, HB2.out⟩
    · rw [if_neg hlen]
      have hlen' : rs.length = bs.length := by omega
      have hli : (rs.length : Int) = (bs.length : Int) := by omega
      obtain ⟨xs, hxs⟩ : ∃ xs, xs = bs.zip (rs.map BRow.l) := ⟨_, rfl⟩
      rw [← hxs]
      have hxl : xs.length = bs.length := by rw [hxs, List.length_zip, List.length_map, hlen']; omega
      have hxk : ∀ k, k < bs.length → ∃ x y, bs[k]? = some x ∧ rs[k]? = some y ∧ xs[k]? = some (x, y.l) := fun k hk => by
        have e : (bs.zip (rs.map BRow.l))[k]? = some (bs[k], (rs[k]'(by omega)).l) := by rw [List.getElem?_eq_getElem (by rw [List.length_zip, List.length_map]; omega), List.getElem_zip, List.getElem_map]
        exact ⟨bs[k], rs[k]'(by omega), List.getElem?_eq_getElem hk, List.getElem?_eq_getElem _, by have h := e; rwa [← hxs] at h⟩
      have hxq : ∀ q ∈ xs, q.1.inI ∧ q.2.length ≤ 1000 := fun q hq => by
        obtain ⟨i, hil, hi⟩ := List.getElem_of_mem hq
        obtain ⟨x, y, h1, h2, h3⟩ := hxk i (by omega)
        rw [List.getElem?_eq_getElem hil, hi] at h3
        injection h3 with h3
        rw [h3]
        obtain ⟨_, _, _, _, _, hok⟩ := rows_at hrs h2
        exact ⟨hin x (List.mem_of_getElem? h1), by have := hfew y (List.mem_of_getElem? h2); have := hok.1; simp only; omega⟩
      have HXQ := Lib.hid hxq
      have HBR := Lib.hid hb
      have HRR := Lib.hid hrs
      have HF := Lib.hid hfew
      have HIN := Lib.hid hin
      have HXK := Lib.hid hxk
      have HXL := Lib.hid hxl
      obtain ⟨K, hK⟩ : ∃ K, K = bs.length := ⟨_, rfl⟩
      rw [hlen', ← hK] 
      rw [← hK] at HXK HXL HS1 HB1 hbl
      obtain ⟨o, ho⟩ : ∃ o, o = (if xs.all (okP (b : Int)) = true then (H ++ bytesP xs ++ endL (rawP xs) su, 0) else ([], 15)) := ⟨_, rfl⟩
      rw [← ho]
      have HO := Lib.hid ho
      clear hxq hb hrs hfew hin hxk hxs hxl hlen hlen' hli hK ho
      go_enter Try.func7, Try.ntmps7
      go_wp2_with fail
      refine (C.out _).mono ?_
      rintro _ w2 ⟨v2, rfl, ho2, hbw⟩
      have hbw2 := HB1.out.trans (hbw.mono HB1.out.size)
      have hs2 := HS1.out.grow hbw
      obtain ⟨q0, q1, q2, q3, q4, q5, q6⟩ := hs2.cells
      have HV := Lib.hid (⟨hs2, by rw [List.take_zero]; rw [show bytesP [] = [] from rfl, List.append_nil]; exact own_more ho2 (by simp), hbw2⟩ : PutV W (b : Int) (u : Int) (r : Int) (m : Int) (.slice A2 K c2) tt su H xs 0 v2 w2)
      clear ho2 hbw hbw2 hs2 C HB1 HS1
      go_wp2_with fail
      go_loopw [6, 8, 31] (fun sv tv iv wr => ∃ (k : Nat) (v : Value), k ≤ K ∧ iv = .int .i64 (k : Int) ∧ tv = .int .i64 (rawP (xs.take k) : Int) ∧ sv = v ∧ (∀ q ∈ xs.take k, okP (b : Int) q = true) ∧ PutV W (b : Int) (u : Int) (r : Int) (m : Int) (.slice A2 K c2) tt su H xs k v wr) (fun _ _ iv _ => K - (intOf iv).toNat)
      case atStart => exact ⟨0, v2, Nat.zero_le _, rfl, rfl, rfl, by simp, HV.out⟩
      case round =>
        clear HV q0 q1 q2 q3 q4 q5 q6
        obtain ⟨k, v, hk, rfl, rfl, rfl, hall, hV⟩ := hrel
        have hle := (bytesP_le (xs.take k) hb2 (fun q hq => ⟨(HXQ.out q (List.mem_of_mem_take hq)).1, hall q hq, (HXQ.out q (List.mem_of_mem_take hq)).2⟩))
        have htl : (xs.take k).length ≤ 50 := by rw [List.length_take]; omega
        have hLn : (H ++ bytesP (xs.take k)).length ≤ 60000 := by rw [List.length_append]; omega
        have hRn : rawP (xs.take k) ≤ 1000000000 := by omega
        by_cases hlt : k < K
        · obtain ⟨x, y, hx, hy, hxy⟩ := HXK.out k hlt
          have hxi := HIN.out x (List.mem_of_getElem? hx)
          obtain ⟨b2, off2, rfl, hbl2, x0, x1, x2, x3, x4, x5, x6⟩ := rd_blk (HBR.out.below hV.below) hx
          obtain ⟨br, orr, rfl, hbr, hrow, hyok⟩ := rows_at HRR.out hy
          have hyf := HF.out y (List.mem_of_getElem? hy)
          obtain ⟨mo, ra, mi, co, xu, fr, pl⟩ := x
          obtain ⟨yA, yn, yc, yl⟩ := y
          simp only at x0 x1 x2 x3 x4 x5 x6 hrow hxy hyf
          obtain ⟨hy1, hy2, -, hy4⟩ := hyok
          have HXI := Lib.hid hxi
          simp only at hy1 hy2 hy4
          obtain ⟨⟨hra0, hra1⟩, ⟨hmi0, hmi1⟩, ⟨hco0, hco1⟩, -, -⟩ := hxi
          simp only at hra0 hra1 hmi0 hmi1 hco0 hco1
          obtain ⟨G, hG⟩ : ∃ G, G = wr.heap.size := ⟨_, rfl⟩
          obtain ⟨w3, hw3⟩ : ∃ w3, w3 = wr.alloc (.cells #[.int .i64 mo, .int .i64 ra, .int .i64 mi, .int .i64 co, .int .u32 xu, .int .i64 fr, .int .i64 pl] 37) := ⟨_, rfl⟩
          have hb3 : Below wr.heap.size wr w3 := by rw [hw3]; exact (Below.refl _ _).alloc (Nat.le_refl _) _
          have hX3 : Blk w3 G 37 [.int .i64 mo, .int .i64 ra, .int .i64 mi, .int .i64 co, .int .u32 xu, .int .i64 fr, .int .i64 pl] := by rw [hw3]; exact blk_new _ _ _ hG
          have hV3 := hV.grow hb3
          have hsz := hV.below.size
          have hrow3 : w3.cell? ⟨br, orr + k, none⟩ = some (.slice yA yn yc) := ((hV.below.trans (hb3.mono hV.below.size)).cell (p := ⟨br, orr + k, none⟩) hbr).trans hrow
          have HROW0 := Lib.hid hrow
          have CC := Lib.hid (fun d os => Calls.regrown_of (blkCheck_any (b := b) (mo := mo) (ra := ra) (mi := mi) (co := co) (su := xu) (fr := fr) (pl := pl) (wd := (u : Int)) (rc := (r : Int)) (md := (m : Int)) hb2 ⟨hra0, hra1⟩ ⟨hmi0, hmi1⟩ ⟨hco0, hco1⟩ (grow (redrawn w3 d) os)))
          unfold blkV at CC
          have d0 : w3.cell? ⟨G, 0, none⟩ = _ := hX3.cell 0
          have d1 : w3.cell? ⟨G, 1, none⟩ = _ := hX3.cell 1
          have d2 : w3.cell? ⟨G, 2, none⟩ = _ := hX3.cell 2
          have d3 : w3.cell? ⟨G, 3, none⟩ = _ := hX3.cell 3
          have d4 : w3.cell? ⟨G, 4, none⟩ = _ := hX3.cell 4
          have d5 : w3.cell? ⟨G, 5, none⟩ = _ := hX3.cell 5
          have d6 : w3.cell? ⟨G, 6, none⟩ = _ := hX3.cell 6
          have o0 : w3.cell? ⟨W.heap.size, 0, none⟩ = _ := Blk.cell hV3.box 0
          have o1 : w3.cell? ⟨W.heap.size, 1, none⟩ = _ := Blk.cell hV3.box 1
          have o2 : w3.cell? ⟨W.heap.size, 2, none⟩ = _ := Blk.cell hV3.box 2
          have o3 : w3.cell? ⟨W.heap.size, 3, none⟩ = _ := Blk.cell hV3.box 3
          simp only [List.getElem?_cons_zero, List.getElem?_cons_succ] at d0 d1 d2 d3 d4 d5 d6 o0 o1 o2 o3
          have j0 := cell_regrown d0
          have j1 := cell_regrown d1
          have j2 := cell_regrown d2
          have j3 := cell_regrown d3
          have j4 := cell_regrown d4
          have j5 := cell_regrown d5
          have j6 := cell_regrown d6
          have y0 := cell_regrown o0
          have y1 := cell_regrown o1
          have y2 := cell_regrown o2
          have y3 := cell_regrown o3
          have yr := cell_regrown hrow3
          have hki : (k : Int) < (K : Int) := by omega
          have HX3 := Lib.hid hX3
          have HV3 := Lib.hid hV3
          have HW3 := Lib.hid hw3
          have HG := Lib.hid hG
          have HXY := Lib.hid (And.intro hxy (And.intro hall (And.intro hbr hsz)))
          have HROW := Lib.hid hrow3
          have HY := Lib.hid (And.intro hy1 (And.intro hy2 hy4))
          obtain ⟨E, hE⟩ : ∃ E, E = chkB mo ra mi co (b : Int) := ⟨_, rfl⟩
          rw [← hE] at CC
          have HE := Lib.hid hE
          have HV := Lib.hid hV
          clear hrow hw3 hb3 hX3 hV3 hG hx hy hxy hall hV hy1 hy2 hy4 hbl2 hbr hE d0 d1 d2 d3 d4 d5 d6 o0 o1 o2 o3 hrow3
          go_wp2_with fail
          rw [← HW3.out, ← HG.out]
          cases hmk : mayBk mo ra mi co (b : Int) with
          | false =>
            have hE15 : E = 15 := by rw [HE.out, chkB_no hmk]
            have hO : o = ([], 15) := by
              rw [HO.out, if_neg]
              rw [all_take_false HXY.out.1 (by unfold okP; simp only; rw [hmk]; rfl)]
              decide
            subst hE15
            have HO2 := Lib.hid hO
            clear hO hmk
            refine wp_region_quiet_below (by kernel_rfl) (by kernel_rfl) ?_
            repeat (go_big_quiet_step ((go_at_call 12; exact CC.out _ _)))
            refine wpQuiet_nil ?_
            intro _ hw'
            obtain ⟨⟨dq, osq⟩, hw''⟩ := hw'
            subst hw''
            have HBE := Lib.hid (HV3.out.below.trans ((below_regrown w3 dq osq).mono HV3.out.below.size))
            clear j0 j1 j2 j3 j4 j5 j6 y0 y1 y2 y3 yr CC
            simp only at HBE ⊢
            obtain ⟨w5, hw5⟩ : ∃ w5, w5 = grow (redrawn w3 dq) osq := ⟨_, rfl⟩
            rw [← hw5] at HBE ⊢
            clear hw5
            go_wp2
            go_ret2
            rw [HO2.out]
            exact ⟨_, rfl, nilB32 _, HBE.out⟩
          | true =>
            have hE0 : E = 0 := by rw [HE.out, chkB_yes hmk]
            subst hE0
            by_cases hlc : (yn : Int) = co
            · obtain ⟨nmo, nra, nmi, nco, nsu, he, l1, l2, l3, l4, l5, l6, l7, l8, l9, l10⟩ := okP_nat (q := ((⟨mo, ra, mi, co, xu, fr, pl⟩ : B7), yl)) HXI.out (by unfold okP; simp only; rw [hmk]; simp only [Bool.true_and, decide_eq_true_eq]; rw [HY.out.1]; exact hlc) hb2
              have hok : okP (b : Int) ((⟨mo, ra, mi, co, xu, fr, pl⟩ : B7), yl) = true := by unfold okP; simp only; rw [hmk]; simp only [Bool.true_and, decide_eq_true_eq]; rw [HY.out.1]; exact hlc
              simp only [B7.mk.injEq] at he
              obtain ⟨rfl, rfl, rfl, rfl, rfl, -, -⟩ := he
              have hyl : yl.length = yn := HY.out.1
              have hyn : yn ≤ 1000 := hyf
              simp only at l7 l8 l10
              have hbp : (bytesP (xs.take (k + 1))) = bytesP (xs.take k) ++ (blkL nmo nra nmi nco nsu ++ yl) := by
                rw [List.take_add_one, HXY.out.1, Option.toList_some, bytesP_snoc, l8]
              have hrp : rawP (xs.take (k + 1)) = rawP (xs.take k) + nra := by
                rw [List.take_add_one, HXY.out.1, Option.toList_some, rawP_snoc, l10]
              have hall' : ∀ q ∈ xs.take (k + 1), okP (b : Int) q = true := by
                rw [List.take_add_one, HXY.out.1, Option.toList_some]
                intro q hq
                rcases List.mem_append.1 hq with h | h
                · exact HXY.out.2.1 q h
                · rw [List.mem_singleton.1 h]; exact hok
              have hle' := (bytesP_le (xs.take (k + 1)) hb2 (fun q hq => ⟨(HXQ.out q (List.mem_of_mem_take hq)).1, hall' q hq, (HXQ.out q (List.mem_of_mem_take hq)).2⟩)).1
              have htl' : (xs.take (k + 1)).length ≤ 50 := by rw [List.length_take]; omega
              rw [hbp, List.length_append, List.length_append] at hle'
              have hbl17 : (blkL nmo nra nmi nco nsu).length ≤ 60000 := by omega
              clear hle' htl'
              obtain ⟨L, hL⟩ : ∃ L, L = blkL nmo nra nmi nco nsu := ⟨_, rfl⟩
              have C5 := Lib.hid (fun w => blkPut_any (mo := nmo) (ra := nra) (mi := nmi) (co := nco) (su := nsu) (fr := fr) (pl := pl) l1 l3 l4 l5 l6 w)
              unfold blkV at C5
              rw [← hL] at C5 hbp hbl17
              have HP := Lib.hid (And.intro hbp (And.intro hrp hall'))
              clear hbp hrp hall' hok l1 l7 l8 l9 l10 hL hmk
              refine wp_region_quiet_below (by kernel_rfl) (by kernel_rfl) ?_
              repeat (go_big_quiet_step ((go_at_call 12; exact CC.out _ _)))
              refine wpQuiet_nil ?_
              intro _ hw'
              obtain ⟨⟨dq, osq⟩, hw''⟩ := hw'
              subst hw''
              clear j0 j1 j2 j3 j4 j5 j6 y0 y1 y2 y3 yr CC
              have hb5 := below_regrown w3 dq osq
              simp only at hb5 ⊢
              obtain ⟨w5, hw5⟩ : ∃ w5, w5 = grow (redrawn w3 dq) osq := ⟨_, rfl⟩
              rw [← hw5] at hb5 ⊢
              clear hw5
              have HX5 := Lib.hid (HX3.out.grow hb5)
              have e0 : w5.cell? ⟨G, 0, none⟩ = _ := HX5.out.cell 0
              have e1 : w5.cell? ⟨G, 1, none⟩ = _ := HX5.out.cell 1
              have e2 : w5.cell? ⟨G, 2, none⟩ = _ := HX5.out.cell 2
              have e3 : w5.cell? ⟨G, 3, none⟩ = _ := HX5.out.cell 3
              have e4 : w5.cell? ⟨G, 4, none⟩ = _ := HX5.out.cell 4
              have e5 : w5.cell? ⟨G, 5, none⟩ = _ := HX5.out.cell 5
              have e6 : w5.cell? ⟨G, 6, none⟩ = _ := HX5.out.cell 6
              simp only [List.getElem?_cons_zero, List.getElem?_cons_succ] at e0 e1 e2 e3 e4 e5 e6
              have HV5 := Lib.hid (HV3.out.grow hb5)
              clear hb5
              go_wp2_with fail
              refine (C5.out _).mono ?_
              rintro _ w6 ⟨v6, rfl, ho6, hb6⟩
              have HX6 := Lib.hid (HX5.out.grow hb6)
              have HV6 := Lib.hid (HV5.out.grow hb6)
              obtain ⟨A6, c6, rfl, -, -, -⟩ := own_form ho6
              have HR6 := Lib.hid (Rd.of_own ho6)
              clear e0 e1 e2 e3 e4 e5 e6 ho6 hb6 HX5 HV5 C5
              go_wp2_with (first | ((with_reducible show wpList _ _ _ (({ dst := some 54, op := _, type := _, pos := _, after := _, guard := _ } : Oper) :: _) _ _); go_must (refine wpList_app rfl (.tmp 51) (.tmp 53) 29 rfl (W.heap.size + 1) 5 i0 (.int .u8 0) 1 1 Try.underlying29 hi hz0 hz1 hz2 rfl (by decide) _ _ _ rfl HV6.out.own w6.heap.size A6 L.length c6 (bvs L) rfl HR6.out (by rw [bvs_length, Nat.mul_one]) (bvs_one _) (by simp only [maxLen]; omega) (by omega) (Blk.lt HV6.out.box) ?_; intro v7 w7 hown7 hg7; have hb7 := HV6.out.below.grown hg7 HV6.out.below.size (fun g hg => by have := own_block HV6.out.own g hg; omega); have HX7 := Lib.hid (blk_row HX6.out hg7 (own_ne32 HX6.out HV6.out.own (by decide))); have HBX7 := Lib.hid (blk_row HV6.out.box hg7 (own_ne32 HV6.out.box HV6.out.own (by decide))); have hrow7 : w7.cell? ⟨br, orr + k, none⟩ = some (.slice yA yn yc) := (hb7.cell (p := ⟨br, orr + k, none⟩) HXY.out.2.2.1).trans HROW0.out; have HR7 := Lib.hid (HY.out.2.2.below hb7); have HO7 := Lib.hid hown7; have HB7 := Lib.hid hb7; clear hown7 hg7 hb7)) | ((with_reducible show wpList _ _ _ (({ dst := some 60, op := _, type := _, pos := _, after := _, guard := _ } : Oper) :: _) _ _); go_must (refine wpList_app rfl (.tmp 55) (.tmp 59) 29 rfl (W.heap.size + 1) 5 i0 (.int .u8 0) 1 1 Try.underlying29 hi hz0 hz1 hz2 rfl (by decide) _ _ _ rfl HO7.out W.heap.size yA yn yc (bvs yl) rfl HR7.out (by rw [bvs_length, Nat.mul_one]; exact HY.out.1) (bvs_one _) (by simp only [maxLen]; omega) (by omega) (Blk.lt HBX7.out) ?_; intro v8 w8 hown8 hg8; have hb8 := HB7.out.grown hg8 HB7.out.size (fun g hg => by have := own_block HO7.out g hg; omega); have HX8 := Lib.hid (blk_row HX7.out hg8 (own_ne32 HX7.out HO7.out (by decide))); have HBX8 := Lib.hid (blk_row HBX7.out hg8 (own_ne32 HBX7.out HO7.out (by decide))); have f1 : w8.cell? ⟨G, 1, none⟩ = _ := HX8.out.cell 1; simp only [List.getElem?_cons_zero, List.getElem?_cons_succ] at f1; have HO8 := Lib.hid hown8; have HB8 := Lib.hid hb8; clear hown8 hg8 hb8)))
              go_roundw
              case rel =>
                refine ⟨k + 1, _, by omega, by go_num, ?_, rfl, HP.out.2.2, ⟨HBX8.out, ?_, HB8.out⟩⟩
                · rw [HP.out.2.1]
                  go_num
                · have h := HO8.out
                  rw [HP.out.1, show H ++ (bytesP (xs.take k) ++ (L ++ yl)) = H ++ bytesP (xs.take k) ++ L ++ yl by simp, bvs_append, bvs_append, List.length_append, List.length_append, HY.out.1]
                  exact h
              case measure => simp [intOf]; omega
            · have hO : o = ([], 15) := by
                rw [HO.out, if_neg]
                rw [all_take_false HXY.out.1 (by unfold okP; simp only; rw [hmk]; simp only [Bool.true_and, decide_eq_false_iff_not]; rw [HY.out.1]; exact hlc)]
                decide
              have HO2 := Lib.hid hO
              clear hO hmk
              refine wp_region_quiet_below (by kernel_rfl) (by kernel_rfl) ?_
              repeat (go_big_quiet_step ((go_at_call 12; exact CC.out _ _)))
              refine wpQuiet_nil ?_
              intro _ hw'
              obtain ⟨⟨dq, osq⟩, hw''⟩ := hw'
              subst hw''
              have HBE := Lib.hid (HV3.out.below.trans ((below_regrown w3 dq osq).mono HV3.out.below.size))
              clear j0 j1 j2 j3 j4 j5 j6 y0 y1 y2 y3 yr CC
              simp only at HBE ⊢
              obtain ⟨w5, hw5⟩ : ∃ w5, w5 = grow (redrawn w3 dq) osq := ⟨_, rfl⟩
              rw [← hw5] at HBE ⊢
              clear hw5
              go_wp2
              go_ret2
              rw [HO2.out]
              exact ⟨_, rfl, nilB32 _, HBE.out⟩
        · obtain rfl : k = K := by omega
          have hT : xs.take k = xs := List.take_of_length_le (by rw [HXL.out]; exact Nat.le_refl _)
          have ho := hV.own
          rw [hT] at ho hall hRn hLn ⊢
          have hO : o = (H ++ bytesP xs ++ endL (rawP xs) su, 0) := by rw [HO.out, if_pos (List.all_eq_true.2 hall)]
          have C9 := Lib.hid (fun w => blkPutEnd_any (t := (rawP xs : Int)) (by omega) (su := su) (by omega) w)
          rw [Int.toNat_natCast] at C9
          have s6 := hV.box.cells.2.2.2.2.2.2
          have hel : (endL (rawP xs) su).length ≤ 11 := endL_len (by omega)
          obtain ⟨L, hL⟩ : ∃ L, L = endL (rawP xs) su := ⟨_, rfl⟩
          rw [← hL] at C9 hO hel
          have HO2 := Lib.hid hO
          have HW := Lib.hid (And.intro ho (And.intro hV.box hV.below))
          clear hO hL ho hV hall HXQ HBR HRR HF HIN HXK
          go_wp2_with fail
          refine (C9.out _).mono ?_
          rintro _ w6 ⟨v6, rfl, ho6, hb6⟩
          have HB6 := Lib.hid (HW.out.2.2.trans (hb6.mono HW.out.2.2.size))
          have HX6 := Lib.hid (HW.out.2.1.grow hb6)
          have HO6 := Lib.hid (own_kept HW.out.1 hb6)
          obtain ⟨A6, c6, rfl, -, -, -⟩ := own_form ho6
          have HR6 := Lib.hid (Rd.of_own ho6)
          clear s6 ho6 hb6 HW C9
          go_wp2_with ((with_reducible show wpList _ _ _ (({ dst := some 71, op := _, type := _, pos := _, after := _, guard := _ } : Oper) :: _) _ _); go_must (refine wpList_app rfl (.tmp 66) (.tmp 70) 29 rfl (W.heap.size + 1) 5 i0 (.int .u8 0) 1 1 Try.underlying29 hi hz0 hz1 hz2 rfl (by decide) _ _ _ rfl HO6.out w6.heap.size A6 L.length c6 (bvs L) rfl HR6.out (by rw [bvs_length, Nat.mul_one]) (bvs_one _) (by simp only [maxLen]; omega) (by omega) (Blk.lt HX6.out) ?_; intro v7 w7 hown7 hg7; have hb7 := HB6.out.grown hg7 HB6.out.size (fun g hg => by have := own_block HO6.out g hg; omega); have HO7 := Lib.hid hown7; have HB7 := Lib.hid hb7; clear hown7 hg7 hb7))
          go_ret2
          rw [HO2.out]
          exact ⟨_, rfl, IsBytes.of_own (by rw [List.length_append, bvs_append]; exact HO7.out), HB7.out⟩
end Go.Proofs.Ytjignfnkcbklkaa
namespace Go.Proofs.Ytjignfnkcbklkaa
open Go.RowKit Go.Sort

def sumF : List BRow → Nat
  | [] => 0
  | r :: rs => min r.n 1000 + sumF rs
theorem sumF_snoc : ∀ (rs : List BRow) (r : BRow), sumF (rs ++ [r]) = sumF rs + min r.n 1000
  | [], r => by simp [sumF]
  | x :: rs, r => by
    have := sumF_snoc rs r
    simp only [List.cons_append, sumF]
    omega
theorem sumF_le : ∀ rs : List BRow, sumF rs ≤ 1000 * rs.length
  | [] => Nat.le_refl _
  | x :: rs => by
    have := sumF_le rs
    simp only [sumF, List.length_cons]
    omega
set_option maxRecDepth 100000 in
set_option maxHeartbeats 4000000 in
theorem refFew_any {b u r m tt su : Int} {A2 A1 : Option Addr} {nb c2 c1 : Nat} {rs : List BRow} (W : World) (hrs : RdRows W W.heap.size A1 rs) (hrl : rs.length ≤ 9223372036854775807) :
    Calls Try.prog 5 #[.agg #[.int .i64 b, .int .i64 u, .int .i64 r, .int .i64 m, .slice A2 nb c2, .int .i64 tt, .int .u32 su], .slice A1 rs.length c1] W
      fun e w' => e = .returned (.bool (decide (nb ≤ 50) && decide (rs.length ≤ 50) && decide (sumF (rs.take 60) ≤ 900))) ∧ Below W.heap.size W w' := by
  have hB1 : Below W.heap.size W (W.alloc (.cells #[.int .i64 b, .int .i64 u, .int .i64 r, .int .i64 m, .slice A2 nb c2, .int .i64 tt, .int .u32 su] 27)) := (Below.refl _ _).alloc (Nat.le_refl _) _
  have hS1 : StrI (W.alloc (.cells #[.int .i64 b, .int .i64 u, .int .i64 r, .int .i64 m, .slice A2 nb c2, .int .i64 tt, .int .u32 su] 27)) W.heap.size b u r m (.slice A2 nb c2) tt su := blk_new W _ _ rfl
  obtain ⟨w1, hw1⟩ : ∃ w1, w1 = W.alloc (.cells #[.int .i64 b, .int .i64 u, .int .i64 r, .int .i64 m, .slice A2 nb c2, .int .i64 tt, .int .u32 su] 27) := ⟨_, rfl⟩
  rw [← hw1] at hB1 hS1
  have HW1 := Lib.hid hw1
  obtain ⟨K, hK⟩ : ∃ K, K = rs.length := ⟨_, rfl⟩
  rw [← hK] at hrl ⊢
  have HB1 := Lib.hid hB1
  have q4 := hS1.cells.2.2.2.2.1
  have HRR := Lib.hid (And.intro (hrs.below hB1) hK)
  clear hw1 hB1 hS1 hrs hK
  go_enter Try.func5, Try.ntmps5
  go_wp2_with fail
  rw [← HW1.out]
  go_loop [5, 6] (fun nv iv => ∃ k : Nat, k ≤ K ∧ k ≤ 60 ∧ iv = .int .i64 (k : Int) ∧ nv = .int .i64 (sumF (rs.take k) : Int)) (fun _ iv => 61 - (intOf iv).toNat)
  case atStart => exact ⟨0, Nat.zero_le _, by omega, rfl, rfl⟩
  case round =>
    obtain ⟨k, hk, hk6, rfl, rfl⟩ := hrel
    have hs := sumF_le (rs.take k)
    have htl : (rs.take k).length ≤ 60 := by rw [List.length_take]; omega
    by_cases hlt : k < K
    · have hki : (k : Int) < (K : Int) := by omega
      by_cases h6 : k < 60
      · have h6i : (k : Int) < 60 := by omega
        obtain ⟨x, hx⟩ : ∃ x, rs[k]? = some x := ⟨_, List.getElem?_eq_getElem (by rw [← HRR.out.2]; exact hlt)⟩
        obtain ⟨br, off, rfl, -, hc, hok⟩ := rows_at HRR.out.1 hx
        have hsn : sumF (rs.take (k + 1)) = sumF (rs.take k) + min x.n 1000 := by
          rw [List.take_add_one, hx, Option.toList_some, sumF_snoc]
        have HSN := Lib.hid hsn
        obtain ⟨xA, xn, xc, xl⟩ := x
        simp only at hc
        have hxn : xn ≤ 9223372036854775807 := by have := hok.2.1; have := hok.2.2.1; simp only at *; omega
        clear hx hok hsn
        go_wp2
        refine ⟨⟨k + 1, by omega, by omega, by go_num, ?_⟩, by simp [intOf]; omega⟩
        rw [HSN.out]
        simp only
        congr 1
        omega
      · have h6i : ¬ (k : Int) < 60 := by omega
        have HT := Lib.hid (show sumF (rs.take 60) = sumF (rs.take k) by rw [show k = 60 by omega])
        by_cases d1 : nb ≤ 50
        · have d1i : (nb : Int) ≤ 50 := by omega
          by_cases d2 : K ≤ 50
          · exfalso
            omega
          · have d2i : ¬ (K : Int) ≤ 50 := by omega
            clear HRR hs htl hrl
            go_wp2
            go_ret
            exact ⟨by first | rfl | (have h := HT.out; simp_all), HB1.out⟩
        · have d1i : ¬ (nb : Int) ≤ 50 := by omega
          clear HRR hs htl hrl
          go_wp2
          go_ret
          exact ⟨by first | rfl | (have h := HT.out; simp_all), HB1.out⟩
    · have hki : ¬ (k : Int) < (K : Int) := by omega
      have HT := Lib.hid (show sumF (rs.take 60) = sumF (rs.take k) by rw [List.take_of_length_le (show rs.length ≤ 60 by rw [← HRR.out.2]; omega), List.take_of_length_le (show rs.length ≤ k by rw [← HRR.out.2]; omega)])
      by_cases d1 : nb ≤ 50
      · have d1i : (nb : Int) ≤ 50 := by omega
        by_cases d2 : K ≤ 50
        · have d2i : (K : Int) ≤ 50 := by omega
          by_cases c3 : sumF (rs.take k) ≤ 900
          · have c3i : (sumF (rs.take k) : Int) ≤ 900 := by omega
            clear HRR hs htl hrl
            go_wp2
            go_ret
            exact ⟨by first | rfl | (have h := HT.out; simp_all), HB1.out⟩
          · have c3i : ¬ (sumF (rs.take k) : Int) ≤ 900 := by omega
            clear HRR hs htl hrl
            go_wp2
            go_ret
            exact ⟨by first | rfl | (have h := HT.out; simp_all), HB1.out⟩
        · have d2i : ¬ (K : Int) ≤ 50 := by omega
          clear HRR hs htl hrl
          go_wp2
          go_ret
          exact ⟨by first | rfl | (have h := HT.out; simp_all), HB1.out⟩
      · have d1i : ¬ (nb : Int) ≤ 50 := by omega
        clear HRR hs htl hrl
        go_wp2
        go_ret
        exact ⟨by first | rfl | (have h := HT.out; simp_all), HB1.out⟩
end Go.Proofs.Ytjignfnkcbklkaa
namespace Go.Proofs.Ytjignfnkcbklkaa
open Go.RowKit Go.ChangeShapes Go.WideShapes Go.ChangeAt Go.Deep Go.Joins

section
variable {H : Type} {enc : TypeId × Value → H} {P : Program} {w : World} {base : Nat} {spare : Nat → Bool} {held : Bool}
/-- The cells of a struct of ints. -/
theorem elem_ints {t : TypeId} {fs : Array Field} {ks : List IntKind} {fuel : Nat} {cs : List Value} {x : DataW H × List MemPlace} (hs : P.underlying t = some (.struct fs)) (hone : oneCellFields P fs = true) (hC : P.cellsOf t = fs.size)
    (hk : ks.length = fs.size) (hf : ∀ (i : Nat) (f : Field) (k : IntKind), fs[i]? = some f → ks[i]? = some k → P.underlying f.type = some (.int k))
    (h : DataW.trod enc P w base spare held fuel t cs = some x) :
    cs.length = fs.size ∧ ∀ (i : Nat) (k : IntKind), ks[i]? = some k → ∃ n, cs[i]? = some (.int k n) ∧ (Lit.int k n).wf = true := by
  obtain ⟨xs, n, -, -, hl, hlen, hg⟩ := DataW.trod_struct hs h
  refine ⟨hl.trans hC, fun i k hi => ?_⟩
  have hil : i < fs.size := by rw [← hk]; exact (List.getElem?_eq_some_iff.1 hi).1
  have hfi : fs[i]? = some (fs[i]'hil) := Array.getElem?_eq_getElem hil
  obtain ⟨o, c⟩ := hone_of hone i _ hfi
  have h1 := hg i _ hfi
  have hci : i < cs.length := by omega
  rw [o, c, List.drop_eq_getElem_cons hci] at h1
  simp only [List.take_succ_cons, List.take_zero] at h1
  have hxi : i < xs.length := by omega
  rw [List.getElem?_eq_getElem hxi] at h1
  obtain ⟨n', hc, -, hw⟩ := DataW.trod_int (hf i _ k hfi hi) h1
  refine ⟨n', ?_, hw⟩
  rw [List.getElem?_eq_getElem hci]
  exact congrArg some (List.cons.inj hc).1
end

theorem blksI_len : ∀ bs : List B7, (blksI bs).length = bs.length * 7
  | [] => rfl
  | x :: r => by
    rw [show blksI (x :: r) = x.cells ++ blksI r from rfl, List.length_append, blksI_len r, List.length_cons, show x.cells.length = 7 from rfl]
    omega
theorem cells_blk7 : Try.prog.cellsOf 37 = 7 := by kernel_rfl
theorem wf_i64 {n : Int} (h : (Lit.int .i64 n).wf = true) : -9223372036854775808 ≤ n ∧ n ≤ 9223372036854775807 := by
  simpa [Lit.wf, IntKind.min, IntKind.max, IntKind.signed, IntKind.bits] using h
theorem wf_u32 {n : Int} (h : (Lit.int .u32 n).wf = true) : 0 ≤ n ∧ n ≤ 4294967295 := by
  simpa [Lit.wf, IntKind.min, IntKind.max, IntKind.signed, IntKind.bits] using h

section
variable {H : Type} {enc : TypeId × Value → H} {w : World} {base : Nat} {spare : Nat → Bool} {held : Bool}
theorem blk7_of {fuel : Nat} {cs : List Value} {x : DataW H × List MemPlace} (h : DataW.trod enc Try.prog w base spare held fuel 37 cs = some x) : ∃ b : B7, b.inI ∧ cs = b.cells := by
  obtain ⟨hl, ha⟩ := elem_ints (ks := [.i64, .i64, .i64, .i64, .u32, .i64, .i64]) Try.underlying37 (by kernel_rfl) (by kernel_rfl) rfl (fun i f k hi hk => by
    match i, hi, hk with
    | 0, hi, hk => (obtain rfl := Option.some.inj hi; obtain rfl := Option.some.inj hk; exact Try.underlying3)
    | 1, hi, hk => (obtain rfl := Option.some.inj hi; obtain rfl := Option.some.inj hk; exact Try.underlying3)
    | 2, hi, hk => (obtain rfl := Option.some.inj hi; obtain rfl := Option.some.inj hk; exact Try.underlying3)
    | 3, hi, hk => (obtain rfl := Option.some.inj hi; obtain rfl := Option.some.inj hk; exact Try.underlying3)
    | 4, hi, hk => (obtain rfl := Option.some.inj hi; obtain rfl := Option.some.inj hk; exact Try.underlying25)
    | 5, hi, hk => (obtain rfl := Option.some.inj hi; obtain rfl := Option.some.inj hk; exact Try.underlying3)
    | 6, hi, hk => (obtain rfl := Option.some.inj hi; obtain rfl := Option.some.inj hk; exact Try.underlying3)
    | j + 7, hi, hk => exact absurd hk (by simp)) h
  have hl7 : cs.length = 7 := hl
  match cs, hl7 with
  | [c0, c1, c2, c3, c4, c5, c6], _ =>
    obtain ⟨n0, e0, w0⟩ := ha 0 .i64 rfl
    obtain ⟨n1, e1, w1⟩ := ha 1 .i64 rfl
    obtain ⟨n2, e2, w2⟩ := ha 2 .i64 rfl
    obtain ⟨n3, e3, w3⟩ := ha 3 .i64 rfl
    obtain ⟨n4, e4, w4⟩ := ha 4 .u32 rfl
    obtain ⟨n5, e5, w5⟩ := ha 5 .i64 rfl
    obtain ⟨n6, e6, w6⟩ := ha 6 .i64 rfl
    simp only [List.getElem?_cons_zero, List.getElem?_cons_succ, Option.some.injEq] at e0 e1 e2 e3 e4 e5 e6
    subst e0 e1 e2 e3 e4 e5 e6
    exact ⟨⟨n0, n1, n2, n3, n4, n5, n6⟩, ⟨wf_i64 w1, wf_i64 w2, wf_i64 w3, wf_i64 w5, wf_u32 w4⟩, rfl⟩
set_option maxRecDepth 100000 in
theorem blocks_of {fuel len cap : Nat} {a : Option Addr} {x : DataW H × List MemPlace} (h : DataW.trod enc Try.prog w base spare held fuel 24 [.slice a len cap] = some x) :
    ∃ bs : List B7, (∀ b ∈ bs, b.inI) ∧ bs.length = len ∧ len ≤ 9223372036854775807 ∧ Rd w w.heap.size a (blksI bs) := by
  rcases open_slice Try.underlying24 h with ⟨hcs, _⟩ | ⟨ad, l, c, m, n, D, Pl, hcs, _, hl, hm, hmm, _, hx⟩
  · simp only [List.cons.injEq, Value.slice.injEq, and_true] at hcs
    obtain ⟨rfl, rfl, rfl⟩ := hcs
    exact ⟨[], by simp, rfl, by omega, Rd.nil_ _ _ _⟩
  · simp only [List.cons.injEq, Value.slice.injEq, and_true] at hcs
    obtain ⟨rfl, rfl, rfl⟩ := hcs
    have hle : len ≤ m := by rw [hmm]; split <;> omega
    have hs0 : 0 < len → ad.spot = none := by
      intro hp
      obtain ⟨cs', h1, _⟩ := hx 0 (by omega)
      rw [cells_blk7] at h1
      obtain ⟨_, hlen, hat⟩ := World.cells?_some h1
      have t0 := hat 0 (by decide)
      rw [List.getElem?_eq_getElem (by omega)] at t0
      have := World.cell?_spot t0
      simpa [Addr.add] using this
    have key : ∀ i, i < len → ∃ s : B7, s.inI ∧ ∃ b off, ad = ⟨b, off, none⟩ ∧ b < w.heap.size ∧ ∀ j v, s.cells[j]? = some v → w.cell? ⟨b, off + (i * 7 + j), none⟩ = some v := by
      intro i hi
      obtain ⟨cs', h1, h2⟩ := hx i (by omega)
      rw [cells_blk7] at h1
      obtain ⟨_, hlen, hat⟩ := World.cells?_some h1
      obtain ⟨s, hs, rfl⟩ := blk7_of h2
      obtain ⟨b, off, spot⟩ := ad
      have t0 := hat 0 (by decide)
      rw [show s.cells[0]? = some (.int .i64 s.mo) from rfl] at t0
      have hspot : spot = none := hs0 (by omega)
      subst hspot
      refine ⟨s, hs, b, off, rfl, ?_, fun j v hj => ?_⟩
      · rw [add_plain, add_plain] at t0
        exact World.block_lt_of_cell? w _ t0
      · have hj7 : j < 7 := (List.getElem?_eq_some_iff.1 hj).1
        have tj := hat j hj7
        rw [hj, add_plain, add_plain, Nat.add_assoc] at tj
        exact tj
    obtain ⟨bs, hbl, hbs⟩ : ∃ bs : List B7, bs.length = len ∧ ∀ i s, bs[i]? = some s → s.inI ∧ ∃ b off, ad = ⟨b, off, none⟩ ∧ b < w.heap.size ∧ ∀ j v, s.cells[j]? = some v → w.cell? ⟨b, off + (i * 7 + j), none⟩ = some v := by
      refine ⟨(List.range len).map fun i => if hi : i < len then Classical.choose (key i hi) else ⟨0, 0, 0, 0, 0, 0, 0⟩, by simp, fun i s hs => ?_⟩
      have hi' : i < len := by
        have := (List.getElem?_eq_some_iff.1 hs).1
        simpa using this
      have he : s = Classical.choose (key i hi') := by
        simp [hi'] at hs
        exact hs.symm
      rw [he]
      exact Classical.choose_spec (key i hi')
    refine ⟨bs, fun b hb => ?_, hbl, by simp only [maxLen] at hm; omega, fun k u hu => ?_⟩
    · obtain ⟨i, hi, hg⟩ := List.mem_iff_getElem.1 hb
      exact (hbs i b (by rw [List.getElem?_eq_getElem hi, hg])).1
    · have hk : k < bs.length * 7 := by rw [← blksI_len]; exact (List.getElem?_eq_some_iff.1 hu).1
      have hi : k / 7 < bs.length := by omega
      obtain ⟨-, b, off, rfl, hb, hc⟩ := hbs (k / 7) _ (List.getElem?_eq_getElem hi)
      have hj : k % 7 < (bs[k / 7]'hi).cells.length := Nat.mod_lt _ (by decide)
      have g := blksI_get bs (k / 7) _ (List.getElem?_eq_getElem hi) (k % 7) _ (List.getElem?_eq_getElem hj)
      rw [show k / 7 * 7 + k % 7 = k by omega, hu] at g
      have hcell := hc (k % 7) _ (List.getElem?_eq_getElem hj)
      rw [show k / 7 * 7 + k % 7 = k by omega, ← Option.some.inj g] at hcell
      exact ⟨b, off, rfl, hb, hcell⟩
set_option maxRecDepth 100000 in
/-- A stream. -/
theorem stream_of {r : Reach} {b0 : Nat} {v : Value} {d : DataW H} {p : List MemPlace} (hv : Value.okWide Try.prog w r b0 27 v) (h : DataW.Trod enc Try.prog w base spare held 27 v d p) :
    ∃ (b u r m : Int) (A : Option Addr) (n c : Nat) (bs : List B7) (tt su : Int), v = .agg #[.int .i64 b, .int .i64 u, .int .i64 r, .int .i64 m, .slice A n c, .int .i64 tt, .int .u32 su] ∧ bs.length = n ∧ n ≤ 9223372036854775807 ∧
      (∀ x ∈ bs, x.inI) ∧ Rd w w.heap.size A (blksI bs) ∧ (0 ≤ su ∧ su ≤ 4294967295) := by
  obtain ⟨cs, rfl, hsz⟩ := okWide_struct Try.underlying27 hv
  have hs7 : cs.size = 7 := hsz.trans (by kernel_rfl)
  obtain ⟨l⟩ := cs
  have hl7 : l.length = 7 := hs7
  match l, hl7 with
  | [c0, c1, c2, c3, c4, c5, c6], _ =>
    obtain ⟨fuel, hd⟩ := h
    obtain ⟨xs, n, -, -, -, hlen, hg⟩ := DataW.trod_struct Try.underlying27 hd
    have hx4 : xs.length = 4 := hlen
    match xs, hx4 with
    | [y0, y1, y2, y3], _ =>
      have g0 : DataW.trod enc Try.prog w base spare held n 23 [c0, c1, c2, c3] = some y0 := by
        have h := hg 0 _ rfl
        simp only [List.getElem_toArray, List.getElem_cons_zero] at h
        rw [show Try.prog.cellsOf 23 = 4 by kernel_rfl] at h
        exact h
      have g1 : DataW.trod enc Try.prog w base spare held n 24 [c4] = some y1 := by
        have h := hg 1 _ rfl
        simp only [List.getElem_toArray, List.getElem_cons_zero, List.getElem_cons_succ] at h
        rw [show Try.prog.cellsOf 24 = 1 by kernel_rfl] at h
        exact h
      have g2 : DataW.trod enc Try.prog w base spare held n 3 [c5] = some y2 := by
        have h := hg 2 _ rfl
        simp only [List.getElem_toArray, List.getElem_cons_zero, List.getElem_cons_succ] at h
        rw [show Try.prog.cellsOf 3 = 1 by kernel_rfl] at h
        exact h
      have g3 : DataW.trod enc Try.prog w base spare held n 25 [c6] = some y3 := by
        have h := hg 3 _ rfl
        simp only [List.getElem_toArray, List.getElem_cons_zero, List.getElem_cons_succ] at h
        rw [show Try.prog.cellsOf 25 = 1 by kernel_rfl] at h
        exact h
      obtain ⟨-, ha⟩ := elem_ints (ks := [.i64, .i64, .i64, .i64]) Try.underlying23 (by kernel_rfl) (by kernel_rfl) rfl (fun i f k hi hk => by
        match i, hi, hk with
        | 0, hi, hk => (obtain rfl := Option.some.inj hi; obtain rfl := Option.some.inj hk; exact Try.underlying3)
        | 1, hi, hk => (obtain rfl := Option.some.inj hi; obtain rfl := Option.some.inj hk; exact Try.underlying3)
        | 2, hi, hk => (obtain rfl := Option.some.inj hi; obtain rfl := Option.some.inj hk; exact Try.underlying3)
        | 3, hi, hk => (obtain rfl := Option.some.inj hi; obtain rfl := Option.some.inj hk; exact Try.underlying3)
        | j + 4, hi, hk => exact absurd hk (by simp)) g0
      obtain ⟨n0, e0, -⟩ := ha 0 .i64 rfl
      obtain ⟨n1, e1, -⟩ := ha 1 .i64 rfl
      obtain ⟨n2, e2, -⟩ := ha 2 .i64 rfl
      obtain ⟨n3, e3, -⟩ := ha 3 .i64 rfl
      simp only [List.getElem?_cons_zero, List.getElem?_cons_succ, Option.some.injEq] at e0 e1 e2 e3
      subst e0 e1 e2 e3
      obtain ⟨n5, e5, -, -⟩ := DataW.trod_int Try.underlying3 g2
      obtain ⟨n6, e6, -, w6⟩ := DataW.trod_int Try.underlying25 g3
      simp only [List.cons.injEq, and_true] at e5 e6
      subst e5 e6
      obtain ⟨A, n, c, rfl⟩ : ∃ A n c, c4 = .slice A n c := by
        rcases open_slice Try.underlying24 g1 with ⟨hcs, _⟩ | ⟨ad, l, c, m, n, D, Pl, hcs, _⟩
        · exact ⟨_, _, _, (List.cons.inj hcs).1⟩
        · exact ⟨_, _, _, (List.cons.inj hcs).1⟩
      obtain ⟨bs, h1, h2, h3, h4⟩ := blocks_of g1
      exact ⟨n0, n1, n2, n3, A, n, c, bs, n5, n6, rfl, h2, h3, h1, h4, wf_u32 w6⟩
end
end Go.Proofs.Ytjignfnkcbklkaa
