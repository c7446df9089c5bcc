/- Contracts of gorilla's window: around, has, lay. · Contract of gorilla.Pack. -/
import Derived.Test.YtflcmmeoppdhdaaGreatDoorQ14
import Derived.Test.YtflcmmeoppdhdaaGreatDoorQ29
import Derived.StillTailTactics
set_option maxHeartbeats 4000000
set_option maxRecDepth 100000
namespace Go.Proofs.YtflcmmeoppdhdaaGreatDoor
open Tryz
section
open Go.RowKit
def triV (a m b:Nat):Value:=.agg #[.int .i64 (a:Int),.int .i64 (m:Int),.int .i64 (b:Int)]
theorem win_size:(prog.info? 104).map (·.size)=some 3:=by kernel_rfl
def winV (W:Nat):Win→Value
 | none=>triV 0 0 0
 | some p=>triV p.1 (8*W - p.1 - p.2) p.2
theorem around_any {W:Nat} (hW:IsW W) (x:Nat) (h0:x≠0) (hx:x<256^W) (w:World) (ht:TabA w) :
  Calls prog 115 #[.int .u64 (x:Int),.int .i64 (W:Int)] w fun e w'=>e=.returned (winV W (some (jjp W x,jjf x)))∧Below w.heap.size w w':=by
 have hp:=hW.pos
 obtain⟨h1,h2,h3,h4,h5,h6,h7,h8⟩:=jmg hp.2 h0 hx
 have C:=jq (fun (w':World) (h:TabA w')=>window_any hW x h0 hx w' h)
 have HT:=jq ht
 obtain⟨a,ha⟩:∃ a,a=jjp W x:=⟨_,rfl⟩
 obtain⟨b,hb⟩:∃ b,b=jjf x:=⟨_,rfl⟩
 rw[←ha,←hb] at C h1
 rw[←ha,←hb]
 have hWi:(W:Int)≤8:=by omega
 have hab:(a:Int)+(b:Int)<8*(W:Int):=by omega
 clear h2 h3 h4 h5 h6 h7 h8 ha hb hp ht hx h0 hW
 go_enter func115,ntmps115
 go_wp2_with fail
 refine (C.out _ (HT.out.grow ((Below.refl _ _).alloc jw _))).mono ?_
 rintro e w' ⟨rfl,rfl⟩
 go_wp2
 have hm:8*(W:Int) - (a:Int) - (b:Int)=((8*W - a - b:Nat):Int):=by omega
 rw[hm]
 exact bodyPost_ret (v:=winV W (some (a,b))) (results_cell_row results115 _ _ w.heap.size 104 _ (0,0) _ rfl (heap_alloc_new w _) underlying104 rfl win_size) rfl ⟨rfl,(Below.refl _ _).alloc jw _⟩
theorem has_any {W:Nat} (s:Win) (hs:qdz W s) (a m b:Nat) (w:World) :
  Calls prog 116 #[winV W s,triV a m b] w fun e w'=>e=.returned (.bool (hasB s a b))∧Below w.heap.size w w':=by
 cases s with
 | none =>
  unfold winV triV
  go_enter func116,ntmps116
  go_wp2
  go_ret
  exact⟨rfl,((Below.refl _ _).alloc jw _).alloc (by simp) _⟩
 | some p =>
  obtain⟨hi,lo⟩:=p
  unfold winV triV
  simp only[qdz] at hs
  have hpos:0<8*W - hi - lo:=by omega
  go_enter func116,ntmps116
  go_wp2
  all_goals
   rename_i h
   go_ret
   exact⟨by simp[hasB,h],((Below.refl _ _).alloc jw _).alloc (by simp) _⟩
theorem qmq (W:Nat) (s:Win) (hs:qdz W s):∃ a m b:Nat,winV W s=triV a m b∧a≤8*W∧m≤8*W∧b≤8*W∧(s≠none→a=(s.getD (0,0)).1∧b=(s.getD (0,0)).2∧m=8*W - a - b∧0<m)∧(s=none→a=0∧m=0∧b=0):=by
 cases s with
 | none=>exact⟨0,0,0,rfl,by omega,by omega,by omega,fun h=>absurd rfl h,fun _=>⟨rfl,rfl,rfl⟩⟩
 | some p =>
  obtain⟨a,b⟩:=p
  simp only[qdz] at hs
  exact⟨a,8*W - a - b,b,rfl,by omega,by omega,by omega,fun _=>⟨rfl,rfl,rfl,by omega⟩,fun h=>by cases h⟩
theorem put0 (g B:Nat) (L:List Bool) (w:World) (h:WrAt w B g L) (hl:L.length<900000000) :
  Calls prog 73 #[.pointer (some ⟨g,0,none⟩),.int .u64 0,.int .i64 1] w fun e w'=>e=.returned (.int .i64 0)∧WrAt w' B g (L++[false])∧jjj B [102,5] w w' :=
 jgs g B L 0 1 w h hl (by decide) (by decide)
theorem put1 (g B:Nat) (L:List Bool) (w:World) (h:WrAt w B g L) (hl:L.length<900000000) :
  Calls prog 73 #[.pointer (some ⟨g,0,none⟩),.int .u64 1,.int .i64 1] w fun e w'=>e=.returned (.int .i64 0)∧WrAt w' B g (L++[true])∧jjj B [102,5] w w' :=
 jgs g B L 1 1 w h hl (by decide) (by decide)
def Lays (w:World) (B g W:Nat) (L:List Bool) (s:Win) (x:Nat) (e:Ending) (w':World):Prop :=
 e=.returned (winV W (qqg W s x))∧WrAt w' B g (L++qkg W s x)∧jjj B [102,5] w w'
theorem set3 {w:World} {g:Nat} {t:TypeId} {u0 u1 u2:Value} (h:Blk w g t [u0,u1,u2]) (v0 v1 v2:Value):Blk (((w.setCell ⟨g,0,none⟩ v0).setCell ⟨g,1,none⟩ v1).setCell ⟨g,2,none⟩ v2) g t [v0,v1,v2] :=
 ((h.set_ 0 v0).set_ 1 v1).set_ 2 v2
theorem qbs {w:World} {g k:Nat} {t:TypeId} {cs:List Value} (h:Blk w k t cs) (hn:k≠g) (v0 v1 v2:Value):Blk (((w.setCell ⟨g,0,none⟩ v0).setCell ⟨g,1,none⟩ v1).setCell ⟨g,2,none⟩ v2) k t cs :=
 ((h.setOther ⟨g,0,none⟩ v0 hn).setOther ⟨g,1,none⟩ v1 hn).setOther ⟨g,2,none⟩ v2 hn
theorem jzz {w:World} {g B:Nat} {t:TypeId} {u0 u1 u2:Value} (h:Blk w g t [u0,u1,u2]) (hg:B≤g) (v0 v1 v2:Value):jjj B [t] w (((w.setCell ⟨g,0,none⟩ v0).setCell ⟨g,1,none⟩ v1).setCell ⟨g,2,none⟩ v2) :=
 ((jjj.set_ h hg v0 (by simp)).trans (jjj.set_ (h.set_ 0 v0) hg v1 (by simp))).trans (jjj.set_ ((h.set_ 0 v0).set_ 1 v1) hg v2 (by simp))
theorem jqg {w:World} {g B:Nat} (hg:B≤g) (v0 v1 v2:Value):Below B w (((w.setCell ⟨g,0,none⟩ v0).setCell ⟨g,1,none⟩ v1).setCell ⟨g,2,none⟩ v2) :=
 (((Below.refl B w).setCell (p:=⟨g,0,none⟩) hg v0).setCell (p:=⟨g,1,none⟩) hg v1).setCell (p:=⟨g,2,none⟩) hg v2
theorem jjj.late {B:Nat} {ts:List TypeId} {w w1 w2:World} (h:jjj B ts w w1) (h2:Below w.heap.size w1 w2):jjj B ts w w2 :=
 ⟨h2.os.trans h.os,h2.tape.trans h.tape,h2.output.trans h.output,Nat.le_trans h.size h2.size,fun k hk hn=>(h2.block k hk).trans (h.block k hk hn)⟩
theorem WrAt.base {w:World} {B g:Nat} {L:List Bool} (h:WrAt w B g L):B≤w.heap.size:=by
 obtain⟨v,bs,hb,hg,_⟩:=h
 exact Nat.le_trans hg (Nat.le_of_lt hb.lt)
theorem win_end {w':World} {p:Nat} {tmps:Array Value} {fn:Func} {q:Tmp} (hres:fn.results=#[.cell q 104]) {v0 v1 v2:Value} (hp:tmps.getD q undef=.pointer (some ⟨p,0,none⟩)) (hk:Blk w' p 104 [v0,v1,v2]):(results fn tmps).run prog w'=.ok (.agg #[v0,v1,v2]) w' :=
 results_cell_row hres tmps w' p 104 _ (0,0) _ hp hk underlying104 rfl win_size
theorem winLay_zero {W:Nat} (s:Win) (hs:qdz W s) (g B:Nat) (L:List Bool) (w:World) (h:WrAt w B g L) (hl:L.length<800000000) :
  Calls prog 74 #[winV W s,.pointer (some ⟨g,0,none⟩),.int .u64 0,.int .i64 (W:Int)] w (Lays w B g W L s 0):=by
 obtain⟨a,m,b,hf,-,-,-,-,-⟩:=qmq W s hs
 have hn:qqg W s 0=s:=rfl
 have hb:qkg W s 0=[false]:=rfl
 unfold Lays
 rw[hn,hb,hf]
 unfold triV
 have H:=jq h
 clear hf hn hb hs h
 go_enter func74,ntmps74
 go_wp2_with fail
 have hb1:Below w.heap.size w ((w.alloc (.cells #[.int .i64 (a:Int),.int .i64 (m:Int),.int .i64 (b:Int)] 104)).alloc (.cells #[.int .i64 0,.int .i64 0,.int .i64 0] 104)):=((Below.refl _ _).alloc jw _).alloc (by simp) _
 have hk1:Blk ((w.alloc (.cells #[.int .i64 (a:Int),.int .i64 (m:Int),.int .i64 (b:Int)] 104)).alloc (.cells #[.int .i64 0,.int .i64 0,.int .i64 0] 104)) w.heap.size 104 [.int .i64 (a:Int),.int .i64 (m:Int),.int .i64 (b:Int)]:=Blk.alloc_ (heap_alloc_new w _) _
 have hk2:Blk ((w.alloc (.cells #[.int .i64 (a:Int),.int .i64 (m:Int),.int .i64 (b:Int)] 104)).alloc (.cells #[.int .i64 0,.int .i64 0,.int .i64 0] 104)) (w.heap.size+1) 104 [.int .i64 0,.int .i64 0,.int .i64 0]:=by
  have:=heap_alloc_new (w.alloc (.cells #[.int .i64 (a:Int),.int .i64 (m:Int),.int .i64 (b:Int)] 104)) (.cells #[.int .i64 0,.int .i64 0,.int .i64 0] 104)
  simpa [Blk] using this
 have hs1:w.heap.size+2≤((w.alloc (.cells #[.int .i64 (a:Int),.int .i64 (m:Int),.int .i64 (b:Int)] 104)).alloc (.cells #[.int .i64 0,.int .i64 0,.int .i64 0] 104)).heap.size:=by simp
 have HAT:=jq (H.out.only (jjj.of_below hb1 (B:=B) (ts:=[])) (by decide) (by decide))
 have HO:=jq (jjj.of_below hb1 (B:=B) (ts:=[102,5]))
 have K1:=jq hk1
 have K2:=jq hk2
 have HS:=jq hs1
 clear hb1 hk1 hk2 hs1 H
 refine (put0 g B L _ HAT.out (by omega)).mono ?_
 rintro e w2 ⟨rfl,hat,hon⟩
 have K1n:=jq (K1.out.only hon (by decide))
 have K2n:=jq (K2.out.only hon (by decide))
 have HATn:=jq hat
 have HOn:=jq (HO.out.trans hon)
 have HSn:=jq (Nat.le_trans HS.out hon.size)
 clear hat hon HAT HO HS K1 K2
 have K1:=K1n
 clear K1n
 have K2:=K2n
 clear K2n
 have HAT:=HATn
 have HO:=HOn
 have HS:=HSn
 clear HATn HOn HSn
 have hk1:=K1.out
 have hk2:=K2.out
 have c0:=hk1.cell 0
 have c1:=hk1.cell 1
 have c2:=hk1.cell 2
 simp only[jy,jx] at c0 c1 c2
 have d0:=hk2.cell 0
 have d1:=hk2.cell 1
 have d2:=hk2.cell 2
 simp only[jy,jx] at d0 d1 d2
 have df0:=hk2.frozen 0
 have df1:=hk2.frozen 1
 have df2:=hk2.frozen 2
 clear hk1 hk2
 go_wp2_with fail
 have hat:=HAT.out.only (jzz K2.out (B:=0) (Nat.zero_le _) (.int .i64 (a:Int)) (.int .i64 (m:Int)) (.int .i64 (b:Int))) (by decide) (by decide)
 have hk:=set3 K2.out (.int .i64 (a:Int)) (.int .i64 (m:Int)) (.int .i64 (b:Int))
 have ho:=HO.out.late (jqg (B:=w.heap.size) (g:=w.heap.size+1) (by omega) (.int .i64 (a:Int)) (.int .i64 (m:Int)) (.int .i64 (b:Int)))
 exact bodyPost_ret (win_end results74 rfl hk) rfl ⟨rfl,hat,ho⟩
theorem winLay_in {W:Nat} (hW:IsW W) (s:Win) (hs:qdz W s) (x:Nat) (h0:x≠0) (hx:x<256^W) (hh:hasB s (jjp W x) (jjf x)=true) (g B:Nat) (L:List Bool) (w:World) (h:WrAt w B g L) (hl:L.length<800000000) (ht:TabA w) (hB0:0<B) :
  Calls prog 74 #[winV W s,.pointer (some ⟨g,0,none⟩),.int .u64 (x:Int),.int .i64 (W:Int)] w (Lays w B g W L s x):=by
 have hp:=hW.pos
 have h8:256^W≤18446744073709551616:=by rcases hW with rfl | rfl | rfl | rfl <;> decide
 obtain⟨f1,f2,f3,f4,f5,f6,f7,f8⟩:=jmg hp.2 h0 hx
 obtain⟨a0,m0,b0,hf,k1,k2,k3,hsome,-⟩:=qmq W s hs
 have CA:=jq (fun (w':World) (h:TabA w')=>around_any hW x h0 hx w' h)
 have ch:=fun (w':World)=>has_any s hs (jjp W x) (8*W - jjp W x - jjf x) (jjf x) w'
 rw[hh,hf] at ch
 have hx1:((x:Int)==0)=false:=by rw[beq_eq_false_iff_ne];omega
 have hn:qqg W s x=s:=by unfold qqg;rw[if_neg h0,hh,if_pos rfl]
 have hsb:qkg W s x=[true,false]++bitsOf (x/2^b0) m0:=by
  unfold qkg
  rw[if_neg h0,hh,if_pos rfl]
  obtain⟨p,rfl,-,-⟩:=hasB_some hh
  obtain⟨e1,e2,e3,e4⟩:=hsome (by simp)
  unfold winB ownB
  rw[e3,e1,e2]
 unfold Lays
 rw[hn,hsb,hf]
 obtain⟨a,ha⟩:∃ a,a=jjp W x:=⟨_,rfl⟩
 obtain⟨b,hb⟩:∃ b,b=jjf x:=⟨_,rfl⟩
 obtain⟨m,hm⟩:∃ m,m=8*W - a - b:=⟨_,rfl⟩
 unfold winV at CA
 simp only[←ha,←hb,←hm] at CA ch f1 ⊢
 unfold triV at ch CA
 unfold triV
 have CH:=jq ch
 have hm0:0<m:=by omega
 have hm64:m≤64:=by omega
 have ha64:a<64:=by omega
 have hb64:b<64:=by omega
 have hm00:m0≤64:=by omega
 have hb00:b0≤64:=by omega
 have hx64:x<18446744073709551616:=by omega
 have H:=jq h
 have HT:=jq ht
 have HBW:=jq h.base
 clear hf hn hsb hs h ch ht f1 f2 f3 f4 f5 f6 f7 f8 k1 k2 k3 hsome hm ha hb hh hx h0 hW h8
 go_enter func74,ntmps74
 go_wp2_with fail
 have hb1:Below w.heap.size w ((w.alloc (.cells #[.int .i64 (a0:Int),.int .i64 (m0:Int),.int .i64 (b0:Int)] 104)).alloc (.cells #[.int .i64 0,.int .i64 0,.int .i64 0] 104)):=((Below.refl _ _).alloc jw _).alloc (by simp) _
 have hk1:Blk ((w.alloc (.cells #[.int .i64 (a0:Int),.int .i64 (m0:Int),.int .i64 (b0:Int)] 104)).alloc (.cells #[.int .i64 0,.int .i64 0,.int .i64 0] 104)) w.heap.size 104 [.int .i64 (a0:Int),.int .i64 (m0:Int),.int .i64 (b0:Int)]:=Blk.alloc_ (heap_alloc_new w _) _
 have hk2:Blk ((w.alloc (.cells #[.int .i64 (a0:Int),.int .i64 (m0:Int),.int .i64 (b0:Int)] 104)).alloc (.cells #[.int .i64 0,.int .i64 0,.int .i64 0] 104)) (w.heap.size+1) 104 [.int .i64 0,.int .i64 0,.int .i64 0]:=by
  have:=heap_alloc_new (w.alloc (.cells #[.int .i64 (a0:Int),.int .i64 (m0:Int),.int .i64 (b0:Int)] 104)) (.cells #[.int .i64 0,.int .i64 0,.int .i64 0] 104)
  simpa [Blk] using this
 have hs1:w.heap.size+2≤((w.alloc (.cells #[.int .i64 (a0:Int),.int .i64 (m0:Int),.int .i64 (b0:Int)] 104)).alloc (.cells #[.int .i64 0,.int .i64 0,.int .i64 0] 104)).heap.size:=by simp
 have HAT:=jq (H.out.only (jjj.of_below hb1 (B:=B) (ts:=[])) (by decide) (by decide))
 have HO:=jq (jjj.of_below hb1 (B:=B) (ts:=[102,5]))
 have K1:=jq hk1
 have K2:=jq hk2
 have HS:=jq hs1
 clear hb1 hk1 hk2 hs1 H
 refine (put1 g B L _ HAT.out (by omega)).mono ?_
 rintro e w2 ⟨rfl,hat,hon⟩
 have K1n:=jq (K1.out.only hon (by decide))
 have K2n:=jq (K2.out.only hon (by decide))
 have HATn:=jq hat
 have HOn:=jq (HO.out.trans hon)
 have HSn:=jq (Nat.le_trans HS.out hon.size)
 clear hat hon HAT HO HS K1 K2
 have K1:=K1n
 clear K1n
 have K2:=K2n
 clear K2n
 have HAT:=HATn
 have HO:=HOn
 have HS:=HSn
 clear HATn HOn HSn
 have HT2:=jq (HT.out.below (HO.out.below HBW.out) hB0)
 go_wp2_with fail
 refine (CA.out w2 HT2.out).mono ?_
 rintro e w3 ⟨rfl,hb3⟩
 clear HT2
 have K1n:=jq (K1.out.grow hb3)
 have K2n:=jq (K2.out.grow hb3)
 have HATn:=jq (HAT.out.only (jjj.of_below hb3 (B:=B) (ts:=[])) (by decide) (by decide))
 have HOn:=jq (HO.out.trans (jjj.of_below hb3))
 have HSn:=jq (Nat.le_trans HS.out hb3.size)
 clear hb3 K1 K2 HAT HO HS CA
 have hk1:=K1n.out.alloc_ (.cells #[.int .i64 (a:Int),.int .i64 (m:Int),.int .i64 (b:Int)] 104)
 have c0:=hk1.cell 0
 have c1:=hk1.cell 1
 have c2:=hk1.cell 2
 simp only[jy,jx] at c0 c1 c2
 clear hk1
 go_wp2_with fail
 refine (CH.out _).mono ?_
 rintro e w4 ⟨rfl,hb4⟩
 have K1:=jq ((K1n.out.alloc_ _).grow hb4)
 have K2:=jq ((K2n.out.alloc_ _).grow hb4)
 have hk3:Blk (w3.alloc (.cells #[.int .i64 (a:Int),.int .i64 (m:Int),.int .i64 (b:Int)] 104)) w3.heap.size 104 [.int .i64 (a:Int),.int .i64 (m:Int),.int .i64 (b:Int)]:=heap_alloc_new w3 _
 have K3:=jq (hk3.grow hb4)
 have hba:Below w3.heap.size w3 w4:=((Below.refl _ _).alloc jw _).trans (hb4.mono (by simp))
 have HAT:=jq (HATn.out.only (jjj.of_below hba (B:=B) (ts:=[])) (by decide) (by decide))
 have HO:=jq (HOn.out.trans (jjj.of_below hba))
 have HS:=jq (Nat.le_trans HSn.out hba.size)
 have HS3:=jq HSn.out
 obtain⟨p3,hp3⟩:∃ p,p=w3.heap.size:=⟨_,rfl⟩
 rw[←hp3] at K3 HS3
 simp only[←hp3]
 clear hb4 hba hk3 K1n K2n HATn HOn HSn CH hp3 c0 c1 c2
 go_wp2_with fail
 refine (put0 g B (L++[true]) w4 HAT.out (by simp;omega)).mono ?_
 rintro e w5 ⟨rfl,hat,hon⟩
 have K1n:=jq (K1.out.only hon (by decide))
 have K2n:=jq (K2.out.only hon (by decide))
 have HATn:=jq hat
 have HOn:=jq (HO.out.trans hon)
 have HSn:=jq (Nat.le_trans HS.out hon.size)
 clear hat hon HAT HO HS K1 K2
 have K1:=K1n
 clear K1n
 have K2:=K2n
 clear K2n
 have HAT:=HATn
 have HO:=HOn
 have HS:=HSn
 clear HATn HOn HSn
 have hk1:=K1.out
 have c0:=hk1.cell 0
 have c1:=hk1.cell 1
 have c2:=hk1.cell 2
 simp only[jy,jx] at c0 c1 c2
 clear hk1 K3 HS3
 go_wp2_with fail
 refine wp_region_still_tail 7 (by kernel_rfl) (by kernel_rfl) ?_
 simp only[List.take_succ_cons,List.take_zero,List.drop_succ_cons,List.drop_zero]
 repeat still_step
 refine wpStill_nil ?_
 change wpList _ _ _ _ _ w5.drew
 go_wp2_with fail
 clear c0 c1 c2
 have hV:(x:Int)/2^b0=((x/2^b0:Nat):Int):=by rw[Int.natCast_ediv,Int.natCast_pow];rfl
 rw[hV]
 clear hV
 refine (jgs g B (L++[true]++[false]) (x/2^b0) m0 _ (show WrAt w5.drew B g (L++[true]++[false]) from HAT.out) (by simp;omega) (Nat.lt_of_le_of_lt (Nat.div_le_self _ _) hx64) (by omega)).mono ?_
 rintro e w6 ⟨rfl,hat,hon⟩
 have K1n:=jq (K1.out.drew_.only hon (by decide))
 have K2n:=jq (K2.out.drew_.only hon (by decide))
 have HATn:=jq hat
 have HOn:=jq (HO.out.drew.trans hon)
 have HSn:=jq (Nat.le_trans HS.out hon.size)
 clear hat hon HAT HO HS K1 K2
 have K1:=K1n
 clear K1n
 have K2:=K2n
 clear K2n
 have HAT:=HATn
 have HO:=HOn
 have HS:=HSn
 clear HATn HOn HSn
 have hk1:=K1.out
 have hk2:=K2.out
 have c0:=hk1.cell 0
 have c1:=hk1.cell 1
 have c2:=hk1.cell 2
 simp only[jy,jx] at c0 c1 c2
 have d0:=hk2.cell 0
 have d1:=hk2.cell 1
 have d2:=hk2.cell 2
 simp only[jy,jx] at d0 d1 d2
 have df0:=hk2.frozen 0
 have df1:=hk2.frozen 1
 have df2:=hk2.frozen 2
 clear hk1 hk2
 go_wp2_with fail
 have hat:=HAT.out.only (jzz K2.out (B:=0) (Nat.zero_le _) (.int .i64 (a0:Int)) (.int .i64 (m0:Int)) (.int .i64 (b0:Int))) (by decide) (by decide)
 have hk:=set3 K2.out (.int .i64 (a0:Int)) (.int .i64 (m0:Int)) (.int .i64 (b0:Int))
 rw[show L++[true]++[false]++bitsOf (x/2^b0) m0=L++([true,false]++bitsOf (x/2^b0) m0) by simp] at hat
 have ho:=HO.out.late (jqg (B:=w.heap.size) (g:=w.heap.size+1) (by omega) (.int .i64 (a0:Int)) (.int .i64 (m0:Int)) (.int .i64 (b0:Int)))
 exact bodyPost_ret (win_end results74 rfl hk) rfl ⟨rfl,hat,ho⟩
theorem winLay_new {W:Nat} (hW:IsW W) (s:Win) (hs:qdz W s) (x:Nat) (h0:x≠0) (hx:x<256^W) (hh:hasB s (jjp W x) (jjf x)=false) (g B:Nat) (L:List Bool) (w:World) (h:WrAt w B g L) (hl:L.length<800000000) (ht:TabA w) (hB0:0<B) :
  Calls prog 74 #[winV W s,.pointer (some ⟨g,0,none⟩),.int .u64 (x:Int),.int .i64 (W:Int)] w (Lays w B g W L s x):=by
 have hp:=hW.pos
 have h8:256^W≤18446744073709551616:=by rcases hW with rfl | rfl | rfl | rfl <;> decide
 obtain⟨f1,f2,f3,f4,f5,f6,f7,f8⟩:=jmg hp.2 h0 hx
 obtain⟨a0,m0,b0,hf,k1,k2,k3,hsome,-⟩:=qmq W s hs
 have CA:=jq (fun (w':World) (h:TabA w')=>around_any hW x h0 hx w' h)
 have ch:=fun (w':World)=>has_any s hs (jjp W x) (8*W - jjp W x - jjf x) (jjf x) w'
 rw[hh,hf] at ch
 have hx1:((x:Int)==0)=false:=by rw[beq_eq_false_iff_ne];omega
 have hn:qqg W s x=some (jjp W x,jjf x):=by unfold qqg;rw[if_neg h0,hh,if_neg (by decide)]
 have hsb:qkg W s x=[true,true]++bitsOf (jjp W x) 6++bitsOf (8*W - jjp W x - jjf x - 1) 6++bitsOf (x/2^jjf x) (8*W - jjp W x - jjf x):=by
  unfold qkg
  rw[if_neg h0,hh,if_neg (by decide)]
  rfl
 unfold Lays
 rw[hn,hsb,hf]
 unfold winV
 obtain⟨a,ha⟩:∃ a,a=jjp W x:=⟨_,rfl⟩
 obtain⟨b,hb⟩:∃ b,b=jjf x:=⟨_,rfl⟩
 obtain⟨m,hm⟩:∃ m,m=8*W - a - b:=⟨_,rfl⟩
 unfold winV at CA
 simp only[←ha,←hb,←hm] at CA ch f1 ⊢
 unfold triV at ch CA
 unfold triV
 have CH:=jq ch
 have hm0:0<m:=by omega
 have hm64:m≤64:=by omega
 have ha64:a<64:=by omega
 have hb64:b<64:=by omega
 have hm00:m0≤64:=by omega
 have hb00:b0≤64:=by omega
 have hx64:x<18446744073709551616:=by omega
 have H:=jq h
 have HT:=jq ht
 have HBW:=jq h.base
 clear hf hn hsb hs h ch ht f1 f2 f3 f4 f5 f6 f7 f8 k1 k2 k3 hsome hm ha hb hh hx h0 hW h8
 go_enter func74,ntmps74
 go_wp2_with fail
 have hb1:Below w.heap.size w ((w.alloc (.cells #[.int .i64 (a0:Int),.int .i64 (m0:Int),.int .i64 (b0:Int)] 104)).alloc (.cells #[.int .i64 0,.int .i64 0,.int .i64 0] 104)):=((Below.refl _ _).alloc jw _).alloc (by simp) _
 have hk1:Blk ((w.alloc (.cells #[.int .i64 (a0:Int),.int .i64 (m0:Int),.int .i64 (b0:Int)] 104)).alloc (.cells #[.int .i64 0,.int .i64 0,.int .i64 0] 104)) w.heap.size 104 [.int .i64 (a0:Int),.int .i64 (m0:Int),.int .i64 (b0:Int)]:=Blk.alloc_ (heap_alloc_new w _) _
 have hk2:Blk ((w.alloc (.cells #[.int .i64 (a0:Int),.int .i64 (m0:Int),.int .i64 (b0:Int)] 104)).alloc (.cells #[.int .i64 0,.int .i64 0,.int .i64 0] 104)) (w.heap.size+1) 104 [.int .i64 0,.int .i64 0,.int .i64 0]:=by
  have:=heap_alloc_new (w.alloc (.cells #[.int .i64 (a0:Int),.int .i64 (m0:Int),.int .i64 (b0:Int)] 104)) (.cells #[.int .i64 0,.int .i64 0,.int .i64 0] 104)
  simpa [Blk] using this
 have hs1:w.heap.size+2≤((w.alloc (.cells #[.int .i64 (a0:Int),.int .i64 (m0:Int),.int .i64 (b0:Int)] 104)).alloc (.cells #[.int .i64 0,.int .i64 0,.int .i64 0] 104)).heap.size:=by simp
 have HAT:=jq (H.out.only (jjj.of_below hb1 (B:=B) (ts:=[])) (by decide) (by decide))
 have HO:=jq (jjj.of_below hb1 (B:=B) (ts:=[102,5]))
 have K1:=jq hk1
 have K2:=jq hk2
 have HS:=jq hs1
 clear hb1 hk1 hk2 hs1 H
 refine (put1 g B L _ HAT.out (by omega)).mono ?_
 rintro e w2 ⟨rfl,hat,hon⟩
 have K1n:=jq (K1.out.only hon (by decide))
 have K2n:=jq (K2.out.only hon (by decide))
 have HATn:=jq hat
 have HOn:=jq (HO.out.trans hon)
 have HSn:=jq (Nat.le_trans HS.out hon.size)
 clear hat hon HAT HO HS K1 K2
 have K1:=K1n
 clear K1n
 have K2:=K2n
 clear K2n
 have HAT:=HATn
 have HO:=HOn
 have HS:=HSn
 clear HATn HOn HSn
 have HT2:=jq (HT.out.below (HO.out.below HBW.out) hB0)
 go_wp2_with fail
 refine (CA.out w2 HT2.out).mono ?_
 rintro e w3 ⟨rfl,hb3⟩
 clear HT2
 have K1n:=jq (K1.out.grow hb3)
 have K2n:=jq (K2.out.grow hb3)
 have HATn:=jq (HAT.out.only (jjj.of_below hb3 (B:=B) (ts:=[])) (by decide) (by decide))
 have HOn:=jq (HO.out.trans (jjj.of_below hb3))
 have HSn:=jq (Nat.le_trans HS.out hb3.size)
 clear hb3 K1 K2 HAT HO HS CA
 have hk1:=K1n.out.alloc_ (.cells #[.int .i64 (a:Int),.int .i64 (m:Int),.int .i64 (b:Int)] 104)
 have c0:=hk1.cell 0
 have c1:=hk1.cell 1
 have c2:=hk1.cell 2
 simp only[jy,jx] at c0 c1 c2
 clear hk1
 go_wp2_with fail
 refine (CH.out _).mono ?_
 rintro e w4 ⟨rfl,hb4⟩
 have K1:=jq ((K1n.out.alloc_ _).grow hb4)
 have K2:=jq ((K2n.out.alloc_ _).grow hb4)
 have hk3:Blk (w3.alloc (.cells #[.int .i64 (a:Int),.int .i64 (m:Int),.int .i64 (b:Int)] 104)) w3.heap.size 104 [.int .i64 (a:Int),.int .i64 (m:Int),.int .i64 (b:Int)]:=heap_alloc_new w3 _
 have K3:=jq (hk3.grow hb4)
 have hba:Below w3.heap.size w3 w4:=((Below.refl _ _).alloc jw _).trans (hb4.mono (by simp))
 have HAT:=jq (HATn.out.only (jjj.of_below hba (B:=B) (ts:=[])) (by decide) (by decide))
 have HO:=jq (HOn.out.trans (jjj.of_below hba))
 have HS:=jq (Nat.le_trans HSn.out hba.size)
 have HS3:=jq HSn.out
 obtain⟨p3,hp3⟩:∃ p,p=w3.heap.size:=⟨_,rfl⟩
 rw[←hp3] at K3 HS3
 simp only[←hp3]
 clear hb4 hba hk3 K1n K2n HATn HOn HSn CH hp3 c0 c1 c2
 go_wp2_with fail
 refine (put1 g B (L++[true]) w4 HAT.out (by simp;omega)).mono ?_
 rintro e w5 ⟨rfl,hat,hon⟩
 have K1n:=jq (K1.out.only hon (by decide))
 have K2n:=jq (K2.out.only hon (by decide))
 have K3n:=jq (K3.out.only hon (by decide))
 have HATn:=jq hat
 have HOn:=jq (HO.out.trans hon)
 have HSn:=jq (Nat.le_trans HS.out hon.size)
 clear hat hon HAT HO HS K1 K2 K3
 have K1:=K1n
 clear K1n
 have K2:=K2n
 clear K2n
 have K3:=K3n
 clear K3n
 have HAT:=HATn
 have HO:=HOn
 have HS:=HSn
 clear HATn HOn HSn
 have hk3:=K3.out
 have c0:=hk3.cell 0
 have c1:=hk3.cell 1
 have c2:=hk3.cell 2
 simp only[jy,jx] at c0 c1 c2
 clear hk3
 go_wp2_with fail
 clear c0 c1 c2
 refine (jgs g B (L++[true]++[true]) a 6 w5 HAT.out (by simp;omega) (by omega) (by omega)).mono ?_
 rintro e w6 ⟨rfl,hat,hon⟩
 have K1n:=jq (K1.out.only hon (by decide))
 have K2n:=jq (K2.out.only hon (by decide))
 have K3n:=jq (K3.out.only hon (by decide))
 have HATn:=jq hat
 have HOn:=jq (HO.out.trans hon)
 have HSn:=jq (Nat.le_trans HS.out hon.size)
 clear hat hon HAT HO HS K1 K2 K3
 have K1:=K1n
 clear K1n
 have K2:=K2n
 clear K2n
 have K3:=K3n
 clear K3n
 have HAT:=HATn
 have HO:=HOn
 have HS:=HSn
 clear HATn HOn HSn
 have hk3:=K3.out
 have c0:=hk3.cell 0
 have c1:=hk3.cell 1
 have c2:=hk3.cell 2
 simp only[jy,jx] at c0 c1 c2
 clear hk3
 go_wp2_with fail
 clear c0 c1 c2
 have hm1:(m:Int) - 1=((m - 1:Nat):Int):=by omega
 rw[hm1]
 clear hm1
 refine (jgs g B (L++[true]++[true]++bitsOf a 6) (m - 1) 6 w6 HAT.out (by simp[jjy];omega) (by omega) (by omega)).mono ?_
 rintro e w7 ⟨rfl,hat,hon⟩
 have K1n:=jq (K1.out.only hon (by decide))
 have K2n:=jq (K2.out.only hon (by decide))
 have K3n:=jq (K3.out.only hon (by decide))
 have HATn:=jq hat
 have HOn:=jq (HO.out.trans hon)
 have HSn:=jq (Nat.le_trans HS.out hon.size)
 clear hat hon HAT HO HS K1 K2 K3
 have K1:=K1n
 clear K1n
 have K2:=K2n
 clear K2n
 have K3:=K3n
 clear K3n
 have HAT:=HATn
 have HO:=HOn
 have HS:=HSn
 clear HATn HOn HSn
 have hk3:=K3.out
 have c0:=hk3.cell 0
 have c1:=hk3.cell 1
 have c2:=hk3.cell 2
 simp only[jy,jx] at c0 c1 c2
 have hk1:=K1.out
 have d0:=hk1.cell 0
 have d1:=hk1.cell 1
 have d2:=hk1.cell 2
 simp only[jy,jx] at d0 d1 d2
 have df0:=hk1.frozen 0
 have df1:=hk1.frozen 1
 have df2:=hk1.frozen 2
 clear hk1 hk3
 go_wp2_with fail
 clear c0 c1 c2 d0 d1 d2 df0 df1 df2
 have K1n:=jq (set3 K1.out (.int .i64 (a:Int)) (.int .i64 (m:Int)) (.int .i64 (b:Int)))
 have K2n:=jq (qbs K2.out (g:=w.heap.size) (by omega) (.int .i64 (a:Int)) (.int .i64 (m:Int)) (.int .i64 (b:Int)))
 have HATn:=jq (HAT.out.only (jzz K1.out (B:=0) (Nat.zero_le _) (.int .i64 (a:Int)) (.int .i64 (m:Int)) (.int .i64 (b:Int))) (by decide) (by decide))
 have hbs:=jqg (w:=w7) (B:=w.heap.size) (g:=w.heap.size) jw (.int .i64 (a:Int)) (.int .i64 (m:Int)) (.int .i64 (b:Int))
 have HOn:=jq (HO.out.late hbs)
 have HSn:=jq (Nat.le_trans HS.out hbs.size)
 clear hbs K1 K2 K3 HAT HO HS HS3
 generalize ((w7.setCell ⟨w.heap.size,0,none⟩ (.int .i64 (a:Int))).setCell ⟨w.heap.size,1,none⟩ (.int .i64 (m:Int))).setCell ⟨w.heap.size,2,none⟩ (.int .i64 (b:Int))=w8 at *
 have K1:=K1n
 have K2:=K2n
 have HAT:=HATn
 have HO:=HOn
 have HS:=HSn
 clear K1n K2n HATn HOn HSn
 have hk1:=K1.out
 have c0:=hk1.cell 0
 have c1:=hk1.cell 1
 have c2:=hk1.cell 2
 simp only[jy,jx] at c0 c1 c2
 clear hk1
 refine wp_region_still_tail 7 (by kernel_rfl) (by kernel_rfl) ?_
 simp only[List.take_succ_cons,List.take_zero,List.drop_succ_cons,List.drop_zero]
 repeat still_step
 refine wpStill_nil ?_
 change wpList _ _ _ _ _ w8.drew
 go_wp2_with fail
 clear c0 c1 c2
 have hV:(x:Int)/2^b=((x/2^b:Nat):Int):=by rw[Int.natCast_ediv,Int.natCast_pow];rfl
 rw[hV]
 clear hV
 refine (jgs g B (L++[true]++[true]++bitsOf a 6++bitsOf (m - 1) 6) (x/2^b) m _ (show WrAt w8.drew B g (L++[true]++[true]++bitsOf a 6++bitsOf (m - 1) 6) from HAT.out) (by simp[jjy];omega) (Nat.lt_of_le_of_lt (Nat.div_le_self _ _) hx64) (by omega)).mono ?_
 rintro e w9 ⟨rfl,hat,hon⟩
 have K1n:=jq (K1.out.drew_.only hon (by decide))
 have K2n:=jq (K2.out.drew_.only hon (by decide))
 have HATn:=jq hat
 have HOn:=jq (HO.out.drew.trans hon)
 have HSn:=jq (Nat.le_trans HS.out hon.size)
 clear hat hon HAT HO HS K1 K2
 have K1:=K1n
 clear K1n
 have K2:=K2n
 clear K2n
 have HAT:=HATn
 have HO:=HOn
 have HS:=HSn
 clear HATn HOn HSn
 have hk1:=K1.out
 have hk2:=K2.out
 have c0:=hk1.cell 0
 have c1:=hk1.cell 1
 have c2:=hk1.cell 2
 simp only[jy,jx] at c0 c1 c2
 have d0:=hk2.cell 0
 have d1:=hk2.cell 1
 have d2:=hk2.cell 2
 simp only[jy,jx] at d0 d1 d2
 have df0:=hk2.frozen 0
 have df1:=hk2.frozen 1
 have df2:=hk2.frozen 2
 clear hk1 hk2
 go_wp2_with fail
 have hat:=HAT.out.only (jzz K2.out (B:=0) (Nat.zero_le _) (.int .i64 (a:Int)) (.int .i64 (m:Int)) (.int .i64 (b:Int))) (by decide) (by decide)
 have hk:=set3 K2.out (.int .i64 (a:Int)) (.int .i64 (m:Int)) (.int .i64 (b:Int))
 rw[show L++[true]++[true]++bitsOf a 6++bitsOf (m - 1) 6++bitsOf (x/2^b) m=L++([true,true]++bitsOf a 6++bitsOf (m - 1) 6++bitsOf (x/2^b) m) by simp] at hat
 have ho:=HO.out.late (jqg (B:=w.heap.size) (g:=w.heap.size+1) (by omega) (.int .i64 (a:Int)) (.int .i64 (m:Int)) (.int .i64 (b:Int)))
 exact bodyPost_ret (win_end results74 rfl hk) rfl ⟨rfl,hat,ho⟩
theorem winLay_any {W:Nat} (hW:IsW W) (s:Win) (hs:qdz W s) (x:Nat) (hx:x<256^W) (g B:Nat) (L:List Bool) (w:World) (h:WrAt w B g L) (hl:L.length<800000000) (ht:TabA w) (hB0:0<B) :
  Calls prog 74 #[winV W s,.pointer (some ⟨g,0,none⟩),.int .u64 (x:Int),.int .i64 (W:Int)] w (Lays w B g W L s x):=by
 by_cases h0:x=0
 ·subst h0
  exact winLay_zero s hs g B L w h hl
 ·cases hh:hasB s (jjp W x) (jjf x) with
  | true=>exact winLay_in hW s hs x h0 hx hh g B L w h hl ht hB0
  | false=>exact winLay_new hW s hs x h0 hx hh g B L w h hl ht hB0
theorem TabA.pos {w:World} (h:TabA w):0<w.heap.size:=by
 obtain⟨o,ho,_⟩:=cells_of_cell (h 0 (by decide))
 exact Nat.lt_of_le_of_lt (Nat.zero_le _) (Array.getElem?_eq_some_iff.1 ho).1
theorem gorL_next {W:Nat} {s:Win} {X:List Nat} {k x:Nat} (hk:X[k]?=some x):gorL W s (X.drop k)=qkg W s x++gorL W (qqg W s x) (X.drop (k+1)):=by
 obtain⟨h,rfl⟩:=List.getElem?_eq_some_iff.1 hk
 rw[List.drop_eq_getElem_cons h]
 rfl
theorem gorB_first {W:Nat} {X:List Nat} {x:Nat} (hk:X[0]?=some x):gorB W X=bitsOf x (8*W)++gorL W none (X.drop 1):=by
 cases X with
 | nil=>simp at hk
 | cons y t =>
  simp at hk
  subst hk
  rfl
def GPackRel (w:World) (W:Nat) (X:List Nat) (A:Option Addr) (g p:Nat) (i:Value) (wr:World):Prop :=
 ∃ (k:Nat) (L:List Bool) (s:Win) (a m b:Nat),k≤X.length∧i=.int .i64 (k:Int)∧winV W s=triV a m b∧qdz W s∧WrAt wr w.heap.size g L∧Blk wr p 104 [.int .i64 (a:Int),.int .i64 (m:Int),.int .i64 (b:Int)] ∧
  RdT wr 64 A (wvs X)∧Below w.heap.size w wr∧L.length≤k*78∧Hid ((k=0∧L=[]∧s=none)∨(0<k∧L++gorL W s (X.drop k)=gorB W X))
theorem gorPack_right {W:Nat} (hW:IsW W) (A:Option Addr) (n c:Nat) (ws:List Nat) (w:World) (hr:Rd w w.heap.size A (wvs ws)) (hn:ws.length=n) (hb1:n≤1000) (hlt64:∀ x∈ws,x<18446744073709551616) (ht:TabA w) :
  Calls prog 51 #[.slice A n c,.int .i64 (W:Int)] w fun e w'=>∃ bs,jxp bs (packB W ws)∧NewBy w bs e w':=by
 subst hn
 have hp:=hW.pos
 have h8:256^W≤18446744073709551616:=by rcases hW with rfl | rfl | rfl | rfl <;> decide
 have C1:=jq (fun (w':World) (hb:Below w.heap.size w w')=>qdt W hW A ws.length c ws w' ((hr.below hb).more hb.size) rfl (by omega) hlt64)
 have hXl:=jmk W ws
 have hXt:=flipW_lt W ws
 have hpk:packB W ws=gorB W (jwr W ws):=rfl
 obtain⟨X,hX⟩:∃ X,X=jwr W ws:=⟨_,rfl⟩
 rw[←hX] at C1 hXl hXt hpk
 rw[hpk]
 have HX:=jq hXt
 have HXL:=jq hXl
 have HT:=jq ht
 have HT0:=jq ht.pos
 have HP:=jq (And.intro hp h8)
 have HW:=jq hW
 have hW8:(W:Int)≤8:=by omega
 have hXb:(X.length:Int)≤1000:=by omega
 have hW1:(1:Int)≤(W:Int):=by omega
 clear hX hXl hXt hpk ht hp h8 hr hlt64 hW
 go_enter func51,ntmps51
 go_wp2_with fail
 have hb1:Below w.heap.size w ((w.alloc (.cells #[.slice none 0 0,.int .i64 0] 102)).alloc (.cells #[.int .i64 0,.int .i64 0,.int .i64 0] 104)):=((Below.refl _ _).alloc jw _).alloc (by simp) _
 have hat1:=(wrAt_new w w.heap.size jw).only (jjj.of_below (B:=0) (ts:=[]) ((Below.refl _ _).alloc jw (.cells #[.int .i64 0,.int .i64 0,.int .i64 0] 104))) (by decide) (by decide)
 have hk1:Blk ((w.alloc (.cells #[.slice none 0 0,.int .i64 0] 102)).alloc (.cells #[.int .i64 0,.int .i64 0,.int .i64 0] 104)) (w.heap.size+1) 104 [.int .i64 0,.int .i64 0,.int .i64 0]:=by
  have:=heap_alloc_new (w.alloc (.cells #[.slice none 0 0,.int .i64 0] 102)) (.cells #[.int .i64 0,.int .i64 0,.int .i64 0] 104)
  simpa [Blk] using this
 refine (C1.out _ hb1).mono ?_
 rintro e w2 ⟨v,rfl,hown,hb2⟩
 have HAT:=jq (hat1.only (jjj.of_below (B:=0) (ts:=[]) hb2) (by decide) (by decide))
 have HK:=jq (hk1.grow hb2)
 have HB:=jq (hb1.trans (hb2.mono hb1.size))
 obtain⟨A1,c1,rfl,hc1,-,-⟩:=jjk hown
 have HR:=jq (RdT.of_own hown)
 clear hb1 hat1 hk1 hb2 hown C1
 obtain⟨P,hP⟩:∃ P,P=w.heap.size+1:=⟨_,rfl⟩
 rw[←hP] at HK
 rw[←hP]
 have HPP:=jq hP
 clear hP
 go_wp2_with fail
 go_loopw [15,7,8] (fun i _ _ wr=>GPackRel w W X A1 w.heap.size P i wr) (fun i _ _ _=>X.length - (intOf i).toNat)
 case atStart=>exact⟨0,[],none,0,0,0,Nat.zero_le _,rfl,rfl,trivial,HAT.out,HK.out,HR.out,HB.out,Nat.zero_le _,jq (.inl ⟨rfl,rfl,rfl⟩)⟩
 case round =>
  clear HAT HK HR HB
  obtain⟨k,L,s,a,m,b,hk,rfl,hf,hs,hat,hblk,hrd,hbel,hll,HG⟩:=hrel
  have HXL2:=HXL.out
  by_cases hlt:k<X.length
  ·obtain⟨ab,ao,rfl,-,hcell⟩:=hrd k _ (qzx X k hlt)
   obtain⟨x,hx0⟩:∃ x,x=X[k]:=⟨_,rfl⟩
   rw[←hx0] at hcell
   have hxl:x<256^W:=by rw[hx0];exact HX.out _ (List.getElem_mem _)
   have hx:X[k]?=some x:=by rw[hx0];simp
   clear hx0
   have hki:(k:Int)<(X.length:Int):=by omega
   have HAT:=jq hat
   have HBL:=jq hblk
   have HRD:=jq hrd
   have HBE:=jq hbel
   have HLL:=jq (And.intro hll (And.intro hlt HXL2))
   by_cases hk0:k=0
   ·subst hk0
    rw[Nat.add_zero] at hcell
    have hg:L=[]∧s=none:=by
     rcases HG.out with ⟨-,h1,h2⟩ | ⟨h1,-⟩
     ·exact⟨h1,h2⟩
     ·omega
    obtain⟨rfl,rfl⟩:=hg
    have hV:8*(W:Int)=((8*W:Nat):Int):=by omega
    have c2:=jgs w.heap.size w.heap.size [] x (8*W) wr hat (by simp) (by have:=HP.out.2;omega) (by have:=HP.out.1;omega)
    rw[←hV] at c2
    have C2:=jq c2
    have HH:=jq (And.intro hf (And.intro hx hxl))
    clear hV c2 hat hblk hrd hbel hll hlt HXL2 hf hs hx hxl
    go_wp2_with fail
    refine C2.out.mono ?_
    rintro e w3 ⟨rfl,hat3,ho3⟩
    have HAT3:=jq hat3
    have HO3:=jq ho3
    clear hat3 ho3 C2
    go_wp2_with fail
    have hpl:0<X.length:=HLL.out.2.1
    refine⟨⟨0+1,[]++bitsOf x (8*W),none,a,m,b,hpl,by go_num,HH.out.1,trivial,HAT3.out,HBL.out.only HO3.out (by decide),HRD.out.only HO3.out (by decide),HBE.out.trans (HO3.out.below HBE.out.size),?_,jq (.inr ⟨by omega,?_⟩)⟩,?_⟩
    ·have:=HP.out.1
     simp[jjy]
     omega
    ·rw[gorB_first HH.out.2.1]
     rfl
    ·simp[intOf];omega
   ·have hki0:((k:Int)==0)=false:=by rw[beq_eq_false_iff_ne];omega
    have hg:L++gorL W s (X.drop k)=gorB W X:=by
     rcases HG.out with ⟨h1,-,-⟩ | ⟨-,h1⟩
     ·exact absurd h1 hk0
     ·exact h1
    rw[gorL_next hx,←List.append_assoc] at hg
    have c2:=winLay_any HW.out s hs x hxl w.heap.size w.heap.size L wr hat (by omega) (HT.out.below hbel HT0.out) HT0.out
    have hsl:=stepB_len (W:=W) (x:=x) (s:=s)
    have hs2:=nextW_ok (by have:=HP.out.1;omega) hxl hs
    unfold Lays at c2
    obtain⟨a1,m1,b1,hf1,-,-,-,-,-⟩:=qmq W (qqg W s x) hs2
    rw[hf,hf1] at c2
    unfold triV at c2
    have hc:=hblk
    have c0:=hc.cell 0
    have c1:=hc.cell 1
    have c2':=hc.cell 2
    simp only[jy,jx] at c0 c1 c2'
    have C2:=jq c2
    have HH:=jq (And.intro hg (And.intro hsl (And.intro hs2 (And.intro hf1 hk0))))
    clear c2 hat hblk hrd hbel hll hlt HXL2 hf hs hx hxl hg hsl hs2 hf1 hc HG
    go_wp2_with fail
    refine C2.out.mono ?_
    rintro e w3 ⟨rfl,hat3,ho3⟩
    have hk3:=HBL.out.only ho3 (by decide)
    have HAT3:=jq hat3
    have HO3:=jq ho3
    have HK3:=jq hk3
    have d0:=hk3.cell 0
    have d1:=hk3.cell 1
    have d2:=hk3.cell 2
    simp only[jy,jx] at d0 d1 d2
    have f0:=hk3.frozen 0
    have f1:=hk3.frozen 1
    have f2:=hk3.frozen 2
    clear hat3 ho3 C2 hk3 c0 c1 c2'
    go_wp2_with fail
    have hso:=jzz HK3.out (B:=w.heap.size) (by have:=HPP.out;omega) (.int .i64 (a1:Int)) (.int .i64 (m1:Int)) (.int .i64 (b1:Int))
    have hb3:=HBE.out.trans (HO3.out.below HBE.out.size)
    refine⟨⟨k+1,L++qkg W s x,qqg W s x,a1,m1,b1,HLL.out.2.1,by go_num,HH.out.2.2.2.1,HH.out.2.2.1,HAT3.out.only hso (by decide) (by decide),set3 HK3.out _ _ _,(HRD.out.only HO3.out (by decide)).only hso (by decide),hb3.trans (hso.below hb3.size),?_,jq (.inr ⟨by omega,HH.out.1⟩)⟩,?_⟩
    ·have h1:=HH.out.2.1
     have h2:=HP.out.1
     have h3:=HLL.out.1
     rw[List.length_append]
     omega
    ·have:=HLL.out.2.1
     simp[intOf];omega
  ·have hki:¬ (k:Int)<(X.length:Int):=by omega
   have hL:L=gorB W X:=by
    rcases HG.out with ⟨h1,h2,-⟩ | ⟨h1,h2⟩
    ·have:X=[]:=List.length_eq_zero_iff.1 (by omega)
     rw[h2,this];rfl
    ·rw[List.drop_of_length_le (by omega)] at h2
     simpa [gorL] using h2
   have C2:=jq (wBytes_any w.heap.size w.heap.size L wr hat (by omega))
   have HBE:=jq hbel
   have HL:=jq hL
   clear hat hblk hrd hbel hll hlt HXL2 hf hs hL HG
   go_wp2_with fail
   refine C2.out.mono ?_
   rintro e w3 ⟨bs,hpk,v,rfl,hown,hb3⟩
   have HR:=jq (jbb hown HBE.out.size)
   have HB3:=jq (HBE.out.trans (hb3.mono HBE.out.size))
   clear hown hb3 C2
   go_wp2_with fail
   go_ret
   exact⟨bs,HL.out ▸ hpk,_,rfl,HR.out,HB3.out⟩
end
end Go.Proofs.YtflcmmeoppdhdaaGreatDoor
