/- Contracts of layer 7: a row that is gone through by a function that is ranged over. · Contracts of layer 7: Flip, Back. -/
import Derived.Test.YtflcmmeoppdhdaaGreatDoorQ08
import Derived.RangeFuncBox
import Derived.RangeFuncLeaves
import Derived.RangeFuncNested
import Derived.Shelf.Abstract
import Derived.OwnWalkIn
import Derived.TacticsInMore
import Derived.LoopNIn
import Derived.LoopIn
import Derived.Maps.AppendAt
set_option maxHeartbeats 2000000
set_option maxRecDepth 100000
namespace Go.Proofs.YtflcmmeoppdhdaaGreatDoor
open Tryz
section
open Go.RowKit Go.Shelf
attribute [local go_sem] Oper.semAt_some
abbrev U64:={ x:Nat // x<18446744073709551616 }
def vals (l:List U64):List Nat:=l.map (·.1)
def fitU (W:Nat) (ws:List Nat):List U64:=ws.map fun x=>⟨x%256^W%18446744073709551616,Nat.mod_lt _ (by decide)⟩
theorem jkg (W:Nat) (ws:List Nat):(fitU W ws).length=ws.length:=List.length_map ..
theorem mod_small {W:Nat} (hW:IsW W) (x:Nat):x%256^W%18446744073709551616=x%256^W:=by
 refine Nat.mod_eq_of_lt (Nat.lt_of_lt_of_le (Nat.mod_lt x (jxz (W:=W))) ?_)
 rcases jmm hW with e | e | e | e <;> rw[e] <;> decide
theorem vals_fit {W:Nat} (hW:IsW W) (ws:List Nat):vals (fitU W ws)=ws.map (·%256^W):=by
 unfold vals fitU
 rw[List.map_map]
 exact List.map_congr_left fun x _=>mod_small hW x
theorem qzy (l:List U64) (x:U64):vals (l++[x])=vals l++[x.1]:=by simp[vals]
theorem jgr (l:List U64):(vals l).length=l.length:=by simp[vals]
theorem vals_lt (l:List U64):∀ x∈vals l,x<18446744073709551616:=by
 intro x hx
 obtain⟨y,_,rfl⟩:=List.mem_map.1 hx
 exact y.2
def jkc (n₀ BM M:Nat) (W W':World):Prop:=Below n₀ W W'∧(One W BM M→One W' BM M)
theorem jkc.trans {n₀ BM M:Nat} {X Y Z:World} (h:jkc n₀ BM M X Y) (k:jkc n₀ BM M Y Z):jkc n₀ BM M X Z:=⟨h.1.trans k.1,fun x=>k.2 (h.2 x)⟩
theorem jkc.put {n₀ BM M:Nat} {w:World} (hn:n₀≤w.heap.size) (W:World) (l:Nat) (o o':Obj) (hl:w.heap.size≤l) (h:W.heap[l]?=some o) (hc:o.isCells=false) (hw:o.isWalk=false):jkc n₀ BM M W (W.putObj l o') :=
 ⟨belowK_b hn W l o o' hl h hc hw,fun hm=>by
  refine (World.putObj_heap_other (fun e=>?_)).trans hm
  subst e
  rw[show W.heap[BM]?=_ from hm] at h
  cases h
  cases hc⟩
theorem fit1_in (n:Nat) (hn:1≤n) (l Bl BM n₀ W:Nat) (hW:IsW W) (A:Option Addr) (c:Nat) (ws:List Nat) (hb1:ws.length≤1000000000000) (hlt64:∀ x∈ws,x<18446744073709551616) (J Jx:List U64→World→Prop)
  (hY:∀ pre (x:U64) Wd,J pre Wd→pre.length<ws.length→YieldAt Fence.wide (n - 1) prog l #[.int .u64 (x.1:Int)] Wd fun e W' =>
   (e=.returned (.bool true)∧J (pre++[x]) W'∧jkc n₀ BM (maskN (W:Int)) Wd W')∨(e=.returned (.bool false)∧Jx (pre++[x]) W'))
  (w:World) (hl:w.cell? ⟨Bl,0,none⟩=some (.slice A ws.length c)) (hm:One w BM (maskN (W:Int))) (hr:Rd w n₀ A (wvs ws)) (h0:J [] w) :
  CallsIn Fence.wide n prog 69 #[.func (.yield l) #[] #[],.pointer (some ⟨Bl,0,none⟩),.pointer (some ⟨BM,0,none⟩)] w fun e w'=>(∃ v,e=.returned v) ∧
   ((∃ ys,ys=fitU W ws∧J ys w')∨(∃ pre,True∧Jx pre w')):=by
 obtain⟨M,hM⟩:∃ M,M=maskN (W:Int):=⟨_,rfl⟩
 have H64:=jq hlt64
 have HWW:=jq hW
 have HM:=jq hM
 rw[←hM] at hm hY
 clear hlt64 hW hM
 refine callsIn_of_wp func69 rfl trivial ?_ rfl
 simp only[ntmps69,List.size_toArray,List.length_cons,List.length_nil,Nat.reduceAdd,Nat.reduceSub,Array.replicate_succ,Array.replicate_zero,List.push_toArray,List.append_toArray,List.nil_append,List.cons_append]
 gi_wp2
 gi_loopw [8] (fun i wr=>∃ k:Nat,k≤ws.length∧i=.int .i64 k∧J ((fitU W ws).take k) wr∧jkc n₀ BM M w wr)
  (fun i _=>ws.length - (intOf i).toNat)
 case atStart=>exact⟨0,Nat.zero_le _,rfl,h0,Below.refl _ _,fun h=>h⟩
 case round =>
  obtain⟨k,hk,rfl,hJs,hnx⟩:=hrel
  by_cases hlt:k<ws.length
  ·obtain⟨ab,ao,rfl,hab,hcell0⟩:=hr k _ (qzx ws k hlt)
   have hcell:=(hnx.1.cell (p:=⟨ab,ao+k,none⟩) hab).trans hcell0
   have hmc:=(hnx.2 hm).cell
   have hv:=H64.out _ (List.getElem_mem hlt)
   have hma:=qqm W ws[k] HWW.out hv
   rw[←HM.out] at hma
   have hx:(fitU W ws)[k]'(by rw[jkg];exact hlt)=⟨ws[k]%256^W%18446744073709551616,Nat.mod_lt _ (by decide)⟩:=by simp[fitU]
   have htake:=List.take_append_getElem (l:=fitU W ws) (i:=k) (by rw[jkg];exact hlt)
   obtain⟨fn,tmps,assign,body,hy,hR⟩:=hY _ ((fitU W ws)[k]'(by rw[jkg];exact hlt)) wr hJs (by rw[List.length_take,jkg];omega)
   rw[htake] at hR
   rw[hx] at hy
   dsimp only at hy
   rw[mod_small HWW.out,←hma] at hy
   have hk1:(k:Int)<(ws.length:Int):=by omega
   clear hma hx htake hcell0 hJs
   gi_wp2
   refine hR.mono ?_
   rintro e W3 (⟨rfl,hJ3,hk3⟩ | ⟨rfl,hJx3⟩)
   ·gi_wp2
    go_roundw
    case rel=>exact⟨k+1,by omega,by go_num,hJ3,hnx.trans hk3⟩
    case measure=>simp[intOf];omega
   ·gi_wp2
    refine bodyPost_ret (results_none rfl _ _ _) rfl ?_
    exact⟨⟨_,rfl⟩,.inr ⟨_,trivial,hJx3⟩⟩
  ·obtain rfl:k=ws.length:=by omega
   rw[List.take_of_length_le (by rw[jkg];exact Nat.le_refl _)] at hJs
   gi_wp2
   go_end0
   exact⟨⟨_,rfl⟩,.inl ⟨_,rfl,hJs⟩⟩
theorem fit_stops (n:Nat) (hn:1≤n) (Bl BM n₀ W:Nat) (hW:IsW W) (A:Option Addr) (c:Nat) (ws:List Nat) (hb1:ws.length≤1000000000000) (hlt64:∀ x∈ws,x<18446744073709551616)
  (w:World) (hBl:Boxed w Bl 63 (.slice A ws.length c)) (hm:One w BM (maskN (W:Int))) (hn₀:n₀≤w.heap.size) (hr:Rd w n₀ A (wvs ws)) :
  SeqStopsK Fence.wide n prog 69 #[.pointer (some ⟨Bl,0,none⟩),.pointer (some ⟨BM,0,none⟩)] (fun x:U64=>#[Value.int .u64 (x.1:Int)]) (jkc n₀ BM (maskN (W:Int))) (fun ys=>ys=fitU W ws) (fun _=>True) ws.length w :=
 fun l J Jx W' hW' _ _ hY h0 =>
  fit1_in n hn l Bl BM n₀ W hW A c ws hb1 hlt64 J Jx hY W' ((hW'.cell (p:=⟨Bl,0,none⟩) hBl.lt).trans hBl.cell) (Blk.grow hm hW') (fun k u hu=>by
   obtain⟨b,off,rfl,hb,hc⟩:=hr k u hu
   exact⟨b,off,rfl,hb,(hW'.cell (p:=⟨b,off+k,none⟩) (Nat.lt_of_lt_of_le hb hn₀)).trans hc⟩) h0
theorem fitting_any (W:Int) (A:Option Addr) (n c:Nat) (w:World) :
  Calls prog 45 #[.slice A n c,.int .i64 W] w fun e w'=>e=.returned (.func (.func 69) #[] #[.pointer (some ⟨w.heap.size,0,none⟩),.pointer (some ⟨w.heap.size+1,0,none⟩)]) ∧
   Below w.heap.size w w'∧w'.heap.size=w.heap.size+2∧Boxed w' w.heap.size 63 (.slice A n c)∧One w' (w.heap.size+1) (maskN W):=by
 have c2:=jyc W
 have C2:=jq c2
 clear c2
 go_enter func45,ntmps45
 go_wp2_with (go_at_call 66;go_must (refine (C2.out _).mono ?_;rintro e w' ⟨rfl,rfl⟩))
 go_ret
 refine⟨rfl,((Below.refl _ _).alloc jw _).alloc (by simp) _,by simp,(Boxed.new _ _ _).alloc _,?_⟩
 have h:=one_new (w.alloc (.cells #[.slice A n c] 63)) (maskN W)
 rwa [World.size_alloc] at h
attribute [local go_sem] Oper.semAt_some
theorem jdr {W W':World} {row:Option Nat} {g:Nat} {t:TypeId} {cs:List Value} (h:Blk W g t cs) (hg:W.grownBy W' row) (hne:some g≠row):Blk W' g t cs:=(hg.block g (Blk.lt h) hne).trans h
def SeqI (w:World) (BR BO BA BM M n:Nat) (f:List Nat→List Nat) (s:List Nat→Nat) (pre:List U64) (W:World):Prop :=
 (∃ v,Boxed W BO 63 v∧W.ownsRow w.heap.size 64 1 v pre.length (wvs (f (vals pre)))∧v=.slice (some ⟨BR,0,none⟩) pre.length n)∧One W BA (s (vals pre))∧One W BM M∧Below w.heap.size w W
theorem seqI_own (w:World) (BR BO BA BM M n:Nat) (f:List Nat→List Nat) (s:List Nat→Nat) (B:Nat) (hB:w.heap.size≤B):OwnFrom B (SeqI w BR BO BA BM M n f s) :=
 OwnFrom.and (Own.from (holdsRow_own w.heap.size BO 63 64 1 (fun pre=>List.length pre) (fun pre=>wvs (f (vals pre))) (fun pre v=>v=.slice (some ⟨BR,0,none⟩) pre.length n)) _)
  (OwnFrom.and (Own.from (boxed_own BA 64 (fun pre=>.int .u64 (s (vals pre):Int))) _) (OwnFrom.and (Own.from (boxed_own BM 64 (fun _=>.int .u64 (M:Int))) _) (ownFrom_below jw hB)))
section
variable {w W w4:World} {BR BO BA BM M n:Nat} {f:List Nat→List Nat} {s:List Nat→Nat} {pre:List U64} {x:U64} {tmp:Obj}
theorem seqI_after {y:Int} {z:Nat} {ys:List Nat} (hv:Boxed W BO 63 (.slice (some ⟨BR,0,none⟩) pre.length n)) (hrow:W.ownsRow w.heap.size 64 1 (.slice (some ⟨BR,0,none⟩) pre.length n) pre.length (wvs ys)) (ha:One W BA z) (hm:One W BM M) (hB:Below w.heap.size w W)
  (hO:w.heap.size≤BO) (hA:w.heap.size≤BA) (n1:BA≠BR) (n2:BM≠BR) (n3:BA≠BO) (n4:BM≠BO) (n5:BM≠BA)
  (hown:w4.ownsRow w.heap.size 64 1 (.slice (some ⟨BR,0,none⟩) (pre.length+1) n) (pre.length+1) (wvs ys++[.int .u64 y])) (hg:(W.alloc tmp).grownBy w4 (some BR))
  (hf:wvs ys++[.int .u64 y]=wvs (f (vals (pre++[x])))) (hs:s (vals (pre++[x]))=x.1) :
  Boxed w4 BO 63 (.slice (some ⟨BR,0,none⟩) pre.length n)∧One (w4.setCell ⟨BO,0,none⟩ (.slice (some ⟨BR,0,none⟩) (pre.length+1) n)) BA z ∧
   KeepsOthers W ((w4.setCell ⟨BO,0,none⟩ (.slice (some ⟨BR,0,none⟩) (pre.length+1) n)).setCell ⟨BA,0,none⟩ (.int .u64 (x.1:Int))) ∧
   jkc w.heap.size BM M W ((w4.setCell ⟨BO,0,none⟩ (.slice (some ⟨BR,0,none⟩) (pre.length+1) n)).setCell ⟨BA,0,none⟩ (.int .u64 (x.1:Int))) ∧
   SeqI w BR BO BA BM M n f s (pre++[x]) ((w4.setCell ⟨BO,0,none⟩ (.slice (some ⟨BR,0,none⟩) (pre.length+1) n)).setCell ⟨BA,0,none⟩ (.int .u64 (x.1:Int))):=by
 obtain⟨hv1,hv2,hr2,hk2,hb2⟩:=hv.appended (by decide) hrow hB.size hO hown hg
 have ha1:One w4 BA z:=jdr (Blk.alloc_ ha tmp) hg (fun e=>n1 (by cases e;rfl))
 have hm1:One w4 BM M:=jdr (Blk.alloc_ hm tmp) hg (fun e=>n2 (by cases e;rfl))
 have ha2:One (w4.setCell ⟨BO,0,none⟩ (.slice (some ⟨BR,0,none⟩) (pre.length+1) n)) BA z:=Blk.setOther ha1 _ _ n3
 have hm2:One (w4.setCell ⟨BO,0,none⟩ (.slice (some ⟨BR,0,none⟩) (pre.length+1) n)) BM M:=Blk.setOther hm1 _ _ n4
 have hm3:One ((w4.setCell ⟨BO,0,none⟩ (.slice (some ⟨BR,0,none⟩) (pre.length+1) n)).setCell ⟨BA,0,none⟩ (.int .u64 (x.1:Int))) BM M:=Blk.setOther hm2 _ _ n5
 have hb3:=hb2.setCell (p:=⟨BA,0,none⟩) hA (.int .u64 (x.1:Int))
 have hr3:=hr2.kept (grownBy_setCell' _ BA (.int .u64 (x.1:Int))) (.inr (by simp[Value.ownBlock];omega))
 rw[hf] at hr3
 refine⟨hv1,ha2,hk2.trans (KeepsOthers.setCell _ _ _),⟨hb3,fun _=>hm3⟩,⟨_,hv2.other (fun e=>n3 e.symm) _,?_,?_⟩,?_,hm3,hB.trans hb3⟩
 ·rw[List.length_append,List.length_singleton];exact hr3
 ·rw[List.length_append,List.length_singleton]
 ·rw[hs];exact ha2.set_ x.1
theorem seqI_ahead {y:Nat} {z:Nat} {ys:List Nat} (hv:Boxed W BO 63 (.slice (some ⟨BR,0,none⟩) pre.length n)) (hrow:W.ownsRow w.heap.size 64 1 (.slice (some ⟨BR,0,none⟩) pre.length n) pre.length (wvs ys)) (ha:One W BA z) (hm:One W BM M) (hB:Below w.heap.size w W)
  (hO:w.heap.size≤BO) (hA:w.heap.size≤BA) (n1:BA≠BR) (n2:BM≠BR) (n3:BA≠BO) (n4:BM≠BO) (n5:BM≠BA)
  (hown:w4.ownsRow w.heap.size 64 1 (.slice (some ⟨BR,0,none⟩) (pre.length+1) n) (pre.length+1) (wvs ys++[.int .u64 (y:Int)])) (hg:((W.setCell ⟨BA,0,none⟩ (.int .u64 (y:Int))).alloc tmp).grownBy w4 (some BR))
  (hf:wvs ys++[.int .u64 (y:Int)]=wvs (f (vals (pre++[x])))) (hs:s (vals (pre++[x]))=y) :
  Boxed w4 BO 63 (.slice (some ⟨BR,0,none⟩) pre.length n) ∧
   KeepsOthers W (w4.setCell ⟨BO,0,none⟩ (.slice (some ⟨BR,0,none⟩) (pre.length+1) n)) ∧
   jkc w.heap.size BM M W (w4.setCell ⟨BO,0,none⟩ (.slice (some ⟨BR,0,none⟩) (pre.length+1) n)) ∧
   SeqI w BR BO BA BM M n f s (pre++[x]) (w4.setCell ⟨BO,0,none⟩ (.slice (some ⟨BR,0,none⟩) (pre.length+1) n)):=by
 have hb0:=(Below.refl w.heap.size W).setCell (p:=⟨BA,0,none⟩) hA (.int .u64 (y:Int))
 have hr0:=hrow.kept (grownBy_setCell' _ BA (.int .u64 (y:Int))) (.inr (by simp[Value.ownBlock];omega))
 have hv0:=hv.other (fun e=>n3 e.symm) (.int .u64 (y:Int))
 have ha0:=ha.set_ y
 have hm0:One (W.setCell ⟨BA,0,none⟩ (.int .u64 (y:Int))) BM M:=Blk.setOther hm _ _ n5
 have hB0:=hB.trans hb0
 obtain⟨hv1,hv2,hr2,hk2,hb2⟩:=hv0.appended (by decide) hr0 hB0.size hO hown hg
 have ha1:One w4 BA y:=jdr (Blk.alloc_ ha0 tmp) hg (fun e=>n1 (by cases e;rfl))
 have hm1:One w4 BM M:=jdr (Blk.alloc_ hm0 tmp) hg (fun e=>n2 (by cases e;rfl))
 have ha2:One (w4.setCell ⟨BO,0,none⟩ (.slice (some ⟨BR,0,none⟩) (pre.length+1) n)) BA y:=Blk.setOther ha1 _ _ n3
 have hm2:One (w4.setCell ⟨BO,0,none⟩ (.slice (some ⟨BR,0,none⟩) (pre.length+1) n)) BM M:=Blk.setOther hm1 _ _ n4
 rw[hf] at hr2
 refine⟨hv1,(KeepsOthers.setCell _ _ _).trans hk2,⟨hb0.trans hb2,fun _=>hm2⟩,⟨_,hv2,?_,?_⟩,?_,hm2,hB0.trans hb2⟩
 ·rw[List.length_append,List.length_singleton];exact hr2
 ·rw[List.length_append,List.length_singleton]
 ·rw[hs];exact ha2
end
def NewO (w:World) (ws:List Nat) (e:Ending) (w':World):Prop:=∃ v,e=.returned v∧w'.ownsRow w.heap.size 64 1 v ws.length (wvs ws)∧Below w.heap.size w w'
theorem NewO.new {w w':World} {ws:List Nat} {e:Ending} (h:NewO w ws e w'):NewW w ws e w':=by
 obtain⟨v,rfl,h1,h2⟩:=h
 exact NewW.of_own h1 h2
theorem flip_one (p:List U64) (x:U64):wvs (jwr 8 (vals p))++[.int .u64 (bits .xor .u64 (x.1:Int) (ahead (vals p) p.length:Int))]=wvs (jwr 8 (vals (p++[x]))):=by
 have ha:=ahead_lt (vals p) _ (by decide) (vals_lt p) p.length
 rw[qzy,flip_snoc,wvs_snoc,u64_xor_nat _ _ x.2 ha,jgr,Nat.mod_eq_of_lt (xor_lt 8 _ _ x.2 ha)]
theorem back_one (p:List U64) (x:U64):wvs (jbr 8 (vals p))++[.int .u64 ((jvy (vals (p++[x])) (p.length+1):Nat):Int)]=wvs (jbr 8 (vals (p++[x]))):=by
 have ha:=xorTo_lt (vals p) (vals_lt p) p.length
 rw[qzy,back_snoc,wvs_snoc,←jgr p,qdw,Nat.mod_eq_of_lt (xor_lt 8 _ _ (by rw[jgr];exact ha) x.2)]
theorem back_two (p:List U64) (x:U64):bits .xor .u64 ((jvy (vals p) p.length:Nat):Int) (x.1:Int)=((jvy (vals (p++[x])) (p.length+1):Nat):Int):=by
 have ha:=xorTo_lt (vals p) (vals_lt p) p.length
 rw[u64_xor_nat _ _ ha x.2,qzy,←jgr p,qdw]
theorem qyn (a:Value) (W:Int) (w:World) (hW:jqj W=false) :
  Calls prog 26 #[a,.int .i64 W] w (NewW w []):=by
 have c1:=jjx W false hW.symm
 have C1:=jq c1
 clear c1
 go_enter func26,ntmps26
 go_wp2_with (go_at_call 14;go_must (refine (C1.out _).mono ?_;rintro e w' ⟨rfl,rfl⟩))
 go_ret
 exact⟨.slice none 0 0,rfl,⟨none,0,rfl,Nat.le_refl _,Rd.nil_ _ _ _⟩,Below.refl _ _⟩
theorem qdt (W:Nat) (hW:IsW W) (A:Option Addr) (n c:Nat) (ws:List Nat) (w:World) (hr:Rd w w.heap.size A (wvs ws)) (hn:ws.length=n) (hb1:n≤1000000000000) (hlt64:∀ x∈ws,x<18446744073709551616) :
  Calls prog 26 #[.slice A n c,.int .i64 (W:Int)] w (NewO w (jwr W ws)):=by
 obtain⟨i0,hi,hz0,hz1,hz2⟩:=info_parts jyy
 subst hn
 have H64:=jq hlt64
 have HWW:=jq hW
 have c1:=jjx (W:Int) true hW.right
 have C1:=jq c1
 have c2:=fun w=>fitting_any (W:Int) A ws.length c w
 have C2:=jq c2
 clear hlt64 hW c1 c2
 refine (callsIn_wide (n:=4)).1 ?_
 refine callsIn_of_wp_marks func26 rfl trivial ?_ rfl
 simp only[ntmps26,List.size_toArray,List.length_cons,List.length_nil,Nat.reduceAdd,Nat.reduceSub,Array.replicate_succ,Array.replicate_zero,List.push_toArray,List.append_toArray,List.nil_append,List.cons_append]
 gi_wp2_with (first
  | (refine⟨trivial,?_⟩;gi_at_call 14;refine (callsIn_wide.2 (C1.out _)).mono ?_;rintro e w' ⟨rfl,rfl⟩)
  | (gi_at_make;refine wpListIn_make_own _ rfl _ _ 63 rfl w.heap.size 64 i0 (.int .u64 0) 1 underlying63 hi hz0 hz1 .i64 .i64 _ ws.length rfl rfl rfl (by rw[hz2];omega) (by simp only[maxLen];omega) jw ?_;intro w1 hown1 hg1)
  | (refine⟨trivial,?_⟩;gi_at_call 45;refine (callsIn_wide.2 (C2.out _)).mono ?_;rintro e w3 ⟨rfl,hb3,hs3,hbl,hbm⟩))
 have hB1:Below w.heap.size w w1:=(Below.refl _ _).grown hg1 jw (by simp)
 have hlt1:=(hown1.lt _ rfl).2
 have hA2:=one_new (w1.alloc (.cells #[.slice (some ⟨w.heap.size,0,none⟩) 0 ws.length] 63)) 0
 have hO2:=(Boxed.new w1 63 (.slice (some ⟨w.heap.size,0,none⟩) 0 ws.length)).alloc (.cells #[.int .u64 0] 64)
 have hrow2:=(hown1.alloc (.cells #[.slice (some ⟨w.heap.size,0,none⟩) 0 ws.length] 63)).alloc (.cells #[.int .u64 0] 64)
 have hB2:=(hB1.alloc hB1.size (.cells #[.slice (some ⟨w.heap.size,0,none⟩) 0 ws.length] 63)).alloc (by have:=hB1.size;simp;omega) (.cells #[.int .u64 0] 64)
 have hs2:w1.heap.size+1+1=((w1.alloc (.cells #[.slice (some ⟨w.heap.size,0,none⟩) 0 ws.length] 63)).alloc (.cells #[.int .u64 0] 64)).heap.size:=by simp
 simp only[World.size_alloc] at hs3 hbl hbm hA2
 have hrow3:=jyh hrow2 hb3
 have hO3:Boxed w3 w1.heap.size 63 (.slice (some ⟨w.heap.size,0,none⟩) 0 ws.length):=(hb3.block w1.heap.size (by rw[←hs2];omega)).trans hO2
 have hA3:One w3 (w1.heap.size+1) 0:=(hb3.block (w1.heap.size+1) (by rw[←hs2];omega)).trans hA2
 have hB3:=hB2.trans (hb3.mono hB2.size)
 have hr3:=hr.below hB3
 obtain⟨BO,hBO⟩:∃ BO,BO=w1.heap.size:=⟨_,rfl⟩
 obtain⟨BR,hBR⟩:∃ BR,BR=w.heap.size:=⟨_,rfl⟩
 have hsz:=hB1.size
 clear hA2 hO2 hrow2 hB2 hs2 hb3 hown1 hB1 hg1
 rw[←hBO] at hbl hbm hO3 hA3 hsz
 rw[←hBO]
 have e1:(Addr.mk w.heap.size 0 none)=⟨BR,0,none⟩:=by rw[hBR]
 rw[e1] at hO3 hrow3
 rw[e1]
 have hlt2:BR<BO:=by rw[hBO,hBR];exact hlt1
 clear hBO hBR e1 hlt1 hs3
 refine wpIn_rangeFunc_ownG rfl (by omega) (gf:=69) (lb:=#[.pointer (some ⟨BO+1+1,0,none⟩),.pointer (some ⟨BO+1+1+1,0,none⟩)]) rfl trivial (enters_of func69 (by kernel_rfl) rfl)
  (fit_stops 3 (by omega) (BO+1+1) (BO+1+1+1) w.heap.size W HWW.out A c ws hb1 H64.out w3 hbl hbm hB3.size hr3) jkc.trans (jkc.put hB3.size) (Below.refl _ _) (fun _=>rfl)
  (SeqI w BR BO (BO+1) (BO+1+1+1) (maskN (W:Int)) ws.length (jwr 8) (fun p=>ahead p p.length))
  (fun _ _ _=>False) (seqI_own _ _ _ _ _ _ _ _ _ _ hB3.size)
  (fun _ _ _ _ _ hs _ _=>hs)
  ⟨⟨_,hO3,hrow3,rfl⟩,hA3,hbm,hB3⟩
  (fun x=>{ tmps:=#[.slice A ws.length c,.int .i64 (W:Int),undef,undef,.slice none 0 0,.pointer (some ⟨BO,0,none⟩),.pointer (some ⟨BO+1,0,none⟩),.int .u64 (x.1:Int),.int .i64 (W:Int),.bool true,.bool false,.slice A ws.length c,.int .i64 ws.length,.slice (some ⟨BR,0,none⟩) 0 ws.length,.slice A ws.length c,.int .i64 (W:Int),.func (.func 69) #[] #[.pointer (some ⟨BO+1+1,0,none⟩),.pointer (some ⟨BO+1+1+1,0,none⟩)],.int .u64 (x.1:Int),undef,undef,undef,undef,undef,undef,undef,undef],defers:=[] }) ?assign ?body ?done ?stop
 case assign =>
  intro l x Wd K hK
  gi_wp2
  exact hK
 case body =>
  rintro l pre x Wd ⟨⟨v,hv,hrow,rfl⟩,ha,hm,hB⟩ hlt
  have hc:=hv.cell
  have hac:=ha.cell
  have haf:=ha.frozen
  dsimp only at hac
  rw[jgr] at hac
  have hy:=flip_one pre x
  have hs:ahead (vals (pre++[x])) (vals (pre++[x])).length=x.1:=by rw[qzy,List.length_append,List.length_singleton,ahead_last]
  gi_wp2_with (gi_at_builtin;refine wpListIn_append_fits _ rfl _ _ 63 rfl w.heap.size 64 i0 1 underlying63 hi hz1 BR pre.length ws.length _ rfl (hrow.alloc _) ⟨Wd.heap.size,0,none⟩ 1 1 [.int .u64 (bits .xor .u64 (x.1:Int) (ahead (vals pre) pre.length:Int))] rfl rfl (cell_one_new _ _ _) (by simp[Value.oneCell']) (by omega) ?_;intro w4 hown4 hg4;obtain⟨hv1,ha2,hk5,hm5,hI5⟩:=seqI_after (f:=jwr 8) (s:=fun p=>ahead p p.length) hv hrow ha hm hB (by omega) (by omega) (by omega) (by omega) (by omega) (by omega) (by omega) hown4 hg4 hy hs;have hc1:=hv1.cell;have hf1:=hv1.frozen;have hc2:=ha2.cell;have hf2:=ha2.frozen)
  exact⟨hk5.from _,hm5,hI5⟩
 case done =>
  rintro D ys Wd hD rfl ⟨⟨v,hv,hrow,rfl⟩,_,_,hB⟩ hK
  have hc:=hv.cell
  gi_wp2
  refine⟨by simp,.inl ⟨_,_,rfl,run_takeDeferred hK,?_⟩⟩
  refine⟨_,results_tmp rfl _ _ _,?_⟩
  rw[vals_fit HWW.out,flip_fit HWW.out] at hrow
  refine⟨_,rfl,?_,(hB.trans (belowK_b (w:=w) jw Wd D _ _ (by have:=hB3.size;omega) hK rfl rfl))⟩
  rw[jmk,jkg]
  rw[jkg] at hrow
  exact ownsRow_putObj hrow _ hK rfl
 case stop =>
  rintro D cc pre Wd _ _ h _
  exact h.elim
theorem flipFlip_right (W:Nat) (hW:IsW W) (A:Option Addr) (n c:Nat) (ws:List Nat) (w:World) (hr:Rd w w.heap.size A (wvs ws)) (hn:ws.length=n) (hb1:n≤1000000000000) (hlt64:∀ x∈ws,x<18446744073709551616) :
  Calls prog 26 #[.slice A n c,.int .i64 (W:Int)] w (NewW w (jwr W ws)) :=
 (qdt W hW A n c ws w hr hn hb1 hlt64).mono fun _ _=>NewO.new
theorem flipFlip_any (W:Int) (A:Option Addr) (n c:Nat) (ws:List Nat) (w:World) (hr:Rd w w.heap.size A (wvs ws)) (hn:ws.length=n) (hb1:n≤1000000000000) (hlt64:∀ x∈ws,x<18446744073709551616) :
  Calls prog 26 #[.slice A n c,.int .i64 W] w (NewW w (ofW jwr W ws)):=by
 cases hR:jqj W with
 | true =>
  obtain⟨V,rfl,hV⟩:=jdk hR
  rw[qyc hV]
  exact flipFlip_right V hV A n c ws w hr hn hb1 hlt64
 | false =>
  unfold ofW
  rw[hR,if_neg (by decide)]
  exact qyn _ W w hR
theorem flipBack_wrong (a:Value) (W:Int) (w:World) (hW:jqj W=false) :
  Calls prog 27 #[a,.int .i64 W] w (NewW w []):=by
 have c1:=jjx W false hW.symm
 have C1:=jq c1
 clear c1
 go_enter func27,ntmps27
 go_wp2_with (go_at_call 14;go_must (refine (C1.out _).mono ?_;rintro e w' ⟨rfl,rfl⟩))
 go_ret
 exact⟨.slice none 0 0,rfl,⟨none,0,rfl,Nat.le_refl _,Rd.nil_ _ _ _⟩,Below.refl _ _⟩
theorem flipBack_own (W:Nat) (hW:IsW W) (A:Option Addr) (n c:Nat) (ws:List Nat) (w:World) (hr:Rd w w.heap.size A (wvs ws)) (hn:ws.length=n) (hb1:n≤1000000000000) (hlt64:∀ x∈ws,x<18446744073709551616) :
  Calls prog 27 #[.slice A n c,.int .i64 (W:Int)] w (NewO w (jbr W ws)):=by
 obtain⟨i0,hi,hz0,hz1,hz2⟩:=info_parts jyy
 subst hn
 have H64:=jq hlt64
 have HWW:=jq hW
 have c1:=jjx (W:Int) true hW.right
 have C1:=jq c1
 have c2:=fun w=>fitting_any (W:Int) A ws.length c w
 have C2:=jq c2
 clear hlt64 hW c1 c2
 refine (callsIn_wide (n:=4)).1 ?_
 refine callsIn_of_wp_marks func27 rfl trivial ?_ rfl
 simp only[ntmps27,List.size_toArray,List.length_cons,List.length_nil,Nat.reduceAdd,Nat.reduceSub,Array.replicate_succ,Array.replicate_zero,List.push_toArray,List.append_toArray,List.nil_append,List.cons_append]
 gi_wp2_with (first
  | (refine⟨trivial,?_⟩;gi_at_call 14;refine (callsIn_wide.2 (C1.out _)).mono ?_;rintro e w' ⟨rfl,rfl⟩)
  | (gi_at_make;refine wpListIn_make_own _ rfl _ _ 63 rfl w.heap.size 64 i0 (.int .u64 0) 1 underlying63 hi hz0 hz1 .i64 .i64 _ ws.length rfl rfl rfl (by rw[hz2];omega) (by simp only[maxLen];omega) jw ?_;intro w1 hown1 hg1)
  | (refine⟨trivial,?_⟩;gi_at_call 45;refine (callsIn_wide.2 (C2.out _)).mono ?_;rintro e w3 ⟨rfl,hb3,hs3,hbl,hbm⟩))
 have hB1:Below w.heap.size w w1:=(Below.refl _ _).grown hg1 jw (by simp)
 have hlt1:=(hown1.lt _ rfl).2
 have hA2:=one_new (w1.alloc (.cells #[.slice (some ⟨w.heap.size,0,none⟩) 0 ws.length] 63)) 0
 have hO2:=(Boxed.new w1 63 (.slice (some ⟨w.heap.size,0,none⟩) 0 ws.length)).alloc (.cells #[.int .u64 0] 64)
 have hrow2:=(hown1.alloc (.cells #[.slice (some ⟨w.heap.size,0,none⟩) 0 ws.length] 63)).alloc (.cells #[.int .u64 0] 64)
 have hB2:=(hB1.alloc hB1.size (.cells #[.slice (some ⟨w.heap.size,0,none⟩) 0 ws.length] 63)).alloc (by have:=hB1.size;simp;omega) (.cells #[.int .u64 0] 64)
 have hs2:w1.heap.size+1+1=((w1.alloc (.cells #[.slice (some ⟨w.heap.size,0,none⟩) 0 ws.length] 63)).alloc (.cells #[.int .u64 0] 64)).heap.size:=by simp
 simp only[World.size_alloc] at hs3 hbl hbm hA2
 have hrow3:=jyh hrow2 hb3
 have hO3:Boxed w3 w1.heap.size 63 (.slice (some ⟨w.heap.size,0,none⟩) 0 ws.length):=(hb3.block w1.heap.size (by rw[←hs2];omega)).trans hO2
 have hA3:One w3 (w1.heap.size+1) 0:=(hb3.block (w1.heap.size+1) (by rw[←hs2];omega)).trans hA2
 have hB3:=hB2.trans (hb3.mono hB2.size)
 have hr3:=hr.below hB3
 obtain⟨BO,hBO⟩:∃ BO,BO=w1.heap.size:=⟨_,rfl⟩
 obtain⟨BR,hBR⟩:∃ BR,BR=w.heap.size:=⟨_,rfl⟩
 have hsz:=hB1.size
 clear hA2 hO2 hrow2 hB2 hs2 hb3 hown1 hB1 hg1
 rw[←hBO] at hbl hbm hO3 hA3 hsz
 rw[←hBO]
 have e1:(Addr.mk w.heap.size 0 none)=⟨BR,0,none⟩:=by rw[hBR]
 rw[e1] at hO3 hrow3
 rw[e1]
 have hlt2:BR<BO:=by rw[hBO,hBR];exact hlt1
 clear hBO hBR e1 hlt1 hs3
 refine wpIn_rangeFunc_ownG rfl (by omega) (gf:=69) (lb:=#[.pointer (some ⟨BO+1+1,0,none⟩),.pointer (some ⟨BO+1+1+1,0,none⟩)]) rfl trivial (enters_of func69 (by kernel_rfl) rfl)
  (fit_stops 3 (by omega) (BO+1+1) (BO+1+1+1) w.heap.size W HWW.out A c ws hb1 H64.out w3 hbl hbm hB3.size hr3) jkc.trans (jkc.put hB3.size) (Below.refl _ _) (fun _=>rfl)
  (SeqI w BR BO (BO+1) (BO+1+1+1) (maskN (W:Int)) ws.length (jbr 8) (fun p=>jvy p p.length))
  (fun _ _ _=>False) (seqI_own _ _ _ _ _ _ _ _ _ _ hB3.size)
  (fun _ _ _ _ _ hs _ _=>hs)
  ⟨⟨_,hO3,hrow3,rfl⟩,hA3,hbm,hB3⟩
  (fun x=>{ tmps:=#[.slice A ws.length c,.int .i64 (W:Int),undef,undef,.slice none 0 0,.pointer (some ⟨BO,0,none⟩),.pointer (some ⟨BO+1,0,none⟩),.int .u64 (x.1:Int),.int .i64 (W:Int),.bool true,.bool false,.slice A ws.length c,.int .i64 ws.length,.slice (some ⟨BR,0,none⟩) 0 ws.length,.slice A ws.length c,.int .i64 (W:Int),.func (.func 69) #[] #[.pointer (some ⟨BO+1+1,0,none⟩),.pointer (some ⟨BO+1+1+1,0,none⟩)],.int .u64 (x.1:Int),undef,undef,undef,undef,undef,undef,undef,undef],defers:=[] }) ?assign ?body ?done ?stop
 case assign =>
  intro l x Wd K hK
  gi_wp2
  exact hK
 case body =>
  rintro l pre x Wd ⟨⟨v,hv,hrow,rfl⟩,ha,hm,hB⟩ hlt
  have hc:=hv.cell
  have hac:=ha.cell
  have haf:=ha.frozen
  dsimp only at hac
  rw[jgr] at hac
  obtain⟨Y,hY⟩:∃ Y,Y=jvy (vals (pre++[x])) (pre.length+1):=⟨_,rfl⟩
  have hy1:=back_one pre x
  have hy2:=back_two pre x
  rw[←hY] at hy1 hy2
  have hs:jvy (vals (pre++[x])) (vals (pre++[x])).length=Y:=by rw[hY,qzy,List.length_append,List.length_singleton,jgr]
  obtain⟨z,hz⟩:∃ z,z=jvy (vals pre) pre.length:=⟨_,rfl⟩
  rw[←hz] at hac hy2
  have ha0:=ha.set_ Y
  have hac0:=ha0.cell
  have haf0:=ha0.frozen
  have hc0:=(hv.other (B':=BO+1) (by omega) (.int .u64 (Y:Int))).cell
  have hr0:=hrow.kept (grownBy_setCell' Wd (BO+1) (.int .u64 (Y:Int))) (.inr (by simp[Value.ownBlock];omega))
  have HY:=jq hy1
  have HS:=jq hs
  have HA:=jq ha
  have hsz0:(Wd.setCell ⟨BO+1,0,none⟩ (.int .u64 (Y:Int))).heap.size=Wd.heap.size:=Array.size_modify ..
  have hnew:=cell_one_new (Wd.setCell ⟨BO+1,0,none⟩ (.int .u64 (Y:Int))) (.int .u64 (Y:Int)) 64
  rw[hsz0] at hnew
  have HNEW:=jq hnew
  clear hY hz hy1 hs ha0 ha hc haf0 hsz0 hnew
  gi_wp2_with (gi_at_builtin;refine wpListIn_append_fits _ rfl _ _ 63 rfl w.heap.size 64 i0 1 underlying63 hi hz1 BR pre.length ws.length _ rfl (hr0.alloc _) ⟨Wd.heap.size,0,none⟩ 1 1 [.int .u64 (Y:Int)] rfl rfl HNEW.out (by simp[Value.oneCell']) (by omega) ?_;intro w4 hown4 hg4;obtain⟨hv1,hk5,hm5,hI5⟩:=seqI_ahead (f:=jbr 8) (s:=fun p=>jvy p p.length) hv hrow HA.out hm hB (by omega) (by omega) (by omega) (by omega) (by omega) (by omega) (by omega) hown4 hg4 HY.out HS.out;have hc1:=hv1.cell;have hf1:=hv1.frozen)
  exact⟨hk5.from _,hm5,hI5⟩
 case done =>
  rintro D ys Wd hD rfl ⟨⟨v,hv,hrow,rfl⟩,_,_,hB⟩ hK
  have hc:=hv.cell
  gi_wp2
  refine⟨by simp,.inl ⟨_,_,rfl,run_takeDeferred hK,?_⟩⟩
  refine⟨_,results_tmp rfl _ _ _,?_⟩
  rw[vals_fit HWW.out,back_fit HWW.out] at hrow
  refine⟨_,rfl,?_,(hB.trans (belowK_b (w:=w) jw Wd D _ _ (by have:=hB3.size;omega) hK rfl rfl))⟩
  rw[qjg,jkg]
  rw[jkg] at hrow
  exact ownsRow_putObj hrow _ hK rfl
 case stop =>
  rintro D cc pre Wd _ _ h _
  exact h.elim
theorem qyl (W:Nat) (hW:IsW W) (A:Option Addr) (n c:Nat) (ws:List Nat) (w:World) (hr:Rd w w.heap.size A (wvs ws)) (hn:ws.length=n) (hb1:n≤1000000000000) (hlt64:∀ x∈ws,x<18446744073709551616) :
  Calls prog 27 #[.slice A n c,.int .i64 (W:Int)] w (NewW w (jbr W ws)) :=
 (flipBack_own W hW A n c ws w hr hn hb1 hlt64).mono fun _ _=>NewO.new
theorem flipBack_any (W:Int) (A:Option Addr) (n c:Nat) (ws:List Nat) (w:World) (hr:Rd w w.heap.size A (wvs ws)) (hn:ws.length=n) (hb1:n≤1000000000000) (hlt64:∀ x∈ws,x<18446744073709551616) :
  Calls prog 27 #[.slice A n c,.int .i64 W] w (NewW w (ofW jbr W ws)):=by
 cases hR:jqj W with
 | true =>
  obtain⟨V,rfl,hV⟩:=jdk hR
  rw[qyc hV]
  exact qyl V hV A n c ws w hr hn hb1 hlt64
 | false =>
  unfold ofW
  rw[hR,if_neg (by decide)]
  exact flipBack_wrong _ W w hR
end
end Go.Proofs.YtflcmmeoppdhdaaGreatDoor
