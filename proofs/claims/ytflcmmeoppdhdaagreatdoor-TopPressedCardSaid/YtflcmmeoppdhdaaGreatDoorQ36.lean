/- Layer 18: the program's encoder: turned; slices.Backward of bytes. · Layer 18: the program's Code. · Layer 18: what Code says of any bytes; that it is told; of bytes that are all the same. · .. -/
import Derived.Test.YtflcmmeoppdhdaaGreatDoorQ04
import Derived.Test.YtflcmmeoppdhdaaGreatDoorQ15
import Derived.Test.YtflcmmeoppdhdaaGreatDoorQ25
import Derived.BigRegionIn
import Derived.RangeFuncLeaves
import Derived.OwnWalkIn
import Derived.TacticsInMore
import Derived.LoopNIn
import Derived.LoopIn
import Derived.Maps.AppendAt
set_option maxHeartbeats 8000000
set_option maxRecDepth 100000
namespace Go.Proofs.YtflcmmeoppdhdaaGreatDoor
open Tryz
section
open Go.RowKit Go.Sort
def lows:Nat→Nat→List Nat
 | 0,_=>[]
 | k+1,x=>x%256::lows k (x/256)
theorem lows_be4 {x:Nat} (hx:x<4294967296):(lows 4 x).reverse=be4 x:=by
 simp only[lows,be4,List.reverse_cons,List.reverse_nil,List.nil_append,List.cons_append,List.cons.injEq,and_true]
 omega
theorem u8s_reverse (l:List Nat):(u8s l).reverse=u8s l.reverse:=by simp[u8s]
def TuRel (w:World) (E x:Nat) (O:List UInt8) (i:Value) (wr:World):Prop :=
 ∃ (j xj:Nat) (o1:List Nat),j≤4∧i=.int .i64 (j:Int)∧o1.length=j∧o1++lows (4 - j) xj=lows 4 x∧EncS wr E xj (O++u8s o1)∧jjj E qyx w wr
theorem ransTurned_any {w:World} {E x:Nat} {O:List UInt8} (h:EncS w E x O) (hx:x<2147483648) (ho:O.length≤90000) :
  Calls prog 89 #[.pointer (some ⟨E,0,none⟩)] w fun e w'=>∃ v,e=.returned v∧w'.ownsRow (E+1) 5 1 v (4+O.length) (bvs (u8s (be4 x)++O.reverse))∧jjj E qyx w w':=by
 have HREL:=jq (show TuRel w E x O (.int .i64 ((0:Nat):Int)) w from ⟨0,x,[],Nat.zero_le _,rfl,rfl,rfl,by rw[show u8s []=[] from rfl,List.append_nil];exact h,jjj.refl _ _ _⟩)
 have HO:=jq ho
 have HX:=jq hx
 clear h ho hx
 go_enter func89,ntmps89
 go_wp2
 go_loopw [3] (TuRel w E x O) (fun i _=>4 - (intOf i).toNat)
 case atStart=>exact HREL.out
 case round =>
  clear HREL
  obtain⟨j,xj,o1,hj,rfl,hol,hoo,he,hot⟩:=hrel
  by_cases hlt:j<4
  ·have C:=jq (qgk he (by rw[List.length_append,jqz];have:=HO.out;omega))
   have HOT:=jq hot
   have HH:=jq (And.intro hol (show o1++[xj%256]++lows (4 - (j+1)) (xj/256)=lows 4 x by
    rw[←hoo,show 4 - j=(4 - (j+1))+1 by omega,lows,List.append_assoc];rfl))
   have hji:(j:Int)<4:=by omega
   clear hol hoo he hot
   go_wp2_with fail
   refine C.out.mono ?_
   rintro _ w5 ⟨rfl,he5,ho5⟩
   have HE5:=jq he5
   have HO5:=jq (HOT.out.trans ho5)
   clear he5 ho5 C HOT
   go_wp2
   go_roundw
   case rel=>exact⟨j+1,xj/256,o1++[xj%256],by omega,by go_num,by rw[List.length_append,List.length_singleton,HH.out.1],HH.out.2,by rw[u8s_snoc,←List.append_assoc];exact HE5.out,HO5.out⟩
   case measure=>simp[intOf];omega
  ·obtain rfl:j=4:=by omega
   rw[Nat.sub_self,lows,List.append_nil] at hoo
   subst hoo
   obtain⟨v,hb,hown⟩:=he
   obtain⟨A1,c1,rfl,-,-,-⟩:=jjk hown
   obtain⟨M,hM⟩:∃ M,M=O++u8s (lows 4 x):=⟨_,rfl⟩
   have hMr:M.reverse=u8s (be4 x)++O.reverse:=by rw[hM,List.reverse_append,u8s_reverse,lows_be4 (by have:=HX.out;omega)]
   have hMl:M.length=4+O.length:=by rw[hM,List.length_append,jqz];simp[lows];omega
   rw[←hM] at hb hown
   have C:=jq (rev_own hown (by have:=HO.out;omega) (fun e=>by rw[e] at hMl;simp at hMl;omega))
   rw[hMr,hMl] at C
   rw[hMl] at hb
   have hc1:=hb.cell 1
   simp only[jy,jx] at hc1
   have HB:=jq hb
   have HOT:=jq hot
   have hgl:=hb.lt
   clear hb hown hot hM hMr hMl hol hlt hj
   go_wp2_with fail
   refine C.out.mono ?_
   rintro _ w5 ⟨rfl,hown5,hb5,ho5⟩
   have hbl5:=HB.out.only ho5 (by decide)
   have hd1:=hbl5.cell 1
   simp only[jy,jx] at hd1
   have HE:=jq (And.intro hown5 (HOT.out.trans ((ho5.more (ts':=qyx) (by simp[qyx])).base (Nat.le_succ E))))
   have hgl5:E<w5.heap.size:=hbl5.lt
   clear hown5 hb5 ho5 hbl5 C HB HOT hc1
   go_wp2
   go_ret
   exact⟨_,rfl,HE.out.1,HE.out.2⟩
def encNB (x:Nat × UInt8):Array Value:=#[.int .i64 (x.1:Int),.int .u8 (x.2.toNat:Int)]
def backL (l:List UInt8):List (Nat × UInt8):=(List.range l.length).map fun k=>(l.length - 1 - k,l.getD (l.length - 1 - k) 0)
theorem backL_len (l:List UInt8):(backL l).length=l.length:=by simp[backL]
theorem backL_get (l:List UInt8) (k:Nat) (h:k<l.length):(backL l)[k]?=some (l.length - 1 - k,l[l.length - 1 - k]'(by omega)):=by
 simp[backL,h,List.getD_eq_getElem?_getD,show l.length - 1 - k<l.length by omega]
def keepN (Bs n₀:Nat) (k:Nat):Prop:=k=Bs∨k<n₀
theorem backward_hands (n:Nat) (hn:1≤n) (Bs n₀:Nat) (A:Option Addr) (c:Nat) (l:List UInt8) (hl:l.length≤1000000) (w:World) (hB:Boxed w Bs 22 (.slice A l.length c)) (hr:Rd w n₀ A (bvs l)) :
  HandsStill n prog 133 #[.pointer (some ⟨Bs,0,none⟩)] (keepN Bs n₀) encNB (backL l) w:=by
 intro lq J W hW hY h0
 have hc0:=(show Boxed W Bs 22 (.slice A l.length c) from (hW.2 Bs (.inl rfl)).trans hB).cell
 have HB:=jq hB
 have HR:=jq hr
 clear hB hr
 refine callsIn_of_wp func133 rfl trivial ?_ rfl
 simp only[ntmps133,List.size_toArray,List.length_cons,List.length_nil,Nat.reduceAdd,Nat.reduceSub,Array.replicate_succ,Array.replicate_zero,List.push_toArray,List.append_toArray,List.nil_append,List.cons_append]
 gi_wp2
 clear hc0
 gi_loopw [3] (fun i wr=>∃ (k:Nat) (z:Int),k≤l.length∧z=(l.length:Int) - 1 - (k:Int)∧i=.int .i64 z∧J ((backL l).take k) wr∧jyg (keepN Bs n₀) w wr) (fun i _=>(intOf i+1).toNat)
 case atStart=>exact⟨0,_,Nat.zero_le _,by simp,rfl,h0,hW⟩
 case round =>
  obtain⟨k,z,hk,hz,rfl,hJs,hkp⟩:=hrel
  by_cases hlt:k<l.length
  ·obtain⟨q,hq⟩:∃ q,q=l.length - 1 - k:=⟨_,rfl⟩
   have hzq:z=(q:Int):=by omega
   subst hzq
   have hql:q<l.length:=by omega
   obtain⟨ab,ao,rfl,hab,hcell0⟩:=HR.out q _ (jym l q hql)
   have hcell:=(World.cell?_of_block (a:=⟨ab,ao+q,none⟩) (hkp.2 ab (.inr hab))).trans hcell0
   have hmc:=(show Boxed wr Bs 22 _ from (hkp.2 Bs (.inl rfl)).trans HB.out).cell
   have hget:=backL_get l k hlt
   obtain⟨hklt,hgetE⟩:=List.getElem?_eq_some_iff.1 hget
   have htake:=List.take_append_getElem (l:=backL l) (i:=k) hklt
   have hsplit:(backL l).take k++(backL l)[k]::(backL l).drop (k+1)=backL l:=by
    rw[←List.drop_eq_getElem_cons hklt,List.take_append_drop]
   obtain⟨fn,tmps,assign,body,hy,hRR⟩:=hY _ _ _ wr hsplit hJs
   rw[htake] at hRR
   rw[hgetE] at hy
   unfold encNB at hy
   simp only[←hq] at hy
   obtain⟨b,hb⟩:∃ b,b=(l[q]'hql).toNat:=⟨_,rfl⟩
   rw[←hb] at hy hcell
   have hqi:(q:Int)<(l.length:Int):=by omega
   have HKP:=jq hkp
   have HQ:=jq hq
   clear hget hgetE htake hsplit hcell0 hkp hJs hq hb hz hklt
   gi_wp2
   refine hRR.mono ?_
   rintro e W3 ⟨rfl,hJ3,hk3⟩
   gi_wp2
   go_roundw
   case rel=>exact⟨k+1,_,by omega,by have:=HQ.out;omega,rfl,hJ3,HKP.out.trans hk3⟩
   case measure=>simp[intOf]
  ·obtain rfl:k=l.length:=by omega
   have hz1:z = -1:=by omega
   subst hz1
   rw[List.take_of_length_le (by rw[backL_len];exact Nat.le_refl _)] at hJs
   clear hz
   gi_wp2
   go_end0
   exact⟨⟨_,rfl⟩,hJs⟩
theorem backwardB_any (A:Option Addr) (n c:Nat) (w:World) :
  Calls prog 86 #[.slice A n c] w fun e w'=>e=.returned (.func (.func 133) #[] #[.pointer (some ⟨w.heap.size,0,none⟩)])∧Below w.heap.size w w'∧w'.heap.size=w.heap.size+1∧Boxed w' w.heap.size 22 (.slice A n c):=by
 go_enter func86,ntmps86
 go_wp2
 go_ret
 exact⟨rfl,(Below.refl _ _).alloc jw _,by simp,heap_alloc_new w _⟩
end
section
open Go.RowKit Go.Sort Go.Shelf
attribute [local go_sem] Oper.semAt_some
theorem own_otherR {W W':World} {base e size n:Nat} {v:Value} {xs:List Value} (h:W.ownsRow base e size v n xs) (hk:∀ (g:Nat) (o:Obj),W.heap[g]?=some o→o.isCells=true→W'.heap[g]?=some o):W'.ownsRow base e size v n xs:=by
 refine⟨h.1,?_⟩
 rcases h.2 with h0 | ⟨g,cap,cur,rfl,hbg,hg,rest⟩
 ·exact .inl h0
 ·exact .inr ⟨g,cap,cur,rfl,hbg,hk g _ hg rfl,rest⟩
theorem cells_grown {W W':World} {row:Option Nat} (hg:W.grownBy W' row) (hr:∀ r,row=some r→∃ o:Obj,W.heap[r]?=some o∧o.isCells=false) (g:Nat) (o:Obj) (h:W.heap[g]?=some o) (ho:o.isCells=true):W'.heap[g]?=some o:=by
 refine (hg.block g (Array.getElem?_eq_some_iff.1 h).1 fun e=>?_).trans h
 obtain⟨o2,h2,h3⟩:=hr g e.symm
 rw[h] at h2
 cases h2
 rw[ho] at h3
 cases h3
theorem EncS.other {W W':World} {E x:Nat} {O:List UInt8} (h:EncS W E x O) (hk:∀ (g:Nat) (o:Obj),W.heap[g]?=some o→o.isCells=true→W'.heap[g]?=some o):EncS W' E x O:=by
 obtain⟨v,hb,hown⟩:=h
 exact⟨v,hk E _ hb rfl,own_otherR hown hk⟩
theorem keepsFrom_only {B E:Nat} {ts:List TypeId} {W W':World} (h:jjj E ts W W'):KeepsFrom B W W':=⟨h.size,fun k o _ hk ho=>(h.block k (Array.getElem?_eq_some_iff.1 hk).1 (.inr fun t _ hof=>by
 obtain⟨cs,fr,h2⟩:=hof
 rw[hk] at h2
 cases h2
 cases ho)).trans hk⟩
theorem only_keepsB {E Bs n₀:Nat} {t:TypeId} {cs:List Value} {ts:List TypeId} {W W':World} (h:jjj E ts W W') (hb:Blk W Bs t cs) (ht:t∉ts) (hE:n₀≤E) (hn:n₀≤W.heap.size):jyg (keepN Bs n₀) W W':=⟨h.size,fun k hk=>by
 rcases hk with rfl | hk
 ·exact h.block _ hb.lt (.inr fun t' ht' hof=>hb.ofType.ne (fun e=>ht (e ▸ ht')) hof)
 ·exact h.block k (by omega) (.inl (by omega))⟩
def CodeI (w5:World) (E B9 B7 P:Nat) (l:List UInt8) (r:List Int) (pre:List (Nat × UInt8)) (W:World):Prop :=
 (∃ (x:Nat) (T:List Nat),jvx (letL r (l.drop (l.length - pre.length))) x T∧EncS W E x (u8s T.reverse))∧Boxed W B9 124 (.pointer (some ⟨E,0,none⟩))∧Boxed W B7 121 (.pointer (some ⟨P,0,none⟩))∧Below E w5 W
theorem codeI_own {w5 w8:World} {E B9 B7 P:Nat} {l:List UInt8} {r:List Int} (hE:E≤w8.heap.size) (h5:E≤w5.heap.size) :
  ∀ s A B row,CodeI w5 E B9 B7 P l r s A→A.grownBy B row→(∀ q,row=some q→w8.heap.size≤q∧∃ o:Obj,A.heap[q]?=some o∧o.isCells=false)→CodeI w5 E B9 B7 P l r s B:=by
 rintro s A B row ⟨⟨x,T,h1,h2⟩,h3,h4,h6⟩ hg hr
 have hk:=cells_grown hg fun q e=>(hr q e).2
 exact⟨⟨x,T,h1,h2.other hk⟩,hk _ _ h3 rfl,hk _ _ h4 rfl,h6.grown hg (Nat.le_trans h5 h6.size) (fun q e=>Nat.le_trans hE (hr q e).1)⟩
def qdg (E B9 B7 P:Nat) (w5 W0:World) (x x2:Nat) (O O2:List UInt8) (c:Nat) (W:World):Prop :=
 Boxed W B9 124 (.pointer (some ⟨E,0,none⟩))∧Boxed W B7 121 (.pointer (some ⟨P,0,none⟩))∧EncS W E (if c≤1 then x else x2) (if c≤1 then O else O2)∧jjj E qyx W0 W∧Below E w5 W
theorem qdg.grow {E B9 B7 P x x2:Nat} {w5 W0 W W':World} {O O2:List UInt8} (h:qdg E B9 B7 P w5 W0 x x2 O O2 0 W) (hE:E≤W.heap.size) (hb:Below W.heap.size W W'):qdg E B9 B7 P w5 W0 x x2 O O2 1 W':=by
 obtain⟨h1,h2,h3,h4,h5⟩:=h
 exact⟨(hb.block _ h1.lt).trans h1,(hb.block _ h2.lt).trans h2,h3.below hb,h4.trans (jjj.of_below hb),h5.trans (hb.mono hE)⟩
theorem qdg.turn {E B9 B7 P x x2:Nat} {w5 W0 W W':World} {O O2:List UInt8} (h:qdg E B9 B7 P w5 W0 x x2 O O2 1 W) (hE:E≤W.heap.size) (he:EncS W' E x2 O2) (ho:jjj E qyx W W'):qdg E B9 B7 P w5 W0 x x2 O O2 2 W':=by
 obtain⟨h1,h2,h3,h4,h5⟩:=h
 exact⟨Blk.only (cs:=[_]) h1 ho (by decide),Blk.only (cs:=[_]) h2 ho (by decide),he,h4.trans ho,h5.trans (ho.below hE)⟩
theorem qgv {w:World} {A:Option Addr} {n m:Nat} {l:List UInt8} (hr:Rd w w.heap.size A (bvs l)) (hn:l.length=n) (h0:0<n) (hn1:n≤4000) :
  Calls prog 56 #[.slice A n m] w fun e w'=>∃ (v:Value) (B:List UInt8),e=.returned v∧qwm l B∧B.length≤20000∧w'.ownsRow w.heap.size 5 1 v B.length (bvs B)∧Below w.heap.size w w':=by
 obtain⟨i0,hi0,hz0,hz1,hz2⟩:=info_parts qzg
 have C1:=jq (qkq (m:=m) hr hn (by omega))
 have hbad:(cntL l).any nBad=false:=by
  rw[List.any_eq_false]
  intro x hx
  have:=qmp l x hx
  simp[nBad]
  omega
 have hm1:many (cntL l)≤((4096:Nat):Int):=by have:=many_le (cntL l);rw[jyf] at this;omega
 have hm0:many (cntL l)≠0:=fun h=>by
  obtain⟨a,t,rfl⟩:=List.exists_cons_of_length_pos (show 0<l.length by omega)
  have hnn:=fun x hx=>(qmp (a::t) x hx).1
  have h2:=qws (l:=a::t) (b:=a) List.mem_cons_self
  have h3:=many_zero hnn h
  have hlt:a.toNat<(cntL (a::t)).length:=by rw[jyf];exact a.toNat_lt
  have h4:=qzh hnn hlt
  have e:(cntL (a::t)).getD a.toNat 0=(cntL (a::t))[a.toNat]:=by simp[List.getD_eq_getElem?_getD,hlt]
  omega
 have C2:=jq (fun (W:World) (g:Nat) (h:Rd W W.heap.size (some ⟨g,0,none⟩) (zvs (cntL l)))=>normNorm_ok (m:=256) 12 4096 (by decide) (by decide) rfl hbad h (jyf l) (by decide) hm0 hm1)
 have HSH:=jq (fun (r:List Int) (h:qxj (cntL l) ((4096:Nat):Int) r)=>shares_of (l:=l) (by omega) (by omega) h)
 have CB:=jq (fun W'=>backwardB_any A n m W')
 have HR:=jq hr
 have HN:=jq (And.intro hn (And.intro h0 hn1))
 have hn0:((n:Int)==0)=false:=by rw[beq_eq_false_iff_ne];omega
 have hn0i:¬ (n:Int)=0:=by omega
 clear hr hn hbad hm1 hm0 h0 hn1
 refine (callsIn_wide (n:=4)).1 ?_
 refine callsIn_of_wp_marks func56 rfl trivial ?_ rfl
 simp only[ntmps56,List.size_toArray,List.length_cons,List.length_nil,Nat.reduceAdd,Nat.reduceSub,Array.replicate_succ,Array.replicate_zero,List.push_toArray,List.append_toArray,List.nil_append,List.cons_append]
 gi_wp2_with fail
 refine⟨trivial,?_⟩
 refine (callsIn_wide.2 C1.out).mono ?_
 rintro _ w1 ⟨g,rfl,-,hk1,hb1⟩
 have HK1:=jq hk1
 have HB1:=jq hb1
 clear hk1 hb1 C1
 gi_wp2_with fail
 refine⟨trivial,?_⟩
 refine (callsIn_wide.2 (C2.out w1 g (Rd.of_blk HK1.out))).mono ?_
 rintro _ w2 ⟨g2,r,rfl,-,hnr,hk2,hb2⟩
 have HNR:=jq hnr
 have HS:=jq (HSH.out r hnr)
 have HB2:=jq (HB1.out.trans (hb2.mono HB1.out.size))
 have HK2:=jq hk2
 have C3:=jq (histPut_ok (n:=256) (m:=256) (Rd.of_blk hk2) HS.out.len ⟨HS.out.len,HS.out.may⟩ jw)
 have hql:=qvd r 0 HS.out.may (by rw[HS.out.len];decide)
 rw[HS.out.len] at hql
 obtain⟨Q,hQ⟩:∃ Q,Q=hPut r:=⟨_,rfl⟩
 have hQl:Q.length≤5130:=by rw[hQ];exact hql
 have HQ:=jq hQ
 rw[←hQ] at C3
 clear hnr hk2 hb2 C2 HSH HK1 HB1 hQ hql
 gi_wp2_with fail
 refine⟨trivial,?_⟩
 refine (callsIn_wide.2 C3.out).mono ?_
 rintro _ w3 ⟨v3,rfl,hown3,hb3⟩
 obtain⟨A3,c3,rfl,-,-,-⟩:=jjk hown3
 have HOWN3:=jq (jbb hown3 HB2.out.size)
 have HB3:=jq (HB2.out.trans (hb3.mono HB2.out.size))
 have C4:=jq (slotMake_ok (n:=256) (m:=256) 12 4096 (by decide) (by decide) rfl (Rd.of_blk (HK2.out.grow hb3)) HS.out.len (by decide) (by
  rw[List.any_eq_false]
  intro x hx
  have:=HS.out.nn x hx
  simp[sBad];omega) HS.out.sum)
 clear hown3 hb3 C3 HK2 HB2
 gi_wp2_with fail
 refine⟨trivial,?_⟩
 refine (callsIn_wide.2 C4.out).mono ?_
 rintro _ w4 ⟨P,rfl,hsl,hb4⟩
 have HSL:=jq hsl
 have HOWN4:=jq (jyh HOWN3.out hb4)
 have HB4:=jq (HB3.out.trans (hb4.mono HB3.out.size))
 clear hsl hb4 C4 HOWN3 HB3
 gi_wp2_with fail
 refine⟨trivial,?_⟩
 obtain⟨w5,hw5⟩:∃ w5,w5=w4.alloc (.cells #[.pointer (some ⟨P,0,none⟩)] 121):=⟨_,rfl⟩
 obtain⟨w6,hw6⟩:∃ w6,w6=w5.alloc (.cells #[.int .i64 8388608,.slice none 0 0] 126):=⟨_,rfl⟩
 obtain⟨w7,hw7⟩:∃ w7,w7=w6.alloc (.cells #[.pointer (some ⟨w4.heap.size+1,0,none⟩)] 124):=⟨_,rfl⟩
 have hs5:w5.heap.size=w4.heap.size+1:=by rw[hw5];simp
 have hs6:w6.heap.size=w4.heap.size+2:=by rw[hw6];simp;omega
 have hs7:w7.heap.size=w4.heap.size+3:=by rw[hw7];simp;omega
 have hb5:Below w4.heap.size w4 w5:=by rw[hw5];exact (Below.refl _ _).alloc jw _
 have hb6:Below w5.heap.size w5 w6:=by rw[hw6];exact (Below.refl _ _).alloc jw _
 have hb7:Below w6.heap.size w6 w7:=by rw[hw7];exact (Below.refl _ _).alloc jw _
 have hk5:Boxed w5 w4.heap.size 121 (.pointer (some ⟨P,0,none⟩)):=by rw[hw5];exact Boxed.new w4 _ _
 have hk6:Blk w6 (w4.heap.size+1) 126 [.int .i64 8388608,.slice none 0 0]:=by rw[←hs5,hw6];exact heap_alloc_new w5 _
 have hk7:Boxed w7 (w4.heap.size+2) 124 (.pointer (some ⟨w4.heap.size+1,0,none⟩)):=by rw[←hs6,hw7];exact Boxed.new w6 _ _
 rw[←hw5,←hw6,←hw7]
 have HSL5:=jq (HSL.out.grow hb5)
 have HOWN5:=jq (jyh HOWN4.out hb5)
 have HB5:=jq (HB4.out.trans (hb5.mono HB4.out.size))
 clear hw5 hw6 hw7 HSL HOWN4 HB4
 refine (callsIn_wide.2 (CB.out w7)).mono ?_
 rintro _ w8 ⟨rfl,hb8,hs8,hbs8⟩
 obtain⟨E,hE⟩:∃ E,E=w4.heap.size+1:=⟨_,rfl⟩
 obtain⟨B7,hB7⟩:∃ B7,B7=w4.heap.size:=⟨_,rfl⟩
 obtain⟨B9,hB9⟩:∃ B9,B9=w4.heap.size+1+1:=⟨_,rfl⟩
 obtain⟨Bs,hBs⟩:∃ Bs,Bs=w7.heap.size:=⟨_,rfl⟩
 have h56:Below w5.heap.size w5 w7:=hb6.trans (hb7.mono (by omega))
 have h58:Below w5.heap.size w5 w8:=h56.trans (hb8.mono (by omega))
 have hk58:Boxed w8 B7 121 (.pointer (some ⟨P,0,none⟩)):=by rw[hB7];exact (h58.block _ (by omega)).trans hk5
 have hk68:Blk w8 E 126 [.int .i64 8388608,.slice none 0 0]:=by rw[hE];exact ((hk6.grow hb7)).grow hb8
 have hk78:Boxed w8 B9 124 (.pointer (some ⟨E,0,none⟩)):=by rw[hB9,hE];exact (hb8.block _ (by omega)).trans hk7
 rw[←hE] at hs5
 have hwE:w.heap.size≤E:=by have:=HB5.out.size;omega
 have hE8:E<w8.heap.size:=by omega
 have hB98:B9<w8.heap.size:=by omega
 have hBs8:Bs<w8.heap.size:=by omega
 rw[←hBs] at hbs8
 rw[←hB9,←hE,←hB7,←hBs]
 have H58:=jq (show Below E w5 w8 from by rw[←hs5];exact h58)
 have HBS:=jq hbs8
 have HI0:=jq (show CodeI w5 E B9 B7 P l r [] w8 from ⟨⟨8388608,[],by rw[List.length_nil,Nat.sub_zero,List.drop_length];exact .none,⟨_,hk68,World.ownsRow_nil _ _ _ _⟩⟩,hk78,hk58,H58.out⟩)
 have HH:=jq (backward_hands 3 (by omega) Bs w.heap.size A m l (by have:=HN.out;omega) w8 (by rw[HN.out.1];exact hbs8) ((HR.out.below HB5.out).below (H58.out.mono hwE)))
 have HSZ:=jq (And.intro hs5 (And.intro hwE (And.intro hE8 (And.intro hBs8 hB98))))
 clear hs6 hs7 hb5 hb6 hb7 hk5 hk6 hk7 hb8 hs8 hbs8 h56 h58 hk58 hk68 hk78 hE hB7 hB9 hBs CB hs5 hwE hE8 hBs8 hB98 HR
 gi_wp2
 refine wpIn_range_still (by omega) (gf:=133) (lb:=#[.pointer (some ⟨Bs,0,none⟩)]) rfl (enters_of func133 (by kernel_rfl) rfl)
  HH.out (fun k hk=>by have:=HSZ.out;rcases hk with rfl | hk <;> omega) (fun _=>rfl)
  (CodeI w5 E B9 B7 P l r) (codeI_own (by have:=HSZ.out;omega) (by have:=HSZ.out;omega)) HI0.out ?a1 ?assign ?body ?done
 case assign =>
  intro lq x Wd K hK
  unfold encNB
  gi_wp2
  exact hK
 case body =>
  rintro lq pre xb rest Wd hxs ⟨⟨x,T,hin,he⟩,h9,h7,hbw⟩ hsz hkp
  obtain⟨hs5,hwE,hE8,hBs8,hB98⟩:=HSZ.out
  obtain⟨hnl,h0,hn1⟩:=HN.out
  have hk:pre.length<l.length:=by
   have:=congrArg List.length hxs
   rw[backL_len,List.length_append,List.length_cons] at this
   omega
  have hget:=backL_get l pre.length hk
  have hxb:(backL l)[pre.length]?=some xb:=by rw[←hxs];simp
  rw[hget,Option.some.injEq] at hxb
  obtain⟨q,hq⟩:∃ q,q=l.length - 1 - pre.length:=⟨_,rfl⟩
  have hql:q<l.length:=by omega
  have hx2:xb.2=l[q]:=by rw[←hxb];simp only[hq]
  have e1:l.length - pre.length=q+1:=by omega
  have e2:l.length - (pre++[xb]).length=q:=by rw[List.length_append,List.length_singleton];omega
  rw[e1] at hin
  have hd:l.drop q=l[q]::l.drop (q+1):=List.drop_eq_getElem_cons hql
  obtain⟨⟨hs1,hs2⟩,hf1,hf2⟩:=HS.out.letter (b:=l[q]) (List.getElem_mem hql)
  have hsub:∀ b∈l.drop (q+1),b∈l:=fun b hb=>List.mem_of_mem_drop hb
  have hTl:=hin.len (HS.out.letters _ hsub)
  have hTl2:T.length≤8000:=by
   have:(letL r (l.drop (q+1))).length≤4000:=by unfold letL;rw[List.length_map,List.length_drop];omega
   omega
  have hrg:=hin.range (HS.out.letters _ hsub)
  have hb256:l[q].toNat<256:=l[q].toNat_lt
  have hbr:l[q].toNat<r.length:=by rw[HS.out.len];exact hb256
  have hrb:r.getD l[q].toNat 0=r[l[q].toNat]:=by simp[List.getD_eq_getElem?_getD,hbr]
  have c1:=fun (W':World) (h:jwf W' P r 12 4096)=>slotOf_at l[q].toNat h hbr
  rw[←hrb,←hf1,←hf2] at c1
  simp only at hs1 hs2
  obtain⟨f,hff⟩:∃ f,f=(fPre r l[q].toNat).toNat:=⟨_,rfl⟩
  obtain⟨s,hss⟩:∃ s,s=(r.getD l[q].toNat 0).toNat:=⟨_,rfl⟩
  rw[←hff] at hs2 c1
  rw[←hss] at hs1 hs2 c1
  obtain⟨o,y,hg⟩:=goes_all hs1 x
  have hrgx:s*2048≤x:=by omega
  have c2:=fun (W':World) (h:EncS W' E x (u8s T.reverse))=>ransIn_any h hrg.2.1 hs1 hs2 hrgx (by rw[jqz,List.length_reverse];omega) hg
  have hin2:jvx (letL r (l.drop q)) (inX f s y) (o.reverse++T):=by rw[hd,letL_cons,←hff,←hss];exact .letter f s _ x T o y hin hg
  have hO2:u8s T.reverse++u8s o=u8s (o.reverse++T).reverse:=by rw[List.reverse_append,List.reverse_reverse];simp[u8s]
  rw[hO2] at c2
  obtain⟨X,hX⟩:∃ X,X=inX f s y:=⟨_,rfl⟩
  rw[←hX] at c2 hin2
  obtain⟨O1,hO1e⟩:∃ O1,O1=u8s T.reverse:=⟨_,rfl⟩
  obtain⟨O2,hO2e⟩:∃ O2,O2=u8s (o.reverse++T).reverse:=⟨_,rfl⟩
  rw[←hO1e] at he
  rw[←hO2e] at c2
  simp only[←hO1e] at c2
  obtain⟨b,hb⟩:∃ b,b=xb.2:=⟨_,rfl⟩
  rw[←hx2,←hb] at c1
  have hbw256:b.toNat<256:=b.toNat_lt
  obtain⟨bn,hbn⟩:∃ bn,bn=b.toNat:=⟨_,rfl⟩
  rw[←hbn] at c1 hbw256
  simp only[←hb,←hbn]
  have HC1:=jq c1
  have HC2:=jq c2
  have HIN2:=jq (And.intro hin2 (And.intro e2 hO2e))
  have hbsW:Boxed Wd Bs 22 (.slice A n m):=(hkp Bs (.inl rfl)).trans HBS.out
  have HKP:=jq (And.intro hbsW (And.intro hwE (And.intro (show E≤Wd.heap.size by omega) (show w.heap.size≤Wd.heap.size by omega))))
  have HG0:=jq (show qdg E B9 B7 P w5 Wd x X O1 O2 0 Wd.drew from ⟨h9,h7,he.same rfl,(jjj.refl _ _ _).drew,hbw.drew⟩)
  have HS5:=jq (show Below w5.heap.size w5 Wd→True from fun _=>trivial)
  have hs5':=hs5
  have HS55:=jq hs5
  have hconv:IntKind.i64.wrap (bn:Int)=(bn:Int):=by rw[IntKind.wrap_i64];omega
  clear hxs hin he h9 h7 hbw hsz hkp hs5 hwE hE8 hBs8 hB98 hnl h0 hn1 hk hget hxb hq hx2 e1 e2 hd hs1 hs2 hf1 hf2 hsub hTl hTl2 hrg hb256 hbr hrb c1 c2 hff hss hg hrgx hin2 hO2 hX hO1e hO2e hb hbn hbsW HS5 hs5'
  gi_wp2
  refine wp_region_round (by kernel_rfl) (fun ⟨_,_,h⟩=>h) [⟨37,[],(.pointer (some ⟨E,0,none⟩)),0,1,none⟩,
    ⟨38,[],(.pointer (some ⟨P,0,none⟩)),0,0,none⟩,
    ⟨39,[],.int .u8 (bn:Int),0,0,none⟩,
    ⟨40,[2],(.int .i64 (bn:Int)),0,0,none⟩,
    ⟨41,[1,3],(.tuple #[.int .i64 (f:Int),.int .i64 (s:Int)]),0,0,some 0⟩,
    ⟨42,[4],(.int .i64 (f:Int)),1,1,none⟩,
    ⟨43,[4],(.int .i64 (s:Int)),1,1,none⟩,
    ⟨44,[0,5,6],(.tuple #[]),1,1,some 1⟩] 2 (qdg E B9 B7 P w5 Wd x X O1 O2)
   [(9,.pointer (some ⟨B9,0,none⟩)),(7,.pointer (some ⟨B7,0,none⟩)),(11,.int .u8 (bn:Int))] HG0.out (by kernel_rfl) (by kernel_rfl) (by kernel_rfl) (by kernel_rfl) (by kernel_rfl) (by kernel_rfl) ⟨rfl,rfl,rfl,trivial⟩ ?_ ?_
  ·repeat' (first | exact jvk.nil | refine jvk.cons ?_ ?_)
   all_goals (intro ev yi w' c hG hcc hc hf ho hn;simp only[jyk,NeedV,rowS,and_true] at ho hn hcc)
   all_goals (try ((simp[jzv,execOp,Region.wanted,go_sem,ho,hn,hG,hconv];done)))
   ·rw[if_pos (by simp[Region.wanted])]
    have hb:=hG.1.cell
    simp[jzv,execOp,go_sem,ho,hb,hG]
   ·rw[if_pos (by simp[Region.wanted])]
    have hb:=hG.2.1.cell
    simp[jzv,execOp,go_sem,ho,hb,hG]
   ·rw[if_pos (by simp[Region.wanted])]
    exact jml call88 (vs:=#[.pointer (some ⟨P,0,none⟩),.int .i64 (bn:Int)]) rfl hf (by simp[hn]) (by obtain rfl:c=0:=hcc;exact (HC1.out w' (HSL5.out.grow (by rw[HS55.out];exact hG.2.2.2.2))).mono fun e w4 ⟨he,hb⟩=>⟨_,he,rfl,hG.grow (Nat.le_of_lt hG.2.2.1.lt) hb⟩)
   ·rw[if_pos (by simp[Region.wanted])]
    exact jml call87 (vs:=#[.pointer (some ⟨E,0,none⟩),.int .i64 (f:Int),.int .i64 (s:Int)]) rfl hf (by simp[hn]) (by obtain rfl:c=1:=hcc;exact (HC2.out w' hG.2.2.1).mono fun e w4 ⟨he,he2,ho2⟩=>⟨_,he,rfl,hG.turn (Nat.le_of_lt hG.2.2.1.lt) he2 ho2⟩)
  ·intro wE hGE
   simp only[layAll,rowS,List.setIfInBounds_toArray,List.set_cons_succ,List.set_cons_zero]
   obtain⟨g1,g2,g3,g4,g5⟩:=hGE
   exact⟨keepsFrom_only g4,only_keepsB (cs:=[_]) g4 HKP.out.1 (by decide) HKP.out.2.1 HKP.out.2.2.2,⟨X,o.reverse++T,by rw[HIN2.out.2.1];exact HIN2.out.1,by rw[←HIN2.out.2.2];exact g3⟩,g1,g2,g5⟩
 case done =>
  rintro D Wd hD ⟨⟨x,T,hin,he⟩,h9,h7,hbw⟩ hK
  obtain⟨hs5,hwE,hE8,hBs8,hB98⟩:=HSZ.out
  obtain⟨hnl,h0,hn1⟩:=HN.out
  rw[backL_len,Nat.sub_self,List.drop_zero] at hin
  have hrg:=hin.range (HS.out.letters _ fun _ h=>h)
  have hTl:=hin.len (HS.out.letters _ fun _ h=>h)
  have hTl2:T.length≤8000:=by
   have:(letL r l).length≤4000:=by unfold letL;rw[List.length_map];omega
   omega
  have CT:=jq (ransTurned_any he hrg.2.1 (by rw[jqz,List.length_reverse];omega))
  have hc9:=h9.cell
  have HBW:=jq hbw
  have HIN:=jq (And.intro hin hrg)
  have HK:=jq hK
  have HE:=jq (And.intro hD (And.intro hwE hE8))
  have hEW:E≤Wd.heap.size:=Nat.le_of_lt he.lt
  clear hin he h9 h7 hbw hK hs5 hwE hE8 hBs8 hB98 hnl h0 hn1 hrg hTl HI0 HH H58 HBS HSL5 hD
  rename_i K1 hK1
  refine hK1 _ _ ?_
  refine wpIn_wide.2 ?_
  go_wp2_with fail
  refine CT.out.mono ?_
  rintro _ w9 ⟨v9,rfl,hown9,ho9⟩
  obtain⟨hs5,hwE,hE8,hBs8,hB98⟩:=HSZ.out
  obtain⟨A9,c9,rfl,-,-,-⟩:=jjk hown9
  rw[u8s_reverse,List.reverse_reverse,jqz,List.length_reverse] at hown9
  obtain⟨R9,hR9⟩:∃ R9,R9=u8s (be4 x)++u8s T:=⟨_,rfl⟩
  rw[←hR9] at hown9
  obtain⟨L9,hL9⟩:∃ L9,L9=4+T.length:=⟨_,rfl⟩
  have hLe:4+(u8s T.reverse).length=L9:=by rw[hL9,jqz,List.length_reverse]
  rw[←hL9] at hown9
  simp only[hLe]
  have hL9b:L9≤9000:=by omega
  have hRl:R9.length=L9:=by rw[hR9,List.length_append,jqz,jqz,hL9];rfl
  have hb9:Below E w5 w9:=HBW.out.trans (ho9.below hEW)
  have HOWN9:=jq (jyh HOWN5.out (by rw[hs5];exact hb9))
  have HRD9:=jq (Rd.of_own hown9)
  have HB9:=jq (HB5.out.trans (hb9.mono hwE))
  have hK9:w9.heap[D]?=some (.deferred (some [])):=(ho9.block D (Array.getElem?_eq_some_iff.1 HK.out).1 (.inr fun t _ hof=>by
   obtain⟨cs,fr,h2⟩:=hof
   rw[HK.out] at h2
   cases h2)).trans HK.out
  have HK9:=jq hK9
  have HRL:=jq (And.intro hRl (show R9=u8s (be4 x++T) by rw[hR9];simp[u8s]))
  have hwD:w.heap.size≤D:=by have:=HE.out.1;omega
  clear hown9 ho9 hb9 hK9 hR9 hL9 hLe hRl CT hc9 HK HBW hs5 hE8 hBs8 hB98 HSZ HOWN5 HB5
  go_wp2_with ((with_reducible show wpList _ _ _ (({ dst:=some 48,op:=_,type:=_,pos:=_,after:=_,guard:=_ }:Oper)::_) _ _);go_must (refine jjd rfl (.tmp 45) (.tmp 47) 22 rfl w.heap.size 5 i0 (.int .u8 0) 1 1 underlying22 hi0 hz0 hz1 hz2 rfl (by decide) _ _ _ rfl HOWN9.out w9.heap.size A9 L9 c9 (bvs R9) rfl HRD9.out (by rw[jjg,Nat.mul_one];exact HRL.out.1) (jmx _) (by simp only[maxLen];omega) (by omega) HB9.out.size ?_;intro v10 w10 hown10 hg10))
  have hrow:=jjb HOWN9.out
  have hK10:w10.heap[D]?=some (.deferred (some [])):=(hg10.block D (Array.getElem?_eq_some_iff.1 HK9.out).1 fun e=>by
   obtain⟨-,cs,fr,h2⟩:=jzc HOWN9.out D e.symm
   rw[HK9.out] at h2
   cases h2).trans HK9.out
  have hb10:Below w.heap.size w9 w10:=(Below.refl _ _).grown hg10 HB9.out.size hrow
  have HF:=jq (And.intro hown10 (And.intro hK10 (HB9.out.trans hb10)))
  clear hown10 hK10 hb10 hg10 hrow HOWN9 HRD9 HB9 HK9
  go_wp2
  refine⟨by simp,.inl ⟨_,_,rfl,run_takeDeferred HF.out.2.1,?_⟩⟩
  refine⟨_,results_tmp rfl _ _ _,?_⟩
  have hlen:(Q++u8s (be4 x++T)).length=Q.length+L9:=by rw[List.length_append,←HRL.out.2,HRL.out.1]
  refine⟨_,Q++u8s (be4 x++T),rfl,⟨r,x,T,HNR.out,HIN.out.1,by rw[HQ.out]⟩,by rw[hlen];omega,?_,HF.out.2.2.trans (belowK_b (w:=w) jw w10 D _ _ hwD HF.out.2.1 rfl rfl)⟩
  rw[hlen,jqt,←HRL.out.2]
  refine own_otherR HF.out.1 fun g o hg ho=>(World.putObj_heap_other fun e=>?_).trans hg
  subst e
  rw[HF.out.2.1] at hg
  cases hg
  cases ho
end
section
open Go.RowKit Go.Sort
theorem calls_some {P:Program} {f:FuncId} {args:Array Value} {w:World} {R:Ending→World→Prop} (h:Calls P f args w R):∃ e w',R e w' :=
 let ⟨e,w',_,r,_⟩:=h []
 ⟨e,w',r⟩
theorem got_put18 {r:List Int} {T:Int} (hm:HistMay r) (hs:r.sum=T) (more:List UInt8):hGot T (hPut r++more)=some (r,(hPut r).length):=by
 have h:hG [] (hPut r++more) 0=some (r,(hPut r).length):=hGet_put hm.1 hm.2 more
 unfold hGot
 rw[h]
 simp only[filt,Option.bind_some]
 rw[if_pos hs]
theorem got_one (T:Int) (x:UInt8):hGot T [x]=none:=by
 have hx:=x.toNat_lt
 unfold hGot
 by_cases h:128≤x.toNat
 ·have h1:lget [x]=(0,0,11):=by unfold lget jbj;rw[if_neg (by simp),if_pos h];rfl
  rw[hG_bad h1 (.inl (by decide))]
  rfl
 ·have h1:lget [x]=(x.toNat,1,0):=by unfold lget jbj;rw[if_neg (by simp),if_neg h,if_neg (by simp)];simp
  rw[hG_mid h1 (by simp;omega)]
  have h2:lget ([x].drop 1)=(0,0,11):=rfl
  rw[hM_bad h2 (by simp[jqr];omega) (.inl (by decide))]
  rfl
def RansQ (l Q:List UInt8):Prop:=(l=[]∧Q=[])∨(l≠[]∧qwm l Q∧Q.length≤20000)
theorem ransCode_nil (A:Option Addr) (m:Nat) (w:World):Calls prog 56 #[.slice A (0:Nat) m] w fun e w'=>e=.returned (.slice none 0 0)∧w'=w:=by
 go_enter func56,ntmps56
 go_wp2
 go_ret
 exact⟨rfl,rfl⟩
def NewQ (w:World) (Q:List UInt8) (e:Ending) (w':World):Prop:=∃ v,e=.returned v∧jjz Q v w'∧Below w.heap.size w w'
theorem ransCode_q {l Q:List UInt8} (hQ:RansQ l Q) (hl:l.length≤4000) (v:Value) (w:World) (h:jjz l v w):Calls prog 56 #[v] w (NewQ w Q):=by
 obtain⟨A,c,rfl,hc,hr⟩:=h
 rcases hQ with ⟨rfl,rfl⟩ | ⟨h1,h2,-⟩
 ·refine (ransCode_nil A c w).mono ?_
  rintro e w' ⟨rfl,rfl⟩
  exact⟨_,rfl,jdt _,Below.refl _ _⟩
 ·refine (qgv hr rfl (List.length_pos_iff.2 h1) hl).mono ?_
  rintro e w' ⟨v,B,rfl,hB,-,hown,hb⟩
  obtain rfl:=hB.one h2
  exact⟨v,rfl,jjz.of_own hown,hb⟩
theorem ransQ_some {l:List UInt8} (hl:l.length≤4000) {A:Option Addr} {w:World} (hr:Rd w w.heap.size A (bvs l)):∃ Q,RansQ l Q:=by
 by_cases h:l=[]
 ·exact⟨[],.inl ⟨h,rfl⟩⟩
 ·obtain⟨e,w',v,B,-,hB,hb,-⟩:=calls_some (qgv (m:=0) hr rfl (List.length_pos_iff.2 h) hl)
  exact⟨B,.inr ⟨h,hB,hb⟩⟩
theorem ransBack_q {l Q:List UInt8} (hQ:RansQ l Q) (hl:l.length≤4000) (v:Value) (w:World) :
  (jjz Q v w→Calls prog 57 #[v,.int .i64 (l.length:Int)] w (jdl w (l,0))) ∧
  ∀ m:UInt8,jjz (Q++[m]) v w→Calls prog 57 #[v,.int .i64 (l.length:Int)] w (jdl w ([],16)):=by
 rcases hQ with ⟨rfl,rfl⟩ | ⟨h1,h2,hb⟩
 ·refine⟨fun h=>?_,fun m h=>?_⟩
  ·obtain⟨A,c,rfl,hc,hr⟩:=h
   exact ransDec_nil A c w
  ·obtain⟨A,c,rfl,hc,hr⟩:=h
   exact ransDec_none (N:=0) hr rfl hc (by simp) (by decide) (by simp) (got_one _ m)
 ·obtain⟨r,x,T,hn,hin,rfl⟩:=h2
  have h0:0<l.length:=List.length_pos_iff.2 h1
  have hs:=shares_of h0 hl hn
  have hdec:∀ (more:List UInt8) (v:Value),more.length≤1→jjz (hPut r++u8s (be4 x++T)++more) v w→Calls prog 57 #[v,.int .i64 (l.length:Int)] w (jdl w (decQ (tellF r l.length (u8s (be4 x++T)++more)))):=fun more v hm h=>by
   have hg:=got_put18 (T:=((4096:Nat):Int)) ⟨hs.len,hs.may⟩ (by have:=hs.sum;omega) (u8s (be4 x++T)++more)
   rw[←List.append_assoc] at hg
   have hdrop:(hPut r++u8s (be4 x++T)++more).drop (hPut r).length=u8s (be4 x++T)++more:=by rw[List.append_assoc,List.drop_left' rfl]
   have hkl:(hPut r).length≤(hPut r++u8s (be4 x++T)++more).length:=by simp only[List.length_append];omega
   have hb2:(hPut r++u8s (be4 x++T)++more).length≤1000000:=by rw[List.length_append];omega
   obtain⟨M,hM⟩:∃ M,M=hPut r++u8s (be4 x++T)++more:=⟨_,rfl⟩
   rw[←hM] at hg hdrop hkl hb2 h
   obtain⟨A,c,rfl,hc,hr⟩:=h
   have h3:=ransDec_some (N:=l.length) hr rfl hc hb2 (by omega) h0 hg hs.len hs.nn hs.sum hkl
   rw[hdrop] at h3
   exact h3
  refine⟨fun h=>?_,fun m h=>?_⟩
  ·have h3:=hdec [] v (by simp) (by rw[List.append_nil];exact h)
   rw[tell_coded hs hin,if_pos rfl] at h3
   exact h3
  ·have h3:=hdec [m] v (by simp) h
   rw[tell_coded hs hin,if_neg (by simp)] at h3
   exact h3
end
section
open Go.RowKit Go.Shelf
attribute [local go_sem] Oper.semAt_some
def IsDown (e:Nat):Nat→List Nat→Prop
 | p,[]=>p≤e
 | p,x::r=>x=p∧e<p∧IsDown e (p - fLow p) r
theorem isDown_ex (e:Nat):∀ p,∃ xs,IsDown e p xs:=by
 intro p
 induction p using Nat.strongRecOn with
 | ind p ih =>
  by_cases h:e<p
  ·obtain⟨r,hr⟩:=ih (p - fLow p) (by have:=jxf p;omega)
   exact⟨p::r,rfl,h,hr⟩
  ·exact⟨[],by simp only[IsDown];omega⟩
def IsUp (n:Nat):Nat→List Nat→Prop
 | p,[]=>n<p
 | p,x::r=>x=p∧p≤n∧IsUp n (p+fLow p) r
theorem isUp_ex (n:Nat):∀ d p,n+1 - p=d→∃ xs,IsUp n p xs:=by
 intro d
 induction d using Nat.strongRecOn with
 | ind d ih =>
  intro p hd
  by_cases h:p≤n
  ·obtain⟨r,hr⟩:=ih (n+1 - (p+fLow p)) (by have:=jxf p;omega) (p+fLow p) rfl
   exact⟨p::r,rfl,h,hr⟩
  ·exact⟨[],by simp only[IsUp];omega⟩
def boxNat (W:World) (B:Nat):Nat:=match W.cell? ⟨B,0,none⟩ with
 | some v=>(intOf v).toNat
 | none=>0
theorem qwn {W:World} {B p:Nat} {t:TypeId} (h:Boxed W B t (.int .i64 (p:Int))):boxNat W B=p:=by
 unfold boxNat;rw[h.cell];simp[intOf]
def keepD (Bp Be:Nat) (k:Nat):Prop:=k=Bp∨k=Be
theorem jyp {keep:Nat→Prop} {W W':World} {B:Nat} {t:TypeId} {v:Value} (h:Boxed W B t v) (hk:jyg keep W W') (hb:keep B):Boxed W' B t v:=(hk.2 B hb).trans h
theorem down1_hands (n:Nat) (hn:1≤n) (Bp Be p e:Nat) (hne:Bp≠Be) (hp:p<2^62) (xs:List Nat) (hx:IsDown e p xs) (w:World) (hBp:Boxed w Bp 3 (.int .i64 (p:Int))) (hBe:Boxed w Be 3 (.int .i64 (e:Int))) :
  HandsOn n prog 240 #[.pointer (some ⟨Bp,0,none⟩),.pointer (some ⟨Be,0,none⟩)] Bp (keepD Bp Be) (fun x:Nat=>#[Value.int .i64 (x:Int)]) xs w:=by
 intro l J W hW hJ hJd hY h0
 refine callsIn_of_wp func240 rfl trivial ?_ rfl
 simp only[ntmps240,List.size_toArray,List.length_cons,List.length_nil,Nat.reduceAdd,Nat.reduceSub,Array.replicate_succ,Array.replicate_zero,List.push_toArray,List.append_toArray,List.nil_append,List.cons_append]
 gi_wp2
 gi_loopw [] (fun wr=>∃ (pre rest:List Nat) (q:Nat),xs=pre++rest∧IsDown e q rest∧q<2^62∧Boxed wr Bp 3 (.int .i64 (q:Int))∧Boxed wr Be 3 (.int .i64 (e:Int))∧J pre wr)
  (fun wr=>boxNat wr Bp)
 case atStart=>exact⟨[],xs,p,rfl,hx,hp,jyp hBp hW (.inl rfl),jyp hBe hW (.inr rfl),h0⟩
 case round =>
  obtain⟨pre,rest,q,hxs,hdn,hq,hbp,hbe,hJs⟩:=hrel
  have hcp:=hbp.cell
  have hce:=hbe.cell
  have hm:=qwn hbp
  have HXS:=jq hxs
  cases rest with
  | nil =>
   have hle:q≤e:=hdn
   rw[List.append_nil] at hxs
   clear hm
   gi_wp2
   go_end0
   exact⟨⟨_,rfl⟩,by rw[hxs];exact hJs⟩
  | cons x r =>
   obtain⟨rfl,hlt,hdn⟩:=hdn
   obtain⟨fn,tmps,assign,body,hy,hR⟩:=hY pre x r wr hxs.symm hJs
   have HDN:=jq hdn
   have C:=jq (jkd x (by omega) hq)
   have hl1:=jmw (i:=x) (by omega) (by omega)
   have hl0:=jxf x
   have hwr:IntKind.i64.wrap ((x:Int) - (fLow x:Int))=((x - fLow x:Nat):Int):=by rw[IntKind.wrap_i64];omega
   have HWR:=jq hwr
   have HM:=jq hm
   clear hdn hxs hm hwr
   gi_wp2
   refine hR.mono ?_
   rintro e3 W3 ⟨rfl,hJ3,hk3⟩
   have hbp3:=jyp hbp hk3 (.inl rfl)
   have hbe3:=jyp hbe hk3 (.inr rfl)
   have hcp3:=hbp3.cell
   have hfp3:=hbp3.frozen
   gi_wp2
   refine wpIn_wide.2 ?_
   go_region_with (go_at_call 220;refine (C.out _).mono ?_;rintro e w' ⟨rfl,rfl⟩)
   all_goals go_wp2
   all_goals
    rw[HWR.out]
    have hb4:Boxed (W3.setCell ⟨Bp,0,none⟩ (.int .i64 ((x - fLow x:Nat):Int))).drew Bp 3 (.int .i64 ((x - fLow x:Nat):Int)):=hbp3.set _
    refine⟨⟨pre++[x],r,x - fLow x,by simp[HXS.out],HDN.out,by omega,hb4,Blk.setOther (cs:=[_]) hbe3 _ _ (fun e=>hne e.symm),hJd _ _ 1 (hJ _ _ _ hJ3)⟩,?_⟩
    rw[HM.out,qwn hb4];omega
def keepU (Bp Bt T:Nat) (k:Nat):Prop:=k=Bp∨k=Bt∨k=T
theorem up1_hands (n:Nat) (hn:1≤n) (Bp Bt T S N p:Nat) (tot:Int) (hne:Bp≠Bt) (hneT:Bp≠T) (hp0:0<p) (hp:p<2^40) (hN:N≤4096) (xs:List Nat) (hx:IsUp N p xs) (w:World) (hBp:Boxed w Bp 3 (.int .i64 (p:Int))) (hBt:Boxed w Bt 236 (.pointer (some ⟨T,0,none⟩)))
  (hT:Blk w T 262 [.slice (some ⟨S,0,none⟩) (N+1:Nat) (N+1),.int .i64 tot]) :
  HandsOn n prog 241 #[.pointer (some ⟨Bp,0,none⟩),.pointer (some ⟨Bt,0,none⟩)] Bp (keepU Bp Bt T) (fun x:Nat=>#[Value.int .i64 (x:Int)]) xs w:=by
 intro l J W hW hJ hJd hY h0
 refine callsIn_of_wp func241 rfl trivial ?_ rfl
 simp only[ntmps241,List.size_toArray,List.length_cons,List.length_nil,Nat.reduceAdd,Nat.reduceSub,Array.replicate_succ,Array.replicate_zero,List.push_toArray,List.append_toArray,List.nil_append,List.cons_append]
 gi_wp2
 gi_loopw [] (fun wr=>∃ (pre rest:List Nat) (q:Nat),xs=pre++rest∧IsUp N q rest∧0<q∧q<2^40∧Boxed wr Bp 3 (.int .i64 (q:Int))∧Boxed wr Bt 236 (.pointer (some ⟨T,0,none⟩))∧Blk wr T 262 [.slice (some ⟨S,0,none⟩) (N+1:Nat) (N+1),.int .i64 tot]∧J pre wr)
  (fun wr=>4097 - boxNat wr Bp)
 case atStart=>exact⟨[],xs,p,rfl,hx,hp0,hp,jyp hBp hW (.inl rfl),jyp hBt hW (.inr (.inl rfl)),(hW.2 T (.inr (.inr rfl))).trans hT,h0⟩
 case round =>
  obtain⟨pre,rest,q,hxs,hdn,hq0,hq,hbp,hbt,hbT,hJs⟩:=hrel
  have hcp:=hbp.cell
  have hct:=hbt.cell
  have hm:=qwn hbp
  have HXS:=jq hxs
  have CL:=jq (fun (W':World) (e:W'.heap=wr.heap)=>fenLen_blk (hbT.same e) hN)
  cases rest with
  | nil =>
   have hle:N<q:=hdn
   rw[List.append_nil] at hxs
   clear hm
   gi_wp2
   refine wpIn_wide.2 ?_
   go_quiet ((go_at_call 187;exact jbc CL.out))
   gi_wp2
   go_end0
   exact⟨⟨_,rfl⟩,by rw[hxs];exact hJd _ _ nq hJs⟩
  | cons x r =>
   obtain⟨rfl,hlt,hdn⟩:=hdn
   have HDN:=jq hdn
   have C:=jq (jkd x (by omega) (by omega))
   have hl1:=jmw (i:=x) (by omega) (by omega)
   have hl0:=jxf x
   have hwr:IntKind.i64.wrap ((x:Int)+(fLow x:Int))=((x+fLow x:Nat):Int):=by rw[IntKind.wrap_i64];omega
   have HWR:=jq hwr
   have HM:=jq hm
   clear hdn hxs hm hwr
   gi_wp2
   refine wpIn_wide.2 ?_
   go_quiet ((go_at_call 187;exact jbc CL.out))
   obtain⟨fn,tmps,assign,body,hy,hR⟩:=hY pre x r (wr.drewN nq) HXS.out.symm (hJd _ _ nq hJs)
   gi_wp2
   refine hR.mono ?_
   rintro e3 W3 ⟨rfl,hJ3,hk3⟩
   have hbp3:=jyp (W:=wr.drewN nq) hbp hk3 (.inl rfl)
   have hbt3:=jyp (W:=wr.drewN nq) hbt hk3 (.inr (.inl rfl))
   have hT3:=(hk3.2 T (.inr (.inr rfl))).trans hbT
   have hcp3:=hbp3.cell
   have hfp3:=hbp3.frozen
   gi_wp2
   refine wpIn_wide.2 ?_
   go_region_with (go_at_call 220;refine (C.out _).mono ?_;rintro e w' ⟨rfl,rfl⟩)
   all_goals go_wp2
   all_goals
    rw[HWR.out]
    have hb4:Boxed (W3.setCell ⟨Bp,0,none⟩ (.int .i64 ((x+fLow x:Nat):Int))).drew Bp 3 (.int .i64 ((x+fLow x:Nat):Int)):=hbp3.set _
    refine⟨⟨pre++[x],r,x+fLow x,by simp[HXS.out],HDN.out,by omega,by omega,hb4,Blk.setOther (cs:=[_]) hbt3 _ _ (fun e=>hne e.symm),Blk.setOther hT3 _ _ (fun e=>hneT e.symm),hJd _ _ 1 (hJ _ _ _ hJ3)⟩,?_⟩
    rw[HM.out,qwn hb4];omega
end
section
def upAt (p:Nat):List Nat→Nat
 | []=>p
 | x::r=>upAt (x+fLow x) r
theorem upAt_snoc (l:List Nat):∀ (p x:Nat),upAt p (l++[x])=x+fLow x:=by
 induction l with
 | nil=>intro p x;rfl
 | cons y r ih=>intro p x;exact ih _ x
theorem isUp_at {n:Nat}:∀ {pre rest:List Nat} {p:Nat},IsUp n p (pre++rest)→IsUp n (upAt p pre) rest:=by
 intro pre
 induction pre with
 | nil=>intro rest p h;exact h
 | cons y r ih=>intro rest p h;obtain⟨rfl,-,h⟩:=h;exact ih h
def jbm (c c':List Int) (q:Nat):List Int:=(List.range (c.length+1)).map fun j=>if j<q then jzb c' j else jzb c j
theorem qbd (c c':List Int) (q:Nat):(jbm c c' q).length=c.length+1:=by simp[jbm]
theorem qbb (c c':List Int) (q j:Nat) (h:j≤c.length):(jbm c c' q)[j]?=some (if j<q then jzb c' j else jzb c j):=by
 unfold jbm;rw[List.getElem?_map,List.getElem?_range (by omega)];rfl
def Mix (n k q:Nat):Prop:=k+1≤q∧∀ j,q≤j→j≤n→((j - fLow j<k+1∧k+1≤j)↔j - fLow j<q)
theorem mix_first (n k:Nat):Mix n k (k+1):=⟨Nat.le_refl _,fun _ hj _=>⟨fun h=>h.1,fun h=>⟨h,hj⟩⟩⟩
theorem mix_next {n k q:Nat} (hn:n<2^64) (h:Mix n k q):Mix n k (q+fLow q):=by
 have hpos:=jxf q
 refine⟨by have:=h.1;omega,fun j hj hjn=>?_⟩
 rw[h.2 j (by omega) hjn]
 exact⟨fun x=>by omega,fun x=>up_beyond (by have:=h.1;omega) hj (by omega) x⟩
theorem mixRow_first (c:List Int) (k:Nat) (h:k<c.length) (d:Int):jbm c (c.set k (c[k]+d)) (k+1)=fRow c:=by
 refine List.map_congr_left fun j _=>?_
 split
 ·rw[qvy c k h d j,if_neg (by omega),Int.add_zero]
 ·rfl
theorem mixRow_next (c:List Int) (k q:Nat) (h:k<c.length) (d:Int) (hn:c.length<2^64) (hm:Mix c.length k q) (hq:q≤c.length) :
  jbm c (c.set k (c[k]+d)) (q+fLow q)=(jbm c (c.set k (c[k]+d)) q).set q (jzb c q+d):=by
 have hpos:=jxf q
 have hq0:0<q:=by have:=hm.1;omega
 have hql:=jmw hq0 (by omega)
 refine List.ext_getElem? fun j=>?_
 rcases Nat.lt_or_ge j (c.length+1) with hj | hj
 ·rw[qbb _ _ _ j (by omega)]
  by_cases e:q=j
  ·subst e
   rw[List.getElem?_set_self (by rw[qbd];exact hj),if_pos (by omega),qvy c k h d q,if_pos ((hm.2 q jw hq).2 (by omega))]
  ·rw[List.getElem?_set_ne e,qbb _ _ _ j (by omega)]
   by_cases h1:j<q
   ·rw[if_pos h1,if_pos (by omega)]
   ·rw[if_neg h1]
    by_cases h2:j<q+fLow q
    ·rw[if_pos h2,qvy c k h d j,if_neg ?_,Int.add_zero]
     intro x
     have:=(hm.2 j (by omega) (by omega)).1 x
     have:=up_between hq0 (show q<j by omega) h2 (by omega)
     omega
    ·rw[if_neg h2]
 ·rw[List.getElem?_eq_none (by rw[qbd];exact hj),List.getElem?_eq_none (by rw[List.length_set,qbd];exact hj)]
theorem mixRow_most (c c':List Int) (q:Nat) (hl:c'.length=c.length) (hq:c.length<q):jbm c c' q=fRow c':=by
 unfold jbm fRow
 rw[hl]
 exact List.map_congr_left fun j hj=>by have:=List.mem_range.1 hj;rw[if_pos (by omega)]
theorem mix_all {n k:Nat} (hn:n<2^64):∀ {pre rest:List Nat} {p:Nat},Mix n k p→IsUp n p (pre++rest)→Mix n k (upAt p pre):=by
 intro pre
 induction pre with
 | nil=>intro _ _ h _;exact h
 | cons y r ih =>
  intro rest p h hu
  obtain⟨rfl,-,hu⟩:=hu
  exact ih (mix_next hn h) hu
theorem set_sum (c:List Int) (k:Nat) (h:k<c.length) (d:Int):(c.set k (c[k]+d)).sum=c.sum+d:=by
 have:=fPre_set c k h d c.length
 rw[if_pos h,jqk c jw,jqk _ (by simp)] at this
 exact this
end
section
open Go.RowKit
theorem Lies.set_ {w:World} {T S n:Nat} {l:List Int} {t:Int} (h:Lies w T S n l t) (k:Nat) (x:Int):Lies (w.setCell ⟨S,k,none⟩ (.int .i64 x)) T S n (l.set k x) t :=
 ⟨h.tb.setOther _ _ h.ne,by have:=h.sb.set_ k (.int .i64 x);rwa [jms] at this⟩
theorem Lies.setTotal {w:World} {T S n:Nat} {l:List Int} {t:Int} (h:Lies w T S n l t) (x:Int):Lies (w.setCell ⟨T,1,none⟩ (.int .i64 x)) T S n l x :=
 ⟨by have:=h.tb.set_ 1 (.int .i64 x);simpa using this,h.sb.setOther _ _ h.ne.symm⟩
theorem fenLift_any {w:World} {T S n:Nat} {l:List Int} {t:Int} (p:Nat) (tm x y:Int) (h:Lies w T S n l t) (hn:n≤4096) (hp0:0<p) (hp:p≤n) (htm:tm=1∨tm = -1) (hx:l[p]?=some x) (hx0:0≤x) (hx1:x≤65536)
  (hy:p+fLow p≤n→l[p+fLow p]?=some y∧0≤y∧y≤65536) :
  Calls prog 224 #[.pointer (some ⟨T,0,none⟩),.int .i64 (p:Int),.int .i64 tm] w fun e w'=>(∃ v,e=.returned v)∧Lies w' T S n (if p+fLow p≤n then l.set (p+fLow p) (y+tm*x) else l) t∧jjq T S w w':=by
 have C:=jq (jkd p hp0 (by omega))
 have CL:=jq (jkl h hn)
 have hl1:=jmw (i:=p) hp0 (by omega)
 have hl0:=jxf p
 have HL:=jq h
 have hT0:=h.tb.cell 0
 have hS:=h.sb.cell p
 rw[jql,hx] at hS
 simp only[jy,Option.map_some] at hT0 hS
 obtain⟨lo,hlo⟩:∃ lo,lo=fLow p:=⟨_,rfl⟩
 rw[←hlo] at hl1 hl0 hy C ⊢
 have hpb:(p:Int)<(n:Int)+1:=by omega
 clear hx hlo
 by_cases hin:p+lo≤n
 ·obtain⟨hy1,hy0,hy2⟩:=hy hin
  have hA:=h.sb.cell (p+lo)
  rw[jql,hy1] at hA
  simp only[Option.map_some] at hA
  have hF:=h.sb.frozen (p+lo)
  have hini:(p:Int)+(lo:Int)≤(n:Int):=by omega
  have hinx:(p:Int)+(lo:Int)<(n:Int)+1:=by omega
  have HSET:=jq (h.set_ (p+lo) (y+tm*x))
  rw[if_pos hin]
  clear hy hy1 h
  rcases htm with rfl | rfl
  ·rw[Int.one_mul] at HSET ⊢
   go_enter func224,ntmps224
   go_wp2_with (first
    | (go_at_call 220;refine (C.out _).mono ?_;rintro e w' ⟨rfl,rfl⟩)
    | (go_at_call 187;refine CL.out.mono ?_;rintro e w' ⟨rfl,rfl⟩))
   go_region
   all_goals go_wp2
   go_end0
   exact⟨⟨_,rfl⟩,⟨HSET.out.tb,HSET.out.sb⟩,(jjq.set_ _ _).drew⟩
  ·rw[Int.neg_one_mul] at HSET ⊢
   go_enter func224,ntmps224
   go_wp2_with (first
    | (go_at_call 220;refine (C.out _).mono ?_;rintro e w' ⟨rfl,rfl⟩)
    | (go_at_call 187;refine CL.out.mono ?_;rintro e w' ⟨rfl,rfl⟩))
   go_region
   all_goals go_wp2
   go_end0
   exact⟨⟨_,rfl⟩,⟨HSET.out.tb,HSET.out.sb⟩,(jjq.set_ _ _).drew⟩
 ·rw[if_neg hin]
  have hini:¬ ((p:Int)+(lo:Int)≤(n:Int)):=by omega
  clear hy h
  go_enter func224,ntmps224
  go_wp2_with (first
   | (go_at_call 220;refine (C.out _).mono ?_;rintro e w' ⟨rfl,rfl⟩)
   | (go_at_call 187;refine CL.out.mono ?_;rintro e w' ⟨rfl,rfl⟩))
  go_end0
  exact⟨⟨_,rfl⟩,HL.out,jjq.refl _ _ _⟩
end
section
open Go.RowKit Go.Shelf
attribute [local go_sem] Oper.semAt_some
theorem isDown_in {e:Nat}:∀ {xs:List Nat} {p:Nat},IsDown e p xs→∀ x∈xs,x≤p∧e<x:=by
 intro xs
 induction xs with
 | nil=>intro p _ x hx;cases hx
 | cons y r ih =>
  intro p h x hx
  obtain⟨rfl,h1,h2⟩:=h
  rcases List.mem_cons.1 hx with rfl | hx
  ·exact⟨Nat.le_refl _,h1⟩
  ·have:=ih h2 x hx
   exact⟨by omega,this.2⟩
def sumN (c:List Int) (xs:List Nat):Int:=(xs.map (jzb c)).sum
theorem sumN_snoc (c:List Int) (xs:List Nat) (x:Nat):sumN c (xs++[x])=sumN c xs+jzb c x:=by simp[sumN]
theorem qkl (c:List Int) (xs:List Nat) (x:Nat):sumN c (x::xs)=jzb c x+sumN c xs:=by simp[sumN]
theorem sumN_app (c:List Int) (xs ys:List Nat):sumN c (xs++ys)=sumN c xs+sumN c ys:=by simp[sumN]
theorem sumN_nn {c:List Int} (hc:∀ x∈c,0≤x) (xs:List Nat):0≤sumN c xs:=by
 induction xs with
 | nil=>simp[sumN]
 | cons x r ih=>rw[qkl];have:=jbk hc x;omega
theorem sumN_down (c:List Int) {e k:Nat} (hk:2^k∣e):∀ (xs:List Nat) (p:Nat),IsDown e p xs→e≤p→p<e+2^k→p<2^64→sumN c xs=fPre c p - fPre c e:=by
 intro xs
 induction xs with
 | nil=>intro p h h1 _ _;obtain rfl:p=e:=Nat.le_antisymm h h1;simp[sumN]
 | cons x r ih =>
  intro p h h1 h2 h3
  obtain⟨rfl,h4,h5⟩:=h
  have e1:fLow x=fLow (x - e):=by
   have:=fLow_add (q:=e) (r:=x - e) (k:=k) hk (by omega) (by omega) (by omega)
   rw[←this];congr 1;omega
  have e2:=jmw (i:=x - e) (by omega) (by omega)
  rw[qkl,ih _ h5 (by omega) (by omega) (by omega)]
  unfold jzb;omega
theorem fenDown_any (p e:Int) (w:World) :
  Calls prog 218 #[.int .i64 p,.int .i64 e] w fun r w'=>r=.returned (.func (.func 240) #[] #[.pointer (some ⟨w.heap.size,0,none⟩),.pointer (some ⟨w.heap.size+1,0,none⟩)]) ∧
   Below w.heap.size w w'∧w'.heap.size=w.heap.size+2∧Boxed w' w.heap.size 3 (.int .i64 p)∧Boxed w' (w.heap.size+1) 3 (.int .i64 e):=by
 go_enter func218,ntmps218
 go_wp2
 go_ret
 refine⟨rfl,((Below.refl _ _).alloc jw _).alloc (by simp) _,by simp,(Boxed.new _ _ _).alloc _,?_⟩
 have h:=Boxed.new (w.alloc (.cells #[.int .i64 p] 3)) 3 (.int .i64 e)
 rwa [World.size_alloc] at h
def SumI (w:World) (Bs Bt T:Nat) (f:List Nat→Int) (pre:List Nat) (W:World):Prop :=
 Boxed W Bs 3 (.int .i64 (f pre))∧Boxed W Bt 236 (.pointer (some ⟨T,0,none⟩))∧Below w.heap.size w W
theorem jds {W W':World} {row:Option Nat} {B N:Nat} {t:TypeId} {v:Value} {Bp:Nat} (h:Boxed W B t v) (hg:W.grownBy W' row)
  (hr:∀ r,row=some r→r=Bp∨(N≤r∧∃ o:Obj,W.heap[r]?=some o∧o.isCells=false)) (hne:B≠Bp):Boxed W' B t v:=by
 refine h.kept hg fun e=>?_
 rcases hr B e.symm with e | ⟨_,o,ho,hc⟩
 ·exact hne e
 ·rw[show W.heap[B]?=_ from h] at ho;cases ho;cases hc
theorem sumI_own {w w0:World} {Bs Bt T Bp:Nat} {f:List Nat→Int} (hBp:w.heap.size≤Bp) (h1:Bs≠Bp) (h2:Bt≠Bp) (h0:w.heap.size≤w0.heap.size) :
  ∀ s A B row,SumI w Bs Bt T f s A→A.grownBy B row→(∀ r,row=some r→r=Bp∨(w0.heap.size≤r∧∃ o:Obj,A.heap[r]?=some o∧o.isCells=false))→SumI w Bs Bt T f s B:=by
 rintro s A B row ⟨x1,x2,x3⟩ hg hr
 exact⟨jds x1 hg hr h1,jds x2 hg hr h2,x3.grown hg x3.size (fun r e=>by rcases hr r e with e | e <;> omega)⟩
theorem sum_round {w Wd:World} {Bs Bt T N:Nat} {f:List Nat→Int} {keep:Nat→Prop} {pre:List Nat} {sm v:Int} (hs:Boxed Wd Bs 3 (.int .i64 sm)) (ht:Boxed Wd Bt 236 (.pointer (some ⟨T,0,none⟩))) (hB:Below w.heap.size w Wd)
  (n1:Bt≠Bs) (n2:∀ k,keep k→k≠Bs) (hle:w.heap.size≤Bs) (e:f pre=v) :
  KeepsFrom N Wd (Wd.setCell ⟨Bs,0,none⟩ (.int .i64 v)).drew∧jyg keep Wd (Wd.setCell ⟨Bs,0,none⟩ (.int .i64 v)).drew∧SumI w Bs Bt T f pre (Wd.setCell ⟨Bs,0,none⟩ (.int .i64 v)).drew:=by
 have h1:KeepsFrom N Wd (Wd.setCell ⟨Bs,0,none⟩ (.int .i64 v)):=(KeepsOthers.setCell Wd ⟨Bs,0,none⟩ (.int .i64 v)).from N
 have h3:Boxed (Wd.setCell ⟨Bs,0,none⟩ (.int .i64 v)) Bs 3 (.int .i64 v):=hs.set _
 have h4:Boxed (Wd.setCell ⟨Bs,0,none⟩ (.int .i64 v)) Bt 236 (.pointer (some ⟨T,0,none⟩)):=Blk.setOther (cs:=[_]) ht _ _ n1
 refine⟨⟨h1.size,h1.same⟩,⟨(grownBy_setCell' Wd _ _).size,fun k hk=>Below.heap_setCell _ _ _ k (n2 k hk)⟩,?_,h4,below_drewN (hB.setCell (p:=⟨Bs,0,none⟩) hle _) 1⟩
 rw[e];exact h3
theorem fenBelow_any {w:World} {T S:Nat} {c:List Int} (i:Int) (h:jwq w T S c) (p:Nat) (hp:(p:Int)=min (max i 0) (c.length:Int)) :
  Calls prog 188 #[.pointer (some ⟨T,0,none⟩),.int .i64 i] w fun e w'=>e=.returned (.int .i64 (fPre c p))∧Below w.heap.size w w':=by
 have hlen:=h.1.1
 have hnn:=h.1.2.1
 have htot:=h.1.2.2
 have hpn:p≤c.length:=by omega
 have HC:=jq h.1
 have HL:=jq h.2
 have CL:=jq (fun (W':World) (hb:Below w.heap.size w W')=>jkl (h.2.grow hb) hlen.2)
 have cd:=fenDown_any (min (max i 0) (c.length:Int)) 0
 have CD:=jq cd
 clear cd
 obtain⟨xs,hx⟩:=isDown_ex 0 p
 have hsum:=sumN_down c (e:=0) (k:=13) (Nat.dvd_zero _) xs p hx (Nat.zero_le _) (by omega) (by omega)
 rw[jyz,Int.sub_zero] at hsum
 have HX:=jq hx
 have HS:=jq hsum
 have HN:=jq hnn
 clear h hx hsum hnn
 refine (callsIn_wide (n:=4)).1 ?_
 refine callsIn_of_wp_marks func188 rfl trivial ?_ rfl
 simp only[ntmps188,List.size_toArray,List.length_cons,List.length_nil,Nat.reduceAdd,Nat.reduceSub,Array.replicate_succ,Array.replicate_zero,List.push_toArray,List.append_toArray,List.nil_append,List.cons_append]
 gi_wp2_with (first
  | (refine⟨trivial,?_⟩;gi_at_call 187;refine (callsIn_wide.2 (CL.out _ (((Below.refl _ _).alloc jw _).alloc (by simp) _))).mono ?_;rintro e w' ⟨rfl,rfl⟩)
  | (refine⟨trivial,?_⟩;gi_at_call 218;refine (callsIn_wide.2 (CD.out _)).mono ?_;rintro e w3 ⟨rfl,hb3,hs3,hbp,hbe⟩))
 rw[←hp] at hbp
 have hBt:=(Boxed.new w 236 (.pointer (some ⟨T,0,none⟩))).alloc (.cells #[.int .i64 0] 3)
 have hBs:=Boxed.new (w.alloc (.cells #[.pointer (some ⟨T,0,none⟩)] 236)) 3 (.int .i64 0)
 have hB2:Below w.heap.size w _:=((Below.refl _ w).alloc jw (.cells #[.pointer (some ⟨T,0,none⟩)] 236)).alloc (by simp) (.cells #[.int .i64 0] 3)
 simp only[World.size_alloc] at hs3 hbp hbe hBs
 have hBt3:Boxed w3 w.heap.size 236 (.pointer (some ⟨T,0,none⟩)):=(hb3.block _ (by simp;omega)).trans hBt
 have hBs3:Boxed w3 (w.heap.size+1) 3 (.int .i64 0):=(hb3.block _ (by simp)).trans hBs
 have hB3:=hB2.trans (hb3.mono hB2.size)
 obtain⟨BT,hBT⟩:∃ BT,BT=w.heap.size:=⟨_,rfl⟩
 clear hBt hBs hB2 hb3
 rw[←hBT] at hs3 hbp hbe hBt3 hBs3 ⊢
 have hle:w.heap.size≤BT:=by omega
 clear hBT
 refine jkw (by omega) (gf:=240) (lb:=#[.pointer (some ⟨BT+1+1,0,none⟩),.pointer (some ⟨BT+1+1+1,0,none⟩)]) rfl (enters_of func240 (by kernel_rfl) rfl)
  (down1_hands 3 (by omega) (BT+1+1) (BT+1+1+1) p 0 (by omega) (by omega) xs HX.out w3 hbp hbe) (fun k hk=>by rcases hk with rfl | rfl <;> omega) (by omega) (fun _=>rfl)
  (SumI w (BT+1) BT T (sumN c)) (sumI_own (by omega) (by omega) (by omega) (by omega)) (fun _ _ k h=>⟨h.1,h.2.1,below_drewN h.2.2 k⟩) ⟨hBs3,hBt3,hB3⟩
  (fun x=>{ tmps:=#[.pointer (some ⟨T,0,none⟩),.int .i64 i,.pointer (some ⟨BT,0,none⟩),undef,.int .i64 0,.pointer (some ⟨BT+1,0,none⟩),.int .i64 (x:Int),.int .i64 i,.int .i64 (max i 0),.pointer (some ⟨T,0,none⟩),.int .i64 (c.length:Int),.int .i64 (min (max i 0) (c.length:Int)),.func (.func 240) #[] #[.pointer (some ⟨BT+1+1,0,none⟩),.pointer (some ⟨BT+1+1+1,0,none⟩)],.int .i64 (x:Int),undef,undef,undef,undef,undef,undef,undef,undef,undef,undef],defers:=[] }) ?assign ?body ?done
 case assign =>
  intro l x Wd K hK
  gi_wp2
  exact hK
 case body =>
  rintro l pre x rest Wd hxs ⟨hs,ht,hB⟩ hsz hkp
  have hsc:=hs.cell
  have hsf:=hs.frozen
  have htc:=ht.cell
  have hl:=HL.out.grow hB
  have hT0:=hl.tb.cell 0
  have hxin:=isDown_in HX.out x (by rw[←hxs];simp)
  have hS:=hl.sb.cell x
  rw[jql,fRow_get c x (by omega)] at hS
  simp only[jy,Option.map_some] at hT0 hS
  have hsn:=sumN_snoc c pre x
  have h0:=sumN_nn HN.out pre
  have h1:=jbk HN.out x
  have h2:=jwp HN.out p
  have h3:=sumN_nn HN.out rest
  have h4:sumN c pre+(jzb c x+sumN c rest)=fPre c p:=by rw[←HS.out,←hxs,sumN_app,qkl]
  obtain⟨sm,hsm⟩:∃ sm,sm=sumN c pre:=⟨_,rfl⟩
  obtain⟨nd,hnd⟩:∃ nd,nd=jzb c x:=⟨_,rfl⟩
  rw[←hsm] at hsc hsn h0 h4
  rw[←hnd] at hS hsn h1 h4
  have hadd:IntKind.i64.wrap (sm+nd)=sm+nd:=by rw[IntKind.wrap_i64];omega
  have hxb:(x:Int)<(c.length:Int)+1:=by omega
  rw[←hsm] at hs
  have HADD:=jq hadd
  have HSN:=jq hsn
  have HSS:=jq hs
  have HTT:=jq ht
  have HBB:=jq hB
  clear hadd hsn hsm hnd h0 h1 h2 h3 h4 hxin hkp hl hs ht hB hxs htot hlen hpn hsz hB3 hBs3 hBt3 hbe hbp hp
  gi_wp2
  gi_region
  all_goals gi_wp2
  all_goals
   rw[HADD.out]
   exact sum_round HSS.out HTT.out HBB.out (by omega) (fun k hk=>by rcases hk with rfl | rfl <;> omega) (by omega) HSN.out
 case done =>
  rintro D Wd hD ⟨hs,ht,hB⟩ hK
  have hsc:=hs.cell
  rw[HS.out] at hsc
  gi_wp2
  refine⟨by simp,.inl ⟨_,_,rfl,run_takeDeferred hK,?_⟩⟩
  refine⟨_,results_tmp rfl _ _ _,?_⟩
  exact⟨rfl,hB.trans (belowK_b (w:=w) jw Wd D _ _ (by rw[hs3] at hD;omega) hK rfl rfl)⟩
attribute [local go_sem] Oper.semAt_some
theorem low_dvd {k:Nat} (h:k+1<2^64):∃ a,fLow (k+1)=2^a∧2^a∣k+1 - fLow (k+1):=by
 obtain⟨m,hm⟩:=qjn (i:=k+1) (by omega) h
 obtain⟨a,ha⟩:=fLow_pow (k+1)
 refine⟨a,ha,⟨2*m,?_⟩⟩
 rw[ha] at hm ⊢
 rw[Nat.mul_add] at hm
 omega
theorem fenGet_at {w:World} {T S:Nat} {c:List Int} (k:Nat) (h:jwq w T S c) (hk:k<c.length) :
  Calls prog 189 #[.pointer (some ⟨T,0,none⟩),.int .i64 (k:Int)] w fun e w'=>e=.returned (.int .i64 (c[k]'hk))∧Below w.heap.size w w':=by
 have hlen:=h.1.1
 have hnn:=h.1.2.1
 have htot:=h.1.2.2
 have hk1:k+1<2^64:=by omega
 have HL:=jq h.2
 have ch:=fun (W':World) (hb:Below w.heap.size w W')=>fenHas_any (k:Int) (h.2.grow hb) hlen.2
 rw[decide_eq_true (show 0≤(k:Int)∧(k:Int)<c.length by omega)] at ch
 have CH:=jq ch
 have cw:=jkd (k+1) (by omega) (by omega)
 rw[show ((k+1:Nat):Int)=(k:Int)+1 by omega] at cw
 have CW:=jq cw
 clear cw
 obtain⟨a,ha,had⟩:=low_dvd hk1
 have hlow:=jmw (i:=k+1) (by omega) hk1
 have hlow0:=jxf (k+1)
 obtain⟨E,hE⟩:∃ E,E=k+1 - fLow (k+1):=⟨_,rfl⟩
 rw[←hE] at had
 have hEi:(k:Int)+1 - (fLow (k+1):Int)=(E:Int):=by omega
 have CD:=jq (fenDown_any (k:Int) (E:Int))
 obtain⟨xs,hx⟩:=isDown_ex E k
 have hsum:=sumN_down c had xs k hx (by omega) (by omega) (by omega)
 have hA:=h.2.grow ((Below.refl _ w).alloc jw (.cells #[.pointer (some ⟨T,0,none⟩)] 236))
 have hS:=hA.sb.cell (k+1)
 rw[jql,fRow_get c (k+1) (by omega)] at hS
 have hnd:jzb c (k+1)=c[k]+sumN c xs:=by rw[hsum];unfold jzb;rw[←hE,jqm c k hk];omega
 have hck:=hnn _ (List.getElem_mem hk)
 have hndle:=jgx hnn (k+1)
 have hT0:=hA.tb.cell 0
 simp only[jy,Option.map_some] at hT0 hS
 obtain⟨ck,hckq⟩:∃ ck,ck=c[k]:=⟨_,rfl⟩
 rw[←hckq] at hck hnd ⊢
 obtain⟨nd,hndq⟩:∃ nd,nd=jzb c (k+1):=⟨_,rfl⟩
 rw[←hndq] at hS hnd hndle
 have HX:=jq hx
 have HN:=jq hnn
 have HND:=jq hnd
 have HCK:=jq hck
 have HNL:=jq hndle
 have HEI:=jq hEi
 have hx1:(k:Int)+1<(c.length:Int)+1:=by omega
 have hEk:E≤k:=by omega
 have hkn:k<4097:=by omega
 have hlow1:(fLow (k+1):Int)≤(k:Int)+1:=by omega
 clear h hA hx hsum hnn ch hE had hnd hndq hckq hck hndle hEi ha
 refine (callsIn_wide (n:=4)).1 ?_
 refine callsIn_of_wp_marks func189 rfl trivial ?_ rfl
 simp only[ntmps189,List.size_toArray,List.length_cons,List.length_nil,Nat.reduceAdd,Nat.reduceSub,Array.replicate_succ,Array.replicate_zero,List.push_toArray,List.append_toArray,List.nil_append,List.cons_append]
 gi_wp2_with (first
  | (refine⟨trivial,?_⟩;gi_at_call 219;refine (callsIn_wide.2 (CH.out _ ((Below.refl _ _).alloc jw _))).mono ?_;rintro e w' ⟨rfl,rfl⟩)
  | (refine⟨trivial,?_⟩;gi_at_call 220;refine (callsIn_wide.2 (CW.out _)).mono ?_;rintro e w' ⟨rfl,rfl⟩))
 rw[HEI.out]
 gi_wp2_with (refine⟨trivial,?_⟩;gi_at_call 218;refine (callsIn_wide.2 (CD.out _)).mono ?_;rintro e w3 ⟨rfl,hb3,hs3,hbp,hbe⟩)
 have hBt:=(Boxed.new w 236 (.pointer (some ⟨T,0,none⟩))).alloc (.cells #[.int .i64 nd] 3)
 have hBs:=Boxed.new (w.alloc (.cells #[.pointer (some ⟨T,0,none⟩)] 236)) 3 (.int .i64 nd)
 have hB2:Below w.heap.size w _:=((Below.refl _ w).alloc jw (.cells #[.pointer (some ⟨T,0,none⟩)] 236)).alloc (by simp) (.cells #[.int .i64 nd] 3)
 simp only[World.size_alloc] at hs3 hbp hbe hBs
 have hBt3:Boxed w3 w.heap.size 236 (.pointer (some ⟨T,0,none⟩)):=(hb3.block _ (by simp;omega)).trans hBt
 have hBs3:Boxed w3 (w.heap.size+1) 3 (.int .i64 nd):=(hb3.block _ (by simp)).trans hBs
 have hB3:=hB2.trans (hb3.mono hB2.size)
 obtain⟨BT,hBT⟩:∃ BT,BT=w.heap.size:=⟨_,rfl⟩
 clear hBt hBs hB2 hb3
 rw[←hBT] at hs3 hbp hbe hBt3 hBs3 ⊢
 have hle:w.heap.size≤BT:=by omega
 clear hBT
 refine jkw (by omega) (gf:=240) (lb:=#[.pointer (some ⟨BT+1+1,0,none⟩),.pointer (some ⟨BT+1+1+1,0,none⟩)]) rfl (enters_of func240 (by kernel_rfl) rfl)
  (down1_hands 3 (by omega) (BT+1+1) (BT+1+1+1) k E (by omega) (by omega) xs HX.out w3 hbp hbe) (fun k hk=>by rcases hk with rfl | rfl <;> omega) (by omega) (fun _=>rfl)
  (SumI w (BT+1) BT T (fun pre=>nd - sumN c pre)) (sumI_own (by omega) (by omega) (by omega) (by omega)) (fun _ _ k h=>⟨h.1,h.2.1,below_drewN h.2.2 k⟩) ⟨by simpa [sumN] using hBs3,hBt3,hB3⟩
  (fun x=>{ tmps:=#[.pointer (some ⟨T,0,none⟩),.int .i64 (k:Int),.pointer (some ⟨BT,0,none⟩),undef,.int .i64 0,.int .i64 ((k:Int)+1),.pointer (some ⟨BT+1,0,none⟩),.int .i64 (x:Int),.pointer (some ⟨T,0,none⟩),.int .i64 (k:Int),.bool true,.bool false,.int .i64 (k:Int),.int .i64 ((k:Int)+1),.pointer (some ⟨T,0,none⟩),.pointer (some ⟨T,0,none⟩),.pointer (some ⟨T,0,none⟩),.slice (some ⟨S,0,none⟩) (c.length+1) (c.length+1),.int .i64 ((k:Int)+1),.pointer (some ⟨S,k+1,none⟩),.int .i64 nd,.int .i64 (k:Int),.int .i64 ((k:Int)+1),.int .i64 ((k:Int)+1),.int .i64 (fLow (k+1):Int),.int .i64 (E:Int),.func (.func 240) #[] #[.pointer (some ⟨BT+1+1,0,none⟩),.pointer (some ⟨BT+1+1+1,0,none⟩)],.int .i64 (x:Int),undef,undef,undef,undef,undef,undef,undef,undef,undef,undef],defers:=[] }) ?assign ?body ?done
 case assign =>
  intro l x Wd K hK
  gi_wp2
  exact hK
 case body =>
  rintro l pre x rest Wd hxs ⟨hs,ht,hB⟩ hsz hkp
  dsimp only at hs
  have hsc:=hs.cell
  have hsf:=hs.frozen
  have htc:=ht.cell
  have hl:=HL.out.grow hB
  have hT0:=hl.tb.cell 0
  have hxin:=isDown_in HX.out x (by rw[←hxs];simp)
  have hS:=hl.sb.cell x
  rw[jql,fRow_get c x (by omega)] at hS
  simp only[jy,Option.map_some] at hT0 hS
  have hsn:=sumN_snoc c pre x
  have h0:=sumN_nn HN.out pre
  have h1:=jbk HN.out x
  have h3:=sumN_nn HN.out rest
  have h4:sumN c pre+(jzb c x+sumN c rest)=sumN c xs:=by rw[←hxs,sumN_app,qkl]
  have h5:=HND.out
  have h6:=HCK.out
  have h7:=HNL.out
  obtain⟨sm,hsm⟩:∃ sm,sm=nd - sumN c pre:=⟨_,rfl⟩
  obtain⟨y,hy⟩:∃ y,y=jzb c x:=⟨_,rfl⟩
  have hsn':nd - sumN c (pre++[x])=sm - y:=by omega
  have hadd:IntKind.i64.wrap (sm - y)=sm - y:=by rw[IntKind.wrap_i64];omega
  rw[←hsm] at hs hsc
  rw[←hy] at hS
  have hxb:(x:Int)<(c.length:Int)+1:=by omega
  have HADD:=jq hadd
  have HSN:=jq hsn'
  have HSS:=jq hs
  have HTT:=jq ht
  have HBB:=jq hB
  clear hadd hsn hsn' hsm hy h0 h1 h3 h4 h5 h6 h7 hxin hkp hl hs ht hB hxs htot hlen hsz hB3 hBs3 hBt3 hbe hbp hx1 hEk hkn hlow hlow0 hlow1 hk1 hk
  gi_wp2
  gi_region
  all_goals gi_wp2
  all_goals
   rw[HADD.out]
   exact sum_round HSS.out HTT.out HBB.out (by omega) (fun k hk=>by rcases hk with rfl | rfl <;> omega) (by omega) HSN.out
 case done =>
  rintro D Wd hD ⟨hs,ht,hB⟩ hK
  have hsc:=hs.cell
  dsimp only at hsc
  rw[show nd - sumN c xs=ck by have:=HND.out;omega] at hsc
  gi_wp2
  refine⟨by simp,.inl ⟨_,_,rfl,run_takeDeferred hK,?_⟩⟩
  refine⟨_,results_tmp rfl _ _ _,?_⟩
  exact⟨rfl,hB.trans (belowK_b (w:=w) jw Wd D _ _ (by rw[hs3] at hD;omega) hK rfl rfl)⟩
end
section
open Go.RowKit Go.Shelf Go.Sort
attribute [local go_sem] Oper.semAt_some
theorem fenUp_any (T p:Nat) (w:World) :
  Calls prog 223 #[.pointer (some ⟨T,0,none⟩),.int .i64 (p:Int)] w fun r w'=>r=.returned (.func (.func 241) #[] #[.pointer (some ⟨w.heap.size+1,0,none⟩),.pointer (some ⟨w.heap.size,0,none⟩)]) ∧
   Below w.heap.size w w'∧w'.heap.size=w.heap.size+2∧Boxed w' w.heap.size 236 (.pointer (some ⟨T,0,none⟩))∧Boxed w' (w.heap.size+1) 3 (.int .i64 (p:Int)):=by
 go_enter func223,ntmps223
 go_wp2
 go_ret
 refine⟨rfl,((Below.refl _ _).alloc jw _).alloc (by simp) _,by simp,(Boxed.new _ _ _).alloc _,?_⟩
 have h:=Boxed.new (w.alloc (.cells #[.pointer (some ⟨T,0,none⟩)] 236)) 3 (.int .i64 (p:Int))
 rwa [World.size_alloc] at h
theorem addBoxes (w:World) (v u:Value):Below w.heap.size w ((w.alloc (.cells #[v] 236)).alloc (.cells #[u] 3)) ∧
  Boxed ((w.alloc (.cells #[v] 236)).alloc (.cells #[u] 3)) w.heap.size 236 v∧Boxed ((w.alloc (.cells #[v] 236)).alloc (.cells #[u] 3)) (w.heap.size+1) 3 u ∧
  ((w.alloc (.cells #[v] 236)).alloc (.cells #[u] 3)).heap.size=w.heap.size+1+1:=by
 refine⟨((Below.refl _ _).alloc jw _).alloc (by simp) _,(Boxed.new _ _ _).alloc _,?_,by simp⟩
 have h:=Boxed.new (w.alloc (.cells #[v] 236)) 3 u
 rwa [World.size_alloc] at h
end
end Go.Proofs.YtflcmmeoppdhdaaGreatDoor
