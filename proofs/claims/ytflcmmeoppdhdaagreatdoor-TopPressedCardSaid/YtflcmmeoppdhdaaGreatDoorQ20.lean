/- Layer 19: the reference's counts: Begin, K, Behind. · Layer 19: the program's counts: first, parameter, behind. · Layer 19: the reference's Bits and Code. · Layer 19: the reference's Decode. · Layer .. -/
import Derived.Test.YtflcmmeoppdhdaaGreatDoorQ08
import Derived.Test.YtflcmmeoppdhdaaGreatDoorQ14
import Derived.Test.YtflcmmeoppdhdaaGreatDoorQ17
set_option maxHeartbeats 4000000
set_option maxRecDepth 100000
namespace Go.Proofs.YtflcmmeoppdhdaaGreatDoor
open Tryz
section
open Go.RowKit Go.Sort
def cntV (A N:Nat):Value:=.agg #[.int .u64 (A:Int),.int .u64 (N:Int)]
theorem isK_few {D A N k:Nat} (h:jxg D A N) (hk:IsK A N k):k≤33:=by
 refine Nat.le_of_not_lt fun hlt=>?_
 have h1:=hk.2 33 hlt
 obtain⟨g1,g2,g3,g4⟩:=h
 rw[show (2:Nat)^33=8589934592 by decide] at h1
 omega
theorem qqh:(prog.info? 323).map (·.size)=some 2:=by kernel_rfl
theorem qzn {w':World} {p:Nat} {tmps:Array Value} {fn:Func} {q:Tmp} (hres:fn.results=#[.cell q 323]) {v0 v1:Value} (hp:tmps.getD q undef=.pointer (some ⟨p,0,none⟩)) (hk:Blk w' p 323 [v0,v1]):(results fn tmps).run prog w'=.ok (.agg #[v0,v1]) w' :=
 results_cell_row hres tmps w' p 323 _ (0,0) _ hp hk underlying323 rfl qqh
theorem riceFirst_any (w:World):Calls prog 290 #[] w fun e w'=>e=.returned (cntV 16 1)∧Below w.heap.size w w':=by
 go_enter func290,ntmps290
 go_wp2
 exact bodyPost_ret (v:=cntV 16 1) (qzn results290 rfl (heap_alloc_new w _)) rfl ⟨rfl,(Below.refl _ _).alloc jw _⟩
def ParRel (w:World) (B A N k:Nat) (i:Value) (wr:World):Prop :=
 ∃ j:Nat,j≤k∧i=.int .i64 (j:Int)∧Blk wr B 323 [.int .u64 (A:Int),.int .u64 (N:Int)]∧Below w.heap.size w wr
theorem ricePar_any {D A N k:Nat} (h:jxg D A N) (hk:IsK A N k) (w:World) :
  Calls prog 294 #[cntV A N] w fun e w'=>e=.returned (.int .i64 (k:Int))∧Below w.heap.size w w':=by
 have hk33:=isK_few h hk
 have HK:=jq hk
 have hN:=h.2.1
 have hN1:=h.1
 have hA:A≤133143986192:=by obtain⟨g1,g2,g3,g4⟩:=h;omega
 have hb:=(Below.refl w.heap.size w).alloc jw (.cells #[.int .u64 (A:Int),.int .u64 (N:Int)] 323)
 have hbl:Blk (w.alloc (.cells #[.int .u64 (A:Int),.int .u64 (N:Int)] 323)) w.heap.size 323 [.int .u64 (A:Int),.int .u64 (N:Int)]:=heap_alloc_new w _
 have HREL:=jq (show ParRel w w.heap.size A N k (.int .i64 ((0:Nat):Int)) _ from ⟨0,Nat.zero_le _,rfl,hbl,hb⟩)
 clear h hk hb hbl
 unfold cntV
 go_enter func294,ntmps294
 go_wp2
 go_loopw [3] (ParRel w w.heap.size A N k) (fun i _=>k - (intOf i).toNat)
 case atStart=>exact HREL.out
 case round =>
  clear HREL
  obtain⟨j,hj,rfl,hbl,hb⟩:=hrel
  have hp2:2^j≤8589934592:=Nat.pow_le_pow_right (n:=2) (by decide) (show j≤33 by omega)
  have hNP:N*2^j≤31*8589934592:=Nat.mul_le_mul hN hp2
  have hlt:=HK.out.2 j
  have hle:=HK.out.1
  have hc0:=hbl.cell 0
  have hc1:=hbl.cell 1
  simp only[jy,jx] at hc0 hc1
  have hj0:(0:Int)≤(j:Int):=by omega
  have HBL:=jq hbl
  have HB:=jq hb
  obtain⟨M,hM⟩:∃ M,M=N*2^j:=⟨_,rfl⟩
  have hw:IntKind.u64.wrap ((N:Int)*2^j)=(M:Int):=by
   have e:(N:Int)*2^j=(M:Int):=by rw[hM];simp
   rw[e,IntKind.wrap_u64];omega
  by_cases hjk:j<k
  ·have hMA:(M:Int)<(A:Int):=by have:=hlt hjk;omega
   clear hM hp2 hNP hlt hle hN hN1 hbl hb hA
   go_wp2
   go_quiet (fail)
   go_wp2
   go_roundw
   case rel=>exact⟨j+1,by omega,by go_num,HBL.out.same rfl,below_drewN HB.out _⟩
   case measure=>simp[intOf];omega
  ·obtain rfl:j=k:=by omega
   have hMA:¬ (M:Int)<(A:Int):=by omega
   clear hM hp2 hNP hlt hle hN hN1 hjk hbl hb hA
   go_wp2
   go_quiet (fail)
   go_wp2
   go_ret
   exact⟨rfl,below_drewN HB.out _⟩
theorem riceBeh_any {A N v:Nat} (hA:A≤1000000000000) (hN:N≤31) (hv:v<18446744073709551616) (w:World) :
  Calls prog 296 #[cntV A N,.int .u64 (v:Int)] w fun e w'=>e=.returned (cntV (jqv A N v) (jqq N))∧Below w.heap.size w w':=by
 have HE:=jq (fun (a b:Int) (h1:a=((jqv A N v:Nat):Int)) (h2:b=((jqq N:Nat):Int))=>show (Value.agg #[.int .u64 a,.int .u64 b])=cntV (jqv A N v) (jqq N) by unfold cntV;rw[h1,h2])
 by_cases hN2:N+1=32
 ·have hi:¬ (N:Int)+1<32:=by omega
  have e1:((A:Int)+min (v:Int) 4294967296)/2=((jqv A N v:Nat):Int):=by unfold jqv;rw[if_pos hN2];omega
  have e2:((N:Int)+1)/2=((jqq N:Nat):Int):=by unfold jqq;rw[if_pos hN2];omega
  obtain⟨a,ha⟩:∃ a,a=jqv A N v:=⟨_,rfl⟩
  obtain⟨b,hbb⟩:∃ b,b=jqq N:=⟨_,rfl⟩
  rw[←ha] at e1 HE ⊢
  rw[←hbb] at e2 HE ⊢
  have E1:=jq e1
  have E2:=jq e2
  clear ha hbb e1 e2
  change Calls prog 296 #[.agg #[.int .u64 (A:Int),.int .u64 (N:Int)],.int .u64 (v:Int)] w _
  go_enter func296,ntmps296
  go_wp2
  (try simp only[Exit.inBlock,Exit.then])
  exact bodyPost_ret (v:=cntV a b) (by rw[←HE.out _ _ E1.out E2.out];exact qzn (p:=w.heap.size+1) results296 rfl (by rw[←World.size_alloc];exact heap_alloc_new _ _)) rfl ⟨rfl,((Below.refl _ _).alloc jw _).alloc (by simp) _⟩
 ·have hi:(N:Int)+1<32:=by omega
  have e1:(A:Int)+min (v:Int) 4294967296=((jqv A N v:Nat):Int):=by unfold jqv;rw[if_neg hN2];omega
  have e2:(N:Int)+1=((jqq N:Nat):Int):=by unfold jqq;rw[if_neg hN2];omega
  obtain⟨a,ha⟩:∃ a,a=jqv A N v:=⟨_,rfl⟩
  obtain⟨b,hbb⟩:∃ b,b=jqq N:=⟨_,rfl⟩
  rw[←ha] at e1 HE ⊢
  rw[←hbb] at e2 HE ⊢
  have E1:=jq e1
  have E2:=jq e2
  clear ha hbb e1 e2
  change Calls prog 296 #[.agg #[.int .u64 (A:Int),.int .u64 (N:Int)],.int .u64 (v:Int)] w _
  go_enter func296,ntmps296
  go_wp2
  (try simp only[Exit.inBlock,Exit.then])
  exact bodyPost_ret (v:=cntV a b) (by rw[←HE.out _ _ E1.out E2.out];exact qzn (p:=w.heap.size+1) results296 rfl (by rw[←World.size_alloc];exact heap_alloc_new _ _)) rfl ⟨rfl,((Below.refl _ _).alloc jw _).alloc (by simp) _⟩
theorem riceB_next {D A N:Nat} {ws:List Nat} {k:Nat} {R:List Bool} (h:qyz D A N (ws.drop k) R) (hk:k<ws.length):∃ (K:Nat) (R2:List Bool),IsK A N K∧R=qbr D K ws[k]++R2∧qyz D (jqv A N ws[k]) (jqq N) (ws.drop (k+1)) R2:=by
 rw[List.drop_eq_getElem_cons hk] at h
 cases h with
 | word _ _ K _ _ R2 hK hr=>exact⟨K,R2,hK,rfl,hr⟩
theorem D_le {W:Nat} (hW:IsW W):8≤8*W∧8*W≤64:=by have:=hW.pos;omega
def jwb:Nat→(List Bool × Nat)→List UInt8 × (List Bool × Nat)
 | 0,s=>([],s)
 | m+1,s=>(UInt8.ofNat (getV s 8)::(jwb m (getS s 8)).1,(jwb m (getS s 8)).2)
theorem restF_len:∀ (m:Nat) (s:List Bool × Nat),(jwb m s).1.length=m
 | 0,_=>rfl
 | m+1,s=>by rw[jwb,List.length_cons,restF_len m]
def jmh (W n:Nat) (o:Option (List Nat × (List Bool × Nat))):List UInt8 × Nat:=match o with
 | none=>([],16)
 | some (X,s)=>if jwn (jwb (n%W) s).2=0 then (layW W X++(jwb (n%W) s).1,0) else ([],16)
def aheadO (X:List Nat) (o:Option (List Nat × (List Bool × Nat))):Option (List Nat × (List Bool × Nat)):=o.map fun p=>(X++p.1,p.2)
theorem aheadO_cons (X:List Nat) (v:Nat) (o:Option (List Nat × (List Bool × Nat))):aheadO X (o.map fun p=>(v::p.1,p.2))=aheadO (X++[v]) o:=by
 cases o with
 | none=>rfl
 | some p=>simp[aheadO]
theorem qjw.next {D k A N K:Nat} {s:List Bool × Nat} {o:Option (List Nat × (List Bool × Nat))} (h:qjw D (k+1) A N s o) (hK:IsK A N K) :
  (qjd D K s=none→o=none)∧∀ v s',qjd D K s=some (v,s')→∃ o2,qjw D k (jqv A N v) (jqq N) s' o2∧o=o2.map fun p=>(v::p.1,p.2):=by
 cases h with
 | bad _ _ _ k2 _ hk hv =>
  obtain rfl:=hK.one hk
  exact⟨fun _=>rfl,fun v s' e=>by rw[hv] at e;cases e⟩
 | word _ _ _ k2 v2 _ s2 o2 hk hv hr =>
  obtain rfl:=hK.one hk
  refine⟨fun e=>by rw[hv] at e;(cases e),fun v s' e=>?_⟩
  rw[hv,Option.some.injEq,Prod.mk.injEq] at e
  obtain⟨rfl,rfl⟩:=e
  exact⟨o2,hr,rfl⟩
theorem lt_snoc' {M x:Nat} {X:List Nat} (h:∀ y∈X,y<M) (hx:x<M):∀ y∈X++[x],y<M:=by
 intro y hy
 rcases List.mem_append.1 hy with h1 | h1
 ·exact h y h1
 ·rw[List.mem_singleton.1 h1];exact hx
def RDSays (w:World) (Q:List UInt8 × Nat) (e:Ending) (w':World):Prop:=∃ v,e=.returned (.tuple #[v,.int .i64 (Q.2:Int)])∧jjz Q.1 v w'∧Below w.heap.size w w'
theorem qxd (w:World):jjz [] (.slice none 0 0) w:=⟨none,0,rfl,Nat.le_refl _,Rd.nil_ _ _ _⟩
theorem jjj.lower {B g:Nat} {ts:List TypeId} {w w':World} (h:jjj g ts w w') (hg:B≤g) (hB:B≤w.heap.size):Below B w w':=(h.base hg).below hB
section
variable {D K q:Nat} {s s1:List Bool × Nat}
theorem riceV_A (hq:q=jwm s 24) (h1:s1=jxs s 24) (h:q=24):qjd D K s=if (getS s1 D).2=0 then some (getV s1 D,getS s1 D) else none:=by
 unfold qjd;rw[←hq,←h1,if_pos h]
theorem riceV_C (hq:q=jwm s 24) (h1:s1=jxs s 24) (h:¬ q=24) (hc:0<q∧(2^D - 1)/q<2^K):qjd D K s=none:=by
 unfold qjd;rw[←hq,←h1,if_neg h,if_pos hc]
theorem riceV_D (hq:q=jwm s 24) (h1:s1=jxs s 24) (h:¬ q=24) (hc:¬ (0<q∧(2^D - 1)/q<2^K)) (hd:2^D - 1<q*2^K+getV s1 K):qjd D K s=none:=by
 unfold qjd;rw[←hq,←h1,if_neg h,if_neg hc,if_pos hd]
theorem riceV_F (hq:q=jwm s 24) (h1:s1=jxs s 24) (h:¬ q=24) (hc:¬ (0<q∧(2^D - 1)/q<2^K)) (hd:¬ 2^D - 1<q*2^K+getV s1 K):qjd D K s=if (getS s1 K).2=0 then some (q*2^K+getV s1 K,getS s1 K) else none:=by
 unfold qjd;rw[←hq,←h1,if_neg h,if_neg hc,if_neg hd]
end
theorem jzn {P:Program} {fn:Func} {u p:Tmp} {ty:TypeId} (h:fn.results=#[.tmp u,.cell p ty]) (tmps:Array Value) (w:World) (g:Nat) (t:TypeId) (cs:Array Value) (fr:Nat × Nat) (d:TypeDesc)
  (hp:tmps.getD p undef=.pointer (some ⟨g,0,none⟩)) (hg:w.heap[g]?=some (.cells cs t fr))
  (hu:P.underlying ty=some d) (hd:(match d with | .struct _ | .array _ _=>true | _=>false)=true) (hi:(P.info? ty).map (·.size)=some cs.size) :
  (results fn tmps).run P w=.ok (.tuple #[tmps.getD u undef,.agg cs]) w:=by
 have hp':tmps[p]?.getD undef=.pointer (some ⟨g,0,none⟩):=by simpa using hp
 simp[results,h,hp',asAddr,run_loadVar_row w g t ty cs fr d hg hu hd hi]
theorem jjj.set_new {B:Nat} {ts:List TypeId} {w w':World} (h:jjj B ts w w') {p:Addr} (hp:w.heap.size≤p.block) (u:Value):jjj B ts w (w'.setCell p u) :=
 ⟨h.os,h.tape,h.output,by simpa [World.setCell] using h.size,fun k hk hn=>(Below.heap_setCell w' p u k (by omega)).trans (h.block k hk hn)⟩
def jkv (D k:Nat) (s:List Bool × Nat):Nat:=if jwm s 24=24 then getV (jxs s 24) D else jwm s 24*2^k+getV (jxs s 24) k
def qjz (D k:Nat) (s:List Bool × Nat):List Bool × Nat:=if jwm s 24=24 then getS (jxs s 24) D else getS (jxs s 24) k
theorem riceQ_out {D k:Nat} {s:List Bool × Nat} (h:2^D - 1<jkv D k s):qjd D k s=none:=by
 have hp:0<2^D:=Nat.two_pow_pos D
 unfold jkv at h
 by_cases h24:jwm s 24=24
 ·rw[if_pos h24] at h
  have:=jws (jxs s 24) D
  omega
 ·rw[if_neg h24] at h
  by_cases hc:0<jwm s 24∧(2^D - 1)/jwm s 24<2^k
  ·exact riceV_C rfl rfl h24 hc
  ·exact riceV_D rfl rfl h24 hc h
theorem riceQ_in {D k:Nat} {s:List Bool × Nat} (h:¬ 2^D - 1<jkv D k s):qjd D k s=if (qjz D k s).2=0 then some (jkv D k s,qjz D k s) else none:=by
 unfold jkv at h
 unfold jkv qjz
 by_cases h24:jwm s 24=24
 ·rw[if_pos h24,if_pos h24]
  exact riceV_A rfl rfl h24
 ·rw[if_neg h24] at h
  rw[if_neg h24,if_neg h24]
  have hc:¬ (0<jwm s 24∧(2^D - 1)/jwm s 24<2^k):=fun ⟨h1,h2⟩=>by
   rw[Nat.div_lt_iff_lt_mul h1,Nat.mul_comm] at h2
   omega
  exact riceV_F rfl rfl h24 hc h
theorem riceQ_stuck {D k:Nat} {s:List Bool × Nat} (h:s.2≠0):jkv D k s=0∧qjz D k s=s:=by
 have h1:jwm s 24=0:=by unfold jwm;rw[if_neg h]
 have h2:jxs s 24=s:=by unfold jxs;rw[if_neg h]
 have h3:getV s k=0:=by unfold getV;rw[if_neg (fun q=>h q.1)]
 have h4:getS s k=s:=by unfold getS;rw[if_neg h]
 unfold jkv qjz
 rw[h1,if_neg (by decide),if_neg (by decide),h2,h3,h4]
 exact⟨by simp,rfl⟩
def takeAns (D A N pv:Nat):Value:=if 2^D - 1<pv then .tuple #[.int .u64 0,cntV 0 0] else .tuple #[.int .u64 (pv:Int),cntV (jqv A N pv) (jqq N)]
theorem riceTake_any {W A N K g:Nat} {s:List Bool × Nat} (hW:IsW W) (hc:jxg (8*W) A N) (hK:IsK A N K) (w:World) (hr:jjw w g s.1 s.2) :
  Calls prog 297 #[cntV A N,.pointer (some ⟨g,0,none⟩),.int .i64 (W:Int)] w fun e w'=>e=.returned (takeAns (8*W) A N (jkv (8*W) K s))∧jjw w' g (qjz (8*W) K s).1 (qjz (8*W) K s).2∧jjj g [170] w w':=by
 have hK33:=isK_few hc hK
 have C1:=jq (fun W'=>ricePar_any hc hK W')
 have HBH:=jq (fun (v:Nat) (hv:v<18446744073709551616) W'=>riceBeh_any (A:=A) (N:=N) (v:=v) (by obtain⟨g1,g2,g3,g4⟩:=hc;omega) hc.2.1 hv W')
 unfold cntV at C1 HBH ⊢
 have hMk:maskN (W:Int)=2^(8*W) - 1:=by unfold maskN;rw[←hW.right,if_pos rfl,Int.toNat_natCast,Nat.pow_mul]
 have cmk:=fun w'=>jyc (W:Int) w'
 rw[hMk] at cmk
 have hM64:2^(8*W) - 1<18446744073709551616:=by
  have h1:2^(8*W)≤2^64:=Nat.pow_le_pow_right (n:=2) (by decide) (D_le hW).2
  have h2:0<2^(8*W):=Nat.two_pow_pos _
  omega
 have hans:∀ pv,takeAns (8*W) A N pv=if 2^(8*W) - 1<pv then .tuple #[.int .u64 0,cntV 0 0] else .tuple #[.int .u64 (pv:Int),cntV (jqv A N pv) (jqq N)]:=fun pv=>rfl
 obtain⟨Mk,hMk2⟩:∃ Mk,Mk=2^(8*W) - 1:=⟨_,rfl⟩
 rw[←hMk2] at cmk hM64
 simp only[←hMk2] at hans
 have CMK:=jq cmk
 have HANS:=jq hans
 have hb0:=((Below.refl w.heap.size w).alloc jw (.cells #[.int .u64 (A:Int),.int .u64 (N:Int)] 323)).alloc (by simp) (.cells #[.int .u64 0,.int .u64 0] 323)
 have hk0:Blk ((w.alloc (.cells #[.int .u64 (A:Int),.int .u64 (N:Int)] 323)).alloc (.cells #[.int .u64 0,.int .u64 0] 323)) w.heap.size 323 [.int .u64 (A:Int),.int .u64 (N:Int)]:=(show Blk _ w.heap.size 323 [.int .u64 (A:Int),.int .u64 (N:Int)] from heap_alloc_new w _).alloc_ _
 have hk1:Blk ((w.alloc (.cells #[.int .u64 (A:Int),.int .u64 (N:Int)] 323)).alloc (.cells #[.int .u64 0,.int .u64 0] 323)) (w.heap.size+1) 323 [.int .u64 0,.int .u64 0]:=by
  have:=heap_alloc_new (w.alloc (.cells #[.int .u64 (A:Int),.int .u64 (N:Int)] 323)) (.cells #[.int .u64 0,.int .u64 0] 323)
  rwa [World.size_alloc] at this
 have HW0:=jq (hr.only (jjj.of_below (B:=w.heap.size) (ts:=[]) hb0) (by simp) (by simp))
 have HO0:=jq (jjj.of_below (B:=g) (ts:=[170]) hb0)
 have HK0:=jq hk0
 have HL0:=jq hk1
 have HWW:=jq hW
 have hW8:(W:Int)≤8:=by have:=hW.pos;omega
 have hW1:(1:Int)≤(W:Int):=by have:=hW.pos;omega
 have H8W:=jq (show (8:Int)*(W:Int)=((8*W:Nat):Int) by omega)
 have hql:=onesV_le s
 have hqv:jkv (8*W) K s=if jwm s 24=24 then getV (jxs s 24) (8*W) else jwm s 24*2^K+getV (jxs s 24) K:=rfl
 have hqs:qjz (8*W) K s=if jwm s 24=24 then getS (jxs s 24) (8*W) else getS (jxs s 24) K:=rfl
 obtain⟨QV,hQV⟩:∃ QV,QV=jkv (8*W) K s:=⟨_,rfl⟩
 obtain⟨QS,hQS⟩:∃ QS,QS=qjz (8*W) K s:=⟨_,rfl⟩
 have co:=fun W' h=>rOnes_st g 24 s W' h (by decide)
 obtain⟨q,hq⟩:∃ q,q=jwm s 24:=⟨_,rfl⟩
 obtain⟨s1,hs1⟩:∃ s1,s1=jxs s 24:=⟨_,rfl⟩
 rw[←hq,←hs1] at co hqv hqs
 rw[←hq] at hql
 rw[←hQV] at hqv ⊢
 rw[←hQS] at hqs ⊢
 have CO:=jq co
 have HQV:=jq hqv
 have HQS:=jq hqs
 have hqw:IntKind.u64.wrap (q:Int)=(q:Int):=by rw[IntKind.wrap_u64];omega
 clear hqv hqs hQV hQS co hq hs1 cmk hans hMk hMk2 hb0 hk0 hk1 hr hc hK hW
 go_enter func297,ntmps297
 go_wp2_with fail
 obtain⟨w0,hw0⟩:∃ w0,w0=(w.alloc (.cells #[.int .u64 (A:Int),.int .u64 (N:Int)] 323)).alloc (.cells #[.int .u64 0,.int .u64 0] 323):=⟨_,rfl⟩
 rw[←hw0] at HW0 HO0 HK0 HL0 ⊢
 clear hw0
 refine (C1.out _).mono ?_
 rintro _ w1 ⟨rfl,hb1⟩
 have HW1:=jq (HW0.out.only (jjj.of_below (B:=w0.heap.size) (ts:=[]) hb1) (by simp) (by simp))
 have HO1:=jq (HO0.out.trans (jjj.of_below hb1))
 have HK1:=jq (HK0.out.grow hb1)
 have HL1:=jq (HL0.out.grow hb1)
 clear hb1 HW0 HO0 HK0 HL0 C1
 go_wp2_with fail
 refine (CO.out w1 HW1.out).mono ?_
 rintro _ w2 ⟨rfl,hrd,ho⟩
 have HW2:=jq hrd
 have HO2:=jq (HO1.out.trans ho)
 have HK2:=jq (HK1.out.only ho (by decide))
 have HL2:=jq (HL1.out.only ho (by decide))
 clear hrd ho HW1 HO1 HK1 HL1 CO
 by_cases h24:q=24
 ·have hqlt:¬ (q:Int)<24:=by omega
  have hqv:=HQV.out
  have hqs:=HQS.out
  rw[if_pos h24] at hqv hqs
  have cg:=jzf g (8*W) s1 w2 HW2.out (D_le HWW.out).2
  rw[←hqv,←hqs,←H8W.out] at cg
  have hqb:=jws s1 (8*W)
  rw[←hqv] at hqb
  have hQ64:QV<18446744073709551616:=Nat.lt_of_lt_of_le hqb (Nat.pow_le_pow_right (n:=2) (by decide) (D_le HWW.out).2)
  have CG:=jq cg
  clear cg hqv hqs hqb h24
  go_wp2_with fail
  refine CG.out.mono ?_
  rintro _ w3 ⟨rfl,hrd,ho⟩
  have HW3:=jq hrd
  have HO3:=jq (HO2.out.trans ho)
  have HK3:=jq (HK2.out.only ho (by decide))
  have HL3:=jq (HL2.out.only ho (by decide))
  clear hrd ho HW2 HO2 HK2 HL2 CG
  go_wp2_with fail
  refine (CMK.out w3).mono ?_
  rintro _ w7 ⟨rfl,hw7⟩
  subst w7
  have hc0:=HK3.out.cell 0
  have hc1:=HK3.out.cell 1
  simp only[jy,jx] at hc0 hc1
  by_cases hbig:Mk<QV
  ·have hbi:(Mk:Int)<(QV:Int):=by omega
   have han:=HANS.out QV
   rw[if_pos hbig] at han
   unfold cntV at han
   have HAN:=jq han
   have hd0:=HL3.out.cell 0
   have hd1:=HL3.out.cell 1
   have hf0:=HL3.out.frozen 0
   have hf1:=HL3.out.frozen 1
   simp only[jy,jx] at hd0 hd1
   clear han HBH
   go_wp2
   (try simp only[Exit.inBlock,Exit.then])
   exact bodyPost_ret (jzn (u:=6) (p:=7) (cs:=#[.int .u64 0,.int .u64 0]) (t:=323) (fr:=(0,0)) results297 _ _ (w.heap.size+1) _ rfl ((HL3.out.set_ 0 _).set_ 1 _) underlying323 rfl qqh) rfl ⟨by rw[HAN.out];rfl,(HW3.out.only (B:=w.heap.size) (ts:=[323]) ((jjj.set_ HL3.out (by omega) _ (by simp)).trans (jjj.set_ (HL3.out.set_ 0 _) (by omega) _ (by simp))) (by decide) (by decide)),(HO3.out.set_new (p:=⟨w.heap.size+1,0,none⟩) (by simp) _).set_new (p:=⟨w.heap.size+1,1,none⟩) (by simp) _⟩
  ·have hbi:¬ (Mk:Int)<(QV:Int):=by omega
   have han:=HANS.out QV
   rw[if_neg hbig] at han
   unfold cntV at han
   have HAN:=jq han
   have CB:=jq (HBH.out QV (by omega) w3)
   clear han HBH
   go_wp2_with fail
   refine CB.out.mono ?_
   rintro _ w4 ⟨rfl,hb4⟩
   have HW4:=jq (HW3.out.only (jjj.of_below (B:=w3.heap.size) (ts:=[]) hb4) (by simp) (by simp))
   have HO4:=jq (HO3.out.trans (jjj.of_below hb4))
   have HL4:=jq (HL3.out.grow hb4)
   have hd0:=HL4.out.cell 0
   have hd1:=HL4.out.cell 1
   have hf0:=HL4.out.frozen 0
   have hf1:=HL4.out.frozen 1
   simp only[jy,jx] at hd0 hd1
   clear hb4 HW3 HO3 HK3 HL3 CB hc0 hc1
   go_wp2
   (try simp only[Exit.inBlock,Exit.then])
   exact bodyPost_ret (jzn (u:=6) (p:=7) (cs:=#[.int .u64 ((jqv A N QV:Nat):Int),.int .u64 ((jqq N:Nat):Int)]) (t:=323) (fr:=(0,0)) results297 _ _ (w.heap.size+1) _ rfl ((HL4.out.set_ 0 _).set_ 1 _) underlying323 rfl qqh) rfl ⟨by rw[HAN.out];rfl,(HW4.out.only (B:=w.heap.size) (ts:=[323]) ((jjj.set_ HL4.out (by omega) _ (by simp)).trans (jjj.set_ (HL4.out.set_ 0 _) (by omega) _ (by simp))) (by decide) (by decide)),(HO4.out.set_new (p:=⟨w.heap.size+1,0,none⟩) (by simp) _).set_new (p:=⟨w.heap.size+1,1,none⟩) (by simp) _⟩
 ·have hqlt:(q:Int)<24:=by omega
  have hqv:=HQV.out
  have hqs:=HQS.out
  rw[if_neg h24] at hqv hqs
  have cg:=fun W' h=>jzf g K s1 W' h (by omega)
  have hgb:=jws s1 K
  have hP33:2^K≤8589934592:=Nat.pow_le_pow_right (n:=2) (by decide) hK33
  have hqP:q*2^K≤24*8589934592:=Nat.mul_le_mul hql hP33
  obtain⟨gv,hgv⟩:∃ gv,gv=getV s1 K:=⟨_,rfl⟩
  rw[←hgv] at cg hqv hgb
  rw[←hqs] at cg
  obtain⟨qk,hqk⟩:∃ qk,qk=q*2^K:=⟨_,rfl⟩
  rw[←hqk] at hqv hqP
  have hshl:IntKind.u64.wrap ((q:Int)*2^K)=(qk:Int):=by
   have e:(q:Int)*2^K=(qk:Int):=by rw[hqk];simp
   rw[e,IntKind.wrap_u64];omega
  have hadd:IntKind.u64.wrap ((qk:Int)+(gv:Int))=(QV:Int):=by rw[IntKind.wrap_u64];omega
  have hQ64:QV<18446744073709551616:=by omega
  have hK0:(0:Int)≤(K:Int):=by omega
  have CG:=jq cg
  have hsz:=HO2.out.size
  clear cg hqv hqs hgb hgv hqk hqP h24 hP33
  go_wp2
  have HWD:=jq (show jjw w2.drew g s1.1 s1.2 from HW2.out.only (jjj.of_below (B:=w2.heap.size) (ts:=[]) (Below.refl _ _).drew) (by simp) (by simp))
  have HOD:=jq HO2.out.drew
  have HKD:=jq (show Blk w2.drew w.heap.size 323 [.int .u64 (A:Int),.int .u64 (N:Int)] from HK2.out.same rfl)
  have HLD:=jq (show Blk w2.drew (w.heap.size+1) 323 [.int .u64 0,.int .u64 0] from HL2.out.same rfl)
  clear HW2 HO2 HK2 HL2
  go_region_with (go_at_call 118;refine (CG.out _ HWD.out).mono ?_;rintro _ w3 ⟨rfl,hrd,ho⟩;have HW3:=jq hrd;have HO3:=jq (HOD.out.trans ho);have HK3:=jq (HKD.out.only ho (by decide));have HL3:=jq (HLD.out.only ho (by decide));clear hrd ho)
  clear HWD HOD HKD HLD CG hshl hadd
  go_wp2_with fail
  refine (CMK.out w3).mono ?_
  rintro _ w7 ⟨rfl,hw7⟩
  subst w7
  have hc0:=HK3.out.cell 0
  have hc1:=HK3.out.cell 1
  simp only[jy,jx] at hc0 hc1
  by_cases hbig:Mk<QV
  ·have hbi:(Mk:Int)<(QV:Int):=by omega
   have han:=HANS.out QV
   rw[if_pos hbig] at han
   unfold cntV at han
   have HAN:=jq han
   have hd0:=HL3.out.cell 0
   have hd1:=HL3.out.cell 1
   have hf0:=HL3.out.frozen 0
   have hf1:=HL3.out.frozen 1
   simp only[jy,jx] at hd0 hd1
   clear han HBH
   go_wp2
   (try simp only[Exit.inBlock,Exit.then])
   exact bodyPost_ret (jzn (u:=6) (p:=7) (cs:=#[.int .u64 0,.int .u64 0]) (t:=323) (fr:=(0,0)) results297 _ _ (w.heap.size+1) _ rfl ((HL3.out.set_ 0 _).set_ 1 _) underlying323 rfl qqh) rfl ⟨by rw[HAN.out];rfl,(HW3.out.only (B:=w.heap.size) (ts:=[323]) ((jjj.set_ HL3.out (by omega) _ (by simp)).trans (jjj.set_ (HL3.out.set_ 0 _) (by omega) _ (by simp))) (by decide) (by decide)),(HO3.out.set_new (p:=⟨w.heap.size+1,0,none⟩) (by simp) _).set_new (p:=⟨w.heap.size+1,1,none⟩) (by simp) _⟩
  ·have hbi:¬ (Mk:Int)<(QV:Int):=by omega
   have han:=HANS.out QV
   rw[if_neg hbig] at han
   unfold cntV at han
   have HAN:=jq han
   have CB:=jq (HBH.out QV (by omega) w3)
   clear han HBH
   go_wp2_with fail
   refine CB.out.mono ?_
   rintro _ w4 ⟨rfl,hb4⟩
   have HW4:=jq (HW3.out.only (jjj.of_below (B:=w3.heap.size) (ts:=[]) hb4) (by simp) (by simp))
   have HO4:=jq (HO3.out.trans (jjj.of_below hb4))
   have HL4:=jq (HL3.out.grow hb4)
   have hd0:=HL4.out.cell 0
   have hd1:=HL4.out.cell 1
   have hf0:=HL4.out.frozen 0
   have hf1:=HL4.out.frozen 1
   simp only[jy,jx] at hd0 hd1
   clear hb4 HW3 HO3 HK3 HL3 CB hc0 hc1
   go_wp2
   (try simp only[Exit.inBlock,Exit.then])
   exact bodyPost_ret (jzn (u:=6) (p:=7) (cs:=#[.int .u64 ((jqv A N QV:Nat):Int),.int .u64 ((jqq N:Nat):Int)]) (t:=323) (fr:=(0,0)) results297 _ _ (w.heap.size+1) _ rfl ((HL4.out.set_ 0 _).set_ 1 _) underlying323 rfl qqh) rfl ⟨by rw[HAN.out];rfl,(HW4.out.only (B:=w.heap.size) (ts:=[323]) ((jjj.set_ HL4.out (by omega) _ (by simp)).trans (jjj.set_ (HL4.out.set_ 0 _) (by omega) _ (by simp))) (by decide) (by decide)),(HO4.out.set_new (p:=⟨w.heap.size+1,0,none⟩) (by simp) _).set_new (p:=⟨w.heap.size+1,1,none⟩) (by simp) _⟩
theorem riceFirst_at (w:World):Calls prog 290 #[] w fun e w'=>e=.returned (.agg #[.int .u64 16,.int .u64 1])∧w'=w.alloc (.cells #[.int .u64 16,.int .u64 1] 323):=by
 go_enter func290,ntmps290
 go_wp2
 exact bodyPost_ret (v:=.agg #[.int .u64 16,.int .u64 1]) (qzn results290 rfl (heap_alloc_new w _)) rfl ⟨rfl,rfl⟩
theorem make_eq {P:Program} {t e:TypeId} {i:TypeInfo} {z:Value} (ht:P.underlying t=some (.slice e)) (hi:P.info? e=some i) (hz:i.zero=some z) (hzs:z.cells=#[z]) (hsize:i.size=1) (hby:i.bytes≤8) (n:Nat) (hn:n≤1000000) (w:World) :
  (Instr.makeSlice t (.int .i64 (n:Int)) (.int .i64 (n:Int))).run P w=.ok (.slice (some ⟨w.heap.size,0,none⟩) n n) (w.alloc (.cells (List.replicate n z).toArray e)):=by
 have hbn:((i.bytes*n:Nat):Int)≤281474976710656:=by have:=Nat.mul_le_mul_right n hby;omega
 rw[Int.natCast_mul] at hbn
 have hrun:=run_make (P:=P) w t e i z ht hi hz .i64 .i64 n n (by omega) (Int.le_refl _) hbn (by omega)
 simp only[Int.toNat_natCast,hsize,Nat.mul_one,hzs] at hrun
 have hcells:madeCells #[z] n=(List.replicate n z).toArray:=by
  apply Array.ext';rw[toList_madeCells_one]
 rw[hcells] at hrun
 exact hrun
def padW (X:List Nat) (M:Nat):List Nat:=X++List.replicate (M - X.length) 0
theorem padW_set {X:List Nat} {M:Nat} (h:X.length<M) (v:Nat):(wvs (padW X M)).set X.length (.int .u64 (v:Int))=wvs (padW (X++[v]) M):=by
 obtain⟨k,hk⟩:∃ k,M - X.length=k+1:=⟨M - X.length - 1,by omega⟩
 have e:M - (X.length+1)=k:=by omega
 have e2:(wvs (padW X M)).set X.length (.int .u64 (v:Int))=wvs ((padW X M).set X.length v):=by simp[wvs,List.map_set]
 rw[e2]
 unfold padW
 rw[hk,List.length_append,List.length_singleton,e,List.set_append_right _ _ jw,Nat.sub_self,List.replicate_succ,List.set_cons_zero,List.append_assoc]
 rfl
def WdsOk (D M:Nat) (o:Option (List Nat × (List Bool × Nat))) (X:List Nat) (A N:Nat) (s:List Bool × Nat):Prop :=
 (s.2=0∧∃ o2,qjw D (M - X.length) A N s o2∧aheadO X o2=o)∨(s.2≠0∧o=none)
theorem WdsOk.bad {D M A N K:Nat} {o:Option (List Nat × (List Bool × Nat))} {X:List Nat} {s:List Bool × Nat} (h:WdsOk D M o X A N s) (hlt:X.length<M) (hK:IsK A N K) (hb:2^D - 1<jkv D K s):o=none:=by
 rcases h with ⟨h1,o2,h2,h3⟩ | ⟨h1,h2⟩
 ·obtain⟨k,hk⟩:∃ k,M - X.length=k+1:=⟨M - X.length - 1,by omega⟩
  rw[hk] at h2
  rw[←h3,(h2.next hK).1 (riceQ_out hb)]
  rfl
 ·exact h2
theorem WdsOk.next {D M A N K:Nat} {o:Option (List Nat × (List Bool × Nat))} {X:List Nat} {s:List Bool × Nat} (h:WdsOk D M o X A N s) (hlt:X.length<M) (hK:IsK A N K) (hb:¬ 2^D - 1<jkv D K s) :
  WdsOk D M o (X++[jkv D K s]) (jqv A N (jkv D K s)) (jqq N) (qjz D K s):=by
 rcases h with ⟨h1,o2,h2,h3⟩ | ⟨h1,h2⟩
 ·obtain⟨k,hk⟩:∃ k,M - X.length=k+1:=⟨M - X.length - 1,by omega⟩
  rw[hk] at h2
  have hq:=riceQ_in hb
  by_cases h0:(qjz D K s).2=0
  ·rw[if_pos h0] at hq
   obtain⟨o3,h4,h5⟩:=(h2.next hK).2 _ _ hq
   refine .inl ⟨h0,o3,?_,by rw[←h3,h5,aheadO_cons]⟩
   rw[List.length_append,List.length_singleton,show M - (X.length+1)=k by omega]
   exact h4
  ·rw[if_neg h0] at hq
   refine .inr ⟨h0,?_⟩
   rw[←h3,(h2.next hK).1 hq]
   rfl
 ·rw[(riceQ_stuck h1).2]
  exact .inr ⟨h1,h2⟩
theorem behindN_pos {N:Nat}:1≤jqq N:=by unfold jqq;split <;> omega
def RWRel (w:World) (D M g a b:Nat) (o:Option (List Nat × (List Bool × Nat))) (i:Value) (wr:World):Prop :=
 ∃ (X:List Nat) (A N:Nat) (s:List Bool × Nat),X.length≤M∧i=.int .i64 (X.length:Int)∧jxg D A N∧(∀ x∈X,x<2^D)∧jjw wr g s.1 s.2∧Blk wr a 64 (wvs (padW X M))∧Blk wr b 323 [.int .u64 (A:Int),.int .u64 (N:Int)]∧jjj g [170] w wr∧WdsOk D M o X A N s
def WordsSays (w:World) (D M g:Nat) (o:Option (List Nat × (List Bool × Nat))) (e:Ending) (w':World):Prop :=
 jjj g [170] w w'∧((e=.returned (.tuple #[.slice none 0 0,.bool false])∧o=none)∨∃ a X s,e=.returned (.tuple #[.slice (some ⟨a,0,none⟩) M M,.bool true])∧w.heap.size≤a∧Blk w' a 64 (wvs X)∧X.length=M∧(∀ x∈X,x<2^D)∧jjw w' g s.1 s.2∧((s.2=0∧o=some (X,s))∨(s.2≠0∧o=none)))
theorem jdf {w:World} {o1 o2 o3:Obj}:(((w.alloc o1).alloc o2).alloc o3).drew.heap[w.heap.size]?=some o1∧(((w.alloc o1).alloc o2).alloc o3).drew.heap[w.heap.size+1]?=some o2∧(((w.alloc o1).alloc o2).alloc o3).drew.heap[w.heap.size+1+1]?=some o3∧Below w.heap.size w (((w.alloc o1).alloc o2).alloc o3).drew:=by
 have h1:=heap_alloc_new w o1
 have h2:=heap_alloc_new (w.alloc o1) o2
 have h3:=heap_alloc_new ((w.alloc o1).alloc o2) o3
 simp only[World.size_alloc] at h2 h3
 refine⟨?_,?_,h3,((((Below.refl _ _).alloc jw _).alloc (by simp) _).alloc (by simp;omega) _).drew⟩
 ·exact (Below.heap_alloc _ _ _ (by simp;omega)).trans ((Below.heap_alloc _ _ _ (by simp)).trans h1)
 ·exact (Below.heap_alloc _ _ _ (by simp)).trans h2
theorem riceWords_any {W M g:Nat} {s0:List Bool × Nat} {o:Option (List Nat × (List Bool × Nat))} (hW:IsW W) (w:World) (hM:M≤100000) (hr:jjw w g s0.1 s0.2) (hs0:s0.2=0) (ho:qjw (8*W) M 16 1 s0 o) :
  Calls prog 292 #[.pointer (some ⟨g,0,none⟩),.int .i64 (W:Int),.int .i64 (M:Int)] w (WordsSays w (8*W) M g o):=by
 have C0:=jq (fun W'=>riceFirst_at W')
 obtain⟨j0,hj0,hy0,hy1,hy2⟩:=info_parts jyy
 obtain⟨Z,hZ⟩:∃ Z,Z=(List.replicate M (Value.int .u64 0)).toArray:=⟨_,rfl⟩
 have hmk:=fun W'=>make_eq (P:=prog) (t:=63) (e:=64) underlying63 hj0 hy0 rfl hy1 (by rw[hy2];decide) M (by omega) W'
 rw[←hZ] at hmk
 have HZ:=jq (show Z=(wvs (padW [] M)).toArray by rw[hZ];simp[wvs,padW])
 have HR:=jq hr
 have HO:=jq (show WdsOk (8*W) M o [] 16 1 s0 from .inl ⟨hs0,o,ho,by cases o <;> simp[aheadO]⟩)
 have HWW:=jq hW
 clear hZ hj0 hy0 hy1 hy2 hr ho hs0 hW
 have hM0:(0:Int)≤(M:Int):=by omega
 have hMi:(M:Int)≤100000:=by omega
 go_enter func292,ntmps292
 go_wp2
 rename_i K1 hK1
 have HEND:∀ (a b:Nat) (wE:World),a≠b→w.heap.size≤a→w.heap.size≤b→Blk wE a 64 (wvs (padW [] M))→Blk wE b 323 [.int .u64 16,.int .u64 1]→Below w.heap.size w wE →
   K1 { tmps:=#[.pointer (some ⟨g,0,none⟩),.int .i64 (W:Int),.int .i64 (M:Int),undef,undef,undef,.slice none 0 0,.bool false,.slice (some ⟨a,0,none⟩) M M,.pointer (some ⟨b,0,none⟩),undef,.int .i64 (M:Int),.slice (some ⟨a,0,none⟩) M M,.agg #[.int .u64 16,.int .u64 1],undef,undef,undef,undef,undef,undef,undef,undef,undef,undef,undef,undef,undef,undef,undef,undef,undef,undef,undef,undef],defers:=[] } wE:=by
  intro a b wE hab hwa hwb hba hbb hbel
  have HREL:=jq (show RWRel w (8*W) M g a b o (.int .i64 ((0:Nat):Int)) wE from ⟨[],16,1,s0,Nat.zero_le _,rfl,qjh (D_le HWW.out).1,by simp,HR.out.only (jjj.of_below (B:=w.heap.size) (ts:=[]) hbel) (by simp) (by simp),hba,hbb,jjj.of_below hbel,HO.out⟩)
  clear hmk C0 HZ HR HO hba hbb hbel
  refine hK1 _ _ ?_
  clear hK1
  go_wp2
  go_loopw [16] (RWRel w (8*W) M g a b o) (fun i _=>M - (intOf i).toNat)
  case atStart=>exact HREL.out
  case round =>
   clear HREL
   obtain⟨X,A0,N0,s,hX,rfl,hcok,hxs,hrd,hba,hbb,hot,hok⟩:=hrel
   have HBA:=jq hba
   have HBB:=jq hbb
   have HOT:=jq hot
   have HXS:=jq hxs
   by_cases hlt:X.length<M
   ·obtain⟨K,hKD,hK⟩:=isK_some hcok.2.2.1
    have CT:=jq (riceTake_any HWW.out hcok hK wr hrd)
    have HBAD:=jq (hok.bad hlt hK)
    have HNEXT:=jq (hok.next hlt hK)
    have HCK:=jq hcok
    have hans:∀ pv,takeAns (8*W) A0 N0 pv=if 2^(8*W) - 1<pv then .tuple #[.int .u64 0,cntV 0 0] else .tuple #[.int .u64 (pv:Int),cntV (jqv A0 N0 pv) (jqq N0)]:=fun pv=>rfl
    have HD0:=jq (Nat.two_pow_pos (8*W))
    obtain⟨QV,hQV⟩:∃ QV,QV=jkv (8*W) K s:=⟨_,rfl⟩
    obtain⟨QS,hQS⟩:∃ QS,QS=qjz (8*W) K s:=⟨_,rfl⟩
    rw[←hQV,←hQS] at CT HNEXT
    rw[←hQV] at HBAD
    have hla:wr.cell? ⟨a,X.length,none⟩=some (.int .u64 0):=by
     rw[hba.cell X.length];simp[wvs,padW,show 0<M - X.length by omega]
    have hc0:=hbb.cell 0
    have hc1:=hbb.cell 1
    simp only[jy,jx] at hc0 hc1
    have hki:(X.length:Int)<(M:Int):=by omega
    have HLT:=jq hlt
    by_cases hbig:2^(8*W) - 1<QV
    ·have hon:=HBAD.out hbig
     rw[hans,if_pos hbig] at CT
     unfold cntV at CT
     clear hX hcok hxs hrd hba hbb hot hok hQV hQS hKD hK hbig hans HBAD HNEXT
     go_wp2_with fail
     refine CT.out.mono ?_
     rintro _ w5 ⟨rfl,hrd5,ho5⟩
     have hba5:=HBA.out.only ho5 (by decide)
     have hbb5:=HBB.out.only ho5 (by decide)
     have hfa:=hba5.frozen X.length
     have hda:w5.cell? ⟨a,X.length,none⟩=some (.int .u64 0):=by
      rw[hba5.cell X.length];have:=HLT.out;simp[wvs,padW,show 0<M - X.length by omega]
     have hd0:=hbb5.cell 0
     have hd1:=hbb5.cell 1
     have hf0:=hbb5.frozen 0
     have hf1:=hbb5.frozen 1
     simp only[jy,jx] at hd0 hd1
     have HOT5:=jq (((HOT.out.trans ho5).set_new (p:=⟨a,X.length,none⟩) hwa (.int .u64 0)))
     have HOT6:=jq ((HOT5.out.set_new (p:=⟨b,0,none⟩) hwb (.int .u64 0)).set_new (p:=⟨b,1,none⟩) hwb (.int .u64 0))
     clear hrd5 ho5 hba5 hbb5 CT hc0 hc1 hla
     go_wp2
     go_ret2
     exact⟨HOT6.out,.inl ⟨rfl,hon⟩⟩
    ·have hQD:QV<2^(8*W):=by have:=HD0.out;omega
     have HNX:=jq (HNEXT.out hbig)
     have HCB:=jq (jdc HCK.out hQD)
     rw[hans,if_neg hbig] at CT
     unfold cntV at CT
     have HQD:=jq hQD
     have hbn:((jqq N0:Nat):Int)≠0:=by have:=behindN_pos (N:=N0);omega
     obtain⟨A2,hA2⟩:∃ A2,A2=jqv A0 N0 QV:=⟨_,rfl⟩
     obtain⟨N2,hN2⟩:∃ N2,N2=jqq N0:=⟨_,rfl⟩
     rw[←hN2] at hbn
     rw[←hA2,←hN2] at CT HNX HCB
     clear hX hcok hxs hrd hba hbb hot hok hQV hQS hKD hK hbig hans HBAD HNEXT hQD HCK hA2 hN2
     go_wp2_with fail
     refine CT.out.mono ?_
     rintro _ w5 ⟨rfl,hrd5,ho5⟩
     have hba5:=HBA.out.only ho5 (by decide)
     have hbb5:=HBB.out.only ho5 (by decide)
     have hfa:=hba5.frozen X.length
     have hda:w5.cell? ⟨a,X.length,none⟩=some (.int .u64 0):=by
      rw[hba5.cell X.length];have:=HLT.out;simp[wvs,padW,show 0<M - X.length by omega]
     have hd0:=hbb5.cell 0
     have hd1:=hbb5.cell 1
     have hf0:=hbb5.frozen 0
     have hf1:=hbb5.frozen 1
     simp only[jy,jx] at hd0 hd1
     have HOT5:=jq (((HOT.out.trans ho5).set_new (p:=⟨a,X.length,none⟩) hwa (.int .u64 (QV:Int))))
     have HOT6:=jq ((HOT5.out.set_new (p:=⟨b,0,none⟩) hwb (.int .u64 (A2:Int))).set_new (p:=⟨b,1,none⟩) hwb (.int .u64 (N2:Int)))
     have hsa:=hba5.set_ X.length (.int .u64 (QV:Int))
     rw[padW_set HLT.out] at hsa
     have HBA6:=jq ((hsa.setOther ⟨b,0,none⟩ (.int .u64 (A2:Int)) (by simpa using hab)).setOther ⟨b,1,none⟩ (.int .u64 (N2:Int)) (by simpa using hab))
     have hb2:=(hbb5.setOther ⟨a,X.length,none⟩ (.int .u64 (QV:Int)) (by simpa using Ne.symm hab))
     have HBB6:=jq ((hb2.set_ 0 (.int .u64 (A2:Int))).set_ 1 (.int .u64 (N2:Int)))
     have hrd6:=hrd5.only (B:=0) (ts:=[64]) (jjj.set_ (i:=X.length) hba5 (Nat.zero_le _) (.int .u64 (QV:Int)) (by simp)) (by decide) (by decide)
     have hrd7:=(hrd6.only (B:=0) (ts:=[323]) (jjj.set_ (i:=0) hb2 (Nat.zero_le _) (.int .u64 (A2:Int)) (by simp)) (by decide) (by decide)).only (B:=0) (ts:=[323]) (jjj.set_ (i:=1) (hb2.set_ 0 _) (Nat.zero_le _) (.int .u64 (N2:Int)) (by simp)) (by decide) (by decide)
     have HRD7:=jq hrd7
     clear hrd5 hrd6 hrd7 ho5 hba5 hbb5 CT hc0 hc1 hla hsa hb2
     go_wp2
     go_roundw
     case rel=>exact⟨X++[QV],A2,N2,QS,by rw[List.length_append,List.length_singleton];have:=HLT.out;omega,by rw[List.length_append,List.length_singleton];go_num,HCB.out,lt_snoc' HXS.out HQD.out,HRD7.out,HBA6.out,HBB6.out,HOT6.out,HNX.out⟩
     case measure=>have:=HLT.out;simp[intOf];omega
   ·have hXM:X.length=M:=by omega
    have hpad:padW X M=X:=by unfold padW;rw[hXM,Nat.sub_self];simp
    rw[hpad] at HBA
    have HE:=jq (show WordsSays w (8*W) M g o (.returned (.tuple #[.slice (some ⟨a,0,none⟩) M M,.bool true])) wr from ⟨HOT.out,.inr ⟨a,X,s,rfl,hwa,HBA.out,hXM,HXS.out,hrd,by
     rcases hok with ⟨h1,o2,h2,h3⟩ | h
     ·left
      refine⟨h1,?_⟩
      rw[hXM,Nat.sub_self] at h2
      have:o2=some ([],s):=by cases h2;rfl
      rw[←h3,this]
      simp[aheadO]
     ·exact .inr h⟩⟩)
    clear hX hcok hxs hrd hba hbb hot hok hpad HBA HBB HOT HXS
    go_wp2
    go_ret2
    exact HE.out
 go_region_with (go_at_call 290;refine (C0.out _).mono ?_;rintro _ w3 ⟨rfl,rfl⟩)
 all_goals clear C0 hmk HR HO
 ·obtain⟨t1,t2,t3,t4⟩:=jdf (w:=w) (o1:=.cells Z 64) (o2:=.cells #[.int .u64 16,.int .u64 1] 323) (o3:=.cells #[.int .u64 16,.int .u64 1] 323)
  exact HEND w.heap.size (w.heap.size+1+1) _ (by omega) (by omega) (by omega) (by unfold Blk;rw[←HZ.out];exact t1) t3 t4
 ·obtain⟨t1,t2,t3,t4⟩:=jdf (w:=w) (o1:=.cells Z 64) (o2:=.cells #[.int .u64 16,.int .u64 1] 323) (o3:=.cells #[.int .u64 16,.int .u64 1] 323)
  exact HEND w.heap.size (w.heap.size+1) _ (by omega) (by omega) (by omega) (by unfold Blk;rw[←HZ.out];exact t1) t2 t4
 ·obtain⟨t1,t2,t3,t4⟩:=jdf (w:=w) (o1:=.cells #[.int .u64 16,.int .u64 1] 323) (o2:=.cells Z 64) (o3:=.cells #[.int .u64 16,.int .u64 1] 323)
  exact HEND (w.heap.size+1) (w.heap.size+1+1) _ (by omega) (by omega) (by omega) (by unfold Blk;rw[←HZ.out];exact t2) t3 t4
 ·obtain⟨t1,t2,t3,t4⟩:=jdf (w:=w) (o1:=.cells #[.int .u64 16,.int .u64 1] 323) (o2:=.cells #[.int .u64 16,.int .u64 1] 323) (o3:=.cells Z 64)
  exact HEND (w.heap.size+1+1) (w.heap.size+1) _ (by omega) (by omega) (by omega) (by unfold Blk;rw[←HZ.out];exact t3) t2 t4
 ·obtain⟨t1,t2,t3,t4⟩:=jdf (w:=w) (o1:=.cells #[.int .u64 16,.int .u64 1] 323) (o2:=.cells Z 64) (o3:=.cells #[.int .u64 16,.int .u64 1] 323)
  exact HEND (w.heap.size+1) w.heap.size _ (by omega) (by omega) (by omega) (by unfold Blk;rw[←HZ.out];exact t2) t1 t4
 ·obtain⟨t1,t2,t3,t4⟩:=jdf (w:=w) (o1:=.cells #[.int .u64 16,.int .u64 1] 323) (o2:=.cells #[.int .u64 16,.int .u64 1] 323) (o3:=.cells Z 64)
  exact HEND (w.heap.size+1+1) w.heap.size _ (by omega) (by omega) (by omega) (by unfold Blk;rw[←HZ.out];exact t3) t1 t4
theorem restF_stuck:∀ (m:Nat) (s:List Bool × Nat),s.2≠0→(jwb m s).2=s
 | 0,_,_=>rfl
 | m+1,s,h=>by
  have h4:getS s 8=s:=by unfold getS;rw[if_neg h]
  rw[jwb,h4]
  exact restF_stuck m s h
theorem restF_few:∀ (m:Nat) (s:List Bool × Nat),(jwb m s).2.2=0→s.2=0∧8*m≤s.1.length
 | 0,s,h=>⟨h,by omega⟩
 | m+1,s,h=>by
  rw[jwb] at h
  obtain⟨h1,h2⟩:=restF_few m _ h
  obtain⟨h3,h4⟩:=getS_err h1
  have h5:(getS s 8).1.length+8=s.1.length:=by
   unfold getS at h1 ⊢
   rw[if_pos h3] at h1 ⊢
   by_cases h8:8≤s.1.length
   ·rw[if_pos h8];simp;omega
   ·rw[if_neg h8] at h1;cases h1
  exact⟨h3,by omega⟩
def RPRel (w:World) (g n a:Nat) (A:Option Addr) (c:Nat) (bs R:List UInt8) (SE:List Bool × Nat) (i:Value) (wr:World):Prop :=
 ∃ (j:Nat) (rs:List UInt8) (s:List Bool × Nat),j≤n∧i=.int .i64 (j:Int)∧rs.length=j∧rs++(jwb (n - j) s).1=R∧(jwb (n - j) s).2=SE∧Blk wr a 5 (bvs (rs++List.replicate (n - j) 0))∧RdrA wr g A c bs s.1 s.2∧jjj g [170] w wr
theorem info_u8n:(prog.info? 5).map (fun i=>(i.zero,i.size,i.bytes))=some (some (.int .u8 0),1,1):=by kernel_rfl
theorem ricePlain_any {g n:Nat} {s0:List Bool × Nat} (w:World) (hn:n≤8) (hr:jjw w g s0.1 s0.2) (hg:g<w.heap.size) :
  Calls prog 293 #[.pointer (some ⟨g,0,none⟩),.int .i64 (n:Int)] w fun e w'=>∃ a,e=.returned (.slice (some ⟨a,0,none⟩) n n)∧w.heap.size≤a∧Blk w' a 5 (bvs (jwb n s0).1)∧jjw w' g (jwb n s0).2.1 (jwb n s0).2.2∧jjj g [170] w w':=by
 obtain⟨j0,hj0,hy0,hy1,hy2⟩:=info_parts info_u8n
 obtain⟨Z,hZ⟩:∃ Z,Z=(List.replicate n (Value.int .u8 0)).toArray:=⟨_,rfl⟩
 have hmk:=fun W'=>make_eq (P:=prog) (t:=22) (e:=5) underlying22 hj0 hy0 rfl hy1 (by rw[hy2];decide) n (by omega) W'
 rw[←hZ] at hmk
 obtain⟨A,c,bs,hra⟩:=hr.at_
 have hrow:bs=[]∨∃ b off,A=some ⟨b,off,none⟩∧b≠w.heap.size:=hra.row.imp id fun ⟨b,off,e,h⟩=>⟨b,off,e,by omega⟩
 have HROW:=jq hrow
 have hb1:Below w.heap.size w (w.alloc (.cells Z 5)):=(Below.refl _ _).alloc jw _
 have hk1:Blk (w.alloc (.cells Z 5)) w.heap.size 5 (bvs ([]++List.replicate (n - 0) 0)):=by
  have:=heap_alloc_new w (.cells Z 5)
  rw[hZ] at this ⊢
  simpa [Blk,bvs] using this
 have HREL:=jq (show RPRel w g n w.heap.size A c bs (jwb n s0).1 (jwb n s0).2 (.int .i64 ((0:Nat):Int)) _ from ⟨0,[],s0,Nat.zero_le _,rfl,rfl,rfl,rfl,hk1,hra.only (jjj.of_below (B:=w.heap.size) (ts:=[]) hb1) (by simp) (by simp),jjj.of_below hb1⟩)
 have hgn:g≠w.heap.size:=by omega
 have hn0:(0:Int)≤(n:Int):=by omega
 have hn8:(n:Int)≤8:=by omega
 obtain⟨R,hR⟩:∃ R,R=(jwb n s0).1:=⟨_,rfl⟩
 obtain⟨SE,hSE⟩:∃ SE,SE=(jwb n s0).2:=⟨_,rfl⟩
 rw[←hR,←hSE] at HREL ⊢
 clear hZ hra hrow hb1 hk1 hr hj0 hy0 hy1 hy2 hR hSE
 go_enter func293,ntmps293
 go_wp2
 clear hmk
 go_loopw [11] (RPRel w g n w.heap.size A c bs R SE) (fun i _=>n - (intOf i).toNat)
 case atStart=>exact HREL.out
 case round =>
  clear HREL
  obtain⟨j,rs,s,hj,rfl,hrs,hR,hS,hbl,hrd,hot⟩:=hrel
  have HBL:=jq hbl
  have HOT:=jq hot
  by_cases hlt:j<n
  ·obtain⟨t,ht⟩:∃ t,n - j=t+1:=⟨n - j - 1,by omega⟩
   rw[ht] at hR hS
   have cg:=aGet_st g 8 s wr hrd (by decide)
   have hgv:=jws s 8
   simp only[jwb] at hR hS
   obtain⟨gv,hgv2⟩:∃ gv,gv=getV s 8:=⟨_,rfl⟩
   obtain⟨s2,hs2⟩:∃ s2,s2=getS s 8:=⟨_,rfl⟩
   rw[←hgv2] at cg hgv hR
   rw[←hs2] at cg hR hS
   have CG:=jq cg
   have HH:=jq (And.intro hrs (And.intro hR (And.intro hS (show j<n∧n - (j+1)=t from ⟨hlt,by omega⟩))))
   have hji:(j:Int)<(n:Int):=by omega
   have hg256:gv<256:=by simpa using hgv
   have hgw:IntKind.u8.wrap (gv:Int)=(gv:Int):=by rw[IntKind.wrap_u8];omega
   have h8:(UInt8.ofNat gv).toNat=gv:=by simp[UInt8.toNat_ofNat'];omega
   have HT:=jq ht
   clear hrs hR hS hbl hrd hot cg hgv hgv2 hs2 hj hlt ht
   go_wp2_with fail
   refine CG.out.mono ?_
   rintro _ w5 ⟨rfl,hrd5,ho5⟩
   obtain⟨w6,hw6⟩:∃ w6,w6=w5.setCell ⟨w.heap.size,j,none⟩ (.int .u8 (gv:Int)):=⟨_,rfl⟩
   have hbl5:Blk w5 w.heap.size 5 (bvs (rs++List.replicate (n - j) 0)):=HBL.out.only ho5 (by decide)
   have hda:w5.cell? ⟨w.heap.size,j,none⟩=some (.int .u8 0):=by
    rw[hbl5.cell j,HT.out];have:=HH.out.1;simp[bvs,←this]
   have hfa:=hbl5.frozen j
   have hset:=hbl5.set_ j (.int .u8 (gv:Int))
   have he:(bvs (rs++List.replicate (n - j) 0)).set j (.int .u8 (gv:Int))=bvs ((rs++[UInt8.ofNat gv])++List.replicate (n - (j+1)) 0):=by
    have h1:=HH.out.1
    rw[HT.out,HH.out.2.2.2.2,List.replicate_succ,←h1,jqt,List.set_append_right _ _ (by simp[bvs]),show rs.length - (bvs rs).length=0 by simp[bvs],List.append_assoc,jqt,jqt]
    simp[bvs,h8]
   rw[he] at hset
   have HSET:=jq hset
   have HRD:=jq (hrd5.setOther (r:=w.heap.size) (i:=j) HROW.out hgn (.int .u8 (gv:Int)))
   have HOT5:=jq ((HOT.out.trans ho5).set_new (p:=⟨w.heap.size,j,none⟩) jw (.int .u8 (gv:Int)))
   clear hrd5 ho5 hbl5 hset he hw6 CG HBL HOT
   go_wp2
   go_roundw
   case rel=>exact⟨j+1,rs++[UInt8.ofNat gv],s2,by have:=HH.out.2.2.2.1;omega,by go_num,by rw[List.length_append,List.length_singleton,HH.out.1],by rw[HH.out.2.2.2.2,List.append_assoc];exact HH.out.2.1,by rw[HH.out.2.2.2.2];exact HH.out.2.2.1,HSET.out,HRD.out,HOT5.out⟩
   case measure=>have:=HH.out.2.2.2.1;simp[intOf];omega
  ·obtain rfl:j=n:=by omega
   rw[Nat.sub_self] at hR hS hbl
   simp only[jwb,List.append_nil,List.replicate_zero] at hR hS hbl
   subst hR hS
   have HE:=jq (And.intro hbl (And.intro hrd.is hot))
   clear hbl hrd hot HBL HOT
   go_wp2
   go_ret
   exact⟨_,rfl,Nat.le_refl _,HE.out.1,HE.out.2.1,HE.out.2.2⟩
theorem riceOut_few {W n:Nat} {L:List Bool} {o:Option (List Nat × (List Bool × Nat))} (ho:qjw (8*W) (n/W) 16 1 (L,0) o) (h:L.length<n/W+n%W*8):jmh W n o=([],16):=by
 cases o with
 | none=>rfl
 | some p =>
  obtain⟨X,s⟩:=p
  obtain⟨h1,h2,-,-⟩:=ho.len X s rfl
  unfold jmh
  simp only
  rw[if_neg]
  intro h3
  have h4:(jwb (n%W) s).2.2=0:=by
   unfold jwn at h3
   by_cases h5:(jwb (n%W) s).2.2=0
   ·exact h5
   ·rw[if_pos h5] at h3;exact h3
  obtain⟨-,h6⟩:=restF_few _ _ h4
  simp only at h2
  omega
theorem doneE_stuck {s:List Bool × Nat} (h:s.2≠0):jwn s≠0:=by unfold jwn;rw[if_pos h];exact h
theorem riceDec_any {W n:Nat} (hW:IsW W) (hn:n≤67108864) (l:List UInt8) (v:Value) (w:World) (hv:jjz l v w) (hl:l.length≤10000) {o:Option (List Nat × (List Bool × Nat))} (ho:qjw (8*W) (n/W) 16 1 (jjm l,0) o) :
  Calls prog 288 #[v,.int .i64 (W:Int),.int .i64 (n:Int)] w (RDSays w (jmh W n o)):=by
 obtain⟨A,c,rfl,hc,hr⟩:=hv
 have hp:=hW.pos
 have C1:=jq (jjx (W:Int) true hW.right)
 have C2:=jq (read_all A l.length c l w hr rfl (by omega))
 have hLl:(jjm l).length≤80000:=by rw[jjs];omega
 have hfew:(jjm l).length<n/W+n%W*8→jmh W n o=([],16):=riceOut_few ho
 have hout:∀ X s,o=some (X,s)→jmh W n o=if jwn (jwb (n%W) s).2=0 then (layW W X++(jwb (n%W) s).1,0) else ([],16):=fun X s e=>by rw[e];rfl
 have hnone:o=none→jmh W n o=([],16):=fun e=>by rw[e];rfl
 obtain⟨L,hLe⟩:∃ L,L=jjm l:=⟨_,rfl⟩
 rw[←hLe] at C2 ho hLl hfew
 obtain⟨Q,hQ⟩:∃ Q,Q=jmh W n o:=⟨_,rfl⟩
 rw[←hQ] at hfew hnone ⊢
 simp only[←hQ] at hout
 obtain⟨M,hM⟩:∃ M,M=n/W:=⟨_,rfl⟩
 obtain⟨m,hm⟩:∃ m,m=n%W:=⟨_,rfl⟩
 rw[←hM] at ho
 rw[←hM,←hm] at hfew
 simp only[←hm] at hout
 have hMi:(n:Int)/(W:Int)=(M:Int):=by rw[hM];exact (Int.natCast_ediv _ _).symm
 have hMt:(n:Int).tdiv (W:Int)=(M:Int):=by rw[Int.tdiv_eq_ediv_of_nonneg (by omega)];exact hMi
 have hmi:(n:Int)%(W:Int)=(m:Int):=by rw[hm];exact (Int.natCast_emod _ _).symm
 have hmt:(n:Int).tmod (W:Int)=(m:Int):=by rw[Int.tmod_eq_emod_of_nonneg (by omega)];exact hmi
 have hMn:M≤67108864:=by rw[hM];exact Nat.le_trans (Nat.div_le_self _ _) hn
 have hmW:m<W:=by rw[hm];exact Nat.mod_lt _ (by omega)
 have HO:=jq ho
 have HFEW:=jq hfew
 have HOUT:=jq hout
 have HNONE:=jq hnone
 have HWW:=jq hW
 have HL:=jq hLl
 have HMM:=jq (And.intro hMn hmW)
 have hni:(n:Int)≤67108864:=by omega
 have hn0:(0:Int)≤(n:Int):=by omega
 have hW8:(W:Int)≤8:=by omega
 have hW1:(1:Int)≤(W:Int):=by omega
 have hW0n:¬ W=0:=by omega
 have hW0:¬ (W:Int)=0:=by omega
 have hM8:(M:Int)≤67108864:=by omega
 have hm8:(m:Int)<8:=by omega
 have hMw:IntKind.i64.wrap (M:Int)=(M:Int):=by rw[IntKind.wrap_i64];omega
 obtain⟨T,hT⟩:∃ T,T=m*8:=⟨_,rfl⟩
 have hT1:IntKind.i64.wrap ((m:Int)*8)=(T:Int):=by rw[IntKind.wrap_i64];omega
 obtain⟨U,hU⟩:∃ U,U=M+T:=⟨_,rfl⟩
 have hT2:IntKind.i64.wrap ((M:Int)+(T:Int))=(U:Int):=by rw[IntKind.wrap_i64];omega
 have HU:=jq (show U=M+m*8 by omega)
 clear hr hLe hW hfew hout hnone hM hm hT hU hLl ho hQ hn hl hc hp hMn hmW
 go_enter func288,ntmps288
 go_wp2_with fail
 refine (C1.out _).mono ?_
 rintro _ w0 ⟨rfl,hw0⟩
 subst w0
 go_wp2_with fail
 refine C2.out.mono ?_
 rintro _ w1 ⟨g,rfl,hg,hrd,hb1⟩
 have hgl:g<w1.heap.size:=by obtain⟨_,_,_,_,hk,-⟩:=hrd;exact hk.lt
 have HRD:=jq hrd
 have HB1:=jq hb1
 have HG:=jq (And.intro hg hgl)
 have CL:=jq (fun W' h=>qzp (w:=W') (g:=g) (L:=L) h)
 clear hrd hb1 hg hgl C1 C2
 go_wp2
 refine jyw [⟨25,[],.is (.int .i64 (n:Int))⟩,⟨26,[],.is (.int .i64 (W:Int))⟩,⟨27,[0,1],.is (.int .i64 (M:Int))⟩,⟨28,[],.is (.int .i64 (n:Int))⟩,⟨29,[],.is (.int .i64 (W:Int))⟩,⟨30,[3,4],.is (.int .i64 (m:Int))⟩,
   ⟨31,[5],.is (.int .i64 (T:Int))⟩,⟨32,[2,6],.is (.int .i64 (U:Int))⟩,⟨33,[],.is (.pointer (some ⟨g,0,none⟩))⟩,⟨34,[8],.is (.int .i64 (L.length:Int))⟩,⟨35,[7,9],.is (.bool (decide ((L.length:Int)<(U:Int))))⟩]
  [(2,.int .i64 (n:Int)),(1,.int .i64 (W:Int)),(8,.pointer (some ⟨g,0,none⟩))] (by kernel_rfl) (by kernel_rfl) (by kernel_rfl) (by kernel_rfl) (by kernel_rfl) ⟨rfl,rfl,rfl,trivial⟩ ?_ ?_
 ·repeat' (first | exact jzr.nil | refine jzr.cons ?_ ?_)
  all_goals (intro ev yi w' hB hc hf ho hn;simp only[jyk,jdn,rowAt,Fact.says,and_true] at ho hn)
  all_goals (try ((simp[jzv,execOp,Region.wanted,Fact.says,go_sem,ho,hn,hc,Below.refl,hT1,hT2];done)))
  ·rw[if_pos (by simp[Region.wanted])]
   simp[jzv,execOp,go_sem,Fact.says,hn,hW0n,Below.refl]
   rw[hMi];exact hMw
  ·rw[if_pos (by simp[Region.wanted])]
   simp[jzv,execOp,go_sem,Fact.says,hn,hW0n,Below.refl]
   exact hmt
  ·rw[if_pos (by simp[Region.wanted])]
   exact jml call117 (vs:=#[.pointer (some ⟨g,0,none⟩)]) rfl hf (by simp[hn]) ((CL.out w' (HRD.out.only (jjj.of_below (B:=w1.heap.size) (ts:=[]) hB) (by simp) (by simp))).mono fun e w2 ⟨he,hw⟩=>⟨_,he,rfl,by rw[←hw];exact (Below.refl _ _).drew⟩)
 ·intro X w4 hb4 hx
  have hlast:X 10=.bool (decide ((L.length:Int)<(U:Int))):=hx 10 (by decide)
  clear hx
  have HRD4:=jq (show jjw w4 g L 0 from HRD.out.only (jjj.of_below (B:=w1.heap.size) (ts:=[]) hb4) (by simp) (by simp))
  have HB4:=jq (HB1.out.trans (hb4.mono HB1.out.size))
  have HG4:=jq (show w.heap.size≤g∧g<w4.heap.size from ⟨HG.out.1,Nat.lt_of_lt_of_le HG.out.2 hb4.size⟩)
  simp only[layAll,List.setIfInBounds_toArray,List.set_cons_succ,List.set_cons_zero,hlast]
  clear hlast hb4 HRD HB1 HG CL hT1 hT2
  by_cases hfw:L.length<U
  ·have hQ:=HFEW.out (by rw[←HU.out];exact hfw)
   subst hQ
   have hdec:decide ((L.length:Int)<(U:Int))=true:=by simp;omega
   simp only[hdec]
   clear hdec HOUT HNONE HFEW
   go_wp2
   go_ret2
   exact⟨_,rfl,qxd _,HB4.out⟩
  ·have hdec:decide ((L.length:Int)<(U:Int))=false:=by simp;omega
   simp only[hdec]
   have hM100:M≤100000:=by have:=HU.out;have:=HL.out;omega
   have CW:=jq (riceWords_any (s0:=(L,0)) HWW.out w4 hM100 HRD4.out rfl HO.out)
   clear hdec hfw HFEW HRD4
   go_wp2_with fail
   refine CW.out.mono ?_
   rintro _ w5 ⟨ho5,(⟨rfl,hon⟩ | ⟨a,X,s,rfl,ha,hba,hXl,hXs,hrd5,hok⟩)⟩
   ·have hQ:=HNONE.out hon
    subst hQ
    have HB5:=jq (HB4.out.trans (ho5.lower HG4.out.1 HB4.out.size))
    clear ho5 CW HOUT HNONE
    go_wp2
    go_ret2
    exact⟨_,rfl,qxd _,HB5.out⟩
   ·have HB5:=jq (HB4.out.trans (ho5.lower HG4.out.1 HB4.out.size))
    have hg5:g<w5.heap.size:=Nat.lt_of_lt_of_le HG4.out.2 ho5.size
    have CP:=jq (ricePlain_any (n:=m) w5 (by have:=HMM.out;omega) hrd5 hg5)
    have HBA:=jq hba
    have HX:=jq (And.intro hXl hXs)
    obtain⟨rs,hrs⟩:∃ rs,rs=(jwb m s).1:=⟨_,rfl⟩
    obtain⟨SE,hSE⟩:∃ SE,SE=(jwb m s).2:=⟨_,rfl⟩
    have hrl:rs.length=m:=by rw[hrs];exact restF_len m s
    have hone:jwn SE=0→Q=(layW W X++rs,0):=fun h=>by
     rcases hok with ⟨h1,h2⟩ | ⟨h1,h2⟩
     ·rw[HOUT.out X s h2,←hSE,if_pos h,hrs]
     ·rw[hSE,restF_stuck m s h1] at h
      exact absurd h (doneE_stuck h1)
    have htwo:jwn SE≠0→Q=([],16):=fun h=>by
     rcases hok with ⟨h1,h2⟩ | ⟨h1,h2⟩
     ·rw[HOUT.out X s h2,←hSE,if_neg h]
     ·exact HNONE.out h2
    have HONE:=jq hone
    have HTWO:=jq htwo
    rw[←hrs,←hSE] at CP
    clear ho5 CW hba hXl hXs hrd5 hok hone htwo hrs hSE HOUT HNONE
    go_wp2_with fail
    refine CP.out.mono ?_
    rintro _ w6 ⟨a2,rfl,ha2,hba2,hrd6,ho6⟩
    have hlen6:SE.1.length≤9000000000000000:=by
     obtain⟨bs,at_,A',c',-,-,-,h4,-,h6⟩:=hrd6
     rw[h6,List.length_drop,jjs]
     omega
    have CD:=jq (rDone_st g SE w6 hrd6 hlen6)
    have HBA6:=jq (HBA.out.only ho6 (by decide))
    have HBR6:=jq hba2
    have HB6:=jq (HB5.out.trans (ho6.lower HG4.out.1 HB5.out.size))
    obtain⟨E,hE⟩:∃ E,E=jwn SE:=⟨_,rfl⟩
    rw[←hE] at CD HONE HTWO
    clear hrd6 ho6 hba2 hlen6 CP HBA HB5 hE
    by_cases hE0:E=0
    ·have hQ:=HONE.out hE0
     subst hQ
     subst hE0
     go_wp2_with fail
     refine CD.out.mono ?_
     rintro _ w7 ⟨rfl,ho7⟩
     have hba7:=HBA6.out.only ho7 (by decide)
     have hbr7:=HBR6.out.only ho7 (by decide)
     have HB7:=jq (HB6.out.trans (ho7.lower HG4.out.1 HB6.out.size))
     have CY:=jq (qww W HWW.out (some ⟨a,0,none⟩) M M X (some ⟨a2,0,none⟩) m m rs w7 (Rd.of_blk hba7) HX.out.1 (fun x hx=>Nat.lt_of_lt_of_le (HX.out.2 x hx) (Nat.pow_le_pow_right (n:=2) (by decide) (D_le HWW.out).2)) (Rd.of_blk hbr7) hrl hM100 (by have:=HMM.out;omega))
     clear ho7 hba7 hbr7 CD HBA6 HBR6 HB6 HONE HTWO
     go_wp2_with fail
     refine CY.out.mono ?_
     rintro _ w8 ⟨v8,rfl,h8,hb8⟩
     have HE:=jq (And.intro h8 (HB7.out.trans (hb8.mono HB7.out.size)))
     clear h8 hb8 CY
     go_wp2
     go_ret2
     exact⟨_,rfl,HE.out.1,HE.out.2⟩
    ·have hQ:=HTWO.out hE0
     subst hQ
     have hei:((E:Int)==0)=false:=by simp;omega
     have hei2:¬ (E:Int)=0:=by omega
     clear hE0 HONE HTWO
     go_wp2_with fail
     refine CD.out.mono ?_
     rintro _ w7 ⟨rfl,ho7⟩
     have HB7:=jq (HB6.out.trans (ho7.lower HG4.out.1 HB6.out.size))
     clear ho7 CD HBA6 HBR6 HB6
     go_wp2
     go_ret2
     exact⟨_,rfl,qxd _,HB7.out⟩
theorem shr_val (v k:Nat):(v:Int)/2^k=((v/2^k:Nat):Int):=by
 rw[Int.natCast_ediv];simp
theorem riceLay_any {W A N K v g B:Nat} {l:List Bool} (hW:IsW W) (hc:jxg (8*W) A N) (hK:IsK A N K) (hv:v<2^(8*W)) (w:World) (hw:WrO w B g l) (hl:l.length≤800000) :
  Calls prog 291 #[cntV A N,.pointer (some ⟨g,0,none⟩),.int .u64 (v:Int),.int .i64 (W:Int)] w fun e w'=>e=.returned (cntV (jqv A N v) (jqq N))∧WrO w' B g (l++qbr (8*W) K v)∧jzx B g w w':=by
 obtain⟨hgs,hBs⟩:=hw.lt
 have hv64:v<18446744073709551616:=Nat.lt_of_lt_of_le hv (Nat.pow_le_pow_right (n:=2) (by decide) (D_le hW).2)
 have hK33:=isK_few hc hK
 have C1:=jq (fun W'=>ricePar_any hc hK W')
 have C4:=jq (fun W'=>riceBeh_any (A:=A) (N:=N) (v:=v) (by obtain⟨g1,g2,g3,g4⟩:=hc;omega) hc.2.1 hv64 W')
 obtain⟨A2,hA2⟩:∃ A2,A2=jqv A N v:=⟨_,rfl⟩
 obtain⟨N2,hN2⟩:∃ N2,N2=jqq N:=⟨_,rfl⟩
 rw[←hA2,←hN2] at C4 ⊢
 unfold cntV at C1 C4 ⊢
 have hb0:=((Below.refl w.heap.size w).alloc jw (.cells #[.int .u64 (A:Int),.int .u64 (N:Int)] 323)).alloc (by simp) (.cells #[.int .u64 0,.int .u64 0] 323)
 have hk0:Blk ((w.alloc (.cells #[.int .u64 (A:Int),.int .u64 (N:Int)] 323)).alloc (.cells #[.int .u64 0,.int .u64 0] 323)) w.heap.size 323 [.int .u64 (A:Int),.int .u64 (N:Int)]:=(show Blk _ w.heap.size 323 [.int .u64 (A:Int),.int .u64 (N:Int)] from heap_alloc_new w _).alloc_ _
 have hk1:Blk ((w.alloc (.cells #[.int .u64 (A:Int),.int .u64 (N:Int)] 323)).alloc (.cells #[.int .u64 0,.int .u64 0] 323)) (w.heap.size+1) 323 [.int .u64 0,.int .u64 0]:=by
  have:=heap_alloc_new (w.alloc (.cells #[.int .u64 (A:Int),.int .u64 (N:Int)] 323)) (.cells #[.int .u64 0,.int .u64 0] 323)
  rwa [World.size_alloc] at this
 have HW0:=jq (hw.kept hb0)
 have HB0:=jq (jzx.of_below (B:=B) (g:=g) hb0)
 have HK0:=jq hk0
 have HK1:=jq hk1
 have HL:=jq hl
 have HWW:=jq hW
 have hW8:(W:Int)≤8:=by have:=hW.pos;omega
 have hW1:(1:Int)≤(W:Int):=by have:=hW.pos;omega
 obtain⟨q,hq⟩:∃ q,q=v/2^K:=⟨_,rfl⟩
 have hqi:(v:Int)/2^K=(q:Int):=by rw[hq];exact shr_val v K
 have hri:qbr (8*W) K v=if q<24 then jxk q 24++bitsOf v K else jxk 24 24++bitsOf v (8*W):=by rw[hq];rfl
 obtain⟨R,hR⟩:∃ R,R=qbr (8*W) K v:=⟨_,rfl⟩
 rw[←hR] at hri ⊢
 have HRI:=jq hri
 clear hri hR hq hA2 hN2 hb0 hk0 hk1 hw hc hK hv hl hW
 go_enter func291,ntmps291
 go_wp2_with fail
 obtain⟨w0,hw0⟩:∃ w0,w0=(w.alloc (.cells #[.int .u64 (A:Int),.int .u64 (N:Int)] 323)).alloc (.cells #[.int .u64 0,.int .u64 0] 323):=⟨_,rfl⟩
 rw[←hw0] at HW0 HB0 HK0 HK1 ⊢
 clear hw0
 refine (C1.out _).mono ?_
 rintro _ w1 ⟨rfl,hb1⟩
 have HW1:=jq (HW0.out.kept hb1)
 have HB1:=jq (HB0.out.trans (jzx.of_below hb1))
 have HK10:=jq (HK0.out.grow hb1)
 have HK11:=jq (HK1.out.grow hb1)
 clear hb1 HW0 HB0 HK0 HK1 C1
 by_cases h24:q<24
 ·have hqlt:(q:Int)<24:=by omega
  have hri:=HRI.out
  rw[if_pos h24] at hri
  have hqw:IntKind.i64.wrap (q:Int)=(q:Int):=by rw[IntKind.wrap_i64];omega
  have hol:=(jdm q 24).1
  go_wp2_with fail
  refine (oOnes_any g B l q 24 w1 HW1.out (by have:=HL.out;omega) (by omega) (by omega)).mono ?_
  rintro _ w2 ⟨rfl,hw2,ho2⟩
  have HW2:=jq hw2
  have HB2:=jq (HB1.out.trans ho2)
  have HK20:=jq (ho2.blkT HK10.out (by decide) (by omega))
  have HK21:=jq (ho2.blkT HK11.out (by decide) (by omega))
  clear hw2 ho2 HW1 HB1 HK10 HK11
  go_wp2_with fail
  refine (jgb g B _ v K w2 HW2.out (by rw[List.length_append];have:=HL.out;omega) hv64 (by omega)).mono ?_
  rintro _ w3 ⟨rfl,hw3,ho3⟩
  rw[List.append_assoc,←hri] at hw3
  have HW3:=jq hw3
  have HB3:=jq (HB2.out.trans ho3)
  have HK30:=jq (ho3.blkT HK20.out (by decide) (by omega))
  have HK31:=jq (ho3.blkT HK21.out (by decide) (by omega))
  have hc0:=HK30.out.cell 0
  have hc1:=HK30.out.cell 1
  simp only[jy,jx] at hc0 hc1
  clear hw3 ho3 HW2 HB2 HK20 HK21 hri hol
  go_wp2_with fail
  refine (C4.out w3).mono ?_
  rintro _ w4 ⟨rfl,hb4⟩
  have HW4:=jq (HW3.out.kept hb4)
  have HB4:=jq (HB3.out.trans (jzx.of_below hb4))
  have HK41:=jq (HK31.out.grow hb4)
  have hc0:=HK41.out.cell 0
  have hc1:=HK41.out.cell 1
  have hf0:=HK41.out.frozen 0
  have hf1:=HK41.out.frozen 1
  simp only[jy,jx] at hc0 hc1
  clear hb4 HW3 HB3 HK30 HK31 C4
  go_wp2
  (try simp only[Exit.inBlock,Exit.then])
  exact bodyPost_ret (v:=.agg #[.int .u64 (A2:Int),.int .u64 (N2:Int)]) (qzn (p:=w.heap.size+1) results291 rfl ((HK41.out.set_ 0 _).set_ 1 _)) rfl
   ⟨rfl,((HW4.out.set_ HK41.out (by omega) (by decide) _).set_ (HK41.out.set_ 0 _) (by omega) (by decide) _),(HB4.out.set_new (p:=⟨w.heap.size+1,0,none⟩) (by simp) _).set_new (p:=⟨w.heap.size+1,1,none⟩) (by simp) _⟩
 ·have hqlt:¬ (q:Int)<24:=by omega
  have hri:=HRI.out
  rw[if_neg h24] at hri
  have H8W:=jq (show (8:Int)*(W:Int)=((8*W:Nat):Int) by omega)
  have hol:=(jdm 24 24).1
  go_wp2_with fail
  refine (oOnes_any g B l 24 24 w1 HW1.out (by have:=HL.out;omega) (by omega) (by omega)).mono ?_
  rintro _ w2 ⟨rfl,hw2,ho2⟩
  have HW2:=jq hw2
  have HB2:=jq (HB1.out.trans ho2)
  have HK20:=jq (ho2.blkT HK10.out (by decide) (by omega))
  have HK21:=jq (ho2.blkT HK11.out (by decide) (by omega))
  clear hw2 ho2 HW1 HB1 HK10 HK11
  go_wp2_with fail
  have hp:=jgb g B _ v (8*W) w2 HW2.out (by rw[List.length_append];have:=HL.out;omega) hv64 (by omega)
  rw[←H8W.out] at hp
  refine hp.mono ?_
  clear hp
  rintro _ w3 ⟨rfl,hw3,ho3⟩
  rw[List.append_assoc,←hri] at hw3
  have HW3:=jq hw3
  have HB3:=jq (HB2.out.trans ho3)
  have HK30:=jq (ho3.blkT HK20.out (by decide) (by omega))
  have HK31:=jq (ho3.blkT HK21.out (by decide) (by omega))
  have hc0:=HK30.out.cell 0
  have hc1:=HK30.out.cell 1
  simp only[jy,jx] at hc0 hc1
  clear hw3 ho3 HW2 HB2 HK20 HK21 hri hol
  go_wp2_with fail
  refine (C4.out w3).mono ?_
  rintro _ w4 ⟨rfl,hb4⟩
  have HW4:=jq (HW3.out.kept hb4)
  have HB4:=jq (HB3.out.trans (jzx.of_below hb4))
  have HK41:=jq (HK31.out.grow hb4)
  have hc0:=HK41.out.cell 0
  have hc1:=HK41.out.cell 1
  have hf0:=HK41.out.frozen 0
  have hf1:=HK41.out.frozen 1
  simp only[jy,jx] at hc0 hc1
  clear hb4 HW3 HB3 HK30 HK31 C4
  go_wp2
  (try simp only[Exit.inBlock,Exit.then])
  exact bodyPost_ret (v:=.agg #[.int .u64 (A2:Int),.int .u64 (N2:Int)]) (qzn (p:=w.heap.size+1) results291 rfl ((HK41.out.set_ 0 _).set_ 1 _)) rfl
   ⟨rfl,((HW4.out.set_ HK41.out (by omega) (by decide) _).set_ (HK41.out.set_ 0 _) (by omega) (by decide) _),(HB4.out.set_new (p:=⟨w.heap.size+1,0,none⟩) (by simp) _).set_new (p:=⟨w.heap.size+1,1,none⟩) (by simp) _⟩
end
end Go.Proofs.YtflcmmeoppdhdaaGreatDoor
