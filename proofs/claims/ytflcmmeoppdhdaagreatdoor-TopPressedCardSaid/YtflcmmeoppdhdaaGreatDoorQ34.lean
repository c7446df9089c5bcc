/- Contracts of layer 11: each step as a function value, and what undoes it. · Contracts of layer 11: words as bits, and back. · Contracts of layer 11: the map of steps. · Contracts of layer 11: Go. · .. -/
import Derived.Test.YtflcmmeoppdhdaaGreatDoorQ33
import Derived.MapKept
import Derived.Carry
import Derived.Maps.Own
import Derived.Laws.EntriesVeiled
set_option maxHeartbeats 2000000
set_option maxRecDepth 100000
namespace Go.Proofs.YtflcmmeoppdhdaaGreatDoor
open Tryz
section
open Go.RowKit Go.Shelf
def errN:Option (List UInt8)→Nat
 | none=>16
 | some _=>0
def UndoAns (w:World) (o:Option (List UInt8)) (e:Ending) (w':World):Prop :=
 ∃ A n c,e=.returned (.tuple #[.slice A n c,.int .i64 (errN o:Int)])∧Below w.heap.size w w'∧∀ x,o=some x→jjz x (.slice A n c) w'
def jdj (w w':World):Prop:=∀ (k:Nat) (v:Value),(Blk w k 51 [v]→Blk w' k 51 [v])∧(Blk w k 37 [v]→Blk w' k 37 [v])
theorem jdj.trans {w w' w'':World} (h:jdj w w') (h':jdj w' w''):jdj w w'':=fun k v=>⟨fun q=>(h' k v).1 ((h k v).1 q),fun q=>(h' k v).2 ((h k v).2 q)⟩
theorem jdj.refl (w:World):jdj w w:=fun _ _=>⟨id,id⟩
theorem jdj.of_below {w w':World} (h:Below w.heap.size w w'):jdj w w':=fun _ _=>⟨fun q=>q.grow h,fun q=>q.grow h⟩
def qmk (W:Nat) (w:World) (fv:Value) (f:List UInt8→List UInt8):Prop :=
 ∃ (K:Nat) (cap:Array Value),fv=.func (.func K) #[] cap∧Enters prog K∧∀ (w':World) (l:List UInt8) (v:Value),jdj w w'→jjz l v w'→l.length≤90000 →
  Calls prog K (#[v,.int .i64 (W:Int)]++cap) w' (qmd w' (f l))
theorem qwp {W:Nat} (hW:IsW W) (K:Nat) (f:List Nat→List Nat) (hK:jkx W K f) (g:Nat) (w:World) (hg:Blk w g 51 [.func (.func K) #[] #[]]) :
  qmk W w (.func (.func 65) #[] #[.pointer (some ⟨g,0,none⟩)]) (through f W) :=
 ⟨_,_,rfl,enters_of func65 (by kernel_rfl) rfl,fun w' l v hb hv hl=>through1_any hW K f hK g l v w' ((hb g _).1 hg) hv hl⟩
theorem bytes_split {W:Nat} (hW:IsW W) (w:World):qmk W w (.func (.func 29) #[] #[]) (splitL W) :=
 ⟨_,_,rfl,enters_of func29 (by kernel_rfl) rfl,fun w' l v hb hv hl=>by
  obtain⟨A,c,rfl,hc,hr⟩:=hv
  have:=planeSplit_any (W:Int) A l.length c l w' hr rfl (by omega)
  rwa [ofB_of hW] at this⟩
theorem bytes_join {W:Nat} (hW:IsW W) (w:World):qmk W w (.func (.func 30) #[] #[]) (joinL W) :=
 ⟨_,_,rfl,enters_of func30 (by kernel_rfl) rfl,fun w' l v hb hv hl=>by
  obtain⟨A,c,rfl,hc,hr⟩:=hv
  have:=planeJoin_any (W:Int) A l.length c l w' hr rfl (by omega)
  rwa [ofB_of hW] at this⟩
theorem asMany1_any {W:Nat} (fv:Value) (f:List UInt8→List UInt8) (w0:World) (hf:qmk W w0 fv f) (g:Nat) (l:List UInt8) (v:Value) (raw:Int) (w:World) (hb0:jdj w0 w)
  (hg:Blk w g 37 [fv]) (hv:jjz l v w) (hl:l.length≤90000) :
  Calls prog 46 #[v,.int .i64 (W:Int),.int .i64 raw,.pointer (some ⟨g,0,none⟩)] w (UndoAns w (some (f l))):=by
 obtain⟨K,cap,rfl,hE,hC⟩:=hf
 have C1:=jq (hC w l v hb0 hv hl)
 have HE:=jq hE
 have hgc:=hg.cell 0
 simp only[jy] at hgc
 clear hC hE hg hv
 go_enter func46,ntmps46
 go_wp2_with fail
 rw[HE.out]
 refine C1.out.mono ?_
 rintro e w1 ⟨v1,rfl,h1,hb1⟩
 have H1:=jq h1
 have HB:=jq hb1
 obtain⟨A1,c1,rfl,-,-⟩:=h1
 clear hb1 C1 hgc
 go_wp2
 go_ret2
 exact⟨_,_,_,rfl,HB.out,fun x hx=>by cases hx;exact H1.out⟩
theorem asRuns_any (l:List UInt8) (v:Value) (W:Int) (w:World) (hv:jjz l v w) (hl:l.length≤90000) :
  Calls prog 33 #[v,.int .i64 W] w (qmd w (jgf l)):=by
 obtain⟨A,c,rfl,hc,hr⟩:=hv
 have C1:=jq (runsPack_any A l.length c l w hr rfl hc (by omega))
 clear hr
 go_enter func33,ntmps33
 go_wp2_with fail
 refine C1.out.mono ?_
 rintro e w1 ⟨v1,rfl,h1,hb1⟩
 have H1:=jq h1
 have HB:=jq hb1
 clear h1 hb1 C1
 go_wp2
 go_ret
 exact⟨_,rfl,H1.out,HB.out⟩
theorem runsR_err (l:List UInt8) (raw:Nat) (h:raw≤16777216):(jzy l (raw:Int)).2=0∨(jzy l (raw:Int)).2=16:=by
 unfold jzy
 rw[if_neg (by omega)]
 cases jqh l with
 | none=>exact .inr rfl
 | some o =>
  simp only
  split
  ·exact .inl rfl
  ·exact .inr rfl
theorem fromRuns_any (l:List UInt8) (v:Value) (W:Nat) (raw:Nat) (hraw:raw≤16777216) (w:World) (hv:jjz l v w) (hl:l.length≤90000) :
  Calls prog 34 #[v,.int .i64 (W:Int),.int .i64 (raw:Int)] w (UndoAns w (jxd W raw 7 l)):=by
 obtain⟨A,c,rfl,hc,hr⟩:=hv
 have C1:=jq (runsUnpack_any A l.length c l (raw:Int) w hr rfl hc (by omega))
 have he:(jzy l (raw:Int)).2=errN (jxd W raw 7 l)∧∀ x,jxd W raw 7 l=some x→x=(jzy l (raw:Int)).1:=by
  unfold jxd
  simp only[show ¬ (7=1) by decide,show ¬ (7=2) by decide,show ¬ (7=3) by decide,show ¬ (7=4) by decide,show ¬ (7=5) by decide,show ¬ (7=6) by decide,if_false,if_true]
  rcases runsR_err l raw hraw with h | h
  ·rw[if_pos h]
   exact⟨h,fun x hx=>by cases hx;rfl⟩
  ·rw[if_neg (by omega)]
   exact⟨h,fun x hx=>by cases hx⟩
 obtain⟨o,ho⟩:∃ o,o=jxd W raw 7 l:=⟨_,rfl⟩
 obtain⟨R,hR⟩:∃ R,R=jzy l (raw:Int):=⟨_,rfl⟩
 rw[←ho,←hR] at he
 rw[←hR] at C1
 rw[←ho]
 obtain⟨b,n⟩:=R
 have HE:=jq he
 clear hr ho hR he
 go_enter func34,ntmps34
 go_wp2_with fail
 refine C1.out.mono ?_
 rintro e w1 ⟨v1,rfl,h1,hb1⟩
 have H1:=jq h1
 have HB:=jq hb1
 obtain⟨A1,c1,rfl,-,-⟩:=h1
 clear hb1 C1
 go_wp2
 go_ret2
 exact⟨A1,b.length,c1,by rw[←HE.out.1];rfl,HB.out,fun x hx=>by rw[HE.out.2 x hx];exact H1.out⟩
theorem info_u8b:(prog.info? 5).map (fun i=>(i.zero,i.size,i.bytes))=some (some (.int .u8 0),1,1):=by kernel_rfl
theorem size_u8b:(prog.info? 5).map (·.size)=some 1:=by kernel_rfl
theorem asBits_any {W:Nat} (hW:IsW W) (l:List UInt8) (v:Value) (w:World) (hv:jjz l v w) (hl:l.length≤1000) (ht:TabA w) :
  Calls prog 31 #[v,.int .i64 (W:Int)] w fun e w'=>∃ m,doR W 6 l m∧qmd w m e w':=by
 obtain⟨i0,hi,hz0,hz1,hz2⟩:=info_parts info_u8b
 obtain⟨A,c,rfl,hc,hr⟩:=hv
 have hp:=hW.pos
 have c1:=qgl W hW A l.length c l w hr rfl hc (by omega)
 obtain⟨ws,hws⟩:∃ ws,ws=jqs W l:=⟨_,rfl⟩
 obtain⟨rs,hrs⟩:∃ rs,rs=jzt W l:=⟨_,rfl⟩
 rw[show jjt (l.length/W) W l=ws from hws.symm,show l.drop (l.length/W*W)=rs from hrs.symm] at c1
 have hwl:ws.length≤1000:=by rw[hws,jzh];exact Nat.le_trans (Nat.div_le_self _ _) hl
 have hrl:rs.length<8:=by have:=qxt (W:=W) (by omega) l;rw[hrs];omega
 have h64:∀ x∈ws,x<18446744073709551616:=by rw[hws];exact lt_64 hW (jks (W:=W) (by omega) l)
 have hfin:∀ Q,jxp Q (packG (W:Int) ws)→doR W 6 l (Q++rs)∧Q.length≤1000000:=fun Q hQ=>by
  rw[packG_of hW] at hQ
  refine⟨.inr (.inr (.inr (.inr (.inr (.inl ⟨rfl,Q,by rw[←hws];exact hQ,by rw[←hrs]⟩))))),?_⟩
  have h1:=hQ.1
  by_cases h0:ws=[]
  ·subst h0
   rw[packB_nil] at h1
   simp at h1
   rw[h1]
   simp
  ·have h2:=(packB_len W ws h0).2
   have h3:(ws.length - 1)*(8*W+14)≤1000*78:=Nat.mul_le_mul (by omega) (by omega)
   omega
 have C1:=jq c1
 have C2:=jq (fun (A1:Option Addr) (c1:Nat) (w':World) (h:Rd w' w'.heap.size A1 (wvs ws)) (ht:TabA w')=>gPack_any (W:Int) A1 ws.length c1 ws w' h rfl hwl h64 ht)
 have HF:=jq hfin
 have HT:=jq ht
 clear c1 hr h64 hW hws hrs hwl hfin ht hl
 go_enter func31,ntmps31
 go_wp2_with fail
 refine C1.out.mono ?_
 rintro e w1 ⟨v1,v2,rfl,h1,h2,hb⟩
 have HB:=jq hb
 have HT1:=jq (HT.out.grow hb)
 obtain⟨A1,c1,rfl,hc1,hr1⟩:=h1
 obtain⟨A2,c2,rfl,hc2,hr2⟩:=h2
 have C3:=jq (C2.out A1 c1 w1 hr1 HT1.out)
 have HR2:=jq hr2
 rw[jjv]
 clear hb hc1 hr1 hc2 hr2 C1 C2 HT
 go_wp2_with fail
 refine C3.out.mono ?_
 rintro e w2 ⟨Q,hQ,v3,rfl,hown,hb2⟩
 obtain⟨hd,hql⟩:=HF.out Q hQ
 have HD:=jq hd
 have HB2:=jq (HB.out.trans (hb2.mono HB.out.size))
 have hr2:Rd w2 w1.heap.size A2 (bvs rs):=HR2.out.below hb2
 have hbs:=hb2.size
 have HOWN:=jq hown
 have hA1:Q.length+rs.length≤maxLen:=by simp only[maxLen];omega
 have hA2:(Q.length+rs.length)*1≤140737488355328:=by omega
 have HNL:=jq (show (bvs rs).length=rs.length*1 by rw[jjg,Nat.mul_one])
 clear hown hb2 C3 HF HR2 hd hQ HT1
 go_wp2_with ((with_reducible show wpList _ _ _ (({ dst:=some 17,op:=_,type:=_,pos:=_,after:=_,guard:=_ }:Oper)::_) _ _);go_must (refine jjd rfl (.tmp 15) (.tmp 16) 22 rfl w1.heap.size 5 i0 (.int .u8 0) 1 1 underlying22 hi hz0 hz1 hz2 rfl (by decide) _ _ _ rfl HOWN.out w1.heap.size A2 rs.length c2 (bvs rs) rfl hr2 HNL.out (jmx _) hA1 hA2 hbs ?_;intro v4 w4 hown4 hg4;have hb4:=HB2.out.grown hg4 HB2.out.size (fun k hk=>Nat.le_trans HB.out.size (jjb HOWN.out k hk));clear hg4))
 go_ret
 refine⟨_,HD.out,v4,rfl,?_,hb4⟩
 apply jjz.of_own (base:=w1.heap.size) (e:=5)
 rw[List.length_append,jqt]
 exact hown4
theorem gorR_err {W:Nat} (hW:IsW W) (n:Nat) (hn:n≤67108864) (l:List UInt8):(gorR (W:Int) (n:Int) l).1=0∨(gorR (W:Int) (n:Int) l).1=16:=by
 unfold gorR
 rw[if_pos ⟨hW.right.symm,by omega,by omega⟩]
 cases jkk (W:Int).toNat (n:Int).toNat (jjm l) with
 | none=>exact .inr rfl
 | some q =>
  simp only
  split
  ·exact .inl rfl
  ·exact .inr rfl
theorem gorR_lt {W:Nat} (hW:IsW W) (n:Nat) (l:List UInt8):∀ x∈(gorR (W:Int) (n:Int) l).2,x<18446744073709551616:=by
 unfold gorR
 split
 ·rw[Int.toNat_natCast]
  split
  ·intro x hx
   cases hx
  ·split
   ·exact lt_64 hW (backW_lt W _)
   ·intro x hx
    cases hx
 ·intro x hx
  cases hx
theorem gorR_few {W:Nat} (n:Nat) (l:List UInt8):(gorR (W:Int) (n:Int) l).2.length≤8*l.length:=by
 unfold gorR
 split
 ·rw[Int.toNat_natCast,Int.toNat_natCast]
  split
  ·exact Nat.zero_le _
  ·rename_i X s hT
   split
   ·simp only
    rw[qjg]
    obtain⟨h1,h2,_⟩:=qwz hT
    rw[jjs] at h2
    omega
   ·exact Nat.zero_le _
 ·exact Nat.zero_le _
def Told2 (ws:List Nat) (err:Nat) (v:Value) (w:World):Prop:=∃ u,v=.tuple #[u,.int .i64 (err:Int)]∧jzm (wvs ws) u w
theorem Told2.grow (ws:List Nat) (err:Nat):∀ v w w',Told2 ws err v w→Below w.heap.size w w'→Told2 ws err v w':=by
 rintro v w w' ⟨u,rfl,h⟩ hb
 exact⟨u,rfl,h.grow hb⟩
theorem fromBits_any {W:Nat} (hW:IsW W) (m:List UInt8) (v:Value) (raw:Nat) (hraw:raw≤16777216) (w:World) (hv:jjz m v w) (hl:m.length≤90000) (hfit:raw≤90000∨m.length≤5000) :
  Calls prog 32 #[v,.int .i64 (W:Int),.int .i64 (raw:Int)] w (UndoAns w (jxd W raw 6 m)):=by
 obtain⟨A,c,rfl,hc,hr⟩:=hv
 have hp:=hW.pos
 unfold jxd
 simp only[show ¬ (6=1) by decide,show ¬ (6=2) by decide,show ¬ (6=3) by decide,show ¬ (6=4) by decide,show ¬ (6=5) by decide,if_false,if_true]
 obtain⟨r,hr0⟩:∃ r,r=raw%W:=⟨_,rfl⟩
 have hri:(raw:Int)%(W:Int)=(r:Int):=by rw[hr0];simp
 have hW0:¬ (W:Int)=0:=by omega
 have hr8:r<8:=by rw[hr0];have:=Nat.mod_lt raw (show 0<W by omega);omega
 rw[←hr0]
 by_cases hlt:m.length<r
 ·rw[if_pos hlt]
  have hneg:(m.length:Int) - (r:Int)<0:=by omega
  clear hr hW hr0
  go_enter func32,ntmps32
  go_wp2
  go_ret2
  exact⟨_,_,_,rfl,Below.refl _ _,fun x hx=>by cases hx⟩
 ·rw[if_neg hlt]
  obtain⟨q,hq⟩:∃ q,q=m.length - r:=⟨_,rfl⟩
  obtain⟨n,hn⟩:∃ n,n=raw/W:=⟨_,rfl⟩
  have hni:(raw:Int)/(W:Int)=(n:Int):=by rw[hn];simp
  have hn2:n≤16777216:=by rw[hn];exact Nat.le_trans (Nat.div_le_self _ _) hraw
  rw[←hq,←hn]
  have he:=gorR_err hW n (by omega) (m.take q)
  have hX64:=gorR_lt hW n (m.take q)
  have hXb:=gorR_few (W:=W) n (m.take q)
  have hXn:=fun h=>gorR_some (W:=W) (n:=n) (l:=m.take q) h
  have c1:=fun (w':World) (h:jjz (m.take q) (.slice A q c) w')=>gorUnpack_any (W:Int) (n:Int) (m.take q) (.slice A q c) w' h (by rw[List.length_take];omega)
  obtain⟨R,hR⟩:∃ R,R=gorR (W:Int) (n:Int) (m.take q):=⟨_,rfl⟩
  rw[←hR] at he hX64 hXb hXn c1
  rw[←hR]
  obtain⟨err,X⟩:=R
  simp only at he hX64 hXb hXn ⊢
  obtain⟨Z,hZ⟩:∃ Z,Z=layW W X++m.drop q:=⟨_,rfl⟩
  rw[←hZ]
  obtain⟨o,ho⟩:∃ o,o=if err=0 then some Z else none:=⟨_,rfl⟩
  rw[←ho]
  have HO:=jq ho
  have hqm:q≤m.length:=by omega
  have hqc:q≤c:=by omega
  have hqi:(m.length:Int) - (r:Int)=(q:Int):=by omega
  have htl:(m.take q).length=q:=by rw[List.length_take];omega
  have hnr:n≤raw:=by rw[hn];exact Nat.div_le_self _ _
  have hXl:err=0→X.length≤90000:=fun h0=>by have:=hXn h0;omega
  have hr2:(m.drop q).length<8:=by rw[List.length_drop];omega
  have C1:=jq (fun (w':World) (h:Below w.heap.size w w')=>c1 w' ⟨A,c,by rw[htl],by omega,by rw[←jbw];exact ((hr.below h).more h.size).take q⟩)
  have C3:=jq (fun (h0:err=0) (A1:Option Addr) (c1:Nat) (A2:Option Addr) (c2:Nat) (w':World) (h:Rd w' w'.heap.size A1 (wvs X)) (h2:Rd w' w'.heap.size A2 (bvs (m.drop q)))=>show Calls prog 53 #[.slice A1 X.length c1,.int .i64 (W:Int),.slice A2 (m.length - q) c2] w' (qmd w' Z) by rw[hZ];exact qww W hW A1 X.length c1 X A2 (m.length - q) c2 (m.drop q) w' h rfl hX64 h2 (List.length_drop ..) (by have:=hXl h0;omega) (by have:=List.length_drop (i:=q) (l:=m);omega))
  have HR0:=jq hr
  have HE:=jq he
  have hge:¬ (q:Int)<0:=by omega
  have htd:(raw:Int).tdiv (W:Int)=(n:Int):=by rw[Int.tdiv_eq_ediv_of_nonneg (by omega)];exact hni
  have hwr:IntKind.i64.wrap (n:Int)=(n:Int):=IntWalk.i64_in _ (by omega)
  have HD:=jq (And.intro htd hwr)
  clear hZ htd hwr ho c1 hX64 hXb hXn hnr hfit hXl hr2 hR hr0 hq hn he hr hW hraw hn2 htl hlt
  go_enter func32,ntmps32
  go_wp2
  clear hri hqi hge
  have htd:=HD.out.1
  have hwr:=HD.out.2
  clear HD
  refine jyw [⟨20,[],.is (.slice A m.length c)⟩,
   ⟨21,[],.is (.int .i64 (q:Int))⟩,
   ⟨22,[0,1],.is (.slice A q c)⟩,
   ⟨23,[],.is (.int .i64 (W:Int))⟩,
   ⟨24,[],.is (.int .i64 (raw:Int))⟩,
   ⟨25,[],.is (.int .i64 (W:Int))⟩,
   ⟨26,[4,5],.is (.int .i64 (n:Int))⟩,
   ⟨27,[2,3,6],.such (Told2 X err) (Told2.grow X err)⟩,
   ⟨19,[7],.such (Told2 X err) (Told2.grow X err)⟩,
   ⟨28,[8],.cells (wvs X)⟩,
   ⟨29,[8],.is (.int .i64 (err:Int))⟩,
   ⟨9,[9],.cells (wvs X)⟩,
   ⟨10,[10],.is (.int .i64 (err:Int))⟩]
   [(0,.slice A m.length c),(8,.int .i64 (q:Int)),(1,.int .i64 (W:Int)),(2,.int .i64 (raw:Int))] (by kernel_rfl) (by kernel_rfl) (by kernel_rfl) (by kernel_rfl) (by kernel_rfl) ⟨rfl,rfl,rfl,rfl,trivial⟩ ?_ ?_
  ·repeat' (first | exact jzr.nil | refine jzr.cons ?_ ?_)
   all_goals (intro ev yi W' hB _ hf ho hn;simp only[jyk,jdn,rowAt,Fact.says,and_true] at ho hn)
   all_goals (rw[if_pos (by simp[Region.wanted])])
   all_goals (try ((simp[jzv,execOp,Fact.says,go_sem,ho,hn,hqc,hni,Below.refl];done)))
   ·have hWn:¬ W=0:=by omega
    simp[jzv,execOp,Fact.says,go_sem,hn,hWn,htd,hwr,Below.refl]
   ·exact jml call52 (vs:=#[.slice A q c,.int .i64 (W:Int),.int .i64 (n:Int)]) rfl hf (by simp[hn]) ((C1.out W' hB).mono fun _ _ h=>by
     obtain⟨u,he,h1,h2⟩:=h
     exact⟨_,he,⟨u,rfl,h2⟩,h1⟩)
   ·obtain⟨u,hu,hcs⟩:=hn.1
    simp[jzv,execOp,Fact.says,go_sem,hu,Below.refl]
    exact hcs
   ·obtain⟨u,hu,hcs⟩:=hn.1
    simp[jzv,execOp,Fact.says,go_sem,hu,Below.refl]
  ·intro Y w4 hb4 hx
   obtain⟨A3,c3,h11,-,hr3⟩:jzm (wvs X) (Y 11) w4:=hx 11 (by decide)
   have h12:Y 12=.int .i64 (err:Int):=hx 12 (by decide)
   rw[jjv] at h11
   have HX:=jq (And.intro h11 h12)
   have HR3:=jq hr3
   have HB4:=jq hb4
   clear hx h11 h12 hr3 hb4 htd hwr
   simp only[layAll,List.setIfInBounds_toArray,List.set_cons_succ,List.set_cons_zero]
   rw[HX.out.1,HX.out.2]
   rcases HE.out with h0 | h0
   ·subst h0
    have ho2:=HO.out
    rw[if_pos rfl] at ho2
    subst ho2
    have HRW:=jq ((HR0.out.below HB4.out).more HB4.out.size)
    clear HO HE
    go_wp2_with ((with_reducible show wpList _ _ _ (({ dst:=some 37,op:=_,type:=_,pos:=_,after:=_,guard:=_ }:Oper)::_) _ _);go_must (refine jxc rfl (.tmp 35) (.tmp 36) rfl underlying22 size_u8b w4.heap.size A m.length c q (bvs m) rfl rfl HRW.out (jjg m) hc hqm ?_;intro A5 c5 hc5 hr5))
    refine (C3.out (by simp) A3 c3 A5 c5 w4 HR3.out (by rw[←jxj];exact hr5)).mono ?_
    rintro e w5 ⟨v5,rfl,h5,hb5⟩
    have HB5:=jq (HB4.out.trans (hb5.mono HB4.out.size))
    have H5:=jq h5
    obtain⟨A6,c6,rfl,-,-⟩:=h5
    clear hb5 hr5
    go_wp2
    go_ret2
    exact⟨_,_,_,rfl,HB5.out,fun x hx=>by cases hx;exact H5.out⟩
   ·subst h0
    have ho2:=HO.out
    rw[if_neg (by decide)] at ho2
    subst ho2
    clear HO HE
    go_wp2
    go_ret2
    exact⟨_,_,_,rfl,HB4.out,fun x hx=>by cases hx⟩
def kEnts:List Value→Nat→List MapEntry
 | [],_=>[]
 | v::t,i=>⟨.int .i64 ((i+1:Nat):Int),v,i⟩::kEnts t (i+1)
def qmm (w:World) (b:Nat) (vs:List Value):Prop:=w.heap[b]?=some (.map (kEnts vs 0).toArray vs.length)
theorem kEnts_snoc:∀ (vs:List Value) (i:Nat) (v:Value),kEnts (vs++[v]) i=kEnts vs i++[⟨.int .i64 ((i+vs.length+1:Nat):Int),v,i+vs.length⟩]
 | [],i,v=>by simp[kEnts]
 | u::t,i,v=>by
  simp only[List.cons_append,kEnts,kEnts_snoc t,List.length_cons]
  rw[show i+1+t.length=i+(t.length+1) by omega]
theorem kEnts_new:∀ (vs:List Value) (i j m:Nat),i+vs.length≤m→Instr.findNow (.int .i64) (.int .i64 ((m+1:Nat):Int)) (kEnts vs i) j=some none
 | [],_,_,_,_=>rfl
 | v::t,i,j,m,h=>by
  have hne:((((m+1:Nat):Int))==((i+1:Nat):Int))=false:=by
   rw[beq_eq_false_iff_ne]
   simp only[List.length_cons] at h
   omega
  simp only[kEnts,Instr.findNow,Instr.sameNow,if_true,hne]
  exact kEnts_new t (i+1) (j+1) m (by simp only[List.length_cons] at h;omega)
theorem kEnts_find:∀ (vs:List Value) (i j k:Nat) (v:Value),vs[k]?=some v→Instr.findNow (.int .i64) (.int .i64 ((i+k+1:Nat):Int)) (kEnts vs i) j=some (some (j+k,v))
 | [],_,_,_,_,h=>by simp at h
 | u::t,i,j,0,v,h=>by
  simp at h
  subst h
  simp[kEnts,Instr.findNow,Instr.sameNow]
 | u::t,i,j,k+1,v,h=>by
  have hne:((((i+(k+1)+1:Nat):Int))==((i+1:Nat):Int))=false:=by
   rw[beq_eq_false_iff_ne]
   omega
  have h2:=kEnts_find t (i+1) (j+1) k v (by simpa using h)
  simp only[kEnts,Instr.findNow,Instr.sameNow,if_true,hne]
  rw[show i+(k+1)+1=i+1+k+1 by omega,h2,show j+1+k=j+(k+1) by omega]
section
variable {P:Program}
theorem run_put_new (w:World) (t k e:TypeId) (ht:P.underlying t=some (.map k e)) (hk:P.underlying k=some (.int .i64)) (b:Nat) (es:Array MapEntry) (clock:Nat) (hb:w.heap[b]?=some (.map es clock)) (key:Int) (val:Value)
  (hf:Instr.findNow (.int .i64) (.int .i64 key) es.toList 0=some none) :
  (Instr.mapUpdate t (.map (some b)) (.int .i64 key) val).run P w=.ok () { w with heap:=w.heap.setIfInBounds b (.map (es.push ⟨.int .i64 key,val,clock⟩) (clock+1)) }:=by
 have hc:(Instr.checkKey false 10000 k (.int .i64 key)).run P w=.ok () w:=MapKept.run_checkKey (k:=.int .i64 key) hk (by simp[MapKept.IsKey]) false 9999
 simp[Instr.mapUpdate,run_underlying ht,MapKept.run_getObj_map hb,hc,MapKept.run_findKey hk hf,MapKept.run_setObj_map _ hb,Result.andThen]
theorem run_get_old (w:World) (t k e:TypeId) (ht:P.underlying t=some (.map k e)) (hk:P.underlying k=some (.int .i64)) (b:Nat) (es:Array MapEntry) (clock:Nat) (hb:w.heap[b]?=some (.map es clock)) (key:Int) (j:Nat) (v:Value)
  (hf:Instr.findNow (.int .i64) (.int .i64 key) es.toList 0=some (some (j,v))) :
  (Instr.lookup t (.map (some b)) (.int .i64 key) false).run P w=.ok v w:=by
 have hc:(Instr.checkKey es.isEmpty 10000 k (.int .i64 key)).run P w=.ok () w:=MapKept.run_checkKey (k:=.int .i64 key) hk (by simp[MapKept.IsKey]) _ 9999
 simp[Instr.lookup,run_underlying ht,MapKept.run_getObj_map hb,hc,MapKept.run_findKey hk hf,Result.andThen]
theorem run_kput (w:World) (t k e:TypeId) (ht:P.underlying t=some (.map k e)) (hk:P.underlying k=some (.int .i64)) (b:Nat) (vs:List Value) (hb:qmm w b vs) (val:Value) :
  ∃ w',(Instr.mapUpdate t (.map (some b)) (.int .i64 ((vs.length+1:Nat):Int)) val).run P w=.ok () w'∧qmm w' b (vs++[val])∧w.grownBy w' (some b):=by
 have hs:=MapKept.heap_set (o':=.map ((kEnts vs 0).toArray.push ⟨.int .i64 ((vs.length+1:Nat):Int),val,vs.length⟩) (vs.length+1)) hb
 refine⟨_,run_put_new w t k e ht hk b _ _ hb _ val (kEnts_new vs 0 0 vs.length (by omega)),?_,rfl,rfl,rfl,by simp,fun k hk hne=>hs.2 k (fun e=>hne (by rw[e]))⟩
 unfold qmm
 rw[kEnts_snoc,List.length_append,Nat.zero_add]
 simpa using hs.1
theorem run_kget (w:World) (t k e:TypeId) (ht:P.underlying t=some (.map k e)) (hk:P.underlying k=some (.int .i64)) (b:Nat) (vs:List Value) (hb:qmm w b vs) (s:Nat) (v:Value) (hv:vs[s]?=some v) :
  (Instr.lookup t (.map (some b)) (.int .i64 ((s+1:Nat):Int)) false).run P w=.ok v w:=by
 have hf:=kEnts_find vs 0 0 s v hv
 exact run_get_old w t k e ht hk b _ _ hb _ s v (by simpa using hf)
theorem jwj {w:World} {ops:Array Oper} {rest:List Oper} {o:Oper} {a:Act} {Q:Exit→Act→World→Prop} (hg:o.guard=none) (m x v:Operand) (t:TypeId) (hop:o.op=Op.insert t m x v)
  (k e:TypeId) (ht:P.underlying t=some (.map k e)) (hk:P.underlying k=some (.int .i64)) (b:Nat) (vs:List Value) (hm:a.eval m=.map (some b)) (hb:qmm w b vs) (key:Int) (val:Value) (hx:a.eval x=.int .i64 key) (hkey:key=((vs.length+1:Nat):Int)) (hv:a.eval v=val)
  (hK:∀ w',qmm w' b (vs++[val])→w.grownBy w' (some b)→wpList P ops Q rest (a.put o.dst undef) w'):wpList P ops Q (o::rest) a w:=by
 refine wpList_plain hg fun K' hK'=>?_
 obtain⟨w',hrun,r1,r2⟩:=run_kput w t k e ht hk b vs hb val
 rw[←hkey] at hrun
 unfold Oper.wp
 simp[execOp,hop,hm,hx,hv,hrun,Result.andThen]
 exact hK' _ _ (hK w' r1 r2)
end
theorem qmm.grow {w w':World} {b:Nat} {vs:List Value} (h:qmm w b vs) (hb:Below w.heap.size w w'):qmm w' b vs:=(hb.block b (Array.getElem?_eq_some_iff.1 h).1).trans h
def DoFn (W:Nat) (w:World) (fv:Value) (s:Nat):Prop :=
 ∃ (K:Nat) (cap:Array Value),fv=.func (.func K) #[] cap∧Enters prog K∧∀ (w':World) (l:List UInt8) (v:Value),jdj w w'→TabA w'→jjz l v w'→l.length≤1000 →
  Calls prog K (#[v,.int .i64 (W:Int)]++cap) w' (fun e w''=>∃ m,doR W s l m∧qmd w' m e w'')
def qwg (W:Nat) (w:World) (fv:Value) (s:Nat):Prop :=
 ∃ (K:Nat) (cap:Array Value),fv=.func (.func K) #[] cap∧Enters prog K∧∀ (w':World) (l:List UInt8) (v:Value) (raw:Nat),jdj w w'→jjz l v w'→l.length≤90000→(raw≤90000∨l.length≤5000)→raw≤16777216 →
  Calls prog K (#[v,.int .i64 (W:Int),.int .i64 (raw:Int)]++cap) w' (UndoAns w' (jxd W raw s l))
theorem DoFn.grow {W s:Nat} {w w1:World} {fv:Value} (h:DoFn W w fv s) (hb:jdj w w1):DoFn W w1 fv s:=by
 obtain⟨K,cap,rfl,hE,hC⟩:=h
 exact⟨K,cap,rfl,hE,fun w' l v hb' ht hv hl=>hC w' l v (hb.trans hb') ht hv hl⟩
theorem qwg.grow {W s:Nat} {w w1:World} {fv:Value} (h:qwg W w fv s) (hb:jdj w w1):qwg W w1 fv s:=by
 obtain⟨K,cap,rfl,hE,hC⟩:=h
 exact⟨K,cap,rfl,hE,fun w' l v raw hb' hv hl h6 hr=>hC w' l v raw (hb.trans hb') hv hl h6 hr⟩
theorem DoFn.bytes {W s:Nat} {w:World} {fv:Value} {f:List UInt8→List UInt8} (h:qmk W w fv f) (hd:∀ l,doR W s l (f l)):DoFn W w fv s:=by
 obtain⟨K,cap,rfl,hE,hC⟩:=h
 exact⟨K,cap,rfl,hE,fun w' l v hb _ hv hl=>(hC w' l v hb hv (by omega)).mono fun _ _ hq=>⟨_,hd l,hq⟩⟩
def qdf (W:Nat) (w:World) (v:Value) (s:Nat):Prop:=∃ d u,v=.agg #[d,u]∧DoFn W w d s∧qwg W w u s
theorem qdf.grow {W s:Nat} {w w1:World} {v:Value} (h:qdf W w v s) (hb:jdj w w1):qdf W w1 v s:=by
 obtain⟨d,u,rfl,h1,h2⟩:=h
 exact⟨d,u,rfl,h1.grow hb,h2.grow hb⟩
theorem step_size:(prog.info? 39).map (·.size)=some 2:=by kernel_rfl
theorem step_end {w':World} {p:Nat} {tmps:Array Value} {fn:Func} {q:Tmp} (hres:fn.results=#[.cell q 39]) {v0 v1:Value} (hp:tmps.getD q undef=.pointer (some ⟨p,0,none⟩)) (hk:Blk w' p 39 [v0,v1]):(results fn tmps).run prog w'=.ok (.agg #[v0,v1]) w' :=
 results_cell_row hres tmps w' p 39 _ (0,0) _ hp hk underlying39 rfl step_size
theorem qwg.many {W s:Nat} {f:List UInt8→List UInt8} {w:World} {fu:Value} (hu:qmk W w fu f) (hun:∀ raw l,jxd W raw s l=some (f l)) (g:Nat) (hg:Blk w g 37 [fu]) :
  qwg W w (.func (.func 46) #[] #[.pointer (some ⟨g,0,none⟩)]) s :=
 ⟨_,_,rfl,enters_of func46 (by kernel_rfl) rfl,fun w' l v raw hb hv hl _ _=>by
  rw[hun]
  exact asMany1_any fu f w hu g l v raw w' hb ((hb g _).2 hg) hv hl⟩
theorem asMany_raw (Kd:Nat) (capd:Array Value) (Ku:Nat) (capu:Array Value) (w:World) :
  Calls prog 28 #[.func (.func Kd) #[] capd,.func (.func Ku) #[] capu] w fun e w'=>e=.returned (.agg #[.func (.func Kd) #[] capd,.func (.func 46) #[] #[.pointer (some ⟨w.heap.size,0,none⟩)]])
   ∧ Blk w' w.heap.size 37 [.func (.func Ku) #[] capu]∧Below w.heap.size w w':=by
 go_enter func28,ntmps28
 go_wp2
 obtain⟨w1,hw1⟩:∃ w1,w1=w.alloc (.cells #[Value.func (Fn.func Ku) #[] capu] 37):=⟨_,rfl⟩
 have hs1:w1.heap.size=w.heap.size+1:=by rw[hw1];simp
 have hb1:Below w.heap.size w w1:=by rw[hw1];exact (Below.refl _ _).alloc jw _
 have hk1:Blk w1 w.heap.size 37 [.func (.func Ku) #[] capu]:=by rw[hw1];exact heap_alloc_new w _
 rw[←hw1,←hs1]
 have hk2:Blk (w1.alloc (.cells #[Value.func (Fn.func Kd) #[] capd,Value.func (Fn.func 46) #[] #[Value.pointer (some ⟨w.heap.size,0,none⟩)]] 39)) w1.heap.size 39 [.func (.func Kd) #[] capd,.func (.func 46) #[] #[.pointer (some ⟨w.heap.size,0,none⟩)]]:=heap_alloc_new w1 _
 have hb2:Below w1.heap.size w1 (w1.alloc (.cells #[Value.func (Fn.func Kd) #[] capd,Value.func (Fn.func 46) #[] #[Value.pointer (some ⟨w.heap.size,0,none⟩)]] 39)):=(Below.refl _ _).alloc jw _
 exact bodyPost_ret (step_end results28 rfl hk2) rfl ⟨rfl,hk1.grow hb2,hb1.trans (hb2.mono (by omega))⟩
theorem qjy (K:Nat) (w:World) :
  Calls prog 38 #[.func (.func K) #[] #[]] w fun e w'=>e=.returned (.func (.func 65) #[] #[.pointer (some ⟨w.heap.size,0,none⟩)])∧Blk w' w.heap.size 51 [.func (.func K) #[] #[]]∧Below w.heap.size w w':=by
 go_enter func38,ntmps38
 go_wp2
 go_ret
 exact⟨rfl,heap_alloc_new w _,(Below.refl _ _).alloc jw _⟩
theorem jgd {W s:Nat} (hW:IsW W) (K1 K2:Nat) (f g:List Nat→List Nat) (h1:jkx W K1 f) (h2:jkx W K2 g) (hd:∀ l,doR W s l (through f W l)) (hu:∀ raw l,jxd W raw s l=some (through g W l)) (w:World) :
  Calls prog 19 #[.func (.func K1) #[] #[],.func (.func K2) #[] #[]] w fun e w'=>∃ v,e=.returned v∧qdf W w' v s∧Below w.heap.size w w':=by
 have C1:=jq (fun (w':World)=>qjy K1 w')
 have C2:=jq (fun (w':World)=>qjy K2 w')
 have C3:=jq (fun (Kd:Nat) (capd:Array Value) (Ku:Nat) (capu:Array Value) (w':World)=>asMany_raw Kd capd Ku capu w')
 have HU:=jq hu
 have H1:=jq h1
 have H2:=jq h2
 have HD:=jq hd
 have HW:=jq hW
 have hb0:Below w.heap.size w (w.alloc (.cells #[Value.nilFunc,Value.nilFunc] 39)):=(Below.refl _ _).alloc jw _
 have hk0:Blk (w.alloc (.cells #[Value.nilFunc,Value.nilFunc] 39)) w.heap.size 39 [Value.nilFunc,Value.nilFunc]:=heap_alloc_new w _
 have HB0:=jq hb0
 have HK0:=jq hk0
 clear h1 h2 hd hW hu hb0 hk0
 go_enter func19,ntmps19
 go_wp2_with fail
 refine (C1.out _).mono ?_
 rintro e w1 ⟨rfl,hk1,hb1⟩
 obtain⟨g1,hg1⟩:∃ g1,g1=(w.alloc (.cells #[Value.nilFunc,Value.nilFunc] 39)).heap.size:=⟨_,rfl⟩
 rw[←hg1] at hk1 ⊢
 have HK1:=jq hk1
 have hlt1:w.heap.size<g1:=by rw[hg1];simp
 have HB1:=jq (HB0.out.trans (hb1.mono HB0.out.size))
 have HK01:=jq (HK0.out.grow hb1)
 clear hk1 hb1 HK0 hg1 C1
 go_wp2_with fail
 refine (C2.out _).mono ?_
 rintro e w2 ⟨rfl,hk2,hb2⟩
 obtain⟨g2,hg2⟩:∃ g2,g2=w1.heap.size:=⟨_,rfl⟩
 rw[←hg2] at hk2 ⊢
 have HB2:=jq (HB1.out.trans (hb2.mono HB1.out.size))
 have HK02:=jq (HK01.out.grow hb2)
 have HK12:=jq (HK1.out.grow hb2)
 have HK2:=jq hk2
 have hlt2:w.heap.size<g2:=by rw[hg2];exact HK01.out.lt
 have C4:=jq (C3.out 65 #[.pointer (some ⟨g1,0,none⟩)] 65 #[.pointer (some ⟨g2,0,none⟩)] w2)
 clear hk2 hb2 hg2 C2 C3 HK1 HK01 HB1
 go_wp2_with fail
 refine C4.out.mono ?_
 rintro e w3 ⟨rfl,hkg,hb3⟩
 obtain⟨g3,hg3⟩:∃ g3,g3=w2.heap.size:=⟨_,rfl⟩
 rw[←hg3] at hkg ⊢
 have hlt3:w.heap.size<g3:=by rw[hg3];exact HK02.out.lt
 have HKG:=jq hkg
 have HB3:=jq (HB2.out.trans (hb3.mono HB2.out.size))
 have hk3:=HK02.out.grow hb3
 have HK3:=jq hk3
 have HK13:=jq (HK12.out.grow hb3)
 have HK23:=jq (HK2.out.grow hb3)
 have hc0:=hk3.cell 0
 have hc1:=hk3.cell 1
 have hf0:=hk3.frozen 0
 have hf1:=hk3.frozen 1
 simp only[jy,jx] at hc0 hc1
 clear hk3 hb3 C4 HK02 HB2 hkg hg3 HK12 HK2
 go_wp2
 have two:∀ {k:Nat} {t:TypeId} {cs:List Value} (v0 v1:Value),Blk w3 k t cs→w.heap.size<k→Blk ((w3.setCell ⟨w.heap.size,0,none⟩ v0).setCell ⟨w.heap.size,1,none⟩ v1) k t cs:=fun v0 v1 h hlt=>(h.setOther _ _ (by simp only;omega)).setOther _ _ (by simp only;omega)
 have hb4:∀ (v0 v1:Value),Below w.heap.size w ((w3.setCell ⟨w.heap.size,0,none⟩ v0).setCell ⟨w.heap.size,1,none⟩ v1):=fun v0 v1=>(HB3.out.setCell (p:=⟨w.heap.size,0,none⟩) jw v0).setCell (p:=⟨w.heap.size,1,none⟩) jw v1
 refine bodyPost_ret (step_end results19 rfl ((HK3.out.set_ 0 _).set_ 1 _)) rfl ⟨_,rfl,⟨_,_,rfl,DoFn.bytes (qwp HW.out K1 f H1.out g1 _ (two _ _ HK13.out hlt1)) HD.out,qwg.many (qwp HW.out K2 g H2.out g2 _ (two _ _ HK23.out hlt2)) HU.out g3 (two _ _ HKG.out hlt3)⟩,hb4 _ _⟩
theorem qmm.keeps {w w':World} {b:Nat} {vs:List Value} (h:qmm w b vs) (hg:w.grownBy w' (some b)):jdj w w':=by
 have key:∀ {k:Nat} {t:TypeId} {cs:List Value},Blk w k t cs→Blk w' k t cs:=fun {k t cs} q=>by
  refine (hg.block k q.lt (fun e=>?_)).trans q
  injection e with e
  subst e
  have q2:w.heap[k]?=some (.cells cs.toArray t (0,0)):=q
  rw[show w.heap[k]?=_ from h] at q2
  cases q2
 exact fun k v=>⟨key,key⟩
theorem do_split {W:Nat} (hW:IsW W) (w:World):DoFn W w (.func (.func 29) #[] #[]) 5:=DoFn.bytes (bytes_split hW w) fun _=>.inr (.inr (.inr (.inr (.inl ⟨rfl,rfl⟩))))
theorem step_bits {W:Nat} (hW:IsW W) (w:World):qdf W w (.agg #[.func (.func 31) #[] #[],.func (.func 32) #[] #[]]) 6 :=
 ⟨_,_,rfl,⟨_,_,rfl,enters_of func31 (by kernel_rfl) rfl,fun w' l v _ ht hv hl=>asBits_any hW l v w' hv hl ht⟩,
  ⟨_,_,rfl,enters_of func32 (by kernel_rfl) rfl,fun w' l v raw _ hv hl hfit hr=>fromBits_any hW l v raw hr w' hv hl hfit⟩⟩
theorem step_runs {W:Nat} (w:World):qdf W w (.agg #[.func (.func 33) #[] #[],.func (.func 34) #[] #[]]) 7 :=
 ⟨_,_,rfl,⟨_,_,rfl,enters_of func33 (by kernel_rfl) rfl,fun w' l v _ _ hv hl=>(asRuns_any l v (W:Int) w' hv (by omega)).mono fun _ _ h=>⟨_,.inr (.inr (.inr (.inr (.inr (.inr ⟨rfl,rfl⟩))))),h⟩⟩,
  ⟨_,_,rfl,enters_of func34 (by kernel_rfl) rfl,fun w' l v raw _ hv hl _ hr=>fromRuns_any l v W raw hr w' hv hl⟩⟩
def KindsAt (W:Nat) (w:World) (b:Nat):Prop:=∃ vs,qmm w b vs∧vs.length=7∧∀ s v,vs[s]?=some v→qdf W w v (s+1)
theorem KindsAt.grow {W b:Nat} {w w':World} (h:KindsAt W w b) (hb:Below w.heap.size w w'):KindsAt W w' b:=by
 obtain⟨vs,h1,h2,h3⟩:=h
 exact⟨vs,h1.grow hb,h2,fun s v hv=>(h3 s v hv).grow (.of_below hb)⟩
theorem kinds_any {W:Nat} (hW:IsW W) (w:World):Calls prog 10 #[] w fun e w'=>∃ b,e=.returned (.map (some b))∧KindsAt W w' b∧Below w.heap.size w w':=by
 have hmm:=@run_makeMap prog
 have C1:=jq (fun (w':World)=>jgd (s:=1) hW 20 21 _ _ (fn_diff hW) (fn_sum hW) (fun _=>.inl ⟨rfl,rfl⟩) (fun _ _=>rfl) w')
 have C2:=jq (fun (w':World)=>jgd (s:=2) hW 22 23 _ _ (fn_second hW) (fn_twice hW) (fun _=>.inr (.inl ⟨rfl,rfl⟩)) (fun _ _=>rfl) w')
 have C3:=jq (fun (w':World)=>jgd (s:=3) hW 24 25 _ _ (fn_fold hW) (fn_unfold hW) (fun _=>.inr (.inr (.inl ⟨rfl,rfl⟩))) (fun _ _=>rfl) w')
 have C4:=jq (fun (w':World)=>jgd (s:=4) hW 26 27 _ _ (fn_flip hW) (fn_back hW) (fun _=>.inr (.inr (.inr (.inl ⟨rfl,rfl⟩)))) (fun _ _=>rfl) w')
 have C5:=jq (fun (w':World)=>asMany_raw 29 #[] 30 #[] w')
 have HW:=jq hW
 have hb0:Below w.heap.size w (w.alloc (.map #[] 0)):=(Below.refl _ _).alloc jw _
 have HM:=jq (show qmm (w.alloc (.map #[] 0)) w.heap.size [] from (MapKept.heap_alloc w _).1)
 obtain⟨b,hbd⟩:∃ b,b=w.heap.size:=⟨_,rfl⟩
 have HB:=jq hb0
 have HBD:=jq hbd
 rw[←hbd] at HM
 clear hW hb0 hbd
 go_enter func10,ntmps10
 go_wp2_with fail
 rw[←HBD.out]
 refine (C1.out _).mono ?_
 rintro e w1 ⟨v1,rfl,hs,hb⟩
 have HB1:=jq (HB.out.trans (hb.mono HB.out.size))
 have HM1:=jq (HM.out.grow hb)
 have HS1:=jq hs
 obtain⟨d1,u1,rfl,⟨Kd1,cd1,rfl,-,-⟩,⟨Ku1,cu1,rfl,-,-⟩⟩:=hs
 clear hb C1 HM HB
 go_wp2_with ((with_reducible show wpList _ _ _ (({ dst:=none,op:=Op.insert _ _ (.const (.int .i64 1)) _,type:=_,pos:=_,after:=_,guard:=_ }:Oper)::_) _ _);go_must (refine jwj rfl (.tmp 1) (.const (.int .i64 1)) (.tmp 2) 32 rfl 3 39 underlying32 underlying3 b _ rfl HM1.out 1 _ rfl rfl rfl ?_;intro w1p hm hg;have HM1p:=jq hm;have HF:=jq (HM1.out.keeps hg);have HB1p:=jq (HB1.out.grown hg HB1.out.size (fun k hk=>by cases hk;exact Nat.le_of_eq HBD.out.symm));clear hm hg;have HS1:=jq (HS1.out.grow HF.out);clear HF HM1 HB1))
 refine (C2.out _).mono ?_
 rintro e w2 ⟨v2,rfl,hs,hb⟩
 have HB2:=jq (HB1p.out.trans (hb.mono HB1p.out.size))
 have HM2:=jq (HM1p.out.grow hb)
 have HS1:=jq (HS1.out.grow (.of_below hb))
 have HS2:=jq hs
 obtain⟨d2,u2,rfl,⟨Kd2,cd2,rfl,-,-⟩,⟨Ku2,cu2,rfl,-,-⟩⟩:=hs
 clear hb C2 HM1p HB1p
 go_wp2_with ((with_reducible show wpList _ _ _ (({ dst:=none,op:=Op.insert _ _ (.const (.int .i64 2)) _,type:=_,pos:=_,after:=_,guard:=_ }:Oper)::_) _ _);go_must (refine jwj rfl (.tmp 1) (.const (.int .i64 2)) (.tmp 3) 32 rfl 3 39 underlying32 underlying3 b _ rfl HM2.out 2 _ rfl rfl rfl ?_;intro w2p hm hg;have HM2p:=jq hm;have HF:=jq (HM2.out.keeps hg);have HB2p:=jq (HB2.out.grown hg HB2.out.size (fun k hk=>by cases hk;exact Nat.le_of_eq HBD.out.symm));clear hm hg;have HS1:=jq (HS1.out.grow HF.out);have HS2:=jq (HS2.out.grow HF.out);clear HF HM2 HB2))
 refine (C3.out _).mono ?_
 rintro e w3 ⟨v3,rfl,hs,hb⟩
 have HB3:=jq (HB2p.out.trans (hb.mono HB2p.out.size))
 have HM3:=jq (HM2p.out.grow hb)
 have HS1:=jq (HS1.out.grow (.of_below hb))
 have HS2:=jq (HS2.out.grow (.of_below hb))
 have HS3:=jq hs
 obtain⟨d3,u3,rfl,⟨Kd3,cd3,rfl,-,-⟩,⟨Ku3,cu3,rfl,-,-⟩⟩:=hs
 clear hb C3 HM2p HB2p
 go_wp2_with ((with_reducible show wpList _ _ _ (({ dst:=none,op:=Op.insert _ _ (.const (.int .i64 3)) _,type:=_,pos:=_,after:=_,guard:=_ }:Oper)::_) _ _);go_must (refine jwj rfl (.tmp 1) (.const (.int .i64 3)) (.tmp 4) 32 rfl 3 39 underlying32 underlying3 b _ rfl HM3.out 3 _ rfl rfl rfl ?_;intro w3p hm hg;have HM3p:=jq hm;have HF:=jq (HM3.out.keeps hg);have HB3p:=jq (HB3.out.grown hg HB3.out.size (fun k hk=>by cases hk;exact Nat.le_of_eq HBD.out.symm));clear hm hg;have HS1:=jq (HS1.out.grow HF.out);have HS2:=jq (HS2.out.grow HF.out);have HS3:=jq (HS3.out.grow HF.out);clear HF HM3 HB3))
 refine (C4.out _).mono ?_
 rintro e w4 ⟨v4,rfl,hs,hb⟩
 have HB4:=jq (HB3p.out.trans (hb.mono HB3p.out.size))
 have HM4:=jq (HM3p.out.grow hb)
 have HS1:=jq (HS1.out.grow (.of_below hb))
 have HS2:=jq (HS2.out.grow (.of_below hb))
 have HS3:=jq (HS3.out.grow (.of_below hb))
 have HS4:=jq hs
 obtain⟨d4,u4,rfl,⟨Kd4,cd4,rfl,-,-⟩,⟨Ku4,cu4,rfl,-,-⟩⟩:=hs
 clear hb C4 HM3p HB3p
 go_wp2_with ((with_reducible show wpList _ _ _ (({ dst:=none,op:=Op.insert _ _ (.const (.int .i64 4)) _,type:=_,pos:=_,after:=_,guard:=_ }:Oper)::_) _ _);go_must (refine jwj rfl (.tmp 1) (.const (.int .i64 4)) (.tmp 5) 32 rfl 3 39 underlying32 underlying3 b _ rfl HM4.out 4 _ rfl rfl rfl ?_;intro w4p hm hg;have HM4p:=jq hm;have HF:=jq (HM4.out.keeps hg);have HB4p:=jq (HB4.out.grown hg HB4.out.size (fun k hk=>by cases hk;exact Nat.le_of_eq HBD.out.symm));clear hm hg;have HS1:=jq (HS1.out.grow HF.out);have HS2:=jq (HS2.out.grow HF.out);have HS3:=jq (HS3.out.grow HF.out);have HS4:=jq (HS4.out.grow HF.out);clear HF HM4 HB4))
 refine (C5.out _).mono ?_
 rintro e w5 ⟨rfl,hk,hb⟩
 have hs:qdf W w5 (.agg #[.func (.func 29) #[] #[],.func (.func 46) #[] #[.pointer (some ⟨w4p.heap.size,0,none⟩)]]) 5:=⟨_,_,rfl,do_split HW.out w5,qwg.many (bytes_join HW.out w5) (fun _ _=>rfl) _ hk⟩
 clear hk
 have HB5:=jq (HB4p.out.trans (hb.mono HB4p.out.size))
 have HM5:=jq (HM4p.out.grow hb)
 have HS1:=jq (HS1.out.grow (.of_below hb))
 have HS2:=jq (HS2.out.grow (.of_below hb))
 have HS3:=jq (HS3.out.grow (.of_below hb))
 have HS4:=jq (HS4.out.grow (.of_below hb))
 have HS5:=jq hs
 clear hb C5 HM4p HB4p hs
 have HS6:=jq (step_bits HW.out w5)
 have HS7:=jq (step_runs (W:=W) w5)
 go_wp2_with (first
  | ((with_reducible show wpList _ _ _ (({ dst:=none,op:=Op.insert _ _ (.const (.int .i64 5)) _,type:=_,pos:=_,after:=_,guard:=_ }:Oper)::_) _ _);go_must (refine jwj rfl (.tmp 1) (.const (.int .i64 5)) (.tmp 6) 32 rfl 3 39 underlying32 underlying3 b _ rfl HM5.out 5 _ rfl rfl rfl ?_;intro w5p hm hg;have HM6:=jq hm;have HF5:=jq (HM5.out.keeps hg);have HB6:=jq (HB5.out.grown hg HB5.out.size (fun k hk=>by cases hk;exact Nat.le_of_eq HBD.out.symm));clear hm hg HM5 HB5))
  | ((with_reducible show wpList _ _ _ (({ dst:=none,op:=Op.insert _ _ (.const (.int .i64 6)) _,type:=_,pos:=_,after:=_,guard:=_ }:Oper)::_) _ _);go_must (refine jwj rfl (.tmp 1) (.const (.int .i64 6)) (.tmp 7) 32 rfl 3 39 underlying32 underlying3 b _ rfl HM6.out 6 _ rfl rfl rfl ?_;intro w6p hm hg;have HM7:=jq hm;have HF6:=jq (HM6.out.keeps hg);have HB7:=jq (HB6.out.grown hg HB6.out.size (fun k hk=>by cases hk;exact Nat.le_of_eq HBD.out.symm));clear hm hg HM6 HB6))
  | ((with_reducible show wpList _ _ _ (({ dst:=none,op:=Op.insert _ _ (.const (.int .i64 7)) _,type:=_,pos:=_,after:=_,guard:=_ }:Oper)::_) _ _);go_must (refine jwj rfl (.tmp 1) (.const (.int .i64 7)) (.tmp 8) 32 rfl 3 39 underlying32 underlying3 b _ rfl HM7.out 7 _ rfl rfl rfl ?_;intro w7p hm hg;have HM8:=jq hm;have HF7:=jq (HM7.out.keeps hg);have HB8:=jq (HB7.out.grown hg HB7.out.size (fun k hk=>by cases hk;exact Nat.le_of_eq HBD.out.symm));clear hm hg HM7 HB7)))
 go_ret
 have hf:jdj w5 w7p:=HF5.out.trans (HF6.out.trans HF7.out)
 refine⟨b,rfl,⟨_,HM8.out,rfl,?_⟩,HB8.out⟩
 intro s v hv
 rcases s with _ | _ | _ | _ | _ | _ | _ | s
 ·obtain rfl:=Option.some.inj hv
  exact HS1.out.grow hf
 ·obtain rfl:=Option.some.inj hv
  exact HS2.out.grow hf
 ·obtain rfl:=Option.some.inj hv
  exact HS3.out.grow hf
 ·obtain rfl:=Option.some.inj hv
  exact HS4.out.grow hf
 ·obtain rfl:=Option.some.inj hv
  exact HS5.out.grow hf
 ·obtain rfl:=Option.some.inj hv
  exact HS6.out.grow hf
 ·obtain rfl:=Option.some.inj hv
  exact HS7.out.grow hf
 ·simp at hv
theorem qvm {W:Nat}:∀ {A:List Nat} {l m:List UInt8},(∀ s∈A,1≤s∧s≤5)→goR W A l m→m.length=l.length
 | [],l,m,_,h=>by cases h;rfl
 | s::t,l,m,hA,h=>by
  obtain⟨k,h1,h2⟩:=h
  rw[qvm (fun x hx=>hA x (by simp[hx])) h2,qvj (hA s (by simp)) h1]
theorem steps_head:∀ (n:Fin 11) (k:Fin 4),k.val<(jjr n.val).length→(((jjr n.val).take k.val).all fun s=>decide (1≤s)&&decide (s≤5))=true∧1≤(jjr n.val).getD k.val 0∧(jjr n.val).getD k.val 0≤7:=by decide
theorem qqs (n:Nat):(jjr n).length≤4:=by
 unfold jjr
 split <;> decide
theorem steps_in {n k:Nat} (hn:n≤10) (hk:k<(jjr n).length):(∀ s∈(jjr n).take k,1≤s∧s≤5)∧∃ s,(jjr n)[k]?=some (s+1)∧s<7:=by
 have h4:=qqs n
 obtain⟨h1,h2,h3⟩:=steps_head ⟨n,by omega⟩ ⟨k,by omega⟩ hk
 simp only at h1 h2 h3
 refine⟨fun s hs=>?_,(jjr n).getD k 0 - 1,?_,by omega⟩
 ·have:=List.all_eq_true.1 h1 s hs
  simpa using this
 ·rw[List.getD_eq_getElem?_getD] at h2 ⊢
  rw[List.getElem?_eq_getElem hk] at h2 ⊢
  simp only[Option.getD_some] at h2 ⊢
  rw[show (jjr n)[k] - 1+1=(jjr n)[k] by omega]
def GoRel (w:World) (W:Nat) (L:List Nat) (l:List UInt8) (o i:Value) (wr:World):Prop :=
 ∃ (k:Nat) (m:List UInt8),k≤L.length∧i=.int .i64 (k:Int)∧Hid (goR W (L.take k) l m)∧jjz m o wr∧Below w.heap.size w wr
theorem run_step {W b:Nat} {w:World} (h:KindsAt W w b) {s:Nat} (hs:s<7):∃ d u,(Instr.lookup 32 (.map (some b)) (.int .i64 ((s+1:Nat):Int)) false).run prog w=.ok (.agg #[d,u]) w∧DoFn W w d (s+1)∧qwg W w u (s+1):=by
 obtain⟨vs,h1,h2,h3⟩:=h
 have hv:vs[s]?=some (vs[s]'(by omega)):=List.getElem?_eq_getElem (by omega)
 obtain⟨d,u,he,hd,hu⟩:=h3 s _ hv
 refine⟨d,u,?_,hd,hu⟩
 rw[←he]
 exact run_kget w _ 3 39 underlying32 underlying3 b vs h1 s _ hv
theorem field_do (d u:Value) (w:World):(Instr.field 39 (.agg #[d,u]) 0).run prog w=.ok d w:=by
 have h1:=run_isAgg_plain (P:=prog) underlying37 rfl w
 simp[Instr.field,run_underlying underlying39,part,asAgg,h1,Result.andThen,Sem.run_pure]
theorem field_undo (d u:Value) (w:World):(Instr.field 39 (.agg #[d,u]) 1).run prog w=.ok u w:=by
 have h1:=run_isAgg_plain (P:=prog) underlying26 rfl w
 simp[Instr.field,run_underlying underlying39,part,asAgg,h1,Result.andThen,Sem.run_pure]
theorem go_right {W:Nat} (hW:IsW W) (n:Nat) (hn:n≤10) (l:List UInt8) (v:Value) (w:World) (hv:jjz l v w) (hl:l.length≤1000) (ht:TabA w) :
  Calls prog 5 #[v,.int .i64 (W:Int),.int .i64 (n:Int)] w fun e w'=>∃ m u,goR W (jjr n) l m∧e=.returned (.tuple #[u,.int .i64 0])∧jjz m u w'∧Below w.heap.size w w':=by
 have hmay:mayBR (W:Int) (n:Int) (l.length:Int)=true:=by
  unfold mayBR sizedB
  rw[←hW.right]
  simp
  omega
 have c1:=fun (w':World)=>may_any (W:Int) (n:Int) (l.length:Int) w'
 rw[hmay] at c1
 have C1:=jq c1
 have C2:=jq (fun (w':World)=>kinds_any hW w')
 have c4:=fun (w':World)=>qkf (n:Int) w'
 rw[show jxm (n:Int)=jjr n by unfold jxm;rw[if_pos ⟨by omega,by omega⟩,Int.toNat_natCast]] at c4
 obtain⟨L,hL⟩:∃ L,L=jjr n:=⟨_,rfl⟩
 have hst:=fun (k:Nat) (hk:k<(jjr n).length)=>steps_in hn hk
 have hl4:=qqs n
 rw[←hL] at c4 hst hl4 ⊢
 have C4:=jq c4
 have HST:=jq hst
 have HT:=jq ht
 have HV:=jq hv
 obtain⟨A,c,rfl,hc,-⟩:=hv
 have C3:=jq (fun (w':World) (h:jjz l (.slice A l.length c) w')=>qmh l _ w' h (by omega))
 clear c1 c4 hmay hL hst ht hn hW
 go_enter func5,ntmps5
 go_wp2_with fail
 refine (C1.out _).mono ?_
 rintro e w' ⟨rfl,rfl⟩
 go_wp2_with fail
 refine (C2.out _).mono ?_
 rintro e w1 ⟨b,rfl,hk1,hb1⟩
 have HK1:=jq hk1
 have HB1:=jq hb1
 have C5:=jq (C3.out w1 (HV.out.grow hb1))
 clear hk1 hb1 C1 C2 C3 HV
 go_wp2_with fail
 refine C5.out.mono ?_
 rintro e w2 ⟨v2,rfl,hr2,hb2⟩
 have HK2:=jq (HK1.out.grow hb2)
 have HB2:=jq (HB1.out.trans (hb2.mono HB1.out.size))
 have HR2:=jq hr2.bytes
 clear hr2 hb2 C5 HK1 HB1
 go_wp2_with fail
 refine (C4.out _).mono ?_
 rintro e w3 ⟨v3,rfl,h3,hb3⟩
 have HK3:=jq (HK2.out.grow hb3)
 have HB3:=jq (HB2.out.trans (hb3.mono HB2.out.size))
 have HR3:=jq (HR2.out.grow hb3)
 have HL3:=jq h3
 obtain⟨A3,c3,rfl,hc3,-⟩:=h3
 rw[jzj]
 clear hb3 C4 HK2 HB2 HR2
 rw[jzj] at hc3 HL3
 go_wp2
 go_loopw [9,24] (fun o i wr=>GoRel w3 W L l o i wr) (fun _ i _=>L.length - (intOf i).toNat)
 case atStart=>exact⟨0,l,Nat.zero_le _,rfl,rfl,HR3.out,Below.refl _ _⟩
 case round =>
  obtain⟨k,m,hk,rfl,HG,hm,hb⟩:=hrel
  have HB:=jq hb
  have HM:=jq hm
  obtain⟨Am,cm,rfl,-,-⟩:=hm
  by_cases hlt:k<L.length
  ·obtain⟨hhead,s,hs,hs7⟩:=HST.out k hlt
   have hml:m.length≤1000:=by rw[qvm hhead HG.out];exact hl
   obtain⟨A0,c0,hv0,-,hr0⟩:=HL3.out.grow hb
   injection hv0 with e1 e2 e3
   subst e1 e3
   obtain⟨ab,ao,rfl,hab,hcl⟩:=hr0 k _ (nvs_get L k (s+1) hs)
   obtain⟨d,u,hlk,hd,-⟩:=run_step (HK3.out.grow hb) hs7
   have hsn:Hid (∀ m',doR W (s+1) m m'→goR W (L.take (k+1)) l m'):=fun m' h=>by
    rw[List.take_add_one,hs]
    exact goR_snoc HG.out h
   obtain⟨z,hz⟩:∃ z,z=s+1:=⟨_,rfl⟩
   rw[←hz] at hcl hlk hd hsn
   obtain⟨K,cap,rfl,hE,hC⟩:=hd
   have CD:=jq (hC wr m _ (jdj.refl _) (HT.out.grow (HB3.out.trans (hb.mono HB3.out.size))) HM.out hml)
   have HE:=jq hE
   have hfd:=field_do (.func (.func K) #[] cap) u wr
   have hki:(k:Int)<(L.length:Int):=by omega
   clear hC hE hs hhead hr0 hb HM HG e2 hz hml
   go_wp2_with fail
   rw[HE.out]
   refine CD.out.mono ?_
   rintro e w5 ⟨m',hdo,v5,rfl,h5,hb5⟩
   have H5:=jq h5
   have HB5:=jq (HB.out.trans (hb5.mono HB.out.size))
   have HG5:=jq (hsn.out m' hdo)
   clear h5 hb5 hdo hsn CD hlk hcl hfd
   go_wp2
   go_roundw
   case rel=>exact⟨k+1,m',by omega,by go_num,HG5.out,H5.out,HB5.out⟩
   case measure=>simp[intOf];omega
  ·obtain rfl:k=L.length:=by omega
   rw[List.take_length] at HG
   clear hb HST
   go_wp2
   go_ret2
   exact⟨m,_,HG.out,rfl,HM.out,HB3.out.trans (HB.out.mono HB3.out.size)⟩
attribute [local go_sem] Oper.semAt_some
def IndexRel (l:List Nat) (x:Nat) (w:World) (i:Value) (wr:World):Prop:=∃ k:Nat,k≤l.length∧i=.int .i64 (k:Int)∧x∉l.take k∧wr=w
def IndexAns (l:List Nat) (x:Nat) (w:World) (e:Ending) (w':World):Prop:=∃ i:Int,e=.returned (.int .i64 i)∧w=w'∧(0≤i↔x∈l)
theorem index_any (l:List Nat) (x:Nat) (v:Value) (w:World) (hv:jzm (nvsI l) v w) (hb:l.length≤1000) (hlx:∀ y∈l,y≤1000) :
  Calls prog 64 #[v,.int .i64 (x:Int)] w (IndexAns l x w):=by
 obtain⟨A,c,rfl,hc,hr⟩:=hv
 have HLX:=jq hlx
 rw[jzj] at hc ⊢
 clear hlx
 go_enter func64,ntmps64
 go_wp2
 go_loopw [8] (fun i wr=>IndexRel l x w i wr) (fun i _=>l.length - (intOf i).toNat)
 case atStart=>exact⟨0,Nat.zero_le _,rfl,by simp,rfl⟩
 case round =>
  obtain⟨k,hk,rfl,hnot,rfl⟩:=hrel
  have HN:=jq hnot
  clear hnot
  by_cases hlt:k<l.length
  ·obtain⟨y,hy⟩:∃ y,l[k]?=some y:=⟨l[k],List.getElem?_eq_getElem hlt⟩
   obtain⟨ab,ao,rfl,hab,hcl⟩:=hr k _ (nvs_get l k y hy)
   have hy1:y≤1000:=HLX.out y (List.mem_of_getElem? hy)
   have HY:=jq hy
   clear hy hab
   by_cases hxy:x=y
   ·subst hxy
    go_wp2
    go_ret
    exact⟨_,rfl,rfl,⟨fun _=>List.mem_of_getElem? HY.out,fun _=>by omega⟩⟩
   ·have hne:(((x:Nat):Int)==((y:Nat):Int))=false:=by rw[beq_eq_false_iff_ne];omega
    go_wp2
    go_roundw
    case rel =>
     refine⟨k+1,by omega,by go_num,?_,rfl⟩
     rw[List.take_add_one,HY.out]
     simp only[Option.toList_some,List.mem_append,List.mem_singleton,not_or]
     exact⟨HN.out,hxy⟩
    case measure=>simp[intOf];omega
  ·obtain rfl:k=l.length:=by omega
   rw[List.take_length] at HN
   go_wp2
   go_ret
   exact⟨_,rfl,rfl,⟨fun h=>absurd h (by decide),fun h=>absurd h HN.out⟩⟩
theorem qkv (l:List Nat) (x:Nat) (v:Value) (w:World) (hv:jzm (nvsI l) v w) (hb:l.length≤1000) (hlx:∀ y∈l,y≤1000) :
  Calls prog 36 #[v,.int .i64 (x:Int)] w fun e w'=>e=.returned (.bool (decide (x∈l)))∧w=w':=by
 have C1:=jq (index_any l x v w hv hb hlx)
 obtain⟨A,c,rfl,hc,hr⟩:=hv
 obtain⟨z,hz⟩:∃ z,z=decide (x∈l):=⟨_,rfl⟩
 rw[←hz]
 have HZ:=jq hz
 clear hr hz hlx
 go_enter func36,ntmps36
 go_wp2_with fail
 refine C1.out.mono ?_
 rintro e w' ⟨i,rfl,rfl,hi⟩
 have HI:=jq hi
 clear hi C1
 go_wp2
 go_ret
 exact⟨ret_bool (by rw[HZ.out,decide_eq_decide];exact HI.out),rfl⟩
def keepB (l:List Nat):Bool := !decide (6∈l) && !decide (7∈l)
theorem jbs (l:List Nat) (v:Value) (w:World) (hv:jzm (nvsI l) v w) (hb:l.length≤1000) (hlx:∀ y∈l,y≤1000) :
  Calls prog 16 #[v] w fun e w'=>e=.returned (.bool (keepB l))∧w=w':=by
 have c1:=qkv l 6 v w hv hb hlx
 have c2:=qkv l 7 v w hv hb hlx
 obtain⟨A,c,rfl,hc,hr⟩:=hv
 unfold keepB
 obtain⟨a,ha⟩:∃ a,a=decide (6∈l):=⟨_,rfl⟩
 obtain⟨b,hbd⟩:∃ b,b=decide (7∈l):=⟨_,rfl⟩
 rw[←ha] at c1 ⊢
 rw[←hbd] at c2 ⊢
 have C1:=jq c1
 have C2:=jq c2
 clear hr ha hbd c1 c2 hlx
 cases a with
 | true =>
  go_enter func16,ntmps16
  go_wp2_with fail
  refine C1.out.mono ?_
  rintro e w' ⟨rfl,rfl⟩
  go_wp2
  go_ret
  exact⟨rfl,rfl⟩
 | false =>
  go_enter func16,ntmps16
  go_wp2_with fail
  refine C1.out.mono ?_
  rintro e w' ⟨rfl,rfl⟩
  go_wp2_with fail
  refine C2.out.mono ?_
  rintro e w' ⟨rfl,rfl⟩
  go_wp2
  go_ret
  exact⟨by cases b <;> rfl,rfl⟩
end
end Go.Proofs.YtflcmmeoppdhdaaGreatDoor
