/- A region that draws its order, in which some operations, in a row of their own ('calls'), turn the world one behind the other, and all others only read or make memory: G c is what holds once c of .. -/
import Derived.Test.YtflcmmeoppdhdaaGreatDoorQ07
set_option maxHeartbeats 1000000
set_option maxRecDepth 100000
namespace Go.Proofs.YtflcmmeoppdhdaaGreatDoor
section
open Go.RowKit
structure RowS where
 dst:Nat
 need:List Nat
 val:Value
 lo:Nat
 hi:Nat
 call:Option Nat
def rowS:List RowS→Nat→RowS
 | [],_=>⟨0,[],undef,0,0,none⟩
 | r::_,0=>r
 | _::l,k+1=>rowS l k
theorem rowS_get:∀ (rows:List RowS) (k:Nat) (r:RowS),rows[k]?=some r→rowS rows k=r
 | [],_,_,h=>by simp at h
 | _::_,0,_,h=>by simpa [rowS] using h
 | _::l,k+1,r,h=>rowS_get l k r (by simpa using h)
def RowS.lo2 (r:RowS):Nat:=match r.call with | some i=>i+1 | none=>r.lo
def RowS.hi2 (r:RowS):Nat:=match r.call with | some i=>i | none=>r.hi
def NeedV (rows:List RowS) (ev:Operand→Value) (yi:Nat→Option Bool):List Nat→Prop
 | []=>True
 | j::l=>ev (.tmp (rowS rows j).dst)=(rowS rows j).val∧yi j=boolOf (rowS rows j).val∧NeedV rows ev yi l
def qxc (ops:Array Oper) (rows:List RowS) (r:Nat):Bool :=
 rows.length==ops.size&&(List.range ops.size).all fun k =>
  (rowS rows k).dst==jyd ops k&&((rowS rows k).need.all fun j=>((ops[k]?).map fun o=>(jzq o).contains j).getD false) &&
  (match (rowS rows k).call with
   | some i=>decide (i<r)&&(decide (i=0)||(((ops[k]?).map fun o=>(jzq o).any fun j=>decide (i≤(rowS rows j).lo2)).getD false))&&((List.range ops.size).all fun j=>j==k||(rowS rows j).call != some i)
   | none=>(decide ((rowS rows k).lo=0)||(((ops[k]?).map fun o=>(jzq o).any fun j=>decide ((rowS rows k).lo≤(rowS rows j).lo2)).getD false)) &&
     (decide ((rowS rows k).hi=r)||(List.range ops.size).any fun m=>decide ((rowS rows m).hi2≤(rowS rows k).hi)&&(((ops[m]?).map fun o=>(jzq o).contains k).getD false)))
def lastCall (rows:List RowS) (r:Nat):Bool:=r==0||rows.any fun x=>x.call==some (r - 1)
section
variable {P:Program} {ops:Array Oper} {a0:Act} {rows:List RowS} {r:Nat} {G:Nat→World→Prop} {Q:Exit→Act→World→Prop}
def OblS (P:Program) (G:Nat→World→Prop) (rows:List RowS) (outs:List (Nat × Value)) (x:RowS) (o:Oper):Prop :=
 ∀ (ev:Operand→Value) (yi:Nat→Option Bool) (w:World) (c:Nat),G c w→(match x.call with | some i=>c=i | none=>x.lo≤c∧c≤x.hi)→(∀ c,ev (.const c)=c)→(∀ f,ev (.func f)=.func (.func f) #[] #[])→jyk ev outs→NeedV rows ev yi x.need →
  if Region.wanted o yi=true then jzv P o ev w (fun v w'=>v=x.val∧G (match x.call with | some i=>i+1 | none=>c) w') else x.val=undef∧G (match x.call with | some i=>i+1 | none=>c) w
def jvk (P:Program) (G:Nat→World→Prop) (rows:List RowS) (outs:List (Nat × Value)):List RowS→List Oper→Prop
 | x::rs,o::os=>OblS P G rows outs x o∧jvk P G rows outs rs os
 | _,_=>True
theorem jvk.cons {P:Program} {G:Nat→World→Prop} {rows:List RowS} {outs:List (Nat × Value)} {x:RowS} {rs:List RowS} {o:Oper} {os:List Oper} (h:OblS P G rows outs x o) (hs:jvk P G rows outs rs os):jvk P G rows outs (x::rs) (o::os):=⟨h,hs⟩
theorem jvk.nil {P:Program} {G:Nat→World→Prop} {rows:List RowS} {outs:List (Nat × Value)}:jvk P G rows outs [] []:=trivial
theorem jvk.at_ {rows:List RowS} {outs:List (Nat × Value)}:∀ (rs:List RowS) (l:List Oper),jvk P G rows outs rs l→∀ (k:Nat) (x:RowS) (o:Oper),rs[k]?=some x→l[k]?=some o→OblS P G rows outs x o
 | [],_,_,_,_,_,h,_=>by simp at h
 | _::_,[],_,_,_,_,_,h=>by simp at h
 | x::rs,o::l,h,0,_,_,hx,ho=>by simp at hx ho;subst hx ho;exact h.1
 | x::rs,o::l,h,k+1,_,_,hx,ho=>jvk.at_ rs l h.2 k _ _ (by simpa using hx) (by simpa using ho)
structure MidS (ops:Array Oper) (a0:Act) (rows:List RowS) (r:Nat) (G:Nat→World→Prop) (listed:Array Bool) (a:Act) (w:World) (c:Nat):Prop where
 size:listed.size=ops.size
 defers:a.defers=a0.defers
 tmps:a.tmps.size=a0.tmps.size
 out:∀ t,(List.range ops.size).all (fun k=>jyd ops k != t)=true→a.tmps[t]?=a0.tmps[t]?
 closed:∀ k o,ops[k]?=some o→listed.getD k false=true→∀ j∈jzq o,listed.getD j false=true
 done:∀ k,listed.getD k false=true→a.eval (.tmp (jyd ops k))=(rowS rows k).val
 lows:∀ k,listed.getD k false=true→(rowS rows k).lo2≤c
 highs:∀ k,k<ops.size→listed.getD k false=false→c≤(rowS rows k).hi2
 most:c≤r
 glob:G c w
theorem rowS_ok (hrows:qxc ops rows r=true) {k:Nat} {o:Oper} (ho:ops[k]?=some o) :
  (rowS rows k).dst=jyd ops k∧(∀ j∈(rowS rows k).need,j∈jzq o) ∧
  (∀ i,(rowS rows k).call=some i→i<r∧(i=0∨∃ j∈jzq o,i≤(rowS rows j).lo2)∧∀ j,j<ops.size→j≠k→(rowS rows j).call≠some i) ∧
  ((rowS rows k).call=none→((rowS rows k).lo=0∨∃ j∈jzq o,(rowS rows k).lo≤(rowS rows j).lo2)∧((rowS rows k).hi=r∨∃ m o',ops[m]?=some o'∧(rowS rows m).hi2≤(rowS rows k).hi∧k∈jzq o')):=by
 have hk:k<ops.size:=(Array.getElem?_eq_some_iff.1 ho).1
 simp only[qxc,Bool.and_eq_true] at hrows
 have h:=List.all_eq_true.1 hrows.2 k (List.mem_range.2 hk)
 simp only[Bool.and_eq_true,beq_iff_eq,ho,Option.map_some,Option.getD_some] at h
 obtain⟨⟨h1,h2⟩,h3⟩:=h
 refine⟨h1,fun j hj=>by simpa using List.all_eq_true.1 h2 j hj,fun i hi=>?_,fun hn=>?_⟩
 ·rw[hi] at h3
  simp only[Bool.and_eq_true,decide_eq_true_eq,Bool.or_eq_true,List.any_eq_true] at h3
  obtain⟨⟨h4,h5⟩,h6⟩:=h3
  refine⟨h4,h5,fun j hj hne=>?_⟩
  have:=List.all_eq_true.1 h6 j (List.mem_range.2 hj)
  simp only[Bool.or_eq_true,beq_iff_eq,bne_iff_ne] at this
  rcases this with h | h
  ·exact absurd h hne
  ·exact h
 ·rw[hn] at h3
  simp only[Bool.and_eq_true,decide_eq_true_eq,Bool.or_eq_true,List.any_eq_true] at h3
  refine⟨h3.1,h3.2.imp id ?_⟩
  rintro⟨m,hm,h7,h8⟩
  have hm':=List.mem_range.1 hm
  have e:ops[m]?=some ops[m]:=by simp[hm']
  refine⟨m,ops[m],e,h7,?_⟩
  rw[e] at h8
  simpa using h8
theorem MidS.step (hok:qjr ops a0.tmps.size=true) (hac:acyc ops=true) (hrows:qxc ops rows r=true)
  {listed:Array Bool} {a:Act} {w w':World} {c:Nat} (hM:MidS ops a0 rows r G listed a w c) {i:Nat} {o:Oper} (ho:ops[i]?=some o) (hun:listed.getD i true=false) (hp:∀ j∈jzq o,listed.getD j false=true)
  {v:Value} (hv:v=(rowS rows i).val) {c':Nat} (hc':c'=match (rowS rows i).call with | some _=>c+1 | none=>c) (hci:∀ q,(rowS rows i).call=some q→c=q) (hG:G c' w') :
  MidS ops a0 rows r G (listed.setIfInBounds i true) (a.put o.dst v) w' c':=by
 obtain⟨hd,hdlt⟩:=jxv hok ho
 have hi:i<ops.size:=(Array.getElem?_eq_some_iff.1 ho).1
 rw[hd]
 have hset:∀ k,listed.getD k false=true→(listed.setIfInBounds i true).getD k false=true:=by
  intro k hk
  by_cases e:k=i
  ·subst e;simp[Array.getD_eq_getD_getElem?,hM.size,hi]
  ·simpa [Array.getD_eq_getD_getElem?,Array.getElem?_setIfInBounds_ne (Ne.symm e)] using hk
 have hback:∀ k,k≠i→(listed.setIfInBounds i true).getD k false=listed.getD k false:=by
  intro k hk
  simp[Array.getD_eq_getD_getElem?,Array.getElem?_setIfInBounds_ne (Ne.symm hk)]
 have hself:(listed.setIfInBounds i true).getD i false=true:=by simp[Array.getD_eq_getD_getElem?,hM.size,hi]
 have hmono:c≤c':=by
  cases hcl:(rowS rows i).call with
  | none=>rw[hcl] at hc';simp only at hc';omega
  | some q=>rw[hcl] at hc';simp only at hc';omega
 obtain⟨r1,r2,r3,r4⟩:=rowS_ok hrows ho
 refine⟨by simpa using hM.size,hM.defers,by simpa [Act.put] using hM.tmps,fun t ht=>?_,fun k o' ho' hk j hj=>?_,fun k hk=>?_,fun k hk=>?_,?_,?_,hG⟩
 ·rw[←hM.out t ht]
  simp[Act.put,Array.getElem?_setIfInBounds_ne (not_dst ht hi)]
 ·by_cases hki:k=i
  ·subst hki
   rw[ho] at ho'
   injection ho' with ho'
   subst ho'
   exact hset j (hp j hj)
  ·exact hset j (hM.closed k o' ho' (by rw[←hback k hki];exact hk) j hj)
 ·by_cases hki:k=i
  ·subst hki
   rw[eval_put_same (by rw[hM.tmps];exact hdlt)]
   exact hv
  ·have hk':listed.getD k false=true:=by rw[←hback k hki];exact hk
   have hklt:k<ops.size:=by
    rcases Nat.lt_or_ge k ops.size with g | g
    ·exact g
    ·rw[←hM.size] at g;simp[Array.getD_eq_getD_getElem?,Array.getElem?_eq_none g] at hk'
   rw[eval_put_ne (dst_ne hok hi hklt (Ne.symm hki))]
   exact hM.done k hk'
 ·by_cases hki:k=i
  ·subst hki
   cases hcl:(rowS rows k).call with
   | some q =>
    have:=hci q hcl
    rw[hcl] at hc'
    simp only at hc'
    simp only[RowS.lo2,hcl]
    omega
   | none =>
    simp only[RowS.lo2,hcl]
    rcases (r4 hcl).1 with h | ⟨j,hj,h⟩
    ·omega
    ·have:=hM.lows j (hp j hj);omega
  ·have:=hM.lows k (by rw[←hback k hki];exact hk);omega
 ·cases hcl:(rowS rows i).call with
  | none =>
   rw[hcl] at hc'
   simp only at hc'
   subst hc'
   intro k hk hkf
   have hki:k≠i:=by rintro rfl;rw[hself] at hkf;cases hkf
   exact hM.highs k hk (by rw[←hback k hki];exact hkf)
  | some q =>
   rw[hcl] at hc'
   simp only at hc'
   have hcq:=hci q hcl
   obtain⟨hqr,-,huniq⟩:=r3 q hcl
   have key:∀ d k,ops.size - k≤d→k<ops.size→(listed.setIfInBounds i true).getD k false=false→c'≤(rowS rows k).hi2:=by
    intro d
    induction d with
    | zero=>intro k h1 h2;omega
    | succ d ih =>
     intro k h1 hk hkf
     have hki:k≠i:=by rintro rfl;rw[hself] at hkf;cases hkf
     have hkf':listed.getD k false=false:=by rw[←hback k hki];exact hkf
     have hhi:=hM.highs k hk hkf'
     have hok':ops[k]?=some ops[k]:=by simp[hk]
     obtain⟨-,-,-,s4⟩:=rowS_ok hrows hok'
     cases hck:(rowS rows k).call with
     | some p =>
      simp only[RowS.hi2,hck] at hhi ⊢
      have:p≠q:=fun e=>huniq k hk hki (by rw[hck,e])
      omega
     | none =>
      simp only[RowS.hi2,hck]
      rcases (s4 hck).2 with h | ⟨m,o',hm,h5,h6⟩
      ·omega
      ·have hml:m<ops.size:=(Array.getElem?_eq_some_iff.1 hm).1
       have hkm:k<m:=by
        obtain⟨e,he,hek⟩:=List.mem_map.1 h6
        obtain⟨he1,he2⟩:=List.mem_filter.1 he
        have h:=List.all_eq_true.1 hac m (List.mem_range.2 hml)
        have h3:=List.all_eq_true.1 h e (by simpa [hm] using he1)
        simp only[he2,Bool.not_true,Bool.false_or,decide_eq_true_eq] at h3
        omega
       have hmf:(listed.setIfInBounds i true).getD m false=false:=by
        cases hl:(listed.setIfInBounds i true).getD m false with
        | false=>rfl
        | true =>
         exfalso
         by_cases hmi:m=i
         ·subst hmi
          rw[ho] at hm
          injection hm with hm
          subst hm
          have:=hp k h6
          rw[hkf'] at this;cases this
         ·have:=hM.closed m o' hm (by rw[←hback m hmi];exact hl) k h6
          rw[hkf'] at this;cases this
       have:=ih m (by omega) hml hmf
       omega
   exact fun k hk hkf=>key (ops.size - k) k jw hk hkf
 ·cases hcl:(rowS rows i).call with
  | none=>rw[hcl] at hc';simp only at hc';rw[hc'];exact hM.most
  | some q=>rw[hcl] at hc';simp only at hc';have:=hci q hcl;have:=(r3 q hcl).1;omega
theorem needV_say {listed:Array Bool} {a:Act} {w:World} {c:Nat} (hM:MidS ops a0 rows r G listed a w c) (hok:qjr ops a0.tmps.size=true) (hrows:qxc ops rows r=true) :
  ∀ l:List Nat,(∀ j∈l,listed.getD j false=true)→NeedV rows a.eval (yielded ops a.tmps) l
 | [],_=>trivial
 | j::l,h=>by
  have hj:=h j (by simp)
  have hjl:j<ops.size:=by
   rcases Nat.lt_or_ge j ops.size with g | g
   ·exact g
   ·rw[←hM.size] at g;simp[Array.getD_eq_getD_getElem?,Array.getElem?_eq_none g] at hj
  have hoj:ops[j]?=some ops[j]:=by simp[hjl]
  obtain⟨h1,h2⟩:=jxv hok hoj
  have hdn:=hM.done j hj
  have hsz:jyd ops j<a.tmps.size:=by rw[hM.tmps];exact h2
  refine⟨by rw[(rowS_ok hrows hoj).1];exact hdn,?_,needV_say hM hok hrows l fun i hi=>h i (by simp[hi])⟩
  rw[←hdn]
  simp only[yielded,hoj,Option.bind_some,h1,Act.eval]
  simp only[Array.getD_eq_getD_getElem?,Array.getElem?_eq_getElem hsz,Option.getD_some]
  generalize a.tmps[jyd ops j]=u
  cases u <;> rfl
theorem outsS_say {listed:Array Bool} {a:Act} {w:World} {c:Nat} (hM:MidS ops a0 rows r G listed a w c):∀ outs:List (Nat × Value),qgx ops outs=true→jyk a0.eval outs→jyk a.eval outs
 | [],_,_=>trivial
 | p::l,hok,h=>by
  simp only[qgx,List.all_cons,Bool.and_eq_true] at hok
  refine⟨?_,outsS_say hM l hok.2 h.2⟩
  have:=hM.out p.1 hok.1
  rw[←h.1]
  simp[Act.eval,Array.getD_eq_getD_getElem?,this]
theorem wpAny_seq {outs:List (Nat × Value)} (hok:qjr ops a0.tmps.size=true) (hac:acyc ops=true) (hrows:qxc ops rows r=true) (hlast:lastCall rows r=true) (hout:qgx ops outs=true) (houts:jyk a0.eval outs) (hobl:jvk P G rows outs rows ops.toList)
  (hend:∀ w:World,G r w→Q .normal ⟨layAll ops (fun k=>(rowS rows k).val) 0 ops.toList a0.tmps,a0.defers⟩ w) :
  ∀ (fuel:Nat) (listed:Array Bool) (a:Act) (w:World) (c:Nat),jbl listed≤fuel→MidS ops a0 rows r G listed a w c→wpAny P .any ops Q fuel listed a w:=by
 have hlen:rows.length=ops.size:=by
  simp only[qxc,Bool.and_eq_true,beq_iff_eq] at hrows
  exact hrows.1
 have last:∀ (listed:Array Bool) (a:Act) (w:World) (c:Nat),MidS ops a0 rows r G listed a w c→Region.ready .any ops listed=[]→Q .normal a w:=by
  intro listed a w c hM hr
  have hall:=all_listed hac hM.size hr
  have hc:c=r:=by
   refine Nat.le_antisymm hM.most ?_
   simp only[lastCall,Bool.or_eq_true,beq_iff_eq,List.any_eq_true] at hlast
   rcases hlast with h | ⟨x,hx,hxc⟩
   ·omega
   ·obtain⟨k,hk,hkx⟩:=List.mem_iff_getElem.1 hx
    have hrk:rowS rows k=x:=rowS_get rows k x (by rw[List.getElem?_eq_getElem hk,hkx])
    have:=hM.lows k (hall k (by omega))
    rw[hrk] at this
    simp only[RowS.lo2,hxc] at this
    omega
  subst hc
  have h:=hend w hM.glob
  have e:a=⟨layAll ops (fun k=>(rowS rows k).val) 0 ops.toList a0.tmps,a0.defers⟩:=by
   obtain⟨t,ds⟩:=a
   have hd:ds=a0.defers:=hM.defers
   subst hd
   congr 1
   apply Array.ext_getElem?
   intro d
   by_cases hin:(List.range ops.size).all (fun k=>jyd ops k != d)=true
   ·rw[qzf _ _ d _ 0 _ (fun k o ho=>by
     have ho':ops[k]?=some o:=by simpa using ho
     rw[(jxv hok ho').1]
     intro e'
     injection e' with e'
     exact not_dst hin (Array.getElem?_eq_some_iff.1 ho').1 e')]
    exact hM.out d hin
   ·obtain⟨k,hk,hkd⟩:∃ k,k<ops.size∧jyd ops k=d:=by
     apply Classical.byContradiction
     intro hno
     refine hin (List.all_eq_true.2 fun k hk=>?_)
     rw[bne_iff_ne]
     exact fun e'=>hno ⟨k,List.mem_range.1 hk,e'⟩
    have ho:ops[k]?=some ops[k]:=by simp[hk]
    have hdk:=jxv hok ho
    rw[hkd] at hdk
    rw[qxf _ _ d _ 0 _ k ops[k] (by simp[hk]) hdk.1 hdk.2 (fun j o' ho' hj=>by
     have ho2:ops[j]?=some o':=by simpa using ho'
     rw[(jxv hok ho2).1]
     intro e'
     injection e' with e'
     exact dst_ne hok (Array.getElem?_eq_some_iff.1 ho2).1 hk hj (e'.trans hkd.symm))]
    have hsz:d<t.size:=by have:=hM.tmps;simp only at this;rw[this];exact hdk.2
    have hdn:=hM.done k (hall k hk)
    rw[hkd] at hdn
    simp only[Act.eval,Array.getD_eq_getD_getElem?,Array.getElem?_eq_getElem hsz,Option.getD_some] at hdn
    rw[Array.getElem?_eq_getElem hsz,hdn,Nat.zero_add]
  rw[←e] at h
  exact h
 intro fuel
 induction fuel with
 | zero =>
  intro listed a w c hc hM
  have hr:Region.ready .any ops listed=[]:=by
   apply List.eq_nil_iff_forall_not_mem.2
   intro i hi
   obtain⟨hun,o,ho,_⟩:=mem_ready.1 hi
   have hi':i<ops.size:=(Array.getElem?_eq_some_iff.1 ho).1
   have:false∈(listed.toList.filter fun b => !b):=by
    rw[List.mem_filter]
    refine⟨?_,rfl⟩
    have h2:listed[i]?=some false:=by
     simp[Array.getD_eq_getD_getElem?,hM.size,hi'] at hun
     simp[hM.size,hi',hun]
    exact Array.mem_toList_iff.2 (Array.mem_of_getElem? h2)
   have h3:(listed.toList.filter fun b => !b)=[]:=List.eq_nil_of_length_eq_zero (Nat.le_zero.1 hc)
   rw[h3] at this
   cases this
  exact⟨hr,last listed a w c hM hr⟩
 | succ fuel ih =>
  intro listed a w c hc hM
  refine⟨last listed a w c hM,fun i hi=>?_⟩
  obtain⟨hun,o,ho,hall⟩:=mem_ready.1 hi
  have hi':i<ops.size:=(Array.getElem?_eq_some_iff.1 ho).1
  have hfalse:listed[i]?=some false:=by
   simp[Array.getD_eq_getD_getElem?,hM.size,hi'] at hun
   simp[hM.size,hi',hun]
  have hf0:listed.getD i false=false:=by simp[Array.getD_eq_getD_getElem?,hfalse]
  have hc':jbl (listed.setIfInBounds i true)≤fuel:=by
   have:=qzz listed.toList i (by simpa using hfalse)
   unfold jbl at hc ⊢
   rw[Array.toList_setIfInBounds]
   omega
  have hri:rows[i]?=some (rowS rows i):=by
   have:rows[i]?=some rows[i]:=List.getElem?_eq_getElem (by omega)
   rw[this,rowS_get rows i _ this]
  have hpr:∀ j∈jzq o,listed.getD j false=true:=by
   intro j hj
   obtain⟨e,he,rfl⟩:=List.mem_map.1 hj
   obtain⟨he1,he2⟩:=List.mem_filter.1 he
   exact hall e (Array.mem_toList_iff.1 he1) he2
  obtain⟨s1,s2,s3,s4⟩:=rowS_ok hrows ho
  have hhi:=hM.highs i hi' hf0
  have hcall:∀ q,(rowS rows i).call=some q→c=q:=by
   intro q hq
   simp only[RowS.hi2,hq] at hhi
   obtain⟨-,h5,-⟩:=s3 q hq
   rcases h5 with h5 | ⟨j,hj,h5⟩
   ·omega
   ·have:=hM.lows j (hpr j hj);omega
  have hrange:match (rowS rows i).call with | some q=>c=q | none=>(rowS rows i).lo≤c∧c≤(rowS rows i).hi:=by
   cases hcl:(rowS rows i).call with
   | some q=>exact hcall q hcl
   | none =>
    simp only[RowS.hi2,hcl] at hhi
    refine⟨?_,hhi⟩
    rcases (s4 hcl).1 with h5 | ⟨j,hj,h5⟩
    ·omega
    ·have:=hM.lows j (hpr j hj);omega
  have hob:=hobl.at_ rows ops.toList i _ o hri (by simpa using ho) a.eval (yielded ops a.tmps) w c hM.glob hrange (fun _=>rfl) (fun _=>rfl) (outsS_say hM outs hout houts) (needV_say hM hok hrows _ fun j hj=>hpr j (s2 j hj))
  have hnext:(match (rowS rows i).call with | some q=>q+1 | none=>c)=(match (rowS rows i).call with | some _=>c+1 | none=>c):=by
   cases hcl:(rowS rows i).call with
   | some q=>have:=hcall q hcl;simp only;omega
   | none=>rfl
  rw[hnext] at hob
  unfold wpOp
  simp only[ho]
  by_cases hw:Region.wanted o (yielded ops a.tmps)=true
  ·rw[if_pos hw] at hob ⊢
   exact .inl (hob.wp fun v w' hp=>ih _ _ _ _ hc' (hM.step hok hac hrows ho hun hpr hp.1 rfl hcall hp.2))
  ·rw[if_neg hw] at hob ⊢
   exact ih _ _ _ _ hc' (hM.step hok hac hrows ho hun hpr hob.1.symm rfl hcall hob.2)
end
section
variable {P:Program} {o:Oper} {ev:Operand→Value} {w:World} {post:Value→World→Prop}
end
def jzl (key bits:Nat):Nat:=key*2654435761%4294967296/2^(32 - bits)
theorem placeC_lt {bits:Nat} (key:Nat) (h:bits≤32):jzl key bits<2^bits:=by
 unfold jzl
 rw[Nat.div_lt_iff_lt_mul (Nat.two_pow_pos _),←Nat.pow_add,show bits+(32 - bits)=32 by omega]
 exact Nat.mod_lt _ (by decide)
def rawC (p:Nat) (bit:Int):Nat:=if bit=0 then p - p/16 else p+(65536 - p)/16
def heldC (p:Nat):Nat:=min (max p 32) 65504
def afterC (p:Nat) (bit:Int):Nat:=heldC (rawC p bit)
def ChC (p:Nat):Prop:=32≤p∧p≤65504
theorem heldC_ok (p:Nat):ChC (heldC p):=by unfold ChC heldC;omega
theorem afterC_ok (p:Nat) (bit:Int):ChC (afterC p bit):=heldC_ok _
def qwj (R:List Nat) (k:Nat) (bit:Int):List Nat:=R.set k (afterC (R.getD k 0) bit)
structure RowC (n:Nat) (R:List Nat):Prop where
 len:R.length=n
 ok:∀ p∈R,ChC p
theorem RowC.get {n:Nat} {R:List Nat} (h:RowC n R) {k:Nat} (hk:k<n):ChC (R.getD k 0):=by
 have hk':k<R.length:=by rw[h.len];exact hk
 rw[List.getD_eq_getElem?_getD,List.getElem?_eq_getElem hk',Option.getD_some]
 exact h.ok _ (List.getElem_mem hk')
theorem RowC.set {n:Nat} {R:List Nat} (h:RowC n R) (k:Nat) {p:Nat} (hp:ChC p):RowC n (R.set k p) :=
 ⟨by rw[List.length_set];exact h.len,fun q hq=>by
  rcases List.mem_or_eq_of_mem_set hq with h1 | h1
  ·exact h.ok q h1
  ·rw[h1];exact hp⟩
theorem RowC.seen {n:Nat} {R:List Nat} (h:RowC n R) (k:Nat) (bit:Int):RowC n (qwj R k bit):=h.set k (afterC_ok _ _)
theorem RowC.even (n:Nat):RowC n (List.replicate n 32768):=⟨by simp,fun p hp=>by obtain⟨-,rfl⟩:=List.mem_replicate.1 hp;unfold ChC;omega⟩
def cvs (l:List Nat):List Value:=l.map fun (x:Nat)=>Value.int .u32 (x:Int)
theorem cvs_set (l:List Nat) (k x:Nat):(cvs l).set k (.int .u32 (x:Int))=cvs (l.set k x):=by simp[cvs,List.map_set]
theorem cvs_at {n:Nat} {R:List Nat} (h:RowC n R) {k:Nat} (hk:k<n):(cvs R)[k]?=some (.int .u32 (R.getD k 0:Nat)):=by
 have hk':k<R.length:=by rw[h.len];exact hk
 simp[cvs,hk',List.getD_eq_getElem?_getD]
def clM (p:Int):Int:=min (max p 0) 65536
theorem clM_ok (p:Int):0≤clM p∧clM p≤65536:=by unfold clM;omega
def dotM:List Int→List Int→Int
 | w::W,p::L=>w*clM p+dotM W L
 | _,_=>0
def heldM (p:Int):Int:=min (max p 32) 65504
theorem heldM_ok (p:Int):32≤heldM p∧heldM p≤65504:=by unfold heldM;omega
def mixM (W L:List Int):Int:=heldM (dotM W L/W.sum)
def farM (p bit:Int):Int:=if bit=0 then p else 65536 - p
def qbg (x own mixed:Int):Int:=if own<mixed then min (x+1) 255 else if mixed<own then max (x - 1) 1 else x
def qqp (W L:List Int) (bit:Int):List Int:=List.zipWith (fun x p=>qbg x (farM (clM p) bit) (farM (mixM W L) bit)) W L
structure WtsM (n:Nat) (W:List Int):Prop where
 len:W.length=n
 ok:∀ x∈W,1≤x∧x≤255
theorem nextM_ok {x:Int} (h:1≤x∧x≤255) (a b:Int):1≤qbg x a b∧qbg x a b≤255:=by
 unfold qbg
 split
 ·omega
 ·split <;> omega
theorem WtsM.seen {n:Nat} {W L:List Int} (h:WtsM n W) (hl:L.length=n) (bit:Int):WtsM n (qqp W L bit) :=
 ⟨by simp[qqp,h.len,hl],fun x hx=>by
  unfold qqp at hx
  obtain⟨i,hi,rfl⟩:=List.getElem_of_mem hx
  rw[List.getElem_zipWith]
  exact nextM_ok (h.ok _ (List.getElem_mem _)) _ _⟩
theorem WtsM.first (n:Nat):WtsM n (List.replicate n 64):=⟨by simp,fun x hx=>by obtain⟨-,rfl⟩:=List.mem_replicate.1 hx;omega⟩
theorem sumM_le:∀ {W:List Int},(∀ x∈W,1≤x∧x≤255)→(W.length:Int)≤W.sum∧W.sum≤255*W.length
 | [],_=>by simp
 | x::W,h=>by
  have h1:=h x List.mem_cons_self
  have h2:=sumM_le (W:=W) fun y hy=>h y (List.mem_cons_of_mem _ hy)
  simp only[List.sum_cons,List.length_cons]
  omega
theorem dotM_le:∀ {W:List Int} (L:List Int) (lo hi:Int),(∀ x∈W,1≤x∧x≤255)→W.length=L.length→(∀ p∈L,lo≤clM p∧clM p≤hi)→lo*W.sum≤dotM W L∧dotM W L≤hi*W.sum
 | [],[],lo,hi,_,_,_=>by simp[dotM]
 | x::W,p::L,lo,hi,h,hl,hp=>by
  have h1:=h x List.mem_cons_self
  have h2:=dotM_le (W:=W) L lo hi (fun y hy=>h y (List.mem_cons_of_mem _ hy)) (by simpa using hl) (fun q hq=>hp q (List.mem_cons_of_mem _ hq))
  have h3:=hp p List.mem_cons_self
  have h4:=Int.mul_le_mul_of_nonneg_left h3.1 (show 0≤x by omega)
  have h5:=Int.mul_le_mul_of_nonneg_left h3.2 (show 0≤x by omega)
  simp only[dotM,List.sum_cons,Int.mul_add]
  rw[Int.mul_comm lo x,Int.mul_comm hi x]
  omega
 | [],_::_,_,_,_,hl,_=>by simp at hl
 | _::_,[],_,_,_,hl,_=>by simp at hl
theorem dotM_ok {n:Nat} {W L:List Int} (h:WtsM n W) (hl:L.length=n):0≤dotM W L∧dotM W L≤65536*W.sum:=by
 have:=dotM_le L 0 65536 h.ok (by rw[h.len,hl]) fun p _=>clM_ok p
 omega
theorem dotM_append:∀ (W L W' L':List Int),W.length=L.length→dotM (W++W') (L++L')=dotM W L+dotM W' L'
 | [],[],_,_,_=>by simp[dotM]
 | x::W,p::L,W',L',h=>by
  have:=dotM_append W L W' L' (by simpa using h)
  simp only[List.cons_append,dotM,this]
  omega
 | [],_::_,_,_,h=>by simp at h
 | _::_,[],_,_,h=>by simp at h
theorem dotM_snoc {W L:List Int} {k:Nat} (hw:k<W.length) (hl:k<L.length):dotM (W.take (k+1)) (L.take (k+1))=dotM (W.take k) (L.take k)+W[k]*clM L[k]:=by
 rw[List.take_add_one,List.take_add_one,List.getElem?_eq_getElem hw,List.getElem?_eq_getElem hl,dotM_append _ _ _ _ (by simp;omega)]
 simp[dotM]
theorem sumM_snoc {W:List Int} {k:Nat} (hw:k<W.length):(W.take (k+1)).sum=(W.take k).sum+W[k]:=by
 rw[List.take_add_one,List.getElem?_eq_getElem hw,List.sum_append]
 simp
theorem seenM_get {n:Nat} {W L:List Int} (h:WtsM n W) (hl:L.length=n) (bit:Int) {k:Nat} (hk:k<n) :
  (qqp W L bit)[k]?=some (qbg (W[k]'(by rw[h.len];exact hk)) (farM (clM (L[k]'(by rw[hl];exact hk))) bit) (farM (mixM W L) bit)):=by
 unfold qqp
 rw[List.getElem?_zipWith,List.getElem?_eq_getElem (by rw[h.len];exact hk),List.getElem?_eq_getElem (by rw[hl];exact hk)]
def qbc (W L:List Int) (bit:Int) (k:Nat):List Int:=(qqp W L bit).take k++W.drop k
theorem stepM_zero (W L:List Int) (bit:Int):qbc W L bit 0=W:=by simp[qbc]
theorem stepM_all {n:Nat} {W L:List Int} (h:WtsM n W) (hl:L.length=n) (bit:Int):qbc W L bit n=qqp W L bit:=by
 have:=(h.seen hl bit).len
 unfold qbc
 rw[List.drop_of_length_le (by rw[h.len];exact Nat.le_refl _),List.append_nil,List.take_of_length_le (by omega)]
theorem stepM_len {n:Nat} {W L:List Int} (h:WtsM n W) (hl:L.length=n) (bit:Int) {k:Nat} (hk:k≤n):(qbc W L bit k).length=n:=by
 have h1:=(h.seen hl bit).len
 have h2:=h.len
 simp[qbc];omega
theorem stepM_get {n:Nat} {W L:List Int} (h:WtsM n W) (hl:L.length=n) (bit:Int) {k:Nat} (hk:k<n):(qbc W L bit k)[k]?=some (W[k]'(by rw[h.len];exact hk)):=by
 have h1:=(h.seen hl bit).len
 unfold qbc
 rw[List.getElem?_append_right (by simp;omega),List.getElem?_drop]
 simp only[List.length_take]
 rw[show k+(k - min k (qqp W L bit).length)=k by omega,List.getElem?_eq_getElem]
theorem stepM_succ {n:Nat} {W L:List Int} (h:WtsM n W) (hl:L.length=n) (bit:Int) {k:Nat} (hk:k<n) :
  (qbc W L bit k).set k (qbg (W[k]'(by rw[h.len];exact hk)) (farM (clM (L[k]'(by rw[hl];exact hk))) bit) (farM (mixM W L) bit))=qbc W L bit (k+1):=by
 have h1:=(h.seen hl bit).len
 unfold qbc
 rw[List.set_append_right _ _ (by simp;omega)]
 simp only[List.length_take]
 rw[show k - min k (qqp W L bit).length=0 by omega,List.take_add_one,seenM_get h hl bit hk,List.append_assoc]
 congr 1
 have hd:W.drop k=W[k]'(by rw[h.len];exact hk)::W.drop (k+1):=List.drop_eq_getElem_cons (by rw[h.len];exact hk)
 rw[hd,List.set_cons_zero]
 rfl
structure PosD where
 node:Nat
 last:Nat
 ahead:Nat
structure PosD.ok (p:PosD):Prop where
 n1:1≤p.node
 n2:p.node<256
 l:p.last<256
 a:p.ahead<256
def PosD.k1 (p:PosD):Nat:=p.node
def PosD.k2 (p:PosD):Nat:=65536+256*p.last+p.node
def PosD.k3 (p:PosD):Nat:=16777216+65536*p.ahead+256*p.last+p.node
def nodeD (n:Nat) (bit:Int):Nat:=2*n+if bit=0 then 0 else 1
def PosD.step (p:PosD) (bit:Int):PosD:=if 256≤nodeD p.node bit then ⟨1,nodeD p.node bit - 256,p.last⟩ else ⟨nodeD p.node bit,p.last,p.ahead⟩
theorem nodeD_le (n:Nat) (bit:Int):2*n≤nodeD n bit∧nodeD n bit≤2*n+1:=by unfold nodeD;split <;> omega
theorem PosD.ok.step {p:PosD} (h:p.ok) (bit:Int):(p.step bit).ok:=by
 obtain⟨h1,h2,h3,h4⟩:=h
 have hn:=nodeD_le p.node bit
 unfold PosD.step
 split
 ·exact⟨Nat.le_refl _,(by show 1<256;decide),by show nodeD p.node bit - 256<256;omega,h3⟩
 ·exact⟨by show 1≤nodeD p.node bit;omega,by show nodeD p.node bit<256;omega,h3,h4⟩
structure ModD where
 p:PosD
 A:List Nat
 B:List Nat
 C:List Nat
 W:List Int
structure ModD.ok (s:ModD):Prop where
 pos:s.p.ok
 a:RowC 512 s.A
 b:RowC 2048 s.B
 c:RowC 8192 s.C
 w:WtsM 3 s.W
def ModD.i1 (s:ModD):Nat:=jzl s.p.k1 9
def ModD.i2 (s:ModD):Nat:=jzl s.p.k2 11
def ModD.i3 (s:ModD):Nat:=jzl s.p.k3 13
def ModD.ch (s:ModD):List Int:=[((s.A.getD s.i1 0:Nat):Int),((s.B.getD s.i2 0:Nat):Int),((s.C.getD s.i3 0:Nat):Int)]
def ModD.chance (s:ModD):Int:=mixM s.W s.ch
def ModD.seen (s:ModD) (bit:Int):ModD:=⟨s.p.step bit,qwj s.A s.i1 bit,qwj s.B s.i2 bit,qwj s.C s.i3 bit,qqp s.W s.ch bit⟩
def newD:ModD:=⟨⟨1,0,0⟩,List.replicate 512 32768,List.replicate 2048 32768,List.replicate 8192 32768,List.replicate 3 64⟩
theorem newD_ok:newD.ok:=⟨⟨by decide,by decide,by decide,by decide⟩,RowC.even _,RowC.even _,RowC.even _,WtsM.first _⟩
theorem ModD.ch_len (s:ModD):s.ch.length=3:=rfl
theorem ModD.ok.seen {s:ModD} (h:s.ok) (bit:Int):(s.seen bit).ok :=
 ⟨h.pos.step bit,h.a.seen _ _,h.b.seen _ _,h.c.seen _ _,h.w.seen s.ch_len bit⟩
theorem ModD.chance_ok (s:ModD):32≤s.chance∧s.chance≤65504:=heldM_ok _
def bitD (c k:Nat):Nat:=c/2^(7 - k)%2
theorem bitD_lt (c k:Nat):bitD c k<2:=Nat.mod_lt _ (by decide)
def rowOf (f:Nat→Nat) (k:Nat):List Nat:=(List.range k).map f
theorem jjh (f:Nat→Nat) (k:Nat):(rowOf f k).length=k:=by simp[rowOf]
theorem jkn (f:Nat→Nat) (k:Nat):rowOf f (k+1)=rowOf f k++[f k]:=by simp[rowOf,List.range_succ]
theorem qkd (f:Nat→Nat) (k i:Nat) (h:i<k):(rowOf f k).getD i 0=f i:=by
 simp[rowOf,List.getD_eq_getElem?_getD,h]
theorem qkb (f:Nat→Nat) (l:List Nat) (n:Nat) (hn:l.length=n) (h:∀ i,i<n→f i=l.getD i 0):rowOf f n=l:=by
 apply List.ext_getElem?
 intro i
 by_cases hi:i<n
 ·have:=h i hi
  simp[rowOf,hi,this,List.getD_eq_getElem?_getD,hn]
 ·rw[List.getElem?_eq_none (by rw[jjh];omega),List.getElem?_eq_none (by omega)]
theorem jgl (f g:Nat→Nat) (n:Nat) (h:∀ i,i<n→f i=g i):rowOf f n=rowOf g n :=
 qkb f _ n (jjh g n) fun i hi=>(h i hi).trans (qkd g n i hi).symm
def ofW (f:Nat→List Nat→List Nat) (W:Int) (l:List Nat):List Nat:=if jqj W then f W.toNat l else []
theorem getD_lt (l:List Nat) (B:Nat) (hB:0<B) (h:∀ x∈l,x<B) (i:Nat):l.getD i 0<B:=by
 rw[List.getD_eq_getElem?_getD]
 cases hi:l[i]? with
 | none=>exact hB
 | some x=>exact h x (List.mem_of_getElem? hi)
theorem jmm {W:Nat} (h:IsW W):256^W=256∨256^W=65536∨256^W=4294967296∨256^W=18446744073709551616:=by
 rcases h with rfl | rfl | rfl | rfl
 ·exact .inl rfl
 ·exact .inr (.inl rfl)
 ·exact .inr (.inr (.inl rfl))
 ·exact .inr (.inr (.inr rfl))
theorem qzr (f:Nat→Nat) (M n:Nat) (h:∀ i,f i<M):∀ x∈rowOf f n,x<M:=by
 intro x hx
 obtain⟨i,_,rfl⟩:=List.mem_map.1 hx
 exact h i
theorem jxz {W:Nat}:0<256^W:=Nat.pow_pos (by decide)
theorem lt_64 {W:Nat} (hW:IsW W) {l:List Nat} (h:∀ x∈l,x<256^W):∀ x∈l,x<18446744073709551616:=fun x hx=>by
 have:=h x hx
 rcases jmm hW with e | e | e | e <;> rw[e] at this <;> omega
theorem fit_self {W:Nat} {l:List Nat} (h:∀ x∈l,x<256^W):l.map (·%256^W)=l:=by
 have:l.map (·%256^W)=l.map id:=List.map_congr_left fun x hx=>Nat.mod_eq_of_lt (h x hx)
 rw[this,List.map_id]
theorem jwv (l:List Nat) (M i:Nat):(l.map (·%M)).getD i 0=l.getD i 0%M:=by
 simp only[List.getD_eq_getElem?_getD,List.getElem?_map]
 cases l[i]? <;> simp
def One (w:World) (g:Nat) (a:Nat):Prop:=Blk w g 64 [.int .u64 (a:Int)]
theorem One.cell {w:World} {g a:Nat} (h:One w g a):w.cell? ⟨g,0,none⟩=some (.int .u64 (a:Int)):=Blk.cell h 0
theorem One.frozen {w:World} {g a:Nat} (h:One w g a):w.frozen? ⟨g,0,none⟩=false:=Blk.frozen h 0
theorem One.set_ {w:World} {g a:Nat} (h:One w g a) (b:Nat):One (w.setCell ⟨g,0,none⟩ (.int .u64 (b:Int))) g b:=Blk.set_ h 0 _
theorem one_new (w:World) (a:Nat):One (w.alloc (.cells #[.int .u64 (a:Int)] 64)) w.heap.size a:=heap_alloc_new w _
theorem qqm (W x:Nat) (hW:IsW W) (hx:x<18446744073709551616):bits .and .u64 (x:Int) (maskN (W:Int):Int)=((x%256^W:Nat):Int):=by
 have hm:maskN (W:Int)=2^(8*W) - 1:=by
  unfold maskN
  rw[←hW.right,if_pos rfl,Int.toNat_natCast,Nat.pow_mul]
 have hp:(256:Nat)^W=2^(8*W):=by rw[Nat.pow_mul]
 have hle:2^(8*W)≤2^64:=Nat.pow_le_pow_right (by decide) (by have:=hW.pos;omega)
 have h64:(2:Nat)^64=18446744073709551616:=by decide
 have hpos:0<2^(8*W):=Nat.pow_pos (by decide)
 rw[hm,u64_and_nat x _ hx (by omega),Nat.and_two_pow_sub_one_eq_mod,hp]
theorem mod_64 {W:Nat} (hW:IsW W) (x:Nat):x%18446744073709551616%256^W=x%256^W:=by
 rcases jmm hW with e | e | e | e <;> rw[e] <;> omega
theorem qyc {W:Nat} (hW:IsW W) (f:Nat→List Nat→List Nat) (l:List Nat):ofW f (W:Int) l=f W l:=by
 unfold ofW
 rw[←hW.right,if_pos rfl,Int.toNat_natCast]
theorem ofW_len {f:Nat→List Nat→List Nat} (h:∀ W l,(f W l).length=l.length) (W:Int) (l:List Nat):(ofW f W l).length≤l.length:=by
 unfold ofW
 split
 ·rw[h];exact Nat.le_refl _
 ·exact Nat.zero_le _
theorem ofW_lt {f:Nat→List Nat→List Nat} (h:∀ W l,∀ x∈f W l,x<256^W) (W:Int) (l:List Nat):∀ x∈ofW f W l,x<18446744073709551616:=by
 unfold ofW
 split
 ·rename_i hr
  obtain⟨V,rfl,hV⟩:=jdk hr
  rw[Int.toNat_natCast]
  exact lt_64 hV (h V l)
 ·intro x hx;cases hx
theorem wvs_snoc (l:List Nat) (v:Nat):wvs (l++[v])=wvs l++[.int .u64 (v:Int)]:=qdx l [v]
theorem NewW.of_own {w w':World} {v:Value} {l:List Nat} (h:w'.ownsRow w.heap.size 64 1 v l.length (wvs l)) (hb:Below w.heap.size w w'):NewW w l (.returned v) w':=by
 obtain⟨A,c,rfl,hc,_⟩:=jjk h
 exact⟨_,rfl,⟨A,c,by rw[jjv],by rw[jjv];exact hc,Rd.of_own h⟩,hb⟩
theorem mask_is (W:Nat) (hW:IsW W):maskN (W:Int)=256^W - 1:=by
 unfold maskN
 rw[←hW.right,if_pos rfl,Int.toNat_natCast]
end
section
def sumTo (l:List Nat):Nat→Nat
 | 0=>0
 | i+1=>sumTo l i+l.getD i 0
def ahead (l:List Nat) (i:Nat):Nat:=if i=0 then 0 else l.getD (i - 1) 0
def jgc (M:Nat) (l:List Nat) (i:Nat):Nat:=(l.getD i 0+(18446744073709551616 - ahead l i))%18446744073709551616%M
def sumAt (M:Nat) (l:List Nat) (i:Nat):Nat:=sumTo l (i+1)%M
def qjk (W:Nat) (l:List Nat):List Nat:=rowOf (jgc (256^W) l) l.length
def sumW (W:Nat) (l:List Nat):List Nat:=rowOf (sumAt (256^W) l) l.length
theorem jxw (W:Nat) (l:List Nat):(qjk W l).length=l.length:=jjh _ _
theorem jkh (W:Nat) (l:List Nat):(sumW W l).length=l.length:=jjh _ _
theorem ahead_lt (l:List Nat) (B:Nat) (hB:0<B) (h:∀ x∈l,x<B) (i:Nat):ahead l i<B:=by
 unfold ahead
 split
 ·exact hB
 ·exact getD_lt l B hB h _
theorem jgq (W:Nat) (l:List Nat):∀ x∈qjk W l,x<256^W:=qzr _ _ _ fun _=>Nat.mod_lt _ jxz
theorem sumW_lt (W:Nat) (l:List Nat):∀ x∈sumW W l,x<256^W:=qzr _ _ _ fun _=>Nat.mod_lt _ jxz
theorem sum_diff {W:Nat} (hW:IsW W) (l:List Nat) (h:∀ x∈l,x<18446744073709551616):sumW W (qjk W l)=l.map (·%256^W):=by
 have key:∀ k,k≤l.length→sumTo (qjk W l) k%256^W=ahead l k%256^W:=by
  intro k
  induction k with
  | zero=>intro _;rfl
  | succ k ih =>
   intro hk
   have ih:=ih (by omega)
   have h1:=getD_lt l _ (by decide) h k
   have h2:=ahead_lt l _ (by decide) h k
   show (sumTo (qjk W l) k+(qjk W l).getD k 0)%256^W=(if k+1=0 then 0 else l.getD (k+1 - 1) 0)%256^W
   rw[if_neg (by omega),Nat.add_sub_cancel,qjk,qkd _ _ _ (by omega),←qjk]
   unfold jgc
   generalize sumTo (qjk W l) k=s at *
   generalize ahead l k=p at *
   generalize l.getD k 0=x at *
   rcases jmm hW with e | e | e | e <;> rw[e] at ih ⊢ <;> omega
 unfold sumW
 rw[jxw]
 refine qkb _ _ _ (by simp) fun i hi=>?_
 rw[jwv]
 have:=key (i+1) (by omega)
 rw[ahead,if_neg (by omega),Nat.add_sub_cancel] at this
 exact this
def jgn (W:Nat) (l:List Nat):List Nat:=qjk W (qjk W l)
def qkt (W:Nat) (l:List Nat):List Nat:=sumW W (sumW W l)
theorem twice_second {W:Nat} (hW:IsW W) (l:List Nat) (h:∀ x∈l,x<18446744073709551616):qkt W (jgn W l)=l.map (·%256^W):=by
 unfold qkt jgn
 rw[sum_diff hW _ (lt_64 hW (jgq W l)),fit_self (jgq W l),sum_diff hW l h]
def foldN (M v:Nat):Nat:=if v≤(M - 1)/2 then 2*v else 2*(M - 1 - v)+1
def qwy (M u:Nat):Nat:=if u%2=0 then u/2 else M - 1 - u/2
def qdc (M:Nat) (l:List Nat) (i:Nat):Nat:=foldN M (l.getD i 0%M)
def jbh (M:Nat) (l:List Nat) (i:Nat):Nat:=qwy M (l.getD i 0%M)
def foldW (W:Nat) (l:List Nat):List Nat:=rowOf (qdc (256^W) l) l.length
def qzq (W:Nat) (l:List Nat):List Nat:=rowOf (jbh (256^W) l) l.length
theorem qqj (W:Nat) (l:List Nat):(foldW W l).length=l.length:=jjh _ _
theorem jgp (W:Nat) (l:List Nat):(qzq W l).length=l.length:=jjh _ _
theorem foldN_lt {W:Nat} (hW:IsW W) (v:Nat) (hv:v<256^W):foldN (256^W) v<256^W:=by
 unfold foldN
 rcases jmm hW with e | e | e | e <;> rw[e] at hv ⊢ <;> split <;> omega
theorem unfoldN_lt {W:Nat} (hW:IsW W) (v:Nat) (hv:v<256^W):qwy (256^W) v<256^W:=by
 unfold qwy
 rcases jmm hW with e | e | e | e <;> rw[e] at hv ⊢ <;> split <;> omega
theorem unfold_foldN {W:Nat} (hW:IsW W) (v:Nat) (hv:v<256^W):qwy (256^W) (foldN (256^W) v)=v:=by
 unfold qwy foldN
 rcases jmm hW with e | e | e | e <;> rw[e] at hv ⊢ <;> split <;> split <;> omega
theorem foldW_lt {W:Nat} (hW:IsW W) (l:List Nat):∀ x∈foldW W l,x<256^W:=qzr _ _ _ fun _=>foldN_lt hW _ (Nat.mod_lt _ jxz)
theorem unfoldW_lt {W:Nat} (hW:IsW W) (l:List Nat):∀ x∈qzq W l,x<256^W:=qzr _ _ _ fun _=>unfoldN_lt hW _ (Nat.mod_lt _ jxz)
theorem unfold_foldW {W:Nat} (hW:IsW W) (l:List Nat):qzq W (foldW W l)=l.map (·%256^W):=by
 unfold qzq
 rw[qqj]
 refine qkb _ _ _ (by simp) fun i hi=>?_
 rw[jwv]
 have hv:l.getD i 0%256^W<256^W:=Nat.mod_lt _ jxz
 unfold jbh
 rw[foldW,qkd _ _ _ hi]
 unfold qdc
 rw[Nat.mod_eq_of_lt (foldN_lt hW _ hv),unfold_foldN hW _ hv]
def jvy (l:List Nat):Nat→Nat
 | 0=>0
 | i+1=>jvy l i ^^^ l.getD i 0
def flipAt (M:Nat) (l:List Nat) (i:Nat):Nat:=(l.getD i 0 ^^^ ahead l i)%M
def backAt (M:Nat) (l:List Nat) (i:Nat):Nat:=jvy l (i+1)%M
def jwr (W:Nat) (l:List Nat):List Nat:=rowOf (flipAt (256^W) l) l.length
def jbr (W:Nat) (l:List Nat):List Nat:=rowOf (backAt (256^W) l) l.length
theorem jmk (W:Nat) (l:List Nat):(jwr W l).length=l.length:=jjh _ _
theorem qjg (W:Nat) (l:List Nat):(jbr W l).length=l.length:=jjh _ _
theorem flipW_lt (W:Nat) (l:List Nat):∀ x∈jwr W l,x<256^W:=qzr _ _ _ fun _=>Nat.mod_lt _ jxz
theorem backW_lt (W:Nat) (l:List Nat):∀ x∈jbr W l,x<256^W:=qzr _ _ _ fun _=>Nat.mod_lt _ jxz
theorem xor_mod (W a b:Nat):(a ^^^ b)%256^W=(a%256^W) ^^^ (b%256^W):=by
 rw[show 256^W=2^(8*W) by rw[Nat.pow_mul]]
 exact Nat.xor_mod_two_pow
theorem xor_lt (W a b:Nat) (ha:a<256^W) (hb:b<256^W):a ^^^ b<256^W:=by
 rw[show 256^W=2^(8*W) by rw[Nat.pow_mul]] at *
 exact Nat.xor_lt_two_pow ha hb
theorem xor_away (a b:Nat):a ^^^ (b ^^^ a)=b:=by
 rw[Nat.xor_comm b a,←Nat.xor_assoc,Nat.xor_self,Nat.zero_xor]
theorem back_flip (W:Nat) (l:List Nat):jbr W (jwr W l)=l.map (·%256^W):=by
 have key:∀ k,k≤l.length→jvy (jwr W l) k%256^W=ahead l k%256^W:=by
  intro k
  induction k with
  | zero=>intro _;rfl
  | succ k ih =>
   intro hk
   have ih:=ih (by omega)
   show (jvy (jwr W l) k ^^^ (jwr W l).getD k 0)%256^W=(if k+1=0 then 0 else l.getD (k+1 - 1) 0)%256^W
   rw[if_neg (by omega),Nat.add_sub_cancel,jwr,qkd _ _ _ (by omega),←jwr,xor_mod,ih]
   unfold flipAt
   rw[Nat.mod_mod,←xor_mod,xor_away]
 unfold jbr
 rw[jmk]
 refine qkb _ _ _ (by simp) fun i hi=>?_
 rw[jwv]
 have:=key (i+1) (by omega)
 rw[ahead,if_neg (by omega),Nat.add_sub_cancel] at this
 exact this
theorem qqq (p:List Nat) (x i:Nat) (h:i<p.length):(p++[x]).getD i 0=p.getD i 0:=by
 simp[List.getD_eq_getElem?_getD,List.getElem?_append_left h]
theorem getD_snoc (p:List Nat) (x:Nat):(p++[x]).getD p.length 0=x:=by
 simp[List.getD_eq_getElem?_getD]
theorem ahead_snoc (p:List Nat) (x i:Nat) (h:i≤p.length):ahead (p++[x]) i=ahead p i:=by
 unfold ahead
 split
 ·rfl
 ·exact qqq p x _ (by omega)
theorem ahead_last (p:List Nat) (x:Nat):ahead (p++[x]) (p.length+1)=x:=by
 rw[ahead,if_neg (by omega),Nat.add_sub_cancel,getD_snoc]
theorem qdv (p:List Nat) (x:Nat):∀ i,i≤p.length→jvy (p++[x]) i=jvy p i
 | 0,_=>rfl
 | i+1,h=>by
  rw[jvy,jvy,qdv p x i (by omega),qqq p x i (by omega)]
theorem qdw (p:List Nat) (x:Nat):jvy (p++[x]) (p.length+1)=jvy p p.length ^^^ x:=by
 rw[jvy,qdv p x _ jw,getD_snoc]
theorem flip_snoc (W:Nat) (p:List Nat) (x:Nat):jwr W (p++[x])=jwr W p++[(x ^^^ ahead p p.length)%256^W]:=by
 unfold jwr
 rw[List.length_append,List.length_singleton,jkn,jgl _ (flipAt (256^W) p) p.length,flipAt,getD_snoc,ahead_snoc p x _ jw]
 intro i hi
 rw[flipAt,flipAt,qqq p x i hi,ahead_snoc p x i (by omega)]
theorem back_snoc (W:Nat) (p:List Nat) (x:Nat):jbr W (p++[x])=jbr W p++[(jvy p p.length ^^^ x)%256^W]:=by
 unfold jbr
 rw[List.length_append,List.length_singleton,jkn,jgl _ (backAt (256^W) p) p.length,backAt,qdw]
 intro i hi
 rw[backAt,backAt,qdv p x _ (by omega)]
theorem ahead_map (W:Nat) (l:List Nat) (i:Nat):ahead (l.map (·%256^W)) i=ahead l i%256^W:=by
 unfold ahead
 split
 ·simp
 ·exact jwv _ _ _
theorem xorTo_map (W:Nat) (l:List Nat):∀ i,jvy (l.map (·%256^W)) i=jvy l i%256^W
 | 0=>by simp[jvy]
 | i+1=>by rw[jvy,jvy,xorTo_map W l i,jwv,←xor_mod]
theorem flip_fit {W:Nat} (hW:IsW W) (l:List Nat):jwr 8 (l.map (·%256^W))=jwr W l:=by
 unfold jwr
 rw[List.length_map]
 refine jgl _ _ _ fun i _=>?_
 unfold flipAt
 rw[jwv,ahead_map,←xor_mod]
 have:=Nat.mod_lt (l.getD i 0 ^^^ ahead l i) (jxz (W:=W))
 refine Nat.mod_eq_of_lt (Nat.lt_of_lt_of_le this ?_)
 rcases jmm hW with e | e | e | e <;> rw[e] <;> decide
theorem back_fit {W:Nat} (hW:IsW W) (l:List Nat):jbr 8 (l.map (·%256^W))=jbr W l:=by
 unfold jbr
 rw[List.length_map]
 refine jgl _ _ _ fun i _=>?_
 unfold backAt
 rw[xorTo_map]
 have:=Nat.mod_lt (jvy l (i+1)) (jxz (W:=W))
 refine Nat.mod_eq_of_lt (Nat.lt_of_lt_of_le this ?_)
 rcases jmm hW with e | e | e | e <;> rw[e] <;> decide
theorem xorTo_lt (l:List Nat) (h:∀ x∈l,x<18446744073709551616):∀ i,jvy l i<18446744073709551616
 | 0=>by show (0:Nat)<_;decide
 | i+1=>by
  have h1:=xorTo_lt l h i
  have h2:=getD_lt l _ (by decide) h i
  rw[jvy]
  exact xor_lt 8 _ _ h1 h2
def toI (n W i:Nat):Nat:=if n/W*W≤i then i else i%W*(n/W)+i/W
def qyv (n W i:Nat):Nat:=if n/W*W≤i then i else i%(n/W)*W+i/(n/W)
def moveL (f:Nat→Nat) (l:List UInt8):List UInt8:=(List.range l.length).map fun i=>l.getD (f i) 0
def splitL (W:Nat) (l:List UInt8):List UInt8:=moveL (qyv l.length W) l
def joinL (W:Nat) (l:List UInt8):List UInt8:=moveL (toI l.length W) l
theorem moveL_len (f:Nat→Nat) (l:List UInt8):(moveL f l).length=l.length:=by simp[moveL]
theorem jkr (W:Nat) (l:List UInt8):(splitL W l).length=l.length:=moveL_len _ l
theorem qvl (W:Nat) (l:List UInt8):(joinL W l).length=l.length:=moveL_len _ l
theorem moveL_get (f:Nat→Nat) (l:List UInt8) (i:Nat) (h:i<l.length):(moveL f l).getD i 0=l.getD (f i) 0:=by
 simp[moveL,List.getD_eq_getElem?_getD,h]
theorem div_le' {n W:Nat}:n/W*W≤n:=Nat.div_mul_le_self n W
theorem from_in {n W i:Nat} (h:i<n/W*W):i%(n/W)*W+i/(n/W)<n/W*W:=by
 have h0:0<n/W:=by
  rcases Nat.eq_zero_or_pos (n/W) with h0 | h0
  ·rw[h0,Nat.zero_mul] at h;omega
  ·exact h0
 have h1:i/(n/W)<W:=(Nat.div_lt_iff_lt_mul h0).2 (by rw[Nat.mul_comm];exact h)
 have h2:i%(n/W)+1≤n/W:=Nat.mod_lt i h0
 have h3:=Nat.mul_le_mul_right W h2
 rw[Nat.add_mul,Nat.one_mul] at h3
 omega
theorem fromI_lt {n W i:Nat} (h:i<n):qyv n W i<n:=by
 unfold qyv
 split
 ·exact h
 ·have:=from_in (n:=n) (W:=W) (i:=i) (by omega)
  have:=div_le' (n:=n) (W:=W)
  omega
section
variable {n W:Nat} (hW:0<W)
include hW
theorem to_in {i:Nat} (h:i<n/W*W):i%W*(n/W)+i/W<n/W*W:=by
 have h1:i/W<n/W:=(Nat.div_lt_iff_lt_mul hW).2 h
 have h2:i%W+1≤W:=Nat.mod_lt i hW
 have h3:=Nat.mul_le_mul_right (n/W) h2
 rw[Nat.add_mul,Nat.one_mul] at h3
 rw[Nat.mul_comm W] at h3
 omega
theorem toI_lt {i:Nat} (h:i<n):toI n W i<n:=by
 unfold toI
 split
 ·exact h
 ·have:=to_in hW (n:=n) (i:=i) (by omega)
  have:=div_le' (n:=n) (W:=W)
  omega
theorem from_to (i:Nat):qyv n W (toI n W i)=i:=by
 unfold toI
 split
 ·rename_i h
  rw[qyv,if_pos h]
 ·rename_i h
  have h':i<n/W*W:=by omega
  have h1:=to_in hW h'
  have h0:i/W<n/W:=(Nat.div_lt_iff_lt_mul hW).2 h'
  rw[qyv,if_neg (by omega),Nat.mul_comm (i%W),Nat.mul_add_mod,Nat.mod_eq_of_lt h0,Nat.mul_add_div (Nat.lt_of_le_of_lt (Nat.zero_le _) h0),Nat.div_eq_of_lt h0,Nat.add_zero,Nat.mul_comm]
  exact Nat.div_add_mod i W
end
theorem getD_ext (l m:List UInt8) (hn:l.length=m.length) (h:∀ i,i<m.length→l.getD i 0=m.getD i 0):l=m:=by
 apply List.ext_getElem hn
 intro i h1 h2
 have:=h i h2
 simpa [List.getD_eq_getElem?_getD,h1,h2] using this
theorem join_split {W:Nat} (hW:0<W) (l:List UInt8):joinL W (splitL W l)=l:=by
 refine getD_ext _ _ (by rw[qvl,jkr]) fun i hi=>?_
 rw[joinL,moveL_get _ _ _ (by rw[jkr];exact hi),jkr,splitL,moveL_get _ _ _ (toI_lt hW hi),from_to hW]
def qjc (f:Nat→Nat) (l:List UInt8) (k:Nat):List UInt8:=(List.range l.length).map fun i=>if i<k then l.getD (f i) 0 else 0
theorem fillL_all (f:Nat→Nat) (l:List UInt8):qjc f l l.length=moveL f l:=by
 unfold qjc moveL
 refine List.map_congr_left fun i hi=>?_
 rw[if_pos (List.mem_range.1 hi)]
theorem fillL_none (f:Nat→Nat) (l:List UInt8):qjc f l 0=List.replicate l.length 0:=by
 refine List.ext_getElem (by simp[qjc]) fun i h1 h2=>?_
 simp[qjc]
theorem fillL_set (f:Nat→Nat) (l:List UInt8) (k:Nat):(qjc f l k).set k (l.getD (f k) 0)=qjc f l (k+1):=by
 refine List.ext_getElem (by simp[qjc]) fun i h1 h2=>?_
 rw[List.getElem_set]
 by_cases e:k=i
 ·subst e
  simp[qjc]
 ·rw[if_neg e]
  simp only[qjc,List.getElem_map,List.getElem_range]
  by_cases h:i<k
  ·rw[if_pos h,if_pos (by omega)]
  ·rw[if_neg h,if_neg (by omega)]
end
end Go.Proofs.YtflcmmeoppdhdaaGreatDoor
