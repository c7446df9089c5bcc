/- What layer 10 does, as functions of lists: the pieces of bytes, what pieces tell; laws of them. · Contracts of layer 10's counting functions. · Contracts of layer 10's small functions: Most, first, .. -/
import Derived.Test.YtflcmmeoppdhdaaGreatDoorQ08
import Derived.BigQuiet
set_option maxHeartbeats 2000000
set_option maxRecDepth 100000
namespace Go.Proofs.YtflcmmeoppdhdaaGreatDoor
open Tryz
section
def jmb (c:UInt8):List UInt8→Nat
 | []=>0
 | x::l=>if x=c then jmb c l+1 else 0
def jzd (m:Nat):List UInt8→Nat
 | []=>0
 | c::l=>min (jmb c l+1) m
def jvz:List UInt8→Bool
 | a::b::c::_=>a==b&&a==c
 | _=>false
def jjl:Nat→List UInt8→Nat
 | 0,_=>0
 | _,[]=>0
 | m+1,c::l=>if jvz (c::l) then 0 else jjl m l+1
def packF:Nat→List UInt8→List UInt8
 | 0,_=>[]
 | _,[]=>[]
 | f+1,c::t =>
  if jvz (c::t) then UInt8.ofNat (jzd 130 (c::t)+125)::c::packF f ((c::t).drop (jzd 130 (c::t)))
  else UInt8.ofNat (jjl 128 (c::t) - 1)::((c::t).take (jjl 128 (c::t))++packF f ((c::t).drop (jjl 128 (c::t))))
def jgf (l:List UInt8):List UInt8:=packF l.length l
theorem leadN_le (c:UInt8) (l:List UInt8):jmb c l≤l.length:=by
 induction l with
 | nil=>simp[jmb]
 | cons x l ih=>simp only[jmb,List.length_cons];split <;> omega
theorem leadN_eq {c:UInt8} {l:List UInt8}:∀ {k:Nat},k<jmb c l→l[k]?=some c:=by
 induction l with
 | nil=>intro k h;simp[jmb] at h
 | cons x l ih =>
  intro k h
  simp only[jmb] at h
  split at h
  ·rename_i e
   cases k with
   | zero=>simp[e]
   | succ k=>simpa using ih (k:=k) (by omega)
  ·omega
theorem leadN_stop {c:UInt8} {l:List UInt8} (h:jmb c l<l.length):l[jmb c l]?≠some c:=by
 induction l with
 | nil=>simp at h
 | cons x l ih =>
  by_cases e:x=c
  ·have hl:jmb c (x::l)=jmb c l+1:=by simp[jmb,e]
   rw[hl] at h ⊢
   simpa using ih (by simpa using h)
  ·have hl:jmb c (x::l)=0:=by simp[jmb,e]
   rw[hl]
   simpa using e
theorem leadN_of {c:UInt8} {l:List UInt8} {k:Nat} (h:∀ j,j<k→l[j]?=some c):k≤jmb c l:=by
 rcases Nat.lt_or_ge (jmb c l) k with g | g
 ·have h1:=h _ g
  have h2:jmb c l<l.length:=(List.getElem?_eq_some_iff.1 h1).1
  exact absurd h1 (leadN_stop h2)
 ·exact g
theorem leadN_is {c:UInt8} {l:List UInt8} {k:Nat} (h:∀ j,j<k→l[j]?=some c) (hs:l[k]?≠some c):jmb c l=k:=by
 have h1:=leadN_of h
 rcases Nat.lt_or_ge k (jmb c l) with g | g
 ·exact absurd (leadN_eq g) hs
 ·omega
theorem alikeN_is {c:UInt8} {t:List UInt8} {m n:Nat} (h1:1≤n) (hm:n≤m) (hn:n≤t.length+1) (h:∀ j,j<n→(c::t)[j]?=some c) (hs:n=m∨(c::t)[n]?≠some c):jzd m (c::t)=n:=by
 obtain⟨k,rfl⟩:∃ k,n=k+1:=⟨n - 1,by omega⟩
 have h':∀ j,j<k→t[j]?=some c:=fun j hj=>by simpa using h (j+1) (by omega)
 simp only[jzd]
 rcases hs with rfl | hs
 ·have:=leadN_of h'
  omega
 ·have:=leadN_is h' (by simpa using hs)
  omega
theorem alikeN_le (m:Nat) (l:List UInt8):jzd m l≤l.length:=by
 cases l with
 | nil=>simp[jzd]
 | cons c t=>have:=leadN_le c t;simp only[jzd,List.length_cons];omega
theorem alikeN_most (m:Nat) (l:List UInt8):jzd m l≤m:=by
 cases l with
 | nil=>simp[jzd]
 | cons c t=>simp only[jzd];omega
theorem alikeN_take (m:Nat) (c:UInt8) (t:List UInt8):(c::t).take (jzd m (c::t))=List.replicate (jzd m (c::t)) c:=by
 refine List.ext_getElem? fun k=>?_
 rw[List.getElem?_take,List.getElem?_replicate]
 split
 ·rename_i h
  simp only[jzd] at h
  cases k with
  | zero=>simp
  | succ k=>simpa using leadN_eq (c:=c) (l:=t) (k:=k) (by omega)
 ·rfl
theorem jdh (m:Nat) (hm:3≤m) (l:List UInt8):(3≤jzd m l)↔jvz l=true:=by
 match l with
 | []=>simp[jzd,jvz]
 | [a]=>simp[jzd,jvz,jmb];omega
 | [a,b] =>
  simp only[jzd,jvz,jmb]
  split <;> simp <;> omega
 | a::b::c::t =>
  simp only[jzd,jvz,jmb,Bool.and_eq_true,beq_iff_eq]
  constructor
  ·intro h
   by_cases h1:b=a
   ·by_cases h2:c=a
    ·exact⟨h1.symm,h2.symm⟩
    ·simp[h1,h2] at h
     omega
   ·simp[h1] at h
    omega
  ·rintro⟨rfl,rfl⟩
   simp
   omega
theorem three_len {l:List UInt8} (h:jvz l=true):3≤l.length:=by
 match l,h with
 | _::_::_::_,_=>simp
theorem qwf:∀ (m:Nat) (l:List UInt8),jjl m l≤l.length
 | 0,l=>by simp[jjl]
 | m+1,[]=>by simp[jjl]
 | m+1,c::t=>by
  simp only[jjl,List.length_cons]
  split
  ·omega
  ·have:=qwf m t;omega
theorem jmz:∀ (m:Nat) (l:List UInt8),jjl m l≤m
 | 0,l=>by simp[jjl]
 | m+1,[]=>by simp[jjl]
 | m+1,c::t=>by
  simp only[jjl]
  split
  ·omega
  ·have:=jmz m t;omega
theorem qmg {m:Nat} {l:List UInt8} (h:jvz l=false) (hl:l≠[]):jjl (m+1) l=jjl m (l.drop 1)+1:=by
 match l,hl with
 | c::t,_=>simp[jjl,h]
theorem apartN_stop:∀ (m:Nat) (l:List UInt8),jjl m l=m∨jjl m l=l.length∨jvz (l.drop (jjl m l))=true
 | 0,l=>by simp[jjl]
 | m+1,[]=>by simp[jjl]
 | m+1,c::t=>by
  simp only[jjl]
  split
  ·rename_i h;right;right;simpa using h
  ·rcases apartN_stop m t with h | h | h
   ·left;omega
   ·right;left;simp;omega
   ·right;right;simpa using h
theorem jbd:∀ (f g:Nat) (l:List UInt8),l.length≤f→l.length≤g→packF f l=packF g l
 | 0,0,_,_,_=>rfl
 | 0,g+1,[],_,_=>rfl
 | 0,g+1,c::t,h,_=>by simp at h
 | f+1,0,[],_,_=>rfl
 | f+1,0,c::t,_,h=>by simp at h
 | f+1,g+1,[],_,_=>rfl
 | f+1,g+1,c::t,h,h'=>by
  simp only[List.length_cons] at h h'
  simp only[packF]
  split
  ·rename_i h3
   have:=(jdh 130 (by omega) (c::t)).2 h3
   rw[jbd f g _ (by rw[List.length_drop,List.length_cons];omega) (by rw[List.length_drop,List.length_cons];omega)]
  ·rename_i h3
   have:jjl 128 (c::t)=jjl 127 t+1:=by simp only[jjl];rw[if_neg h3]
   rw[jbd f g _ (by rw[List.length_drop,List.length_cons];omega) (by rw[List.length_drop,List.length_cons];omega)]
theorem packL_nil:jgf []=[]:=rfl
theorem qxr {l:List UInt8} {c:UInt8} (h:jvz l=true) (hc:l[0]?=some c):jgf l=UInt8.ofNat (jzd 130 l+125)::c::jgf (l.drop (jzd 130 l)):=by
 match l,hc with
 | c::t,hc =>
  simp at hc
  subst hc
  have h3:=(jdh 130 (by omega) (c::t)).2 h
  show packF (t.length+1) (c::t)=_
  simp only[packF]
  rw[if_pos h]
  unfold jgf
  rw[jbd t.length _ _ (by rw[List.length_drop,List.length_cons];omega) jw]
theorem qxp {l:List UInt8} (h:jvz l=false) (hl:l≠[]):jgf l=UInt8.ofNat (jjl 128 l - 1)::(l.take (jjl 128 l)++jgf (l.drop (jjl 128 l))):=by
 match l,hl with
 | c::t,_ =>
  have h3:jjl 128 (c::t)=jjl 127 t+1:=by simp only[jjl];rw[if_neg (by simp[h])]
  show packF (t.length+1) (c::t)=_
  simp only[packF]
  rw[if_neg (by simp[h])]
  unfold jgf
  rw[jbd t.length _ _ (by rw[List.length_drop,List.length_cons];omega) jw]
theorem packL_le (l:List UInt8):(jgf l).length≤l.length+(l.length+127)/128:=by
 suffices h:∀ n,∀ l:List UInt8,l.length=n→(jgf l).length≤l.length+(l.length+127)/128 from h _ l rfl
 intro n
 induction n using Nat.strongRecOn with
 | _ n ih =>
  intro l hn
  by_cases hl:l=[]
  ·subst hl;simp[packL_nil]
  ·have hpos:0<l.length:=List.length_pos_iff.2 hl
   have three:∀ l:List UInt8,l.length≤n→jvz l=true→(jgf l).length+1≤l.length+(l.length+127)/128∧∃ k,3≤k∧k≤l.length∧(jgf l).length≤2+(l.length - k)+((l.length - k)+127)/128:=by
    intro l hln h
    have h3:=(jdh 130 (by omega) l).2 h
    have h4:=alikeN_le 130 l
    have:=three_len h
    rw[qxr h (c:=l[0]) (by simp)]
    have hi:=ih (l.length - jzd 130 l) (by omega) (l.drop (jzd 130 l)) (by simp)
    rw[List.length_drop] at hi
    simp only[List.length_cons]
    exact⟨by omega,jzd 130 l,h3,h4,by omega⟩
   cases h:jvz l with
   | true=>have:=(three l (by omega) h).1;omega
   | false =>
    rw[qxp h hl]
    have hp:jjl 128 l=jjl 127 (l.drop 1)+1:=qmg h hl
    have h4:=qwf 128 l
    simp only[List.length_cons,List.length_append,List.length_take]
    rcases apartN_stop 128 l with h5 | h5 | h5
    ·have hi:=ih (l.length - 128) (by omega) (l.drop 128) (by simp)
     rw[List.length_drop] at hi
     rw[h5]
     omega
    ·have:l.drop (jjl 128 l)=[]:=by rw[h5];simp
     rw[this,packL_nil]
     have:=jmz 128 l
     simp
     omega
    ·obtain⟨_,k,h6,h7,h8⟩:=three (l.drop (jjl 128 l)) (by rw[List.length_drop];omega) h5
     rw[List.length_drop] at h7 h8
     have:=jmz 128 l
     omega
def unF:Nat→List UInt8→Option (List UInt8)
 | _,[]=>some []
 | 0,_::_=>none
 | f+1,c::t =>
  if c.toNat<128 then
   if c.toNat+1≤t.length then (unF f (t.drop (c.toNat+1))).map (t.take (c.toNat+1)++·) else none
  else match t with
   | []=>none
   | x::t=>(unF f t).map (List.replicate (c.toNat - 125) x++·)
def jqh (l:List UInt8):Option (List UInt8):=unF l.length l
theorem qyj:∀ (f g:Nat) (l:List UInt8),l.length≤f→l.length≤g→unF f l=unF g l
 | f,g,[],_,_=>by cases f <;> cases g <;> rfl
 | 0,g,c::t,h,_=>by simp at h
 | f+1,0,c::t,_,h=>by simp at h
 | f+1,g+1,c::t,h,h'=>by
  simp only[List.length_cons] at h h'
  simp only[unF]
  split
  ·split
   ·rw[qyj f g _ (by rw[List.length_drop];omega) (by rw[List.length_drop];omega)]
   ·rfl
  ·cases t with
   | nil=>rfl
   | cons x t =>
    simp only[List.length_cons] at h h'
    simp only
    rw[qyj f g _ (by omega) (by omega)]
theorem qwx:jqh []=some []:=rfl
theorem qmj (c:UInt8) (t:List UInt8) (hc:c.toNat<128) (h:c.toNat+1≤t.length):jqh (c::t)=(jqh (t.drop (c.toNat+1))).map (t.take (c.toNat+1)++·):=by
 show unF (t.length+1) (c::t)=_
 simp only[unF]
 rw[if_pos hc,if_pos h,qyj t.length _ _ (by rw[List.length_drop];omega) jw]
 rfl
theorem unpackL_lack (c:UInt8) (t:List UInt8) (hc:c.toNat<128) (h:t.length<c.toNat+1):jqh (c::t)=none:=by
 show unF (t.length+1) (c::t)=_
 simp only[unF]
 rw[if_pos hc,if_neg (by omega)]
theorem unpackL_lack2 (c:UInt8) (hc:¬ c.toNat<128):jqh [c]=none:=by
 show unF 1 [c]=_
 simp only[unF]
 rw[if_neg hc]
theorem qkc (c x:UInt8) (t:List UInt8) (hc:¬ c.toNat<128):jqh (c::x::t)=(jqh t).map (List.replicate (c.toNat - 125) x++·):=by
 show unF (t.length+1+1) (c::x::t)=_
 simp only[unF]
 rw[if_neg hc]
 unfold jqh
 rw[qyj (t.length+1) _ _ (by omega) jw]
theorem unpack_pack (l:List UInt8):jqh (jgf l)=some l:=by
 suffices h:∀ n,∀ l:List UInt8,l.length=n→jqh (jgf l)=some l from h _ l rfl
 intro n
 induction n using Nat.strongRecOn with
 | _ n ih =>
  intro l hn
  by_cases hl:l=[]
  ·subst hl;rfl
  ·cases h:jvz l with
   | true =>
    match l,hl with
    | c::t,_ =>
     have h3:=(jdh 130 (by omega) (c::t)).2 h
     have h4:=alikeN_most 130 (c::t)
     have e:(UInt8.ofNat (jzd 130 (c::t)+125)).toNat=jzd 130 (c::t)+125:=by rw[UInt8.toNat_ofNat'];omega
     rw[qxr h (c:=c) rfl,qkc _ _ _ (by omega),ih _ (by rw[List.length_drop];simp only[List.length_cons] at hn ⊢;omega) _ rfl,e]
     simp only[Option.map_some]
     rw[Nat.add_sub_cancel,←alikeN_take,List.take_append_drop]
   | false =>
    have hp:jjl 128 l=jjl 127 (l.drop 1)+1:=qmg h hl
    have h4:=jmz 128 l
    have h5:=qwf 128 l
    have e:(UInt8.ofNat (jjl 128 l - 1)).toNat=jjl 128 l - 1:=by rw[UInt8.toNat_ofNat'];omega
    have e1:(l.take (jjl 128 l)).length=jjl 128 l:=by simp;omega
    rw[qxp h hl,qmj _ _ (by omega) (by rw[e,List.length_append,e1];omega),e,Nat.sub_add_cancel (by omega)]
    rw[List.drop_append_of_le_length (by omega),List.take_append_of_le_length (by omega),List.drop_of_length_le (l:=l.take _) (by omega),List.nil_append,ih _ (by rw[List.length_drop];omega) _ rfl]
    simp only[Option.map_some]
    rw[List.take_of_length_le (by omega),List.take_append_drop]
def jzy (l:List UInt8) (n:Int):List UInt8 × Nat :=
 if n<0∨268435456<n then ([],2)
 else match jqh l with
  | none=>([],16)
  | some o=>if (o.length:Int)=n then (o,0) else ([],16)
end
section
open Go.RowKit
theorem alike_next {l:List UInt8} {c:UInt8} {k:Nat} (h:∀ j,j<k→l[j]?=some c) (hk:l[k]?=some c):∀ j,j<k+1→l[j]?=some c:=by
 intro j hj
 rcases Nat.lt_or_ge j k with g | g
 ·exact h j g
 ·obtain rfl:j=k:=by omega
  exact hk
def AlikeRel (w:World) (l:List UInt8) (c:UInt8) (m:Nat) (i:Value) (wr:World):Prop :=
 ∃ k:Nat,i=.int .i64 k∧1≤k∧k≤m∧k≤l.length∧Hid (∀ j,j<k→l[j]?=some c)∧Below w.heap.size w wr
theorem alike_any (A:Option Addr) (n c:Nat) (l:List UInt8) (w:World) (hr:Rd w w.heap.size A (bvs l)) (hn:l.length=n) (hn0:0<n) (hn1:n≤1000000000000) (m:Nat) (hm:1≤m) :
  Calls prog 78 #[.slice A n c,.int .i64 (m:Int)] w fun e w'=>e=.returned (.int .i64 (jzd m l:Nat))∧Below w.heap.size w w':=by
 subst hn
 obtain⟨b,off,rfl,hb,hcell⟩:=hr.at_ (by rw[jjg];exact hn0)
 obtain⟨c0,hc0⟩:∃ c0,l[0]?=some c0:=⟨l[0],by simp⟩
 have hcl:∀ k x,l[k]?=some x→w.cell? ⟨b,off+k,none⟩=some (.int .u8 (x.toNat:Int)):=fun k x hx=>hcell k _ (by simp[bvs,hx])
 have HC:=jq hcl
 have H0:=jq hc0
 clear hcell hr hcl
 have hres:∀ k,1≤k→k≤m→k≤l.length→(∀ j,j<k→l[j]?=some c0)→(k=m∨l[k]?≠some c0)→jzd m l=k:=by
  intro k h1 h2 h3 h4 h5
  match l,hc0 with
  | x::t,hc0 =>
   simp at hc0
   subst hc0
   exact alikeN_is h1 h2 (by simpa using h3) h4 h5
 have HRES:=jq hres
 clear hres hc0
 go_enter func78,ntmps78
 go_wp2_with fail
 go_loopw [5] (AlikeRel w l c0 m) (fun i _=>m - (intOf i).toNat)
 case atStart =>
  refine⟨1,rfl,Nat.le_refl _,hm,hn0,jq fun j hj=>?_,Below.refl _ _⟩
  obtain rfl:j=0:=by omega
  exact H0.out
 case round =>
  obtain⟨k,rfl,hk1,hkm,hkl,HK,hbl⟩:=hrel
  have HB:=jq hbl
  by_cases hlt:k<l.length∧k<m
  ·obtain⟨hlt1,hlt2⟩:=hlt
   have hmin:decide ((k:Int)<if m<l.length then (m:Int) else (l.length:Int))=true:=by rw[decide_eq_true_eq];split <;> omega
   obtain⟨x,hx⟩:∃ x,l[k]?=some x:=⟨l[k],by simp⟩
   have hc1:=(hbl.cell (p:=⟨b,off+k,none⟩) hb).trans (HC.out k x hx)
   have hc2:=(hbl.cell (p:=⟨b,off,none⟩) hb).trans (HC.out 0 c0 H0.out)
   have hk0:(0:Int)≤(k:Int):=by omega
   have hkl1:(k:Int)<(l.length:Int):=by omega
   have hl0:(0:Int)<(l.length:Int):=by omega
   have HX:=jq hx
   have HL:=jq (And.intro hlt1 hlt2)
   clear hx hbl hkm hkl hlt2
   by_cases hxc:x=c0
   ·subst hxc
    have hd:((x.toNat:Int)==(x.toNat:Int))=true:=by rw[beq_iff_eq]
    go_wp2_with fail
    go_quiet (fail)
    go_wp2
    all_goals
     go_roundw
     case rel=>exact⟨k+1,by go_num,by omega,HL.out.2,HL.out.1,jq (alike_next HK.out HX.out),below_drewN HB.out nq⟩
     case measure=>have:=HL.out.2;simp[intOf];omega
   ·have hxn:x.toNat≠c0.toNat:=fun e=>hxc (UInt8.toNat_inj.1 e)
    have hd:((x.toNat:Int)==(c0.toNat:Int))=false:=by rw[beq_eq_false_iff_ne];omega
    have hr:=HRES.out k hk1 (by have:=HL.out.2;omega) (by have:=HL.out.1;omega) HK.out (.inr (by rw[HX.out];simpa using hxc))
    have HR:=jq hr
    clear hr
    go_wp2_with fail
    go_quiet (fail)
    go_wp2
    all_goals
     go_ret
     exact⟨by rw[HR.out];rfl,below_drewN HB.out nq⟩
  ·have hmin:decide ((k:Int)<if m<l.length then (m:Int) else (l.length:Int))=false:=by rw[decide_eq_false_iff_not];split <;> omega
   have hr:=HRES.out k hk1 hkm hkl HK.out (by
    rcases Nat.lt_or_ge k m with g | g
    ·right;rw[List.getElem?_eq_none (by omega)];simp
    ·left;omega)
   have HR:=jq hr
   clear hr hlt
   go_wp2_with fail
   go_quiet (fail)
   go_wp2
   all_goals
    go_ret
    exact⟨by rw[HR.out];rfl,below_drewN HB.out nq⟩
theorem apart_at {l:List UInt8} {k m:Nat} (hk:k<l.length):jjl (m+1) (l.drop k)=if jvz (l.drop k) then 0 else jjl m (l.drop (k+1))+1:=by
 rw[List.drop_eq_getElem_cons hk]
 rfl
theorem apart_end {l:List UInt8} {k m:Nat} (hk:l.length≤k):jjl m (l.drop k)=0:=by
 rw[List.drop_of_length_le hk]
 cases m <;> rfl
def ApartRel (w:World) (l:List UInt8) (t:Nat) (i:Value) (wr:World):Prop :=
 ∃ k:Nat,i=.int .i64 k∧1≤k∧k≤128∧k≤l.length∧Hid (k+jjl (128 - k) (l.drop k)=t)∧Below w.heap.size w wr
theorem size_u8r:(prog.info? 5).map (·.size)=some 1:=by kernel_rfl
theorem apart_any (A:Option Addr) (n c:Nat) (l:List UInt8) (w:World) (hr:Rd w w.heap.size A (bvs l)) (hn:l.length=n) (hnc:n≤c) (hn0:0<n) (hn1:n≤1000000000000) :
  Calls prog 79 #[.slice A n c] w fun e w'=>e=.returned (.int .i64 (jjl 127 (l.drop 1)+1:Nat))∧Below w.heap.size w w':=by
 subst hn
 obtain⟨T,hT⟩:∃ T,T=jjl 127 (l.drop 1)+1:=⟨_,rfl⟩
 rw[←hT]
 have HT:=jq hT
 clear hT
 go_enter func79,ntmps79
 go_wp2_with fail
 go_loopw [3] (ApartRel w l T) (fun i _=>128 - (intOf i).toNat)
 case atStart=>exact⟨1,rfl,Nat.le_refl _,by omega,hn0,jq ((Nat.add_comm _ _).trans HT.out.symm),Below.refl _ _⟩
 case round =>
  obtain⟨k,rfl,hk1,hkm,hkl,HK,hbl⟩:=hrel
  have HB:=jq hbl
  have HR:=jq ((hr.below hbl).more hbl.size)
  by_cases hlt:k<l.length∧k<128
  ·obtain⟨hlt1,hlt2⟩:=hlt
   have hmin:decide ((k:Int)<if 128<l.length then (128:Int) else (l.length:Int))=true:=by rw[decide_eq_true_eq];split <;> omega
   have hst:jjl (128 - k) (l.drop k)=if jvz (l.drop k) then 0 else jjl (128 - (k+1)) (l.drop (k+1))+1:=by
    rw[show 128 - k=(128 - (k+1))+1 by omega]
    exact apart_at hlt1
   have h3:=jdh 3 (by omega) (l.drop k)
   have hd0:0<l.length - k:=by omega
   have C:=jq fun (A':Option Addr) (c':Nat) (hrd:Rd wr wr.heap.size A' (bvs (l.drop k)))=>alike_any A' (l.length - k) c' (l.drop k) wr hrd (by simp) hd0 (by omega) 3 (by omega)
   have HL:=jq (And.intro hlt1 hlt2)
   have HST:=jq hst
   have H3:=jq h3
   have HRD:Rd wr wr.heap.size (A.map (·.add k)) (bvs (l.drop k)):=by have:=HR.out.drop k;rwa [jxj] at this
   have HA:=jq (C.out _ (c - k) HRD)
   clear hst h3 hbl hr hkm HRD C HR
   obtain⟨a,ha⟩:∃ a,a=jzd 3 (l.drop k):=⟨_,rfl⟩
   rw[←ha] at HA H3
   clear ha
   cases h:jvz (l.drop k) with
   | true =>
    rw[h] at HST H3
    have hd:decide ((a:Int)<3)=false:=by rw[decide_eq_false_iff_not];have:=H3.out.2 rfl;omega
    have hk':=HK.out
    rw[HST.out,if_pos rfl,Nat.add_zero] at hk'
    have HKK:=jq hk'
    clear hk'
    go_wp2_with fail
    all_goals
     refine HA.out.mono ?_
     rintro e w2 ⟨rfl,hb2⟩
     have HB2:=jq (HB.out.trans (hb2.mono HB.out.size))
     clear hb2
     go_wp2_with fail
     go_ret
     exact⟨by rw[HKK.out];rfl,HB2.out⟩
   | false =>
    rw[h] at HST H3
    have hd:decide ((a:Int)<3)=true:=by
     rw[decide_eq_true_eq]
     rcases Nat.lt_or_ge a 3 with g | g
     ·omega
     ·have:=H3.out.1 g;cases this
    have hk':=HK.out
    rw[HST.out,if_neg (by decide)] at hk'
    have HKK:=jq (show k+1+jjl (128 - (k+1)) (l.drop (k+1))=T by omega)
    clear hk'
    go_wp2_with fail
    all_goals
     refine HA.out.mono ?_
     rintro e w2 ⟨rfl,hb2⟩
     have HB2:=jq (HB.out.trans (hb2.mono HB.out.size))
     clear hb2
     go_wp2_with fail
     go_roundw
     case rel=>exact⟨k+1,by go_num,by omega,HL.out.2,HL.out.1,HKK,HB2.out⟩
     case measure=>have:=HL.out.2;simp[intOf];omega
  ·have hmin:decide ((k:Int)<if 128<l.length then (128:Int) else (l.length:Int))=false:=by rw[decide_eq_false_iff_not];split <;> omega
   have hk':k=T:=by
    rw[←HK.out]
    rcases Nat.lt_or_ge k l.length with g | g
    ·obtain rfl:k=128:=by omega
     show _=128+jjl 0 _
     cases hq:l.drop 128 <;> rfl
    ·rw[apart_end g];rfl
   have HKK:=jq hk'
   clear hk'
   rcases Nat.lt_or_ge k l.length with g | g
   ·have g1:¬ ((l.length:Int)≤128):=by omega
    have g2:¬ ((k:Int)<128):=by omega
    clear hlt g
    go_wp2_with fail
    go_ret
    exact⟨by rw[HKK.out];rfl,HB.out⟩
   ·have g1:¬ (k:Int)<(l.length:Int):=by omega
    clear hlt
    go_wp2_with fail
    all_goals
     go_ret
     exact⟨by rw[HKK.out];rfl,HB.out⟩
theorem ret_two {a a' b b':Int} (h1:a=a') (h2:b=b'):Ending.returned (.tuple #[.int .i64 a,.int .i64 b])=.returned (.tuple #[.int .i64 a',.int .i64 b']):=by subst h1 h2;rfl
def jkf (c:UInt8):Nat:=if c.toNat<128 then c.toNat+2 else 2
def qym (c:UInt8):Nat:=if c.toNat<128 then c.toNat+1 else c.toNat - 125
theorem first_any (A:Option Addr) (n cap:Nat) (x:UInt8) (t:List UInt8) (w:World) (hr:Rd w w.heap.size A (bvs (x::t))) (hn:t.length+1=n) :
  Calls prog 80 #[.slice A n cap] w fun e w'=>e=.returned (.tuple #[.int .i64 (jkf x:Nat),.int .i64 (qym x:Nat)])∧w=w':=by
 subst hn
 obtain⟨b,off,rfl,hb,hcell⟩:=hr.at_ (by simp[bvs])
 have hc0:=hcell 0 (.int .u8 (x.toNat:Int)) (by simp[bvs])
 rw[Nat.add_zero] at hc0
 have h8:=x.toNat_lt
 clear hcell hr
 by_cases h:x.toNat<128
 ·have hi:(x.toNat:Int)<128:=by omega
  have e1:jkf x=x.toNat+2:=by simp[jkf,h]
  have e2:qym x=x.toNat+1:=by simp[qym,h]
  rw[e1,e2]
  clear e1 e2
  go_enter func80,ntmps80
  go_wp2
  go_ret2
  exact⟨ret_two (by omega) (by omega),rfl⟩
 ·have hi:¬ (x.toNat:Int)<128:=by omega
  have e1:jkf x=2:=by simp[jkf,h]
  have e2:qym x=x.toNat - 125:=by simp[qym,h]
  rw[e1,e2]
  clear e1 e2
  go_enter func80,ntmps80
  go_wp2
  go_ret2
  exact⟨ret_two rfl (by omega),rfl⟩
theorem info_u8q:(prog.info? 5).map (fun i=>(i.zero,i.size,i.bytes))=some (some (.int .u8 0),1,1):=by kernel_rfl
theorem bvs_rep (y:UInt8) (m:Nat) (out:List UInt8):bvs (out++List.replicate (m+1) y)=bvs (out++List.replicate m y)++[.int .u8 (y.toNat:Int)]:=by
 rw[List.replicate_succ',←List.append_assoc,jqt]
 rfl
def ToldRel (w:World) (base:Nat) (out:List UInt8) (y:UInt8) (many:Nat) (v i:Value) (wr:World):Prop :=
 ∃ k:Nat,k≤many∧i=.int .i64 k∧wr.ownsRow base 5 1 v (out.length+k) (bvs (out++List.replicate k y))∧Below base w wr
theorem told_apart (base:Nat) (out:List UInt8) (v:Value) (n0:Nat) (A:Option Addr) (n c:Nat) (x:UInt8) (t:List UInt8) (w:World) (hown:w.ownsRow base 5 1 v n0 (bvs out)) (hn0:out.length=n0) (hbase:base≤w.heap.size)
  (hr:Rd w base A (bvs (x::t))) (hn:t.length+1=n) (hnc:n≤c) (hx:x.toNat<128) (ht:t.length=x.toNat+1) (hb:n0≤1000000000000) (m:Int) :
  Calls prog 81 #[v,.slice A n c,.int .i64 m] w fun e w'=>∃ v',e=.returned v'∧w'.ownsRow base 5 1 v' (n0+t.length) (bvs (out++t))∧Below base w w':=by
 obtain⟨i0,hi,hz0,hz1,hz2⟩:=info_parts info_u8q
 subst hn0 hn
 have hr1:Rd w base (A.map (·.add 1)) (bvs t):=by have:=hr.drop 1;simpa [bvs] using this
 obtain⟨b,off,rfl,hb1,hcell⟩:=hr.at_ (by simp[bvs])
 have hc0:=hcell 0 (.int .u8 (x.toNat:Int)) (by simp[bvs])
 rw[Nat.add_zero] at hc0
 have hi128:(x.toNat:Int)<128:=by omega
 have ht2:t.length≤128:=by omega
 have hlen:(bvs t).length=t.length*1:=by rw[jjg,Nat.mul_one]
 have hA1:out.length+t.length≤maxLen:=by simp only[maxLen];omega
 have hA2:(out.length+t.length)*1≤140737488355328:=by omega
 have hne:¬ c=1:=by omega
 have HOWN:=jq hown
 have HR:=jq hr1
 have HBS:=jq hbase
 have HL:=jq (And.intro hlen (And.intro hA1 hA2))
 clear hcell hr hr1 hown hlen hA1 hA2 ht hx hbase
 go_enter func81,ntmps81
 go_wp2_with ((with_reducible show wpList _ _ _ (({ dst:=some 14,op:=_,type:=_,pos:=_,after:=_,guard:=_ }:Oper)::_) _ _);go_must (refine jjd rfl (.tmp 11) (.tmp 13) 22 rfl base 5 i0 (.int .u8 0) 1 1 underlying22 hi hz0 hz1 hz2 rfl (by decide) _ _ _ rfl HOWN.out base _ t.length (c - 1) (bvs t) rfl HR.out HL.out.1 (jmx _) HL.out.2.1 HL.out.2.2 HBS.out ?_;intro v1 w1 hown1 hg1;have hb1':Below base w w1:=(Below.refl base w).grown hg1 HBS.out (jjb HOWN.out);clear hg1))
 go_ret
 rw[←jqt] at hown1
 exact⟨_,rfl,hown1,hb1'⟩
theorem told_alike (base:Nat) (out:List UInt8) (v:Value) (n0:Nat) (A:Option Addr) (c:Nat) (x y:UInt8) (w:World) (hown:w.ownsRow base 5 1 v n0 (bvs out)) (hn0:out.length=n0) (hbase:base≤w.heap.size)
  (hr:Rd w base A (bvs [x,y])) (hx:¬ x.toNat<128) (hb:n0≤1000000000000) (m:Nat) (hm:m≤1000) :
  Calls prog 81 #[v,.slice A 2 c,.int .i64 (m:Int)] w fun e w'=>∃ v',e=.returned v'∧w'.ownsRow base 5 1 v' (n0+m) (bvs (out++List.replicate m y))∧Below base w w':=by
 obtain⟨i0,hi,hz0,hz1,hz2⟩:=info_parts info_u8q
 subst hn0
 obtain⟨b,off,rfl,hb1,hcell⟩:=hr.at_ (by simp[bvs])
 have hc0:=hcell 0 (.int .u8 (x.toNat:Int)) (by simp[bvs])
 have hc1:=hcell 1 (.int .u8 (y.toNat:Int)) (by simp[bvs])
 rw[Nat.add_zero] at hc0
 have hi128:¬ (x.toNat:Int)<128:=by omega
 have HOWN:=jq hown
 clear hcell hr hx hown
 go_enter func81,ntmps81
 go_wp2_with fail
 go_loopw [0,16] (ToldRel w base out y m) (fun _ i _=>m - (intOf i).toNat)
 case atStart=>exact⟨0,Nat.zero_le _,rfl,by simpa using HOWN.out,Below.refl _ _⟩
 case round =>
  clear HOWN
  obtain⟨k,hk,rfl,hown,hbl⟩:=hrel
  have hbs:=hbl.size
  by_cases hlt:k<m
  ·have hk1:(k:Int)<(m:Int):=by omega
   have hc1':=(hbl.cell (p:=⟨b,off+1,none⟩) hb1).trans hc1
   have hA1:out.length+k+1≤maxLen:=by simp only[maxLen];omega
   have hA2:(out.length+k+1)*1≤140737488355328:=by omega
   have HOWN:=jq hown
   have HB:=jq (And.intro hbl (And.intro hbase hbs))
   clear hown hbl hbs hc0 hbase
   go_wp2_with ((with_reducible show wpList _ _ _ (({ dst:=some 23,op:=_,type:=_,pos:=_,after:=_,guard:=_ }:Oper)::_) _ _);go_must (refine jjd rfl (.tmp 18) (.tmp 22) 22 rfl base 5 i0 (.int .u8 0) 1 1 underlying22 hi hz0 hz1 hz2 rfl (by decide) _ _ _ rfl (HOWN.out.alloc _) _ _ 1 1 _ rfl (Rd.new _ _ _) rfl (by intro u hu;simp at hu;subst hu;rfl) hA1 hA2 (by have:=HB.out.2;simp;omega) ?_;intro v1 w1 hown1 hg1;have hb1':Below base w w1:=(HB.out.1.alloc (by have:=HB.out.2;omega) _).grown hg1 (by have:=HB.out.2;simp;omega) (jjb HOWN.out);clear hg1))
   have hown2:w1.ownsRow base 5 1 v1 (out.length+(k+1)) (bvs (out++List.replicate (k+1) y)):=by
    rw[bvs_rep,←Nat.add_assoc]
    exact hown1
   have HBS:=jq HB.out.2.1
   clear hown1 hA1 hA2 HOWN HB
   go_roundw
   case rel=>exact⟨k+1,by omega,by go_num,hown2,hb1'⟩
   case measure=>simp[intOf];omega
  ·obtain rfl:k=m:=by omega
   clear hlt
   go_wp2
   go_ret
   exact⟨_,rfl,hown,hbl⟩
theorem nat_in (x:Nat) (h:x≤9223372036854775807):wrap64 (x:Int)=(x:Int):=IntWalk.wrap64_in _ (by omega)
theorem words_any (n W:Nat) (hW:IsW W) (hn:n≤9223372036854775807) (w:World) :
  Calls prog 70 #[.agg #[.int .i64 (n:Int),.int .i64 (W:Int)]] w fun e w'=>e=.returned (.int .i64 ((n/W:Nat):Int))∧Below w.heap.size w w':=by
 have hp:=hW.pos
 have hq:=nat_in (n/W) (by have:=Nat.div_le_self n W;omega)
 rw[Int.natCast_ediv] at hq
 have HQ:=jq hq
 clear hq
 go_enter func70,ntmps70
 go_wp2
 go_ret
 exact⟨by rw[Int.natCast_ediv];exact congrArg (fun x=>Ending.returned (Value.int .i64 x)) HQ.out,(Below.refl _ _).alloc jw _⟩
theorem two_num (i a b x:Nat) (hx:i%a*b+i/a=x) (h:x≤9223372036854775807):wrap64 (wrap64 ((i:Int)%(a:Int)*(b:Int))+wrap64 ((i:Int)/(a:Int)))=(x:Int):=by
 have h1:i%a*b≤x:=by rw[←hx];exact Nat.le_add_right _ _
 have h2:i/a≤x:=by rw[←hx];exact Nat.le_add_left _ _
 rw[←Int.natCast_emod,←Int.natCast_mul,←Int.natCast_ediv,nat_in _ (Nat.le_trans h1 h),nat_in _ (Nat.le_trans h2 h),←Int.natCast_add,hx,nat_in x h]
theorem to_any (n W i:Nat) (hW:IsW W) (hn:n≤9223372036854775807) (hi:i<n) (w:World) :
  Calls prog 49 #[.agg #[.int .i64 (n:Int),.int .i64 (W:Int)],.int .i64 (i:Int)] w fun e w'=>e=.returned (.int .i64 ((toI n W i:Nat):Int))∧Below w.heap.size w w':=by
 have hp:=hW.pos
 have c1:=words_any n W hW hn
 obtain⟨q,hq⟩:∃ q,q=n/W:=⟨_,rfl⟩
 rw[←hq] at c1
 obtain⟨P,hP⟩:∃ P,P=q*W:=⟨_,rfl⟩
 have hPn:P≤n:=by rw[hP,hq];exact div_le'
 have hmul:wrap64 ((q:Int)*(W:Int))=(P:Int):=by rw[←Int.natCast_mul,←hP];exact nat_in P (by omega)
 have C1:=jq c1
 have hw0:(W:Int)≠0:=by omega
 have hbx:Blk (w.alloc (.cells #[.int .i64 (n:Int),.int .i64 (W:Int)] 76)) w.heap.size 76 [.int .i64 (n:Int),.int .i64 (W:Int)]:=heap_alloc_new w _
 have hbb:=(Below.refl w.heap.size w).alloc jw (.cells #[.int .i64 (n:Int),.int .i64 (W:Int)] 76)
 clear c1
 go_enter func49,ntmps49
 go_wp2_with fail
 refine (C1.out _).mono ?_
 rintro e w1 ⟨rfl,hb⟩
 have hbx1:=hbx.grow hb
 have hb1:=hbb.trans (hb.mono (by simp))
 have hc1:w1.cell? ⟨w.heap.size,1,none⟩=some (.int .i64 (W:Int)):=hbx1.cell 1
 clear hb hbx hbx1 hbb C1
 by_cases h:P≤i
 ·have h1:(P:Int)≤(i:Int):=by omega
  have ho:toI n W i=i:=by rw[toI,←hq,←hP,if_pos h]
  clear hq hP
  go_wp2
  go_ret
  exact⟨by rw[ho];rfl,hb1⟩
 ·have h1:¬ ((P:Int)≤(i:Int)):=by omega
  have ho:toI n W i=i%W*q+i/W:=by rw[toI,←hq,←hP,if_neg h]
  clear hq hP
  go_wp2_with fail
  go_quiet (fail)
  have hx:=two_num i W q _ ho.symm (by have:=toI_lt hp.1 hi;omega)
  have HX:=jq hx
  clear hx
  go_wp2
  go_ret
  exact⟨congrArg (fun x=>Ending.returned (Value.int .i64 x)) HX.out,below_drewN hb1 nq⟩
theorem from_any (n W i:Nat) (hW:IsW W) (hn:n≤9223372036854775807) (hi:i<n) (w:World) :
  Calls prog 48 #[.agg #[.int .i64 (n:Int),.int .i64 (W:Int)],.int .i64 (i:Int)] w fun e w'=>e=.returned (.int .i64 ((qyv n W i:Nat):Int))∧Below w.heap.size w w':=by
 have hp:=hW.pos
 have c1:=words_any n W hW hn
 obtain⟨q,hq⟩:∃ q,q=n/W:=⟨_,rfl⟩
 rw[←hq] at c1
 obtain⟨P,hP⟩:∃ P,P=q*W:=⟨_,rfl⟩
 have hPn:P≤n:=by rw[hP,hq];exact div_le'
 have hmul:wrap64 ((q:Int)*(W:Int))=(P:Int):=by rw[←Int.natCast_mul,←hP];exact nat_in P (by omega)
 have C1:=jq c1
 have hbx:Blk (w.alloc (.cells #[.int .i64 (n:Int),.int .i64 (W:Int)] 76)) w.heap.size 76 [.int .i64 (n:Int),.int .i64 (W:Int)]:=heap_alloc_new w _
 have hbb:=(Below.refl w.heap.size w).alloc jw (.cells #[.int .i64 (n:Int),.int .i64 (W:Int)] 76)
 clear c1
 go_enter func48,ntmps48
 go_wp2_with fail
 refine (C1.out _).mono ?_
 rintro e w1 ⟨rfl,hb⟩
 have hbx1:=hbx.grow hb
 have hb1:=hbb.trans (hb.mono (by simp))
 have hc1:w1.cell? ⟨w.heap.size,1,none⟩=some (.int .i64 (W:Int)):=hbx1.cell 1
 clear hb hbx hbx1 hbb C1
 by_cases h:P≤i
 ·have h1:(P:Int)≤(i:Int):=by omega
  have ho:qyv n W i=i:=by rw[qyv,←hq,←hP,if_pos h]
  clear hq hP
  go_wp2
  go_ret
  exact⟨by rw[ho];rfl,hb1⟩
 ·have h1:¬ ((P:Int)≤(i:Int)):=by omega
  have ho:qyv n W i=i%q*W+i/q:=by rw[qyv,←hq,←hP,if_neg h]
  have hq0:(q:Int)≠0:=by
   intro e
   have e0:q=0:=by omega
   rw[hP,e0,Nat.zero_mul] at h
   omega
  clear hq hP
  go_wp2_with fail
  go_quiet (fail)
  have hx:=two_num i q W _ ho.symm (by have:=fromI_lt hi (W:=W);omega)
  have HX:=jq hx
  clear hx
  go_wp2
  go_ret
  exact⟨congrArg (fun x=>Ending.returned (Value.int .i64 x)) HX.out,below_drewN hb1 nq⟩
theorem info_u8p:(prog.info? 5).map (fun i=>(i.zero,i.size,i.bytes))=some (some (.int .u8 0),1,1):=by kernel_rfl
theorem bvs_fill (f:Nat→Nat) (l:List UInt8) (k:Nat):(bvs (qjc f l k)).set k (.int .u8 ((l.getD (f k) 0).toNat:Int))=bvs (qjc f l (k+1)):=by
 rw[←fillL_set]
 simp[bvs,List.map_set]
theorem qdr (f:Nat→Nat) (l:List UInt8) (k:Nat) (h:k<l.length):(bvs (qjc f l k))[k]?=some (.int .u8 0):=by
 simp[bvs,qjc,h]
def MovedRel (w:World) (n W s r:Nat) (f:Nat→Nat) (l:List UInt8) (i:Value) (wr:World):Prop :=
 ∃ k:Nat,k≤l.length∧i=.int .i64 k∧Blk wr s 76 [.int .i64 (n:Int),.int .i64 (W:Int)]∧Blk wr r 5 (bvs (qjc f l k))∧Below w.heap.size w wr
theorem moved_wrong (a:Value) (b:Value) (W:Int) (w:World) (hW:jqj W=false) :
  Calls prog 47 #[a,.int .i64 W,b] w (qmd w []):=by
 have C1:=jq (jjx W false hW.symm)
 clear hW
 go_enter func47,ntmps47
 go_wp2_with (go_at_call 14;go_must (refine (C1.out _).mono ?_;rintro e w' ⟨rfl,rfl⟩))
 go_ret
 exact⟨.slice none 0 0,rfl,⟨none,0,rfl,Nat.le_refl _,Rd.nil_ _ _ _⟩,Below.refl _ _⟩
theorem movedFrom_right (W:Nat) (hW:IsW W) (A:Option Addr) (n c:Nat) (l:List UInt8) (w:World) (hr:Rd w w.heap.size A (bvs l)) (hn:l.length=n) (hb1:n≤1000000000000) :
  Calls prog 47 #[.slice A n c,.int .i64 (W:Int),.func (.func 48) #[] #[]] w (qmd w (splitL W l)):=by
 obtain⟨i0,hi,hz0,hz1,hz2⟩:=info_parts info_u8p
 subst hn
 have C1:=jq (jjx (W:Int) true hW.right)
 have C2:=jq (fun (i:Nat) (hi:i<l.length)=>from_any l.length W i hW (by omega) hi)
 have HP:=jq hW.pos
 clear hW
 go_enter func47,ntmps47
 go_wp2_with (first
  | (go_at_call 14;go_must (refine (C1.out _).mono ?_;rintro e w' ⟨rfl,rfl⟩))
  | (at_make;go_must (refine jqp rfl (.tmp 18) (.tmp 18) 22 rfl w.heap.size 5 i0 (.int .u8 0) 1 underlying22 hi hz0 rfl hz1 hz2 .i64 .i64 _ _ rfl rfl l.length l.length rfl rfl jw (by omega) (by simp only[maxLen];omega) (by simp) ?_;intro w1 hg1 hown1 hgr1)))
 have hbx:Blk (w.alloc (.cells #[.int .i64 (l.length:Int),.int .i64 (W:Int)] 76)) w.heap.size 76 [.int .i64 (l.length:Int),.int .i64 (W:Int)]:=heap_alloc_new w _
 have hbb:=(Below.refl w.heap.size w).alloc jw (.cells #[.int .i64 (l.length:Int),.int .i64 (W:Int)] 76)
 have hb1':Below (w.alloc (.cells #[.int .i64 (l.length:Int),.int .i64 (W:Int)] 76)).heap.size (w.alloc (.cells #[.int .i64 (l.length:Int),.int .i64 (W:Int)] 76)) w1:=(Below.refl _ _).grown hgr1 jw (by simp)
 have hs1:=hbx.grow hb1'
 have hw1:=hbb.trans (hb1'.mono hbb.size)
 have hrow:Blk w1 (w.heap.size+1) 5 (bvs (qjc (qyv l.length W) l 0)):=by
  rw[World.size_alloc] at hg1
  unfold Blk
  rw[hg1,fillL_none]
  simp[bvs]
 clear hg1 hown1 hgr1 hbx hbb hb1'
 go_loopw [22] (MovedRel w l.length W w.heap.size (w.heap.size+1) (qyv l.length W) l) (fun i _=>l.length - (intOf i).toNat)
 case atStart=>exact⟨0,Nat.zero_le _,rfl,hs1,hrow,hw1⟩
 case round =>
  obtain⟨k,hk,rfl,hs,hrw,hb⟩:=hrel
  clear hs1 hrow hw1
  by_cases hlt:k<l.length
  ·have hJl:=fromI_lt (W:=W) hlt
   have c2:=C2.out k hlt
   have hset:=bvs_fill (qyv l.length W) l k
   have hget:=qdr (qyv l.length W) l k hlt
   obtain⟨J,hJ⟩:∃ J,J=qyv l.length W k:=⟨_,rfl⟩
   rw[←hJ] at hJl c2 hset
   have hd:l.getD J 0=l[J]:=by simp[List.getD_eq_getElem?_getD,hJl]
   rw[hd] at hset
   obtain⟨ab,ao,rfl,hab,hcell0⟩:=hr J _ (jym l J hJl)
   have hk1:(k:Int)<(l.length:Int):=by omega
   have hJ1:(J:Int)<(l.length:Int):=by omega
   have hc0:=hs.cell 0
   have hc1:=hs.cell 1
   have C3:=jq c2
   have HSET:=jq hset
   have HGET:=jq hget
   have HRW:=jq hrw
   have HB:=jq hb
   have HS:=jq hs
   clear c2 hset hget hJ hd hrw hb hs
   go_wp2_with fail
   refine (C3.out _).mono ?_
   rintro e w2 ⟨rfl,hb2⟩
   have hcell:=((HB.out.trans (hb2.mono HB.out.size)).cell (p:=⟨ab,ao+J,none⟩) hab).trans hcell0
   have hrw2:=HRW.out.grow hb2
   have hs2:=HS.out.grow hb2
   have hbw:=HB.out.trans (hb2.mono HB.out.size)
   have hcr:=(hrw2.cell k).trans HGET.out
   have hfr:=hrw2.frozen k
   obtain⟨b,hbv⟩:∃ b,b=l[J]:=⟨_,rfl⟩
   have hset2:=hrw2.set_ k (.int .u8 (b.toNat:Int))
   rw[hbv,HSET.out,←hbv] at hset2
   rw[←hbv] at hcell
   have hs3:=hs2.setOther ⟨w.heap.size+1,k,none⟩ (.int .u8 (b.toNat:Int)) (by simp)
   have hb3:=hbw.setCell (p:=⟨w.heap.size+1,k,none⟩) (by simp) (.int .u8 (b.toNat:Int))
   have HE:=jq (And.intro hset2 (And.intro hs3 hb3))
   clear hrw2 hs2 hbw hset2 hs3 hb3 hbv hb2 hc0 hc1 hcell0 C3 HSET HGET HRW HB HS
   go_wp2
   go_roundw
   case rel=>exact⟨k+1,by omega,by go_num,HE.out.2.1,HE.out.1,HE.out.2.2⟩
   case measure=>simp[intOf];omega
  ·obtain rfl:k=l.length:=by omega
   rw[fillL_all] at hrw
   have hrd:=Rd.of_blk hrw
   have HRD:=jq hrd
   clear hrw hrd hs
   go_wp2
   go_ret
   exact⟨.slice (some ⟨w.heap.size+1,0,none⟩) l.length l.length,rfl,⟨_,l.length,by rw[jkr],by rw[jkr];exact Nat.le_refl _,HRD.out⟩,hb⟩
theorem movedTo_right (W:Nat) (hW:IsW W) (A:Option Addr) (n c:Nat) (l:List UInt8) (w:World) (hr:Rd w w.heap.size A (bvs l)) (hn:l.length=n) (hb1:n≤1000000000000) :
  Calls prog 47 #[.slice A n c,.int .i64 (W:Int),.func (.func 49) #[] #[]] w (qmd w (joinL W l)):=by
 obtain⟨i0,hi,hz0,hz1,hz2⟩:=info_parts info_u8p
 subst hn
 have C1:=jq (jjx (W:Int) true hW.right)
 have C2:=jq (fun (i:Nat) (hi:i<l.length)=>to_any l.length W i hW (by omega) hi)
 have HP:=jq hW.pos
 clear hW
 go_enter func47,ntmps47
 go_wp2_with (first
  | (go_at_call 14;go_must (refine (C1.out _).mono ?_;rintro e w' ⟨rfl,rfl⟩))
  | (at_make;go_must (refine jqp rfl (.tmp 18) (.tmp 18) 22 rfl w.heap.size 5 i0 (.int .u8 0) 1 underlying22 hi hz0 rfl hz1 hz2 .i64 .i64 _ _ rfl rfl l.length l.length rfl rfl jw (by omega) (by simp only[maxLen];omega) (by simp) ?_;intro w1 hg1 hown1 hgr1)))
 have hbx:Blk (w.alloc (.cells #[.int .i64 (l.length:Int),.int .i64 (W:Int)] 76)) w.heap.size 76 [.int .i64 (l.length:Int),.int .i64 (W:Int)]:=heap_alloc_new w _
 have hbb:=(Below.refl w.heap.size w).alloc jw (.cells #[.int .i64 (l.length:Int),.int .i64 (W:Int)] 76)
 have hb1':Below (w.alloc (.cells #[.int .i64 (l.length:Int),.int .i64 (W:Int)] 76)).heap.size (w.alloc (.cells #[.int .i64 (l.length:Int),.int .i64 (W:Int)] 76)) w1:=(Below.refl _ _).grown hgr1 jw (by simp)
 have hs1:=hbx.grow hb1'
 have hw1:=hbb.trans (hb1'.mono hbb.size)
 have hrow:Blk w1 (w.heap.size+1) 5 (bvs (qjc (toI l.length W) l 0)):=by
  rw[World.size_alloc] at hg1
  unfold Blk
  rw[hg1,fillL_none]
  simp[bvs]
 clear hg1 hown1 hgr1 hbx hbb hb1'
 go_loopw [22] (MovedRel w l.length W w.heap.size (w.heap.size+1) (toI l.length W) l) (fun i _=>l.length - (intOf i).toNat)
 case atStart=>exact⟨0,Nat.zero_le _,rfl,hs1,hrow,hw1⟩
 case round =>
  obtain⟨k,hk,rfl,hs,hrw,hb⟩:=hrel
  clear hs1 hrow hw1
  by_cases hlt:k<l.length
  ·have hJl:=toI_lt HP.out.1 hlt
   have c2:=C2.out k hlt
   have hset:=bvs_fill (toI l.length W) l k
   have hget:=qdr (toI l.length W) l k hlt
   obtain⟨J,hJ⟩:∃ J,J=toI l.length W k:=⟨_,rfl⟩
   rw[←hJ] at hJl c2 hset
   have hd:l.getD J 0=l[J]:=by simp[List.getD_eq_getElem?_getD,hJl]
   rw[hd] at hset
   obtain⟨ab,ao,rfl,hab,hcell0⟩:=hr J _ (jym l J hJl)
   have hk1:(k:Int)<(l.length:Int):=by omega
   have hJ1:(J:Int)<(l.length:Int):=by omega
   have hc0:=hs.cell 0
   have hc1:=hs.cell 1
   have C3:=jq c2
   have HSET:=jq hset
   have HGET:=jq hget
   have HRW:=jq hrw
   have HB:=jq hb
   have HS:=jq hs
   clear c2 hset hget hJ hd hrw hb hs
   go_wp2_with fail
   refine (C3.out _).mono ?_
   rintro e w2 ⟨rfl,hb2⟩
   have hcell:=((HB.out.trans (hb2.mono HB.out.size)).cell (p:=⟨ab,ao+J,none⟩) hab).trans hcell0
   have hrw2:=HRW.out.grow hb2
   have hs2:=HS.out.grow hb2
   have hbw:=HB.out.trans (hb2.mono HB.out.size)
   have hcr:=(hrw2.cell k).trans HGET.out
   have hfr:=hrw2.frozen k
   obtain⟨b,hbv⟩:∃ b,b=l[J]:=⟨_,rfl⟩
   have hset2:=hrw2.set_ k (.int .u8 (b.toNat:Int))
   rw[hbv,HSET.out,←hbv] at hset2
   rw[←hbv] at hcell
   have hs3:=hs2.setOther ⟨w.heap.size+1,k,none⟩ (.int .u8 (b.toNat:Int)) (by simp)
   have hb3:=hbw.setCell (p:=⟨w.heap.size+1,k,none⟩) (by simp) (.int .u8 (b.toNat:Int))
   have HE:=jq (And.intro hset2 (And.intro hs3 hb3))
   clear hrw2 hs2 hbw hset2 hs3 hb3 hbv hb2 hc0 hc1 hcell0 C3 HSET HGET HRW HB HS
   go_wp2
   go_roundw
   case rel=>exact⟨k+1,by omega,by go_num,HE.out.2.1,HE.out.1,HE.out.2.2⟩
   case measure=>simp[intOf];omega
  ·obtain rfl:k=l.length:=by omega
   rw[fillL_all] at hrw
   have hrd:=Rd.of_blk hrw
   have HRD:=jq hrd
   clear hrw hrd hs
   go_wp2
   go_ret
   exact⟨.slice (some ⟨w.heap.size+1,0,none⟩) l.length l.length,rfl,⟨_,l.length,by rw[qvl],by rw[qvl];exact Nat.le_refl _,HRD.out⟩,hb⟩
def ofB (f:Nat→List UInt8→List UInt8) (W:Int) (l:List UInt8):List UInt8:=if jqj W then f W.toNat l else []
theorem ofB_of {W:Nat} (hW:IsW W) (f:Nat→List UInt8→List UInt8) (l:List UInt8):ofB f (W:Int) l=f W l:=by
 unfold ofB
 rw[←hW.right,if_pos rfl]
 rfl
theorem planeSplit_any (W:Int) (A:Option Addr) (n c:Nat) (l:List UInt8) (w:World) (hr:Rd w w.heap.size A (bvs l)) (hn:l.length=n) (hb1:n≤1000000000000) :
  Calls prog 29 #[.slice A n c,.int .i64 W] w (qmd w (ofB splitL W l)):=by
 cases hR:jqj W with
 | true =>
  obtain⟨V,rfl,hV⟩:=jdk hR
  rw[ofB_of hV]
  have C1:=jq (movedFrom_right V hV A n c l w hr hn hb1)
  go_enter func29,ntmps29
  go_wp2_with fail
  refine C1.out.mono ?_
  rintro e w1 ⟨v,rfl,hv,hb⟩
  go_wp2
  go_ret
  exact⟨v,rfl,hv,hb⟩
 | false =>
  unfold ofB
  rw[hR,if_neg (by decide)]
  have C1:=jq (fun a b w=>moved_wrong a b W w hR)
  go_enter func29,ntmps29
  go_wp2_with fail
  refine (C1.out _ _ _).mono ?_
  rintro e w1 ⟨v,rfl,hv,hb⟩
  go_wp2
  go_ret
  exact⟨v,rfl,hv,hb⟩
theorem planeJoin_any (W:Int) (A:Option Addr) (n c:Nat) (l:List UInt8) (w:World) (hr:Rd w w.heap.size A (bvs l)) (hn:l.length=n) (hb1:n≤1000000000000) :
  Calls prog 30 #[.slice A n c,.int .i64 W] w (qmd w (ofB joinL W l)):=by
 cases hR:jqj W with
 | true =>
  obtain⟨V,rfl,hV⟩:=jdk hR
  rw[ofB_of hV]
  have C1:=jq (movedTo_right V hV A n c l w hr hn hb1)
  go_enter func30,ntmps30
  go_wp2_with fail
  refine C1.out.mono ?_
  rintro e w1 ⟨v,rfl,hv,hb⟩
  go_wp2
  go_ret
  exact⟨v,rfl,hv,hb⟩
 | false =>
  unfold ofB
  rw[hR,if_neg (by decide)]
  have C1:=jq (fun a b w=>moved_wrong a b W w hR)
  go_enter func30,ntmps30
  go_wp2_with fail
  refine (C1.out _ _ _).mono ?_
  rintro e w1 ⟨v,rfl,hv,hb⟩
  go_wp2
  go_ret
  exact⟨v,rfl,hv,hb⟩
theorem u8_of (n:Nat) (h:n<256):(Value.int .u8 (n:Int))=.int .u8 ((UInt8.ofNat n).toNat:Int):=by rw[UInt8.toNat_ofNat',Nat.mod_eq_of_lt h]
def PackRel (w:World) (l:List UInt8) (s v:Value) (wr:World):Prop :=
 ∃ (k:Nat) (A:Option Addr) (c:Nat) (out:List UInt8),k≤l.length∧s=.slice A (l.length - k) c∧l.length - k≤c∧Rd wr w.heap.size A (bvs (l.drop k))∧wr.ownsRow w.heap.size 5 1 v out.length (bvs out)∧Hid (out++jgf (l.drop k)=jgf l)∧out.length≤2*k∧Below w.heap.size w wr
def lenOf:Value→Nat
 | .slice _ n _=>n
 | _=>0
theorem runsPack_any (A:Option Addr) (n c:Nat) (l:List UInt8) (w:World) (hr:Rd w w.heap.size A (bvs l)) (hn:l.length=n) (hnc:n≤c) (hn1:n≤1000000000) :
  Calls prog 54 #[.slice A n c] w (qmd w (jgf l)):=by
 obtain⟨i0,hi,hz0,hz1,hz2⟩:=info_parts info_u8q
 subst hn
 go_enter func54,ntmps54
 go_wp2_with fail
 go_loopw [0,3,4] (fun s v _ wr=>PackRel w l s v wr) (fun s _ _ _=>lenOf s)
 case atStart=>exact⟨0,A,c,[],Nat.zero_le _,rfl,hnc,hr,World.ownsRow_nil _ _ _ _,jq rfl,Nat.le_refl _,Below.refl _ _⟩
 case round =>
  clear hr hnc
  obtain⟨k,A,c,out,hk,rfl,hnc,hr,hown,HO,hol,hb⟩:=hrel
  have hbs:=hb.size
  by_cases hlt:k<l.length
  ·obtain⟨r,hR⟩:∃ r,r=l.drop k:=⟨_,rfl⟩
   have hrl:r.length=l.length - k:=by rw[hR,List.length_drop]
   obtain⟨m,hm⟩:∃ m,m=l.length - k:=⟨_,rfl⟩
   rw[←hR] at hr HO
   rw[←hm] at hrl hnc
   simp only[←hm]
   have hm0:0<m:=by omega
   have hm0i:(0:Int)<(m:Int):=by omega
   have C1:=jq (alike_any A m c r wr (hr.more hbs) hrl hm0 (by omega) 130 (by omega))
   have h3:=jdh 130 (by omega) r
   have h5:=alikeN_le 130 r
   have h6:=alikeN_most 130 r
   obtain⟨q,hq⟩:∃ q,q=jzd 130 r:=⟨_,rfl⟩
   rw[←hq] at C1 h3 h5 h6
   cases h:jvz r with
   | true =>
    have hq3:=h3.2 h
    have hq3i:decide ((q:Int)≥3)=true:=by rw[decide_eq_true_eq];omega
    obtain⟨b,off,rfl,hbB,hcell⟩:=hr.at_ (by rw[jjg];omega)
    obtain⟨x,hx⟩:∃ x,r[0]?=some x:=⟨r[0],by simp⟩
    have hpk:=qxr h hx
    rw[←hq] at hpk
    rw[hpk] at HO
    have HO1:=jq HO.out
    have HD:=jq (show r.drop q=l.drop (k+q) by rw[hR,List.drop_drop])
    have hc0:=hcell 0 (.int .u8 (x.toNat:Int)) (by simp[bvs,hx])
    rw[Nat.add_zero] at hc0
    have HR:=jq hr
    have HOWN:=jq hown
    have HB:=jq (And.intro hb hbs)
    have HN:=jq (And.intro (And.intro hrl hm) (And.intro hk (And.intro hol (And.intro hm0 (And.intro hlt hn1)))))
    clear hcell hr hown hb hbs hpk hx h hR hq h3 HO hrl hm hk hol hlt hn1 hm0
    go_wp2_with fail
    refine C1.out.mono ?_
    rintro e w1 ⟨rfl,hb1⟩
    have hc1:=(hb1.cell (p:=⟨b,off,none⟩) (Nat.lt_of_lt_of_le hbB HB.out.2)).trans hc0
    have HOWN1:=jq (jyh HOWN.out hb1)
    have HR1:=jq (HR.out.below (hb1.mono HB.out.2))
    have HB1:=jq (HB.out.1.trans (hb1.mono HB.out.2))
    have HS1:=jq (HB1.out.size)
    have hA1:out.length+2≤maxLen:=by have:=HN.out;simp only[maxLen];omega
    have hA2:(out.length+2)*1≤140737488355328:=by have:=HN.out;omega
    clear hb1 hc0 C1 HOWN HR HB
    go_wp2_with (first
     | ((with_reducible show wpList _ _ _ (({ dst:=some 20,op:=_,type:=_,pos:=_,after:=_,guard:=_ }:Oper)::_) _ _);go_must (refine jjd rfl (.tmp 12) (.tmp 19) 22 rfl w.heap.size 5 i0 (.int .u8 0) 1 1 underlying22 hi hz0 hz1 hz2 rfl (by decide) _ _ _ rfl (HOWN1.out.alloc _) _ _ 2 2 _ rfl (Rd.new _ _ _) rfl (by intro u hu;simp at hu;rcases hu with rfl | rfl <;> rfl) hA1 hA2 (by have:=HS1.out;simp;omega) ?_;intro v1 w2 hown1 hg1;have hb1':Below w.heap.size w w2:=(HB1.out.alloc HS1.out _).grown hg1 (by have:=HS1.out;simp;omega) (jjb HOWN1.out);have hr2:=(HR1.out.alloc HS1.out _).grown hg1 (by have:=HS1.out;simp;omega) (jjb HOWN1.out);clear hg1))
     | ((with_reducible show wpList _ _ _ (({ dst:=some 36,op:=_,type:=_,pos:=_,after:=_,guard:=_ }:Oper)::_) _ _);go_must (refine jxc rfl (.tmp 34) (.tmp 35) rfl underlying22 size_u8r w.heap.size _ m c q (bvs r) rfl rfl hr2 (by rw[jjg];exact HN.out.1.1) hnc (by have:=HN.out;omega) ?_;intro A' c' hc' hrd';rw[jxj] at hrd')))
    have hN:=HN.out
    have hbv:bvs (out++[UInt8.ofNat (q+125),x])=bvs out++[.int .u8 ((q:Int)+125),.int .u8 (x.toNat:Int)]:=by
     rw[jqt]
     congr 1
     show [Value.int .u8 ((UInt8.ofNat (q+125)).toNat:Int),_]=_
     rw[←u8_of (q+125) (by omega)]
     rfl
    refine⟨⟨k+q,A',c',out++[UInt8.ofNat (q+125),x],by omega,?_,by omega,?_,?_,jq ?_,?_,hb1'⟩,?_⟩
    ·rw[show l.length - (k+q)=m - q by omega]
    ·rw[←HD.out];exact hrd'
    ·rw[hbv,List.length_append];exact hown1
    ·rw[←HD.out,List.append_assoc];exact HO1.out
    ·rw[List.length_append];simp only[List.length_cons,List.length_nil];omega
    ·simp only[lenOf];omega
   | false =>
    have hne:r≠[]:=by intro e;rw[e] at hrl;simp at hrl;omega
    have hq3i:decide ((q:Int)≥3)=false:=by
     rw[decide_eq_false_iff_not]
     intro g
     have:=h3.1 (by omega)
     rw[h] at this
     cases this
    have C2:=jq fun (w1:World) (hr1:Rd w1 w1.heap.size A (bvs r))=>apart_any A m c r w1 hr1 hrl hnc hm0 (by omega)
    have hpk:=qxp h hne
    have hp:=qmg (m:=127) h hne
    rw[←hp] at C2
    have hp1:=qwf 128 r
    have hp2:=jmz 128 r
    obtain⟨p,hpp⟩:∃ p,p=jjl 128 r:=⟨_,rfl⟩
    rw[←hpp] at C2 hpk hp hp1 hp2
    have hp0:0<p:=by omega
    rw[hpk] at HO
    have HO1:=jq HO.out
    have HD:=jq (show r.drop p=l.drop (k+p) by rw[hR,List.drop_drop])
    have HR:=jq hr
    have HOWN:=jq hown
    have HB:=jq (And.intro hb hbs)
    have HN:=jq (And.intro (And.intro hrl hm) (And.intro hk (And.intro hol (And.intro hm0 (And.intro hlt hn1)))))
    clear hr hown hb hbs hpk h hR hq h3 HO hrl hm hk hol hlt hn1 hm0 hpp hp hne h5 h6
    go_wp2_with fail
    refine C1.out.mono ?_
    rintro e w1 ⟨rfl,hb1⟩
    have HOWN1:=jq (jyh HOWN.out hb1)
    have HR1:=jq (HR.out.below (hb1.mono HB.out.2))
    have HB1:=jq (HB.out.1.trans (hb1.mono HB.out.2))
    have HS1:=jq (HB1.out.size)
    have C3:=jq (C2.out w1 (HR1.out.more HS1.out))
    clear hb1 C1 HOWN HR HB C2
    go_wp2_with fail
    refine C3.out.mono ?_
    rintro e w2 ⟨rfl,hb2⟩
    have HOWN2:=jq (jyh HOWN1.out hb2)
    have HR2:=jq (HR1.out.below (hb2.mono HS1.out))
    have HB2:=jq (HB1.out.trans (hb2.mono HS1.out))
    have HS2:=jq (HB2.out.size)
    have hA1:out.length+1≤maxLen:=by have:=HN.out;simp only[maxLen];omega
    have hA2:(out.length+1)*1≤140737488355328:=by have:=HN.out;omega
    have hA3:out.length+1+p≤maxLen:=by have:=HN.out;simp only[maxLen];omega
    have hA4:(out.length+1+p)*1≤140737488355328:=by have:=HN.out;omega
    have hA5:(bvs (r.take p)).length=p*1:=by rw[jjg,List.length_take];omega
    have hpm:p≤m:=by have:=HN.out;omega
    clear hb2 C3 HOWN1 HR1 HB1 HS1
    go_wp2_with (first
     | ((with_reducible show wpList _ _ _ (({ dst:=some 28,op:=_,type:=_,pos:=_,after:=_,guard:=_ }:Oper)::_) _ _);go_must (refine jjd rfl (.tmp 23) (.tmp 27) 22 rfl w.heap.size 5 i0 (.int .u8 0) 1 1 underlying22 hi hz0 hz1 hz2 rfl (by decide) _ _ _ rfl (HOWN2.out.alloc _) _ _ 1 1 _ rfl (Rd.new _ _ _) rfl (by intro u hu;simp at hu;subst hu;rfl) hA1 hA2 (by have:=HS2.out;simp;omega) ?_;intro v1 w3 hown1 hg1;have hb3:Below w.heap.size w w3:=(HB2.out.alloc HS2.out _).grown hg1 (by have:=HS2.out;simp;omega) (jjb HOWN2.out);have hr3:=(HR2.out.alloc HS2.out _).grown hg1 (by have:=HS2.out;simp;omega) (jjb HOWN2.out);clear hg1;have HOWN3:=jq hown1;have HB3:=jq hb3;have HS3:=jq hb3.size;have HR3:=jq hr3;clear hown1 hb3 hr3))
     | ((with_reducible show wpList _ _ _ (({ dst:=some 33,op:=_,type:=_,pos:=_,after:=_,guard:=_ }:Oper)::_) _ _);go_must (refine jjd rfl (.tmp 29) (.tmp 32) 22 rfl w.heap.size 5 i0 (.int .u8 0) 1 1 underlying22 hi hz0 hz1 hz2 rfl (by decide) _ _ _ rfl HOWN3.out w.heap.size A p _ (bvs (r.take p)) rfl (by have:=HR3.out.take p;rwa [jbw] at this) hA5 (jmx _) hA3 hA4 HS3.out ?_;intro v2 w4 hown2 hg2;have hb4:Below w.heap.size w w4:=HB3.out.grown hg2 HS3.out (jjb HOWN3.out);have hr4:=HR3.out.grown hg2 HS3.out (jjb HOWN3.out);clear hg2))
     | ((with_reducible show wpList _ _ _ (({ dst:=some 36,op:=_,type:=_,pos:=_,after:=_,guard:=_ }:Oper)::_) _ _);go_must (refine jxc rfl (.tmp 34) (.tmp 35) rfl underlying22 size_u8r w.heap.size _ m c p (bvs r) rfl rfl hr4 (by rw[jjg];exact HN.out.1.1) hnc hpm ?_;intro A' c' hc' hrd';rw[jxj] at hrd')))
    have hN:=HN.out
    have hbv:bvs (out++(UInt8.ofNat (p - 1)::r.take p))=bvs out++[.int .u8 ((p:Int) - 1)]++bvs (r.take p):=by
     rw[show UInt8.ofNat (p - 1)::r.take p=[UInt8.ofNat (p - 1)]++r.take p from rfl,←List.append_assoc,jqt,jqt]
     congr 2
     show [Value.int .u8 ((UInt8.ofNat (p - 1)).toNat:Int)]=_
     rw[←u8_of (p - 1) (by omega)]
     rw[show ((p - 1:Nat):Int)=(p:Int) - 1 by omega]
    have hll:(out++(UInt8.ofNat (p - 1)::r.take p)).length=out.length+1+p:=by rw[List.length_append,List.length_cons,List.length_take];omega
    refine⟨⟨k+p,A',c',out++(UInt8.ofNat (p - 1)::r.take p),by omega,?_,by omega,?_,?_,jq ?_,?_,hb4⟩,?_⟩
    ·rw[show l.length - (k+p)=m - p by omega]
    ·rw[←HD.out];exact hrd'
    ·rw[hbv,hll];exact hown2
    ·rw[←HD.out,List.append_assoc,List.cons_append];exact HO1.out
    ·rw[hll];omega
    ·simp only[lenOf];omega
  ·have hk':k=l.length:=by omega
   have hO:=HO.out
   rw[hk',List.drop_length,packL_nil,List.append_nil] at hO
   have hz:l.length - k=0:=by omega
   subst hO
   clear hlt hk hol HO hk'
   go_wp2_with fail
   go_ret
   exact⟨_,rfl,jjz.of_own hown,hb⟩
end
end Go.Proofs.YtflcmmeoppdhdaaGreatDoor
