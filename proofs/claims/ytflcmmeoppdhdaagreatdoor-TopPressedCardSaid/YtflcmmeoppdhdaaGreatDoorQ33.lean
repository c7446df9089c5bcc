/- Plain mathematics: what Pack makes, Unpack takes off again, by the functions of a reader's state. · Plain mathematics of layer 11: steps, recipes, and how they are undone. · Contracts of gorilla.Most .. -/
import Derived.Test.YtflcmmeoppdhdaaGreatDoorQ09
import Derived.Test.YtflcmmeoppdhdaaGreatDoorQ12
import Derived.Test.YtflcmmeoppdhdaaGreatDoorQ32
import Derived.Deep.AppendLies
set_option maxHeartbeats 4000000
set_option maxRecDepth 100000
namespace Go.Proofs.YtflcmmeoppdhdaaGreatDoor
open Tryz
section
theorem qby (v n:Nat) (R:List Bool) (hv:v<2^n):getV (bitsOf v n++R,0) n=v:=by
 unfold getV
 rw[if_pos ⟨rfl,by simp[jjy]⟩]
 simp only
 rw[bits_take,jbn,Nat.mod_eq_of_lt hv]
theorem qvw (v n:Nat) (R:List Bool):getS (bitsOf v n++R,0) n=(R,0):=by
 unfold getS
 rw[if_pos rfl,if_pos (by simp[jjy])]
 simp only
 rw[bits_drop]
theorem qvk (b:Bool) (R:List Bool):getV (b::R,0) 1=b.toNat:=by
 unfold getV
 rw[if_pos ⟨rfl,by simp⟩]
 simp[valOf]
theorem qvv (b:Bool) (R:List Bool):getS (b::R,0) 1=(R,0):=by
 unfold getS
 rw[if_pos rfl,if_pos (by simp)]
 simp
def triOf (W:Nat):Win→Nat × Nat × Nat
 | none=>(0,0,0)
 | some p=>(p.1,8*W - p.1 - p.2,p.2)
theorem fromT_own {W x a b:Nat} (hW:W≤8) (h0:x≠0) (hx:x<256^W) (ha:a≤jjp W x) (hb:b≤jjf x) (hab:a+b<8*W) (R:List Bool) :
  fromT (a,8*W - a - b,b) (ownB W a b x++R,0)=(x,(a,8*W - a - b,b),true,(R,0)):=by
 have hk:=own_back hW h0 hx ha hb hab
 have hl:(ownB W a b x).length=8*W - a - b:=by simp[ownB,jjy]
 have e1:getV (ownB W a b x++R,0) (8*W - a - b)=valOf (ownB W a b x):=by
  unfold getV
  rw[if_pos ⟨rfl,by simp[hl]⟩]
  simp only
  rw[List.take_left' hl]
 have e2:getS (ownB W a b x++R,0) (8*W - a - b)=(R,0):=by
  unfold ownB
  exact qvw _ _ _
 unfold fromT
 rw[if_neg (by simp only;omega)]
 simp only
 rw[e1,e2,hk]
 simp
theorem takeR_step {W x:Nat} {s:Win} (hW:W≤8) (hs:qdz W s) (hx:x<256^W) (R:List Bool) :
  jmn W (triOf W s) (qkg W s x++R,0)=(x,triOf W (qqg W s x),true,(R,0)):=by
 unfold qkg qqg
 by_cases h0:x=0
 ·rw[if_pos h0,if_pos h0,h0]
  unfold jmn
  rw[List.singleton_append,if_pos (show getV (false::R,0) 1=0 by rw[qvk];rfl),qvv]
  simp
 ·rw[if_neg h0,if_neg h0]
  obtain⟨f1,f2,f3,f4,f5,f6,f7,f8⟩:=jmg hW h0 hx
  by_cases hh:hasB s (jjp W x) (jjf x)=true
  ·rw[if_pos hh,if_pos hh]
   obtain⟨p,rfl,hp1,hp2⟩:=hasB_some hh
   obtain⟨a,b⟩:=p
   have e:[true,false]++winB W (some (a,b)) x++R=true::false::(ownB W a b x++R):=by simp[winB]
   rw[e]
   unfold jmn
   rw[if_neg (by rw[qvk];decide),qvv,if_pos (by rw[qvk];rfl),qvv]
   exact fromT_own hW h0 hx hp1 hp2 hs R
  ·rw[if_neg hh,if_neg hh]
   have e:[true,true]++bitsOf (jjp W x) 6++bitsOf (8*W - jjp W x - jjf x - 1) 6++ownB W (jjp W x) (jjf x) x++R=true::true::(bitsOf (jjp W x) 6++(bitsOf (8*W - jjp W x - jjf x - 1) 6++(ownB W (jjp W x) (jjf x) x++R))):=by simp
   rw[e]
   unfold jmn
   rw[if_neg (by rw[qvk];decide),qvv,if_neg (by rw[qvk];decide),qvv]
   have t1:=qby (jjp W x) 6 (bitsOf (8*W - jjp W x - jjf x - 1) 6++(ownB W (jjp W x) (jjf x) x++R)) (by omega)
   have t2:=qvw (jjp W x) 6 (bitsOf (8*W - jjp W x - jjf x - 1) 6++(ownB W (jjp W x) (jjf x) x++R))
   have t3:=qby (8*W - jjp W x - jjf x - 1) 6 (ownB W (jjp W x) (jjf x) x++R) (by omega)
   have t4:=qvw (8*W - jjp W x - jjf x - 1) 6 (ownB W (jjp W x) (jjf x) x++R)
   unfold qks toldS
   rw[t1,t2,t3,t4,if_pos (by omega)]
   have hm:8*W - jjp W x - (8*W - jjp W x - jjf x - 1+1)=jjf x:=by omega
   have hm2:8*W - jjp W x - jjf x - 1+1=8*W - jjp W x - jjf x:=by omega
   rw[hm,hm2]
   exact fromT_own hW h0 hx jw jw f1 R
theorem loopR_gorL {W:Nat} (hW:W≤8):∀ (X:List Nat) (s:Win) (R:List Bool),qdz W s→(∀ x∈X,x<256^W)→qqk W X.length (triOf W s) (gorL W s X++R,0)=some (X,(R,0))
 | [],s,R,_,_=>by simp[qqk,gorL]
 | x::t,s,R,hs,hX=>by
  have hx:=hX x (by simp)
  have h1:=takeR_step hW hs hx (gorL W (qqg W s x) t++R)
  rw[List.length_cons,qqk,gorL,List.append_assoc,h1,if_pos rfl]
  simp only
  rw[loopR_gorL hW t (qqg W s x) R (nextW_ok hW hx hs) (fun y hy=>hX y (by simp[hy]))]
  rfl
theorem takenR_gorB {W:Nat} (hW1:1≤W) (hW:W≤8) (X:List Nat) (R:List Bool) (hX:∀ x∈X,x<256^W):jkk W X.length (gorB W X++R)=some (X,(R,0)):=by
 have hl:=gorB_len hW1 X
 unfold jkk
 rw[if_neg (by rw[List.length_append];omega)]
 cases X with
 | nil=>simp[gorB]
 | cons x t =>
  have hx:=hX x (by simp)
  rw[if_neg (by simp),gorB,List.append_assoc,List.length_cons,Nat.add_sub_cancel]
  rw[pow_256] at hx
  rw[qby _ _ _ hx,qvw,show (0,0,0)=triOf W none from rfl,loopR_gorL hW t none R trivial (fun y hy=>hX y (by simp[hy]))]
  rfl
theorem doneE_noughts {p:Nat} (hp:p<8):jwn (List.replicate p false,0)=0:=by
 unfold jwn
 rw[if_neg (by simp),if_neg (by simp;omega),if_neg (by simp)]
theorem gorR_pack {W:Nat} (hW:IsW W) (ws:List Nat) (Q:List UInt8) (hQ:jxp Q (packB W ws)) (n:Int) (hn:(ws.length:Int)=n) (hb:ws.length≤67108864) :
  gorR (W:Int) n Q=(0,ws.map (·%256^W)):=by
 subst hn
 have hp:=hW.pos
 have hall:=hQ.all
 have hlen:=hQ.1
 unfold gorR
 rw[if_pos ⟨hW.right.symm,by omega,by omega⟩,Int.toNat_natCast,Int.toNat_natCast,hall]
 unfold packB
 have h:=takenR_gorB hp.1 hp.2 (jwr W ws) (List.replicate (8*Q.length - (gorB W (jwr W ws)).length) false) (flipW_lt W ws)
 rw[jmk] at h
 rw[h]
 simp only
 rw[if_pos (doneE_noughts (by unfold packB at hlen;omega)),back_flip]
def through (f:List Nat→List Nat) (W:Nat) (l:List UInt8):List UInt8:=layW W (f (jqs W l))++jzt W l
theorem jys {f:List Nat→List Nat} {W:Nat} (hf:∀ ws,(f ws).length=ws.length) (l:List UInt8):(through f W l).length=l.length:=by
 unfold through
 rw[List.length_append,qvn,hf,jzh,jvh]
 have:=Nat.div_mul_le_self l.length W
 omega
theorem jbf {f g:List Nat→List Nat} {W:Nat} (hW:0<W) (hlt:∀ ws,∀ x∈f ws,x<256^W) (l:List UInt8) (hg:g (f (jqs W l))=(jqs W l).map (·%256^W)) :
  through g W (through f W l)=l:=by
 have h:=qgn hW (f (jqs W l)) (jzt W l) (qxt hW l)
 unfold through
 rw[h.1,h.2,fit_self (hlt _),hg,fit_self (jks hW l),qvp]
def jjr:Nat→List Nat
 | 1=>[1,3]
 | 2=>[2,3]
 | 3=>[4]
 | 4=>[5]
 | 5=>[1,3,5]
 | 6=>[2,3,5]
 | 7=>[4,5]
 | 8=>[6]
 | 9=>[7]
 | 10=>[1,3,5,7]
 | _=>[]
def doR (W s:Nat) (l m:List UInt8):Prop :=
 (s=1∧m=through (qjk W) W l)∨(s=2∧m=through (jgn W) W l)∨(s=3∧m=through (foldW W) W l)∨(s=4∧m=through (jwr W) W l)∨(s=5∧m=splitL W l)
  ∨ (s=6∧∃ Q,jxp Q (packB W (jqs W l))∧m=Q++jzt W l)∨(s=7∧m=jgf l)
def jxd (W raw s:Nat) (m:List UInt8):Option (List UInt8) :=
 if s=1 then some (through (sumW W) W m)
 else if s=2 then some (through (qkt W) W m)
 else if s=3 then some (through (qzq W) W m)
 else if s=4 then some (through (jbr W) W m)
 else if s=5 then some (joinL W m)
 else if s=6 then
  if m.length<raw%W then none
  else if (gorR (W:Int) ((raw/W:Nat):Int) (m.take (m.length - raw%W))).1=0 then some (layW W (gorR (W:Int) ((raw/W:Nat):Int) (m.take (m.length - raw%W))).2++m.drop (m.length - raw%W)) else none
 else if s=7 then if (jzy m (raw:Int)).2=0 then some (jzy m (raw:Int)).1 else none
 else none
def goR (W:Nat):List Nat→List UInt8→List UInt8→Prop
 | [],l,m=>m=l
 | s::t,l,m=>∃ k,doR W s l k∧goR W t k m
theorem goR_snoc {W s:Nat}:∀ {A:List Nat} {l k m:List UInt8},goR W A l k→doR W s k m→goR W (A++[s]) l m
 | [],l,k,m,h,h'=>by
  cases h
  exact⟨m,h',rfl⟩
 | a::A,l,k,m,h,h'=>by
  obtain⟨j,h1,h2⟩:=h
  exact⟨j,h1,goR_snoc h2 h'⟩
def jbp (W raw:Nat):List Nat→List UInt8→Option (List UInt8)
 | [],m=>some m
 | s::t,m=>(jxd W raw s m).bind (jbp W raw t)
theorem qzv {W raw s:Nat}:∀ {A:List Nat} {m:List UInt8},jbp W raw (A++[s]) m=(jbp W raw A m).bind (jxd W raw s)
 | [],m=>by
  simp[jbp]
 | a::A,m=>by
  simp only[List.cons_append,jbp]
  cases jxd W raw a m with
  | none=>rfl
  | some k=>exact qzv
theorem undoR_keeps {W raw s:Nat} (hs:1≤s∧s≤5) (m:List UInt8):∃ x,jxd W raw s m=some x∧x.length=m.length:=by
 rcases (show s=1∨s=2∨s=3∨s=4∨s=5 by omega) with rfl | rfl | rfl | rfl | rfl
 ·exact⟨_,rfl,jys (jkh W) m⟩
 ·exact⟨_,rfl,jys (fun ws=>by unfold qkt;rw[jkh,jkh]) m⟩
 ·exact⟨_,rfl,jys (jgp W) m⟩
 ·exact⟨_,rfl,jys (qjg W) m⟩
 ·exact⟨_,rfl,qvl W m⟩
theorem qvj {W s:Nat} (hs:1≤s∧s≤5) {l m:List UInt8} (h:doR W s l m):m.length=l.length:=by
 unfold doR at h
 rcases h with ⟨rfl,rfl⟩ | ⟨rfl,rfl⟩ | ⟨rfl,rfl⟩ | ⟨rfl,rfl⟩ | ⟨rfl,rfl⟩ | ⟨rfl,_⟩ | ⟨rfl,_⟩
 ·exact jys (jxw W) l
 ·exact jys (fun ws=>by unfold jgn;rw[jxw,jxw]) l
 ·exact jys (qqj W) l
 ·exact jys (jmk W) l
 ·exact jkr W l
 ·omega
 ·omega
theorem gorR_some {W n:Nat} {l:List UInt8} (h:(gorR (W:Int) (n:Int) l).1=0):(gorR (W:Int) (n:Int) l).2.length=n:=by
 unfold gorR at h ⊢
 by_cases hc:jqj (W:Int)=true∧0≤(n:Int)∧(n:Int)≤67108864
 ·rw[if_pos hc] at h ⊢
  rw[Int.toNat_natCast,Int.toNat_natCast] at h ⊢
  cases hT:jkk W n (jjm l) with
  | none =>
   rw[hT] at h
   cases h
  | some q =>
   obtain⟨X,s⟩:=q
   rw[hT] at h
   simp only at h ⊢
   by_cases hd:jwn s=0
   ·rw[if_pos hd]
    simp only
    rw[qjg]
    exact (qwz hT).1
   ·rw[if_neg hd] at h
    cases h
 ·rw[if_neg hc] at h
  cases h
theorem runsR_some {l:List UInt8} {n:Nat} (h:(jzy l (n:Int)).2=0):(jzy l (n:Int)).1.length=n∧jqh l=some (jzy l (n:Int)).1:=by
 unfold jzy at h ⊢
 by_cases hc:(n:Int)<0∨268435456<(n:Int)
 ·rw[if_pos hc] at h
  cases h
 ·rw[if_neg hc] at h ⊢
  cases ho:jqh l with
  | none =>
   rw[ho] at h
   cases h
  | some o =>
   rw[ho] at h
   simp only at h ⊢
   by_cases hl:(o.length:Int)=(n:Int)
   ·rw[if_pos hl]
    exact⟨by simp only;omega,rfl⟩
   ·rw[if_neg hl] at h
    cases h
theorem undoR_raw {W raw s:Nat} (hs:s=6∨s=7) {m x:List UInt8} (h:jxd W raw s m=some x):x.length=raw:=by
 rcases hs with rfl | rfl
 ·unfold jxd at h
  simp only[show ¬ (6=1) by decide,show ¬ (6=2) by decide,show ¬ (6=3) by decide,show ¬ (6=4) by decide,show ¬ (6=5) by decide,if_false,if_true] at h
  split at h
  ·cases h
  ·rename_i hlt
   split at h
   ·rename_i hz
    injection h with h
    subst h
    rw[List.length_append,qvn,gorR_some hz,List.length_drop]
    have h1:=Nat.div_add_mod raw W
    rw[Nat.mul_comm] at h1
    omega
   ·cases h
 ·unfold jxd at h
  simp only[show ¬ (7=1) by decide,show ¬ (7=2) by decide,show ¬ (7=3) by decide,show ¬ (7=4) by decide,show ¬ (7=5) by decide,show ¬ (7=6) by decide,if_false,if_true] at h
  split at h
  ·rename_i hz
   injection h with h
   subst h
   exact (runsR_some hz).1
  ·cases h
theorem undo_do {W s:Nat} (hW:IsW W) {l m:List UInt8} (hl:l.length≤67108864) (h:doR W s l m):jxd W l.length s m=some l:=by
 have hp:=hW.pos
 have h64:∀ x∈jqs W l,x<18446744073709551616:=lt_64 hW (jks (by omega) l)
 unfold doR at h
 rcases h with ⟨rfl,rfl⟩ | ⟨rfl,rfl⟩ | ⟨rfl,rfl⟩ | ⟨rfl,rfl⟩ | ⟨rfl,rfl⟩ | ⟨rfl,Q,hQ,rfl⟩ | ⟨rfl,rfl⟩
 ·exact congrArg some (jbf (by omega) (jgq W) l (sum_diff hW _ h64))
 ·exact congrArg some (jbf (f:=jgn W) (g:=qkt W) (by omega) (fun ws=>jgq W _) l (twice_second hW _ h64))
 ·exact congrArg some (jbf (by omega) (foldW_lt hW) l (unfold_foldW hW _))
 ·exact congrArg some (jbf (by omega) (flipW_lt W) l (back_flip W _))
 ·exact congrArg some (join_split (by omega) l)
 ·have hr:=qxt (W:=W) (by omega) l
  have hrl:=jvh W l
  have hm:l.length%W=(jzt W l).length:=by
   have h1:=Nat.div_add_mod l.length W
   rw[Nat.mul_comm] at h1
   omega
  have hg:=gorR_pack hW (jqs W l) Q hQ ((l.length/W:Nat):Int) (by rw[jzh]) (by rw[jzh];exact Nat.le_trans (Nat.div_le_self _ _) hl)
  have hcut:(Q++jzt W l).length - l.length%W=Q.length:=by rw[List.length_append];omega
  unfold jxd
  simp only[show ¬ (6=1) by decide,show ¬ (6=2) by decide,show ¬ (6=3) by decide,show ¬ (6=4) by decide,show ¬ (6=5) by decide,if_false,if_true]
  rw[if_neg (by rw[List.length_append];omega),hcut,List.take_left' rfl,List.drop_left' rfl,hg,if_pos rfl]
  simp only
  rw[fit_self (jks (by omega) l),qvp]
 ·unfold jxd
  simp only[show ¬ (7=1) by decide,show ¬ (7=2) by decide,show ¬ (7=3) by decide,show ¬ (7=4) by decide,show ¬ (7=5) by decide,show ¬ (7=6) by decide,if_false,if_true]
  have hu:jzy (jgf l) (l.length:Int)=(l,0):=by
   unfold jzy
   rw[if_neg (by omega),unpack_pack]
   simp
  rw[hu,if_pos rfl]
end
section
open Go.RowKit
def packG (W:Int) (ws:List Nat):List Bool:=if jqj W=true then packB W.toNat ws else []
theorem packG_of {W:Nat} (hW:IsW W) (ws:List Nat):packG (W:Int) ws=packB W ws:=by
 unfold packG
 rw[hW.right.symm,if_pos rfl]
 rfl
def AnyRel (w:World) (g:Nat) (i:Value) (wr:World):Prop:=i=.int .i64 0∧WrAt wr w.heap.size g []∧Below w.heap.size w wr
theorem gorPack_wrong (W:Int) (hW:jqj W=false) (a:Value) (w:World) :
  Calls prog 51 #[a,.int .i64 W] w fun e w'=>∃ bs,jxp bs []∧NewBy w bs e w':=by
 have C1:=jq (fun (w':World)=>qyn a W w' hW)
 clear hW
 go_enter func51,ntmps51
 go_wp2_with fail
 have hb1:Below w.heap.size w ((w.alloc (.cells #[.slice none 0 0,.int .i64 0] 102)).alloc (.cells #[.int .i64 0,.int .i64 0,.int .i64 0] 104)):=((Below.refl _ _).alloc jw _).alloc (by simp) _
 have hat1:=(wrAt_new w w.heap.size jw).only (jjj.of_below (B:=0) (ts:=[]) ((Below.refl _ _).alloc jw (.cells #[.int .i64 0,.int .i64 0,.int .i64 0] 104))) (by decide) (by decide)
 refine (C1.out _).mono ?_
 rintro e w2 ⟨v,rfl,⟨A1,c1,rfl,-,-⟩,hb2⟩
 have HAT:=jq (hat1.only (jjj.of_below (B:=0) (ts:=[]) hb2) (by decide) (by decide))
 have HB:=jq (hb1.trans (hb2.mono hb1.size))
 clear hb1 hat1 hb2 C1
 rw[show (wvs ([]:List Nat)).length=0 from rfl]
 go_wp2_with fail
 go_loopw [15] (fun i wr=>AnyRel w w.heap.size i wr) (fun _ _=>0)
 case atStart=>exact⟨rfl,HAT.out,HB.out⟩
 case round =>
  clear HAT HB
  obtain⟨rfl,hat,hbel⟩:=hrel
  have C2:=jq (wBytes_any w.heap.size w.heap.size [] wr hat (by decide))
  have HBE:=jq hbel
  clear hat hbel
  go_wp2_with fail
  refine C2.out.mono ?_
  rintro e w3 ⟨bs,hpk,v,rfl,hown,hb3⟩
  have HR:=jq (jbb hown HBE.out.size)
  have HB3:=jq (HBE.out.trans (hb3.mono HBE.out.size))
  clear hown hb3 C2
  go_wp2_with fail
  go_ret
  exact⟨bs,hpk,_,rfl,HR.out,HB3.out⟩
theorem gPack_any (W:Int) (A:Option Addr) (n c:Nat) (ws:List Nat) (w:World) (hr:Rd w w.heap.size A (wvs ws)) (hn:ws.length=n) (hb1:n≤1000) (hlt64:∀ x∈ws,x<18446744073709551616) (ht:TabA w) :
  Calls prog 51 #[.slice A n c,.int .i64 W] w fun e w'=>∃ bs,jxp bs (packG W ws)∧NewBy w bs e w':=by
 cases hR:jqj W with
 | true =>
  obtain⟨V,rfl,hV⟩:=jdk hR
  rw[packG_of hV]
  exact gorPack_right hV A n c ws w hr hn hb1 hlt64 ht
 | false =>
  unfold packG
  rw[hR,if_neg (by decide)]
  exact gorPack_wrong W hR _ w
end
section
open Go.RowKit Go.Shelf
def jkx (W K:Nat) (f:List Nat→List Nat):Prop :=
 Enters prog K∧(∀ ws,(f ws).length=ws.length)∧(∀ ws,∀ x∈f ws,x<256^W) ∧
 ∀ (A:Option Addr) (c:Nat) (ws:List Nat) (w:World),Rd w w.heap.size A (wvs ws)→ws.length≤100000→(∀ x∈ws,x<18446744073709551616) →
  Calls prog K #[.slice A ws.length c,.int .i64 (W:Int)] w (NewW w (f ws))
theorem fn_diff {W:Nat} (hW:IsW W):jkx W 20 (qjk W):=⟨enters_of func20 (by kernel_rfl) rfl,jxw W,jgq W,fun A c ws w hr hb h64=>by have:=jgj (W:Int) A ws.length c ws w hr rfl (by omega) h64;rwa [qyc hW] at this⟩
theorem fn_sum {W:Nat} (hW:IsW W):jkx W 21 (sumW W):=⟨enters_of func21 (by kernel_rfl) rfl,jkh W,sumW_lt W,fun A c ws w hr hb h64=>by have:=qjp (W:Int) A ws.length c ws w hr rfl (by omega) h64;rwa [qyc hW] at this⟩
theorem fn_second {W:Nat} (hW:IsW W):jkx W 22 (jgn W):=⟨enters_of func22 (by kernel_rfl) rfl,fun ws=>by unfold jgn;rw[jxw,jxw],fun ws=>jgq W _,fun A c ws w hr hb h64=>by have:=deltaSecond_any (W:Int) A ws.length c ws w hr rfl (by omega) h64;rwa [qyc hW] at this⟩
theorem fn_twice {W:Nat} (hW:IsW W):jkx W 23 (qkt W):=⟨enters_of func23 (by kernel_rfl) rfl,fun ws=>by unfold qkt;rw[jkh,jkh],fun ws=>sumW_lt W _,fun A c ws w hr hb h64=>by have:=deltaTwice_any (W:Int) A ws.length c ws w hr rfl (by omega) h64;rwa [qyc hW] at this⟩
theorem fn_fold {W:Nat} (hW:IsW W):jkx W 24 (foldW W):=⟨enters_of func24 (by kernel_rfl) rfl,qqj W,foldW_lt hW,fun A c ws w hr hb h64=>by have:=foldFold_any (W:Int) A ws.length c ws w hr rfl (by omega) h64;rwa [qyc hW] at this⟩
theorem fn_unfold {W:Nat} (hW:IsW W):jkx W 25 (qzq W):=⟨enters_of func25 (by kernel_rfl) rfl,jgp W,unfoldW_lt hW,fun A c ws w hr hb h64=>by have:=foldUnfold_any (W:Int) A ws.length c ws w hr rfl (by omega) h64;rwa [qyc hW] at this⟩
theorem fn_flip {W:Nat} (hW:IsW W):jkx W 26 (jwr W):=⟨enters_of func26 (by kernel_rfl) rfl,jmk W,flipW_lt W,fun A c ws w hr hb h64=>by have:=flipFlip_any (W:Int) A ws.length c ws w hr rfl (by omega) h64;rwa [qyc hW] at this⟩
theorem fn_back {W:Nat} (hW:IsW W):jkx W 27 (jbr W):=⟨enters_of func27 (by kernel_rfl) rfl,qjg W,backW_lt W,fun A c ws w hr hb h64=>by have:=flipBack_any (W:Int) A ws.length c ws w hr rfl (by omega) h64;rwa [qyc hW] at this⟩
theorem through1_any {W:Nat} (hW:IsW W) (K:Nat) (f:List Nat→List Nat) (hK:jkx W K f) (g:Nat) (l:List UInt8) (v:Value) (w:World)
  (hg:Blk w g 51 [.func (.func K) #[] #[]]) (hv:jjz l v w) (hl:l.length≤90000) :
  Calls prog 65 #[v,.int .i64 (W:Int),.pointer (some ⟨g,0,none⟩)] w (qmd w (through f W l)):=by
 obtain⟨A,c,rfl,hc,hr⟩:=hv
 have hp:=hW.pos
 have c1:=qgl W hW A l.length c l w hr rfl hc (by omega)
 obtain⟨ws,hws⟩:∃ ws,ws=jqs W l:=⟨_,rfl⟩
 obtain⟨rs,hrs⟩:∃ rs,rs=jzt W l:=⟨_,rfl⟩
 obtain⟨X,hX⟩:∃ X,X=f ws:=⟨_,rfl⟩
 have hth:through f W l=layW W X++rs:=by rw[hX,hws,hrs];rfl
 rw[hth]
 rw[show jjt (l.length/W) W l=ws from hws.symm,show l.drop (l.length/W*W)=rs from hrs.symm] at c1
 have hwl:ws.length≤90000:=by rw[hws,jzh];exact Nat.le_trans (Nat.div_le_self _ _) hl
 have hrl:rs.length<8:=by have:=qxt (W:=W) (by omega) l;rw[hrs];omega
 have h64:∀ x∈ws,x<18446744073709551616:=by rw[hws];exact lt_64 hW (jks (W:=W) (by omega) l)
 have hx64:∀ x∈X,x<18446744073709551616:=by rw[hX];exact lt_64 hW (hK.2.2.1 ws)
 have hxl:X.length≤90000:=by rw[hX,hK.2.1];exact hwl
 have C1:=jq c1
 have C2:=jq (fun (A1:Option Addr) (c1:Nat) (w':World) (h:Rd w' w'.heap.size A1 (wvs ws))=>hK.2.2.2 A1 c1 ws w' h (by omega) h64)
 rw[←hX] at C2
 have C3:=jq (fun (A1:Option Addr) (c1:Nat) (A2:Option Addr) (c2:Nat) (w':World) (h:Rd w' w'.heap.size A1 (wvs X)) (h2:Rd w' w'.heap.size A2 (bvs rs))=>qww W hW A1 X.length c1 X A2 rs.length c2 rs w' h rfl hx64 h2 rfl (by omega) (by omega))
 have HG:=jq hg
 have HE:=jq hK.1
 clear c1 hr hg hK h64 hx64 hW hth hws hrs hX hwl hxl hrl
 go_enter func65,ntmps65
 go_wp2_with fail
 refine C1.out.mono ?_
 rintro e w1 ⟨v1,v2,rfl,h1,h2,hb⟩
 have HG1:=jq (HG.out.grow hb)
 have HB:=jq hb
 have H2:=jq h2
 obtain⟨A1,c1,rfl,hc1,hr1⟩:=h1
 obtain⟨A2,c2,rfl,hc2,hr2⟩:=h2
 have C4:=jq (C2.out A1 c1 w1 hr1)
 have hgc:=HG1.out.cell 0
 simp only[jy] at hgc
 rw[jjv]
 clear hb hc1 hr1 hc2 hr2 C1 C2 HG
 go_wp2_with fail
 rw[HE.out]
 refine C4.out.mono ?_
 rintro e w2 ⟨v3,rfl,h3,hb2⟩
 have HB2:=jq (HB.out.trans (hb2.mono HB.out.size))
 have h2:=H2.out.grow hb2
 obtain⟨A3,c3,rfl,-,hr3⟩:=h3
 obtain⟨A4,c4,h4,-,hr4⟩:=h2
 obtain⟨rfl,-,rfl⟩:A2=A4∧rs.length=rs.length∧c2=c4:=by simpa using h4
 have C5:=jq (C3.out A3 c3 A2 c2 w2 hr3 hr4)
 rw[jjv]
 clear hgc h4 hr3 hr4 hb2 HG1 HB C4 C3 H2
 go_wp2_with fail
 refine C5.out.mono ?_
 rintro e w3 ⟨v5,rfl,h5,hb3⟩
 have HB3:=jq (HB2.out.trans (hb3.mono HB2.out.size))
 have H5:=jq h5
 clear hb3 h5 C5 HB2
 go_wp2
 go_ret
 exact⟨v5,rfl,H5.out,HB3.out⟩
def sizedB (n:Int):Bool:=decide (0≤n)&&decide (n≤16777216)
def mayBR (W n raw:Int):Bool:=jqj W&&decide (0≤n)&&decide (n<11)&&sizedB raw
theorem ret_bool {a b:Bool} (h:a=b):Ending.returned (.bool a)=.returned (.bool b):=by rw[h]
theorem sized_any (n:Int) (w:World):Calls prog 18 #[.int .i64 n] w fun e w'=>e=.returned (.bool (sizedB n))∧w=w':=by
 by_cases h0:0≤n
 ·by_cases h1:n≤16777216
  ·have hz:sizedB n=true:=by simp[sizedB,h0,h1]
   rw[hz]
   clear hz
   go_enter func18,ntmps18
   go_wp2
   go_ret
   exact⟨rfl,rfl⟩
  ·have hz:sizedB n=false:=by simp[sizedB,h1]
   rw[hz]
   clear hz
   go_enter func18,ntmps18
   go_wp2
   go_ret
   exact⟨rfl,rfl⟩
 ·have hz:sizedB n=false:=by simp[sizedB,h0]
  rw[hz]
  clear hz
  go_enter func18,ntmps18
  go_wp2
  go_ret
  exact⟨rfl,rfl⟩
theorem may_any (W n raw:Int) (w:World):Calls prog 9 #[.int .i64 W,.int .i64 n,.int .i64 raw] w fun e w'=>e=.returned (.bool (mayBR W n raw))∧w=w':=by
 have C1:=jq (fun (w':World)=>jjx W (jqj W) rfl w')
 have C2:=jq (fun (w':World)=>sized_any raw w')
 unfold mayBR
 cases hR:jqj W with
 | false =>
  rw[hR] at C1
  clear hR C2
  go_enter func9,ntmps9
  go_wp2_with fail
  refine (C1.out _).mono ?_
  rintro e w' ⟨rfl,rfl⟩
  go_wp2
  go_ret
  exact⟨rfl,rfl⟩
 | true =>
  rw[hR] at C1
  clear hR
  by_cases h0:0≤n
  ·by_cases h1:n<11
   ·obtain⟨z,hz⟩:∃ z,z=sizedB raw:=⟨_,rfl⟩
    rw[←hz] at C2 ⊢
    have hd:(true&&decide (0≤n)&&decide (n<11)&&z)=z:=by simp[h0,h1]
    rw[hd]
    clear hd hz
    go_enter func9,ntmps9
    go_wp2_with fail
    refine (C1.out _).mono ?_
    rintro e w' ⟨rfl,rfl⟩
    go_wp2_with fail
    refine (C2.out _).mono ?_
    rintro e w' ⟨rfl,rfl⟩
    go_wp2
    go_ret
    exact⟨rfl,rfl⟩
   ·have hd:(true&&decide (0≤n)&&decide (n<11)&&sizedB raw)=false:=by simp[h1]
    rw[hd]
    clear hd C2
    go_enter func9,ntmps9
    go_wp2_with fail
    refine (C1.out _).mono ?_
    rintro e w' ⟨rfl,rfl⟩
    go_wp2
    go_ret
    exact⟨rfl,rfl⟩
  ·have hd:(true&&decide (0≤n)&&decide (n<11)&&sizedB raw)=false:=by simp[h0]
   rw[hd]
   clear hd C2
   go_enter func9,ntmps9
   go_wp2_with fail
   refine (C1.out _).mono ?_
   rintro e w' ⟨rfl,rfl⟩
   go_wp2
   go_ret
   exact⟨rfl,rfl⟩
def nvsI (l:List Nat):List Value:=l.map fun (n:Nat)=>Value.int .i64 (n:Int)
theorem jzj (l:List Nat):(nvsI l).length=l.length:=by simp[nvsI]
theorem nvs_get (l:List Nat) (k s:Nat) (h:l[k]?=some s):(nvsI l)[k]?=some (Value.int .i64 (s:Int)):=by simp[nvsI,h]
def jxm (n:Int):List Nat:=if 0≤n∧n≤10 then jjr n.toNat else []
def jbx (w:World):List Obj→World
 | []=>w
 | o::t=>jbx (w.alloc o) t
theorem jyx:∀ (os:List Obj) (w:World),Below w.heap.size w (jbx w os)
 | [],w=>Below.refl _ _
 | o::t,w=>((Below.refl w.heap.size w).alloc jw o).trans ((jyx t (w.alloc o)).mono (by simp))
theorem jvm:∀ (os:List Obj) (w:World) (k:Nat) (o:Obj),os[k]?=some o→(jbx w os).heap[w.heap.size+k]?=some o
 | [],_,_,_,h=>by simp at h
 | x::t,w,0,o,h=>by
  simp at h
  subst h
  exact ((jyx t (w.alloc x)).block w.heap.size (by simp)).trans (heap_alloc_new w x)
 | x::t,w,k+1,o,h=>by
  have:=jvm t (w.alloc x) k o (by simpa using h)
  rw[World.size_alloc] at this
  rw[show w.heap.size+(k+1)=w.heap.size+1+k by omega]
  exact this
def jdd (B:Nat):List Obj :=
  [.cells #[] 3,.cells #[.int .i64 1,.int .i64 3] 3,.cells #[.int .i64 2,.int .i64 3] 3,.cells #[.int .i64 4] 3,.cells #[.int .i64 5] 3,.cells #[.int .i64 1,.int .i64 3,.int .i64 5] 3,
   .cells #[.int .i64 2,.int .i64 3,.int .i64 5] 3,.cells #[.int .i64 4,.int .i64 5] 3,.cells #[.int .i64 6] 3,.cells #[.int .i64 7] 3,.cells #[.int .i64 1,.int .i64 3,.int .i64 5,.int .i64 7] 3,
   .cells #[.slice (some ⟨B,0,none⟩) 0 0,.slice (some ⟨B+1,0,none⟩) 2 2,.slice (some ⟨B+2,0,none⟩) 2 2,.slice (some ⟨B+3,0,none⟩) 1 1,.slice (some ⟨B+4,0,none⟩) 1 1,.slice (some ⟨B+5,0,none⟩) 3 3,
     .slice (some ⟨B+6,0,none⟩) 3 3,.slice (some ⟨B+7,0,none⟩) 2 2,.slice (some ⟨B+8,0,none⟩) 1 1,.slice (some ⟨B+9,0,none⟩) 1 1,.slice (some ⟨B+10,0,none⟩) 4 4] 53]
theorem jvq (w:World) (k m:Nat) (l:List Nat) (os:List Obj) (hm:l.length=m) (h:os[k]?=some (.cells (nvsI l).toArray 3)) :
  ∃ v,Ending.returned (.slice (some ⟨w.heap.size+k,0,none⟩) m m)=.returned v∧jzm (nvsI l) v (jbx w os)∧Below w.heap.size w (jbx w os):=by
 subst hm
 have hb:Blk (jbx w os) (w.heap.size+k) 3 (nvsI l):=jvm os w k _ h
 exact⟨_,rfl,⟨_,l.length,by rw[jzj],by rw[jzj];exact Nat.le_refl _,Rd.of_blk hb⟩,jyx _ _⟩
theorem qkf (n:Int) (w:World):Calls prog 12 #[.int .i64 n] w fun e w'=>∃ v,e=.returned v∧jzm (nvsI (jxm n)) v w'∧Below w.heap.size w w':=by
 by_cases hin:0≤n∧n≤10
 ·rcases (show n=0∨n=1∨n=2∨n=3∨n=4∨n=5∨n=6∨n=7∨n=8∨n=9∨n=10 by omega) with rfl | rfl | rfl | rfl | rfl | rfl | rfl | rfl | rfl | rfl | rfl
  ·clear hin
   rw[show jxm 0=[] from rfl]
   go_enter func12,ntmps12
   go_wp2
   go_ret
   exact jvq w 0 0 [] (jdd w.heap.size) rfl rfl
  ·clear hin
   rw[show jxm 1=[1,3] from rfl]
   go_enter func12,ntmps12
   go_wp2
   go_ret
   exact jvq w 1 2 [1,3] (jdd w.heap.size) rfl rfl
  ·clear hin
   rw[show jxm 2=[2,3] from rfl]
   go_enter func12,ntmps12
   go_wp2
   go_ret
   exact jvq w 2 2 [2,3] (jdd w.heap.size) rfl rfl
  ·clear hin
   rw[show jxm 3=[4] from rfl]
   go_enter func12,ntmps12
   go_wp2
   go_ret
   exact jvq w 3 1 [4] (jdd w.heap.size) rfl rfl
  ·clear hin
   rw[show jxm 4=[5] from rfl]
   go_enter func12,ntmps12
   go_wp2
   go_ret
   exact jvq w 4 1 [5] (jdd w.heap.size) rfl rfl
  ·clear hin
   rw[show jxm 5=[1,3,5] from rfl]
   go_enter func12,ntmps12
   go_wp2
   go_ret
   exact jvq w 5 3 [1,3,5] (jdd w.heap.size) rfl rfl
  ·clear hin
   rw[show jxm 6=[2,3,5] from rfl]
   go_enter func12,ntmps12
   go_wp2
   go_ret
   exact jvq w 6 3 [2,3,5] (jdd w.heap.size) rfl rfl
  ·clear hin
   rw[show jxm 7=[4,5] from rfl]
   go_enter func12,ntmps12
   go_wp2
   go_ret
   exact jvq w 7 2 [4,5] (jdd w.heap.size) rfl rfl
  ·clear hin
   rw[show jxm 8=[6] from rfl]
   go_enter func12,ntmps12
   go_wp2
   go_ret
   exact jvq w 8 1 [6] (jdd w.heap.size) rfl rfl
  ·clear hin
   rw[show jxm 9=[7] from rfl]
   go_enter func12,ntmps12
   go_wp2
   go_ret
   exact jvq w 9 1 [7] (jdd w.heap.size) rfl rfl
  ·clear hin
   rw[show jxm 10=[1,3,5,7] from rfl]
   go_enter func12,ntmps12
   go_wp2
   go_ret
   exact jvq w 10 4 [1,3,5,7] (jdd w.heap.size) rfl rfl
 ·have hz:jxm n=[]:=if_neg hin
  rw[hz]
  by_cases h0:n<0
  ·clear hin hz
   go_enter func12,ntmps12
   go_wp2
   go_ret
   exact⟨_,rfl,⟨none,0,rfl,Nat.le_refl _,Rd.nil_ _ _ _⟩,jyx (jdd w.heap.size) w⟩
  ·have h1:11≤n:=by omega
   clear hin hz
   go_enter func12,ntmps12
   go_wp2
   go_ret
   exact⟨_,rfl,⟨none,0,rfl,Nat.le_refl _,Rd.nil_ _ _ _⟩,jyx (jdd w.heap.size) w⟩
theorem info_u8c:(prog.info? 5).map (fun i=>(i.zero,i.size,i.bytes))=some (some (.int .u8 0),1,1):=by kernel_rfl
theorem qmh (l:List UInt8) (v:Value) (w:World) (hv:jjz l v w) (hl:l.length≤90000) :
  Calls prog 11 #[v] w fun e w'=>∃ v',e=.returned v'∧IsRow l v' w'∧Below w.heap.size w w':=by
 obtain⟨i0,hi,hz0,hz1,hz2⟩:=info_parts info_u8c
 obtain⟨A,c,rfl,hc,hr⟩:=hv
 cases A with
 | none =>
  have h0:l=[]:=by
   cases l with
   | nil=>rfl
   | cons x t =>
    obtain⟨_,_,e,_⟩:=hr 0 _ (jym (x::t) 0 (by simp))
    cases e
  subst h0
  have hen:=jkp (P:=prog) w 22 5 none 0 c underlying22
  clear hr
  go_enter func11,ntmps11
  go_wp2
  go_ret
  exact⟨_,rfl,⟨none,0,rfl,Nat.le_refl _,Rd.nil_ _ _ _,fun _=>rfl⟩,Below.refl _ _⟩
 | some ad =>
  have hen:=jkp (P:=prog) w 22 5 (some ad) l.length c underlying22
  have HR:=jq (hr.below ((Below.refl w.heap.size w).alloc jw (.cells #[] 5)))
  have HNL:=jq (show (bvs l).length=l.length*1 by rw[jjg,Nat.mul_one])
  have hA1:0+l.length≤maxLen:=by simp only[maxLen];omega
  have hA2:(0+l.length)*1≤140737488355328:=by omega
  have HOW:=jq (show (w.alloc (.cells #[] 5)).ownsRow w.heap.size 5 1 (.slice (some ⟨w.heap.size,0,none⟩) 0 0) 0 [] from ⟨by simp,.inr ⟨w.heap.size,0,#[],rfl,Nat.le_refl _,heap_alloc_new w _,Nat.le_refl _,Nat.zero_le _,rfl,rfl⟩⟩)
  clear hr
  go_enter func11,ntmps11
  go_wp2_with ((with_reducible show wpList _ _ _ (({ dst:=some 7,op:=_,type:=_,pos:=_,after:=_,guard:=_ }:Oper)::_) _ _);go_must (refine jjd rfl (.tmp 5) (.tmp 6) 22 rfl w.heap.size 5 i0 (.int .u8 0) 1 1 underlying22 hi hz0 hz1 hz2 rfl (by decide) _ _ _ rfl HOW.out w.heap.size (some ad) l.length c (bvs l) rfl HR.out HNL.out (jmx _) hA1 hA2 (by simp) ?_;intro v4 w4 hown4 hg4;have hb4:=((Below.refl w.heap.size w).alloc jw (.cells #[] 5)).grown hg4 (by simp) (jjb HOW.out);clear hg4))
  go_ret
  refine⟨v4,rfl,IsRow.of_own (base:=w.heap.size) (e:=5) ?_,hb4⟩
  rw[Nat.zero_add] at hown4
  exact hown4
end
end Go.Proofs.YtflcmmeoppdhdaaGreatDoor
