/- Plain mathematics of layer 1: bits, and the bytes that have them. · Plain mathematics of layer 2: a number as few bytes, seven bits each. · What a sticky reader tells, as plain functions of its bits .. -/
import Derived.Test.YtflcmmeoppdhdaaGreatDoorQ01
import Derived.Lib.BitFns
set_option maxHeartbeats 1000000
set_option maxRecDepth 100000
namespace Go.Proofs.YtflcmmeoppdhdaaGreatDoor
section
def jdp (bs:List UInt8) (i:Nat):Bool:=(bs.getD (i/8) 0).toNat.testBit (i%8)
def jxp (bs:List UInt8) (l:List Bool):Prop:=bs.length=(l.length+7)/8∧∀ i,jdp bs i=l.getD i false
def bitsOf (v n:Nat):List Bool:=(List.range n).map v.testBit
def jxk (n most:Nat):List Bool:=List.replicate n true++if n<most then [false] else []
def valOf:List Bool→Nat
 | []=>0
 | b::r=>b.toNat+2*valOf r
def jjm (bs:List UInt8):List Bool:=(List.range (8*bs.length)).map (jdp bs)
theorem jjs (bs:List UInt8):(jjm bs).length=8*bs.length:=by simp[jjm]
theorem jxr (bs:List UInt8) (i:Nat) (h:i<8*bs.length):(jjm bs)[i]?=some (jdp bs i):=by simp[jjm,h]
theorem jjy (v n:Nat):(bitsOf v n).length=n:=by simp[bitsOf]
theorem qxq (v n:Nat):bitsOf v (n+1)=bitsOf v n++[v.testBit n]:=by simp[bitsOf,List.range_succ]
theorem u8_ext {a b:UInt8} (h:∀ j,j<8→a.toNat.testBit j=b.toNat.testBit j):a=b:=by
 apply UInt8.toNat_inj.1
 apply Nat.eq_of_testBit_eq
 intro j
 rcases Nat.lt_or_ge j 8 with g | g
 ·exact h j g
 ·have p:(2:Nat)^8≤2^j:=Nat.pow_le_pow_right (by decide) g
  have ha:=a.toNat_lt
  have hb:=b.toNat_lt
  rw[Nat.testBit_lt_two_pow (by omega),Nat.testBit_lt_two_pow (by omega)]
theorem jxp.unique {a b:List UInt8} {l:List Bool} (ha:jxp a l) (hb:jxp b l):a=b:=by
 apply List.ext_getElem (ha.1.trans hb.1.symm)
 intro k h1 h2
 apply u8_ext
 intro j hj
 have ea:=ha.2 (8*k+j)
 have eb:=hb.2 (8*k+j)
 rw[←eb] at ea
 simp only[jdp] at ea
 have q:(8*k+j)/8=k:=by omega
 have r:(8*k+j)%8=j:=by omega
 rw[q,r] at ea
 simpa [List.getD_eq_getElem?_getD,h1,h2] using ea
theorem jxp.nil:jxp [] []:=⟨rfl,fun i=>by simp[jdp]⟩
theorem jxp.snoc {bs:List UInt8} {l:List Bool} (h:jxp bs l) (b:Bool) (bs':List UInt8) (hbs:bs'=if l.length%8=0 then bs++[0] else bs) (c:UInt8)
  (hc:c.toNat=(bs'.getD (l.length/8) 0).toNat ||| b.toNat <<< (l.length%8)):jxp (bs'.set (l.length/8) c) (l++[b]):=by
 have hlen:bs'.length=((l++[b]).length+7)/8:=by
  rw[hbs]
  have:=h.1
  split <;> simp <;> omega
 have hin:l.length/8<bs'.length:=by rw[hlen];simp;omega
 have hbit:∀ i,jdp bs' i=l.getD i false:=by
  intro i
  rw[←h.2 i,hbs]
  split
  ·simp only[jdp,List.getD_eq_getElem?_getD,List.getElem?_append]
   split
   ·rfl
   ·rename_i g
    rw[List.getElem?_eq_none (l:=bs) (by omega)]
    cases hz:i/8 - bs.length <;> simp
  ·rfl
 refine⟨by simpa using hlen,fun i=>?_⟩
 by_cases hi:i/8=l.length/8
 ·have hb2:=hbit i
  simp only[jdp,hi] at hb2 ⊢
  rw[List.getD_eq_getElem?_getD,List.getElem?_set_self hin,Option.getD_some,hc,Nat.testBit_or,hb2,Nat.testBit_shiftLeft]
  simp only[List.getD_eq_getElem?_getD,List.getElem?_append]
  by_cases hil:i<l.length
  ·rw[if_pos hil]
   have:¬ (i%8≥l.length%8):=by omega
   simp[this]
  ·rw[if_neg hil,List.getElem?_eq_none (l:=l) (by omega)]
   by_cases hie:i=l.length
   ·subst hie
    cases b <;> simp
   ·have g1:i%8≥l.length%8:=by omega
    have g2:i%8 - l.length%8≠0:=by omega
    rw[List.getElem?_eq_none (by simp;omega)]
    obtain⟨m,hm⟩:∃ m,i%8 - l.length%8=m+1:=⟨i%8 - l.length%8 - 1,by omega⟩
    cases b <;> simp[g1,hm,Nat.testBit_succ]
 ·have:jdp (bs'.set (l.length/8) c) i=jdp bs' i:=by
   simp only[jdp,List.getD_eq_getElem?_getD,List.getElem?_set_ne (Ne.symm hi)]
  rw[this,hbit]
  simp only[List.getD_eq_getElem?_getD,List.getElem?_append]
  split
  ·rfl
  ·rename_i g
   have hne:i - l.length≠0:=by omega
   rw[List.getElem?_eq_none (l:=l) (by omega),List.getElem?_eq_none (by simp;omega)]
theorem jxp.all {bs:List UInt8} {l:List Bool} (h:jxp bs l):jjm bs=l++List.replicate (8*bs.length - l.length) false:=by
 have:=h.1
 apply List.ext_getElem?
 intro i
 rcases Nat.lt_or_ge i (8*bs.length) with g | g
 ·rw[jxr bs i g,h.2 i,List.getElem?_append]
  split
  ·rename_i g2;simp[List.getD_eq_getElem?_getD,g2]
  ·rename_i g2
   rw[List.getElem?_replicate,if_pos (by omega),List.getD_eq_getElem?_getD,List.getElem?_eq_none (by omega)]
   rfl
 ·rw[List.getElem?_eq_none (by rw[jjs];omega),List.getElem?_eq_none (by simp;omega)]
theorem jwx (bs:List UInt8) (b:UInt8):jjm (bs++[b])=jjm bs++bitsOf b.toNat 8:=by
 apply List.ext_getElem?
 intro i
 rw[List.getElem?_append,jjs]
 split
 ·rename_i h
  rw[jxr bs i h,jxr _ i (by simp;omega)]
  simp only[jdp,List.getD_eq_getElem?_getD]
  rw[List.getElem?_append_left (by omega)]
 ·rename_i h
  rcases Nat.lt_or_ge i (8*bs.length+8) with g | g
  ·rw[jxr _ i (by simp;omega)]
   simp only[jdp,bitsOf,List.getD_eq_getElem?_getD]
   rw[List.getElem?_append_right (by omega),show i/8 - bs.length=0 by omega,show i%8=i - 8*bs.length by omega]
   simp[show i - 8*bs.length<8 by omega]
  ·rw[List.getElem?_eq_none (by rw[jjs];simp;omega),List.getElem?_eq_none (by rw[jjy];omega)]
theorem valOf_lt:∀ l:List Bool,valOf l<2^l.length
 | []=>by simp[valOf]
 | b::r=>by
  have:=valOf_lt r
  have hb:b.toNat≤1:=by cases b <;> simp
  simp only[valOf,List.length_cons,Nat.pow_succ]
  omega
theorem qdq:∀ (l:List Bool) (b:Bool),valOf (l++[b])=valOf l+b.toNat*2^l.length
 | [],b=>by simp[valOf]
 | a::r,b=>by
  simp only[List.cons_append,valOf,qdq r b,List.length_cons,Nat.pow_succ]
  rw[←Nat.mul_assoc]
  omega
theorem jbn (v n:Nat):valOf (bitsOf v n)=v%2^n:=by
 induction n with
 | zero=>simp[bitsOf,valOf,Nat.mod_one]
 | succ n ih =>
  rw[qxq,qdq,ih,jjy,Nat.mod_pow_succ,Nat.testBit_eq_decide_div_mod_eq]
  rcases Nat.mod_two_eq_zero_or_one (v/2^n) with h | h <;> simp[h,Nat.mul_comm]
def lput (n:Nat):List UInt8:=if n<128 then [UInt8.ofNat n] else UInt8.ofNat (128+n%128)::lput (n/128)
termination_by n
decreasing_by omega
theorem qzl {n:Nat} (h:n<128):lput n=[UInt8.ofNat n]:=by rw[lput,if_pos h]
theorem lput_big {n:Nat} (h:¬ n<128):lput n=UInt8.ofNat (128+n%128)::lput (n/128):=by rw[lput,if_neg h]
theorem lput_len (n:Nat):n<18446744073709551616→(lput n).length=max 1 ((Lib.bitLen n+6)/7):=by
 induction n using Nat.strongRecOn with
 | _ n ih =>
  intro hn
  by_cases h:n<128
  ·rw[qzl h]
   have hb:Lib.bitLen n≤7:=by
    have key:∀ j:Fin 128,Lib.bitLen j.val≤7:=by decide +kernel
    exact key ⟨n,h⟩
   simp;omega
  ·rw[lput_big h,List.length_cons,ih (n/128) (by omega) (by omega)]
   have s:=Lib.bitLen_shift 7 n (by omega) hn
   have e:n/2^7=n/128:=rfl
   rw[e] at s
   have hp:1≤Lib.bitLen (n/128):=by
    have hq:n/128≠0:=by omega
    have:Lib.bitLen (n/128)=1+Lib.bitLenAux 63 (n/128/2):=by unfold Lib.bitLen;rw[Lib.bitLenAux,if_neg hq]
    omega
   omega
theorem lput_pos (n:Nat):0<(lput n).length:=by
 rw[lput];split <;> simp
theorem qbm (n:Nat) (h:n<18446744073709551616):(lput n).length≤10:=by
 rw[lput_len n h]
 have:Lib.bitLen n≤64:=Lib.bitLenAux_le 64 n 64 (by omega)
 omega
def jbj:Nat→Nat→List UInt8→Nat × Nat × Nat
 | _,_,[]=>(0,0,11)
 | k,acc,c::cs =>
  if k=9∧1<c.toNat then (0,0,21)
  else if 128≤c.toNat then jbj (k+1) (acc+(c.toNat - 128)*128^k) cs
  else if c.toNat=0∧0<k then (0,0,21)
  else (acc+c.toNat*128^k,k+1,0)
def lget (l:List UInt8):Nat × Nat × Nat:=jbj 0 0 l
theorem jkq {n:Nat} (h:n<256):(UInt8.ofNat n).toNat=n:=by simp[UInt8.toNat_ofNat'];omega
theorem qkw:(128:Nat)^9=9223372036854775808:=by decide
theorem jgh {k:Nat} (h:k≤9):(128:Nat)^k≤9223372036854775808:=by
 rw[←qkw];exact Nat.pow_le_pow_right (by decide) h
theorem jdb (k:Nat):0<(128:Nat)^k:=Nat.pow_pos (by decide)
theorem pow128_split {k:Nat} (h:k≤9):∃ q,0<q∧18446744073709551616=2*q*128^k∧q=128^(9 - k):=by
 refine⟨128^(9 - k),jdb _,?_,rfl⟩
 have:(128:Nat)^(9 - k)*128^k=128^9:=by rw[←Nat.pow_add];congr 1;omega
 rw[Nat.mul_assoc,this,qkw]
theorem ninth {n:Nat} (h:n*128^9<18446744073709551616):n≤1:=by rw[qkw] at h;omega
theorem lgetF_put:∀ (n k acc:Nat) (more:List UInt8),k≤9→n*128^k<18446744073709551616→(0<k→n≠0) →
  jbj k acc (lput n++more)=(acc+n*128^k,k+(lput n).length,0):=by
 intro n
 induction n using Nat.strongRecOn with
 | _ n ih =>
  intro k acc more hk hn h0
  by_cases h:n<128
  ·rw[qzl h]
   have hc:(UInt8.ofNat n).toNat=n:=jkq (by omega)
   simp only[List.cons_append,List.nil_append,jbj,hc]
   have g1:¬ (k=9∧1<n):=by rintro⟨rfl,g⟩;have:=ninth hn;omega
   have g3:¬ (n=0∧0<k):=by rintro⟨g,g'⟩;exact h0 g' g
   rw[if_neg g1,if_neg (by omega),if_neg g3];rfl
  ·rw[lput_big h]
   have hc:(UInt8.ofNat (128+n%128)).toNat=128+n%128:=jkq (by omega)
   simp only[List.cons_append,jbj,hc]
   have hk8:k≤8:=by
    rcases Nat.lt_or_ge k 9 with g | g
    ·omega
    ·have:k=9:=by omega
     subst this;have:=ninth hn;omega
   have hsplit:n/128*128^(k+1)+(n%128)*128^k=n*128^k:=by
    rw[Nat.pow_succ,Nat.mul_comm (128^k) 128,←Nat.mul_assoc,←Nat.add_mul];congr 1;omega
   rw[if_neg (by omega),if_pos (by omega),ih (n/128) (by omega) (k+1) _ more (by omega) (by omega) (by omega)]
   simp only[Nat.add_sub_cancel_left,List.length_cons,Prod.mk.injEq,and_true]
   omega
theorem lgetF_told:∀ (l:List UInt8) (k acc:Nat),k≤9 →
  (∃ n,jbj k acc l=(acc+n*128^k,k+(lput n).length,0)∧n*128^k<18446744073709551616∧(0<k→n≠0)∧(lput n).length≤l.length∧l.take (lput n).length=lput n) ∨
  jbj k acc l=(0,0,11)∨jbj k acc l=(0,0,21):=by
 intro l
 induction l with
 | nil=>intro k acc _;exact .inr (.inl rfl)
 | cons c cs ih =>
  intro k acc hk
  have hc:=c.toNat_lt
  by_cases h1:k=9∧1<c.toNat
  ·right;right;simp only[jbj];rw[if_pos h1]
  by_cases h2:128≤c.toNat
  ·have hk8:k≤8:=by omega
   have e:jbj k acc (c::cs)=jbj (k+1) (acc+(c.toNat - 128)*128^k) cs:=by simp only[jbj];rw[if_neg h1,if_pos h2]
   rw[e]
   rcases ih (k+1) (acc+(c.toNat - 128)*128^k) (by omega) with ⟨n,hn,hb,h0,hl,ht⟩ | hh | hh
   ·left
    have hn0:=h0 (by omega)
    have hbig:¬ (c.toNat - 128)+128*n<128:=by omega
    have hput:lput ((c.toNat - 128)+128*n)=c::lput n:=by
     rw[lput_big hbig]
     have e1:((c.toNat - 128)+128*n)%128=c.toNat - 128:=by omega
     have e2:((c.toNat - 128)+128*n)/128=n:=by omega
     rw[e1,e2,show 128+(c.toNat - 128)=c.toNat by omega]
     congr 1
     exact UInt8.toNat_inj.1 (jkq hc)
    refine⟨(c.toNat - 128)+128*n,?_,?_,by omega,?_,?_⟩
    ·rw[hn,hput,List.length_cons]
     have:(c.toNat - 128+128*n)*128^k=(c.toNat - 128)*128^k+n*128^(k+1):=by
      rw[Nat.add_mul,Nat.pow_succ];congr 1;rw[Nat.mul_comm 128 n,Nat.mul_assoc,Nat.mul_comm 128]
     simp only[Prod.mk.injEq,and_true]
     omega
    ·obtain⟨q,hq,hqe,_⟩:=pow128_split (k:=k+1) (by omega)
     have hp:=jdb (k+1)
     have h3:n<2*q:=by
      rcases Nat.lt_or_ge n (2*q) with g | g
      ·exact g
      ·have:=Nat.mul_le_mul_right (128^(k+1)) g
       omega
     have h4:(n+1)*128^(k+1)≤2*q*128^(k+1):=Nat.mul_le_mul_right _ h3
     have h5:(c.toNat - 128+128*n)*128^k<(n+1)*128^(k+1):=by
      have e3:(n+1)*128^(k+1)=((n+1)*128)*128^k:=by rw[Nat.pow_succ,Nat.mul_assoc,Nat.mul_comm 128]
      rw[e3]
      exact Nat.mul_lt_mul_of_pos_right (by omega) (jdb k)
     omega
    ·rw[hput];simpa using hl
    ·rw[hput];simp[ht]
   ·exact .inr (.inl hh)
   ·exact .inr (.inr hh)
  by_cases h3:c.toNat=0∧0<k
  ·right;right;simp only[jbj];rw[if_neg h1,if_neg h2,if_pos h3]
  ·left
   have hput:lput c.toNat=[c]:=by
    rw[qzl (by omega)]
    congr 1
    exact UInt8.toNat_inj.1 (jkq hc)
   refine⟨c.toNat,?_,?_,fun g g'=>h3 ⟨g',g⟩,?_,?_⟩
   ·rw[hput];simp only[jbj];rw[if_neg h1,if_neg h2,if_neg h3];rfl
   ·rcases Nat.lt_or_ge k 9 with g | g
    ·have h6:128^(k+1)≤9223372036854775808:=jgh (by omega)
     have h7:c.toNat*128^k<128^(k+1):=by
      rw[Nat.pow_succ,Nat.mul_comm (128^k)]
      exact Nat.mul_lt_mul_of_pos_right (by omega) (jdb k)
     omega
    ·have:k=9:=by omega
     subst this
     have:c.toNat≤1:=by omega
     have:=Nat.mul_le_mul_right (128^9) this
     rw[qkw] at this ⊢
     omega
   ·rw[hput];simp
   ·rw[hput];simp
theorem lget_put (n:Nat) (more:List UInt8) (h:n<18446744073709551616):lget (lput n++more)=(n,(lput n).length,0):=by
 have:=lgetF_put n 0 0 more (by omega) (by simpa using h) (by omega)
 simpa [lget] using this
theorem lget_told (l:List UInt8):(∃ n,lget l=(n,(lput n).length,0)∧n<18446744073709551616∧(lput n).length≤l.length∧l.take (lput n).length=lput n)∨lget l=(0,0,11)∨lget l=(0,0,21):=by
 rcases lgetF_told l 0 0 (by omega) with ⟨n,hn,hb,_,hl,ht⟩ | h | h
 ·exact .inl ⟨n,by simpa [lget] using hn,by simpa using hb,hl,ht⟩
 ·exact .inr (.inl h)
 ·exact .inr (.inr h)
def getV (s:List Bool × Nat) (n:Nat):Nat:=if s.2=0∧n≤s.1.length then valOf (s.1.take n) else 0
def getS (s:List Bool × Nat) (n:Nat):List Bool × Nat:=if s.2=0 then (if n≤s.1.length then (s.1.drop n,0) else (s.1,11)) else s
theorem jws (s:List Bool × Nat) (n:Nat):getV s n<2^n:=by
 unfold getV
 split
 ·have:=valOf_lt (s.1.take n)
  rw[List.length_take,Nat.min_eq_left (by omega)] at this
  exact this
 ·exact Nat.two_pow_pos n
def jwn (s:List Bool × Nat):Nat:=if s.2≠0 then s.2 else if 8≤s.1.length then 22 else if s.1.any id=true then 16 else 0
theorem any_split:∀ L:List Bool,L.any id=true→∃ n R,L=List.replicate n false++true::R
 | [],h=>by cases h
 | true::t,_=>⟨0,t,rfl⟩
 | false::t,h=>by
  obtain⟨n,R,e⟩:=any_split t (by simpa using h)
  exact⟨n+1,R,by rw[e];rfl⟩
theorem any_none:∀ L:List Bool,¬ L.any id=true→L=List.replicate L.length false
 | [],_=>rfl
 | true::t,h=>absurd (by simp) h
 | false::t,h=>by
  have:=any_none t (by simpa using h)
  rw[List.length_cons,List.replicate_succ,←this]
def qyb:Nat→List Bool→Option (Nat × List Bool)
 | 0,L=>some (0,L)
 | _+1,[]=>none
 | _+1,false::L=>some (0,L)
 | m+1,true::L=>(qyb m L).map fun p=>(p.1+1,p.2)
def jwm (s:List Bool × Nat) (m:Nat):Nat:=if s.2=0 then ((qyb m s.1).map (·.1)).getD 0 else 0
def jxs (s:List Bool × Nat) (m:Nat):List Bool × Nat:=if s.2=0 then ((qyb m s.1).map fun p=>(p.2,0)).getD (s.1,11) else s
theorem onesF_ones:∀ (n m:Nat) (R:List Bool),n≤m→qyb m (jxk n m++R)=some (n,R):=by
 intro n
 induction n with
 | zero =>
  intro m R _
  cases m with
  | zero=>simp[jxk,qyb]
  | succ m=>simp[jxk,qyb]
 | succ n ih =>
  intro m R h
  obtain⟨m,rfl⟩:∃ k,m=k+1:=⟨m - 1,by omega⟩
  have e:jxk (n+1) (m+1)=true::jxk n m:=by
   unfold jxk
   rw[List.replicate_succ]
   by_cases h:n<m
   ·rw[if_pos h,if_pos (by omega)];rfl
   ·rw[if_neg h,if_neg (by omega)];rfl
  rw[e,List.cons_append,qyb,ih m R (by omega)]
  rfl
theorem onesV_ones {n m:Nat} (R:List Bool) (h:n≤m):jwm (jxk n m++R,0) m=n∧jxs (jxk n m++R,0) m=(R,0):=by
 unfold jwm jxs
 simp only[if_true,onesF_ones n m R h]
 exact⟨rfl,rfl⟩
theorem qbf:∀ (m:Nat) (L:List Bool),(∃ R,L=List.replicate m true++R∧qyb m L=some (m,R))∨(∃ n R,n<m∧L=List.replicate n true++false::R∧qyb m L=some (n,R))∨(∃ n,n<m∧L=List.replicate n true∧qyb m L=none)
 | 0,L=>.inl ⟨L,rfl,rfl⟩
 | m+1,[]=>.inr (.inr ⟨0,Nat.succ_pos _,rfl,rfl⟩)
 | m+1,false::L=>.inr (.inl ⟨0,L,Nat.succ_pos _,rfl,rfl⟩)
 | m+1,true::L=>by
  rcases qbf m L with ⟨R,h1,h2⟩ | ⟨n,R,h0,h1,h2⟩ | ⟨n,h0,h1,h2⟩
  ·exact .inl ⟨R,by rw[h1,List.replicate_succ];rfl,by rw[qyb,h2];rfl⟩
  ·exact .inr (.inl ⟨n+1,R,by omega,by rw[h1,List.replicate_succ];rfl,by rw[qyb,h2];rfl⟩)
  ·exact .inr (.inr ⟨n+1,by omega,by rw[h1,List.replicate_succ],by rw[qyb,h2];rfl⟩)
theorem getV_bits (v n:Nat) (R:List Bool):getV (bitsOf v n++R,0) n=v%2^n∧getS (bitsOf v n++R,0) n=(R,0):=by
 have hl:(bitsOf v n).length=n:=jjy v n
 unfold getV getS
 have h1:n≤(bitsOf v n++R).length:=by simp[hl]
 have e1:(bitsOf v n++R).take n=bitsOf v n:=by rw[List.take_append_of_le_length (by omega),List.take_of_length_le (by omega)]
 have e2:(bitsOf v n++R).drop n=R:=by rw[List.drop_append_of_le_length (by omega),List.drop_of_length_le (by omega)];rfl
 simp only
 rw[if_pos ⟨trivial,h1⟩,if_pos trivial,if_pos h1,e1,e2,jbn]
 exact⟨rfl,rfl⟩
def IsK (A N k:Nat):Prop:=A≤N*2^k∧∀ j,j<k→N*2^j<A
theorem IsK.one {A N k k':Nat} (h:IsK A N k) (h':IsK A N k'):k=k':=by
 rcases Nat.lt_trichotomy k k' with e | e | e
 ·have:=h'.2 k e;have:=h.1;omega
 ·exact e
 ·have:=h.2 k' e;have:=h'.1;omega
theorem isK_some {A N m:Nat} (h:A≤N*2^m):∃ k,k≤m∧IsK A N k:=by
 induction m with
 | zero=>exact⟨0,Nat.le_refl _,h,fun j hj=>by omega⟩
 | succ m ih =>
  by_cases h1:A≤N*2^m
  ·obtain⟨k,hk,hi⟩:=ih h1
   exact⟨k,by omega,hi⟩
  ·refine⟨m+1,Nat.le_refl _,h,fun j hj=>?_⟩
   have h2:2^j≤2^m:=Nat.pow_le_pow_right (by decide) (by omega)
   have h3:=Nat.mul_le_mul_left N h2
   omega
def jqv (A N v:Nat):Nat:=if N+1=32 then (A+min v 4294967296)/2 else A+min v 4294967296
def jqq (N:Nat):Nat:=if N+1=32 then 16 else N+1
def jxg (D A N:Nat):Prop:=1≤N∧N≤31∧A≤N*2^D∧A≤N*4294967296+16
theorem qjh {D:Nat} (h:8≤D):jxg D 16 1:=⟨Nat.le_refl _,by decide,by
 have:2^8≤2^D:=Nat.pow_le_pow_right (by decide) h
 omega,by decide⟩
theorem jdc {D A N v:Nat} (h:jxg D A N) (hv:v<2^D):jxg D (jqv A N v) (jqq N):=by
 obtain⟨h1,h2,h3,h4⟩:=h
 have hm:min v 4294967296≤v:=Nat.min_le_left _ _
 have hm2:min v 4294967296≤4294967296:=Nat.min_le_right _ _
 obtain⟨u,hu⟩:∃ u,u=min v 4294967296:=⟨_,rfl⟩
 obtain⟨P,hP⟩:∃ P,P=2^D:=⟨_,rfl⟩
 unfold jxg jqv jqq
 rw[←hu] at hm hm2 ⊢
 rw[←hP] at h3 hv ⊢
 by_cases hN:N+1=32
 ·rw[if_pos hN,if_pos hN]
  obtain rfl:N=31:=by omega
  exact⟨by decide,by decide,by omega,by omega⟩
 ·rw[if_neg hN,if_neg hN]
  have e:(N+1)*P=N*P+P:=Nat.succ_mul N P
  exact⟨by omega,by omega,by omega,by omega⟩
def qbr (D k v:Nat):List Bool:=if v/2^k<24 then jxk (v/2^k) 24++bitsOf v k else jxk 24 24++bitsOf v D
theorem jdm (n m:Nat):(jxk n m).length≤n+1∧(n=m→(jxk n m).length=n):=by
 unfold jxk
 by_cases h1:n<m
 ·rw[if_pos h1];simp;omega
 ·rw[if_neg h1];simp
theorem riceW_len {D k v:Nat} (hk:k≤D):(qbr D k v).length≤24+D:=by
 unfold qbr
 split
 ·rename_i h
  have:=(jdm (v/2^k) 24).1
  rw[List.length_append,jjy];omega
 ·have:=(jdm 24 24).2 rfl
  rw[List.length_append,jjy];omega
inductive qyz (D:Nat):Nat→Nat→List Nat→List Bool→Prop
 | none (A N:Nat):qyz D A N [] []
 | word (A N k v:Nat) (l:List Nat) (L:List Bool) (hk:IsK A N k) (hr:qyz D (jqv A N v) (jqq N) l L):qyz D A N (v::l) (qbr D k v++L)
theorem qyz.one {D A N:Nat} {l:List Nat} {L L':List Bool} (h:qyz D A N l L) (h':qyz D A N l L'):L=L':=by
 induction h generalizing L' with
 | none=>cases h';rfl
 | word A N k v l L hk hr ih =>
  cases h' with
  | word _ _ k2 _ _ L2 hk2 hr2 =>
   obtain rfl:=hk.one hk2
   rw[ih hr2]
theorem riceB_some {D:Nat}:∀ (l:List Nat) (A N:Nat),jxg D A N→(∀ v∈l,v<2^D)→∃ L,qyz D A N l L∧L.length≤(24+D)*l.length:=by
 intro l
 induction l with
 | nil=>intro A N _ _;exact⟨[],.none A N,by simp⟩
 | cons v l ih =>
  intro A N h hl
  obtain⟨k,hkD,hk⟩:=isK_some h.2.2.1
  obtain⟨L,hr,hlen⟩:=ih _ _ (jdc h (hl v List.mem_cons_self)) fun x hx=>hl x (List.mem_cons_of_mem _ hx)
  refine⟨_,.word A N k v l L hk hr,?_⟩
  have:=riceW_len (v:=v) hkD
  rw[List.length_append,List.length_cons,Nat.mul_succ]
  omega
def qjd (D k:Nat) (s:List Bool × Nat):Option (Nat × (List Bool × Nat)) :=
 if jwm s 24=24 then
  if (getS (jxs s 24) D).2=0 then some (getV (jxs s 24) D,getS (jxs s 24) D) else none
 else if 0<jwm s 24∧(2^D - 1)/jwm s 24<2^k then none
 else if 2^D - 1<jwm s 24*2^k+getV (jxs s 24) k then none
 else if (getS (jxs s 24) k).2=0 then some (jwm s 24*2^k+getV (jxs s 24) k,getS (jxs s 24) k) else none
theorem riceV_word {D k v:Nat} (hv:v<2^D) (R:List Bool):qjd D k (qbr D k v++R,0)=some (v,(R,0)):=by
 unfold qjd qbr
 by_cases h:v/2^k<24
 ·rw[if_pos h,List.append_assoc]
  obtain⟨o1,o2⟩:=onesV_ones (n:=v/2^k) (m:=24) (bitsOf v k++R) (by omega)
  obtain⟨g1,g2⟩:=getV_bits v k R
  rw[o1,o2,g1,g2]
  have hd:=Nat.div_add_mod v (2^k)
  have hp:0<2^k:=Nat.two_pow_pos k
  have e:v/2^k*2^k+v%2^k=v:=by rw[Nat.mul_comm];exact hd
  rw[if_neg (by omega),e,if_neg (fun hh=>?_),if_neg (by omega),if_pos rfl]
  obtain⟨q,hq⟩:∃ q,q=v/2^k:=⟨_,rfl⟩
  rw[←hq] at hh e
  have h2:2^k≤(2^D - 1)/q:=(Nat.le_div_iff_mul_le hh.1).2 (by rw[Nat.mul_comm];omega)
  omega
 ·rw[if_neg h,List.append_assoc]
  obtain⟨o1,o2⟩:=onesV_ones (n:=24) (m:=24) (bitsOf v D++R) jw
  obtain⟨g1,g2⟩:=getV_bits v D R
  rw[o1,o2,g1,g2,if_pos rfl,if_pos rfl,Nat.mod_eq_of_lt hv]
inductive qjw (D:Nat):Nat→Nat→Nat→(List Bool × Nat)→Option (List Nat × (List Bool × Nat))→Prop
 | done (A N:Nat) (s:List Bool × Nat):qjw D 0 A N s (some ([],s))
 | bad (n A N k:Nat) (s:List Bool × Nat) (hk:IsK A N k) (hv:qjd D k s=none):qjw D (n+1) A N s none
 | word (n A N k v:Nat) (s s':List Bool × Nat) (o:Option (List Nat × (List Bool × Nat))) (hk:IsK A N k) (hv:qjd D k s=some (v,s')) (hr:qjw D n (jqv A N v) (jqq N) s' o):qjw D (n+1) A N s (o.map fun p=>(v::p.1,p.2))
theorem qyz.told {D A N:Nat} {l:List Nat} {L:List Bool} (h:qyz D A N l L):(∀ v∈l,v<2^D)→∀ R,qjw D l.length A N (L++R,0) (some (l,(R,0))):=by
 induction h with
 | none A N=>intro _ R;exact .done A N _
 | word A N k v l L hk hr ih =>
  intro hl R
  have h1:=ih (fun x hx=>hl x (List.mem_cons_of_mem _ hx)) R
  have h2:=riceV_word (k:=k) (hl v List.mem_cons_self) (L++R)
  rw[List.append_assoc]
  exact qjw.word _ A N k v _ _ _ hk h2 h1
theorem onesS_less {L:List Bool} {n:Nat} {R:List Bool} (h:qyb 24 L=some (n,R)):R.length+1≤L.length∧n≤24:=by
 rcases qbf 24 L with ⟨R',h1,h2⟩ | ⟨n',R',h0,h1,h2⟩ | ⟨n',h0,h1,h2⟩
 ·rw[h2] at h
  obtain⟨rfl,rfl⟩:=Prod.mk.injEq .. ▸ Option.some.inj h
  rw[h1];simp
 ·rw[h2] at h
  obtain⟨rfl,rfl⟩:=Prod.mk.injEq .. ▸ Option.some.inj h
  rw[h1];simp;omega
 ·rw[h2] at h;cases h
theorem onesV_le (s:List Bool × Nat):jwm s 24≤24:=by
 unfold jwm
 split
 ·cases h:qyb 24 s.1 with
  | none=>simp
  | some p=>obtain⟨n,R⟩:=p;simpa using (onesS_less h).2
 ·omega
theorem getS_err {s:List Bool × Nat} {n:Nat} (h:(getS s n).2=0):s.2=0∧(getS s n).1.length≤s.1.length:=by
 unfold getS at h ⊢
 by_cases h0:s.2=0
 ·rw[if_pos h0] at h ⊢
  split at h
  ·rename_i h1;rw[if_pos h1];exact⟨h0,by simp⟩
  ·simp at h
 ·rw[if_neg h0] at h;exact absurd h h0
theorem onesS_err {s:List Bool × Nat} (h:(jxs s 24).2=0):s.2=0∧(jxs s 24).1.length+1≤s.1.length:=by
 unfold jxs at h ⊢
 by_cases h0:s.2=0
 ·rw[if_pos h0] at h ⊢
  cases h1:qyb 24 s.1 with
  | none=>rw[h1] at h;simp at h
  | some p=>obtain⟨n,R⟩:=p;exact⟨h0,by simpa using (onesS_less h1).1⟩
 ·rw[if_neg h0] at h;exact absurd h h0
theorem riceV_some {D k v:Nat} {s s':List Bool × Nat} (h:qjd D k s=some (v,s')):v<2^D∧s.2=0∧s'.2=0∧s'.1.length+1≤s.1.length:=by
 have hp:0<2^D:=Nat.two_pow_pos D
 unfold qjd at h
 split at h
 ·split at h
  ·rename_i h1 h2
   obtain⟨rfl,rfl⟩:=Prod.mk.injEq .. ▸ Option.some.inj h
   obtain⟨g1,g2⟩:=getS_err h2
   obtain⟨o1,o2⟩:=onesS_err g1
   exact⟨jws _ _,o1,h2,by omega⟩
  ·cases h
 ·split at h
  ·cases h
  ·split at h
   ·cases h
   ·split at h
    ·rename_i h1 h2 h3 h4
     obtain⟨rfl,rfl⟩:=Prod.mk.injEq .. ▸ Option.some.inj h
     obtain⟨g1,g2⟩:=getS_err h4
     obtain⟨o1,o2⟩:=onesS_err g1
     exact⟨by omega,o1,h4,by omega⟩
    ·cases h
theorem qjw.len {D n A N:Nat} {s:List Bool × Nat} {o:Option (List Nat × (List Bool × Nat))} (h:qjw D n A N s o):∀ X s',o=some (X,s')→X.length=n∧X.length+s'.1.length≤s.1.length∧(∀ x∈X,x<2^D)∧(s.2=0→s'.2=0):=by
 induction h with
 | done A N s=>intro X s' e;obtain⟨rfl,rfl⟩:=Prod.mk.injEq .. ▸ Option.some.inj e;exact⟨rfl,by simp,by simp,id⟩
 | bad=>intro X s' e;cases e
 | word n A N k v s s2 o hk hv hr ih =>
  intro X s' e
  cases o with
  | none=>cases e
  | some p =>
   obtain⟨Y,t⟩:=p
   simp only[Option.map_some,Option.some.injEq,Prod.mk.injEq] at e
   obtain⟨rfl,rfl⟩:=e
   obtain⟨i1,i2,i3,i4⟩:=ih Y t rfl
   obtain⟨v1,v2,v3,v4⟩:=riceV_some hv
   exact⟨by simp[i1],by simp;omega,fun x hx=>by
    rcases List.mem_cons.1 hx with rfl | hx
    ·exact v1
    ·exact i3 x hx,fun _=>i4 v3⟩
def ends (c:Nat→Nat):Nat→Nat
 | 0=>0
 | n+1=>2*ends c n+c (n+1)
def bound (c:Nat→Nat) (n:Nat):Nat:=ends c n*2^(15 - n)
theorem bound_step (c:Nat→Nat) {n:Nat} (h:n<15):bound c (n+1)=bound c n+c (n+1)*2^(15 - (n+1))∧bound c n=2*ends c n*2^(15 - (n+1)):=by
 unfold bound
 have e:15 - n=(15 - (n+1))+1:=by omega
 have e2:ends c n*2^(15 - n)=2*ends c n*2^(15 - (n+1)):=by rw[e,Nat.pow_succ,Nat.mul_comm (2^_) 2,←Nat.mul_assoc,Nat.mul_comm (ends c n) 2]
 refine⟨?_,e2⟩
 rw[e2]
 show (2*ends c n+c (n+1))*2^(15 - (n+1))=_
 rw[Nat.add_mul]
theorem qml (c:Nat→Nat) {m n:Nat} (h:m≤n) (hn:n≤15):bound c m≤bound c n:=by
 obtain⟨d,rfl⟩:∃ d,n=m+d:=⟨n - m,by omega⟩
 clear h
 induction d with
 | zero=>exact Nat.le_refl _
 | succ d ih =>
  have h1:=ih (by omega)
  have h2:=(bound_step c (n:=m+d) (by omega)).1
  have h3:m+(d+1)=m+d+1:=by omega
  rw[h3,h2]
  omega
def hit (c:Nat→Nat) (v n:Nat):Prop:=2*ends c (n - 1)≤v/2^(15 - n)∧v/2^(15 - n)<ends c n
theorem hit_bound (c:Nat→Nat) (v:Nat) {n:Nat} (h1:1≤n) (h2:n≤15):hit c v n↔bound c (n - 1)≤v∧v<bound c n:=by
 obtain⟨m,rfl⟩:∃ m,n=m+1:=⟨n - 1,by omega⟩
 have hp:0<2^(15 - (m+1)):=Nat.two_pow_pos _
 unfold hit
 rw[Nat.add_sub_cancel,(bound_step c (n:=m) (by omega)).2,Nat.le_div_iff_mul_le hp,Nat.div_lt_iff_lt_mul hp]
 rfl
theorem hit_one (c:Nat→Nat) (v:Nat) {m n:Nat} (hm:1≤m) (hn:n≤15) (hmn:m<n) (h:hit c v m):¬ hit c v n:=fun h'=>by
 have h1:=((hit_bound c v hm (by omega)).1 h).2
 have h2:=((hit_bound c v (by omega) hn).1 h').1
 have h3:=qml c (m:=m) (n:=n - 1) (by omega) (by omega)
 omega
theorem ends_add (c d:Nat→Nat):∀ m,ends (fun n=>c n+d n) m=ends c m+ends d m:=by
 intro m
 induction m with
 | zero=>rfl
 | succ m ih=>simp only[ends];rw[ih];omega
theorem ends_only (x:Nat):∀ m,ends (fun n=>if n=x then 1 else 0) m=if 1≤x∧x≤m then 2^(m - x) else 0:=by
 intro m
 induction m with
 | zero =>
  show 0=_
  rw[if_neg (by omega)]
 | succ m ih =>
  simp only[ends]
  rw[ih]
  by_cases h1:1≤x∧x≤m
  ·have e:m+1 - x=(m - x)+1:=by omega
   rw[if_pos h1,if_neg (by omega),if_pos (by omega),e,Nat.pow_succ];omega
  ·rw[if_neg h1]
   by_cases h2:m+1=x
   ·rw[if_pos h2,if_pos (by omega),show m+1 - x=0 by omega]
   ·rw[if_neg h2,if_neg (by omega)]
def lenC (l:List Nat) (n:Nat):Nat:=l.count n
def qqy (l:List Nat):Nat:=(l.map fun x=>if 1≤x∧x≤15 then 2^(15 - x) else 0).sum
theorem kraft_ends (l:List Nat):qqy l=ends (lenC l) 15:=by
 induction l with
 | nil =>
  have h:∀ m,ends (lenC []) m=0:=by
   intro m
   induction m with
   | zero=>rfl
   | succ m ih=>simp only[ends];rw[ih];simp[lenC]
  rw[h]
  rfl
 | cons x l ih =>
  have e:lenC (x::l)=fun n=>lenC l n+if n=x then 1 else 0:=by
   funext n
   unfold lenC
   rw[List.count_cons]
   congr 1
   by_cases h:n=x
   ·subst h;simp
   ·rw[if_neg h,if_neg (by simpa using fun e=>h e.symm)]
  rw[e,ends_add,ends_only,←ih]
  simp only[qqy,List.map_cons,List.sum_cons]
  omega
theorem bound_all (c:Nat→Nat):bound c 15=ends c 15:=by simp[bound]
def jwl (l:List Nat) (i:Nat):Nat:=2*ends (lenC l) (l.getD i 0 - 1)+(l.take i).count (l.getD i 0)
theorem count_take_lt (l:List Nat) {i:Nat} (h:i<l.length):(l.take i).count (l.getD i 0)<l.count (l.getD i 0):=by
 have e:l.getD i 0=l[i]:=by simp[List.getD_eq_getElem?_getD,h]
 rw[e]
 have h1:(l.take (i+1)).count l[i]=(l.take i).count l[i]+1:=by
  rw[List.take_add_one,List.getElem?_eq_getElem h,List.count_append];simp
 have h2:=List.Sublist.count_le l[i] (List.take_sublist (i+1) l)
 omega
theorem codeL_in (l:List Nat) {i:Nat} (h:i<l.length) (h0:1≤l.getD i 0):2*ends (lenC l) (l.getD i 0 - 1)≤jwl l i∧jwl l i<ends (lenC l) (l.getD i 0):=by
 have h1:=count_take_lt l h
 unfold jwl
 refine⟨by omega,?_⟩
 obtain⟨m,hm⟩:∃ m,l.getD i 0=m+1:=⟨l.getD i 0 - 1,by omega⟩
 rw[hm] at h1 ⊢
 rw[Nat.add_sub_cancel]
 show _<2*ends (lenC l) m+l.count (m+1)
 omega
theorem codeL_one (l:List Nat) {i j:Nat} (hi:i<l.length) (hj:j<l.length) (hn:l.getD i 0=l.getD j 0) (hc:jwl l i=jwl l j):i=j:=by
 have key:∀ {i j:Nat},i<j→j<l.length→l.getD i 0=l.getD j 0→(l.take i).count (l.getD i 0)<(l.take j).count (l.getD i 0):=fun {i j} hij hj hn=>by
  have e:l.getD i 0=l[i]'(by omega):=by simp[List.getD_eq_getElem?_getD,show i<l.length by omega]
  rw[e]
  have h1:(l.take (i+1)).count l[i]=(l.take i).count l[i]+1:=by
   rw[List.take_add_one,List.getElem?_eq_getElem (show i<l.length by omega),List.count_append];simp
  have h2:(l.take (i+1)).count l[i]≤(l.take j).count l[i]:=by
   have:l.take (i+1)=(l.take j).take (i+1):=by rw[List.take_take,Nat.min_eq_left (by omega)]
   rw[this]
   exact List.Sublist.count_le _ (List.take_sublist _ _)
  omega
 unfold jwl at hc
 rw[←hn] at hc
 rcases Nat.lt_trichotomy i j with e | e | e
 ·have:=key e hj hn;omega
 ·exact e
 ·have:=key e hi hn.symm
  rw[←hn] at this
  omega
def lexB (l:List Nat) (i j:Nat):Bool:=decide (l.getD i 0<l.getD j 0∨(l.getD i 0=l.getD j 0∧i<j))
theorem lexB_irrefl (l:List Nat) (i:Nat):lexB l i i=false:=by unfold lexB;exact decide_eq_false (by omega)
theorem lexB_asymm {l:List Nat} {i j:Nat} (h:lexB l i j=true):lexB l j i=false:=by unfold lexB at *;simp only[decide_eq_true_eq] at h;exact decide_eq_false (by omega)
def qjm (l:List Nat):List Nat:=(List.range l.length).filter fun i=>decide (0<l.getD i 0)
structure OrdL (l S:List Nat):Prop where
 perm:S.Perm (qjm l)
 up:S.Pairwise fun i j=>lexB l i j=true
theorem qvg {l:List Nat} {i:Nat}:i∈qjm l↔i<l.length∧0<l.getD i 0:=by unfold qjm;simp
theorem hereL_nodup (l:List Nat):(qjm l).Nodup:=List.Pairwise.filter _ List.nodup_range
theorem OrdL.mem {l S:List Nat} (h:OrdL l S) {i:Nat}:i∈S↔i<l.length∧0<l.getD i 0:=by rw[h.perm.mem_iff,qvg]
theorem take_lex {l S:List Nat} (h:S.Pairwise fun i j=>lexB l i j=true) {t:Nat} (ht:t<S.length):S.filter (fun x=>lexB l x S[t])=S.take t:=by
 have e:S=S.take t++S[t]::S.drop (t+1):=by rw[←List.drop_eq_getElem_cons ht,List.take_append_drop]
 obtain⟨p,hp⟩:∃ p,p=S[t]:=⟨_,rfl⟩
 rw[←hp] at e ⊢
 obtain⟨u,hu⟩:∃ u,u=S.take t:=⟨_,rfl⟩
 obtain⟨v,hv⟩:∃ v,v=S.drop (t+1):=⟨_,rfl⟩
 rw[←hu,←hv] at e
 rw[←hu,e]
 rw[e,List.pairwise_append] at h
 obtain⟨-,h2,h3⟩:=h
 rw[List.pairwise_cons] at h2
 rw[List.filter_append,List.filter_cons_of_neg (by rw[lexB_irrefl];decide)]
 rw[List.filter_eq_self.2 fun x hx=>h3 x hx p List.mem_cons_self]
 rw[List.filter_eq_nil_iff.2 fun x hx=>by rw[lexB_asymm (h2.1 x hx)];decide]
 rw[List.append_nil]
def wK (l:List Nat) (i:Nat):Nat:=2^(15 - l.getD i 0)
def sumK (l S:List Nat):Nat:=(S.map (wK l)).sum
theorem sumK_perm {l S S':List Nat} (h:S.Perm S'):sumK l S=sumK l S':=(h.map _).sum_nat
def lowK (m:Nat) (l:List Nat):Nat:=(l.map fun x=>if 1≤x∧x+1≤m then 2^(15 - x) else 0).sum
theorem sum_ends (l:List Nat) (M:Nat):ends (lenC l) M=(l.map fun x=>if 1≤x∧x≤M then 2^(M - x) else 0).sum:=by
 induction l with
 | nil =>
  have h:∀ m,ends (lenC []) m=0:=by
   intro m
   induction m with
   | zero=>rfl
   | succ m ih=>simp only[ends];rw[ih];simp[lenC]
  rw[h]
  rfl
 | cons x l ih =>
  have e:lenC (x::l)=fun n=>lenC l n+if n=x then 1 else 0:=by
   funext n
   unfold lenC
   rw[List.count_cons]
   congr 1
   by_cases h:n=x
   ·subst h;simp
   ·rw[if_neg h,if_neg (by simpa using fun e=>h e.symm)]
  rw[e,ends_add,ends_only,ih]
  simp only[List.map_cons,List.sum_cons]
  omega
theorem lowK_ends (l:List Nat) {m:Nat} (h1:1≤m) (h2:m≤15):lowK m l=2*ends (lenC l) (m - 1)*2^(15 - m):=by
 rw[sum_ends]
 unfold lowK
 induction l with
 | nil=>simp
 | cons x l ih =>
  simp only[List.map_cons,List.sum_cons]
  rw[ih,Nat.mul_add,Nat.add_mul]
  congr 1
  by_cases h:1≤x∧x+1≤m
  ·rw[if_pos h,if_pos (by omega)]
   rw[show 15 - x=(m - 1 - x)+1+(15 - m) by omega,Nat.pow_add,Nat.pow_succ,Nat.mul_comm (2^(m - 1 - x)) 2]
  ·rw[if_neg h,if_neg (by omega)];simp
theorem ahead_low (l:List Nat) {i:Nat} (hm1:1≤l.getD i 0):∀ k,k≤l.length →
  sumK l (((List.range k).filter fun x=>decide (0<l.getD x 0)).filter fun x=>lexB l x i)=lowK (l.getD i 0) (l.take k)+(l.take (min i k)).count (l.getD i 0)*2^(15 - l.getD i 0):=by
 intro k
 induction k with
 | zero=>intro _;simp[sumK,lowK]
 | succ k ih =>
  intro hk
  have hkl:k<l.length:=by omega
  have e:l.getD k 0=l[k]:=by simp[List.getD_eq_getElem?_getD,hkl]
  rw[List.range_succ,List.filter_append,List.filter_append]
  unfold sumK at *
  rw[List.map_append,List.sum_append,ih (by omega)]
  have t1:l.take (k+1)=l.take k++[l.getD k 0]:=by rw[List.take_add_one,List.getElem?_eq_getElem hkl,e];rfl
  have t2:lowK (l.getD i 0) (l.take (k+1))=lowK (l.getD i 0) (l.take k)+if 1≤l.getD k 0∧l.getD k 0+1≤l.getD i 0 then 2^(15 - l.getD k 0) else 0:=by
   rw[t1];unfold lowK;simp
  rw[t2]
  have t3:(l.take (min i (k+1))).count (l.getD i 0)=(l.take (min i k)).count (l.getD i 0)+if k<i∧l.getD k 0=l.getD i 0 then 1 else 0:=by
   by_cases h:k<i
   ·rw[show min i (k+1)=k+1 by omega,show min i k=k by omega,t1,List.count_append]
    congr 1
    by_cases h2:l.getD k 0=l.getD i 0
    ·rw[h2,if_pos ⟨h,rfl⟩];simp
    ·rw[if_neg (fun x=>h2 x.2),List.count_singleton,if_neg (by simpa using h2)]
   ·rw[show min i (k+1)=i by omega,show min i k=i by omega,if_neg (fun x=>h x.1)];rfl
  rw[t3,Nat.add_mul]
  have t5:lexB l k i=true↔(l.getD k 0<l.getD i 0∨(l.getD k 0=l.getD i 0∧k<i)):=by unfold lexB;simp
  have t4:((([k].filter fun x=>decide (0<l.getD x 0)).filter fun x=>lexB l x i).map (wK l)).sum=if 0<l.getD k 0∧(l.getD k 0<l.getD i 0∨(l.getD k 0=l.getD i 0∧k<i)) then 2^(15 - l.getD k 0) else 0:=by
   by_cases h1:0<l.getD k 0
   ·rw[List.filter_cons_of_pos (by simpa using h1),List.filter_nil]
    by_cases h2:lexB l k i=true
    ·rw[if_pos ⟨h1,t5.1 h2⟩];simp only[List.filter_cons,List.filter_nil,h2,if_true,List.map_cons,List.map_nil,List.sum_cons,List.sum_nil,wK];rfl
    ·rw[if_neg (fun x=>h2 (t5.2 x.2))];simp only[List.filter_cons,List.filter_nil,h2];rfl
   ·rw[List.filter_cons_of_neg (by simpa using h1),if_neg (fun x=>h1 x.1)];simp
  rw[t4]
  obtain⟨x,hx⟩:∃ x,x=l.getD k 0:=⟨_,rfl⟩
  obtain⟨m,hm⟩:∃ m,m=l.getD i 0:=⟨_,rfl⟩
  rw[←hm] at hm1
  rw[←hx,←hm]
  by_cases h0:0<x
  ·by_cases h1:x<m
   ·rw[if_pos ⟨h0,.inl h1⟩,if_pos (by omega),if_neg (by omega)];omega
   ·by_cases h2:x=m∧k<i
    ·rw[if_pos ⟨h0,.inr h2⟩,if_neg (by omega),if_pos ⟨h2.2,h2.1⟩,h2.1];omega
    ·rw[if_neg (by omega),if_neg (by omega),if_neg (by omega)];omega
  ·rw[if_neg (by omega),if_neg (by omega),if_neg (by omega)];omega
theorem ahead_code {l S:List Nat} (h:OrdL l S) {t:Nat} (ht:t<S.length) (h15:l.getD S[t] 0≤15):sumK l (S.take t)=jwl l S[t]*2^(15 - l.getD S[t] 0):=by
 have hm:=h.mem.1 (List.getElem_mem ht)
 rw[←take_lex h.up ht,sumK_perm (h.perm.filter _)]
 unfold qjm
 rw[ahead_low l hm.2 l.length jw,List.take_length,lowK_ends l hm.2 h15,show min S[t] l.length=S[t] by omega]
 unfold jwl
 rw[Nat.add_mul]
theorem sumK_take {l S:List Nat} {t:Nat} (ht:t<S.length):sumK l (S.take (t+1))=sumK l (S.take t)+2^(15 - l.getD S[t] 0):=by
 unfold sumK
 rw[List.take_add_one,List.getElem?_eq_getElem ht,List.map_append,List.sum_append]
 simp[wK]
theorem next_code {l S:List Nat} (h:OrdL l S) {t b s:Nat} (ht:t<S.length) (h15:l.getD S[t] 0≤15) (hs:s≤l.getD S[t] 0) (hb:b*2^(15 - s)=sumK l (S.take t)):b*2^(l.getD S[t] 0 - s)=jwl l S[t]:=by
 have h1:=ahead_code h ht h15
 rw[←hb] at h1
 have e:15 - s=(l.getD S[t] 0 - s)+(15 - l.getD S[t] 0):=by omega
 rw[e,Nat.pow_add,←Nat.mul_assoc] at h1
 exact Nat.eq_of_mul_eq_mul_right (Nat.two_pow_pos _) h1
theorem next_sum {l S:List Nat} (h:OrdL l S) {t:Nat} (ht:t<S.length) (h15:l.getD S[t] 0≤15):(jwl l S[t]+1)*2^(15 - l.getD S[t] 0)=sumK l (S.take (t+1)):=by
 rw[sumK_take ht,ahead_code h ht h15,Nat.add_mul,Nat.one_mul]
theorem ord_up {l S:List Nat} (h:OrdL l S) {t:Nat} (ht:t+1<S.length):l.getD S[t] 0≤l.getD S[t+1] 0:=by
 have:=List.pairwise_iff_getElem.1 h.up t (t+1) (by omega) ht (by omega)
 unfold lexB at this
 simp only[decide_eq_true_eq] at this
 omega
theorem codeL_most {l:List Nat} {i:Nat} (hi:i<l.length) (h1:1≤l.getD i 0) (h2:l.getD i 0≤15):jwl l i<qqy l:=by
 have h:=(codeL_in l hi h1).2
 have h3:=qml (lenC l) h2 (Nat.le_refl 15)
 rw[bound_all,←kraft_ends] at h3
 unfold bound at h3
 have:ends (lenC l) (l.getD i 0)*1≤ends (lenC l) (l.getD i 0)*2^(15 - l.getD i 0):=Nat.mul_le_mul_left _ (Nat.two_pow_pos _)
 omega
abbrev Pr:=Nat × Nat
def pl (x y:Pr):Bool:=decide (x.1<y.1)||(decide (x.1=y.1)&&decide (x.2<y.2))
theorem pl_yes {x y:Pr}:pl x y=true↔x.1<y.1∨(x.1=y.1∧x.2<y.2):=by simp[pl]
theorem pl_no {x y:Pr}:pl x y=false↔y.1<x.1∨(x.1=y.1∧y.2≤x.2):=by
 rw[←Bool.not_eq_true,pl_yes];omega
theorem pl_flip {x y:Pr} (h:pl x y=true):pl y x=false:=by rw[pl_yes] at h;rw[pl_no];omega
theorem qky {x y z:Pr} (h1:pl x y=false) (h2:pl y z=false):pl x z=false:=by rw[pl_no] at *;omega
theorem pl_trans1 {x y z:Pr} (h1:pl x y=false) (h2:pl z y=true):pl x z=false:=by rw[pl_yes] at h2;rw[pl_no] at *;omega
theorem pl_other {x y:Pr} (h:pl x y=false) (hne:x≠y):pl y x=true:=by
 rw[pl_no] at h
 rw[pl_yes]
 have:¬ (x.1=y.1∧x.2=y.2):=fun e=>hne (Prod.ext e.1 e.2)
 omega
def pat (l:List Pr) (i:Nat):Pr:=l.getD i (0,0)
def par (i:Nat):Nat:=(i - 1)/2
theorem qjq {i:Nat} (h:0<i):par i<i:=by unfold par;omega
def qwq (l:List Pr) (i j:Nat):List Pr:=(l.set i (pat l j)).set j (pat l i)
theorem jxb (l:List Pr) (i j:Nat):(qwq l i j).length=l.length:=by simp[qwq]
theorem qbl {l:List Pr} {i:Nat} (h:i<l.length):pat l i=l[i]:=by simp[pat,List.getD_eq_getElem?_getD,h]
theorem pat_set (l:List Pr) (i k:Nat) (x:Pr) (h:i<l.length):pat (l.set i x) k=if k=i then x else pat l k:=by
 unfold pat
 rw[List.getD_eq_getElem?_getD,List.getD_eq_getElem?_getD,List.getElem?_set]
 by_cases e:i=k
 ·subst e;simp[h]
 ·rw[if_neg e,if_neg (fun x=>e x.symm)]
theorem jyl {l:List Pr} {i j:Nat} (hi:i<l.length) (hj:j<l.length) (k:Nat):pat (qwq l i j) k=if k=j then pat l i else if k=i then pat l j else pat l k:=by
 unfold qwq
 rw[pat_set _ _ _ _ (by simpa using hj),pat_set _ _ _ _ hi]
theorem qqt {l:List Pr} {i j:Nat} (hi:i<l.length) (hj:j<l.length):(qwq l i j).Perm l:=by
 unfold qwq
 rw[qbl hi,qbl hj]
 exact List.set_set_perm hi hj
def HeapN (l:List Pr) (n:Nat):Prop:=∀ i,0<i→i<n→pl (pat l i) (pat l (par i))=false
def jbq (l:List Pr):Prop:=HeapN l l.length
structure UpOk (l:List Pr) (j:Nat):Prop where
 lt:j<l.length
 rest:∀ i,0<i→i<l.length→i≠j→pl (pat l i) (pat l (par i))=false
 over:∀ i,0<i→i<l.length→par i=j→0<j→pl (pat l i) (pat l (par j))=false
theorem UpOk.done {l:List Pr} {j:Nat} (h:UpOk l j) (he:j=0∨pl (pat l j) (pat l (par j))=false):jbq l:=fun i h0 hi=>by
 by_cases e:i=j
 ·subst e
  rcases he with he | he
  ·omega
  ·exact he
 ·exact h.rest i h0 hi e
theorem UpOk.step {l:List Pr} {j:Nat} (h:UpOk l j) (h0:0<j) (he:pl (pat l j) (pat l (par j))=true):UpOk (qwq l (par j) j) (par j):=by
 have hp:=qjq h0
 have hl:=h.lt
 have hpl:par j<l.length:=by omega
 refine⟨by rw[jxb];omega,fun i g0 g1 g2=>?_,fun i g0 g1 g2 g3=>?_⟩
 ·rw[jxb] at g1
  rw[jyl hpl hl,jyl hpl hl]
  by_cases e:i=j
  ·subst e
   rw[if_pos rfl,if_neg (by omega),if_pos rfl]
   exact pl_flip he
  ·rw[if_neg e,if_neg g2]
   have h1:=h.rest i g0 g1 e
   by_cases e1:par i=j
   ·rw[if_pos e1]
    exact h.over i g0 g1 e1 h0
   ·rw[if_neg e1]
    by_cases e2:par i=par j
    ·rw[if_pos e2]
     rw[e2] at h1
     exact pl_trans1 h1 he
    ·rw[if_neg e2];exact h1
 ·rw[jxb] at g1
  have hpp:=qjq g3
  rw[jyl hpl hl,jyl hpl hl]
  rw[if_neg (show ¬ par (par j)=j by omega),if_neg (show ¬ par (par j)=par j by omega)]
  have h1:=h.rest (par j) g3 hpl (by omega)
  by_cases e:i=j
  ·rw[if_pos e];exact h1
  ·have hi:=qjq g0
   rw[if_neg e,if_neg (by omega)]
   have h2:=h.rest i g0 g1 e
   rw[g2] at h2
   exact qky h2 h1
theorem pat_push (l:List Pr) (x:Pr) (k:Nat):pat (l++[x]) k=if k<l.length then pat l k else if k=l.length then x else (0,0):=by
 unfold pat
 rw[List.getD_eq_getElem?_getD,List.getD_eq_getElem?_getD]
 by_cases h:k<l.length
 ·rw[if_pos h,List.getElem?_append_left h]
 ·rw[if_neg h,List.getElem?_append_right (by omega)]
  by_cases e:k=l.length
  ·subst e;simp
  ·rw[if_neg e,List.getElem?_eq_none (by simp;omega)];rfl
theorem push_up {l:List Pr} (h:jbq l) (x:Pr):UpOk (l++[x]) l.length:=by
 refine⟨by simp,fun i g0 g1 g2=>?_,fun i g0 g1 g2 g3=>?_⟩
 ·have hp:=qjq g0
  rw[List.length_append,List.length_singleton] at g1
  rw[pat_push,pat_push,if_pos (by omega),if_pos (by omega)]
  exact h i g0 (by omega)
 ·have hp:=qjq g0
  rw[List.length_append,List.length_singleton] at g1
  omega
structure qdm (l:List Pr) (n i:Nat):Prop where
 most:n≤l.length
 rest:∀ k,0<k→k<n→par k≠i→pl (pat l k) (pat l (par k))=false
 over:∀ k,0<k→k<n→par k=i→0<i→pl (pat l k) (pat l (par i))=false
theorem qdm.done {l:List Pr} {n i:Nat} (h:qdm l n i) (he:∀ k,0<k→k<n→par k=i→pl (pat l k) (pat l i)=false):HeapN l n:=fun k h0 hk=>by
 by_cases e:par k=i
 ·rw[e];exact he k h0 hk e
 ·exact h.rest k h0 hk e
theorem qdm.step {l:List Pr} {n i j:Nat} (h:qdm l n i) (h0:0<j) (hj:j<n) (hp:par j=i) (hm:∀ k,0<k→k<n→par k=i→pl (pat l k) (pat l j)=false) (he:pl (pat l j) (pat l i)=true) :
  qdm (qwq l i j) n j:=by
 have hij:=qjq h0
 have hmo:=h.most
 have hil:i<l.length:=by omega
 have hjl:j<l.length:=by omega
 refine⟨by rw[jxb];exact hmo,fun k g0 g1 g2=>?_,fun k g0 g1 g2 g3=>?_⟩
 ·have hk:=qjq g0
  rw[jyl hil hjl,jyl hil hjl,if_neg g2]
  by_cases e:k=j
  ·subst e
   rw[if_pos rfl,if_pos hp]
   exact pl_flip he
  ·rw[if_neg e]
   by_cases e1:par k=i
   ·rw[if_pos e1,if_neg (by omega)]
    exact hm k g0 g1 e1
   ·rw[if_neg e1]
    by_cases e2:k=i
    ·subst e2
     rw[if_pos rfl]
     exact h.over j h0 hj hp g0
    ·rw[if_neg e2]
     exact h.rest k g0 g1 e1
 ·have hk:=qjq g0
  rw[jyl hil hjl,jyl hil hjl,hp,if_neg (by omega),if_neg (by omega),if_neg (by omega),if_pos rfl]
  have h1:=h.rest k g0 g1 (by omega)
  rw[g2] at h1
  exact h1
theorem pop_down {l:List Pr} {n:Nat} (h:jbq l) (hn:l.length=n+1):qdm (qwq l 0 n) n 0:=by
 refine⟨by rw[jxb];omega,fun k g0 g1 g2=>?_,fun k g0 g1 g2 g3=>by omega⟩
 have hk:=qjq g0
 rw[jyl (by omega) (by omega),jyl (by omega) (by omega),if_neg (by omega),if_neg (by omega),if_neg (by omega),if_neg g2]
 exact h k g0 (by omega)
theorem heap_least {l:List Pr} (h:jbq l):∀ k,k<l.length→pl (pat l k) (pat l 0)=false:=by
 intro k
 induction k using Nat.strongRecOn with
 | _ k ih =>
  intro hk
  by_cases h0:k=0
  ·subst h0;rw[pl_no];omega
  ·have hp:=qjq (i:=k) (by omega)
   exact qky (h k (by omega) hk) (ih (par k) hp (by omega))
structure jvv (S:Pr→Prop) (l:List Pr):Prop where
 heap:jbq l
 nodup:l.Nodup
 mem:∀ p,p∈l↔S p
theorem jvv.push {S:Pr→Prop} {l l':List Pr} {x:Pr} (h:jvv S l) (hx:¬ S x) (hp:l'.Perm (l++[x])) (hh:jbq l'):jvv (fun p=>S p∨p=x) l':=by
 refine⟨hh,?_,fun p=>?_⟩
 ·rw[hp.nodup_iff,List.nodup_append]
  refine⟨h.nodup,by simp,fun a ha b hb e=>?_⟩
  rw[List.mem_singleton] at hb
  subst hb;subst e
  exact hx ((h.mem a).1 ha)
 ·rw[hp.mem_iff,List.mem_append,List.mem_singleton,h.mem]
theorem pop_set {S:Pr→Prop} {l m:List Pr} {n:Nat} (h:jvv S l) (hn:l.length=n+1) (hp:m.Perm l) (hm:pat m n=pat l 0) (hh:HeapN m n) :
  S (pat l 0)∧(∀ p,S p→p≠pat l 0→pl (pat l 0) p=true)∧jvv (fun p=>S p∧p≠pat l 0) (m.take n):=by
 have hml:m.length=n+1:=by rw[hp.length_eq,hn]
 have hx:pat l 0∈l:=by rw[qbl (by omega)];exact List.getElem_mem _
 have e:m=m.take n++[pat l 0]:=by
  have h1:=List.take_append_drop n m
  have h2:m.drop n=[pat l 0]:=by
   rw[←hm,qbl (by omega),List.drop_eq_getElem_cons (by omega),List.drop_eq_nil_of_le (by omega)]
  rw[h2] at h1
  exact h1.symm
 have hnd:(m.take n++[pat l 0]).Nodup:=by rw[←e,hp.nodup_iff];exact h.nodup
 rw[List.nodup_append] at hnd
 refine⟨(h.mem _).1 hx,fun p hs hne=>?_,?_,hnd.1,fun p=>?_⟩
 ·obtain⟨k,hk,rfl⟩:=List.mem_iff_getElem.1 ((h.mem p).2 hs)
  have:=heap_least h.heap k hk
  rw[qbl hk] at this
  exact pl_other this hne
 ·intro i h0 hi
  rw[List.length_take,Nat.min_eq_left (by omega)] at hi
  have hpi:=qjq h0
  have ht:∀ k,k<n→pat (m.take n) k=pat m k:=fun k hk=>by
   unfold pat;rw[List.getD_eq_getElem?_getD,List.getD_eq_getElem?_getD,List.getElem?_take_of_lt hk]
  rw[ht i hi,ht _ (by omega)]
  exact hh i h0 hi
 ·have h1:p∈l↔p∈m.take n∨p=pat l 0:=by
   have h2:p∈m↔p∈m.take n++[pat l 0]:=by rw[←e]
   rw[←hp.mem_iff,h2,List.mem_append,List.mem_singleton]
  constructor
  ·intro hp'
   refine⟨(h.mem p).1 (h1.2 (.inl hp')),fun e'=>?_⟩
   exact hnd.2.2 p hp' (pat l 0) (by simp) e'
  ·rintro⟨hs,hne⟩
   rcases h1.1 ((h.mem p).2 hs) with h2 | h2
   ·exact h2
   ·exact absurd h2 hne
end
end Go.Proofs.YtflcmmeoppdhdaaGreatDoor
