/- Plain mathematics of layer 12: a row of counts, and its tree: of each place, from 1 on, the counts of as many places up to it as its lowest bit says. Written ahead of the code. · Plain mathematics of .. -/
import Derived.Lib.TrailingZeros
set_option maxHeartbeats 1000000
set_option maxRecDepth 100000
namespace Go.Proofs.YtflcmmeoppdhdaaGreatDoor
theorem jy{α:Type _}{a:α}{l:List α}:(a::l)[0]?=some a:=List.getElem?_cons_zero
theorem jx{α:Type _}{a:α}{l:List α}{i:Nat}:(a::l)[i+1]?=l[i]?:=List.getElem?_cons_succ
theorem jw{n:Nat}:n≤n:=Nat.le_refl n
section
def fLow (i:Nat):Nat:=2^Lib.ctz 64 i
def fPre (c:List Int) (k:Nat):Int:=(c.take k).sum
def jzb (c:List Int) (i:Nat):Int:=fPre c i - fPre c (i - fLow i)
theorem qjn {i:Nat} (h0:0<i) (h:i<2^64):∃ m,i=fLow i*(2*m+1):=by
 obtain⟨m,hm,-⟩:=Lib.ctzFrom_spec 64 i h0 h
 refine⟨m,?_⟩
 have:fLow i=2^Lib.ctzFrom 64 i:=by unfold fLow Lib.ctz;rw[if_neg (by omega)]
 rw[this];exact hm
theorem jxf (i:Nat):0<fLow i:=Nat.two_pow_pos _
theorem jmw {i:Nat} (h0:0<i) (h:i<2^64):fLow i≤i:=by
 obtain⟨m,hm⟩:=qjn h0 h
 have h2:fLow i*1≤fLow i*(2*m+1):=Nat.mul_le_mul_left _ (by omega)
 omega
theorem pow_odd_unique:∀ (a b m n:Nat),2^a*(2*m+1)=2^b*(2*n+1)→a=b:=by
 intro a
 induction a with
 | zero =>
  intro b m n h
  cases b with
  | zero=>rfl
  | succ b=>rw[Nat.pow_succ,Nat.mul_right_comm] at h;omega
 | succ a ih =>
  intro b m n h
  cases b with
  | zero=>rw[Nat.pow_succ,Nat.mul_right_comm] at h;omega
  | succ b =>
   rw[Nat.pow_succ,Nat.pow_succ,Nat.mul_right_comm,Nat.mul_right_comm (2^b)] at h
   rw[ih b m n (by omega)]
theorem fLow_of {i k m:Nat} (h:i<2^64) (e:i=2^k*(2*m+1)):fLow i=2^k:=by
 have h0:0<i:=by rw[e];exact Nat.mul_pos (Nat.two_pow_pos _) (by omega)
 obtain⟨n,hn⟩:=qjn h0 h
 have:Lib.ctz 64 i=k:=pow_odd_unique _ _ n m (by rw[←e];exact hn.symm)
 unfold fLow;rw[this]
theorem fLow_add {q r k:Nat} (hq:2^k∣q) (h0:0<r) (hr:r<2^k) (h:q+r<2^64):fLow (q+r)=fLow r:=by
 have hr64:r<2^64:=by omega
 obtain⟨m,hm⟩:=qjn h0 hr64
 obtain⟨t,rfl⟩:=hq
 have hlt:Lib.ctz 64 r<k:=by
  have h1:=jmw h0 hr64
  have h2:2^Lib.ctz 64 r<2^k:=Nat.lt_of_le_of_lt h1 hr
  exact (Nat.pow_lt_pow_iff_right (by omega)).1 h2
 obtain⟨d,rfl⟩:∃ d,k=Lib.ctz 64 r+d+1:=⟨k - Lib.ctz 64 r - 1,by omega⟩
 generalize hc:Lib.ctz 64 r=c at *
 have hl:fLow r=2^c:=by unfold fLow;rw[hc]
 rw[hl] at hm ⊢
 refine fLow_of (m:=2^d*t+m) h ?_
 have e1:2^(c+d+1)*t=2^c*(2*(2^d*t)):=by
  rw[Nat.pow_succ,Nat.pow_add];simp only[Nat.mul_assoc,Nat.mul_left_comm,Nat.mul_comm]
 rw[e1];conv=>lhs;rw[hm]
 rw[←Nat.mul_add];congr 1;omega
theorem up_between {q j:Nat} (h0:0<q) (h1:q<j) (h2:j<q+fLow q) (h:j<2^64):q≤j - fLow j:=by
 obtain⟨m,hm⟩:=qjn h0 (by omega)
 have e:fLow j=fLow (j - q):=by
  have:=fLow_add (q:=q) (r:=j - q) (k:=Lib.ctz 64 q) ⟨2*m+1,hm⟩ (by omega) (by unfold fLow at h2;omega) (by omega)
  rw[←this];congr 1;omega
 have:=jmw (i:=j - q) (by omega) (by omega)
 omega
theorem up_beyond {q j:Nat} (h0:0<q) (h2:q+fLow q≤j) (h:j<2^64) (hs:j - fLow j<q+fLow q):j - fLow j<q:=by
 have hj0:0<j:=by omega
 obtain⟨m,hm⟩:=qjn h0 (by omega)
 obtain⟨n,hn⟩:=qjn hj0 h
 have hlj:=jmw hj0 h
 generalize hS:j - fLow j=s at *
 unfold fLow at *
 generalize Lib.ctz 64 q=a at *
 generalize Lib.ctz 64 j=k at *
 have es:s=2^(k+1)*n:=by
  have:2^k*(2*n+1)=2^(k+1)*n+2^k:=by rw[Nat.pow_succ,Nat.mul_add,Nat.mul_assoc];omega
  omega
 refine Classical.byContradiction fun hc=>?_
 have hc:q≤s:=by omega
 by_cases hk:k+1≤a
 ·obtain⟨d,rfl⟩:∃ d,a=k+1+d:=⟨a - (k+1),by omega⟩
  have dv:2^(k+1)∣q+2^(k+1+d) - s:=by
   refine Nat.dvd_sub (Nat.dvd_add ?_ ?_) ⟨n,es⟩
   ·exact⟨2^d*(2*m+1),by rw[←Nat.mul_assoc,←Nat.pow_add];exact hm⟩
   ·exact⟨2^d,by rw[Nat.pow_add]⟩
  have:=Nat.le_of_dvd (by omega) dv
  have hp:2^(k+1)=2*2^k:=by rw[Nat.pow_succ,Nat.mul_comm]
  have:=Nat.two_pow_pos k
  omega
 ·obtain⟨d,rfl⟩:∃ d,k=a+d:=⟨k - a,by omega⟩
  have da:2^a∣s - q:=by
   refine Nat.dvd_sub ⟨2*(2^d*n),?_⟩ ⟨_,hm⟩
   rw[es,Nat.pow_succ,Nat.pow_add];simp only[Nat.mul_left_comm,Nat.mul_comm]
  have hsq:s - q=0:=Nat.eq_zero_of_dvd_of_lt da (by omega)
  have e2:2^a*(2*m+1)=2^a*(2*(2^d*n)):=by
   have e3:2^(a+d+1)*n=2^a*(2*(2^d*n)):=by rw[Nat.pow_succ,Nat.pow_add];simp only[Nat.mul_left_comm,Nat.mul_comm]
   rw[←e3,←es,←hm];omega
  have:=Nat.eq_of_mul_eq_mul_left (Nat.two_pow_pos a) e2
  omega
theorem jqm (c:List Int) (k:Nat) (h:k<c.length):fPre c (k+1)=fPre c k+c[k]:=by
 unfold fPre;rw[List.take_add_one,List.getElem?_eq_getElem h,List.sum_append];simp
theorem jyz (c:List Int):fPre c 0=0:=by simp[fPre]
theorem jqk (c:List Int) {k:Nat} (h:c.length≤k):fPre c k=c.sum:=by unfold fPre;rw[List.take_of_length_le h]
theorem fPre_set (c:List Int) (i:Nat) (h:i<c.length) (d:Int):∀ k,fPre (c.set i (c[i]+d)) k=fPre c k+if i<k then d else 0:=by
 intro k
 induction k with
 | zero=>simp[jyz]
 | succ k ih =>
  by_cases hk:k<c.length
  ·rw[jqm _ _ (by simpa using hk),jqm _ _ hk,ih,List.getElem_set]
   by_cases e:i=k
   ·subst e;simp;omega
   ·rw[if_neg e];by_cases h1:i<k
    ·rw[if_pos h1,if_pos (by omega)];omega
    ·rw[if_neg h1,if_neg (by omega)];omega
  ·have e1:=jqk (c.set i (c[i]+d)) (k:=k) (by simp;omega)
   have e2:=jqk (c.set i (c[i]+d)) (k:=k+1) (by simp;omega)
   have e3:=jqk c (k:=k) (by omega)
   have e4:=jqk c (k:=k+1) (by omega)
   rw[e2,←e1,e4,←e3,ih,if_pos (by omega),if_pos (by omega)]
theorem qvy (c:List Int) (p:Nat) (h:p<c.length) (d:Int) (j:Nat) :
  jzb (c.set p (c[p]+d)) j=jzb c j+if j - fLow j<p+1∧p+1≤j then d else 0:=by
 unfold jzb;rw[fPre_set,fPre_set]
 by_cases h1:p<j
 ·by_cases h2:p<j - fLow j
  ·rw[if_pos h1,if_pos h2,if_neg (by omega)];omega
  ·rw[if_pos h1,if_neg h2,if_pos (by omega)];omega
 ·rw[if_neg h1,if_neg (by omega),if_neg (by omega)];omega
theorem jmv {c:List Int} (hc:∀ x∈c,0≤x) {a b:Nat} (h:a≤b):fPre c a≤fPre c b:=by
 obtain⟨d,rfl⟩:∃ d,b=a+d:=⟨b - a,by omega⟩
 clear h
 induction d with
 | zero=>exact Int.le_refl _
 | succ d ih =>
  refine Int.le_trans ih ?_
  rw[←Nat.add_assoc]
  by_cases hk:a+d<c.length
  ·rw[jqm _ _ hk];have:=hc _ (List.getElem_mem hk);omega
  ·rw[jqk c (k:=a+d) (by omega),jqk c (k:=a+d+1) (by omega)];exact Int.le_refl _
theorem fLow_half {p k:Nat} (hp:2^(k+1)∣p) (h:p+2^k<2^64):fLow (p+2^k)=2^k:=by
 obtain⟨t,rfl⟩:=hp
 refine fLow_of (m:=t) h ?_
 rw[Nat.pow_succ,Nat.mul_add,Nat.mul_assoc];omega
theorem fNode_half (c:List Int) {p k:Nat} (hp:2^(k+1)∣p) (h:p+2^k<2^64):jzb c (p+2^k)=fPre c (p+2^k) - fPre c p:=by
 unfold jzb;rw[fLow_half hp h,Nat.add_sub_cancel]
def jqc (c:List Int):List Int:=c.map fun x=>(x+1)/2
theorem fHalf_nn {c:List Int} (hc:∀ x∈c,0≤x):∀ x∈jqc c,0≤x:=by
 intro x hx;obtain⟨y,hy,rfl⟩:=List.mem_map.1 hx;have:=hc y hy;omega
theorem fHalf_sum {c:List Int} (hc:∀ x∈c,0≤x):(jqc c).sum≤c.sum:=by
 induction c with
 | nil=>simp[jqc]
 | cons a c ih =>
  have h1:=ih fun x hx=>hc x (List.mem_cons_of_mem _ hx)
  have h2:=hc a List.mem_cons_self
  simp only[jqc,List.map_cons,List.sum_cons] at h1 ⊢;omega
theorem qjs (c:List Int):(jqc c).length=c.length:=by simp[jqc]
theorem fHalf_one {c:List Int} (hc:∀ x∈c,1≤x):∀ x∈jqc c,1≤x:=by
 intro x hx;obtain⟨y,hy,rfl⟩:=List.mem_map.1 hx;have:=hc y hy;omega
theorem fHalf_less {c:List Int} (hc:∀ x∈c,1≤x) (h:(c.length:Int)<c.sum):(jqc c).sum<c.sum:=by
 have key:∀ c:List Int,(∀ x∈c,1≤x)→2*(jqc c).sum≤c.sum+c.length:=by
  intro c
  induction c with
  | nil=>intro _;simp[jqc]
  | cons a c ih =>
   intro hc
   have h1:=ih fun x hx=>hc x (List.mem_cons_of_mem _ hx)
   simp only[jqc,List.map_cons,List.sum_cons,List.length_cons] at h1 ⊢;omega
 have:=key c hc
 omega
def jgz (c:List Int) (v:Int):Option Nat:=if v<0 then none else (List.range c.length).find? fun i=>decide (v<fPre c (i+1))
theorem qmc {c:List Int} (hc:∀ x∈c,0≤x) {v:Int} {r:Nat} (hv:0≤v) (hr:r<c.length) (h1:fPre c r≤v) (h2:v<fPre c (r+1)):jgz c v=some r:=by
 unfold jgz;rw[if_neg (by omega),List.find?_range_eq_some]
 refine⟨by simpa using h2,by simpa using hr,?_⟩
 intro j hj
 have:=jmv hc (a:=j+1) (b:=r) (by omega)
 simp;omega
theorem fFind_none {c:List Int} (hc:∀ x∈c,0≤x) {v:Int} (h:v<0∨c.sum≤v):jgz c v=none:=by
 unfold jgz
 by_cases hv:v<0
 ·rw[if_pos hv]
 ·rw[if_neg hv,List.find?_eq_none]
  intro j hj
  have hj:j<c.length:=by simpa using hj
  have:=jmv hc (a:=j+1) (b:=c.length) (by omega)
  rw[jqk c jw] at this
  simp;omega
def qyw (c:List Int) (v:Int):Nat→Nat→Nat
 | 0,p=>p
 | k+1,p=>if p+2^k≤c.length∧fPre c (p+2^k)≤v then qyw c v k (p+2^k) else qyw c v k p
theorem fSeek_spec (c:List Int) (v:Int):∀ (k p:Nat),p≤c.length→fPre c p≤v→(c.length<p+2^k∨v<fPre c (p+2^k)) →
  qyw c v k p≤c.length∧fPre c (qyw c v k p)≤v∧(qyw c v k p=c.length∨v<fPre c (qyw c v k p+1)):=by
 intro k
 induction k with
 | zero =>
  intro p h1 h2 h3
  refine⟨h1,h2,?_⟩
  rcases h3 with h | h
  ·exact .inl (by simp only[qyw];omega)
  ·exact .inr (by simpa [qyw] using h)
 | succ k ih =>
  intro p h1 h2 h3
  have e:p+2^(k+1)=p+2^k+2^k:=by rw[Nat.pow_succ];omega
  unfold qyw
  by_cases hq:p+2^k≤c.length∧fPre c (p+2^k)≤v
  ·rw[if_pos hq];exact ih _ hq.1 hq.2 (e ▸ h3)
  ·rw[if_neg hq];refine ih _ h1 h2 ?_
   by_cases h:p+2^k≤c.length
   ·exact .inr (by
     have:¬ fPre c (p+2^k)≤v:=fun x=>hq ⟨h,x⟩
     omega)
   ·exact .inl (by omega)
theorem qbq {c:List Int} (hc:∀ x∈c,0≤x) {v:Int} {k:Nat} (h0:0≤v) (hv:v<c.sum) (hk:c.length<2^k):jgz c v=some (qyw c v k 0)∧qyw c v k 0<c.length:=by
 obtain⟨h1,h2,h3⟩:=fSeek_spec c v k 0 (by omega) (by rw[jyz];exact h0) (.inl (by omega))
 have hlt:qyw c v k 0<c.length:=by
  refine Nat.lt_of_le_of_ne h1 fun e=>?_
  rw[e,jqk c jw] at h2;omega
 rcases h3 with h | h
 ·omega
 ·exact⟨qmc hc h0 hlt h2 h,hlt⟩
theorem fFind_in {c:List Int} {v:Int} {r:Nat} (h:jgz c v=some r):0≤v∧r<c.length∧v<fPre c (r+1)∧fPre c r≤v:=by
 unfold jgz at h
 by_cases hv:v<0
 ·rw[if_pos hv] at h;cases h
 ·rw[if_neg hv,List.find?_range_eq_some] at h
  obtain⟨h1,h2,h3⟩:=h
  refine⟨by omega,by simpa using h2,by simpa using h1,?_⟩
  cases r with
  | zero=>rw[jyz];omega
  | succ r=>have:=h3 r (by omega);simp at this;omega
def jgy (c:List Int) (j:Nat):Nat→Int
 | 0=>0
 | k+1=>jgy c j k+if (k+1)+fLow (k+1)=j then jzb c (k+1) else 0
theorem qbj (c:List Int) (j:Nat):∀ k k',k≤k'→(∀ q,k<q→q≤k'→q+fLow q≠j)→jgy c j k'=jgy c j k:=by
 intro k k' h
 obtain⟨d,rfl⟩:∃ d,k'=k+d:=⟨k' - k,by omega⟩
 clear h
 induction d with
 | zero=>intro _;rfl
 | succ d ih =>
  intro hq
  show jgy c j (k+d)+(if k+d+1+fLow (k+d+1)=j then jzb c (k+d+1) else 0)=_
  rw[if_neg (hq (k+d+1) (by omega) (by omega)),ih fun q h1 h2=>hq q h1 (by omega),Int.add_zero]
theorem fLow_pow (i:Nat):∃ s,fLow i=2^s:=⟨_,rfl⟩
theorem fLow_sub {j t:Nat} (h0:0<j) (h:j<2^64) (ht:2^t<fLow j):fLow (j - 2^t)=2^t:=by
 obtain⟨m,hm⟩:=qjn h0 h
 obtain⟨a,ha⟩:=fLow_pow j
 rw[ha] at hm ht
 have hta:t<a:=(Nat.pow_lt_pow_iff_right (by omega)).1 ht
 obtain⟨d,rfl⟩:∃ d,a=t+d+1:=⟨a - t - 1,by omega⟩
 obtain⟨x,hx⟩:∃ x,2^d*(2*m+1)=x+1:=⟨2^d*(2*m+1) - 1,by have:=Nat.mul_pos (Nat.two_pow_pos d) (show 0<2*m+1 by omega);omega⟩
 refine fLow_of (m:=x) (Nat.lt_of_le_of_lt (Nat.sub_le ..) h) ?_
 have e:2^(t+d+1)*(2*m+1)=2^t*(2*(x+1)):=by
  rw[←hx,Nat.pow_succ,Nat.pow_add];simp only[Nat.mul_left_comm,Nat.mul_comm]
 rw[hm,e,show 2*(x+1)=2*x+1+1 by omega,Nat.mul_add (2^t) (2*x+1) 1]
 omega
theorem fKids_all (c:List Int) {j:Nat} (h0:0<j) (h:j<2^64):jgy c j (j - 1)=fPre c (j - 1) - fPre c (j - fLow j):=by
 obtain⟨a,ha⟩:=fLow_pow j
 have hle:=jmw h0 h
 have first:jgy c j (j - fLow j)=0:=by
  refine qbj c j 0 _ (Nat.zero_le _) fun q h1 h2 e=>?_
  have hq:=jxf q
  have:=up_beyond (q:=q) (j:=j) h1 (by omega) h (by have:=jxf j;omega)
  omega
 have key:∀ t,t≤a→jgy c j (j - 2^(a - t))=fPre c (j - 2^(a - t)) - fPre c (j - fLow j):=by
  intro t
  induction t with
  | zero=>intro _;rw[Nat.sub_zero,←ha,first];omega
  | succ t ih =>
   intro ht
   have ih:=ih (by omega)
   obtain⟨s,hs⟩:∃ s,a - (t+1)=s:=⟨_,rfl⟩
   rw[hs]
   have hs1:a - t=s+1:=by omega
   rw[hs1] at ih
   have hp:2^(s+1)=2^s+2^s:=by rw[Nat.pow_succ];omega
   have hpos:=Nat.two_pow_pos s
   have hsa:2^(s+1)≤2^a:=Nat.pow_le_pow_right (by omega) (by omega)
   have hlow:=fLow_sub h0 h (t:=s) (by rw[ha];omega)
   obtain⟨q,hq⟩:∃ q,j - 2^s=q+1:=⟨j - 2^s - 1,by omega⟩
   rw[hq] at hlow
   have hmid:jgy c j q=jgy c j (j - 2^(s+1)):=by
    refine qbj c j _ _ (by omega) fun r h1 h2 e=>?_
    obtain⟨u,hu⟩:=fLow_pow r
    have g1:2^s<2^u:=by omega
    have g2:2^u<2^(s+1):=by omega
    have:=(Nat.pow_lt_pow_iff_right (a:=2) (by omega)).1 g1
    have:=(Nat.pow_lt_pow_iff_right (a:=2) (by omega)).1 g2
    omega
   rw[hq]
   show jgy c j q+_=_
   rw[if_pos (by rw[hlow];omega),hmid,ih]
   unfold jzb
   rw[hlow,show q+1 - 2^s=j - 2^(s+1) by omega]
   omega
 have:=key a jw
 rwa [Nat.sub_self,Nat.pow_zero] at this
theorem fKids_most (c:List Int) {j k:Nat} (h:j - 1≤k) (hj:0<j):jgy c j k=jgy c j (j - 1) :=
 qbj c j _ _ h fun q h1 _=>by have:=jxf q;omega
def bAt (c:List Int) (k j:Nat):Int:=if j=0 then 0 else c.getD (j - 1) 0+jgy c j k
theorem qwh (c:List Int) {j k:Nat} (h:j≤k+1) (h1:j≤c.length) (h64:c.length<2^64):bAt c k j=jzb c j:=by
 unfold bAt
 by_cases h0:j=0
 ·subst h0;simp[jzb,jyz]
 ·obtain⟨i,rfl⟩:∃ i,j=i+1:=⟨j - 1,by omega⟩
  rw[if_neg h0,fKids_most c (by omega) (by omega),fKids_all c (by omega) (by omega)]
  unfold jzb
  rw[jqm c i (by omega)]
  simp[List.getD_eq_getElem?_getD,List.getElem?_eq_getElem (show i<c.length by omega)]
  omega
theorem jbk {c:List Int} (hc:∀ x∈c,0≤x) (j:Nat):0≤jzb c j:=by
 unfold jzb;have:=jmv hc (a:=j - fLow j) (b:=j) (by omega);omega
theorem jvd {c:List Int} (hc:∀ x∈c,0≤x) (j:Nat):0≤fPre c j:=by
 have:=jmv hc (Nat.zero_le j);rwa [jyz] at this
theorem jwp {c:List Int} (hc:∀ x∈c,0≤x) (j:Nat):fPre c j≤c.sum:=by
 rcases Nat.le_total c.length j with h | h
 ·rw[jqk c h];exact Int.le_refl _
 ·have:=jmv hc h;rwa [jqk c jw] at this
theorem jgx {c:List Int} (hc:∀ x∈c,0≤x) (j:Nat):jzb c j≤c.sum:=by
 unfold jzb;have:=jwp hc j;have:=jvd hc (j - fLow j);omega
theorem fKids_mono {c:List Int} (hc:∀ x∈c,0≤x) (j:Nat) {k k':Nat} (h:k≤k'):jgy c j k≤jgy c j k':=by
 obtain⟨d,rfl⟩:∃ d,k'=k+d:=⟨k' - k,by omega⟩
 clear h
 induction d with
 | zero=>exact Int.le_refl _
 | succ d ih =>
  refine Int.le_trans ih ?_
  show _≤jgy c j (k+d)+(if k+d+1+fLow (k+d+1)=j then jzb c (k+d+1) else 0)
  have:=jbk hc (k+d+1)
  split <;> omega
theorem getD_nn {c:List Int} (hc:∀ x∈c,0≤x) (j:Nat):0≤c.getD j 0:=by
 rcases Nat.lt_or_ge j c.length with h | h
 ·simp[List.getD_eq_getElem?_getD,List.getElem?_eq_getElem h];exact hc _ (List.getElem_mem h)
 ·simp[List.getD_eq_getElem?_getD,List.getElem?_eq_none h]
theorem bAt_nn {c:List Int} (hc:∀ x∈c,0≤x) (k j:Nat):0≤bAt c k j:=by
 unfold bAt
 split
 ·exact Int.le_refl _
 ·have:=getD_nn hc (j - 1)
  have:=fKids_mono hc j (Nat.zero_le k)
  simp only[jgy] at this
  omega
theorem bAt_le {c:List Int} (hc:∀ x∈c,0≤x) (h64:c.length<2^64) {k j:Nat} (h1:j≤c.length):bAt c k j≤c.sum:=by
 by_cases h:j≤k+1
 ·rw[qwh c h h1 h64];exact jgx hc j
 ·have e:=qwh c (j:=j) (k:=j - 1) (by omega) h1 h64
  have:=jgx hc j
  have:=fKids_mono hc j (k:=k) (k':=j - 1) (by omega)
  unfold bAt at e ⊢
  rw[if_neg (by omega)] at e ⊢
  omega
theorem bAt_succ (c:List Int) (k j:Nat) (hj:0<j):bAt c (k+1) j=bAt c k j+if (k+1)+fLow (k+1)=j then jzb c (k+1) else 0:=by
 unfold bAt;rw[if_neg (by omega),if_neg (by omega)];show _+(jgy c j k+_)=_;omega
def bRow (c:List Int) (k:Nat):List Int:=(List.range (c.length+1)).map (bAt c k)
def fRow (c:List Int):List Int:=(List.range (c.length+1)).map (jzb c)
theorem qzw (c:List Int) (k:Nat):(bRow c k).length=c.length+1:=by simp[bRow]
theorem fRow_len (c:List Int):(fRow c).length=c.length+1:=by simp[fRow]
theorem jwh (c:List Int) (k j:Nat) (h:j≤c.length):(bRow c k)[j]?=some (bAt c k j):=by
 unfold bRow;rw[List.getElem?_map,List.getElem?_range (by omega)];rfl
theorem fRow_get (c:List Int) (j:Nat) (h:j≤c.length):(fRow c)[j]?=some (jzb c j):=by
 unfold fRow;rw[List.getElem?_map,List.getElem?_range (by omega)];rfl
theorem bRow_zero (c:List Int):bRow c 0=0::c:=by
 refine List.ext_getElem? fun i=>?_
 rcases Nat.lt_or_ge i (c.length+1) with h | h
 ·rw[jwh c 0 i (by omega)]
  cases i with
  | zero=>rfl
  | succ i=>simp[bAt,jgy,List.getD_eq_getElem?_getD,List.getElem?_eq_getElem (show i<c.length by omega)]
 ·rw[List.getElem?_eq_none (by rw[qzw];exact h),List.getElem?_eq_none (by simpa using h)]
theorem bRow_most (c:List Int) (h64:c.length<2^64):bRow c c.length=fRow c:=by
 refine List.map_congr_left fun j hj=>?_
 have:=List.mem_range.1 hj
 exact qwh c (by omega) (by omega) h64
theorem bRow_here (c:List Int) (k:Nat) (h:k+1≤c.length) (h64:c.length<2^64):bAt c k (k+1)=jzb c (k+1)∧bAt c (k+1) (k+1)=jzb c (k+1) :=
 ⟨qwh c jw h h64,qwh c (by omega) h h64⟩
theorem bRow_step (c:List Int) (k:Nat):bRow c (k+1)=if (k+1)+fLow (k+1)≤c.length then (bRow c k).set ((k+1)+fLow (k+1)) (bAt c k ((k+1)+fLow (k+1))+jzb c (k+1)) else bRow c k:=by
 refine List.ext_getElem? fun i=>?_
 rcases Nat.lt_or_ge i (c.length+1) with h | h
 ·rw[jwh c _ i (by omega)]
  by_cases hi:i=0
  ·subst hi
   have e:bAt c (k+1) 0=bAt c k 0:=by simp[bAt]
   rw[e]
   split
   ·rw[List.getElem?_set_ne (by omega),jwh c k 0 (by omega)]
   ·rw[jwh c k 0 (by omega)]
  ·rw[bAt_succ c k i (by omega)]
   by_cases he:(k+1)+fLow (k+1)=i
   ·rw[if_pos he,if_pos (by omega),he,List.getElem?_set_self (by rw[qzw];exact h)]
   ·rw[if_neg he,Int.add_zero]
    split
    ·rw[List.getElem?_set_ne he,jwh c k i (by omega)]
    ·rw[jwh c k i (by omega)]
 ·rw[List.getElem?_eq_none (by rw[qzw];exact h)]
  split
  ·rw[List.getElem?_eq_none (by rw[List.length_set,qzw];exact h)]
  ·rw[List.getElem?_eq_none (by rw[qzw];exact h)]
theorem bRow_back (c:List Int) (k:Nat):bRow c k=if (k+1)+fLow (k+1)≤c.length then (bRow c (k+1)).set ((k+1)+fLow (k+1)) (bAt c (k+1) ((k+1)+fLow (k+1)) - jzb c (k+1)) else bRow c (k+1):=by
 have e:=bRow_step c k
 split
 ·rename_i h
  rw[if_pos h] at e
  rw[e,List.set_set,bAt_succ c k _ (by omega),if_pos rfl]
  refine List.ext_getElem? fun i=>?_
  by_cases hi:(k+1)+fLow (k+1)=i
  ·rw[←hi,List.getElem?_set_self (by rw[qzw];omega),jwh c k _ h];congr 1;omega
  ·rw[List.getElem?_set_ne hi]
 ·rename_i h
  rw[if_neg h] at e;exact e.symm
def jyv (l:List Int) (k:Nat):Prop:=k<l.length∧(∀ j,j<l.length→l.getD j 0≤l.getD k 0)∧∀ j,j<k→l.getD j 0<l.getD k 0
theorem jyv.one {l:List Int} {a b:Nat} (h:jyv l a) (h':jyv l b):a=b:=by
 rcases Nat.lt_trichotomy a b with e | e | e
 ·have:=h'.2.2 a e;have:=h.2.1 b h'.1;omega
 ·exact e
 ·have:=h.2.2 b e;have:=h'.2.1 a h.1;omega
theorem getD_take (l:List Int) {i j:Nat} (h:j<i):(l.take i).getD j 0=l.getD j 0:=by
 simp[List.getD_eq_getElem?_getD,List.getElem?_take_of_lt h]
theorem first_start (l:List Int) (h:0<l.length):jyv (l.take 1) 0:=by
 refine⟨by simp;omega,fun j hj=>?_,fun j hj=>by omega⟩
 have:j=0:=by simp at hj;omega
 subst this;exact Int.le_refl _
theorem first_next (l:List Int) {i a:Nat} (h:jyv (l.take i) a) (hi:i<l.length):jyv (l.take (i+1)) (if l.getD a 0<l.getD i 0 then i else a):=by
 obtain⟨h1,h2,h3⟩:=h
 have hlen:(l.take i).length=i:=by simp;omega
 have hlen2:(l.take (i+1)).length=i+1:=by simp;omega
 rw[hlen] at h1 h2
 have g2:∀ j,j<i→l.getD j 0≤l.getD a 0:=fun j hj=>by have:=h2 j hj;rwa [getD_take l hj,getD_take l h1] at this
 have g3:∀ j,j<a→l.getD j 0<l.getD a 0:=fun j hj=>by have:=h3 j hj;rwa [getD_take l (by omega),getD_take l h1] at this
 split
 ·rename_i hlt
  refine⟨by rw[hlen2];omega,fun j hj=>?_,fun j hj=>?_⟩
  ·rw[hlen2] at hj
   rw[getD_take l hj,getD_take l (by omega)]
   rcases Nat.lt_or_ge j i with e | e
   ·have:=g2 j e;omega
   ·obtain rfl:j=i:=by omega
    exact Int.le_refl _
  ·rw[getD_take l (by omega),getD_take l (by omega)]
   have:=g2 j hj;omega
 ·rename_i hlt
  refine⟨by rw[hlen2];omega,fun j hj=>?_,fun j hj=>?_⟩
  ·rw[hlen2] at hj
   rw[getD_take l hj,getD_take l (by omega)]
   rcases Nat.lt_or_ge j i with e | e
   ·exact g2 j e
   ·obtain rfl:j=i:=by omega
    omega
  ·rw[getD_take l (by omega),getD_take l (by omega)]
   exact g3 j hj
def jzk (t s c:Int):Int:=if 0<c∧c*t/s=0 then 1 else c*t/s
inductive Trim:Nat→List Int→List Int→Prop
 | done (l:List Int):Trim 0 l l
 | more (n k:Nat) (l r:List Int) (h:jyv l k) (hr:Trim n (l.set k (l.getD k 0 - 1)) r):Trim (n+1) l r
theorem Trim.one {n:Nat} {l r r':List Int} (h:Trim n l r) (h':Trim n l r'):r=r':=by
 induction h with
 | done l=>cases h';rfl
 | more n k l r hf hr ih =>
  cases h' with
  | more _ k' _ _ hf' hr' =>
   obtain rfl:=hf.one hf'
   exact ih hr'
def qxj (c:List Int) (t:Int) (r:List Int):Prop :=
 if (c.map (jzk t c.sum)).sum<t then ∃ k,jyv c k∧r=(c.map (jzk t c.sum)).set k ((c.map (jzk t c.sum)).getD k 0+(t - (c.map (jzk t c.sum)).sum))
 else Trim ((c.map (jzk t c.sum)).sum - t).toNat (c.map (jzk t c.sum)) r
theorem qxj.one {c:List Int} {t:Int} {r r':List Int} (h:qxj c t r) (h':qxj c t r'):r=r':=by
 unfold qxj at h h'
 split at h
 ·rename_i hlt
  rw[if_pos hlt] at h'
  obtain⟨k,hk,rfl⟩:=h
  obtain⟨k',hk',rfl⟩:=h'
  rw[hk.one hk']
 ·rename_i hlt
  rw[if_neg hlt] at h'
  exact h.one h'
def many (l:List Int):Int:=(l.map fun x=>if 0<x then (1:Int) else 0).sum
theorem set_sum14:∀ (l:List Int) (k:Nat) (x:Int),k<l.length→(l.set k x).sum=l.sum+(x - l.getD k 0):=by
 intro l
 induction l with
 | nil=>intro k x h;simp at h
 | cons a l ih =>
  intro k x h
  cases k with
  | zero=>simp;omega
  | succ k=>have:=ih k x (by simpa using h);simp at this ⊢;omega
theorem qzm (l:List Int) (k j:Nat) (x:Int) (h:k<l.length):(l.set k x).getD j 0=if k=j then x else l.getD j 0:=by
 by_cases e:k=j
 ·subst e;simp[List.getD_eq_getElem?_getD,h]
 ·simp[List.getD_eq_getElem?_getD,List.getElem?_set_ne e,e]
def Alike (c l:List Int):Prop:=l.length=c.length∧∀ j,j<c.length→0≤l.getD j 0∧(l.getD j 0=0↔c.getD j 0=0)
theorem Alike.many {c l:List Int} (h:Alike c l) (hc:∀ x∈c,0≤x):many l=many c:=by
 have e:(l.map fun x=>if 0<x then (1:Int) else 0)=c.map fun x=>if 0<x then (1:Int) else 0:=by
  refine List.ext_getElem (by simp[h.1]) fun j h1 h2=>?_
  simp only[List.getElem_map]
  have hj:j<c.length:=by simpa using h2
  have hl:j<l.length:=by simpa using h1
  have hx:=h.2 j hj
  have e1:l.getD j 0=l[j]:=by simp[List.getD_eq_getElem?_getD,hl]
  have e2:c.getD j 0=c[j]:=by simp[List.getD_eq_getElem?_getD,hj]
  rw[e1,e2] at hx
  have:=hc _ (List.getElem_mem hj)
  by_cases h0:0<l[j]
  ·rw[if_pos h0,if_pos (by have:=hx.2;omega)]
  ·rw[if_neg h0,if_neg (by have:=hx.2;omega)]
 unfold Go.Proofs.YtflcmmeoppdhdaaGreatDoor.many;rw[e]
theorem sum_le_many {l:List Int} (h:∀ x∈l,x≤1) (h0:∀ x∈l,0≤x):l.sum≤many l:=by
 induction l with
 | nil=>simp[many]
 | cons a l ih =>
  have h1:=ih (fun x hx=>h x (List.mem_cons_of_mem _ hx)) (fun x hx=>h0 x (List.mem_cons_of_mem _ hx))
  have h2:=h a List.mem_cons_self
  have h3:=h0 a List.mem_cons_self
  simp only[many,List.map_cons,List.sum_cons] at h1 ⊢
  split <;> omega
theorem all_nn14 {c l:List Int} (h:Alike c l):∀ x∈l,0≤x:=by
 intro x hx
 obtain⟨j,hj,rfl⟩:=List.getElem_of_mem hx
 have:=(h.2 j (by rw[←h.1];exact hj)).1
 simpa [List.getD_eq_getElem?_getD,hj] using this
theorem first_two {c l:List Int} (ha:Alike c l) (hc:∀ x∈c,0≤x) {t:Int} (ht:many c≤t) (hs:t<l.sum) {k:Nat} (hk:jyv l k):2≤l.getD k 0:=by
 refine Int.not_lt.1 fun h=>?_
 have h1:∀ x∈l,x≤1:=by
  intro x hx
  obtain⟨j,hj,rfl⟩:=List.getElem_of_mem hx
  have:=hk.2.1 j hj
  have e:l.getD j 0=l[j]:=by simp[List.getD_eq_getElem?_getD,hj]
  omega
 have:=sum_le_many h1 (all_nn14 ha)
 rw[ha.many hc] at this
 omega
theorem Trim.keeps {c:List Int} {t:Int} (hc:∀ x∈c,0≤x) (ht:many c≤t) {n:Nat} {l r:List Int} (h:Trim n l r):Alike c l→l.sum=t+n→Alike c r∧r.sum=t:=by
 induction h with
 | done l=>intro ha hs;exact⟨ha,by simpa using hs⟩
 | more n k l r hf hr ih =>
  intro ha hs
  have h2:=first_two ha hc ht (by omega) hf
  refine ih ⟨by rw[List.length_set];exact ha.1,fun j hj=>?_⟩ (by rw[set_sum14 l k _ hf.1];omega)
  rw[qzm l k j _ hf.1]
  have:=ha.2 j hj
  split
  ·rename_i e;subst e;constructor
   ·omega
   ·constructor
    ·intro;omega
    ·intro hz;have:=this.2.2 hz;omega
  ·exact this
theorem nShare_nn {t s c:Int} (hc:0≤c) (ht:0≤t) (hs:0<s):0≤jzk t s c∧(jzk t s c=0↔c=0):=by
 unfold jzk
 have h0:0≤c*t/s:=Int.ediv_nonneg (Int.mul_nonneg hc ht) (by omega)
 by_cases h:0<c∧c*t/s=0
 ·rw[if_pos h];constructor
  ·decide
  ·constructor
   ·intro x;cases x
   ·intro x;omega
 ·rw[if_neg h]
  refine⟨h0,fun x=>?_,fun x=>by subst x;simp⟩
  rcases Int.lt_or_le 0 c with hp | hp
  ·exact (h ⟨hp,x⟩).elim
  ·omega
theorem qdl {c:List Int} (hc:∀ x∈c,0≤x) {t:Int} (ht:0≤t) (hs:0<c.sum):Alike c (c.map (jzk t c.sum)):=by
 refine⟨by simp,fun j hj=>?_⟩
 have e1:(c.map (jzk t c.sum)).getD j 0=jzk t c.sum c[j]:=by simp[List.getD_eq_getElem?_getD,hj]
 have e2:c.getD j 0=c[j]:=by simp[List.getD_eq_getElem?_getD,hj]
 rw[e1,e2]
 exact nShare_nn (hc _ (List.getElem_mem hj)) ht hs
theorem qxj.keeps {c:List Int} (hc:∀ x∈c,0≤x) {t:Int} (ht0:0≤t) (hs:0<c.sum) (ht:many c≤t) {r:List Int} (h:qxj c t r):Alike c r∧r.sum=t:=by
 have ha:=qdl hc ht0 hs
 unfold qxj at h
 split at h
 ·rename_i hlt
  obtain⟨k,hk,rfl⟩:=h
  have hkl:k<(c.map (jzk t c.sum)).length:=by simpa using hk.1
  refine⟨⟨by simp,fun j hj=>?_⟩,by rw[set_sum14 _ k _ hkl];omega⟩
  rw[qzm _ k j _ hkl]
  have h1:=ha.2 j hj
  split
  ·rename_i e;subst e
   have hpos:0<c.getD k 0:=by
    refine Int.not_le.1 fun hle=>?_
    have hall:∀ x∈c,x=0:=fun x hx=>by
     obtain⟨i,hi,rfl⟩:=List.getElem_of_mem hx
     have:=hk.2.1 i hi
     have e:c.getD i 0=c[i]:=by simp[List.getD_eq_getElem?_getD,hi]
     have:=hc _ (List.getElem_mem hi)
     omega
    have:c.sum=0:=by
     clear hs ha h1 hlt hk hkl hj ht hle hc
     induction c with
     | nil=>rfl
     | cons a c ih=>simp[hall a List.mem_cons_self,ih fun x hx=>hall x (List.mem_cons_of_mem _ hx)]
    omega
   constructor
   ·omega
   ·constructor
    ·intro;omega
    ·intro hz;omega
  ·exact h1
 ·rename_i hlt
  exact h.keeps hc ht ha (by omega)
theorem first_some (l:List Int) (h:0<l.length):∃ k,jyv l k:=by
 have key:∀ i,0<i→i≤l.length→∃ k,jyv (l.take i) k:=by
  intro i
  induction i with
  | zero=>intro h;omega
  | succ i ih =>
   intro _ hi
   rcases Nat.eq_zero_or_pos i with rfl | h0
   ·exact⟨0,first_start l h⟩
   ·obtain⟨k,hk⟩:=ih h0 (by omega)
    exact⟨_,first_next l hk (by omega)⟩
 obtain⟨k,hk⟩:=key l.length h jw
 rw[List.take_length] at hk
 exact⟨k,hk⟩
theorem many_pos {c:List Int} (hc:∀ x∈c,0≤x):0≤many c∧many c≤c.sum:=by
 induction c with
 | nil=>simp[many]
 | cons a c ih =>
  have h1:=ih fun x hx=>hc x (List.mem_cons_of_mem _ hx)
  have h2:=hc a List.mem_cons_self
  simp only[many,List.map_cons,List.sum_cons] at h1 ⊢
  split <;> omega
theorem nShare_le {t s x:Int} (hx:x≤s) (ht:1≤t) (hs:0<s):jzk t s x≤t:=by
 unfold jzk
 split
 ·exact ht
 ·refine Int.ediv_le_of_le_mul hs ?_
  rw[Int.mul_comm t s]
  exact Int.mul_le_mul_of_nonneg_right hx (by omega)
theorem sum_most (M:Nat) {l:List Int} (h:∀ x∈l,x≤(M:Int)):l.sum≤((l.length*M:Nat):Int):=by
 induction l with
 | nil=>simp
 | cons a l ih =>
  have h1:=ih fun x hx=>h x (List.mem_cons_of_mem _ hx)
  have h2:=h a List.mem_cons_self
  simp only[List.sum_cons,List.length_cons,Nat.succ_mul]
  omega
def jyb (acc:List Int) (b:UInt8):List Int:=acc.set b.toNat (acc.getD b.toNat 0+1)
def cntL (l:List UInt8):List Int:=l.foldl jyb (List.replicate 256 0)
theorem cntL_snoc (l:List UInt8) (b:UInt8):cntL (l++[b])=jyb (cntL l) b:=by unfold cntL;rw[List.foldl_append];rfl
theorem cntL_take (l:List UInt8) {k:Nat} (h:k<l.length):cntL (l.take (k+1))=jyb (cntL (l.take k)) l[k]:=by
 rw[List.take_add_one,List.getElem?_eq_getElem h];exact cntL_snoc _ _
theorem cnt_fold (l:List UInt8):∀ (acc:List Int) (M:Nat),acc.length=256→(∀ x∈acc,0≤x∧x≤(M:Int))→(l.foldl jyb acc).length=256∧∀ x∈l.foldl jyb acc,0≤x∧x≤((M+l.length:Nat):Int):=by
 induction l with
 | nil=>intro acc M h1 h2;exact⟨h1,h2⟩
 | cons b l ih =>
  intro acc M h1 h2
  have hb:b.toNat<acc.length:=by rw[h1];exact b.toNat_lt
  have e:acc.getD b.toNat 0=acc[b.toNat]:=by simp[List.getD_eq_getElem?_getD,hb]
  have hg:=h2 _ (List.getElem_mem hb)
  have:=ih (jyb acc b) (M+1) (by simp[jyb,h1]) (fun x hx=>by
   rcases List.mem_or_eq_of_mem_set hx with h | h
   ·have:=h2 x h;omega
   ·rw[h,e];omega)
  simp only[List.foldl_cons,List.length_cons]
  refine⟨this.1,fun x hx=>?_⟩
  have:=this.2 x hx
  omega
theorem jyf (l:List UInt8):(cntL l).length=256:=(cnt_fold l (List.replicate 256 0) 0 List.length_replicate (fun x hx=>by obtain⟨-,rfl⟩:=List.mem_replicate.1 hx;omega)).1
theorem qmp (l:List UInt8):∀ x∈cntL l,0≤x∧x≤(l.length:Int):=fun x hx=>by
 have:=(cnt_fold l (List.replicate 256 0) 0 List.length_replicate (fun x hx=>by obtain⟨-,rfl⟩:=List.mem_replicate.1 hx;omega)).2 x hx
 omega
theorem qxy (acc:List Int) (h:acc.length=256) (b:UInt8) (j:Nat):(jyb acc b).getD j 0=if b.toNat=j then acc.getD j 0+1 else acc.getD j 0:=by
 have hb:b.toNat<acc.length:=by rw[h];exact b.toNat_lt
 unfold jyb
 rw[qzm acc b.toNat j _ hb]
 split
 ·rename_i e;rw[e]
 ·rfl
theorem cnt_grow (l:List UInt8):∀ (acc:List Int),acc.length=256→∀ j,acc.getD j 0≤(l.foldl jyb acc).getD j 0:=by
 induction l with
 | nil=>intro acc _ j;exact Int.le_refl _
 | cons b l ih =>
  intro acc h j
  have h1:=ih (jyb acc b) (by simp[jyb,h]) j
  rw[qxy acc h b j] at h1
  simp only[List.foldl_cons]
  split at h1 <;> omega
theorem cnt_mem (l:List UInt8):∀ (acc:List Int),acc.length=256→(∀ j,0≤acc.getD j 0)→∀ b∈l,0<(l.foldl jyb acc).getD b.toNat 0:=by
 induction l with
 | nil=>intro acc _ _ b hb;simp at hb
 | cons a l ih =>
  intro acc h h0 b hb
  have hl:(jyb acc a).length=256:=by simp[jyb,h]
  simp only[List.foldl_cons]
  rcases List.mem_cons.1 hb with rfl | hb
  ·have h1:=cnt_grow l (jyb acc b) hl b.toNat
   rw[qxy acc h b b.toNat,if_pos rfl] at h1
   have:=h0 b.toNat
   omega
  ·refine ih (jyb acc a) hl (fun j=>?_) b hb
   rw[qxy acc h a j]
   have:=h0 j
   split <;> omega
theorem qws {l:List UInt8} {b:UInt8} (h:b∈l):0<(cntL l).getD b.toNat 0 :=
 cnt_mem l (List.replicate 256 0) List.length_replicate (fun j=>by
  rw[List.getD_eq_getElem?_getD,List.getElem?_replicate]
  split
  ·exact Int.le_refl _
  ·exact Int.le_refl _) b h
def sRow (c:List Int):Nat→List Nat
 | 0=>[]
 | k+1=>sRow c k++List.replicate (c.getD k 0).toNat k
theorem sRow_len {c:List Int} (hc:∀ x∈c,0≤x):∀ k,k≤c.length→((sRow c k).length:Int)=fPre c k:=by
 intro k
 induction k with
 | zero=>intro _;simp[sRow,jyz]
 | succ k ih =>
  intro hk
  have h1:=ih (by omega)
  have h2:=hc _ (List.getElem_mem (show k<c.length by omega))
  have e:c.getD k 0=c[k]:=by simp[List.getD_eq_getElem?_getD,show k<c.length by omega]
  rw[jqm c k (by omega),←h1]
  simp only[sRow,List.length_append,List.length_replicate,e]
  omega
theorem sRow_get {c:List Int} (hc:∀ x∈c,0≤x) {v:Nat} {r:Nat} (h:jgz c (v:Int)=some r):∀ k,r<k→k≤c.length→(sRow c k)[v]?=some r:=by
 obtain⟨-,hr,h2,h1⟩:=fFind_in h
 intro k
 induction k with
 | zero=>intro h;omega
 | succ k ih =>
  intro hk hkc
  have hl:=sRow_len hc k (by omega)
  simp only[sRow]
  by_cases e:r=k
  ·subst e
   have hs:=jqm c r hr
   have e:c.getD r 0=c[r]:=by simp[List.getD_eq_getElem?_getD,hr]
   rw[List.getElem?_append_right (by omega),List.getElem?_replicate,if_pos (by rw[e];omega)]
  ·have:=jmv hc (a:=r+1) (b:=k) (by omega)
   rw[List.getElem?_append_left (by omega)]
   exact ih (by omega) (by omega)
theorem fFind_all {c:List Int} (hc:∀ x∈c,0≤x) {v:Int} (h0:0≤v) (h1:v<c.sum):∃ r,jgz c v=some r∧r<c.length∧fPre c r≤v∧v<fPre c (r+1):=by
 obtain⟨h2,h3⟩:=qbq hc h0 h1 (k:=c.length) Nat.lt_two_pow_self
 have:=fFind_in h2
 exact⟨_,h2,h3,this.2.2.2,this.2.2.1⟩
end
end Go.Proofs.YtflcmmeoppdhdaaGreatDoor
