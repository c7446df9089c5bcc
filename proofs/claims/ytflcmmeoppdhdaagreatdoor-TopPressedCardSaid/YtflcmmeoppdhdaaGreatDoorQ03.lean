/- Plain mathematics of layer 20: the tree of counts: what the depths of its letters come to. Written ahead of the code. · Plain mathematics of layer 20: the tree as a row of places above; lens of .. -/
import Derived.Test.YtflcmmeoppdhdaaGreatDoorQ02
set_option maxHeartbeats 1000000
set_option maxRecDepth 100000
namespace Go.Proofs.YtflcmmeoppdhdaaGreatDoor
section
structure For where
 N:Nat
 wt:Nat→Nat
 here:Nat→Bool
 d:Nat→Nat
 root:Nat→Nat
def For.lt (f:For) (a b:Nat):Prop:=f.wt a<f.wt b∨(f.wt a=f.wt b∧a<b)
def For.least (f:For) (p:Nat→Prop) (a:Nat):Prop:=p a∧∀ m,p m→m≠a→f.lt a m
theorem For.lt_not {f:For} {a b:Nat} (h:f.lt a b):¬ f.lt b a:=by unfold For.lt at *;omega
theorem For.lt_le {f:For} {a b:Nat} (h:f.lt a b):f.wt a≤f.wt b:=by unfold For.lt at h;omega
theorem For.least_one {f:For} {p:Nat→Prop} {a b:Nat} (h:f.least p a) (h':f.least p b):a=b:=by
 refine Classical.byContradiction fun e=>?_
 exact For.lt_not (h.2 b h'.1 (fun x=>e x.symm)) (h'.2 a h.1 e)
def For.both (f:For) (a b:Nat):For where
 N:=f.N+1
 wt:=fun m=>if m=f.N then f.wt a+f.wt b else f.wt m
 here:=fun m=>if m=f.N then true else if m=a∨m=b then false else f.here m
 d:=fun i=>if f.root i=a∨f.root i=b then f.d i+1 else f.d i
 root:=fun i=>if f.root i=a∨f.root i=b then f.N else f.root i
inductive Huff:For→For→Prop
 | last (f:For) (h:∀ m m',f.here m=true→f.here m'=true→m=m'):Huff f f
 | join (f g:For) (a b:Nat) (ha:f.least (fun m=>f.here m=true) a) (hb:f.least (fun m=>f.here m=true∧m≠a) b) (hr:Huff (f.both a b) g):Huff f g
theorem Huff.one {f g g':For} (h:Huff f g) (h':Huff f g'):g=g':=by
 induction h with
 | last f hl =>
  cases h' with
  | last=>rfl
  | join _ _ a b ha hb hr=>exact absurd (hl b a hb.1.1 ha.1) hb.1.2
 | join f g a b ha hb hr ih =>
  cases h' with
  | last _ hl=>exact absurd (hl b a hb.1.1 ha.1) hb.1.2
  | join _ _ a2 b2 ha2 hb2 hr2 =>
   obtain rfl:=For.least_one ha ha2
   obtain rfl:=For.least_one hb hb2
   exact ih hr2
theorem Huff.deeper {f g:For} (h:Huff f g) (j:Nat):f.d j≤g.d j:=by
 induction h with
 | last=>exact Nat.le_refl _
 | join f g a b ha hb hr ih =>
  refine Nat.le_trans ?_ ih
  show f.d j≤if f.root j=a∨f.root j=b then f.d j+1 else f.d j
  split <;> omega
def For.start (L:Nat) (w:Nat→Nat):For:=⟨L,w,fun m=>decide (m<L),fun _=>0,fun i=>i⟩
structure For.Ok (f:For) (L:Nat):Prop where
 less:∀ m,f.here m=true→m<f.N
 root:∀ j,j<L→f.here (f.root j)=true
 most:L≤f.N
theorem qzt (L:Nat) (w:Nat→Nat):(For.start L w).Ok L:=⟨fun m h=>by simpa [For.start] using h,fun j h=>by simpa [For.start] using h,Nat.le_refl _⟩
section
variable {f:For} {L a b:Nat}
theorem For.both_here (m:Nat):(f.both a b).here m=true↔m=f.N∨(m≠a∧m≠b∧f.here m=true):=by
 show (if m=f.N then true else if m=a∨m=b then false else f.here m)=true↔_
 by_cases h1:m=f.N
 ·rw[if_pos h1];exact⟨fun _=>.inl h1,fun _=>rfl⟩
 ·rw[if_neg h1]
  by_cases h2:m=a∨m=b
  ·rw[if_pos h2]
   refine Iff.intro (fun h=>by cases h) (fun h=>?_)
   rcases h with h | h
   ·exact absurd h h1
   ·rcases h2 with e | e
    ·exact absurd e h.1
    ·exact absurd e h.2.1
  ·rw[if_neg h2]
   refine⟨fun h=>.inr ⟨fun e=>h2 (.inl e),fun e=>h2 (.inr e),h⟩,fun h=>?_⟩
   rcases h with h | h
   ·exact absurd h h1
   ·exact h.2.2
theorem For.both_wt (m:Nat) (h:m<f.N):(f.both a b).wt m=f.wt m:=if_neg (by omega)
theorem For.both_wtN:(f.both a b).wt f.N=f.wt a+f.wt b:=if_pos rfl
theorem For.both_ok (h:f.Ok L):(f.both a b).Ok L:=by
 refine⟨fun m hm=>?_,fun j hj=>?_,by have:=h.most;show L≤f.N+1;omega⟩
 ·show m<f.N+1
  rcases (For.both_here m).1 hm with e | e
  ·omega
  ·have:=h.less m e.2.2;omega
 ·rw[For.both_here]
  show (if f.root j=a∨f.root j=b then f.N else f.root j)=f.N∨_
  by_cases e:f.root j=a∨f.root j=b
  ·exact .inl (if_pos e)
  ·refine .inr ?_
   rw[show (f.both a b).root j=f.root j from if_neg e]
   exact⟨fun x=>e (.inl x),fun x=>e (.inr x),h.root j hj⟩
def under (rt:Nat→Nat) (v:Nat→Nat) (r:Nat):Nat→Nat
 | 0=>0
 | k+1=>under rt v r k+if rt k=r then v k else 0
def jyn (v:Nat→Nat):Nat→Nat
 | 0=>0
 | k+1=>jyn v k+v k
theorem under_all {rt v:Nat→Nat} {r:Nat}:∀ k,(∀ j,j<k→rt j=r)→under rt v r k=jyn v k:=by
 intro k
 induction k with
 | zero=>intro _;rfl
 | succ k ih =>
  intro h
  simp only[under,jyn]
  rw[ih fun j hj=>h j (by omega),if_pos (h k (by omega))]
theorem under_new {rt rt' v v':Nat→Nat} {a b N c:Nat} (hrt:∀ i,rt' i=if rt i=a∨rt i=b then N else rt i) (hab:a≠b):∀ k,(∀ j,j<k→rt j≠N)→(∀ j,j<k→(rt j=a∨rt j=b)→c*v' j=v j) →
  c*under rt' v' N k=under rt v a k+under rt v b k:=by
 intro k
 induction k with
 | zero=>intro _ _;simp[under]
 | succ k ih =>
  intro h1 h2
  have hi:=ih (fun j hj=>h1 j (by omega)) (fun j hj=>h2 j (by omega))
  simp only[under,Nat.mul_add]
  rw[hi]
  have hN:=h1 k (by omega)
  by_cases ea:rt k=a
  ·have:=h2 k (by omega) (Or.inl ea)
   have eb:¬ rt k=b:=fun e=>hab (ea.symm.trans e)
   have e':rt' k=N:=by rw[hrt,if_pos (Or.inl ea)]
   rw[if_pos e',if_pos ea,if_neg eb]
   omega
  ·by_cases eb:rt k=b
   ·have:=h2 k (by omega) (Or.inr eb)
    have e':rt' k=N:=by rw[hrt,if_pos (Or.inr eb)]
    rw[if_pos e',if_neg ea,if_pos eb]
    omega
   ·have e':¬ rt' k=N:=by
     rw[hrt,if_neg (fun h=>h.elim ea eb)];exact hN
    rw[if_neg e',if_neg ea,if_neg eb]
    omega
theorem under_old {rt rt' v v':Nat→Nat} {a b N r:Nat} (hrt:∀ i,rt' i=if rt i=a∨rt i=b then N else rt i) (ha:r≠a) (hb:r≠b) (hN:r≠N):∀ k,(∀ j,j<k→¬ (rt j=a∨rt j=b)→v' j=v j) →
  under rt' v' r k=under rt v r k:=by
 intro k
 induction k with
 | zero=>intro _;rfl
 | succ k ih =>
  intro h
  simp only[under]
  rw[ih fun j hj=>h j (by omega)]
  by_cases e:rt k=a∨rt k=b
  ·have e':rt' k=N:=by rw[hrt,if_pos e]
   have h1:¬ rt' k=r:=fun x=>hN (x.symm.trans e')
   have h2:¬ rt k=r:=fun x=>e.elim (fun e=>ha (x.symm.trans e)) (fun e=>hb (x.symm.trans e))
   rw[if_neg h1,if_neg h2]
  ·have e':rt' k=rt k:=by rw[hrt,if_neg e]
   rw[e',h k (by omega) e]
def KrOk (f:For) (L D:Nat):Prop:=∀ r,f.here r=true→under f.root (fun j=>2^(D - f.d j)) r L=2^D
theorem under_self (v:Nat→Nat) (r:Nat):∀ k,under (fun i=>i) v r k=if r<k then v r else 0:=by
 intro k
 induction k with
 | zero=>rfl
 | succ k ih =>
  simp only[under]
  rw[ih]
  by_cases e:k=r
  ·subst e;rw[if_neg (by omega),if_pos rfl,if_pos (by omega),Nat.zero_add]
  ·rw[if_neg e,Nat.add_zero]
   by_cases h:r<k
   ·rw[if_pos h,if_pos (by omega)]
   ·rw[if_neg h,if_neg (by omega)]
theorem start_kr (L D:Nat) (w:Nat→Nat):KrOk (For.start L w) L D:=fun r h=>by
 have hr:r<L:=by simpa [For.start] using h
 show under (fun i=>i) (fun _=>2^(D - 0)) r L=2^D
 rw[under_self,if_pos hr,Nat.sub_zero]
theorem both_kr {D:Nat} (ho:f.Ok L) (h:KrOk f L D) (ha:f.here a=true) (hb:f.here b=true) (hab:a≠b) (hd:∀ j,j<L→(f.both a b).d j≤D):KrOk (f.both a b) L D:=fun r hr=>by
 have hrt:∀ j,j<L→f.root j≠f.N:=fun j hj=>by have:=ho.less _ (ho.root j hj);omega
 have hdd:∀ j,(f.both a b).d j=if f.root j=a∨f.root j=b then f.d j+1 else f.d j:=fun j=>rfl
 rcases (For.both_here r).1 hr with rfl | ⟨h1,h2,h3⟩
 ·have:=under_new (rt:=f.root) (rt':=(f.both a b).root) (v:=fun j=>2^(D - f.d j)) (v':=fun j=>2^(D - (f.both a b).d j)) (N:=f.N) (c:=2) (fun _=>rfl) hab L hrt (fun j hj e=>by
   have h1:=hd j hj
   rw[hdd j,if_pos e] at h1
   show 2*2^(D - (f.both a b).d j)=2^(D - f.d j)
   rw[hdd j,if_pos e,←Nat.pow_succ']
   congr 1
   omega)
  rw[h a ha,h b hb] at this
  omega
 ·refine (under_old (rt:=f.root) (rt':=(f.both a b).root) (v:=fun j=>2^(D - f.d j)) (N:=f.N) (fun _=>rfl) h1 h2 (fun e=>by have:=ho.less r h3;omega) L (fun j _ e=>?_)).trans (h r h3)
  show 2^(D - (f.both a b).d j)=2^(D - f.d j)
  rw[hdd j,if_neg e]
end
theorem Huff.kraft {f g:For} {L D:Nat} (h:Huff f g):f.Ok L→KrOk f L D→0<L→(∀ j,j<L→g.d j≤D)→jyn (fun j=>2^(D - g.d j)) L=2^D:=by
 induction h with
 | last f hl =>
  intro ho hk h0 _
  have h1:=hk _ (ho.root 0 h0)
  rwa [under_all L fun j hj=>hl _ _ (ho.root j hj) (ho.root 0 h0)] at h1
 | join f g a b ha hb hr ih =>
  intro ho hk h0 hd
  exact ih (For.both_ok ho) (both_kr ho hk ha.1 hb.1.1 (fun e=>hb.1.2 e.symm) fun j hj=>Nat.le_trans (hr.deeper j) (hd j hj)) h0 hd
theorem huff_kraft {L D:Nat} {w:Nat→Nat} {g:For} (h:Huff (For.start L w) g) (h0:0<L) (hd:∀ j,j<L→g.d j≤D):jyn (fun j=>2^(D - g.d j)) L=2^D :=
 h.kraft (qzt L w) (start_kr L D w) h0 hd
def fb:Nat→Nat
 | 0=>0
 | 1=>1
 | n+2=>fb n+fb (n+1)
theorem fb_mono:∀ {m n:Nat},m≤n→fb m≤fb n:=by
 have step:∀ n,fb n≤fb (n+1):=by
  intro n
  cases n with
  | zero=>decide
  | succ n=>show fb (n+1)≤fb n+fb (n+1);omega
 intro m n h
 obtain⟨e,rfl⟩:∃ e,n=m+e:=⟨n - m,by omega⟩
 clear h
 induction e with
 | zero=>exact Nat.le_refl _
 | succ e ih=>exact Nat.le_trans ih (step _)
structure FibOk (f:For) (L:Nat) (w:Nat→Nat):Prop where
 own:∀ j,j<L→fb (f.d j+1)≤f.wt (f.root j)
 other:∀ j,j<L→∀ s,f.here s=true→s≠f.root j→fb (f.d j)≤f.wt s
 sums:∀ r,f.here r=true→under f.root w r L=f.wt r
theorem start_fib {L:Nat} {w:Nat→Nat} (hw:∀ j,j<L→1≤w j):FibOk (For.start L w) L w :=
 ⟨fun j hj=>hw j hj,fun _ _ _ _ _=>Nat.zero_le _,fun r h=>by
  have hr:r<L:=by simpa [For.start] using h
  show under (fun i=>i) w r L=w r
  rw[under_self,if_pos hr]⟩
theorem both_fib {f:For} {L a b:Nat} {w:Nat→Nat} (ho:f.Ok L) (h:FibOk f L w) (ha:f.least (fun m=>f.here m=true) a) (hb:f.least (fun m=>f.here m=true∧m≠a) b):FibOk (f.both a b) L w:=by
 have hdd:∀ j,(f.both a b).d j=if f.root j=a∨f.root j=b then f.d j+1 else f.d j:=fun j=>rfl
 have hrr:∀ j,(f.both a b).root j=if f.root j=a∨f.root j=b then f.N else f.root j:=fun j=>rfl
 have hN:∀ j,j<L→f.root j<f.N:=fun j hj=>ho.less _ (ho.root j hj)
 have hba:b≠a:=hb.1.2
 have hab:f.wt a≤f.wt b:=For.lt_le (ha.2 b hb.1.1 hba)
 have hrest:∀ m,f.here m=true→m≠a→m≠b→f.wt b≤f.wt m:=fun m hm h1 h2=>For.lt_le (hb.2 m ⟨hm,h1⟩ h2)
 refine⟨fun j hj=>?_,fun j hj s hs hne=>?_,fun r hr=>?_⟩
 ·rw[hdd j,hrr j]
  by_cases e:f.root j=a∨f.root j=b
  ·rw[if_pos e,if_pos e,For.both_wtN]
   show fb (f.d j)+fb (f.d j+1)≤_
   have h1:=h.own j hj
   rcases e with e | e
   ·have h2:=h.other j hj b hb.1.1 (by rw[e];exact hba)
    rw[e] at h1;omega
   ·have h2:=h.other j hj a ha.1 (by rw[e];exact fun x=>hba x.symm)
    rw[e] at h1;omega
  ·rw[if_neg e,if_neg e,For.both_wt _ (hN j hj)]
   exact h.own j hj
 ·rw[hrr j] at hne
  rw[hdd j]
  by_cases e:f.root j=a∨f.root j=b
  ·rw[if_pos e] at hne ⊢
   rcases (For.both_here s).1 hs with e2 | ⟨e1,e2,e3⟩
   ·exact absurd e2 hne
   ·rw[For.both_wt s (ho.less s e3)]
    have h1:=h.own j hj
    have h2:=hrest s e3 e1 e2
    rcases e with e | e
    ·rw[e] at h1;omega
    ·rw[e] at h1;omega
  ·rw[if_neg e] at hne ⊢
   rcases (For.both_here s).1 hs with e2 | ⟨e1,e2,e3⟩
   ·rw[e2,For.both_wtN]
    have:=h.other j hj a ha.1 (fun x=>e (.inl x.symm))
    omega
   ·rw[For.both_wt s (ho.less s e3)]
    exact h.other j hj s e3 hne
 ·rcases (For.both_here r).1 hr with rfl | ⟨h1,h2,h3⟩
  ·have:=under_new (rt:=f.root) (rt':=(f.both a b).root) (v:=w) (v':=w) (N:=f.N) (c:=1) (fun _=>rfl) (fun e=>hba e.symm) L (fun j hj=>by have:=hN j hj;omega) (fun j _ _=>Nat.one_mul _)
   rw[h.sums a ha.1,h.sums b hb.1.1,Nat.one_mul] at this
   rw[For.both_wtN]
   exact this
  ·rw[For.both_wt r (ho.less r h3)]
   exact (under_old (rt:=f.root) (rt':=(f.both a b).root) (v:=w) (N:=f.N) (fun _=>rfl) h1 h2 (fun e=>by have:=ho.less r h3;omega) L (fun _ _ _=>rfl)).trans (h.sums r h3)
theorem Huff.fib {f g:For} {L:Nat} {w:Nat→Nat} (h:Huff f g):f.Ok L→FibOk f L w→∀ j,j<L→fb (g.d j+1)≤jyn w L:=by
 induction h with
 | last f hl =>
  intro ho hf j hj
  have h1:=hf.own j hj
  rw[←hf.sums _ (ho.root j hj),under_all L fun i hi=>hl _ _ (ho.root i hi) (ho.root j hj)] at h1
  exact h1
 | join f g a b ha hb hr ih=>intro ho hf;exact ih (For.both_ok ho) (both_fib ho hf ha hb)
theorem huff_fib {L:Nat} {w:Nat→Nat} {g:For} (h:Huff (For.start L w) g) (hw:∀ j,j<L→1≤w j) {j:Nat} (hj:j<L):fb (g.d j+1)≤jyn w L :=
 h.fib (qzt L w) (start_fib hw) j hj
theorem huff_small {L:Nat} {w:Nat→Nat} {g:For} (h:Huff (For.start L w) g) (hw:∀ j,j<L→1≤w j) (ht:jyn w L≤1500) {j:Nat} (hj:j<L):g.d j≤15:=by
 refine Nat.le_of_not_lt fun hc=>?_
 have h1:=huff_fib h hw hj
 have h2:=fb_mono (m:=17) (n:=g.d j+1) (by omega)
 have h3:fb 17=1597:=by decide
 omega
def jvt (f:For) (p:Pr):Prop:=f.here p.2=true∧p.1=f.wt p.2
theorem for_least {f:For} {p:Pr} {S:Pr→Prop} {q:Nat→Prop} (hS:∀ x,S x→jvt f x) (hq:∀ m,q m→S (f.wt m,m)) (hq2:∀ x,S x→q x.2) (h1:S p) (h2:∀ x,S x→x≠p→pl p x=true):f.least q p.2:=by
 refine⟨hq2 p h1,fun m hm hne=>?_⟩
 have h3:=h2 _ (hq m hm) (fun e=>hne (by rw[←e]))
 have h4:=(hS p h1).2
 rw[pl_yes] at h3
 unfold For.lt
 rw[←h4]
 exact h3
theorem for_both {f:For} {L:Nat} {pa pb:Pr} (ho:f.Ok L) (ha:jvt f pa) (hb:jvt f pb) :
  ∀ p,(((jvt f p∧p≠pa)∧p≠pb)∨p=(pa.1+pb.1,f.N))↔jvt (f.both pa.2 pb.2) p:=by
 intro p
 have key:∀ {x y:Pr},jvt f x→jvt f y→(x≠y↔x.2≠y.2):=fun {x y} hx hy=>by
  refine⟨fun h e=>h (Prod.ext ?_ e),fun h e=>h (by rw[e])⟩
  rw[hx.2,hy.2,e]
 unfold jvt
 rw[For.both_here]
 constructor
 ·rintro (⟨⟨h1,h2⟩,h3⟩ | rfl)
  ·have g2:=(key h1 ha).1 h2
   have g3:=(key h1 hb).1 h3
   exact⟨.inr ⟨g2,g3,h1.1⟩,by rw[For.both_wt _ (ho.less _ h1.1)];exact h1.2⟩
  ·refine⟨.inl rfl,?_⟩
   show pa.1+pb.1=(f.both pa.2 pb.2).wt f.N
   rw[For.both_wtN,ha.2,hb.2]
 ·rintro⟨h1 | ⟨h1,h2,h3⟩,h4⟩
  ·right
   refine Prod.ext ?_ h1
   show p.1=pa.1+pb.1
   rw[h4,h1,For.both_wtN,ha.2,hb.2]
  ·have hp:jvt f p:=⟨h3,by rw[h4,For.both_wt _ (ho.less _ h3)]⟩
   exact .inl ⟨⟨hp,(key hp ha).2 h1⟩,(key hp hb).2 h2⟩
structure TreeOk (f:For) (ab:List Nat):Prop where
 len:ab.length=f.N
 top:∀ i,i<f.N→f.here i=true→f.root i=i∧f.d i=0
 low:∀ i,i<f.N→f.here i=false→i<ab.getD i 0∧ab.getD i 0<f.N∧f.root i=f.root (ab.getD i 0)∧f.d i=f.d (ab.getD i 0)+1
 new:∀ i,f.N≤i→f.root i=i∧f.d i=0
 last:0<f.N→f.here (f.N - 1)=true
theorem tree_start (L:Nat) (w:Nat→Nat):TreeOk (For.start L w) (List.replicate L 0) :=
 ⟨by simp[For.start],fun i _ _=>⟨rfl,rfl⟩,fun i h1 h2=>by
  have h3:decide (i<L)=false:=h2
  have h4:i<L:=h1
  simp at h3;omega,fun i _=>⟨rfl,rfl⟩,fun h=>by
  show decide (L - 1<L)=true
  have h4:0<L:=h
  simp;omega⟩
theorem tree_both {f:For} {ab:List Nat} {a b:Nat} (h:TreeOk f ab) (ha:f.here a=true) (hb:f.here b=true) (haN:a<f.N) (hbN:b<f.N):TreeOk (f.both a b) ((ab.set a f.N).set b f.N++[0]):=by
 have hl:=h.len
 have hab:∀ i,i<f.N→((ab.set a f.N).set b f.N++[0]).getD i 0=if i=a∨i=b then f.N else ab.getD i 0:=fun i hi=>by
  rw[List.getD_eq_getElem?_getD,List.getD_eq_getElem?_getD,List.getElem?_append_left (by simp;omega),List.getElem?_set,List.getElem?_set]
  by_cases e1:i=b
  ·rw[if_pos e1.symm,if_pos (show b<(ab.set a f.N).length by rw[List.length_set];omega),if_pos (show i=a∨i=b from .inr e1)];rfl
  ·rw[if_neg (fun x=>e1 x.symm)]
   by_cases e2:i=a
   ·rw[if_pos e2.symm,if_pos (show a<ab.length by omega),if_pos (show i=a∨i=b from .inl e2)];rfl
   ·rw[if_neg (fun x=>e2 x.symm),if_neg (fun x=>x.elim e2 e1)]
 have hdd:∀ j,(f.both a b).d j=if f.root j=a∨f.root j=b then f.d j+1 else f.d j:=fun j=>rfl
 have hrr:∀ j,(f.both a b).root j=if f.root j=a∨f.root j=b then f.N else f.root j:=fun j=>rfl
 obtain⟨gN1,gN2⟩:=h.new f.N jw
 have hrN:(f.both a b).root f.N=f.N:=by rw[hrr,gN1,if_neg (by omega)]
 have hdN:(f.both a b).d f.N=0:=by rw[hdd,gN1,if_neg (by omega),gN2]
 refine⟨?_,fun i hi hh=>?_,fun i hi hh=>?_,fun i hi=>?_,fun _=>?_⟩
 ·rw[List.length_append,List.length_set,List.length_set,hl];rfl
 ·rcases (For.both_here i).1 hh with rfl | ⟨h1,h2,h3⟩
  ·exact⟨hrN,hdN⟩
  ·have h6:i<f.N+1:=hi
   have hiN:i<f.N∨i=f.N:=by omega
   rcases hiN with hiN | rfl
   ·obtain⟨g1,g2⟩:=h.top i hiN h3
    rw[hdd,hrr,g1,if_neg (by omega),if_neg (by omega)]
    exact⟨rfl,g2⟩
   ·exact⟨hrN,hdN⟩
 ·have h6:i<f.N+1:=hi
  have hne:i≠f.N:=fun e=>by
   subst e
   rw[(For.both_here f.N).2 (.inl rfl)] at hh;cases hh
  have hiN:i<f.N:=by omega
  rw[hab i hiN]
  show i<_∧_<f.N+1∧_
  by_cases e:i=a∨i=b
  ·have hhi:f.here i=true:=by rcases e with rfl | rfl <;> assumption
   obtain⟨g1,g2⟩:=h.top i hiN hhi
   rw[if_pos e,hrN,hdN,hrr,hdd,g1,if_pos e,if_pos e,g2]
   exact⟨hiN,Nat.lt_succ_self _,rfl,rfl⟩
  ·have hhi:f.here i=false:=by
    cases hx:f.here i with
    | false=>rfl
    | true =>
     rw[(For.both_here i).2 (.inr ⟨fun x=>e (.inl x),fun x=>e (.inr x),hx⟩)] at hh;cases hh
   obtain⟨g1,g2,g3,g4⟩:=h.low i hiN hhi
   rw[if_neg e,hrr,hrr,hdd,hdd,g3,g4]
   refine⟨g1,by omega,rfl,?_⟩
   split <;> rfl
 ·have h6:f.N+1≤i:=hi
  obtain⟨g1,g2⟩:=h.new i (by omega)
  rw[hrr,hdd,g1,if_neg (by omega),if_neg (by omega)]
  exact⟨rfl,g2⟩
 ·exact (For.both_here _).2 (.inl (by show f.N+1 - 1=f.N;omega))
theorem tree_end {f:For} {ab:List Nat} (h:TreeOk f ab) (hl:∀ m m',f.here m=true→f.here m'=true→m=m') (h0:0<f.N) :
  f.d (f.N - 1)=0∧∀ i,i<f.N - 1→i<ab.getD i 0∧ab.getD i 0<f.N∧f.d i=f.d (ab.getD i 0)+1:=by
 refine⟨(h.top _ (by omega) (h.last h0)).2,fun i hi=>?_⟩
 obtain⟨g1,g2,-,g4⟩:=h.low i (by omega) (by
  cases hx:f.here i with
  | false=>rfl
  | true=>have:=hl _ _ hx (h.last h0);omega)
 exact⟨g1,g2,g4⟩
theorem huff_deep {L:Nat} {w:Nat→Nat} {g:For} (h:Huff (For.start L w) g) (h2:2≤L):∀ j,j<L→1≤g.d j:=by
 have key:∀ {f g:For},Huff f g→f.Ok L→(∀ j,j<L→f.root j<L→f.root j=j)→(∀ j,j<L→L≤f.root j→1≤f.d j)→∀ j,j<L→1≤g.d j:=by
  intro f g h
  induction h with
  | last f hl =>
   intro ho h1 h3 j hj
   refine h3 j hj (Nat.le_of_not_lt fun hc=>?_)
   have e1:=h1 j hj hc
   obtain⟨k,hk,hne⟩:∃ k,k<L∧k≠j:=by
    by_cases e:j=0
    ·exact⟨1,by omega,by omega⟩
    ·exact⟨0,by omega,by omega⟩
   have e2:=hl _ _ (ho.root j hj) (ho.root k hk)
   rw[e1] at e2
   have e3:=h1 k hk (by omega)
   omega
  | join f g a b ha hb hr ih =>
   intro ho h1 h3 j hj
   refine ih (For.both_ok ho) (fun j hj=>?_) (fun j hj=>?_) j hj
   ·show (if f.root j=a∨f.root j=b then f.N else f.root j)<L→(if f.root j=a∨f.root j=b then f.N else f.root j)=j
    have:=ho.most
    split
    ·intro h;omega
    ·exact h1 j hj
   ·show L≤(if f.root j=a∨f.root j=b then f.N else f.root j)→1≤(if f.root j=a∨f.root j=b then f.d j+1 else f.d j)
    split
    ·intro _;omega
    ·exact h3 j hj
 exact key h (qzt L w) (fun j _ _=>rfl) (fun j h1 h3=>by have h5:L≤j:=h3;omega)
def posL (c:List Int):List Int:=c.filter fun x=>decide (0<x)
def wtL (c:List Int) (j:Nat):Nat:=((posL c).getD j 0).toNat
def jmt (d:Nat→Nat):List Int→Nat→List Int
 | [],_=>[]
 | x::c,j=>if 0<x then (max (d j) 1:Nat)::jmt d c (j+1) else 0::jmt d c j
theorem jwc (d:Nat→Nat):∀ (c:List Int) (j:Nat),(jmt d c j).length=c.length
 | [],_=>rfl
 | x::c,j=>by
  unfold jmt
  split <;> simp[jwc d c]
def jqn (c:List Int) (k:Nat):Nat:=(posL (c.take k)).length
theorem jvf (c:List Int) (k:Nat) (h:k<c.length):jqn c (k+1)=jqn c k+if 0<c[k] then 1 else 0:=by
 unfold jqn posL
 rw[List.take_add_one,List.getElem?_eq_getElem h,List.filter_append,List.length_append]
 congr 1
 by_cases e:0<c[k] <;> simp[e]
theorem qql (c:List Int):jqn c c.length=(posL c).length:=by unfold jqn;rw[List.take_length]
theorem rankL_mono (c:List Int):∀ {k m:Nat},k≤m→m≤c.length→jqn c k≤jqn c m:=by
 intro k m h hm
 obtain⟨e,rfl⟩:∃ e,m=k+e:=⟨m - k,by omega⟩
 clear h
 induction e with
 | zero=>exact Nat.le_refl _
 | succ e ih =>
  have h1:=ih (by omega)
  have h2:=jvf c (k+e) (by omega)
  rw[show k+(e+1)=k+e+1 by omega,h2]
  omega
theorem rankL_lt (c:List Int) {k:Nat} (h:k<c.length) (h0:0<c[k]):jqn c k<(posL c).length:=by
 have h1:=jvf c k h
 rw[if_pos h0] at h1
 have h2:=rankL_mono c (k:=k+1) (m:=c.length) (by omega) jw
 rw[qql] at h2
 omega
theorem rankL_get (c:List Int) {k:Nat} (h:k<c.length) (h0:0<c[k]):(posL c)[jqn c k]?=some c[k]:=by
 have e:c=c.take k++c[k]::c.drop (k+1):=by rw[←List.drop_eq_getElem_cons h,List.take_append_drop]
 have e2:posL c=posL (c.take k)++c[k]::posL (c.drop (k+1)):=by
  conv=>lhs;rw[e]
  unfold posL
  rw[List.filter_append,List.filter_cons_of_pos (by simpa using h0)]
 rw[e2,List.getElem?_append_right (by unfold jqn;omega)]
 simp[jqn]
theorem wtL_rank (c:List Int) {k:Nat} (h:k<c.length) (h0:0<c[k]):wtL c (jqn c k)=(c[k]).toNat:=by
 unfold wtL
 rw[List.getD_eq_getElem?_getD,rankL_get c h h0];rfl
theorem qqw (d:Nat→Nat):∀ (c:List Int) (j k:Nat) (h:k<c.length),(jmt d c j)[k]?=some (if 0<c[k] then ((max (d (j+jqn c k)) 1:Nat):Int) else 0)
 | [],_,k,h=>by simp at h
 | x::c,j,0,_=>by
  unfold jmt
  have e:jqn (x::c) 0=0:=by simp[jqn,posL]
  rw[e]
  by_cases h0:0<x
  ·rw[if_pos h0];simp[h0]
  ·rw[if_neg h0];simp[h0]
 | x::c,j,k+1,h=>by
  have hk:k<c.length:=by simpa using h
  unfold jmt
  by_cases h0:0<x
  ·rw[if_pos h0,jx,qqw d c (j+1) k hk]
   have e:jqn (x::c) (k+1)=jqn c k+1:=by simp[jqn,posL,h0]
   rw[e]
   simp only[List.getElem_cons_succ,Nat.add_assoc,Nat.add_comm 1]
  ·rw[if_neg h0,jx,qqw d c j k hk]
   have e:jqn (x::c) (k+1)=jqn c k:=by simp[jqn,posL,h0]
   rw[e]
   simp only[List.getElem_cons_succ]
def qgp (c out:List Int):Prop:=∃ g,Huff (For.start (posL c).length (wtL c)) g∧out=jmt g.d c 0
theorem qgp.one {c o o':List Int} (h:qgp c o) (h':qgp c o'):o=o':=by
 obtain⟨g,h1,rfl⟩:=h
 obtain⟨g',h2,rfl⟩:=h'
 rw[h1.one h2]
theorem qgp.len {c o:List Int} (h:qgp c o):o.length=c.length:=by
 obtain⟨g,-,rfl⟩:=h
 exact jwc _ _ _
def jvg (x:Int):Int:=(x+1)/2
def Short (o:List Int):Prop:=∀ x∈o,x≤15
inductive jzp:List Int→List Int→Prop
 | done (c o:List Int) (h:qgp c o) (hs:Short o):jzp c o
 | half (c o r:List Int) (h:qgp c o) (hs:¬ Short o) (hr:jzp (c.map jvg) r):jzp c r
theorem jzp.one {c o o':List Int} (h:jzp c o) (h':jzp c o'):o=o':=by
 induction h with
 | done c o h hs =>
  cases h' with
  | done _ _ h2 hs2=>exact h.one h2
  | half _ o2 _ h2 hs2 _=>exact absurd (h.one h2 ▸ hs) hs2
 | half c o r h hs hr ih =>
  cases h' with
  | done _ _ h2 hs2=>exact absurd (h.one h2 ▸ hs2) hs
  | half _ o2 _ h2 hs2 hr2=>exact ih hr2
theorem allOf_list (l:List Int) (hl:∀ x∈l,0≤x):∀ k,k≤l.length→(jyn (fun j=>(l.getD j 0).toNat) k:Int)=(l.take k).sum:=by
 intro k
 induction k with
 | zero=>intro _;rfl
 | succ k ih =>
  intro h
  have h1:k<l.length:=by omega
  rw[List.take_add_one,List.getElem?_eq_getElem h1,List.sum_append]
  simp only[jyn]
  rw[Int.natCast_add,ih (by omega)]
  congr 1
  have h2:=hl _ (List.getElem_mem h1)
  simp[List.getD_eq_getElem?_getD,h1]
  omega
theorem posL_sum (c:List Int) (h:∀ x∈c,0≤x):(posL c).sum=c.sum:=by
 induction c with
 | nil=>rfl
 | cons x c ih =>
  have h1:=ih fun y hy=>h y (List.mem_cons_of_mem _ hy)
  have h2:=h x List.mem_cons_self
  unfold posL at *
  by_cases h0:0<x
  ·rw[List.filter_cons_of_pos (by simpa using h0),List.sum_cons,List.sum_cons,h1]
  ·rw[List.filter_cons_of_neg (by simpa using h0),List.sum_cons,h1];omega
theorem posL_pos (c:List Int):∀ x∈posL c,0<x:=fun x hx=>by
 have:=(List.mem_filter.1 hx).2
 simpa using this
theorem half_le {x:Int} (h:0≤x):0≤jvg x∧jvg x≤x:=by unfold jvg;omega
theorem half_sum_le (c:List Int) (h:∀ x∈c,0≤x):(c.map jvg).sum≤c.sum:=by
 induction c with
 | nil=>exact Int.le_refl _
 | cons x c ih =>
  have h1:=ih fun y hy=>h y (List.mem_cons_of_mem _ hy)
  have h2:=half_le (h x List.mem_cons_self)
  rw[List.map_cons,List.sum_cons,List.sum_cons];omega
theorem half_sum (c:List Int) (h:∀ x∈c,0≤x) (h2:∃ x∈c,2≤x):(c.map jvg).sum<c.sum:=by
 induction c with
 | nil=>obtain⟨x,hx,_⟩:=h2;cases hx
 | cons x c ih =>
  have g:=fun y hy=>h y (List.mem_cons_of_mem _ hy)
  have g2:=half_le (h x List.mem_cons_self)
  rw[List.map_cons,List.sum_cons,List.sum_cons]
  obtain⟨y,hy,hy2⟩:=h2
  rcases List.mem_cons.1 hy with rfl | hy
  ·have:=half_sum_le c g
   have:jvg y<y:=by unfold jvg;omega
   omega
  ·have:=ih g ⟨y,hy,hy2⟩
   omega
theorem sum_small (c:List Int) (h:∀ x∈c,0≤x) (h2:∀ x∈c,x<2):c.sum≤c.length:=by
 induction c with
 | nil=>exact Int.le_refl _
 | cons x c ih =>
  have h1:=ih (fun y hy=>h y (List.mem_cons_of_mem _ hy)) (fun y hy=>h2 y (List.mem_cons_of_mem _ hy))
  have:=h2 x List.mem_cons_self
  rw[List.sum_cons,List.length_cons];omega
theorem deep_less {c o:List Int} (h:qgp c o) (hc:∀ x∈c,0≤x) (hl:c.length≤1500) (hs:¬ Short o):(c.map jvg).sum<c.sum:=by
 refine half_sum c hc ?_
 refine Classical.byContradiction fun hno=>hs ?_
 obtain⟨g,hg,rfl⟩:=h
 have hsm:∀ x∈c,x<2:=fun x hx=>Int.not_le.1 fun hx2=>hno ⟨x,hx,hx2⟩
 have hsum:=sum_small c hc hsm
 have hp:=posL_sum c hc
 have ha:=allOf_list (posL c) (fun x hx=>Int.le_of_lt (posL_pos c x hx)) (posL c).length jw
 rw[List.take_length,hp] at ha
 have hw:∀ j,j<(posL c).length→1≤wtL c j:=fun j hj=>by
  unfold wtL
  have:=posL_pos c _ (List.getElem_mem hj)
  simp[List.getD_eq_getElem?_getD,hj]
  omega
 have hall:jyn (wtL c) (posL c).length≤1500:=by
  have e:jyn (wtL c) (posL c).length=jyn (fun j=>((posL c).getD j 0).toNat) (posL c).length:=rfl
  rw[e]
  omega
 intro x hx
 obtain⟨k,hk,rfl⟩:=List.mem_iff_getElem.1 hx
 rw[jwc] at hk
 have h1:=qqw g.d c 0 k hk
 rw[List.getElem?_eq_getElem (by rw[jwc];exact hk)] at h1
 rw[Option.some.inj h1]
 split
 ·have:=huff_small hg hw hall (rankL_lt c hk (by assumption))
  rw[Nat.zero_add]
  omega
 ·decide
inductive Goes (s:Nat):Nat→List Nat→Nat→Prop
 | stop (x:Nat) (h:x<s*524288):Goes s x [] x
 | more (x:Nat) (o:List Nat) (y:Nat) (h:s*524288≤x) (hr:Goes s (x/256) o y):Goes s x (x%256::o) y
theorem Goes.one {s x:Nat} {o o':List Nat} {y y':Nat} (h:Goes s x o y) (h':Goes s x o' y'):o=o'∧y=y':=by
 induction h generalizing o' y' with
 | stop x h =>
  cases h' with
  | stop=>exact⟨rfl,rfl⟩
  | more _ _ _ hh=>omega
 | more x o y hh hr ih =>
  cases h' with
  | stop _ h=>omega
  | more _ o2 _ _ hr2 =>
   obtain⟨e1,e2⟩:=ih hr2
   exact⟨by rw[e1],e2⟩
theorem goes_all {s:Nat} (hs:1≤s):∀ x:Nat,∃ o y,Goes s x o y:=by
 intro x
 induction x using Nat.strongRecOn with
 | _ x ih =>
  by_cases h:x<s*524288
  ·exact⟨[],x,.stop x h⟩
  ·obtain⟨o,y,hg⟩:=ih (x/256) (by omega)
   exact⟨_,y,.more x o y (by omega) hg⟩
theorem Goes.bytes {s x:Nat} {o:List Nat} {y:Nat} (h:Goes s x o y):∀ b∈o,b<256:=by
 induction h with
 | stop=>intro b hb;simp at hb
 | more x o y hh hr ih =>
  intro b hb
  rcases List.mem_cons.1 hb with rfl | hb
  ·omega
  ·exact ih b hb
theorem Goes.range {s x:Nat} {o:List Nat} {y:Nat} (h:Goes s x o y):s*2048≤x→s*2048≤y∧y<s*524288:=by
 induction h with
 | stop x h=>intro h1;exact⟨h1,h⟩
 | more x o y hh hr ih =>
  intro _
  have h2:s*2048≤x/256:=(Nat.le_div_iff_mul_le (by decide)).2 (by rw[Nat.mul_assoc];exact hh)
  exact ih h2
inductive Reads:Nat→List Nat→Nat→List Nat→Prop
 | none (x:Nat) (S:List Nat):Reads x S x S
 | next (y b:Nat) (S:List Nat) (x:Nat) (T:List Nat) (h:y<8388608) (hr:Reads (256*y+b) S x T):Reads y (b::S) x T
theorem Reads.trans {x y z:Nat} {S T U:List Nat} (h:Reads x S y T) (k:Reads y T z U):Reads x S z U:=by
 induction h with
 | none=>exact k
 | next y b S x T hh _ ih=>exact .next y b S z U hh (ih k)
theorem Goes.back {s x:Nat} {o:List Nat} {y:Nat} (h:Goes s x o y):x<2147483648→∀ T,Reads y (o.reverse++T) x T:=by
 induction h with
 | stop x h=>intro _ T;exact .none x T
 | more x o y hh hr ih =>
  intro hx T
  have h1:=ih (by omega) (x%256::T)
  have e:256*(x/256)+x%256=x:=by omega
  rw[List.reverse_cons,List.append_assoc]
  refine h1.trans (.next (x/256) (x%256) T x T (by omega) ?_)
  rw[e]
  exact .none x T
def inX (f s y:Nat):Nat:=y/s*4096+f+y%s
theorem inX_out {f s y:Nat} (hs:1≤s) (hf:f+s≤4096):inX f s y%4096=f+y%s∧inX f s y/4096=y/s∧s*(inX f s y/4096)+inX f s y%4096 - f=y:=by
 have h1:y%s<s:=Nat.mod_lt y (by omega)
 have e1:inX f s y%4096=f+y%s:=by unfold inX;omega
 have e2:inX f s y/4096=y/s:=by unfold inX;omega
 refine⟨e1,e2,?_⟩
 rw[e1,e2]
 have:=Nat.div_add_mod y s
 omega
theorem inX_range {f s y:Nat} (hs:1≤s) (hf:f+s≤4096) (h1:s*2048≤y) (h2:y<s*524288):8388608≤inX f s y∧inX f s y<2147483648:=by
 have h3:y%s<s:=Nat.mod_lt y (by omega)
 have h4:2048≤y/s:=(Nat.le_div_iff_mul_le (by omega)).2 (by rw[Nat.mul_comm];exact h1)
 have h5:y/s<524288:=(Nat.div_lt_iff_lt_mul (by omega)).2 (by rw[Nat.mul_comm];exact h2)
 unfold inX
 omega
inductive jvx:List (Nat × Nat)→Nat→List Nat→Prop
 | none:jvx [] 8388608 []
 | letter (f s:Nat) (l:List (Nat × Nat)) (x:Nat) (T:List Nat) (o:List Nat) (y:Nat) (h:jvx l x T) (hg:Goes s x o y):jvx ((f,s)::l) (inX f s y) (o.reverse++T)
def okL (p:Nat × Nat):Prop:=1≤p.2∧p.1+p.2≤4096
theorem jvx.range {l:List (Nat × Nat)} {x:Nat} {T:List Nat} (h:jvx l x T):(∀ p∈l,okL p)→8388608≤x∧x<2147483648∧∀ b∈T,b<256:=by
 induction h with
 | none=>intro _;exact⟨Nat.le_refl _,by decide,by simp⟩
 | letter f s l x T o y h hg ih =>
  intro hp
  obtain⟨p1,p2⟩:=hp (f,s) List.mem_cons_self
  simp only at p1 p2
  obtain⟨i1,i2,i3⟩:=ih fun q hq=>hp q (List.mem_cons_of_mem _ hq)
  obtain⟨g1,g2⟩:=hg.range (by omega)
  obtain⟨j1,j2⟩:=inX_range p1 p2 g1 g2
  refine⟨j1,j2,fun b hb=>?_⟩
  rcases List.mem_append.1 hb with hb | hb
  ·exact hg.bytes b (List.mem_reverse.1 hb)
  ·exact i3 b hb
theorem jvx.out {f s:Nat} {l:List (Nat × Nat)} {x':Nat} {S:List Nat} (h:jvx ((f,s)::l) x' S) (hp:∀ p∈(f,s)::l,okL p) :
  ∃ x T y,jvx l x T∧y<s*524288∧x'%4096=f+y%s∧s*(x'/4096)+x'%4096 - f=y∧Reads y S x T∧8388608≤x:=by
 cases h with
 | letter _ _ _ x T o y h hg =>
  obtain⟨p1,p2⟩:=hp (f,s) List.mem_cons_self
  simp only at p1 p2
  obtain⟨i1,i2,-⟩:=h.range fun q hq=>hp q (List.mem_cons_of_mem _ hq)
  obtain⟨g1,g2⟩:=hg.range (by omega)
  obtain⟨e1,e2,e3⟩:=inX_out (y:=y) p1 p2
  exact⟨x,T,y,h,g2,e1,e3,hg.back i2 T,i1⟩
theorem jvx.one {l:List (Nat × Nat)} {x x':Nat} {T T':List Nat} (h:jvx l x T) (h':jvx l x' T'):x=x'∧T=T':=by
 induction h generalizing x' T' with
 | none=>cases h';exact⟨rfl,rfl⟩
 | letter f s l x T o y h hg ih =>
  cases h' with
  | letter _ _ _ x2 T2 o2 y2 h2 hg2 =>
   obtain⟨rfl,rfl⟩:=ih h2
   obtain⟨rfl,rfl⟩:=hg.one hg2
   exact⟨rfl,rfl⟩
theorem goes_few {s:Nat} (hs:1≤s):∀ (k x:Nat) (o:List Nat) (y:Nat),Goes s x o y→x<256^k*524288→o.length≤k:=by
 intro k
 induction k with
 | zero =>
  intro x o y h hx
  cases h with
  | stop=>exact Nat.le_refl _
  | more _ _ _ hh=>simp only[Nat.pow_zero,Nat.one_mul] at hx;omega
 | succ k ih =>
  intro x o y h hx
  cases h with
  | stop=>exact Nat.zero_le _
  | more _ o2 _ hh hr =>
   have h2:x/256<256^k*524288:=(Nat.div_lt_iff_lt_mul (by decide)).2 (by rw[Nat.pow_succ] at hx;rw[Nat.mul_assoc,Nat.mul_comm 524288,←Nat.mul_assoc];exact hx)
   have:=ih _ _ _ hr h2
   simp only[List.length_cons]
   omega
theorem jvx.len {l:List (Nat × Nat)} {x:Nat} {T:List Nat} (h:jvx l x T):(∀ p∈l,okL p)→T.length≤2*l.length:=by
 induction h with
 | none=>intro _;exact Nat.le_refl _
 | letter f s l x T o y h hg ih =>
  intro hp
  have h1:=ih fun q hq=>hp q (List.mem_cons_of_mem _ hq)
  have h2:=h.range fun q hq=>hp q (List.mem_cons_of_mem _ hq)
  have h3:=goes_few (hp (f,s) List.mem_cons_self).1 2 x o y hg (by omega)
  simp only[List.length_append,List.length_reverse,List.length_cons]
  omega
def jky (L R:Nat):Prop:=L/16777216=(L+R)%4294967296/16777216
instance (L R:Nat):Decidable (jky L R):=by unfold jky;infer_instance
def cutR (L R:Nat):Nat:=if jky L R then R else 65536 - L%65536
inductive jvc:Nat→Nat→List Nat→Nat→Nat→Prop
 | stop (L R:Nat) (h:¬ jky L R) (h2:65536≤R):jvc L R [] L R
 | move (L R:Nat) (o:List Nat) (L' R':Nat) (h:jky L R∨R<65536) (hr:jvc (256*L%4294967296) (256*cutR L R%4294967296) o L' R'):jvc L R (L/16777216::o) L' R'
theorem jvc.one {L R:Nat} {o o':List Nat} {A B A' B':Nat} (h:jvc L R o A B) (h':jvc L R o' A' B'):o=o'∧A=A'∧B=B':=by
 induction h generalizing o' A' B' with
 | stop L R h h2 =>
  cases h' with
  | stop=>exact⟨rfl,rfl,rfl⟩
  | move _ _ _ _ _ hh =>
    rcases hh with hh | hh
    ·exact absurd hh h
    ·omega
 | move L R o A B hh hr ih =>
  cases h' with
  | stop _ _ h h2 =>
    rcases hh with hh | hh
    ·exact absurd hh h
    ·omega
  | move _ _ o2 _ _ _ hr2 =>
   obtain⟨e1,e2,e3⟩:=ih hr2
   exact⟨by rw[e1],e2,e3⟩
def jqw (L R:Nat):Prop:=L<4294967296∧1≤R∧L+R≤4294967296∧(L+R=4294967296→16777216≤L)
theorem qbt:jqw 0 4294967295:=⟨by decide,by decide,by decide,by omega⟩
theorem same_step {L R:Nat} (h:jqw L R) (hs:jky L R):R<16777216∧256*L%4294967296=256*(L%16777216)∧256*R%4294967296=256*R∧L%16777216+R<16777216∧jqw (256*L%4294967296) (256*R%4294967296):=by
 obtain⟨h1,h2,h3,h4⟩:=h
 unfold jky at hs
 have h5:L+R<4294967296:=by
  refine Nat.lt_of_le_of_ne h3 fun e=>?_
  have:=h4 e
  rw[e] at hs
  omega
 rw[Nat.mod_eq_of_lt h5] at hs
 have h6:L%16777216+R<16777216:=by omega
 have e1:256*L%4294967296=256*(L%16777216):=by omega
 have e2:256*R%4294967296=256*R:=by omega
 refine⟨by omega,e1,e2,h6,?_⟩
 rw[e1,e2]
 refine⟨by omega,by omega,by omega,by omega⟩
theorem cut_step {L R:Nat} (h:jqw L R) (hs:¬ jky L R) (hR:R<65536) :
  1≤65536 - L%65536∧65536 - L%65536≤R∧65536 - L%65536≤65536∧256*L%4294967296=256*(L%16777216)∧L%16777216+(65536 - L%65536)=16777216∧256*(65536 - L%65536)%4294967296=256*(65536 - L%65536):=by
 obtain⟨h1,h2,h3,h4⟩:=h
 unfold jky at hs
 have h6:16777216≤L%16777216+R:=by
  refine Nat.le_of_not_lt fun hlt=>hs ?_
  by_cases e:L+R=4294967296
  ·omega
  ·rw[Nat.mod_eq_of_lt (by omega)];omega
 have e1:256*L%4294967296=256*(L%16777216):=by omega
 have e3:L%16777216+(65536 - L%65536)=16777216:=by omega
 exact⟨by omega,by omega,by omega,e1,e3,by omega⟩
theorem moves_end:∀ (f L R:Nat),L+R=4294967296→1≤R→R≤16777216→65536≤R*256^f→∃ o L' R',jvc L R o L' R'∧jqw L' R'∧65536≤R'∧o.length≤f:=by
 intro f
 induction f with
 | zero =>
  intro L R h1 h2 h3 h4
  have hs:¬ jky L R:=by unfold jky;rw[h1];omega
  exact⟨[],L,R,.stop L R hs (by simpa using h4),⟨by omega,h2,by omega,by omega⟩,by simpa using h4,Nat.le_refl _⟩
 | succ f ih =>
  intro L R h1 h2 h3 h4
  have hs:¬ jky L R:=by unfold jky;rw[h1];omega
  by_cases hR:65536≤R
  ·exact⟨[],L,R,.stop L R hs hR,⟨by omega,h2,by omega,by omega⟩,hR,Nat.zero_le _⟩
  ·have hc:cutR L R=R:=by unfold cutR;rw[if_neg hs];omega
   have e1:256*L%4294967296+256*R=4294967296:=by omega
   have e2:256*R%4294967296=256*R:=by omega
   obtain⟨o,L',R',hm,hi,hr,hl⟩:=ih (256*L%4294967296) (256*R) e1 (by omega) (by omega) (by rw[Nat.pow_succ] at h4;rw[Nat.mul_comm 256 R,Nat.mul_assoc,Nat.mul_comm 256];exact h4)
   exact⟨_,L',R',.move L R o L' R' (.inr (by omega)) (by rw[hc,e2];exact hm),hi,hr,by simp;omega⟩
theorem moves_some:∀ (f L R:Nat),jqw L R→4294967296≤R*256^f→∃ o L' R',jvc L R o L' R'∧jqw L' R'∧65536≤R'∧o.length≤f+3:=by
 intro f
 induction f with
 | zero =>
  intro L R h h4
  obtain⟨h1,h2,h3,h5⟩:=h
  simp only[Nat.pow_zero,Nat.mul_one] at h4
  omega
 | succ f ih =>
  intro L R h h4
  by_cases hs:jky L R
  ·obtain⟨h1,e1,e2,h6,h7⟩:=same_step h hs
   have hc:cutR L R=R:=by unfold cutR;rw[if_pos hs]
   obtain⟨o,L',R',hm,hi,hr,hl⟩:=ih _ _ h7 (by rw[e2];rw[Nat.pow_succ] at h4;rw[Nat.mul_comm 256 R,Nat.mul_assoc,Nat.mul_comm 256];exact h4)
   exact⟨_,L',R',.move L R o L' R' (.inl hs) (by rw[hc];exact hm),hi,hr,by simp;omega⟩
  ·by_cases hR:65536≤R
   ·exact⟨[],L,R,.stop L R hs hR,h,hR,Nat.zero_le _⟩
   ·obtain⟨c1,c2,c3,c4,c5,c6⟩:=cut_step h hs (by omega)
    have hc:cutR L R=65536 - L%65536:=by unfold cutR;rw[if_neg hs]
    obtain⟨o,L',R',hm,hi,hr,hl⟩:=moves_end 2 (256*L%4294967296) (256*(65536 - L%65536)) (by omega) (by omega) (by omega) (by omega)
    exact⟨_,L',R',.move L R o L' R' (.inr (by omega)) (by rw[hc,c6];exact hm),hi,hr,by simp;omega⟩
theorem moves_all {L R:Nat} (h:jqw L R):∃ o L' R',jvc L R o L' R'∧jqw L' R'∧65536≤R'∧o.length≤7:=moves_some 4 L R h (by have:=h.2.1;omega)
theorem jmd {L R low size total:Nat} (h:jqw L R) (hR:65536≤R) (h1:1≤size) (h2:low+size≤total) (h3:total≤65536) :
  1≤R/total∧(low+size)*(R/total)≤R∧(L+low*(R/total))%4294967296=L+low*(R/total)∧jqw (L+low*(R/total)) (size*(R/total)):=by
 obtain⟨g1,g2,g3,g4⟩:=h
 have hr:1≤R/total:=(Nat.le_div_iff_mul_le (by omega)).2 (by omega)
 have hm:(low+size)*(R/total)≤R:=Nat.le_trans (Nat.mul_le_mul_right _ h2) (Nat.mul_div_le R total)
 obtain⟨r,hrr⟩:∃ r,r=R/total:=⟨_,rfl⟩
 rw[←hrr] at hr hm ⊢
 have hs:1≤size*r:=Nat.mul_pos h1 hr
 have e:(low+size)*r=low*r+size*r:=Nat.add_mul ..
 refine⟨hr,hm,Nat.mod_eq_of_lt (by omega),by omega,hs,by omega,fun hh=>by have:=g4 (by omega);omega⟩
def num4 (B:List Nat):Nat:=B.getD 0 0*16777216+B.getD 1 0*65536+B.getD 2 0*256+B.getD 3 0
def be4 (L:Nat):List Nat:=[L/16777216,L/65536%256,L/256%256,L%256]
theorem num4_be4 (L:Nat):num4 (be4 L)=L:=by simp[num4,be4];omega
theorem be4_lt {L:Nat} (h:L<4294967296):∀ x∈be4 L,x<256:=by
 intro x hx
 simp[be4] at hx
 omega
theorem num4_cons {x:Nat} {B:List Nat} (hB:∀ y∈B,y<256) (hl:4≤B.length):num4 (x::B)=x*16777216+num4 B/256∧(256*num4 (x::B)+B.getD 3 0)%4294967296=num4 B∧num4 B<4294967296:=by
 obtain⟨a,b,c,d,T,rfl⟩:∃ a b c d T,B=a::b::c::d::T:=by
  match B,hl with
  | a::b::c::d::T,_=>exact⟨a,b,c,d,T,rfl⟩
 have ha:=hB a (by simp)
 have hb:=hB b (by simp)
 have hc:=hB c (by simp)
 have hd:=hB d (by simp)
 simp[num4]
 omega
theorem jvc.bytes {L R:Nat} {o:List Nat} {L' R':Nat} (h:jvc L R o L' R'):L<4294967296→∀ x∈o,x<256:=by
 induction h with
 | stop=>intro _ x hx;simp at hx
 | move L R o L' R' hh hr ih =>
  intro hL x hx
  rcases List.mem_cons.1 hx with rfl | hx
  ·omega
  ·exact ih (Nat.mod_lt _ (by decide)) x hx
theorem move_span {L R:Nat} (hsp:jqw L R) (hh:jky L R∨R<65536):cutR L R≤R∧256*L%4294967296=256*(L%16777216)∧256*cutR L R%4294967296=256*cutR L R∧jqw (256*L%4294967296) (256*cutR L R%4294967296):=by
 by_cases hs:jky L R
 ·obtain⟨a1,e1,e2,a2,a3⟩:=same_step hsp hs
  have hc:cutR L R=R:=by unfold cutR;rw[if_pos hs]
  rw[hc]
  exact⟨Nat.le_refl _,e1,e2,a3⟩
 ·have hR:R<65536:=by
   rcases hh with hh | hh
   ·exact absurd hh hs
   ·exact hh
  obtain⟨c1,c2,c3,c4,c5,c6⟩:=cut_step hsp hs hR
  have hc:cutR L R=65536 - L%65536:=by unfold cutR;rw[if_neg hs]
  rw[hc]
  refine⟨c2,c4,c6,?_⟩
  rw[c4,c6]
  refine⟨by omega,by omega,by omega,by omega⟩
theorem jvc.within {L R:Nat} {o:List Nat} {L' R':Nat} (h:jvc L R o L' R'):jqw L R→∀ T:List Nat,(∀ y∈T,y<256)→4≤T.length→L'≤num4 T→num4 T<L'+R'→L≤num4 (o++T)∧num4 (o++T)<L+R:=by
 induction h with
 | stop L R h h2=>intro _ T _ _ h1 h2;exact⟨h1,h2⟩
 | move L R o L' R' hh hr ih =>
  intro hsp T hT hl h1 h2
  have key:∃ S,cutR L R=S∧S≤R∧256*L%4294967296=256*(L%16777216)∧256*S%4294967296=256*S∧jqw (256*L%4294967296) (256*S%4294967296):=by
   by_cases hs:jky L R
   ·obtain⟨a1,e1,e2,a2,a3⟩:=same_step hsp hs
    exact⟨R,by unfold cutR;rw[if_pos hs],Nat.le_refl _,e1,e2,a3⟩
   ·have hR:R<65536:=by
     rcases hh with hh | hh
     ·exact absurd hh hs
     ·exact hh
    obtain⟨c1,c2,c3,c4,c5,c6⟩:=cut_step hsp hs hR
    refine⟨65536 - L%65536,by unfold cutR;rw[if_neg hs],c2,c4,c6,?_⟩
    rw[c4,c6]
    refine⟨by omega,by omega,by omega,by omega⟩
  obtain⟨S,hS,hSR,e1,e2,hin⟩:=key
  rw[hS] at hr ih
  have hb:∀ y∈o++T,y<256:=fun y hy=>by
   rcases List.mem_append.1 hy with hy | hy
   ·exact hr.bytes hin.1 y hy
   ·exact hT y hy
  obtain⟨i1,i2⟩:=ih hin T hT hl h1 h2
  rw[e1] at i1 i2
  rw[e2] at i2
  have hc:=(num4_cons (x:=L/16777216) hb (by simp;omega)).1
  rw[List.cons_append,hc]
  omega
structure jqd where
 low:Nat
 size:Nat
 total:Nat
def jqd.ok (p:jqd):Prop:=1≤p.size∧p.low+p.size≤p.total∧p.total≤65536
inductive Laid:Nat→Nat→List jqd→List Nat→Prop
 | last (L R:Nat):Laid L R [] (be4 L)
 | part (L R:Nat) (p:jqd) (ps:List jqd) (o T:List Nat) (L' R':Nat) (hm:jvc (L+p.low*(R/p.total)) (p.size*(R/p.total)) o L' R') (hr:Laid L' R' ps T):Laid L R (p::ps) (o++T)
theorem jvc.inside {L R:Nat} {o:List Nat} {L' R':Nat} (h:jvc L R o L' R') (hs:jqw L R):jqw L' R'∧65536≤R':=by
 obtain⟨o2,A,B,hm,h1,h2,-⟩:=moves_all hs
 obtain⟨-,rfl,rfl⟩:=h.one hm
 exact⟨h1,h2⟩
theorem jvc.few {L R:Nat} {o:List Nat} {L' R':Nat} (h:jvc L R o L' R') (hs:jqw L R):o.length≤7:=by
 obtain⟨o2,A,B,hm,-,-,hl⟩:=moves_all hs
 obtain⟨rfl,-,-⟩:=h.one hm
 exact hl
theorem Laid.within {L R:Nat} {ps:List jqd} {B:List Nat} (h:Laid L R ps B):jqw L R→65536≤R→(∀ p∈ps,p.ok)→(∀ y∈B,y<256)∧4≤B.length∧L≤num4 B∧num4 B<L+R:=by
 induction h with
 | last L R =>
  intro hs _ _
  rw[num4_be4]
  exact⟨be4_lt hs.1,Nat.le_refl _,Nat.le_refl _,by have:=hs.2.1;omega⟩
 | part L R p ps o T L' R' hm hr ih =>
  intro hs hR hp
  obtain⟨p1,p2,p3⟩:=hp p List.mem_cons_self
  obtain⟨n1,n2,n3,n4⟩:=jmd hs hR p1 p2 p3
  obtain⟨h1,h2⟩:=hm.inside n4
  obtain⟨i1,i2,i3,i4⟩:=ih h1 h2 fun q hq=>hp q (List.mem_cons_of_mem _ hq)
  obtain⟨j1,j2⟩:=hm.within n4 T i1 i2 i3 i4
  have e:(p.low+p.size)*(R/p.total)=p.low*(R/p.total)+p.size*(R/p.total):=Nat.add_mul ..
  refine⟨fun y hy=>?_,by simp;omega,by omega,by omega⟩
  rcases List.mem_append.1 hy with hy | hy
  ·exact hm.bytes n4.1 y hy
  ·exact i1 y hy
theorem found_in {C L R low size total:Nat} (hr:1≤R/total) (h1:L+low*(R/total)≤C) (h2:C<L+low*(R/total)+size*(R/total)):low≤(C - L)/(R/total)∧(C - L)/(R/total)<low+size:=by
 obtain⟨r,hrr⟩:∃ r,r=R/total:=⟨_,rfl⟩
 rw[←hrr] at hr h1 h2 ⊢
 have e:(low+size)*r=low*r+size*r:=Nat.add_mul ..
 exact⟨(Nat.le_div_iff_mul_le (by omega)).2 (by omega),(Nat.div_lt_iff_lt_mul (by omega)).2 (by omega)⟩
inductive Enc:List jqd→Nat→Nat→List Nat→Prop
 | nil:Enc [] 0 4294967295 []
 | snoc (ps:List jqd) (p:jqd) (L R:Nat) (o o2:List Nat) (L' R':Nat) (h:Enc ps L R o) (hm:jvc (L+p.low*(R/p.total)) (p.size*(R/p.total)) o2 L' R'):Enc (ps++[p]) L' R' (o++o2)
theorem Enc.inside {ps:List jqd} {L R:Nat} {o:List Nat} (h:Enc ps L R o):(∀ p∈ps,p.ok)→jqw L R∧65536≤R∧(∀ x∈o,x<256)∧o.length≤7*ps.length:=by
 induction h with
 | nil=>intro _;exact⟨qbt,by decide,by simp,by simp⟩
 | snoc ps p L R o o2 L' R' h hm ih =>
  intro hp
  obtain⟨i1,i2,i3,i4⟩:=ih fun q hq=>hp q (by simp[hq])
  obtain⟨p1,p2,p3⟩:=hp p (by simp)
  obtain⟨n1,n2,n3,n4⟩:=jmd i1 i2 p1 p2 p3
  obtain⟨j1,j2⟩:=hm.inside n4
  refine⟨j1,j2,fun x hx=>?_,?_⟩
  ·rcases List.mem_append.1 hx with hx | hx
   ·exact i3 x hx
   ·exact hm.bytes n4.1 x hx
  ·have:=hm.few n4
   simp only[List.length_append,List.length_singleton]
   omega
theorem Enc.more {ps:List jqd} {L R:Nat} {o:List Nat} (h:Enc ps L R o) (hp:∀ p∈ps,p.ok) {p:jqd} (hk:p.ok):∃ o2 L' R',jvc (L+p.low*(R/p.total)) (p.size*(R/p.total)) o2 L' R'∧Enc (ps++[p]) L' R' (o++o2):=by
 obtain⟨i1,i2,-,-⟩:=h.inside hp
 obtain⟨p1,p2,p3⟩:=hk
 obtain⟨n1,n2,n3,n4⟩:=jmd i1 i2 p1 p2 p3
 obtain⟨o2,L',R',hm,-⟩:=moves_all n4
 exact⟨o2,L',R',hm,.snoc ps p L R o o2 L' R' h hm⟩
theorem Enc.laid {ps:List jqd} {L R:Nat} {o:List Nat} (h:Enc ps L R o):∀ {qs:List jqd} {T:List Nat},Laid L R qs T→Laid 0 4294967295 (ps++qs) (o++T):=by
 induction h with
 | nil=>intro qs T hl;exact hl
 | snoc ps p L R o o2 L' R' h hm ih =>
  intro qs T hl
  have:=ih (.part L R p qs o2 T L' R' hm hl)
  simpa [List.append_assoc] using this
theorem Enc.bytes {ps:List jqd} {L R:Nat} {o:List Nat} (h:Enc ps L R o):Laid 0 4294967295 ps (o++be4 L):=by
 have:=h.laid (.last L R)
 simpa using this
def comeS (s:Nat × List Nat × Nat):Nat × List Nat × Nat:=match s.2.1 with
 | []=>(s.1,[],if s.2.2=0 then 16 else s.2.2)
 | b::B=>((256*s.1+b)%4294967296,B,s.2.2)
def jxx:Nat→Nat × List Nat × Nat→Nat × List Nat × Nat
 | 0,s=>s
 | k+1,s=>jxx k (comeS s)
theorem qxv:∀ (k:Nat) (s:Nat × List Nat × Nat),jxx (k+1) s=comeS (jxx k s)
 | 0,_=>rfl
 | k+1,s=>qxv k (comeS s)
theorem comeS_nil (C E:Nat):comeS (C,[],E)=(C,[],if E=0 then 16 else E):=rfl
theorem qms (C b E:Nat) (B:List Nat):comeS (C,b::B,E)=((256*C+b)%4294967296,B,E):=rfl
theorem comesS_num:∀ (o T:List Nat) (E:Nat),(∀ y∈o++T,y<256)→4≤T.length→jxx o.length (num4 (o++T),(o++T).drop 4,E)=(num4 T,T.drop 4,E)
 | [],T,E,_,_=>rfl
 | x::o,T,E,h,hl=>by
  have hb:∀ y∈o++T,y<256:=fun y hy=>h y (by simp only[List.cons_append,List.mem_cons];exact .inr hy)
  have hl2:4≤(o++T).length:=by simp;omega
  obtain⟨-,h2,-⟩:=num4_cons (x:=x) hb hl2
  obtain⟨d,D,hd⟩:∃ d D,(o++T).drop 3=d::D:=⟨_,_,List.drop_eq_getElem_cons (show 3<(o++T).length by omega)⟩
  have hd3:(o++T).getD 3 0=d:=by
   have:(o++T)[3]?=some d:=by rw[←List.head?_drop,hd];rfl
   simp[List.getD_eq_getElem?_getD,this]
  have hd4:(o++T).drop 4=D:=by
   have:((o++T).drop 3).drop 1=D:=by rw[hd];rfl
   rw[List.drop_drop] at this
   exact this
  rw[List.length_cons,jxx,List.cons_append]
  have:(x::(o++T)).drop 4=d::D:=by rw[←hd];rfl
  rw[this,qms,←hd3,h2,←hd4]
  exact comesS_num o T E hb hl
theorem comesS_four (a b c d:Nat) (T:List Nat) (h:∀ y∈a::b::c::d::T,y<256):jxx 4 (0,a::b::c::d::T,0)=(num4 (a::b::c::d::T),T,0):=by
 have ha:=h a (by simp)
 have hb:=h b (by simp)
 have hc:=h c (by simp)
 have hd:=h d (by simp)
 simp only[jxx,qms,num4]
 simp
 omega
def findS (L R C total:Nat):Nat × Nat:=if total≤(C+4294967296 - L)%4294967296/(R/total) then (0,16) else ((C+4294967296 - L)%4294967296/(R/total),0)
theorem findS_in {L R C low size total:Nat} (hL:L≤C) (hC:C<4294967296) (hr:1≤R/total) (h1:L+low*(R/total)≤C) (h2:C<L+low*(R/total)+size*(R/total)) (h3:low+size≤total):∃ n,findS L R C total=(n,0)∧low≤n∧n<low+size:=by
 obtain⟨f1,f2⟩:=found_in (total:=total) hr h1 h2
 have e:(C+4294967296 - L)%4294967296=C - L:=by omega
 refine⟨(C - L)/(R/total),?_,f1,f2⟩
 unfold findS
 rw[e,if_neg (by omega)]
def jdv:Nat→List Int→List UInt8
 | z,[]=>lput z
 | z,x::l=>if x=0 then jdv (z+1) l else lput z++(lput (x - 1).toNat++jdv 0 l)
def hPut (l:List Int):List UInt8:=jdv 0 l
theorem hPutF_nil (z:Nat):jdv z []=lput z:=rfl
theorem qbw (z:Nat) (l:List Int):jdv z (0::l)=jdv (z+1) l:=by simp[jdv]
theorem qbx (z:Nat) {x:Int} (l:List Int) (h:x≠0):jdv z (x::l)=lput z++(lput (x - 1).toNat++jdv 0 l):=by simp[jdv,h]
def jqr (n:Nat):List Int:=List.replicate n 0
theorem qdk (n:Nat):(jqr n).length=n:=by simp[jqr]
theorem zerosI_cons (n:Nat) (l:List Int):jqr (n+1)++l=jqr n++0::l:=by
 unfold jqr;rw[List.replicate_succ',List.append_assoc];rfl
def qyk:Nat→List Int→List UInt8→Nat→Option (List Int × Nat)
 | 0,_,_,_=>none
 | f+1,out,b,at_ =>
  if (lget b).2.2≠0∨65535<(lget b).1 then none
  else if 256<out.length+(lget b).1 then none
  else if out.length+(lget b).1=256 then some (out++jqr (lget b).1,at_+(lget b).2.1)
  else if (lget (b.drop (lget b).2.1)).2.2≠0∨65535<(lget (b.drop (lget b).2.1)).1 then none
  else qyk f (out++jqr (lget b).1++[((lget (b.drop (lget b).2.1)).1:Int)+1]) ((b.drop (lget b).2.1).drop (lget (b.drop (lget b).2.1)).2.1) (at_+(lget b).2.1+(lget (b.drop (lget b).2.1)).2.1)
def hGet (b:List UInt8):Option (List Int × Nat):=qyk 257 [] b 0
theorem qvb {f:Nat} {out:List Int} {b:List UInt8} {at_ n k e:Nat} (h:lget b=(n,k,e)) (hb:e≠0∨65535<n∨256<out.length+n):qyk (f+1) out b at_=none:=by
 simp only[qyk,h]
 by_cases h1:e≠0∨65535<n
 ·rw[if_pos h1]
 ·rw[if_neg h1,if_pos (by omega)]
theorem jdx {f:Nat} {out:List Int} {b:List UInt8} {at_ n k:Nat} (h:lget b=(n,k,0)) (hn:n≤65535) (hb:out.length+n=256):qyk (f+1) out b at_=some (out++jqr n,at_+k):=by
 simp only[qyk,h]
 rw[if_neg (by omega),if_neg (by omega),if_pos hb]
theorem qzd {f:Nat} {out:List Int} {b:List UInt8} {at_ n k n2 k2 e2:Nat} (h:lget b=(n,k,0)) (hn:n≤65535) (hb:out.length+n<256) (h2:lget (b.drop k)=(n2,k2,e2)) (hb2:e2≠0∨65535<n2):qyk (f+1) out b at_=none:=by
 simp only[qyk,h,h2]
 rw[if_neg (by omega),if_neg (by omega),if_neg (by omega),if_pos hb2]
theorem jdw {f:Nat} {out:List Int} {b:List UInt8} {at_ n k n2 k2:Nat} (h:lget b=(n,k,0)) (hn:n≤65535) (hb:out.length+n<256) (h2:lget (b.drop k)=(n2,k2,0)) (hb2:n2≤65535) :
  qyk (f+1) out b at_=qyk f (out++jqr n++[(n2:Int)+1]) (b.drop (k+k2)) (at_+k+k2):=by
 simp only[qyk,h,h2]
 rw[if_neg (by omega),if_neg (by omega),if_neg (by omega),if_neg (by omega),List.drop_drop]
theorem hGetF_fuel:∀ (f f':Nat) (out:List Int) (b:List UInt8) (at_:Nat),out.length≤256→257≤f+out.length→257≤f'+out.length→qyk f out b at_=qyk f' out b at_:=by
 intro f
 induction f with
 | zero=>intro f' out b at_ h0 h1;omega
 | succ f ih =>
  intro f' out b at_ h0 h1 h2
  obtain⟨g,rfl⟩:∃ g,f'=g+1:=⟨f' - 1,by omega⟩
  obtain⟨⟨n,k,e⟩,hl⟩:∃ t,lget b=t:=⟨_,rfl⟩
  by_cases hb:e≠0∨65535<n∨256<out.length+n
  ·rw[qvb hl hb,qvb hl hb]
  ·obtain rfl:e=0:=by omega
   by_cases hb2:out.length+n=256
   ·rw[jdx hl (by omega) hb2,jdx hl (by omega) hb2]
   ·obtain⟨⟨n2,k2,e2⟩,hl2⟩:∃ t,lget (b.drop k)=t:=⟨_,rfl⟩
    by_cases hb3:e2≠0∨65535<n2
    ·rw[qzd hl (by omega) (by omega) hl2 hb3,qzd hl (by omega) (by omega) hl2 hb3]
    ·obtain rfl:e2=0:=by omega
     rw[jdw hl (by omega) (by omega) hl2 (by omega),jdw hl (by omega) (by omega) hl2 (by omega)]
     have hlen:(out++jqr n++[(n2:Int)+1]).length=out.length+n+1:=by simp[jqr];omega
     exact ih g _ _ _ (by omega) (by omega) (by omega)
theorem lget_lput {n:Nat} (h:n≤65536) (more:List UInt8):lget (lput n++more)=(n,(lput n).length,0):=lget_put n more (by omega)
theorem hGetF_put:∀ (l:List Int) (z f:Nat) (out:List Int) (more:List UInt8) (at_:Nat),(∀ x∈l,0≤x∧x≤65536)→out.length+z+l.length=256→257≤f+out.length →
  qyk f out (jdv z l++more) at_=some (out++jqr z++l,at_+(jdv z l).length):=by
 intro l
 induction l with
 | nil =>
  intro z f out more at_ _ h1 h2
  obtain⟨g,rfl⟩:∃ g,f=g+1:=⟨f - 1,by simp at h1;omega⟩
  simp only[List.length_nil,Nat.add_zero] at h1
  rw[hPutF_nil,jdx (lget_lput (by omega) more) (by omega) h1,List.append_nil]
 | cons x l ih =>
  intro z f out more at_ hx h1 h2
  have hx0:=hx x List.mem_cons_self
  have hl:=fun y hy=>hx y (List.mem_cons_of_mem _ hy)
  simp only[List.length_cons] at h1
  by_cases h0:x=0
  ·subst h0
   rw[qbw,ih (z+1) f out more at_ hl (by omega) h2,List.append_assoc out,zerosI_cons,←List.append_assoc]
  ·obtain⟨g,rfl⟩:∃ g,f=g+1:=⟨f - 1,by omega⟩
   rw[qbx z l h0]
   have e1:lput z++(lput (x - 1).toNat++jdv 0 l)++more=lput z++(lput (x - 1).toNat++(jdv 0 l++more)):=by simp only[List.append_assoc]
   have hd:(lput z++(lput (x - 1).toNat++(jdv 0 l++more))).drop (lput z).length=lput (x - 1).toNat++(jdv 0 l++more):=List.drop_left
   have hd2:(lput z++(lput (x - 1).toNat++(jdv 0 l++more))).drop ((lput z).length+(lput (x - 1).toNat).length)=jdv 0 l++more:=by
    rw[←List.drop_drop,hd,List.drop_left]
   rw[e1,jdw (lget_lput (by omega) _) (by omega) (by omega) (by rw[hd];exact lget_lput (by omega) _) (by omega),hd2]
   have e2:(((x - 1).toNat:Nat):Int)+1=x:=by omega
   rw[e2,ih 0 g (out++jqr z++[x]) more _ hl (by simp[jqr];omega) (by simp[jqr];omega)]
   congr 2
   ·simp[jqr]
   ·simp only[List.length_append];omega
theorem hGet_put {l:List Int} (hl:l.length=256) (hx:∀ x∈l,0≤x∧x≤65536) (more:List UInt8):hGet (hPut l++more)=some (l,(hPut l).length):=by
 have:=hGetF_put l 0 257 [] more 0 hx (by simp;omega) (by simp)
 simpa [hGet,hPut,jqr] using this
def hG (out:List Int) (b:List UInt8) (s:Nat):Option (List Int × Nat):=qyk 257 out b s
theorem hG_bad {out:List Int} {b:List UInt8} {s n k e:Nat} (h:lget b=(n,k,e)) (hb:e≠0∨65535<n∨256<out.length+n):hG out b s=none:=qvb h hb
def hM (P:List Int) (b:List UInt8) (s:Nat):Option (List Int × Nat) :=
 if P.length=256 then some (P,s)
 else if (lget b).2.2≠0∨65535<(lget b).1 then none
 else hG (P++[((lget b).1:Int)+1]) (b.drop (lget b).2.1) (s+(lget b).2.1)
theorem hG_mid {out:List Int} {b:List UInt8} {s n k:Nat} (h:lget b=(n,k,0)) (hb:out.length+n≤256):hG out b s=hM (out++jqr n) (b.drop k) (s+k):=by
 have hlen:(out++jqr n).length=out.length+n:=by simp[jqr]
 unfold hM
 rw[hlen]
 by_cases h1:out.length+n=256
 ·rw[if_pos h1];exact jdx h (by omega) h1
 ·rw[if_neg h1]
  obtain⟨⟨n2,k2,e2⟩,h2⟩:∃ t,lget (b.drop k)=t:=⟨_,rfl⟩
  rw[h2]
  simp only
  by_cases h3:e2≠0∨65535<n2
  ·rw[if_pos h3];exact qzd h (by omega) (by omega) h2 h3
  ·rw[if_neg h3]
   obtain rfl:e2=0:=by omega
   unfold hG
   rw[jdw h (by omega) (by omega) h2 (by omega),List.drop_drop]
   exact hGetF_fuel 256 257 _ _ _ (by simp[jqr] <;> omega) (by simp[jqr] <;> omega) (by simp[jqr] <;> omega)
theorem hM_end {P:List Int} {b:List UInt8} {s:Nat} (h:P.length=256):hM P b s=some (P,s):=by unfold hM;rw[if_pos h]
theorem hM_bad {P:List Int} {b:List UInt8} {s n k e:Nat} (h:lget b=(n,k,e)) (hP:P.length≠256) (hb:e≠0∨65535<n):hM P b s=none:=by
 unfold hM;rw[if_neg hP,h,if_pos hb]
theorem hM_more {P:List Int} {b:List UInt8} {s n k:Nat} (h:lget b=(n,k,0)) (hP:P.length≠256) (hn:n≤65535):hM P b s=hG (P++[(n:Int)+1]) (b.drop k) (s+k):=by
 unfold hM;rw[if_neg hP,h];simp only;rw[if_neg (by omega)]
def filt (T:Int) (R:Option (List Int × Nat)):Option (List Int × Nat):=R.bind fun p=>if p.1.sum=T then some p else none
theorem qzc (n:Nat):(jqr n).sum=0:=by
 induction n with
 | zero=>rfl
 | succ n ih=>simp only[jqr,List.replicate_succ,List.sum_cons] at ih ⊢;omega
theorem filt_much {T:Int}:∀ (f:Nat) (out:List Int) (b:List UInt8) (s:Nat),T<out.sum→filt T (qyk f out b s)=none:=by
 intro f
 induction f with
 | zero=>intro out b s _;rfl
 | succ f ih =>
  intro out b s h
  obtain⟨⟨n,k,e⟩,hl⟩:∃ t,lget b=t:=⟨_,rfl⟩
  by_cases hb:e≠0∨65535<n∨256<out.length+n
  ·rw[qvb hl hb];rfl
  ·obtain rfl:e=0:=by omega
   by_cases hb2:out.length+n=256
   ·rw[jdx hl (by omega) hb2]
    simp only[filt,Option.bind_some,List.sum_append,qzc]
    rw[if_neg (by omega)]
   ·obtain⟨⟨n2,k2,e2⟩,hl2⟩:∃ t,lget (b.drop k)=t:=⟨_,rfl⟩
    by_cases hb3:e2≠0∨65535<n2
    ·rw[qzd hl (by omega) (by omega) hl2 hb3];rfl
    ·obtain rfl:e2=0:=by omega
     rw[jdw hl (by omega) (by omega) hl2 (by omega)]
     apply ih
     simp only[List.sum_append,qzc,List.sum_cons,List.sum_nil]
     omega
theorem filt_over {T:Int} {P:List Int} {b:List UInt8} {s n k e:Nat} (h:lget b=(n,k,e)) (hP:P.length≠256) (hn:T<P.sum+(n:Int)+1):filt T (hM P b s)=none:=by
 by_cases hb:e≠0∨65535<n
 ·rw[hM_bad h hP hb];rfl
 ·obtain rfl:e=0:=by omega
  rw[hM_more h hP (by omega)]
  exact filt_much _ _ _ _ (by simp only[List.sum_append,List.sum_cons,List.sum_nil];omega)
def hGot (T:Int) (b:List UInt8):Option (List Int × Nat):=filt T (hG [] b 0)
def qyp (P:List Int):List Int:=P++jqr (256 - P.length)
theorem hRow16_set {P:List Int} (h:P.length<256) (x:Int):(qyp P).set P.length x=qyp (P++[x]):=by
 obtain⟨d,hd⟩:∃ d,256 - P.length=d+1:=⟨255 - P.length,by omega⟩
 unfold qyp
 rw[hd,List.length_append,List.length_singleton,show 256 - (P.length+1)=d by omega]
 simp[jqr,List.replicate_succ]
theorem qgj {P:List Int} {n:Nat} (h:P.length+n≤256):qyp (P++jqr n)=qyp P:=by
 unfold qyp
 rw[List.append_assoc,List.length_append,qdk]
 congr 1
 simp only[jqr,List.replicate_append_replicate]
 congr 1
 omega
theorem hRow16_nil:qyp []=List.replicate 256 0:=rfl
theorem hRow16_full {P:List Int} (h:P.length=256):qyp P=P:=by simp[qyp,h,jqr]
def NextSays (l:List UInt8) (at_ below:Nat) (bad:Bool) (k s:Nat) (bad':Bool):Prop :=
 (bad'=bad∧k<below∧∃ j,lget (l.drop at_)=(k,j,0)∧s=at_+j)∨(bad'=true∧k=0∧s=at_∧∃ q j e,lget (l.drop at_)=(q,j,e)∧(e≠0∨below≤q))
def GetInv (G:Option (List Int × Nat)) (T:Int) (l:List UInt8) (a:Nat) (lf:Int) (s:Nat) (bad:Bool) (Q:List Int):Prop :=
 (bad=true∧filt T G=none)∨(bad=false∧∃ P:List Int,Q=qyp P∧P.length=a∧P.sum+lf=T∧0≤lf∧filt T G=filt T (hM P (l.drop s) s))
theorem inv_start {T:Int} {l:List UInt8} {k s:Nat} {bad:Bool} (hT:0≤T) (h:NextSays l 0 257 false k s bad):k≤256∧GetInv (hG [] l 0) T l k T s bad (List.replicate 256 0):=by
 rcases h with ⟨rfl,hk,j,hl,rfl⟩ | ⟨rfl,rfl,rfl,q,j,e,hl,hb⟩
 ·rw[List.drop_zero] at hl
  refine⟨by omega,.inr ⟨rfl,jqr k,?_,qdk k,by rw[qzc];omega,hT,?_⟩⟩
  ·have:=qgj (P:=[]) (n:=k) (by simp;omega)
   rw[List.nil_append] at this
   rw[this,hRow16_nil]
  ·rw[hG_mid hl (by simp;omega),List.nil_append,Nat.zero_add]
 ·rw[List.drop_zero] at hl
  exact⟨Nat.zero_le _,.inl ⟨rfl,by rw[hG_bad hl (by simp;omega)];rfl⟩⟩
theorem inv_step {G:Option (List Int × Nat)} {T:Int} {l:List UInt8} {a s:Nat} {lf:Int} {Q:List Int} {k1 s1 k2 s2:Nat} {b1 b2:Bool} (h:GetInv G T l a lf s false Q) (ha:a<256) (hlf:lf≤65536) (h1:NextSays l s lf.toNat false k1 s1 b1) (h2:NextSays l s1 (256 - a) b1 k2 s2 b2) :
  a+(1+k2)≤256∧(k1:Int)≤lf∧GetInv G T l (a+(1+k2)) (lf - (1+(k1:Int))) s2 b2 (Q.set a (1+(k1:Int))):=by
 rcases h with ⟨h,-⟩ | ⟨-,P,rfl,rfl,hs,h0,hG⟩
 ·cases h
 have hk2:P.length+(1+k2)≤256:=by
  rcases h2 with ⟨-,g,-⟩ | ⟨-,g,-⟩
  ·omega
  ·omega
 rcases h1 with ⟨rfl,g1,j1,hl1,rfl⟩ | ⟨rfl,rfl,rfl,q,j,e,hl,hb⟩
 ·refine⟨hk2,by omega,?_⟩
  rw[hM_more hl1 (by omega) (by omega),List.drop_drop] at hG
  rw[hRow16_set ha,Int.add_comm 1 (k1:Int)]
  have hsum:(P++[(k1:Int)+1]).sum=P.sum+(k1+1):=by simp
  have hlen:(P++[(k1:Int)+1]).length=P.length+1:=by simp
  rcases h2 with ⟨rfl,g2,j2,hl2,rfl⟩ | ⟨rfl,rfl,rfl,q,j,e,hl,hb⟩
  ·refine .inr ⟨rfl,(P++[(k1:Int)+1])++jqr k2,(qgj (by rw[hlen];omega)).symm,by rw[List.length_append,hlen,qdk];omega,by rw[List.sum_append,hsum,qzc];omega,by omega,?_⟩
   rw[hG,hG_mid hl2 (by rw[hlen];omega),List.drop_drop]
  ·refine .inl ⟨rfl,?_⟩
   rw[hG,hG_bad hl (by rw[hlen];omega)]
   rfl
 ·refine⟨hk2,by omega,.inl ⟨?_,?_⟩⟩
  ·rcases h2 with ⟨rfl,-⟩ | ⟨rfl,-⟩ <;> rfl
  ·rw[hG]
   by_cases he:e=0
   ·exact filt_over hl (by omega) (by omega)
   ·rw[hM_bad hl (by omega) (.inl he)];rfl
theorem inv_end {G:Option (List Int × Nat)} {T:Int} {l:List UInt8} {a s:Nat} {lf:Int} {bad:Bool} {Q:List Int} (h:GetInv G T l a lf s bad Q) (ha:bad=false→a=256) :
  (bad=true∨lf≠0→filt T G=none)∧(bad=false→lf=0→filt T G=some (Q,s)):=by
 rcases h with ⟨rfl,h⟩ | ⟨rfl,P,rfl,rfl,hs,h0,hG⟩
 ·exact⟨fun _=>h,fun h=>by cases h⟩
 ·have hP:=ha rfl
  rw[hM_end hP] at hG
  rw[hG,hRow16_full hP]
  refine⟨fun h=>?_,fun _ h=>?_⟩
  ·rcases h with h | h
   ·cases h
   ·simp only[filt,Option.bind_some];rw[if_neg (by omega)]
  ·simp only[filt,Option.bind_some];rw[if_pos (by omega)]
end
end Go.Proofs.YtflcmmeoppdhdaaGreatDoor
