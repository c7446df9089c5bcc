/- Layer 20: the program's depths, lens, halves. · Layer 20: the program's lens of counts. · Layer 20: the program's Of. · Layer 21: the reference's Check and Codes. · Layer 21: the program's codes. · .. -/
import Derived.Test.YtflcmmeoppdhdaaGreatDoorQ13
import Derived.Test.YtflcmmeoppdhdaaGreatDoorQ22
import Derived.Deep.DeepCutAuto
set_option maxHeartbeats 2000000
set_option maxRecDepth 100000
namespace Go.Proofs.YtflcmmeoppdhdaaGreatDoor
open Tryz
section
open Go.RowKit Go.Sort Go.Shelf
def depL (d:Nat→Nat) (N k:Nat):List Nat:=(List.range N).map fun j=>if k≤j then d j else 0
theorem depL_len (d:Nat→Nat) (N k:Nat):(depL d N k).length=N:=by simp[depL]
theorem depL_get (d:Nat→Nat) {N:Nat} (k:Nat) {j:Nat} (h:j<N):(depL d N k).getD j 0=if k≤j then d j else 0:=by
 simp[depL,List.getD_eq_getElem?_getD,h]
theorem depL_start (d:Nat→Nat) {N k:Nat} (h:∀ j,j<N→k≤j→d j=0):List.replicate N 0=depL d N k:=by
 apply List.ext_getElem (by simp[depL])
 intro i h1 h2
 simp only[List.length_replicate] at h1
 simp only[depL,List.getElem_replicate,List.getElem_map,List.getElem_range]
 split
 ·exact (h i h1 (by assumption)).symm
 ·rfl
theorem depL_set (d:Nat→Nat) (N k:Nat):(depL d N (k+1)).set k (d k)=depL d N k:=by
 apply List.ext_getElem (by simp[depL])
 intro i h1 h2
 rw[List.getElem_set]
 simp only[depL,List.getElem_map,List.getElem_range]
 by_cases e:k=i
 ·subst e;rw[if_pos rfl,if_pos jw]
 ·rw[if_neg e]
  by_cases h:k≤i
  ·rw[if_pos (by omega),if_pos h]
  ·rw[if_neg (by omega),if_neg h]
theorem qwd.small {c:List Int} {ab:List Nat} {g:For} (h:qwd c ab g):∀ n i,i<g.N→g.N - i≤n→g.d i≤g.N - 1 - i:=by
 intro n
 induction n with
 | zero=>intro i h1 h2;omega
 | succ n ih =>
  intro i h1 h2
  by_cases e:i=g.N - 1
  ·subst e;rw[h.top (by omega)];omega
  ·obtain⟨h3,h4,h5⟩:=h.low i (by omega)
   have:=ih _ h4 (by omega)
   omega
def DepsV (B:Nat) (c:List Int) (v:Value) (w:World):Prop :=
 ∃ g,Huff (For.start (posL c).length (wtL c)) g∧(posL c).length≤g.N∧g.N≤8192∧(∀ i,i<g.N→g.d i≤8192)∧w.ownsRow B 3 1 v g.N (plv (depL g.d g.N 0))
section
variable {w:World} {A:Option Addr} {n m:Nat} {c:List Int}
theorem lens_depths (hr:Rd w w.heap.size A (zvs c)) (hn:c.length=n) (hn1:n≤4096) (hc:∀ x∈c,0≤x∧x≤1099511627776) (hsum:c.sum≤9007199254740992) :
  Calls prog 209 #[.slice A n m] w fun e w'=>∃ v,e=.returned v∧DepsV w.heap.size c v w'∧Below w.heap.size w w':=by
 have C:=jq (lens_tree (m:=m) hr hn hn1 hc hsum)
 have hL:(posL c).length≤4096:=by have:=rankL_le c c.length;rw[qql] at this;omega
 have HL:=jq hL
 clear hr hn hn1 hc hsum hL
 go_enter func209,ntmps209
 go_wp2_with fail
 refine C.out.mono ?_
 rintro _ w1 ⟨g,ab,v,rfl,ht,hown,hb⟩
 clear C
 obtain⟨A1,c1,rfl,hnc,hcm,hG⟩:=jjk hown
 obtain⟨N,hN⟩:∃ N,N=g.N:=⟨_,rfl⟩
 have hlen:=ht.len
 rw[←hN] at hlen
 rw[hlen] at hown hnc hG ⊢
 have hN8:N≤8192:=by have:=ht.few;have:=HL.out;omega
 have hmk:=fun W=>qvs N (by omega) W
 have HT:=jq (And.intro ht (And.intro hN hlen))
 have HOWN:=jq hown
 have HB:=jq hb
 have hbs:=hb.size
 clear ht hown hb hN hlen
 go_wp2
 have hl0:(plv (List.replicate N 0)).length=N:=by simp[plv_length]
 have h1:=own_full w1 (base:=w.heap.size) (e:=3) (xs:=plv (List.replicate N 0)) hl0 (by simp only[maxLen];omega) hbs
 have HOW1:=jq (HOWN.out.alloc (.cells (plv (List.replicate N 0)).toArray 3))
 have HB1:=jq (HB.out.alloc hbs (.cells (plv (List.replicate N 0)).toArray 3))
 have hGne:N=0∨∃ a,A1=some ⟨a,0,none⟩∧w.heap.size≤a∧a<w1.heap.size:=by
  rcases hG with e | ⟨a,e1,e2,e3⟩
  ·exact .inl e
  ·exact .inr ⟨a,e1,e2,e3⟩
 obtain⟨G,hGe⟩:∃ G,G=w1.heap.size:=⟨_,rfl⟩
 rw[←hGe] at h1 hGne ⊢
 have hGlt:G<(w1.alloc (.cells (plv (List.replicate N 0)).toArray 3)).heap.size:=by simp;omega
 have hBG:w.heap.size≤G:=by omega
 generalize w1.alloc (.cells (plv (List.replicate N 0)).toArray 3)=W1 at h1 HOW1 HB1 hGlt ⊢
 clear hmk hl0 HOWN HB hbs hGe hG
 have hst:N=0∨∃ K,N=K+1∧W1.ownsRow w.heap.size 3 1 (.slice (some ⟨G,0,none⟩) N N) N (plv (depL g.d N K)):=by
  by_cases e:N=0
  ·exact .inl e
  ·refine .inr ⟨N - 1,by omega,?_⟩
   rw[←depL_start g.d (fun j hj hk=>by
    have:=HT.out.1.top (by have:=HT.out.2.1;omega)
    rw[←HT.out.2.1] at this
    rw[show j=N - 1 by omega];exact this)]
   exact h1
 have HST:=jq hst
 have H1:=jq h1
 clear hst h1
 by_cases hN0:N=0
 ·subst hN0
  have HEND:=jq (show DepsV w.heap.size c (.slice (some ⟨G,0,none⟩) 0 0) W1 from ⟨g,HT.out.1.huff,HT.out.1.most,by have:=HT.out.2.1;omega,fun i hi=>by have:=HT.out.2.1;omega,by rw[←HT.out.2.1];exact H1.out⟩)
  clear HST HT HOW1 H1 hGne
  go_loopw [5] (fun v wr=>v=.int .i64 (-2)∧wr=W1) (fun _ _=>0)
  case atStart=>exact⟨rfl,rfl⟩
  case round =>
   obtain⟨rfl,rfl⟩:=hrel
   go_wp2
   go_ret
   exact⟨_,rfl,HEND.out,HB1.out⟩
 ·obtain⟨K,rfl⟩:∃ K,N=K+1:=⟨N - 1,by omega⟩
  obtain⟨a,rfl,ha1,ha2⟩:∃ a,A1=some ⟨a,0,none⟩∧w.heap.size≤a∧a<G:=hGne.elim (fun e=>absurd e hN0) id
  have hst2:W1.ownsRow w.heap.size 3 1 (.slice (some ⟨G,0,none⟩) (K+1) (K+1)) (K+1) (plv (depL g.d (K+1) K)):=by
   rcases HST.out with e | ⟨K',e,h⟩
   ·omega
   ·obtain rfl:K=K':=by omega
    exact h
  have HST2:=jq hst2
  clear hst2 HST H1 hGne hN0
  go_loopw [5] (fun v wr=>∃ k:Nat,k≤K∧v=.int .i64 ((k:Int) - 1)∧wr.ownsRow w.heap.size 3 1 (.slice (some ⟨G,0,none⟩) (K+1) (K+1)) (K+1) (plv (depL g.d (K+1) k))∧wr.ownsRow w.heap.size 3 1 (.slice (some ⟨a,0,none⟩) (K+1) c1) (K+1) (plv ab)∧Below w.heap.size w wr) (fun v _=>(intOf v+1).toNat)
  case atStart=>exact⟨K,Nat.le_refl _,by congr 1;omega,HST2.out,HOW1.out,HB1.out⟩
  case round =>
   clear HST2 HOW1 HB1
   obtain⟨k,hk,rfl,ho,hoa,hb⟩:=hrel
   have HO:=jq ho
   have HOA:=jq hoa
   have HB:=jq hb
   cases k with
   | zero =>
    have HEND:=jq (show DepsV w.heap.size c (.slice (some ⟨G,0,none⟩) (K+1) (K+1)) wr from ⟨g,HT.out.1.huff,HT.out.1.most,by have:=HT.out.2.1;omega,fun i hi=>by have:=HT.out.1.small _ i hi jw;have:=HT.out.2.1;omega,by rw[←HT.out.2.1];exact ho⟩)
    clear ho hoa hb
    go_wp2
    go_ret
    exact⟨_,rfl,HEND.out,HB.out⟩
   | succ k =>
    obtain⟨q1,q2,q3⟩:=HT.out.1.low k (by have:=HT.out.2.1;omega)
    have hkab:k<ab.length:=by have:=HT.out.2.2;omega
    obtain⟨q,hq⟩:∃ q,q=ab.getD k 0:=⟨_,rfl⟩
    have hcA:=own_at hoa (qbn ab k hkab)
    rw[←hq] at q1 q2 q3 hcA
    have hqN:q<K+1:=by have:=HT.out.2.1;omega
    have hcQ:=own_at ho (qbn (depL g.d (K+1) (k+1)) q (by rw[depL_len];exact hqN))
    rw[depL_get _ _ hqN,if_pos (by omega)] at hcQ
    have hcK:=own_at ho (qbn (depL g.d (K+1) (k+1)) k (by rw[depL_len];omega))
    have hfK:=ho.frozenAt k
    have hdq:=HT.out.1.small _ q q2 jw
    obtain⟨D,hD⟩:∃ D,D=g.d q:=⟨_,rfl⟩
    have hD8:D≤8192:=by have:=HT.out.2.1;omega
    rw[←hD] at hcQ q3
    have hst:=ho.stored k (.int .i64 ((D+1:Nat):Int))
    rw[plv_set,←q3,depL_set] at hst
    rw[q3] at hst
    have HS1:=jq hst.1
    have HS2:=jq (hoa.kept hst.2 (.inr (by show some a≠some G;intro e;injection e with e;omega)))
    have HB2:=jq (hb.setCell (p:=⟨G,k,none⟩) hBG (.int .i64 ((D+1:Nat):Int)))
    have e1:((k+1:Nat):Int) - 1=(k:Int):=by omega
    have e2:((D+1:Nat):Int)=(D:Int)+1:=by omega
    rw[e1]
    simp only[e2] at HS1 HS2 HB2
    clear ho hoa hb hst hq hD q1 q2 q3 hdq e1 e2 HO HOA HB
    go_wp2
    go_roundw
    case rel=>exact⟨k,by omega,rfl,HS1.out,HS2.out,HB2.out⟩
    case measure=>simp[intOf]
end
def qdb (w:World) (g:Nat) (d:Nat→Nat) (N r:Nat) (v:Value):Prop :=
 ∃ A n c,v=.slice A n c∧n+r=N∧n≤c∧∀ j,j<n→∃ b off,A=some ⟨b,off,none⟩∧b≠g∧b<w.heap.size∧w.cell? ⟨b,off+j,none⟩=some (.int .i64 (d (r+j):Int))
def qxh (d:Nat→Nat) (c:List Int) (k:Nat):List Int:=(jmt d c 0).take k++List.replicate (c.length - k) 0
theorem lensK_zero (d:Nat→Nat) (c:List Int):qxh d c 0=List.replicate c.length 0:=by simp[qxh]
theorem lensK_all (d:Nat→Nat) (c:List Int):qxh d c c.length=jmt d c 0:=by simp[qxh,List.take_of_length_le,jwc]
theorem lensK_len (d:Nat→Nat) (c:List Int) {k:Nat} (h:k≤c.length):(qxh d c k).length=c.length:=by simp[qxh,jwc];omega
theorem lensK_step (d:Nat→Nat) (c:List Int) {k:Nat} (h:k<c.length) (x:Int) (hx:(jmt d c 0)[k]?=some x):(qxh d c k).set k x=qxh d c (k+1):=by
 unfold qxh
 have hl:((jmt d c 0).take k).length=k:=by simp[jwc];omega
 rw[List.set_append_right _ _ (by omega),hl,Nat.sub_self,List.take_add_one,hx]
 have e:c.length - k=(c.length - (k+1))+1:=by omega
 rw[e,List.replicate_succ,List.set_cons_zero,List.append_assoc]
 rfl
theorem lensK_skip (d:Nat→Nat) (c:List Int) {k:Nat} (h:k<c.length) (hx:(jmt d c 0)[k]?=some 0):qxh d c k=qxh d c (k+1):=by
 rw[←lensK_step d c h 0 hx]
 unfold qxh
 have hl:((jmt d c 0).take k).length=k:=by simp[jwc];omega
 rw[List.set_append_right _ _ (by omega),hl,Nat.sub_self]
 have e:c.length - k=(c.length - (k+1))+1:=by omega
 rw[e,List.replicate_succ,List.set_cons_zero]
theorem zvs_at (l:List Int) {k:Nat} (h:k<l.length):(zvs l)[k]?=some (.int .i64 (l.getD k 0)):=by
 simp[zvs,List.getD_eq_getElem?_getD,h]
def LensV (B:Nat) (out:List Int) (v:Value) (w:World):Prop:=∃ g n,v=.slice (some ⟨g,0,none⟩) n n∧n=out.length∧B≤g∧Blk w g 3 (zvs out)
section
variable {w:World} {A:Option Addr} {n m:Nat} {c:List Int}
def LensStart (w:World) (c:List Int) (n:Nat) (s3 s4:Value) (wx:World):Prop :=
 ∃ (g:Nat) (f:For),s3=.slice (some ⟨g,0,none⟩) n n∧w.heap.size≤g∧Blk wx g 3 (zvs (List.replicate n 0))∧Huff (For.start (posL c).length (wtL c)) f∧(posL c).length≤f.N∧f.N≤8192∧(∀ i,i<f.N→f.d i≤8192)∧qdb wx g f.d f.N 0 s4∧Below w.heap.size w wx
theorem left_start {w:World} {B:Nat} {g:Nat} {f:For} {v:Value} (ho:w.ownsRow B 3 1 v f.N (plv (depL f.d f.N 0))) (hne:∀ b,v.ownBlock=some b→b≠g):qdb w g f.d f.N 0 v:=by
 obtain⟨A,c,rfl,hnc,hcm,hG⟩:=jjk ho
 refine⟨A,f.N,c,rfl,rfl,hnc,fun j hj=>?_⟩
 rcases hG with e | ⟨b,rfl,h1,h2⟩
 ·omega
 ·refine⟨b,0,rfl,hne b rfl,h2,?_⟩
  have:=own_at ho (qbn (depL f.d f.N 0) j (by rw[depL_len];exact hj))
  rw[depL_get _ _ hj,if_pos (Nat.zero_le _)] at this
  simpa using this
theorem qdb.set {w:World} {g N r i:Nat} {d:Nat→Nat} {v u:Value} (h:qdb w g d N r v):qdb (w.setCell ⟨g,i,none⟩ u) g d N r v:=by
 obtain⟨A,n,c,h1,h2,h3,h4⟩:=h
 refine⟨A,n,c,h1,h2,h3,fun j hj=>?_⟩
 obtain⟨b,off,e1,e2,e3,e4⟩:=h4 j hj
 exact⟨b,off,e1,e2,by simpa [World.setCell] using e3,by rw[World.cell?_setCell_other _ _ _ _ (by intro e;injection e with e _;exact e2 e.symm)];exact e4⟩
theorem lens_start1 {W w1:World} {v:Value} (hW:Below w.heap.size w W) (hg:W.heap[w.heap.size]?=some (.cells (plv (List.replicate n 0)).toArray 3 (0,0))) (hd:DepsV W.heap.size c v w1) (hb:Below W.heap.size W w1) :
  LensStart w c n (.slice (some ⟨w.heap.size,0,none⟩) n n) v w1:=by
 obtain⟨f,h1,h2,h3,h4,h5⟩:=hd
 have hlt:w.heap.size<W.heap.size:=(Array.getElem?_eq_some_iff.1 hg).1
 have hg2:Blk W w.heap.size 3 (zvs (List.replicate n 0)):=by
  unfold Blk;rw[hg];simp[plv]
 exact⟨w.heap.size,f,rfl,Nat.le_refl _,hg2.grow hb,h1,h2,h3,h4,left_start h5 (fun b hb2=>by have:=jjb h5 b hb2;omega),hW.trans (hb.mono (Nat.le_of_lt hlt))⟩
theorem lens_start2 {W w1:World} {v:Value} (hW:Below w.heap.size w W) (hs:W.heap.size=w.heap.size) (hd:DepsV W.heap.size c v w1) (hb:Below W.heap.size W w1) :
  LensStart w c n (.slice (some ⟨w1.heap.size,0,none⟩) n n) v (w1.alloc (.cells (plv (List.replicate n 0)).toArray 3)):=by
 obtain⟨f,h1,h2,h3,h4,h5⟩:=hd
 have hsz:=hb.size
 refine⟨w1.heap.size,f,rfl,by omega,?_,h1,h2,h3,h4,left_start (h5.alloc _) (fun b hb2=>by have:=(h5.lt b hb2).2;omega),((hW.trans (by rw[←hs];exact hb)).alloc (by omega) _)⟩
 have:=heap_alloc_new w1 (.cells (plv (List.replicate n 0)).toArray 3)
 unfold Blk
 rw[this]
 simp[plv]
theorem lens_lensOf (hr:Rd w w.heap.size A (zvs c)) (hn:c.length=n) (hn1:n≤4096) (hc:∀ x∈c,0≤x∧x≤1099511627776) (hsum:c.sum≤9007199254740992) :
  Calls prog 162 #[.slice A n m] w fun e w'=>∃ v out,e=.returned v∧qgp c out∧LensV w.heap.size out v w'∧Below w.heap.size w w':=by
 have C:=jq (fun W (hb:Below w.heap.size w W)=>lens_depths (m:=m) (w:=W) ((hr.below hb).more hb.size) hn hn1 hc hsum)
 have hmk:=fun W=>qvs n (by omega) W
 have HR:=jq hr
 have HC:=jq hn
 have HX:=jq hc
 clear hr hn hc hsum
 go_enter func162,ntmps162
 go_upto_region 1 with fail
 go_cut [3,4] (fun s3 s4 wx=>LensStart w c n s3 s4 wx)
 case first =>
  go_region_with (go_at_call 209;refine (C.out _ (by first | exact Below.refl _ _ | exact (Below.refl _ _).drew | exact (Below.refl _ _).drew.alloc jw _)).mono ?_;rintro _ w1 ⟨v1,rfl,hd1,hb1⟩;have HD1:=jq hd1;have HB1:=jq hb1;clear hd1 hb1)
  all_goals (go_wp2_with fail)
  all_goals go_meet
  ·exact lens_start1 (W:=(w.drew.alloc (.cells (plv (List.replicate n 0)).toArray 3))) ((Below.refl _ _).drew.alloc jw _) (heap_alloc_new w.drew _) HD1.out HB1.out
  ·exact lens_start2 (W:=w.drew) (Below.refl _ _).drew rfl HD1.out HB1.out
 obtain⟨g,f,rfl,hg,hblk,hhuff,hLN,hN8,hd8,hleft,hb⟩:=hcut
 have HB1:=jq hb
 have HBL:=jq hblk
 have HLF:=jq hleft
 have HH:=jq (And.intro hhuff (And.intro hLN (And.intro hN8 hd8)))
 clear hb hblk hleft hhuff hLN hN8 hd8 C hmk
 go_wp2
 go_loopw [4,14] (fun s4 i wr=>∃ k:Nat,k≤n∧i=.int .i64 (k:Int)∧Blk wr g 3 (zvs (qxh f.d c k))∧qdb wr g f.d f.N (jqn c k) s4∧Below w.heap.size w wr) (fun _ i _=>n - (intOf i).toNat)
 case atStart=>exact⟨0,Nat.zero_le _,rfl,by rw[lensK_zero,HC.out];exact HBL.out,by simpa [jqn,posL] using HLF.out,HB1.out⟩
 case round =>
  clear HBL HLF HB1
  obtain⟨k,hk,rfl,hblk,hleft,hb⟩:=hrel
  obtain⟨A4,n4,c4,rfl,hn4,hnc4,hcell4⟩:=id hleft
  have HBL:=jq hblk
  have HLF:=jq hleft
  have HB:=jq hb
  by_cases hlt:k<n
  ·have hkc:k<c.length:=by have:=HC.out;omega
   obtain⟨b,off,rfl,-,hcell⟩:=jjn (HR.out.below hb) hkc
   have hki:(k:Int)<(n:Int):=by omega
   have hx:=HX.out _ (List.getElem_mem hkc)
   have hget:=qqw f.d c 0 k hkc
   rw[Nat.zero_add] at hget
   by_cases h0:0<c[k]
   ·have hrl:=rankL_lt c hkc h0
    have hrs:=jvf c k hkc
    rw[if_pos h0] at hget hrs
    have hn4p:0<n4:=by have:=HH.out.2.1;omega
    obtain⟨b4,o4,rfl,hb4g,hb4s,hc4⟩:=hcell4 0 hn4p
    have hd8:=HH.out.2.2.2 (jqn c k) (by have:=HH.out.2.1;omega)
    rw[Nat.add_zero,Nat.add_zero] at hc4
    have hck:=hblk.cell k
    rw[zvs_at _ (by rw[lensK_len _ _ (by omega)];exact hkc)] at hck
    have hfk:=hblk.frozen k
    have hgs:=hblk.lt
    have hset:=hblk.set_ k (.int .i64 ((max (f.d (jqn c k)) 1:Nat):Int))
    rw[jms,lensK_step f.d c hkc _ hget] at hset
    have HSET:=jq hset
    have hle:qdb (wr.setCell ⟨g,k,none⟩ (.int .i64 ((max (f.d (jqn c k)) 1:Nat):Int))) g f.d f.N (jqn c k) (.slice (some ⟨b4,o4,none⟩) n4 c4):=hleft.set
    obtain⟨A5,n5,c5,e5,-,-,hcell5⟩:=hle
    injection e5 with e51 e52 e53
    subst e51 e52 e53
    have HC5:=jq hcell5
    have HB5:=jq (hb.setCell (p:=⟨g,k,none⟩) hg (.int .i64 ((max (f.d (jqn c k)) 1:Nat):Int)))
    obtain⟨D,hD⟩:∃ D,D=f.d (jqn c k):=⟨_,rfl⟩
    rw[←hD] at hc4 hd8 HSET HC5 HB5
    have hmax:max (D:Int) 1=((max D 1:Nat):Int):=by omega
    obtain⟨M,hM⟩:∃ M,M=max D 1:=⟨_,rfl⟩
    rw[←hM] at hmax HSET HC5 HB5
    obtain⟨x,hxx⟩:∃ x,x=c[k]'hkc:=⟨_,rfl⟩
    rw[←hxx] at hcell h0
    obtain⟨y,hy⟩:∃ y,y=(qxh f.d c k).getD k 0:=⟨_,rfl⟩
    rw[←hy] at hck
    have HRS:=jq (And.intro hrs hn4)
    clear hblk hleft hb hget hrl hrs hxx hx hy hset hcell4 hcell5 hD hM HBL HLF HB hn4
    go_wp2
    refine⟨⟨k+1,by omega,by go_num,HSET.out,⟨_,n4 - 1,c4 - 1,rfl,by have:=HRS.out;omega,by omega,fun j hj=>?_⟩,HB5.out⟩,by simp[intOf];omega⟩
    obtain⟨b,off,e1,e2,e3,e4⟩:=HC5.out (j+1) (by omega)
    injection e1 with e1
    injection e1 with e5 e6
    subst e5 e6
    refine⟨b4,o4+1,if_neg (by omega),e2,e3,?_⟩
    rw[HRS.out.1,show o4+1+j=o4+(j+1) by omega,show jqn c k+1+j=jqn c k+(j+1) by omega]
    exact e4
   ·have hrs:=rankL_skip hkc h0
    rw[if_neg h0] at hget
    have HEND:=jq (And.intro (show Blk wr g 3 (zvs (qxh f.d c (k+1))) by rw[←lensK_skip f.d c hkc hget];exact hblk) (show qdb wr g f.d f.N (jqn c (k+1)) (.slice A4 n4 c4) by rw[hrs];exact hleft))
    obtain⟨x,hxx⟩:∃ x,x=c[k]'hkc:=⟨_,rfl⟩
    rw[←hxx] at hcell h0
    clear hblk hleft hb hget hrs hxx hx hcell4 HBL HLF hn4
    go_wp2
    go_roundw
    case rel=>exact⟨k+1,by omega,by go_num,HEND.out.1,HEND.out.2,HB.out⟩
    case measure=>simp[intOf];omega
  ·obtain rfl:k=n:=by omega
   have hkl:c.length=k:=HC.out
   rw[←hkl,lensK_all] at hblk
   have HEND:=jq (show LensV w.heap.size (jmt f.d c 0) (.slice (some ⟨g,0,none⟩) k k) wr from ⟨g,k,rfl,by rw[jwc,hkl],hg,hblk⟩)
   clear hblk hleft hb hcell4 hkl hn4 HBL HLF
   go_wp2
   go_ret
   exact⟨_,_,rfl,⟨f,HH.out.1,rfl⟩,HEND.out,HB.out⟩
end
theorem lensWrong_any (x:Int) (w:World):Calls prog 161 #[.int .i64 x] w fun e w'=>e=.returned (.bool (nBad x))∧w'=w:=by
 unfold nBad
 go_enter func161,ntmps161
 by_cases h:x<0
 ·rw[decide_eq_true h,Bool.true_or]
  go_wp2
  go_ret
  exact⟨rfl,rfl⟩
 ·rw[decide_eq_false h,Bool.false_or]
  go_wp2
  go_ret
  exact⟨rfl,rfl⟩
def longB (x:Int):Bool:=decide (15<x)
theorem lensLong_any (x:Int) (w:World):Calls prog 163 #[.int .i64 x] w fun e w'=>e=.returned (.bool (longB x))∧w'=w:=by
 unfold longB
 go_enter func163,ntmps163
 go_wp2
 go_ret
 exact⟨rfl,rfl⟩
theorem short_iff (o:List Int):o.any longB=false↔Short o:=by
 unfold Short
 rw[List.any_eq_false]
 constructor
 ·intro h x hx
  have:=h x hx
  simp[longB] at this
  exact this
 ·intro h x hx
  have:=h x hx
  simp[longB]
  omega
def Good (c:List Int):Prop:=∀ x∈c,0≤x∧x≤1099511627776
theorem good_half {c:List Int} (h:Good c):Good (c.map jvg):=fun x hx=>by
 obtain⟨y,hy,rfl⟩:=List.mem_map.1 hx
 have:=h y hy
 have:=half_le this.1
 omega
theorem good_bad {c:List Int}:c.any nBad=false↔Good c:=by
 unfold Good
 rw[List.any_eq_false]
 constructor
 ·intro h x hx
  have:=h x hx
  simp[nBad] at this
  omega
 ·intro h x hx
  have:=h x hx
  simp[nBad]
  omega
theorem good_sum {c:List Int} (h:Good c):0≤c.sum∧c.sum≤1099511627776*c.length:=by
 induction c with
 | nil=>simp
 | cons x c ih =>
  have h1:=ih fun y hy=>h y (List.mem_cons_of_mem _ hy)
  have h2:=h x List.mem_cons_self
  rw[List.sum_cons,List.length_cons]
  omega
theorem LensV.rd {B:Nat} {o:List Int} {v:Value} {w:World} (h:LensV B o v w):∃ A n,v=.slice A n n∧o.length=n∧Rd w w.heap.size A (zvs o):=by
 obtain⟨g,n,rfl,hn,-,hb⟩:=h
 exact⟨_,n,rfl,hn.symm,Rd.of_blk hb⟩
theorem LensV.more {B B':Nat} {o:List Int} {v:Value} {w:World} (h:LensV B o v w) (hB:B'≤B):LensV B' o v w:=by
 obtain⟨g,n,rfl,hn,h1,h2⟩:=h
 exact⟨g,n,rfl,hn,by omega,h2⟩
def halfK (c:List Int) (k:Nat):List Int:=(c.take k).map jvg++List.replicate (c.length - k) 0
theorem halfK_zero (c:List Int):halfK c 0=List.replicate c.length 0:=by simp[halfK]
theorem halfK_all (c:List Int):halfK c c.length=c.map jvg:=by simp[halfK]
theorem halfK_len (c:List Int) {k:Nat} (h:k≤c.length):(halfK c k).length=c.length:=by simp[halfK];omega
theorem halfK_set (c:List Int) {k:Nat} (h:k<c.length):(halfK c k).set k (jvg c[k])=halfK c (k+1):=by
 unfold halfK
 have hl:((c.take k).map jvg).length=k:=by simp;omega
 rw[List.set_append_right _ _ (by omega),hl,Nat.sub_self,List.take_add_one,List.getElem?_eq_getElem h]
 have e:c.length - k=(c.length - (k+1))+1:=by omega
 rw[e,List.replicate_succ,List.set_cons_zero,List.map_append,List.append_assoc]
 rfl
section
variable {w:World} {A:Option Addr} {n m:Nat} {c:List Int}
theorem lens_halves (hr:Rd w w.heap.size A (zvs c)) (hn:c.length=n) (hn1:n≤4096) (hc:Good c) :
  Calls prog 164 #[.slice A n m] w fun e w'=>∃ v,e=.returned v∧LensV w.heap.size (c.map jvg) v w'∧Below w.heap.size w w':=by
 have hmk:=fun W=>qvs n (by omega) W
 have HR:=jq hr
 have HC:=jq hn
 have HX:=jq hc
 clear hr hn hc
 go_enter func164,ntmps164
 go_wp2
 go_loopw [11] (fun i wr=>∃ k:Nat,k≤n∧i=.int .i64 (k:Int)∧Blk wr w.heap.size 3 (zvs (halfK c k))∧Below w.heap.size w wr) (fun i _=>n - (intOf i).toNat)
 case atStart=>exact⟨0,Nat.zero_le _,rfl,by
  have:=heap_alloc_new w (.cells (plv (List.replicate n 0)).toArray 3)
  unfold Blk
  rw[this,halfK_zero,HC.out]
  simp[plv],(Below.refl _ _).alloc jw _⟩
 case round =>
  clear hmk
  obtain⟨k,hk,rfl,hblk,hb⟩:=hrel
  have HBL:=jq hblk
  have HB:=jq hb
  by_cases hlt:k<n
  ·have hkc:k<c.length:=by have:=HC.out;omega
   obtain⟨b,off,rfl,-,hcell⟩:=jjn (HR.out.below hb) hkc
   have hx:=HX.out _ (List.getElem_mem hkc)
   have hki:(k:Int)<(n:Int):=by omega
   have hset:=hblk.set_ k (.int .i64 (jvg c[k]))
   rw[jms,halfK_set c hkc] at hset
   have hck:=hblk.cell k
   rw[zvs_at _ (by rw[halfK_len _ (by omega)];exact hkc)] at hck
   have hfk:=hblk.frozen k
   have hgs:=hblk.lt
   have HB5:=jq (hb.setCell (p:=⟨w.heap.size,k,none⟩) jw (.int .i64 (jvg c[k])))
   have e1:(c[k]+1).tdiv 2=jvg c[k]:=by unfold jvg;rw[Int.tdiv_eq_ediv_of_nonneg (by omega)]
   obtain⟨y,hy⟩:∃ y,y=(halfK c k).getD k 0:=⟨_,rfl⟩
   rw[←hy] at hck
   obtain⟨h,hh⟩:∃ h,h=jvg c[k]:=⟨_,rfl⟩
   have hh2:=half_le hx.1
   rw[←hh] at hset HB5 e1 hh2
   obtain⟨x,hxx⟩:∃ x,x=c[k]'hkc:=⟨_,rfl⟩
   rw[←hxx] at hcell hx e1 hh2
   have HS:=jq hset
   clear hblk hb hset hy hh hxx HBL HB
   go_wp2
   go_roundw
   case rel=>exact⟨k+1,by omega,by go_num,HS.out,HB5.out⟩
   case measure=>simp[intOf];omega
  ·obtain rfl:k=n:=by omega
   have hkl:c.length=k:=HC.out
   rw[←hkl,halfK_all] at hblk
   have HEND:=jq (show LensV w.heap.size (c.map jvg) (.slice (some ⟨w.heap.size,0,none⟩) k k) wr from ⟨w.heap.size,k,rfl,by simp[hkl],Nat.le_refl _,hblk⟩)
   clear hblk hb hkl HBL
   go_wp2
   go_ret
   exact⟨_,rfl,HEND.out,HB.out⟩
end
section
variable {w:World} {A:Option Addr} {n m:Nat} {l:List Int}
def natL (l:List Int):List Nat:=l.map Int.toNat
theorem jxq (l:List Int):(natL l).length=l.length:=List.length_map ..
theorem jgm (l:List Int) {i:Nat} (h:i<l.length):(natL l).getD i 0=(l[i]).toNat:=by unfold natL;simp[List.getD_eq_getElem?_getD,h]
theorem zvs_getC (l:List Int) {k:Nat} {x:Int} (h:l[k]?=some x):(zvs l)[k]?=some (.int .i64 x):=by rw[jql,h];rfl
end
structure CAt (w:World) (E g M n:Nat) (cs:List Pr) (es:List (Pr × Nat)):Prop where
 box:Blk w E 213 [.slice (some ⟨g,0,none⟩) n n,.map (some M)]
 row:Blk w g 215 (pvs cs)
 len:cs.length=n
 map:MapC w M es
section
variable {w w':World} {E g M n:Nat} {cs:List Pr} {es:List (Pr × Nat)}
theorem CAt.grow (h:CAt w E g M n cs es) (hb:Below w.heap.size w w'):CAt w' E g M n cs es:=⟨h.box.grow hb,h.row.grow hb,h.len,h.map.grow hb⟩
theorem codesOf_in (h:CAt w E g M n cs es) (i:Nat) (hi:i<n):Calls prog 105 #[.pointer (some ⟨E,0,none⟩),.int .i64 (i:Int)] w fun e w'=>e=.returned (.tuple #[.int .i64 ((pat cs i).1:Int),.int .i64 ((pat cs i).2:Int)])∧∃ q,w'=w.drewN q:=by
 have c0:=h.box.cell 0
 simp only[jy] at c0
 have r0:=h.row.cell (i*2)
 have r1:=h.row.cell (i*2+1)
 rw[pvs_get0 _ _ (by rw[h.len];exact hi)] at r0
 rw[pvs_get1 _ _ (by rw[h.len];exact hi)] at r1
 have hii:(i:Int)<(n:Int):=by omega
 obtain⟨x,hx⟩:∃ x,x=(pat cs i).1:=⟨_,rfl⟩
 obtain⟨y,hy⟩:∃ y,y=(pat cs i).2:=⟨_,rfl⟩
 rw[←hx] at r0 ⊢
 rw[←hy] at r1 ⊢
 clear h hx hy
 go_enter func105,ntmps105
 go_wp2
 go_quiet (fail)
 go_wp2
 go_ret2
 exact⟨rfl,_,rfl⟩
def letV (o:Option (Nat × Value)):Value:=match o with
 | some r=>.tuple #[r.2,.bool true]
 | none=>.tuple #[.int .i64 0,.bool false]
theorem codesLetter (h:CAt w E g M n cs es) (x y:Int):Calls prog 171 #[.pointer (some ⟨E,0,none⟩),.int .i64 x,.int .i64 y] w fun e w'=>e=.returned (letV (jgw x y es 0))∧w'=w:=by
 have c1:=h.box.cell 1
 simp only[jx,jy] at c1
 have hrun:=run_cget w M es h.map x y
 unfold jkj at hrun
 obtain⟨o,ho⟩:∃ o,o=jgw x y es 0:=⟨_,rfl⟩
 rw[←ho] at hrun ⊢
 clear ho h
 cases o with
 | none =>
  simp only at hrun
  unfold letV
  go_enter func171,ntmps171
  go_wp2
  go_ret2
  exact⟨rfl,rfl⟩
 | some r =>
  simp only at hrun
  unfold letV
  simp only
  go_enter func171,ntmps171
  go_wp2
  go_ret2
  exact⟨rfl,rfl⟩
theorem codesGive (h:CAt w E g M n cs es) (hne:E≠g) (i:Nat) (hi:i<n) (k:Pr) (hk:∀ p∈es,p.1≠k) :
  Calls prog 169 #[.pointer (some ⟨E,0,none⟩),.int .i64 (i:Int),qxx k] w fun e w'=>e=.returned (.tuple #[])∧CAt w' E g M n (cs.set i k) (es++[(k,i)])∧(w'.os=w.os∧w'.tape=w.tape∧w'.output=w.output∧w.heap.size≤w'.heap.size∧∀ j,j<w.heap.size→j≠g→j≠M→w'.heap[j]?=w.heap[j]?):=by
 obtain⟨a,b⟩:=k
 have c0:=h.box.cell 0
 have c1:=h.box.cell 1
 simp only[jx,jy] at c0 c1
 have r0:=h.row.cell (i*2)
 have r1:=h.row.cell (i*2+1)
 rw[pvs_get0 _ _ (by rw[h.len];exact hi)] at r0
 rw[pvs_get1 _ _ (by rw[h.len];exact hi)] at r1
 have f0:=h.row.frozen (i*2)
 have f1:=h.row.frozen (i*2+1)
 have hii:(i:Int)<(n:Int):=by omega
 have hE:=h.box.lt
 have hg:=h.row.lt
 have hM:=h.map.lt
 have H:=jq h
 obtain⟨x,hx⟩:∃ x,x=(pat cs i).1:=⟨_,rfl⟩
 obtain⟨y,hy⟩:∃ y,y=(pat cs i).2:=⟨_,rfl⟩
 rw[←hx] at r0
 rw[←hy] at r1
 have HK:=jq hk
 clear h hx hy hk
 unfold qxx jkj
 simp only
 go_enter func169,ntmps169
 go_wp2
 go_region
 have hMg:M≠g:=fun e=>by
  have h1:=H.out.map
  have h2:=H.out.row
  unfold MapC at h1;unfold Blk at h2
  rw[e] at h1;rw[h1] at h2;cases h2
 have hb1:Blk ((((w.setCell ⟨g,i*2,none⟩ (.int .i64 (a:Int))).setCell ⟨g,i*2+1,none⟩ (.int .i64 (b:Int))).alloc (.cells #[.int .i64 (a:Int),.int .i64 (b:Int)] 215)).drew) E 213 [.slice (some ⟨g,0,none⟩) n n,.map (some M)]:=(((H.out.box.setOther _ _ hne).setOther _ _ hne).alloc_ _).drew_
 have hr1:Blk ((((w.setCell ⟨g,i*2,none⟩ (.int .i64 (a:Int))).setCell ⟨g,i*2+1,none⟩ (.int .i64 (b:Int))).alloc (.cells #[.int .i64 (a:Int),.int .i64 (b:Int)] 215)).drew) g 215 (pvs (cs.set i (a,b))):=by
  rw[←pvs_set cs (a,b) i (by rw[H.out.len];exact hi)]
  exact (((H.out.row.set_ _ _).set_ _ _).alloc_ _).drew_
 have hm1:MapC ((((w.setCell ⟨g,i*2,none⟩ (.int .i64 (a:Int))).setCell ⟨g,i*2+1,none⟩ (.int .i64 (b:Int))).alloc (.cells #[.int .i64 (a:Int),.int .i64 (b:Int)] 215)).drew) M es:=((((H.out.map.set _ _ hMg).set _ _ hMg).grow ((Below.refl _ _).alloc jw _))).same rfl
 have hx1:Blk ((((w.setCell ⟨g,i*2,none⟩ (.int .i64 (a:Int))).setCell ⟨g,i*2+1,none⟩ (.int .i64 (b:Int))).alloc (.cells #[.int .i64 (a:Int),.int .i64 (b:Int)] 215)).drew) w.heap.size 215 [.int .i64 (a:Int),.int .i64 (b:Int)]:=by
  have h:=heap_alloc_new ((w.setCell ⟨g,i*2,none⟩ (.int .i64 (a:Int))).setCell ⟨g,i*2+1,none⟩ (.int .i64 (b:Int))) (.cells #[.int .i64 (a:Int),.int .i64 (b:Int)] 215)
  rw[show ((w.setCell ⟨g,i*2,none⟩ (.int .i64 (a:Int))).setCell ⟨g,i*2+1,none⟩ (.int .i64 (b:Int))).heap.size=w.heap.size by simp[World.setCell]] at h
  exact h
 have hfr:∀ j,j<w.heap.size→j≠g→((((w.setCell ⟨g,i*2,none⟩ (.int .i64 (a:Int))).setCell ⟨g,i*2+1,none⟩ (.int .i64 (b:Int))).alloc (.cells #[.int .i64 (a:Int),.int .i64 (b:Int)] 215)).drew).heap[j]?=w.heap[j]?:=fun j hj hjg=>by
  have h1:=((Below.refl ((w.setCell ⟨g,i*2,none⟩ (.int .i64 (a:Int))).setCell ⟨g,i*2+1,none⟩ (.int .i64 (b:Int))).heap.size ((w.setCell ⟨g,i*2,none⟩ (.int .i64 (a:Int))).setCell ⟨g,i*2+1,none⟩ (.int .i64 (b:Int)))).alloc jw (.cells #[.int .i64 (a:Int),.int .i64 (b:Int)] 215)).block j (by simpa [World.setCell] using hj)
  exact h1.trans ((Below.heap_setCell _ _ _ j hjg).trans (Below.heap_setCell _ _ _ j hjg))
 have hsz:w.heap.size≤((((w.setCell ⟨g,i*2,none⟩ (.int .i64 (a:Int))).setCell ⟨g,i*2+1,none⟩ (.int .i64 (b:Int))).alloc (.cells #[.int .i64 (a:Int),.int .i64 (b:Int)] 215)).drew).heap.size:=by simp[World.setCell]
 have HOS:=jq (show (((((w.setCell ⟨g,i*2,none⟩ (.int .i64 (a:Int))).setCell ⟨g,i*2+1,none⟩ (.int .i64 (b:Int))).alloc (.cells #[.int .i64 (a:Int),.int .i64 (b:Int)] 215)).drew).os=w.os∧((((w.setCell ⟨g,i*2,none⟩ (.int .i64 (a:Int))).setCell ⟨g,i*2+1,none⟩ (.int .i64 (b:Int))).alloc (.cells #[.int .i64 (a:Int),.int .i64 (b:Int)] 215)).drew).tape=w.tape∧((((w.setCell ⟨g,i*2,none⟩ (.int .i64 (a:Int))).setCell ⟨g,i*2+1,none⟩ (.int .i64 (b:Int))).alloc (.cells #[.int .i64 (a:Int),.int .i64 (b:Int)] 215)).drew).output=w.output) from ⟨rfl,rfl,rfl⟩)
 have HFR:=jq hfr
 clear r0 r1 f0 f1 c0 c1 hfr
 generalize ((((w.setCell ⟨g,i*2,none⟩ (.int .i64 (a:Int))).setCell ⟨g,i*2+1,none⟩ (.int .i64 (b:Int))).alloc (.cells #[.int .i64 (a:Int),.int .i64 (b:Int)] 215)).drew)=W1 at hb1 hr1 hm1 hx1 hsz HOS HFR ⊢
 obtain⟨w2,hrun,hm2,hg2⟩:=run_cput W1.drew M es (hm1.same rfl) (a,b) i HK.out
 unfold qxx jkj at hrun
 simp only at hrun
 have c1:=hb1.cell 1
 have x0:=hx1.cell 0
 have x1:=hx1.cell 1
 simp only[jx,jy] at c1 x0 x1
 have hEM:E≠M:=fun e=>by
  have h1:=H.out.map
  have h2:=H.out.box
  unfold MapC at h1;unfold Blk at h2
  rw[←e] at h1;rw[h1] at h2;cases h2
 have HEND:=jq (show CAt w2 E g M n (cs.set i (a,b)) (es++[((a,b),i)])∧(w2.os=w.os∧w2.tape=w.tape∧w2.output=w.output∧w.heap.size≤w2.heap.size∧∀ j,j<w.heap.size→j≠g→j≠M→w2.heap[j]?=w.heap[j]?) from by
  refine⟨⟨jmy (hb1.drew_) hg2 (fun r e=>by have e2:M=r:=Option.some.inj e;omega),jmy (hr1.drew_) hg2 (fun r e=>by have e2:M=r:=Option.some.inj e;omega),by rw[List.length_set];exact H.out.len,hm2⟩,hg2.os.trans HOS.out.1,hg2.tape.trans HOS.out.2.1,hg2.output.trans HOS.out.2.2,Nat.le_trans hsz hg2.size,fun j hj h1 h2=>?_⟩
  rw[hg2.block j (by exact Nat.lt_of_lt_of_le hj hsz) (fun e=>h2 (Option.some.inj e.symm).symm)]
  exact HFR.out j hj h1)
 clear hb1 hr1 hm1 hx1 hm2 hg2 HOS
 go_wp2
 go_region
 go_end0
 exact⟨rfl,HEND.out⟩
end
end
section
theorem jzp.len {c o:List Int} (h:jzp c o):o.length=c.length:=by
 induction h with
 | done c o h hs=>exact h.len
 | half c o r h hs hr ih=>rw[ih,List.length_map]
def posBL (x:Int):Bool:=decide (0<x)
theorem qkx (c:List Int):(posL c).length=(c.map posBL).countP id:=by
 unfold posL posBL
 induction c with
 | nil=>rfl
 | cons x c ih =>
  rw[List.map_cons,List.countP_cons,←ih]
  by_cases h:0<x <;> simp[h]
theorem lens_end {c o:List Int} (h:jzp c o):(∀ x∈c,0≤x)→∃ c',qgp c' o∧Short o∧(∀ x∈c',0≤x)∧c'.map posBL=c.map posBL:=by
 induction h with
 | done c o h hs=>exact fun hc=>⟨c,h,hs,hc,rfl⟩
 | half c o r h hs hr ih =>
  intro hc
  obtain⟨c',h1,h2,h3,h4⟩:=ih fun x hx=>by
   obtain⟨y,hy,rfl⟩:=List.mem_map.1 hx
   exact (half_le (hc y hy)).1
  refine⟨c',h1,h2,h3,?_⟩
  rw[h4,List.map_map]
  refine List.map_congr_left fun x hx=>?_
  have:=hc x hx
  show posBL (jvg x)=posBL x
  unfold posBL
  exact decide_eq_decide.2 (by unfold jvg;omega)
theorem deep_at {c o:List Int} (h:qgp c o) {k:Nat} (hk:k<o.length):∃ d:Nat,o[k]=(d:Int)∧(d=0↔(c.map posBL)[k]?=some false):=by
 have hl:=h.len
 obtain⟨g,-,rfl⟩:=h
 have hk':k<c.length:=by omega
 have h1:=qqw g.d c 0 k hk'
 rw[List.getElem?_eq_getElem hk] at h1
 injection h1 with h1
 rw[h1,List.getElem?_map,List.getElem?_eq_getElem hk']
 by_cases e:0<c[k]
 ·exact⟨_,if_pos e,by simp[posBL,e]⟩
 ·exact⟨0,if_neg e,by simp[posBL,e]⟩
theorem lens_at {c o:List Int} (h:jzp c o) (hc:∀ x∈c,0≤x) {k:Nat} (hk:k<o.length) (hk':k<c.length):0≤o[k]∧o[k]≤15∧(o[k]=0↔c[k]=0):=by
 obtain⟨c',h1,h2,-,h4⟩:=lens_end h hc
 obtain⟨d,hd,hz⟩:=deep_at h1 hk
 have h5:=h2 _ (List.getElem_mem hk)
 have h6:=hc _ (List.getElem_mem hk')
 rw[h4,List.getElem?_map,List.getElem?_eq_getElem hk'] at hz
 simp only[Option.map_some,Option.some.injEq,posBL,decide_eq_false_iff_not] at hz
 omega
def bitK (d:Nat):Nat:=if 1≤max d 1∧max d 1≤15 then 2^(15 - max d 1) else 0
theorem allOf_head (v:Nat→Nat):∀ k,jyn v (k+1)=v 0+jyn (fun i=>v (i+1)) k
 | 0=>by simp[jyn]
 | k+1=>by
  rw[jyn,allOf_head v k,jyn]
  omega
theorem qxg (d:Nat→Nat):∀ (c:List Int) (j:Nat),jzs (jmt d c j)=jyn (fun i=>bitK (d (j+i))) (posL c).length
 | [],_=>rfl
 | x::c,j=>by
  unfold jmt posL
  by_cases h:0<x
  ·rw[if_pos h,List.filter_cons_of_pos (by simpa using h),List.length_cons,allOf_head]
   have ih:=qxg d c (j+1)
   unfold jzs qqy posL at *
   rw[List.map_cons,List.map_cons,List.sum_cons,ih,Int.toNat_natCast]
   simp only[Nat.add_assoc,Nat.add_comm 1]
   rfl
  ·rw[if_neg h,List.filter_cons_of_neg (by simpa using h)]
   have ih:=qxg d c j
   unfold jzs qqy posL at *
   rw[List.map_cons,List.map_cons,List.sum_cons,ih]
   simp
theorem allOf_congr {u v:Nat→Nat}:∀ k,(∀ i,i<k→u i=v i)→jyn u k=jyn v k
 | 0,_=>rfl
 | k+1,h=>by rw[jyn,jyn,allOf_congr k fun i hi=>h i (by omega),h k (by omega)]
theorem one_deep {w:Nat→Nat} {g:For} (h:Huff (For.start 1 w) g):g.d 0=0:=by
 cases h with
 | last=>rfl
 | join _ _ a b ha hb hr =>
  have h1:=(qzt 1 w).less a ha.1
  have h2:=(qzt 1 w).less b hb.1.1
  have h3:(For.start 1 w).N=1:=rfl
  exact absurd (show b=a by omega) hb.1.2
theorem deep_small {c:List Int} {d:Nat→Nat} (hs:Short (jmt d c 0)) {i:Nat} (hi:i<(posL c).length):max (d i) 1≤15:=by
 have key:∀ (c:List Int) (j i:Nat),i<(posL c).length→((max (d (j+i)) 1:Nat):Int)∈jmt d c j:=by
  intro c
  induction c with
  | nil=>intro j i h;simp[posL] at h
  | cons x c ih =>
   intro j i h
   unfold jmt
   unfold posL at h ih
   by_cases hx:0<x
   ·rw[if_pos hx]
    rw[List.filter_cons_of_pos (by simpa using hx),List.length_cons] at h
    cases i with
    | zero=>exact List.mem_cons_self
    | succ i =>
     have:=ih (j+1) i (by omega)
     rw[show j+1+i=j+(i+1) by omega] at this
     exact List.mem_cons_of_mem _ this
   ·rw[if_neg hx]
    rw[List.filter_cons_of_neg (by simpa using hx)] at h
    exact List.mem_cons_of_mem _ (ih j i h)
 have:=hs _ (key c 0 i hi)
 rw[Nat.zero_add] at this
 omega
theorem lens_kraft {c o:List Int} (h:jzp c o) (hc:∀ x∈c,0≤x) :
  ((posL c).length=0→jzs o=0)∧((posL c).length=1→jzs o=16384)∧(2≤(posL c).length→jzs o=32768):=by
 obtain⟨c',h1,h2,-,h4⟩:=lens_end h hc
 rw[qkx,←h4,←qkx]
 obtain⟨g,hg,rfl⟩:=h1
 rw[qxg]
 refine⟨fun e=>by rw[e];rfl,fun e=>?_,fun e=>?_⟩
 ·rw[e] at hg ⊢
  have:=one_deep hg
  simp only[jyn,Nat.zero_add,this]
  decide
 ·have hd:=huff_deep hg e
  have h15:∀ j,j<(posL c').length→g.d j≤15:=fun j hj=>by have:=deep_small h2 hj;omega
  have:=huff_kraft hg (by omega) h15
  rw[←(by decide:2^15=32768),←this]
  refine allOf_congr _ fun i hi=>?_
  have q1:=hd i hi
  have q2:=h15 i hi
  unfold bitK
  rw[Nat.zero_add,show max (g.d i) 1=g.d i by omega,if_pos ⟨q1,q2⟩]
end
section
open Go.RowKit Go.Sort Go.Shelf
section
variable {w:World} {A:Option Addr} {n m:Nat} {c:List Int}
theorem lens_Of (hr:Rd w w.heap.size A (zvs c)) (hn:c.length=n) (hn1:n≤1500) (hc:Good c) :
  Calls prog 102 #[.slice A n m] w fun e w'=>∃ v out,e=.returned v∧jzp c out∧LensV w.heap.size out v w'∧Below w.heap.size w w':=by
 have hsum:∀ {c':List Int},Good c'→c'.length=n→c'.sum≤9007199254740992:=fun {c'} h1 h2=>by have:=good_sum h1;omega
 have C:=jq (jww (m:=m) (w:=w) 161 nBad (enters_of func161 (by kernel_rfl) rfl) (fun x W=>lensWrong_any x W) hr hn (by omega))
 rw[good_bad.2 hc] at C
 have D:=jq (fun (W:World) (A':Option Addr) (m':Nat) (c':List Int) (h1:Rd W W.heap.size A' (zvs c')) (h2:c'.length=n) (h3:Good c')=>lens_lensOf (m:=m') (w:=W) h1 h2 (by omega) h3 (hsum h3 h2))
 have E:=jq (fun (W:World) (A':Option Addr) (m' n':Nat) (o:List Int) (h1:Rd W W.heap.size A' (zvs o)) (h2:o.length=n') (h3:n'≤4096)=>jww (m:=m') (w:=W) 163 longB (enters_of func163 (by kernel_rfl) rfl) (fun x W=>lensLong_any x W) h1 h2 h3)
 have F:=jq (fun (W:World) (A':Option Addr) (m':Nat) (c':List Int) (h1:Rd W W.heap.size A' (zvs c')) (h2:c'.length=n) (h3:Good c')=>lens_halves (m:=m') (w:=W) h1 h2 (by omega) h3)
 have HR:=jq hr
 have HC:=jq (And.intro hn hc)
 have hn4:n≤4096:=by omega
 clear hr hn hc hsum
 go_enter func102,ntmps102
 go_wp2_with fail
 refine C.out.mono ?_
 rintro _ w1 ⟨rfl,hw⟩
 subst w1
 clear C
 go_wp2_with fail
 refine (D.out w A m c HR.out HC.out.1 HC.out.2).mono ?_
 rintro _ w2 ⟨v2,o2,rfl,hd2,hl2,hb2⟩
 have HST:=jq (And.intro hd2 (And.intro hl2 hb2))
 clear hd2 hl2 hb2
 go_wp2
 go_loopg [0,3] (c.sum.toNat) (fun gg s0 s3 wr=>∃ (A':Option Addr) (m':Nat) (c' o:List Int),s0=.slice A' n m'∧Rd wr wr.heap.size A' (zvs c')∧c'.length=n∧Good c'∧qgp c' o∧LensV w.heap.size o s3 wr∧(∀ r,jzp c' r→jzp c r)∧Below w.heap.size w wr∧c'.sum.toNat=gg)
 case atStart=>exact⟨A,m,c,o2,rfl,(HR.out.below HST.out.2.2).more HST.out.2.2.size,HC.out.1,HC.out.2,HST.out.1,HST.out.2.1,fun _ h=>h,HST.out.2.2,rfl⟩
 case round =>
  clear HST
  obtain⟨A',m',c',o,rfl,hr',hn',hg',hd',hl',hway,hb',hgg⟩:=hrel
  obtain⟨A3,n3,rfl,hn3,hr3⟩:=hl'.rd
  have hn34:n3≤4096:=by rw[←hn3,hd'.len,hn'];exact hn4
  have E1:=jq (E.out wr A3 n3 n3 o hr3 hn3 hn34)
  have F1:=jq (F.out wr A' m' c' hr' hn' hg')
  have HREL:=jq (And.intro hn' (And.intro hg' (And.intro hd' (And.intro hl' (And.intro hway (And.intro hb' hgg))))))
  obtain⟨b,hb⟩:∃ b,b=o.any longB:=⟨_,rfl⟩
  rw[←hb] at E1
  have HBB:=jq hb
  clear hr' hn' hg' hd' hl' hway hb' hgg hr3 hn3 hb
  cases b with
  | false =>
   have HEND:=jq (HREL.out.2.2.2.2.1 o (.done c' o HREL.out.2.2.1 ((short_iff o).1 HBB.out.symm)))
   go_wp2_with fail
   refine E1.out.mono ?_
   rintro _ w1 ⟨rfl,hw⟩
   subst w1
   go_wp2
   go_ret
   exact⟨_,o,rfl,HEND.out,HREL.out.2.2.2.1,HREL.out.2.2.2.2.2.1⟩
  | true =>
   have hns:¬ Short o:=fun hs=>by
    have:=(short_iff o).2 hs
    rw[←HBB.out] at this;cases this
   have HNS:=jq (And.intro hns (deep_less HREL.out.2.2.1 (fun x hx=>(HREL.out.2.1 x hx).1) (by rw[HREL.out.1];exact hn1) hns))
   clear hns
   go_wp2_with fail
   refine E1.out.mono ?_
   rintro _ w1 ⟨rfl,hw⟩
   subst w1
   clear E1
   go_wp2_with fail
   refine F1.out.mono ?_
   rintro _ w4 ⟨v4,rfl,hl4,hb4⟩
   obtain⟨A4,n4,rfl,hn4',hr4⟩:=hl4.rd
   have hlen4:(c'.map jvg).length=n:=by rw[List.length_map];exact HREL.out.1
   obtain rfl:n=n4:=by omega
   have G:=jq (D.out w4 A4 n (c'.map jvg) hr4 hlen4 (good_half HREL.out.2.1))
   have HB4:=jq (HREL.out.2.2.2.2.2.1.trans (hb4.mono HREL.out.2.2.2.2.2.1.size))
   have HR4:=jq hr4
   have HL4:=jq hlen4
   clear hl4 hb4 hn4' hr4 F1 hlen4
   go_wp2_with fail
   refine G.out.mono ?_
   rintro _ w5 ⟨v5,o5,rfl,hd5,hl5,hb5⟩
   have HEND:=jq (And.intro (hl5.more (HB4.out.size)) (And.intro hd5 (And.intro (HB4.out.trans (hb5.mono HB4.out.size)) ((HR4.out.below hb5).more hb5.size))))
   clear hd5 hl5 hb5
   go_wp2
   go_roundg ((c'.map jvg).sum.toNat)
   case measure =>
    have h1:=HNS.out.2
    have h2:=(good_sum (good_half HREL.out.2.1)).1
    have h3:=HREL.out.2.2.2.2.2.2
    omega
   case rel=>exact⟨A4,n,c'.map jvg,o5,rfl,HEND.out.2.2.2,HL4.out,good_half HREL.out.2.1,HEND.out.2.1,HEND.out.1,fun r hr=>HREL.out.2.2.2.2.1 r (.half c' o r HREL.out.2.2.1 HNS.out.1 hr),HEND.out.2.2.1,rfl⟩
end
def hBad (x:Int):Bool:=decide (x<0)||decide (65536<x)
def HistMay (l:List Int):Prop:=l.length=256∧∀ x∈l,0≤x∧x≤65536
theorem hBad_none {l:List Int} (h:∀ x∈l,0≤x∧x≤65536):l.any hBad=false:=by
 rw[List.any_eq_false]
 intro x hx
 have:=h x hx
 simp[hBad]
 omega
theorem qvd:∀ (l:List Int) (z:Nat),(∀ x∈l,0≤x∧x≤65536)→z+l.length≤4096→(jdv z l).length≤20*l.length+10
 | [],z,_,h=>by rw[hPutF_nil];have:=qbm z (by simp at h;omega);simp;omega
 | x::l,z,hx,h=>by
  have hl:=fun y hy=>hx y (List.mem_cons_of_mem _ hy)
  simp only[List.length_cons] at h ⊢
  by_cases h0:x=0
  ·subst h0
   rw[qbw]
   have:=qvd l (z+1) hl (by omega)
   omega
  ·rw[qbx z l h0]
   have h1:=qvd l 0 hl (by omega)
   have h2:=qbm z (by omega)
   have h3:=hx x List.mem_cons_self
   have h4:=qbm (x - 1).toNat (by omega)
   simp only[List.length_append]
   omega
section
variable {w:World} {B:Nat} {A:Option Addr} {n m:Nat} {c:List Int}
theorem histWrong_any (x:Int) (w:World):Calls prog 128 #[.int .i64 x] w fun e w'=>e=.returned (.bool (hBad x))∧w'=w:=by
 unfold hBad
 go_enter func128,ntmps128
 by_cases h:x<0
 ·rw[decide_eq_true h,Bool.true_or]
  go_wp2
  go_ret
  exact⟨rfl,rfl⟩
 ·rw[decide_eq_false h,Bool.false_or]
  go_wp2
  go_ret
  exact⟨rfl,rfl⟩
theorem histBad_any (hr:Rd w B A (zvs c)) (hn:c.length=n) (hn1:n≤4096) :
  Calls prog 120 #[.slice A n m,.func (.func 128) #[] #[]] w fun e w'=>e=.returned (.bool (c.any hBad))∧w'=w :=
 jww 128 hBad (enters_of func128 (by kernel_rfl) rfl) (fun x W=>histWrong_any x W) hr hn hn1
theorem qxb {k:Nat} {v:Value} (out:List UInt8) (hB:B≤w.heap.size) (hown:w.ownsRow B 5 1 v out.length (bvs out)) (ho:out.length≤100000) (hk:k≤65536) :
  Calls prog 183 #[v,.int .i64 (k:Int)] w fun e w'=>∃ v',e=.returned v'∧w'.ownsRow B 5 1 v' (out++lput k).length (bvs (out++lput k))∧Below B w w':=by
 obtain⟨i0,hi,hz0,hz1,hz2⟩:=info_parts info_u8
 have C:=jq (fun W=>lebPut_any none 0 0 [] (k:Int) W (Rd.nil_ _ _ _) rfl (by decide) (by omega) (by omega))
 have hle:=qbm k (by omega)
 have HO:=jq hown
 clear hown
 go_enter func183,ntmps183
 go_wp2_with fail
 refine (C.out w).mono ?_
 rintro e w1 ⟨u,rfl,hown1,hb1⟩
 rw[List.nil_append,Int.toNat_natCast] at hown1
 obtain⟨A1,c1,rfl,-,-,-⟩:=jjk hown1
 have HR1:=jq (Rd.of_own hown1)
 have HO1:=jq (jyh HO.out hb1)
 have HB1:=jq (hb1.mono hB)
 have hBw1:B≤w1.heap.size:=Nat.le_trans hB hb1.size
 have HZL:=jq (show (bvs (lput k)).length=(lput k).length*1 by rw[jjg,Nat.mul_one])
 have hA1:out.length+(lput k).length≤maxLen:=by simp only[maxLen];omega
 have hA2:(out.length+(lput k).length)*1≤140737488355328:=by omega
 obtain⟨q,hq⟩:∃ q,q=(lput k).length:=⟨_,rfl⟩
 rw[←hq] at hA1 hA2 HZL ⊢
 obtain⟨p,hp⟩:∃ p,p=out.length:=⟨_,rfl⟩
 rw[←hp] at hA1 hA2 HO1 ho
 have HQ:=jq hq
 have HP:=jq hp
 clear C hown1 hb1 HO hB hq hp hle ho
 go_wp2_with (at_builtin;go_must (refine jjd rfl (.tmp 5) (.tmp 8) 22 rfl B 5 i0 (.int .u8 0) 1 1 underlying22 hi hz0 hz1 hz2 rfl (by decide) _ _ _ rfl HO1.out w1.heap.size A1 _ _ (bvs (lput k)) rfl HR1.out HZL.out (jmx _) hA1 hA2 hBw1 ?_;intro v2 w2 hown2 hg2;have hb2:=HB1.out.grown hg2 hBw1 (jjb HO1.out);clear hg2))
 rw[←jqt] at hown2
 go_ret
 exact⟨v2,rfl,by rw[List.length_append,←HP.out,←HQ.out];exact hown2,hb2⟩
theorem size_int16:(prog.info? 3).map (·.size)=some 1:=by kernel_rfl
def lenH:Value→Nat
 | .slice _ n _=>n
 | _=>0
def LayRel (w:World) (c:List Int) (L:List UInt8) (s v:Value) (wr:World):Prop :=
 ∃ (k:Nat) (A:Option Addr) (n m:Nat) (out:List UInt8),n+k=256∧n≤m∧s=.slice A n m∧Rd wr w.heap.size A (zvs (c.drop k))∧wr.ownsRow w.heap.size 5 1 v out.length (bvs out)∧Hid (out++hPut (c.drop k)=L)∧Below w.heap.size w wr
theorem histLay_any (hr:Rd w w.heap.size A (zvs c)) (hc:HistMay c) (hcap:256≤m) :
  Calls prog 129 #[.slice A (256:Nat) m] w (NewB w (hPut c)):=by
 have hbound:=qvd c 0 hc.2 (by have:=hc.1;omega)
 rw[hc.1] at hbound
 obtain⟨L,hL⟩:∃ L,L=hPut c:=⟨_,rfl⟩
 have hLl:L.length≤5130:=by rw[hL];exact hbound
 rw[←hL]
 have HC:=jq hc
 have HR:=jq hr
 have HL:=jq hL
 clear hL hbound hc hr
 go_enter func129,ntmps129
 go_wp2
 go_step3
 go_wp2
 go_step3
 go_wp2
 go_loopw [0,3] (LayRel w c L) (fun s _ _=>lenH s)
 case atStart=>exact⟨0,A,256,m,[],rfl,hcap,rfl,HR.out,World.ownsRow_nil _ _ _ _,HL.out.symm,Below.refl _ _⟩
 case round =>
  obtain⟨k,A',n,m',out,hk,hnm,rfl,hrd,hown,HO,hb⟩:=hrel
  obtain⟨A1,c1,rfl,-,-,-⟩:=jjk hown
  have hbs:=hb.size
  have hn2:n≤256:=by omega
  have hcl:(c.drop k).length=n:=by rw[List.length_drop,HC.out.1];omega
  have hol:out.length≤5130:=by have:=congrArg List.length HO.out;rw[List.length_append] at this;omega
  have HRD:=jq hrd
  have HOWN:=jq hown
  have HB:=jq hb
  have HCL:=jq hcl
  have HK:=jq hk
  clear hrd hown hb hcl hk HR
  go_wp2
  go_loopw [0,3,8] (fun s v i wq=>∃ j:Nat,j≤n∧s=.slice A' n m'∧v=.slice A1 out.length c1∧i=.int .i64 (j:Int)∧wq=wr∧Hid (out++jdv j (c.drop (k+j))=L)) (fun _ _ i _=>n - (intOf i).toNat)
  case atStart=>exact⟨0,Nat.zero_le _,rfl,rfl,rfl,rfl,HO.out⟩
  case round =>
   clear HO
   obtain⟨j,hj,rfl,rfl,rfl,rfl,HO⟩:=hrel
   by_cases hlt:j<n
   ·have hkc:k+j<c.length:=by have:=HC.out.1;have:=HK.out;omega
    have hkd:j<(c.drop k).length:=by have:=HCL.out;omega
    have hd:c.drop (k+j)=c[k+j]::c.drop (k+j+1):=List.drop_eq_getElem_cons hkc
    have hx:=HC.out.2 _ (List.getElem_mem hkc)
    obtain⟨ab,ao,rfl,hab,hcell⟩:=jjn HRD.out hkd
    rw[List.getElem_drop] at hcell
    obtain⟨x,hxx⟩:∃ x,x=c[k+j]'hkc:=⟨_,rfl⟩
    rw[←hxx] at hcell hd hx
    rw[hd] at HO
    have hji:(j:Int)<(n:Int):=by omega
    clear hd hxx
    by_cases h0:0<x
    ·rw[qbx j _ (by omega)] at HO
     have C1:=jq (qxb (w:=wr) (B:=w.heap.size) (k:=j) out hbs HOWN.out (by omega) (by have:=HK.out;omega))
     have C2:=jq (fun (W:World) (v':Value) (h:w.heap.size≤W.heap.size) (ho:W.ownsRow w.heap.size 5 1 v' (out++lput j).length (bvs (out++lput j)))=>qxb (w:=W) (B:=w.heap.size) (k:=(x - 1).toNat) (out++lput j) h ho (by have:=qbm j (by have:=HK.out;omega);rw[List.length_append];omega) (by omega))
     rw[show (((x - 1).toNat:Nat):Int)=x - 1 by omega] at C2
     go_wp2_with fail
     refine C1.out.mono ?_
     rintro e w1 ⟨v1,rfl,hown1,hb1⟩
     have C3:=jq (C2.out w1 v1 (Nat.le_trans hbs hb1.size) hown1)
     have HB1:=jq (HB.out.trans hb1)
     have HR1:=jq (HRD.out.below hb1)
     have HZL:=jq (show (zvs (c.drop k)).length=n by rw[zvs_length];exact HCL.out)
     have hjn:j+1≤n:=by omega
     clear C1 C2 hown1 hb1 hcell
     go_wp2_with fail
     refine C3.out.mono ?_
     rintro e w2 ⟨v2,rfl,hown2,hb2⟩
     have HB2:=jq (HB1.out.trans hb2)
     have HR2:=jq (HR1.out.below hb2)
     have HO2:=jq hown2
     clear C3 hown2 hb2 HB1 HR1
     go_wp2_with ((with_reducible show wpList _ _ _ (({ dst:=some 24,op:=_,type:=_,pos:=_,after:=_,guard:=_ }:Oper)::_) _ _);go_must (refine jxc rfl (.tmp 21) (.tmp 23) rfl underlying35 size_int16 w.heap.size _ n m' (j+1) (zvs (c.drop k)) rfl rfl HR2.out HZL.out hnm hjn ?_;intro A2 c2 hc2 hr2))
     go_roundw
     case rel =>
      refine⟨k+j+1,A2,n - (j+1),c2,out++lput j++lput (x - 1).toNat,by have:=HK.out;omega,hc2,rfl,?_,HO2.out,jq ?_,HB2.out⟩
      ·rw[show List.drop (j+1) (zvs (c.drop k))=zvs (c.drop (k+j+1)) by simp[zvs,List.drop_drop,Nat.add_assoc]] at hr2
       exact hr2
      ·rw[←HO.out];simp only[List.append_assoc];rfl
     case measure=>simp only[lenH];omega
    ·obtain rfl:x=0:=by omega
     rw[qbw] at HO
     go_wp2
     go_roundw
     case rel=>exact⟨j+1,by omega,rfl,rfl,by go_num,trivial,HO⟩
     case measure=>simp[intOf];omega
   ·obtain rfl:j=n:=by omega
    have hO:=HO.out
    rw[List.drop_of_length_le (by have:=HC.out.1;have:=HK.out;omega),hPutF_nil] at hO
    have C1:=jq (qxb (w:=wr) (B:=w.heap.size) (k:=j) out hbs HOWN.out (by omega) (by have:=HK.out;omega))
    rw[hO] at C1
    clear hO HO
    go_wp2_with fail
    refine C1.out.mono ?_
    rintro e w1 ⟨v1,rfl,hown1,hb1⟩
    go_wp2
    go_ret
    exact⟨v1,rfl,hown1,HB.out.trans hb1⟩
theorem histPut_ok (hr:Rd w w.heap.size A (zvs c)) (hn:c.length=n) (hc:HistMay c) (hcap:n≤m) :
  Calls prog 84 #[.slice A n m] w fun e w'=>∃ v,e=.returned (.tuple #[v,.int .i64 0])∧w'.ownsRow w.heap.size 5 1 v (hPut c).length (bvs (hPut c))∧Below w.heap.size w w':=by
 obtain rfl:n=256:=by rw[←hn,hc.1]
 have C:=jq (histBad_any (m:=m) hr hn (by decide))
 rw[hBad_none hc.2] at C
 have C2:=jq (histLay_any hr hc hcap)
 clear hr hn hc
 go_enter func84,ntmps84
 go_wp2_with fail
 refine C.out.mono ?_
 rintro e w' ⟨rfl,hw⟩
 obtain rfl:_=w':=hw.symm
 go_wp2_with fail
 refine C2.out.mono ?_
 rintro e w1 ⟨v,rfl,hown,hb⟩
 go_wp2
 go_ret2
 exact⟨v,rfl,hown,hb⟩
end
def letL (r:List Int) (l:List UInt8):List (Nat × Nat):=l.map fun b=>((fPre r b.toNat).toNat,(r.getD b.toNat 0).toNat)
theorem letL_cons (r:List Int) (b:UInt8) (l:List UInt8):letL r (b::l)=((fPre r b.toNat).toNat,(r.getD b.toNat 0).toNat)::letL r l:=rfl
structure jkb (l:List UInt8) (r:List Int):Prop where
 len:r.length=256
 nn:∀ x∈r,0≤x
 sum:r.sum=4096
 some:∀ b∈l,1≤r.getD b.toNat 0
theorem shares_of {l:List UInt8} {r:List Int} (h0:0<l.length) (h1:l.length≤4000) (h:qxj (cntL l) 4096 r):jkb l r:=by
 have hle:=qmp l
 have hnn:=fun x hx=>(hle x hx).1
 have hmany:many (cntL l)≤4096:=by have:=many_le (cntL l);rw[jyf] at this;omega
 have hpos:0<(cntL l).sum:=by
  obtain⟨a,t,rfl⟩:=List.exists_cons_of_length_pos h0
  have h2:=qws (l:=a::t) (b:=a) List.mem_cons_self
  have hlt:a.toNat<(cntL (a::t)).length:=by rw[jyf];exact a.toNat_lt
  have h4:=qzh hnn hlt
  have e:(cntL (a::t)).getD a.toNat 0=(cntL (a::t))[a.toNat]:=by simp[List.getD_eq_getElem?_getD,hlt]
  omega
 obtain⟨hal,hs⟩:=h.keeps hnn (by decide) hpos hmany
 refine⟨hal.1.trans (jyf l),all_nn14 hal,hs,fun b hb=>?_⟩
 have h2:=qws hb
 have h3:=hal.2 b.toNat (by rw[jyf];exact b.toNat_lt)
 obtain⟨g1,g2⟩:=h3
 have:r.getD b.toNat 0≠0:=fun e=>by
  have:=g2.1 e
  omega
 omega
theorem jkb.letter {l:List UInt8} {r:List Int} (h:jkb l r) {b:UInt8} (hb:b∈l):okL ((fPre r b.toNat).toNat,(r.getD b.toNat 0).toNat)∧(((fPre r b.toNat).toNat:Nat):Int)=fPre r b.toNat∧(((r.getD b.toNat 0).toNat:Nat):Int)=r.getD b.toNat 0:=by
 have hlt:b.toNat<r.length:=by rw[h.len];exact b.toNat_lt
 have h1:=h.some b hb
 have h2:=jvd h.nn b.toNat
 have h3:=jwp h.nn (b.toNat+1)
 have h4:=jqm r b.toNat hlt
 have e:r.getD b.toNat 0=r[b.toNat]:=by simp[List.getD_eq_getElem?_getD,hlt]
 have h5:=h.sum
 refine⟨⟨by simp only;omega,by simp only;omega⟩,by omega,by omega⟩
theorem jkb.letters {l:List UInt8} {r:List Int} (h:jkb l r) (l':List UInt8) (hs:∀ b∈l',b∈l):∀ p∈letL r l',okL p:=fun p hp=>by
 obtain⟨b,hb,rfl⟩:=List.mem_map.1 hp
 exact (h.letter (hs b hb)).1
theorem jkb.may {l:List UInt8} {r:List Int} (h:jkb l r):∀ x∈r,0≤x∧x≤65536:=fun x hx=>by
 obtain⟨i,hi,rfl⟩:=List.getElem_of_mem hx
 have h1:=qzh h.nn hi
 have h2:=h.nn _ hx
 have:=h.sum
 omega
theorem in_vals {f s y:Nat} (hs:1≤s) (hf:f+s≤4096) (hy:y<s*524288):∃ q m q4 qf:Nat,(y:Int)/(s:Int)=(q:Int)∧(y:Int).tdiv (s:Int)=(q:Int)∧(y:Int)%(s:Int)=(m:Int)∧(y:Int).tmod (s:Int)=(m:Int)∧IntKind.i64.wrap (q:Int)=(q:Int)∧IntKind.i64.wrap ((q:Int)*4096)=(q4:Int)∧IntKind.i64.wrap ((q4:Int)+(f:Int))=(qf:Int)∧IntKind.i64.wrap ((qf:Int)+(m:Int))=((inX f s y:Nat):Int)∧IntKind.i64.wrap (m:Int)=(m:Int):=by
 have h5:y/s<524288:=(Nat.div_lt_iff_lt_mul (by omega)).2 (by rw[Nat.mul_comm];exact hy)
 have h6:y%s<s:=Nat.mod_lt y (by omega)
 have e:inX f s y=y/s*4096+f+y%s:=rfl
 have d1:(y:Int)/(s:Int)=((y/s:Nat):Int):=(Int.natCast_ediv _ _).symm
 have d2:(y:Int)%(s:Int)=((y%s:Nat):Int):=(Int.natCast_emod _ _).symm
 obtain⟨q,hq⟩:∃ q,q=y/s:=⟨_,rfl⟩
 obtain⟨m,hm⟩:∃ m,m=y%s:=⟨_,rfl⟩
 rw[←hq] at h5 e d1
 rw[←hm] at h6 e d2
 refine⟨q,m,q*4096,q*4096+f,d1,?_,d2,?_,?_,?_,?_,?_,?_⟩
 ·rw[Int.tdiv_eq_ediv_of_nonneg (by omega)];exact d1
 ·rw[Int.tmod_eq_emod_of_nonneg (by omega)];exact d2
 ·rw[IntKind.wrap_i64];omega
 ·rw[IntKind.wrap_i64];omega
 ·rw[IntKind.wrap_i64];omega
 ·rw[e,IntKind.wrap_i64];omega
 ·rw[IntKind.wrap_i64];omega
theorem u8s_snoc (o:List Nat) (c:Nat):u8s (o++[c])=u8s o++[UInt8.ofNat c]:=by simp[u8s]
def qwm (l:List UInt8) (B:List UInt8):Prop:=∃ (r:List Int) (x:Nat) (T:List Nat),qxj (cntL l) 4096 r∧jvx (letL r l) x T∧B=hPut r++u8s (be4 x++T)
theorem qwm.one {l:List UInt8} {B B':List UInt8} (h:qwm l B) (h':qwm l B'):B=B':=by
 obtain⟨r,x,T,h1,h2,rfl⟩:=h
 obtain⟨r',x',T',h1',h2',rfl⟩:=h'
 obtain rfl:=h1.one h1'
 obtain⟨rfl,rfl⟩:=h2.one h2'
 rfl
section
variable {w:World} {A:Option Addr} {n m:Nat} {l:List UInt8}
end
end
section
open Go.RowKit Go.Sort
def EncS (w:World) (E x:Nat) (O:List UInt8):Prop :=
 ∃ v,Blk w E 126 [.int .i64 (x:Int),v]∧w.ownsRow (E+1) 5 1 v O.length (bvs O)
def qyx:List TypeId:=[126,5]
section
variable {w:World} {E x:Nat} {O:List UInt8}
theorem EncS.below {w':World} (h:EncS w E x O) (hb:Below w.heap.size w w'):EncS w' E x O:=by
 obtain⟨v,hbl,hown⟩:=h
 exact⟨v,hbl.grow hb,jyh hown hb⟩
theorem EncS.same {w':World} (h:EncS w E x O) (e:w'.heap=w.heap):EncS w' E x O:=by
 obtain⟨v,hbl,hown⟩:=h
 refine⟨v,hbl.same e,hown.1,?_⟩
 rw[e];exact hown.2
theorem EncS.lt (h:EncS w E x O):E<w.heap.size:=by
 obtain⟨v,hbl,-⟩:=h
 exact hbl.lt
theorem qgw {base e size n:Nat} {v:Value} {xs:List Value} {p:Addr} {u:Value} (h:w.ownsRow base e size v n xs) (hp:p.block<base):(w.setCell p u).ownsRow base e size v n xs:=by
 refine⟨h.1,?_⟩
 rcases h.2 with h0 | ⟨g,cap,cur,rfl,hbg,hg,rest⟩
 ·exact .inl h0
 ·exact .inr ⟨g,cap,cur,rfl,hbg,by rw[Below.heap_setCell w p u g (by omega)];exact hg,rest⟩
theorem EncS.setX (h:EncS w E x O) (y:Nat):EncS (w.setCell ⟨E,0,none⟩ (.int .i64 (y:Int))) E y O∧jjj E qyx w (w.setCell ⟨E,0,none⟩ (.int .i64 (y:Int))):=by
 obtain⟨v,hb,hown⟩:=h
 exact⟨⟨v,hb.set_ 0 _,qgw hown (Nat.lt_succ_self _)⟩,jjj.set_ hb jw _ (by simp[qyx])⟩
theorem give_end {A1:Option Addr} {c1 c g7 cap7:Nat} {w7:World} (hown:w.ownsRow (E+1) 5 1 (.slice A1 O.length c1) O.length (bvs O)) (hx:c<256)
  (hb7:Blk w7 E 126 [.int .i64 (x:Int),.slice A1 O.length c1]) (hg7:World.grownBy (w.drew.alloc (.cells #[.int .u8 (c:Int)] 5)) w7 (Value.slice A1 O.length c1).ownBlock)
  (hown7:w7.ownsRow (E+1) 5 1 (.slice (some ⟨g7,0,none⟩) (O.length+1) cap7) (O.length+1) (bvs O++[.int .u8 (c:Int)])) :
  EncS (w7.setCell ⟨E,1,none⟩ (.slice (some ⟨g7,0,none⟩) (O.length+1) cap7)) E x (O++[UInt8.ofNat c])∧jjj E qyx w (w7.setCell ⟨E,1,none⟩ (.slice (some ⟨g7,0,none⟩) (O.length+1) cap7)):=by
 have h1:jjj E qyx w (w.drew.alloc (.cells #[.int .u8 (c:Int)] 5)):=jjj.of_below ((Below.refl _ _).drew.alloc jw _)
 have h2:jjj E qyx (w.drew.alloc (.cells #[.int .u8 (c:Int)] 5)) w7:=jjj.grown hg7 (fun k hk=>by
  obtain⟨a,b⟩:=jzc (jyh hown ((Below.refl w.heap.size w).drew.alloc jw (.cells #[.int .u8 (c:Int)] 5))) k hk
  exact⟨by omega,b⟩) (by simp[qyx])
 refine⟨⟨_,hb7.set_ 1 _,?_⟩,(h1.trans h2).trans (jjj.set_ hb7 jw _ (by simp[qyx]))⟩
 have e:bvs (O++[UInt8.ofNat c])=bvs O++[.int .u8 (c:Int)]:=by
  rw[jqt];simp[bvs,UInt8.toNat_ofNat',Nat.mod_eq_of_lt hx]
 rw[e,List.length_append,List.length_singleton]
 exact qgw hown7 (Nat.lt_succ_self _)
theorem qgk (h:EncS w E x O) (ho:O.length≤100000) :
  Calls prog 134 #[.pointer (some ⟨E,0,none⟩)] w fun e w'=>e=.returned (.tuple #[])∧EncS w' E (x/256) (O++[UInt8.ofNat (x%256)])∧jjj E qyx w w':=by
 obtain⟨v,hb,hown⟩:=h
 obtain⟨A1,c1,rfl,-,-,-⟩:=jjk hown
 obtain⟨i0,hi0,hz0,hz1,hz2⟩:=info_parts qzg
 obtain⟨c,hc,hc2⟩:∃ c,c=x%256∧c<256:=⟨_,rfl,by omega⟩
 obtain⟨d,hd⟩:∃ d,d=x/256:=⟨_,rfl⟩
 have e1:IntKind.u8.wrap (x:Int)=(c:Int):=by rw[IntKind.wrap_u8];omega
 have e2:(x:Int)%256=(c:Int):=by omega
 have e3:(x:Int)/2^8=(d:Int):=by omega
 have e4:(x:Int)/256=(d:Int):=by omega
 have hc0:=hb.cell 0
 have hc1:=hb.cell 1
 have hf0:=hb.frozen 0
 have hf1:=hb.frozen 1
 simp only[jy,jx] at hc0 hc1
 have HB:=jq hb
 have HOWN:=jq hown
 have HO:=jq ho
 rw[←hc,←hd]
 have HX:=jq hc2
 have hgl:E<w.heap.size:=hb.lt
 clear hb hown ho hc hc2 hd
 go_enter func134,ntmps134
 go_wp2
 go_region_law (refine step_append_lies _ (by rfl) _ _ _ (by rfl) (E+1) 5 i0 (.int .u8 0) 1 1 underlying22 hi0 hz0 hz1 hz2 rfl (by decide) _ _ _ (by rfl) ((own_drew HOWN.out).alloc _) _ 1 1 [.int .u8 (c:Int)] (by rfl) (by rfl) (World.news_of_block (heap_alloc_new _ _)) (by intro u hu;simp at hu;subst hu;rfl) (by decide) (by simp only[maxLen];have:=HO.out;omega) (by have:=HO.out;omega) (by have:=HB.out.lt;simp;omega) _ rfl ?_;intro g7 cap7 w7 hown7 hgr7 hat7 hlt7;have hrow:=jjb HOWN.out;have hb7:Blk w7 E 126 [.int .i64 (x:Int),.slice A1 O.length c1]:=jmy ((HB.out.same (w':=w.drew) rfl).alloc_ _) hgr7 (fun r e=>by have:=hrow r e;omega);have hc7:=hb7.cell 0;have hc8:=hb7.cell 1;have hf7:=hb7.frozen 0;have hf8:=hb7.frozen 1;simp only[jy,jx] at hc7 hc8;have HB7:=jq hb7;have HG7:=jq hgr7;have HOWN7:=jq hown7;clear hb7 hgr7 hown7 hat7 hlt7 hrow)
 all_goals
  obtain⟨hE,hO⟩:=give_end HOWN.out HX.out HB7.out HG7.out HOWN7.out
  clear hc0 hc1 hf0 hf1 HB7 HG7 HOWN7 hc7 hc8 hf7 hf8
  generalize World.setCell w7 ⟨E,1,none⟩ _=w8 at *
  obtain⟨v8,hb8,hown8⟩:=hE
  have HE:=jq (show EncS w8 E x (O++[UInt8.ofNat c]) from ⟨v8,hb8,hown8⟩)
  have HO8:=jq hO
  have hc0:=hb8.cell 0
  have hf0:=hb8.frozen 0
  simp only[jy] at hc0
  clear hb8 hown8 hO
  go_wp2
  refine bodyPost_end (results_none rfl _ _ _) rfl ?_
  exact⟨rfl,(HE.out.setX d).1,HO8.out.trans (HE.out.setX d).2⟩
def encX (w:World) (E:Nat):Nat:=match w.cell? ⟨E,0,none⟩ with
 | some (.int _ i)=>i.toNat
 | _=>0
theorem EncS.state (h:EncS w E x O):encX w E=x:=by
 obtain⟨v,hb,-⟩:=h
 have hc:=hb.cell 0
 simp only[jy] at hc
 unfold encX
 rw[hc]
 simp
def InRel (w:World) (E s y:Nat) (O:List UInt8) (o:List Nat) (wr:World):Prop :=
 ∃ (x1:Nat) (o1 o2:List Nat),o1++o2=o∧Goes s x1 o2 y∧x1<2147483648∧EncS wr E x1 (O++u8s o1)∧jjj E qyx w wr
theorem ransIn_any {f s y:Nat} {o:List Nat} (h:EncS w E x O) (hx:x<2147483648) (hs:1≤s) (hf:f+s≤4096) (hr:s*2048≤x) (ho:O.length≤90000) (hg:Goes s x o y) :
  Calls prog 87 #[.pointer (some ⟨E,0,none⟩),.int .i64 (f:Int),.int .i64 (s:Int)] w fun e w'=>e=.returned (.tuple #[])∧EncS w' E (inX f s y) (O++u8s o)∧jjj E qyx w w':=by
 have hyr:=hg.range hr
 have hol:=goes_few hs 2 x o y hg (by omega)
 have HREL:=jq (show InRel w E s y O o w from ⟨x,[],o,rfl,hg,hx,by rw[show u8s []=[] from rfl,List.append_nil];exact h,jjj.refl _ _ _⟩)
 have HYR:=jq hyr
 have HO:=jq (And.intro ho hol)
 have hs4:(s:Int)≤4096:=by omega
 have hs1:(1:Int)≤(s:Int):=by omega
 have hsw:IntKind.i64.wrap ((s:Int)*524288)=(s:Int)*524288:=by rw[IntKind.wrap_i64];omega
 have HS:=jq (And.intro hs hf)
 clear h hx hr ho hg hyr hol
 go_enter func87,ntmps87
 go_wp2
 go_loopw [] (InRel w E s y O o) (fun wr=>encX wr E)
 case atStart=>exact HREL.out
 case round =>
  clear HREL
  obtain⟨x1,o1,o2,hoo,hg,hx1,he,hot⟩:=hrel
  have hmx:=he.state
  have hol:=congrArg List.length hoo
  rw[List.length_append] at hol
  have C:=jq (qgk he (by rw[List.length_append,jqz];have:=HO.out;omega))
  have HE:=jq he
  have HOT:=jq hot
  obtain⟨v,hb,-⟩:=id he
  have hgl:=hb.lt
  have hc0:=hb.cell 0
  have hf0:=hb.frozen 0
  simp only[jy] at hc0
  have HOO:=jq hoo
  have HG:=jq hg
  have HMX:=jq hmx
  have HGL:=jq hgl
  clear hoo hg he hot hb hmx hol
  by_cases hmore:s*524288≤x1
  ·obtain⟨o3,ho3,hg3⟩:∃ o3,o2=x1%256::o3∧Goes s (x1/256) o3 y:=by
    cases HG.out with
    | stop _ h=>omega
    | more _ o3 _ _ hr=>exact⟨o3,rfl,hr⟩
   have hmi:(s:Int)*524288≤(x1:Int):=by omega
   have HG3:=jq (And.intro ho3 hg3)
   have hd31:x1/256<2147483648∧x1/256<x1:=by omega
   have HD:=jq hd31
   clear hd31 ho3 hg3
   go_wp2_with fail
   refine C.out.mono ?_
   rintro _ w5 ⟨rfl,he5,ho5⟩
   have HE5:=jq he5
   have HO5:=jq (HOT.out.trans ho5)
   clear he5 ho5 C HE HOT hc0 hf0
   go_wp2
   go_roundw
   case rel=>exact⟨x1/256,o1++[x1%256],o3,by rw[List.append_assoc,←HOO.out,HG3.out.1];rfl,HG3.out.2,HD.out.1,by rw[u8s_snoc,←List.append_assoc];exact HE5.out,HO5.out⟩
   case measure=>rw[HE5.out.state,HMX.out];exact HD.out.2
  ·obtain⟨rfl,rfl⟩:o2=[]∧x1=y:=by
    cases HG.out with
    | stop=>exact⟨rfl,rfl⟩
    | more _ _ _ h _=>exact absurd h hmore
   have hoo:=HOO.out
   rw[List.append_nil] at hoo
   subst hoo
   obtain⟨q,mm,q4,qf,d1,d2,d3,d4,d5,d6,d7,d8,d9⟩:=in_vals HS.out.1 HS.out.2 HYR.out.2
   have hmi:¬ (s:Int)*524288≤(x1:Int):=by omega
   have hs0:¬ (s:Int)=0:=by omega
   have hs0n:¬ s=0:=by omega
   obtain⟨X,hX⟩:∃ X,X=inX f s x1:=⟨_,rfl⟩
   rw[←hX] at d8
   have HX:=jq hX
   clear C hX
   go_wp2
   go_region
   all_goals (go_wp2;refine bodyPost_end (results_none rfl _ _ _) rfl ?_)
   all_goals exact⟨rfl,by rw[←HX.out];exact (HE.out.setX X).1.same rfl,(HOT.out.trans (HE.out.setX X).2).drew⟩
end
end
end Go.Proofs.YtflcmmeoppdhdaaGreatDoor
