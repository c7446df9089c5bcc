/- Layer 21: the program's small functions. · Layer 20: the heap's own Push and Pop. · Layer 20: the library's way up and way down a heap. · Layer 20: the library's way down a heap. Printed by .. -/
import Derived.Test.YtflcmmeoppdhdaaGreatDoorQ03
import Derived.Test.YtflcmmeoppdhdaaGreatDoorQ21
import Derived.Deep.AppendLies
set_option maxHeartbeats 2000000
set_option maxRecDepth 100000
namespace Go.Proofs.YtflcmmeoppdhdaaGreatDoor
open Tryz
section
open Go.RowKit Go.Sort Go.Shelf
def cBad (x:Int):Bool:=decide (x<0)||decide (15<x)
theorem qjf {l:List Int}:l.any cBad=false↔∀ x∈l,0≤x∧x≤15:=by
 rw[List.any_eq_false]
 constructor
 ·intro h x hx
  have:=h x hx
  simp[cBad] at this
  omega
 ·intro h x hx
  have:=h x hx
  simp[cBad]
  omega
theorem canonWrong_any (x:Int) (w:World):Calls prog 165 #[.int .i64 x] w fun e w'=>e=.returned (.bool (cBad x))∧w'=w:=by
 unfold cBad
 go_enter func165,ntmps165
 by_cases h:x<0
 ·rw[decide_eq_true h,Bool.true_or]
  go_wp2
  go_ret
  exact⟨rfl,rfl⟩
 ·rw[decide_eq_false h,Bool.false_or]
  go_wp2
  go_ret
  exact⟨rfl,rfl⟩
def WholeC (l:List Int):Prop:=jzs l=32768∨posL l=[1]
def wholeB (l:List Int):Bool:=decide (jzs l=32768)||decide (posL l=[1])
theorem qyq (l:List Int):wholeB l=true↔WholeC l:=by simp[wholeB,WholeC]
theorem wholeB_no {l:List Int} (h:¬ WholeC l):wholeB l=false:=by
 cases hb:wholeB l with
 | false=>rfl
 | true=>exact absurd ((qyq l).1 hb) h
theorem posL_take (l:List Int) {k:Nat} (h:k<l.length):posL (l.take (k+1))=posL (l.take k)++if 0<l[k] then [l[k]] else []:=by
 unfold posL
 rw[List.take_add_one,List.getElem?_eq_getElem h,List.filter_append]
 congr 1
 by_cases e:0<l[k] <;> simp[e]
section
variable {w:World} {A:Option Addr} {n m:Nat} {l:List Int}
theorem canon_fill {B:Nat} (hr:Rd w B A (zvs l)) (hn:l.length=n) (hn1:n≤4096) (hl:∀ x∈l,0≤x∧x≤15) :
  Calls prog 166 #[.slice A n m] w fun e w'=>e=.returned (.bool (wholeB l))∧w'=w:=by
 have HR:=jq hr
 have HC:=jq hn
 have HX:=jq hl
 obtain⟨v,hv⟩:∃ v,v=wholeB l:=⟨_,rfl⟩
 rw[←hv]
 have HV:=jq hv
 clear hr hn hl hv
 go_enter func166,ntmps166
 go_wp2
 go_loopw [3,4,5,7,10] (fun many parts longest _ i wr=>∃ (k M:Nat) (g:Int),k≤n∧i=.int .i64 (k:Int)∧parts=.int .i64 (jzs (l.take k):Int)∧many=.int .i64 (M:Int)∧longest=.int .i64 g∧Hid (M=(posL (l.take k)).length∧(M=1→posL (l.take k)=[g])∧(M=0→g=0))∧0≤g∧g≤15∧M≤k∧wr=w) (fun _ _ _ _ i _=>n - (intOf i).toNat)
 case atStart=>exact⟨0,0,0,Nat.zero_le _,rfl,rfl,rfl,rfl,jq ⟨rfl,fun h=>by omega,fun _=>rfl⟩,by omega,by omega,Nat.le_refl _,rfl⟩
 case round =>
  obtain⟨k,M,g,hk,rfl,rfl,rfl,rfl,HM,hg0,hg1,hMk,rfl⟩:=hrel
  by_cases hlt:k<n
  ·have hkc:k<l.length:=by have:=HC.out;omega
   obtain⟨b,off,rfl,-,hcell⟩:=jjn HR.out hkc
   have hki:(k:Int)<(n:Int):=by omega
   have ht:=kraftI_take l hkc
   have hp:=posL_take l hkc
   have hs:=qgz (l.take k)
   have hs2:jzs (l.take k)≤100000000:=by rw[List.length_take] at hs;omega
   have hx:=HX.out _ (List.getElem_mem hkc)
   obtain⟨x,hxx⟩:∃ x,x=l[k]'hkc:=⟨_,rfl⟩
   rw[←hxx] at hcell ht hp hx
   obtain⟨K,hK⟩:∃ K,K=jzs (l.take k):=⟨_,rfl⟩
   rw[←hK] at ht hs2 ⊢
   have HT:=jq (And.intro ht hp)
   clear ht hp hs hxx hK
   by_cases h0:0<x
   ·obtain⟨X,rfl⟩:∃ X:Nat,x=(X:Int):=⟨x.toNat,by omega⟩
    obtain⟨Q,hQ⟩:∃ Q,Q=2^(15 - X):=⟨_,rfl⟩
    have hQ2:Q≤32768:=by rw[hQ];exact (Nat.pow_le_pow_right (n:=2) (by decide) (show 15 - X≤15 by omega):2^(15 - X)≤2^15)
    have e1:(32768:Int)/2^X=(Q:Int):=by
     rw[hQ,show (32768:Int)=2^(15 - X)*2^X by rw[←Int.pow_add,show 15 - X+X=15 by omega];rfl,Int.mul_ediv_cancel _ (by exact Int.pow_ne_zero (by decide))]
     simp
    have hE:jzs (l.take (k+1))=K+Q:=by
     rw[HT.out.1,hQ,if_pos ⟨by omega,by omega⟩];simp
    have hM2:(M+1=(posL (l.take (k+1))).length)∧(M+1=1→posL (l.take (k+1))=[max g (X:Int)])∧(M+1=0→max g (X:Int)=0):=by
     rw[HT.out.2,if_pos h0]
     refine⟨by rw[List.length_append,←HM.out.1];rfl,fun h=>?_,fun h=>by omega⟩
     have hg:=HM.out.2.2 (by omega)
     have hn:posL (l.take k)=[]:=List.eq_nil_of_length_eq_zero (by rw[←HM.out.1];omega)
     rw[hn,hg]
     simp
    have HE:=jq (And.intro hE hM2)
    obtain⟨g2,hg2⟩:∃ g2,g2=max g (X:Int):=⟨_,rfl⟩
    have hg2b:0≤g2∧g2≤15:=by omega
    rw[←hg2] at HE
    have hg2':max g (X:Int)=g2:=hg2.symm
    clear hQ hE hM2 hg2 HM
    go_wp2
    refine⟨⟨k+1,M+1,g2,by omega,by go_num,by rw[HE.out.1,Int.natCast_add],by go_num,rfl,jq HE.out.2,hg2b.1,hg2b.2,by omega,trivial⟩,by simp[intOf];omega⟩
   ·have hx0:x=0:=by omega
    have HE:=jq (show jzs (l.take (k+1))=K∧posL (l.take (k+1))=posL (l.take k) by
     rw[HT.out.1,if_neg (by omega),HT.out.2,if_neg h0];simp)
    go_wp2
    go_roundw
    case rel=>exact⟨k+1,M,g,by omega,by go_num,by rw[HE.out.1],rfl,rfl,by rw[HE.out.2];exact HM,hg0,hg1,by omega,trivial⟩
    case measure=>simp[intOf];omega
  ·obtain rfl:k=n:=by omega
   rw[List.take_of_length_le (by have:=HC.out;omega)] at HM ⊢
   have hs:=qgz l
   obtain⟨K,hK⟩:∃ K,K=jzs l:=⟨_,rfl⟩
   rw[←hK] at hs ⊢
   have HK:=jq hK
   clear hs hK
   by_cases hK1:K=32768
   ·obtain rfl:v=true:=by rw[HV.out,qyq];exact .inl (by rw[←HK.out];exact hK1)
    subst hK1
    go_wp2
    go_ret
    exact⟨rfl,rfl⟩
   ·have hK2:¬ (K:Int)=32768:=by omega
    by_cases hM1:M=1
    ·subst hM1
     have hp:=HM.out.2.1 rfl
     by_cases hg:g=1
     ·obtain rfl:v=true:=by rw[HV.out,qyq];exact .inr (by rw[hp,hg])
      subst hg
      clear hp
      go_wp2
      go_ret
      exact⟨by simp,rfl⟩
     ·obtain rfl:v=false:=by
       rw[HV.out]
       refine wholeB_no fun h=>?_
       rcases h with h | h
       ·rw[←HK.out] at h;exact hK1 h
       ·rw[hp] at h;injection h with h;exact hg h
      clear hp
      go_wp2
      go_ret
      exact⟨by simp[hK2,hg],rfl⟩
    ·obtain rfl:v=false:=by
      rw[HV.out]
      refine wholeB_no fun h=>?_
      rcases h with h | h
      ·rw[←HK.out] at h;exact hK1 h
      ·have:=HM.out.1;rw[h] at this;exact hM1 this
     have hM2:¬ (M:Int)=1:=by omega
     go_wp2
     go_ret
     exact⟨by simp[hK2],rfl⟩
theorem size_code:(prog.info? 215).map (·.size)=some 2:=by kernel_rfl
theorem canon_longer (b s S:Nat) (hs:s≤S) (hS:S≤15) (hb:b*2^(S - s)≤1000000) (w:World) :
  Calls prog 168 #[qxx (b,s),.int .i64 (S:Int)] w fun e w'=>e=.returned (qxx (b*2^(S - s),S))∧Below w.heap.size w w':=by
 obtain⟨d,hd⟩:∃ d,d=S - s:=⟨_,rfl⟩
 rw[←hd] at hb ⊢
 unfold qxx jkj
 simp only
 obtain⟨Q,hQ⟩:∃ Q,Q=b*2^d:=⟨_,rfl⟩
 have e1:(b:Int)*2^d=(Q:Int):=by rw[hQ];simp
 rw[←hQ] at hb ⊢
 have e2:(S:Int) - (s:Int)=(d:Int):=by omega
 have e3:wrap64 (Q:Int)=(Q:Int):=by rw[IntWalk.wrap64_in _ (by omega)]
 have hd15:d≤15:=by omega
 clear hQ hd hs hS
 go_enter func168,ntmps168
 go_wp2
 have h2:=heap_alloc2_new w (.cells #[.int .i64 (b:Int),.int .i64 (s:Int)] 215) (.cells #[.int .i64 (Q:Int),.int .i64 (S:Int)] 215)
 exact bodyPost_ret (v:=.agg #[.int .i64 (Q:Int),.int .i64 (S:Int)]) (results_cell_row results168 _ _ (w.heap.size+1) 215 _ (0,0) _ rfl h2 underlying215 rfl size_code) rfl ⟨rfl,((Below.refl _ _).alloc jw _).alloc (by simp) _⟩
end
section
variable {w w':World} {T S cap:Nat} {l:List Pr}
theorem HAt.popped (h:HAt w T S cap l) {n:Nat} (hn:n≤l.length) (o:Obj) :
  HAt ((w.setCell ⟨T,0,none⟩ (.slice (some ⟨S,0,none⟩) n cap)).alloc o) T S cap (l.take n)∧jjq T S w ((w.setCell ⟨T,0,none⟩ (.slice (some ⟨S,0,none⟩) n cap)).alloc o):=by
 have hne:=h.ne
 obtain⟨cur,h1,h2,h3⟩:=h.row
 have hl:(l.take n).length=n:=by simp;omega
 refine⟨⟨?_,⟨cur,?_,h2,?_⟩,by have:=h.room;omega,h.most⟩,?_⟩
 ·rw[hl]
  exact (h.box.set_ 0 _).alloc_ o
 ·exact (h1.setOther _ _ (fun e=>hne e.symm)).alloc_ o
 ·rw[hl,←pvs_take,←h3,List.take_take,Nat.min_eq_left (by omega)]
 ·exact (jjq.setT _ _).allocO o
theorem things_pop (h:HAt w T S cap l) (n:Nat) (hn:l.length=n+1) (hn2:n≤1000000) :
  Calls prog 306 #[.pointer (some ⟨T,0,none⟩)] w fun e w'=>e=.returned (.iface 283 (.agg #[.int .i64 ((pat l n).1:Int),.int .i64 ((pat l n).2:Int)]))∧HAt w' T S cap (l.take n)∧jjq T S w w':=by
 have hc:=h.boxCell
 have hf:=h.box.frozen 0
 have c0:=h.cell0 (k:=n) (by omega)
 have c1:=h.cell1 (k:=n) (by omega)
 have hroom:=h.room
 have hT:=h.box.lt
 have hS:S<w.heap.size:=by obtain⟨cur,h1,-⟩:=h.row;exact h1.lt
 rw[hn] at hc hroom
 obtain⟨x,hx⟩:∃ x,x=(pat l n).1:=⟨_,rfl⟩
 obtain⟨y,hy⟩:∃ y,y=(pat l n).2:=⟨_,rfl⟩
 rw[←hx] at c0 ⊢
 rw[←hy] at c1 ⊢
 have H:=jq h
 have HN:=jq hn
 clear h hn hx hy
 go_enter func306,ntmps306
 go_wp2
 go_ret
 exact⟨rfl,H.out.popped (by have:=HN.out;omega) _⟩
theorem HAt.own (h:HAt w T S cap l):w.ownsRow S 283 2 (.slice (some ⟨S,0,none⟩) l.length cap) l.length (pvs l):=by
 obtain⟨cur,h1,h2,h3⟩:=h.row
 exact⟨pvs_length l,.inr ⟨S,cap,cur.toArray,rfl,Nat.le_refl _,h1,h.room,h.most,by simpa using h2,by simpa using h3⟩⟩
theorem HAt.of_own {b g:Nat} {v:Value} (hb:Blk w T 280 [v]) (hv:v=.slice (some ⟨g,0,none⟩) l.length cap) (ho:w.ownsRow b 283 2 v l.length (pvs l)) (h0:0<l.length):HAt w T g cap l:=by
 subst hv
 rcases ho.2 with ⟨h1,h2⟩ | ⟨g',cap',cur,he,hb',hg,hn,hm,hs,ht⟩
 ·omega
 ·injection he with e1 _ e2
  injection e1 with e1
  injection e1 with e1
  subst e1 e2
  exact⟨hb,⟨cur.toList,by unfold Blk;simpa using hg,by simpa using hs,ht⟩,hn,hm⟩
theorem push_end {x:Pr} {n g7 cap7:Nat} {w7:World} {cs ds:Array Value} {t1 t2:TypeId} (h:HAt w T S cap l) (hn:n=l.length)
  (hb7:Blk w7 T 280 [.slice (some ⟨S,0,none⟩) n cap]) (hg7:World.grownBy (((w.alloc (.cells cs t1)).drew).alloc (.cells ds t2)) w7 (some S))
  (hown7:w7.ownsRow S 283 2 (.slice (some ⟨g7,0,none⟩) (n+1) cap7) (n+1) (pvs l++[.int .i64 (x.1:Int),.int .i64 (x.2:Int)])) (hat:some S=some g7∨g7=w.heap.size+2) :
  ∃ S' cap',HAt (w7.setCell ⟨T,0,none⟩ (.slice (some ⟨g7,0,none⟩) (n+1) cap7)) T S' cap' (l++[x])∧jjq T S w (w7.setCell ⟨T,0,none⟩ (.slice (some ⟨g7,0,none⟩) (n+1) cap7))∧(S'=S∨w.heap.size≤S'):=by
 have hT:T<w.heap.size:=h.box.lt
 have hne:=h.ne
 have hl:(l++[x]).length=n+1:=by simp[hn]
 have hgT:g7≠T:=by
  rcases hat with e | e
  ·injection e with e;omega
  ·omega
 refine⟨g7,cap7,?_,?_,?_⟩
 ·have h1:w7.ownsRow S 283 2 (.slice (some ⟨g7,0,none⟩) (l++[x]).length cap7) (l++[x]).length (pvs (l++[x])):=by
   rw[hl,pvs_append];exact hown7
  have h2:(w7.setCell ⟨T,0,none⟩ (.slice (some ⟨g7,0,none⟩) (n+1) cap7)).ownsRow S 283 2 (.slice (some ⟨g7,0,none⟩) (l++[x]).length cap7) (l++[x]).length (pvs (l++[x])):=by
   refine⟨h1.1,?_⟩
   rcases h1.2 with h0 | ⟨g,cap',cur,e,hbg,hg,rest⟩
   ·exact .inl h0
   ·refine .inr ⟨g,cap',cur,e,hbg,?_,rest⟩
    injection e with e1 _ _
    injection e1 with e1
    injection e1 with e1
    rw[Below.heap_setCell _ _ _ g (by show g≠T;omega)]
    exact hg
  exact HAt.of_own (v:=.slice (some ⟨g7,0,none⟩) (l++[x]).length cap7) (by rw[hl];exact hb7.set_ 0 _) rfl h2 (by omega)
 ·have h3:jjq T S w (((w.alloc (.cells cs t1)).drew).alloc (.cells ds t2)):=((jjq.refl T S w).allocO _).drew.allocO _
  have h4:jjq T S (((w.alloc (.cells cs t1)).drew).alloc (.cells ds t2)) w7:=jjq.grown hg7 fun r e=>by injection e with e;exact .inr e.symm
  exact (h3.trans h4).trans (jjq.setT _ _)
 ·rcases hat with e | e
  ·injection e with e;exact .inl e.symm
  ·exact .inr (by omega)
theorem asserts_ok (v:Value) (w:World):(Instr.typeAssert (.iface 283 v) 20 283 true).run prog w=.ok (.tuple #[v,.bool true]) w:=by kernel_rfl
theorem asserts_one (v:Value) (w:World):(Instr.typeAssert (.iface 283 v) 20 283 false).run prog w=.ok v w:=by kernel_rfl
theorem info_thing20:(prog.info? 283).map (fun i=>(i.zero,i.size,i.bytes))=some (some (.agg #[.int .i64 0,.int .i64 0]),2,16):=by kernel_rfl
theorem things_push (h:HAt w T S cap l) (hn2:l.length≤1000000) (x:Pr) :
  Calls prog 307 #[.pointer (some ⟨T,0,none⟩),.iface 283 (.agg #[.int .i64 (x.1:Int),.int .i64 (x.2:Int)])] w fun e w'=>e=.returned (.tuple #[])∧∃ S' cap',HAt w' T S' cap' (l++[x])∧jjq T S w w'∧(S'=S∨w.heap.size≤S'):=by
 have hc:=h.boxCell
 have hf:=h.box.frozen 0
 have hroom:=h.room
 have hT:=h.box.lt
 have hS:S<w.heap.size:=by obtain⟨cur,h1,-⟩:=h.row;exact h1.lt
 obtain⟨i0,hi0,hz0,hz1,hz2⟩:=info_parts info_thing20
 obtain⟨x0,x1⟩:=x
 simp only
 have H:=jq h
 obtain⟨n,hn⟩:∃ n,n=l.length:=⟨_,rfl⟩
 rw[←hn] at hc hroom hn2
 have hne:=h.ne
 have HOWN:=jq (hn ▸ h.own)
 have HBOX:=jq (hn ▸ h.box)
 have HN:=jq hn
 clear h hn
 have has:=asserts_ok (.agg #[.int .i64 (x0:Int),.int .i64 (x1:Int)])
 go_enter func307,ntmps307
 go_wp2
 go_region_law (refine step_append_lies _ (by rfl) _ _ _ (by rfl) S 283 i0 (.agg #[.int .i64 0,.int .i64 0]) 2 16 underlying280 hi0 hz0 hz1 hz2 rfl (by decide) _ _ _ (by rfl) ((own_drew (HOWN.out.alloc _)).alloc _) _ 1 1 [.int .i64 (x0:Int),.int .i64 (x1:Int)] (by rfl) (by rfl) (World.news_of_block (heap_alloc2_new w _ _)) (by intro u hu;simp at hu;rcases hu with rfl | rfl <;> rfl) (by decide) (by simp only[maxLen];omega) (by omega) (by simp;omega) (w.heap.size+2) (by simp) ?_;intro g7 cap7 w7 hown7 hgr7 hat7 hlt7;have hb7:Blk w7 T 280 [.slice (some ⟨S,0,none⟩) n cap]:=jmy (((HBOX.out.alloc_ _).drew_).alloc_ _) hgr7 (fun r e=>by have e2:S=r:=Option.some.inj e;omega);have hc7:=hb7.cell 0;have hf7:=hb7.frozen 0;simp only[jy] at hc7;have HB7:=jq hb7;have HG7:=jq hgr7;have HOWN7:=jq hown7;have HAT7:=jq hat7;clear hb7 hgr7 hown7 hat7 hlt7)
 all_goals (go_wp2;refine bodyPost_end (results_none rfl _ _ _) rfl ?_;refine⟨rfl,?_⟩)
 all_goals exact push_end H.out HN.out HB7.out HG7.out HOWN7.out HAT7.out
end
theorem HAt.drewN {w:World} {T S cap:Nat} {l:List Pr} (h:HAt w T S cap l) (q:Nat):HAt (w.drewN q) T S cap l:=h.same rfl
theorem jjq.drewN {T S:Nat} {w w':World} (h:jjq T S w w') (q:Nat):jjq T S w (w'.drewN q):=⟨h.os,h.tape,h.output,h.size,h.block⟩
section
variable {w w':World} {T S cap:Nat} {l:List Pr}
theorem heap_up (h:HAt w T S cap l) (j0:Nat) (hj:UpOk l j0) (hn:l.length≤1000000) :
  Calls prog 262 #[.iface 278 (.pointer (some ⟨T,0,none⟩)),.int .i64 (j0:Int)] w fun e w'=>e=.returned (.tuple #[])∧∃ l',HAt w' T S cap l'∧l'.Perm l∧jbq l'∧jjq T S w w':=by
 have H:=jq h
 have HJ:=jq hj
 clear h hj
 go_enter func262,ntmps262
 go_wp2
 go_loopw [1] (fun vj wr=>∃ (j:Nat) (l':List Pr),vj=.int .i64 (j:Int)∧HAt wr T S cap l'∧l'.Perm l∧UpOk l' j∧jjq T S w wr) (fun vj _=>(intOf vj).toNat)
 case atStart=>exact⟨j0,l,rfl,H.out,List.Perm.refl _,HJ.out,jjq.refl _ _ _⟩
 case round =>
  obtain⟨j,l',rfl,hh,hp,hu,ht⟩:=hrel
  have hjl:j<l'.length:=hu.lt
  have hll:l'.length≤1000000:=by rw[hp.length_eq];exact hn
  have HH:=jq hh
  have HP:=jq (And.intro hp (And.intro hu ht))
  have mL:=qvt hh
  simp only[Tryz.types_size,Nat.reduceAdd] at mL
  clear hh hp hu ht H HJ
  by_cases h0:j=0
  ·subst h0
   go_wp2
   go_end0
   exact⟨rfl,l',HH.out,HP.out.1,HP.out.2.1.done (.inl rfl),HP.out.2.2⟩
  ·have hp0:par j<j:=qjq (by omega)
   have C:=jq (jmp (cap:=cap) HH.out hjl (show par j<l'.length by omega))
   have e1:(((j:Int) - 1).tdiv 2)=((par j:Nat):Int):=by
    unfold par
    rw[Int.tdiv_eq_ediv_of_nonneg (by omega)]
    omega
   obtain⟨i,hi⟩:∃ i,i=par j:=⟨_,rfl⟩
   rw[←hi] at hp0 e1 C
   have HI:=jq hi
   clear hi
   have hne:¬ (i:Int)=(j:Int):=by omega
   obtain⟨b,hb⟩:∃ b,b=pl (pat l' j) (pat l' i):=⟨_,rfl⟩
   rw[←hb] at C
   have HBB:=jq hb
   clear hb
   cases b with
   | false =>
    go_wp2_with fail
    refine C.out.mono ?_
    rintro _ w0 ⟨rfl,q,hw0⟩
    subst w0
    have HE:=jq (show jbq l' from HP.out.2.1.done (.inr (by rw[←HI.out];exact HBB.out.symm)))
    go_wp2
    go_end0
    exact⟨rfl,l',HH.out.drewN q,HP.out.1,HE.out,HP.out.2.2.drewN q⟩
   | true =>
    go_wp2_with fail
    refine C.out.mono ?_
    rintro _ w0 ⟨rfl,q,hw0⟩
    subst w0
    have D:=jq (jmr (HH.out.drewN q) (i:=i) (j:=j) (by omega) hjl)
    have mS:=qqb (HH.out.drewN q)
    simp only[Tryz.types_size,Nat.reduceAdd] at mS
    go_wp2_with fail
    refine D.out.mono ?_
    rintro _ w3 ⟨rfl,hh3,ht3⟩
    have HEND:=jq (And.intro hh3 (HP.out.2.2.drewN q |>.trans ht3))
    clear hh3 ht3
    go_wp2
    go_roundw
    case rel=>exact⟨i,qwq l' i j,rfl,HEND.out.1,(qqt (by omega) hjl).trans HP.out.1,by
     have h:=HP.out.2.1.step (by omega) (by rw[←HI.out];exact HBB.out.symm)
     rw[←HI.out] at h;exact h,HEND.out.2⟩
    case measure=>simp[intOf];omega
end
theorem qkz {k i:Nat} (h0:0<k) (h:par k=i):k=2*i+1∨k=2*i+2:=by unfold par at h;omega
section
variable {w w':World} {T S cap:Nat} {l:List Pr}
theorem heap_down (h:HAt w T S cap l) (i0 n:Nat) (hj:qdm l n i0) (hi0:i0≤n) (hn:l.length≤1000000) :
  Calls prog 263 #[.iface 278 (.pointer (some ⟨T,0,none⟩)),.int .i64 (i0:Int),.int .i64 (n:Int)] w fun e w'=>∃ b,e=.returned (.bool b)∧∃ l',HAt w' T S cap l'∧l'.Perm l∧HeapN l' n∧(∀ k,n≤k→pat l' k=pat l k)∧jjq T S w w':=by
 have H:=jq h
 have HJ:=jq hj
 have hnl:=hj.most
 clear h hj
 go_enter func263,ntmps263
 go_wp2
 go_loopw [7,8,9,10] (fun vi _ _ _ wr=>∃ (i:Nat) (l':List Pr),vi=.int .i64 (i:Int)∧i≤n∧HAt wr T S cap l'∧l'.Perm l∧qdm l' n i∧(∀ k,n≤k→pat l' k=pat l k)∧jjq T S w wr) (fun vi _ _ _ _=>n - (intOf vi).toNat)
 case atStart=>exact⟨i0,l,rfl,hi0,H.out,List.Perm.refl _,HJ.out,fun _ _=>rfl,jjq.refl _ _ _⟩
 case round =>
  obtain⟨i,l',rfl,hin,hh,hp,hu,hk,ht⟩:=hrel
  have hll:l'.length≤1000000:=by rw[hp.length_eq];exact hn
  have hnl':n≤l'.length:=by rw[hp.length_eq];exact hnl
  have HH:=jq hh
  have HP:=jq (And.intro hp (And.intro hu (And.intro hk ht)))
  have mL:=qvt hh
  simp only[Tryz.types_size,Nat.reduceAdd] at mL
  have hi1:i≤1000000:=by omega
  have hn1:n≤1000000:=by omega
  clear hh hp hu ht hk H HJ hn
  by_cases h1:2*i+1<n
  ·by_cases h2:2*i+2<n
   ·have C:=jq (jmp (cap:=cap) HH.out (i:=2*i+2) (j:=2*i+1) (by omega) (by omega))
    obtain⟨b,hb⟩:∃ b,b=pl (pat l' (2*i+2)) (pat l' (2*i+1)):=⟨_,rfl⟩
    rw[←hb] at C
    have HBB:=jq hb
    clear hb
    obtain⟨j1,hj1⟩:∃ j1,j1=2*i+1:=⟨_,rfl⟩
    have e1:2*(i:Int)+1=(j1:Int):=by omega
    have C1:=C.out
    rw[show 2*i+2=j1+1 by omega,←hj1] at C1
    have CC:=jq C1
    clear C C1
    have HJ1:=jq hj1
    have h3:j1<n:=by omega
    have h4:j1+1<n:=by omega
    have h5:i<j1:=by omega
    clear hj1 h1 h2
    cases b with
    | true =>
     go_wp2_with fail
     refine CC.out.mono ?_
     rintro _ w0 ⟨rfl,q,hw0⟩
     subst w0
     have hlm:∀ k,0<k→k<n→par k=i→pl (pat l' k) (pat l' (j1+1))=false:=fun k g0 g1 g2=>by
      have e:=HJ1.out
      rcases qkz g0 g2 with e2 | e2
      ·rw[e2,←e]
       have hb:=HBB.out
       rw[←e,show 2*i+2=j1+1 by omega] at hb
       exact pl_flip hb.symm
      ·rw[e2,show 2*i+2=j1+1 by omega,pl_no];omega
     have hpj:par (j1+1)=i:=by unfold par;have:=HJ1.out;omega
     have C2:=jq (jmp (cap:=cap) (HH.out.drewN q) (i:=j1+1) (j:=i) (by omega) (by omega))
     obtain⟨b2,hb2⟩:∃ b2,b2=pl (pat l' (j1+1)) (pat l' i):=⟨_,rfl⟩
     rw[←hb2] at C2
     obtain⟨jj,hjj⟩:∃ jj,jj=j1+1:=⟨_,rfl⟩
     rw[←hjj] at hlm hpj hb2 C2
     have hjn:jj<n:=by omega
     have hij:i<jj:=by omega
     have HLM:=jq (And.intro hlm (And.intro hpj hb2))
     have mL2:=qvt (HH.out.drewN q)
     simp only[Tryz.types_size,Nat.reduceAdd] at mL2
     clear hlm hpj hb2
     have HJJ:=jq hjj
     clear hjj
     have e3:(j1:Int)+1=(jj:Int):=by have:=HJJ.out;omega
     cases b2 with
     | false =>
      go_wp2_with fail
      refine C2.out.mono ?_
      rintro _ w1 ⟨rfl,q2,hw1⟩
      subst w1
      have hd:HeapN l' n:=HP.out.2.1.done fun k g0 g1 g2=>qky (HLM.out.1 k g0 g1 g2) HLM.out.2.2.symm
      have HD:=jq hd
      clear hd
      go_wp2
      go_ret
      exact⟨_,rfl,l',HH.out.drewN (q+q2),HP.out.1,HD.out,HP.out.2.2.1,HP.out.2.2.2.drewN (q+q2)⟩
     | true =>
      go_wp2_with fail
      refine C2.out.mono ?_
      rintro _ w1 ⟨rfl,q2,hw1⟩
      subst w1
      have D:=jq (jmr (HH.out.drewN (q+q2)) (i:=i) (j:=jj) (by omega) (by omega))
      have mS:=qqb (HH.out.drewN (q+q2))
      simp only[Tryz.types_size,Nat.reduceAdd] at mS
      go_wp2_with fail
      refine D.out.mono ?_
      rintro _ w3 ⟨rfl,hh3,ht3⟩
      have HEND:=jq (And.intro hh3 ((HP.out.2.2.2.drewN (q+q2)).trans ht3))
      clear hh3 ht3
      go_wp2
      go_roundw
      case rel=>exact⟨jj,qwq l' i jj,rfl,by omega,HEND.out.1,(qqt (by omega) (by omega)).trans HP.out.1,HP.out.2.1.step (by omega) hjn HLM.out.2.1 HLM.out.1 HLM.out.2.2.symm,fun k hk=>by rw[jyl (by omega) (by omega),if_neg (by omega),if_neg (by omega)];exact HP.out.2.2.1 k hk,HEND.out.2⟩
      case measure=>simp[intOf];omega
    | false =>
     go_wp2_with fail
     refine CC.out.mono ?_
     rintro _ w0 ⟨rfl,q,hw0⟩
     subst w0
     have hlm:∀ k,0<k→k<n→par k=i→pl (pat l' k) (pat l' (j1))=false:=fun k g0 g1 g2=>by
      have e:=HJ1.out
      rcases qkz g0 g2 with e2 | e2
      ·rw[e2,←e,pl_no];omega
      ·have hb:=HBB.out
       rw[←e,show 2*i+2=j1+1 by omega] at hb
       rw[e2,show 2*i+2=j1+1 by omega]
       exact hb.symm
     have hpj:par (j1)=i:=by unfold par;have:=HJ1.out;omega
     have C2:=jq (jmp (cap:=cap) (HH.out.drewN q) (i:=j1) (j:=i) (by omega) (by omega))
     obtain⟨b2,hb2⟩:∃ b2,b2=pl (pat l' (j1)) (pat l' i):=⟨_,rfl⟩
     rw[←hb2] at C2
     obtain⟨jj,hjj⟩:∃ jj,jj=j1:=⟨_,rfl⟩
     rw[←hjj] at hlm hpj hb2 C2
     have hjn:jj<n:=by omega
     have hij:i<jj:=by omega
     have HLM:=jq (And.intro hlm (And.intro hpj hb2))
     have mL2:=qvt (HH.out.drewN q)
     simp only[Tryz.types_size,Nat.reduceAdd] at mL2
     clear hlm hpj hb2
     have HJJ:=jq hjj
     clear hjj
     have hx:jj=j1:=HJJ.out
     clear HJJ
     subst hx
     cases b2 with
     | false =>
      go_wp2_with fail
      refine C2.out.mono ?_
      rintro _ w1 ⟨rfl,q2,hw1⟩
      subst w1
      have hd:HeapN l' n:=HP.out.2.1.done fun k g0 g1 g2=>qky (HLM.out.1 k g0 g1 g2) HLM.out.2.2.symm
      have HD:=jq hd
      clear hd
      go_wp2
      go_ret
      exact⟨_,rfl,l',HH.out.drewN (q+q2),HP.out.1,HD.out,HP.out.2.2.1,HP.out.2.2.2.drewN (q+q2)⟩
     | true =>
      go_wp2_with fail
      refine C2.out.mono ?_
      rintro _ w1 ⟨rfl,q2,hw1⟩
      subst w1
      have D:=jq (jmr (HH.out.drewN (q+q2)) (i:=i) (j:=jj) (by omega) (by omega))
      have mS:=qqb (HH.out.drewN (q+q2))
      simp only[Tryz.types_size,Nat.reduceAdd] at mS
      go_wp2_with fail
      refine D.out.mono ?_
      rintro _ w3 ⟨rfl,hh3,ht3⟩
      have HEND:=jq (And.intro hh3 ((HP.out.2.2.2.drewN (q+q2)).trans ht3))
      clear hh3 ht3
      go_wp2
      go_roundw
      case rel=>exact⟨jj,qwq l' i jj,rfl,by omega,HEND.out.1,(qqt (by omega) (by omega)).trans HP.out.1,HP.out.2.1.step (by omega) hjn HLM.out.2.1 HLM.out.1 HLM.out.2.2.symm,fun k hk=>by rw[jyl (by omega) (by omega),if_neg (by omega),if_neg (by omega)];exact HP.out.2.2.1 k hk,HEND.out.2⟩
      case measure=>simp[intOf];omega
   ·obtain⟨j1,hj1⟩:∃ j1,j1=2*i+1:=⟨_,rfl⟩
    have e1:2*(i:Int)+1=(j1:Int):=by omega
    have HJ1:=jq hj1
    have h3:j1<n:=by omega
    have h4:¬ j1+1<n:=by omega
    have h5:i<j1:=by omega
    clear hj1 h1 h2
    have hlm:∀ k,0<k→k<n→par k=i→pl (pat l' k) (pat l' (j1))=false:=fun k g0 g1 g2=>by
     have e:=HJ1.out
     rcases qkz g0 g2 with e2 | e2
     ·rw[e2,←e,pl_no];omega
     ·omega
    have hpj:par (j1)=i:=by unfold par;have:=HJ1.out;omega
    have C2:=jq (jmp (cap:=cap) HH.out (i:=j1) (j:=i) (by omega) (by omega))
    obtain⟨b2,hb2⟩:∃ b2,b2=pl (pat l' (j1)) (pat l' i):=⟨_,rfl⟩
    rw[←hb2] at C2
    obtain⟨jj,hjj⟩:∃ jj,jj=j1:=⟨_,rfl⟩
    rw[←hjj] at hlm hpj hb2 C2
    have hjn:jj<n:=by omega
    have hij:i<jj:=by omega
    have HLM:=jq (And.intro hlm (And.intro hpj hb2))
    clear hlm hpj hb2
    have HJJ:=jq hjj
    clear hjj
    have hx:jj=j1:=HJJ.out
    clear HJJ
    subst hx
    cases b2 with
    | false =>
     go_wp2_with fail
     refine C2.out.mono ?_
     rintro _ w1 ⟨rfl,q2,hw1⟩
     subst w1
     have hd:HeapN l' n:=HP.out.2.1.done fun k g0 g1 g2=>qky (HLM.out.1 k g0 g1 g2) HLM.out.2.2.symm
     have HD:=jq hd
     clear hd
     go_wp2
     go_ret
     exact⟨_,rfl,l',HH.out.drewN q2,HP.out.1,HD.out,HP.out.2.2.1,HP.out.2.2.2.drewN q2⟩
    | true =>
     go_wp2_with fail
     refine C2.out.mono ?_
     rintro _ w1 ⟨rfl,q2,hw1⟩
     subst w1
     have D:=jq (jmr (HH.out.drewN q2) (i:=i) (j:=jj) (by omega) (by omega))
     have mS:=qqb (HH.out.drewN q2)
     simp only[Tryz.types_size,Nat.reduceAdd] at mS
     go_wp2_with fail
     refine D.out.mono ?_
     rintro _ w3 ⟨rfl,hh3,ht3⟩
     have HEND:=jq (And.intro hh3 ((HP.out.2.2.2.drewN q2).trans ht3))
     clear hh3 ht3
     go_wp2
     go_roundw
     case rel=>exact⟨jj,qwq l' i jj,rfl,by omega,HEND.out.1,(qqt (by omega) (by omega)).trans HP.out.1,HP.out.2.1.step (by omega) hjn HLM.out.2.1 HLM.out.1 HLM.out.2.2.symm,fun k hk=>by rw[jyl (by omega) (by omega),if_neg (by omega),if_neg (by omega)];exact HP.out.2.2.1 k hk,HEND.out.2⟩
     case measure=>simp[intOf];omega
  ·have hd:HeapN l' n:=HP.out.2.1.done fun k h0 hkn hk=>by
    rcases qkz h0 hk with e | e <;> omega
   have HD:=jq hd
   clear hd
   have e1:(n:Int)≤2*(i:Int)+1:=by omega
   go_wp2
   go_ret
   exact⟨_,rfl,l',HH.out,HP.out.1,HD.out,HP.out.2.2.1,HP.out.2.2.2⟩
end
theorem jjq.next {T S S':Nat} {w w' w'':World} (h:jjq T S w w') (hs:S'=S∨w.heap.size≤S') (k:jjq T S' w' w''):jjq T S w w'' :=
 ⟨k.os.trans h.os,k.tape.trans h.tape,k.output.trans h.output,Nat.le_trans h.size k.size,fun i hi h1 h2=>(k.block i (Nat.lt_of_lt_of_le hi h.size) h1 (by rcases hs with e | e <;> omega)).trans (h.block i hi h1 h2)⟩
def qqc (x:Pr):Value:=.agg #[.int .i64 (x.1:Int),.int .i64 (x.2:Int)]
section
variable {w w':World} {T S cap:Nat} {l:List Pr}
theorem HAt.setOther (h:HAt w T S cap l) {g i:Nat} {v:Value} (h1:T≠g) (h2:S≠g):HAt (w.setCell ⟨g,i,none⟩ v) T S cap l:=by
 obtain⟨cur,h3,h4⟩:=h.row
 exact⟨h.box.setOther _ _ h1,⟨cur,h3.setOther _ _ h2,h4⟩,h.room,h.most⟩
def Pushed (w:World) (T S:Nat) (l:List Pr) (x:Pr) (w':World):Prop:=∃ S' cap' l',HAt w' T S' cap' l'∧l'.Perm (l++[x])∧jbq l'∧jjq T S w w'∧(S'=S∨w.heap.size≤S')
def Popped (w:World) (T S cap:Nat) (l:List Pr) (n:Nat) (w':World):Prop:=∃ m,m.Perm l∧pat m n=pat l 0∧HeapN m n∧HAt w' T S cap (m.take n)∧jjq T S w w'
theorem heap_push (h:HAt w T S cap l) (hh:jbq l) (hn:l.length≤100000) (x:Pr) :
  Calls prog 255 #[.iface 278 (.pointer (some ⟨T,0,none⟩)),.iface 283 (qqc x)] w fun e w'=>e=.returned (.tuple #[])∧Pushed w T S l x w':=by
 have C:=jq (things_push h (by omega) x)
 have mP:=meth_push T w
 simp only[Tryz.types_size,Nat.reduceAdd] at mP
 have HI:=jq hh
 obtain⟨v,hv⟩:∃ v,v=qqc x:=⟨_,rfl⟩
 rw[←hv]
 have HV:=jq hv
 clear h hh hv
 go_enter func255,ntmps255
 go_wp2_with fail
 rw[HV.out]
 refine C.out.mono ?_
 rintro _ w1 ⟨rfl,S1,cap1,h1,ht1,hs1⟩
 have hl1:(l++[x]).length=l.length+1:=by simp
 have HH1:=jq h1
 have HT1:=jq (And.intro ht1 hs1)
 have mL:=meth_len h1
 simp only[Tryz.types_size,Nat.reduceAdd] at mL
 have D:=jq (jdg (some ⟨S1,0,none⟩) (l++[x]).length cap1 w1)
 rw[hl1] at mL D
 have U:=jq (heap_up h1 l.length (push_up HI.out x) (by omega))
 obtain⟨n,hnn⟩:∃ n,n=l.length:=⟨_,rfl⟩
 rw[←hnn] at mL D U hn
 clear h1 ht1 hs1 hl1 C hnn
 go_wp2_with fail
 refine D.out.mono ?_
 rintro _ w0 ⟨rfl,hw0⟩
 subst w0
 go_wp2_with fail
 refine U.out.mono ?_
 rintro _ w2 ⟨rfl,l2,h2,hp2,hi2,ht2⟩
 have HEND:=jq (show Pushed w T S l x w2 from ⟨S1,cap1,l2,h2,hp2,hi2,HT1.out.1.next HT1.out.2 ht2,HT1.out.2⟩)
 clear h2 hp2 hi2 ht2
 go_wp2
 go_end0
 exact⟨rfl,HEND.out⟩
theorem heap_pop (h:HAt w T S cap l) (hh:jbq l) (n:Nat) (hn:l.length=n+1) (hn2:n≤100000) :
  Calls prog 256 #[.iface 278 (.pointer (some ⟨T,0,none⟩))] w fun e w'=>e=.returned (.iface 283 (qqc (pat l 0)))∧Popped w T S cap l n w':=by
 have C:=jq (jdg (some ⟨S,0,none⟩) l.length cap w)
 have mL:=meth_len h
 have mS:=qqb h
 simp only[Tryz.types_size,Nat.reduceAdd] at mL mS
 have D:=jq (jmr h (i:=0) (j:=n) (by omega) (by omega))
 have HD:=jq (pop_down hh hn)
 have H:=jq (And.intro h (And.intro hh hn))
 rw[hn] at mL mS C D
 clear h hh hn
 go_enter func256,ntmps256
 go_wp2_with fail
 refine C.out.mono ?_
 rintro _ w0 ⟨rfl,hw0⟩
 subst w0
 have DD:=D.out
 clear C D
 have D:=jq DD
 clear DD
 go_wp2_with fail
 refine D.out.mono ?_
 rintro _ w1 ⟨rfl,h1,ht1⟩
 have E:=jq (heap_down h1 0 n HD.out (Nat.zero_le _) (by rw[jxb,H.out.2.2];omega))
 have HT1:=jq ht1
 clear h1 ht1 mL mS
 go_wp2_with fail
 refine E.out.mono ?_
 rintro _ w2 ⟨b,rfl,m,h2,hp2,hn3,hk,ht2⟩
 have hml:m.length=n+1:=by rw[hp2.length_eq,jxb,H.out.2.2]
 have F:=jq (things_pop h2 n hml (by omega))
 have mP:=meth_pop T w2
 simp only[Tryz.types_size,Nat.reduceAdd] at mP
 have h0:pat m n=pat (l) 0:=by
  rw[hk n jw,jyl (by have:=H.out.2.2;omega) (by have:=H.out.2.2;omega),if_pos rfl]
 rw[h0] at F
 have HR:=jq (And.intro (hp2.trans (qqt (l:=l) (i:=0) (j:=n) (by have:=H.out.2.2;omega) (by have:=H.out.2.2;omega))) (And.intro h0 (And.intro hn3 (HT1.out.trans ht2))))
 obtain⟨v,hv⟩:∃ v,v=qqc (pat l 0):=⟨_,rfl⟩
 have HV:=jq hv
 clear h2 hp2 hn3 hk ht2 h0 hml hv E
 go_wp2_with fail
 refine F.out.mono ?_
 rintro _ w3 ⟨he3,h3,ht3⟩
 subst he3
 have HEND:=jq (show Popped w T S cap l n w3 from ⟨m,HR.out.1,HR.out.2.1,HR.out.2.2.1,h3,HR.out.2.2.2.trans ht3⟩)
 clear h3 ht3
 go_wp2
 go_ret
 exact⟨rfl,HEND.out⟩
theorem size_thing:(prog.info? 283).map (·.size)=some 2:=by kernel_rfl
theorem lens_come (h:HAt w T S cap l) (hh:jbq l) (hn:l.length≤100000) (x:Pr) :
  Calls prog 243 #[.pointer (some ⟨T,0,none⟩),qqc x] w fun e w'=>e=.returned (.tuple #[])∧Pushed w T S l x w':=by
 have C:=jq (fun W (hb:Below w.heap.size w W)=>heap_push (h.grow hb) hh hn x)
 have hT:=h.box.lt
 have hS:S<w.heap.size:=by obtain⟨cur,h1,-⟩:=h.row;exact h1.lt
 obtain⟨x0,x1⟩:=x
 show Calls prog 243 #[.pointer (some ⟨T,0,none⟩),.agg #[.int .i64 (x0:Int),.int .i64 (x1:Int)]] w _
 clear h hh
 go_enter func243,ntmps243
 go_wp2_with fail
 refine (C.out _ ((Below.refl _ _).alloc jw _)).mono ?_
 rintro _ w1 ⟨rfl,S1,cap1,l1,h1,hp1,hi1,ht1,hs1⟩
 have HEND:=jq (show Pushed w T S l (x0,x1) w1 from ⟨S1,cap1,l1,h1,hp1,hi1,((jjq.refl T S w).allocO _).trans ht1,hs1.imp id (fun e=>by
  have e2:=Nat.le_trans (Nat.le_of_lt (by simp:w.heap.size<(w.alloc (.cells #[.int .i64 (x0:Int),.int .i64 (x1:Int)] 283)).heap.size)) e
  exact e2)⟩)
 clear h1 hp1 hi1 ht1 hs1
 go_wp2
 go_end0
 exact⟨rfl,HEND.out⟩
theorem lens_least (h:HAt w T S cap l) (hh:jbq l) (n:Nat) (hn:l.length=n+1) (hn2:n≤100000) :
  Calls prog 245 #[.pointer (some ⟨T,0,none⟩)] w fun e w'=>e=.returned (qqc (pat l 0))∧Popped w T S cap l n w':=by
 have hT:=h.box.lt
 have hS:S<w.heap.size:=by obtain⟨cur,h1,-⟩:=h.row;exact h1.lt
 have C:=jq (fun W (hb:Below w.heap.size w W)=>heap_pop (h.grow hb) hh n hn hn2)
 obtain⟨x,hx⟩:∃ x,x=pat l 0:=⟨_,rfl⟩
 rw[←hx] at C ⊢
 obtain⟨x0,x1⟩:=x
 have ha:=asserts_one (.agg #[.int .i64 (x0:Int),.int .i64 (x1:Int)])
 have HP:=jq h
 clear h hh hn hx
 go_enter func245,ntmps245
 go_wp2_with fail
 refine (C.out _ ((Below.refl _ _).alloc jw _)).mono ?_
 rintro _ w1 ⟨he,m,hp,h0,hn3,h1,ht1⟩
 subst he
 have hB:Blk w1 w.heap.size 283 [.int .i64 0,.int .i64 0]:=ht1.blk (heap_alloc_new w _) (by omega) (by omega)
 have hc0:=hB.cell 0
 have hc1:=hB.cell 1
 have hf0:=hB.frozen 0
 have hf1:=hB.frozen 1
 simp only[jy,jx] at hc0 hc1
 have HB:=jq hB
 have HEND:=jq (And.intro hp (And.intro h0 (And.intro hn3 (And.intro h1 (((jjq.refl T S w).allocO _).trans ht1)))))
 clear hB hp h0 hn3 h1 ht1 C
 unfold qqc
 go_wp2
 have hS2:=hS
 have h2:Blk ((w1.setCell ⟨w.heap.size,0,none⟩ (.int .i64 (x0:Int))).setCell ⟨w.heap.size,1,none⟩ (.int .i64 (x1:Int))) w.heap.size 283 [.int .i64 (x0:Int),.int .i64 (x1:Int)]:=(HB.out.set_ 0 _).set_ 1 _
 refine bodyPost_ret (v:=qqc (x0,x1)) (results_cell_row results245 _ _ w.heap.size 283 _ (0,0) _ rfl h2 underlying283 rfl size_thing) rfl ⟨rfl,m,HEND.out.1,HEND.out.2.1,HEND.out.2.2.1,(HEND.out.2.2.2.1.setOther (by omega) (by omega)).setOther (by omega) (by omega),?_⟩
 have ht:=HEND.out.2.2.2.2
 exact⟨ht.os,ht.tape,ht.output,by simpa [World.setCell] using ht.size,fun i hi h1 h2=>by
  rw[Below.heap_setCell _ _ _ i (by show i≠w.heap.size;omega),Below.heap_setCell _ _ _ i (by show i≠w.heap.size;omega)]
  exact ht.block i hi h1 h2⟩
end
theorem jvv.congr {S S':Pr→Prop} {l:List Pr} (h:jvv S l) (e:∀ p,S p↔S' p):jvv S' l:=⟨h.heap,h.nodup,fun p=>(h.mem p).trans (e p)⟩
def qdj (l:List Pr):Nat:=(l.map (·.1)).sum
theorem sumW_perm {l m:List Pr} (h:l.Perm m):qdj l=qdj m:=(h.map _).sum_nat
theorem sumW_push (l:List Pr) (x:Pr):qdj (l++[x])=qdj l+x.1:=by simp[qdj]
theorem pop_split {l m:List Pr} {n:Nat} (hn:l.length=n+1) (hp:m.Perm l) (hm:pat m n=pat l 0):qdj (m.take n)+(pat l 0).1=qdj l∧(m.take n).length=n:=by
 have hml:m.length=n+1:=by rw[hp.length_eq,hn]
 have h1:=List.take_append_drop n m
 have h2:m.drop n=[pat l 0]:=by
  rw[←hm,qbl (by omega),List.drop_eq_getElem_cons (by omega),List.drop_eq_nil_of_le (by omega)]
 rw[h2] at h1
 refine⟨?_,by simp;omega⟩
 rw[←sumW_push,h1,sumW_perm hp]
def UpTo (c:List Int) (k:Nat) (p:Pr):Prop:=p.2<jqn c k∧p.1=wtL c p.2
theorem upTo_step {c:List Int} {k:Nat} (h:k<c.length) (h0:0<c[k]) (p:Pr):(UpTo c k p∨p=((c[k]).toNat,jqn c k))↔UpTo c (k+1) p:=by
 have hr:=jvf c k h
 rw[if_pos h0] at hr
 have hw:=wtL_rank c h h0
 unfold UpTo
 rw[hr]
 constructor
 ·rintro (⟨h1,h2⟩ | rfl)
  ·exact⟨by omega,h2⟩
  ·exact⟨by simp,hw.symm⟩
 ·rintro⟨h1,h2⟩
  by_cases e:p.2=jqn c k
  ·exact .inr (Prod.ext (by rw[h2,e,hw]) e)
  ·exact .inl ⟨by omega,h2⟩
theorem upTo_new {c:List Int} {k:Nat} (x:Nat):¬ UpTo c k (x,jqn c k):=fun h=>by have:=h.1;simp at this
theorem upTo_all (c:List Int) (p:Pr):UpTo c c.length p↔jvt (For.start (posL c).length (wtL c)) p:=by
 unfold UpTo jvt For.start
 rw[qql]
 simp
theorem upTo_none (c:List Int):jvv (UpTo c 0) []:=⟨fun i _ h=>by simp at h,by simp,fun p=>by simp[UpTo,jqn,posL]⟩
theorem allOf_rank {c:List Int} {k:Nat} (h:k<c.length) (h0:0<c[k]):jyn (wtL c) (jqn c (k+1))=jyn (wtL c) (jqn c k)+(c[k]).toNat:=by
 have hr:=jvf c k h
 rw[if_pos h0] at hr
 rw[hr]
 simp only[jyn]
 rw[wtL_rank c h h0]
theorem rankL_skip {c:List Int} {k:Nat} (h:k<c.length) (h0:¬ 0<c[k]):jqn c (k+1)=jqn c k:=by
 have hr:=jvf c k h
 rwa [if_neg h0,Nat.add_zero] at hr
theorem allOf_sum {c:List Int} (hc:∀ x∈c,0≤x):(jyn (wtL c) (posL c).length:Int)=c.sum:=by
 have ha:=allOf_list (posL c) (fun x hx=>Int.le_of_lt (posL_pos c x hx)) (posL c).length jw
 rw[List.take_length,posL_sum c hc] at ha
 exact ha
theorem rankL_le (c:List Int) (k:Nat):jqn c k≤k:=by
 unfold jqn posL
 exact Nat.le_trans (List.length_filter_le _ _) (by rw[List.length_take];omega)
structure Joins (c:List Int) (f:For) (ab:List Nat) (l:List Pr):Prop where
 set:jvv (jvt f) l
 ok:f.Ok (posL c).length
 tree:TreeOk f ab
 way:∀ g,Huff f g→Huff (For.start (posL c).length (wtL c)) g
 most:f.N+l.length=2*(posL c).length
 sum:qdj l=jyn (wtL c) (posL c).length
theorem joins_start {c:List Int} {l:List Pr} (h:jvv (UpTo c c.length) l) (hl:l.length=jqn c c.length) (hs:qdj l=jyn (wtL c) (jqn c c.length)):Joins c (For.start (posL c).length (wtL c)) (List.replicate (posL c).length 0) l:=by
 rw[qql] at hl hs
 exact⟨h.congr (upTo_all c),qzt _ _,tree_start _ _,fun _ h=>h,by show (posL c).length+l.length=_;omega,hs⟩
structure Two (f:For) (l2:List Pr) (n:Nat) (pa pb:Pr):Prop where
 a:f.least (fun m=>f.here m=true) pa.2
 b:f.least (fun m=>f.here m=true∧m≠pa.2) pb.2
 sa:jvt f pa
 sb:jvt f pb
 ne:pa.2≠pb.2
 set:jvv (fun p=>(jvt f p∧p≠pa)∧p≠pb) l2
 len:l2.length=n
theorem Joins.two {c:List Int} {f:For} {ab:List Nat} {l m m2:List Pr} {n:Nat} (h:Joins c f ab l) (hn:l.length=n+2)
  (hp:m.Perm l) (hm:pat m (n+1)=pat l 0) (hh:HeapN m (n+1))
  (hp2:m2.Perm (m.take (n+1))) (hm2:pat m2 n=pat (m.take (n+1)) 0) (hh2:HeapN m2 n) :
  Two f (m2.take n) n (pat l 0) (pat (m.take (n+1)) 0)∧qdj (m2.take n)+((pat l 0).1+(pat (m.take (n+1)) 0).1)=jyn (wtL c) (posL c).length:=by
 obtain⟨s1,s2,s3⟩:=pop_set h.set (by omega) hp hm hh
 obtain⟨e1,e2⟩:=pop_split (by omega) hp hm
 obtain⟨t1,t2,t3⟩:=pop_set s3 e2 hp2 hm2 hh2
 obtain⟨e3,e4⟩:=pop_split e2 hp2 hm2
 obtain⟨pa,hpa⟩:∃ pa,pa=pat l 0:=⟨_,rfl⟩
 obtain⟨pb,hpb⟩:∃ pb,pb=pat (m.take (n+1)) 0:=⟨_,rfl⟩
 rw[←hpa] at s1 s2 s3 e1 t1 t2 t3 ⊢
 rw[←hpb] at t1 t2 t3 e3 ⊢
 have hla:f.least (fun m=>f.here m=true) pa.2:=for_least (S:=jvt f) (fun _ h=>h) (fun m hm=>⟨hm,rfl⟩) (fun _ h=>h.1) s1 s2
 have hne:pb.2≠pa.2:=fun e=>t1.2 (Prod.ext (by rw[t1.1.2,s1.2,e]) e)
 have hlb:f.least (fun m=>f.here m=true∧m≠pa.2) pb.2:=for_least (S:=fun p=>jvt f p∧p≠pa) (fun _ h=>h.1) (fun m hm=>⟨⟨hm.1,rfl⟩,fun e=>hm.2 (by rw[←e])⟩)
  (fun x hx=>⟨hx.1.1,fun e=>hx.2 (Prod.ext (by rw[hx.1.2,s1.2,e]) e)⟩) t1 t2
 have hsum:=h.sum
 exact⟨⟨hla,hlb,s1,t1.1,fun e=>hne e.symm,t3,e4⟩,by omega⟩
theorem Joins.step {c:List Int} {f:For} {ab:List Nat} {l l2 l3:List Pr} {n:Nat} {pa pb:Pr} (h:Joins c f ab l) (hn:l.length=n+2) (ht:Two f l2 n pa pb) (hs:qdj l2+(pa.1+pb.1)=jyn (wtL c) (posL c).length)
  (hp3:l3.Perm (l2++[(pa.1+pb.1,f.N)])) (hh3:jbq l3) :
  Joins c (f.both pa.2 pb.2) ((ab.set pa.2 f.N).set pb.2 f.N++[0]) l3:=by
 have haN:=h.ok.less _ ht.sa.1
 have hbN:=h.ok.less _ ht.sb.1
 have hl3:l3.length=n+1:=by rw[hp3.length_eq,List.length_append,ht.len];rfl
 have hs3:=sumW_perm hp3
 rw[sumW_push] at hs3
 refine⟨?_,For.both_ok h.ok,tree_both h.tree ht.sa.1 ht.sb.1 haN hbN,fun g hg=>h.way g (.join f g pa.2 pb.2 ht.a ht.b hg),?_,?_⟩
 ·refine (ht.set.push (x:=(pa.1+pb.1,f.N)) (fun hx=>?_) hp3 hh3).congr (for_both h.ok ht.sa ht.sb)
  have:=h.ok.less _ hx.1.1.1
  simp at this
 ·show f.N+1+l3.length=_
  have:=h.most
  omega
 ·simp only at hs3
  omega
structure qwd (c:List Int) (ab:List Nat) (g:For):Prop where
 huff:Huff (For.start (posL c).length (wtL c)) g
 len:ab.length=g.N
 most:(posL c).length≤g.N
 few:g.N≤2*(posL c).length
 top:0<g.N→g.d (g.N - 1)=0
 low:∀ i,i<g.N - 1→i<ab.getD i 0∧ab.getD i 0<g.N∧g.d i=g.d (ab.getD i 0)+1
theorem Joins.done {c:List Int} {f:For} {ab:List Nat} {l:List Pr} (h:Joins c f ab l) (hl:l.length≤1):qwd c ab f:=by
 have hone:∀ m m',f.here m=true→f.here m'=true→m=m':=fun m m' hm hm'=>by
  have h1:=(h.set.mem (f.wt m,m)).2 ⟨hm,rfl⟩
  have h2:=(h.set.mem (f.wt m',m')).2 ⟨hm',rfl⟩
  obtain⟨i,hi,e1⟩:=List.mem_iff_getElem.1 h1
  obtain⟨j,hj,e2⟩:=List.mem_iff_getElem.1 h2
  have hij:i=j:=by omega
  subst hij
  have:=e1.symm.trans e2
  exact (Prod.mk.inj this).2
 refine⟨h.way f (.last f hone),h.tree.len,h.ok.most,by have:=h.most;omega,fun h0=>(tree_end h.tree hone h0).1,fun i hi=>(tree_end h.tree hone (by omega)).2 i hi⟩
def plv (l:List Nat):List Value:=zvs (l.map fun (n:Nat)=>(n:Int))
theorem plv_length (l:List Nat):(plv l).length=l.length:=by simp[plv,zvs]
theorem qbn (l:List Nat) (k:Nat) (h:k<l.length):(plv l)[k]?=some (.int .i64 ((l.getD k 0:Nat):Int)):=by
 simp[plv,zvs,h,List.getD_eq_getElem?_getD]
theorem plv_set (l:List Nat) (k x:Nat):(plv l).set k (.int .i64 (x:Int))=plv (l.set k x):=by simp[plv,zvs,List.map_set]
theorem plv_append (l m:List Nat):plv (l++m)=plv l++plv m:=by simp[plv,zvs]
theorem plv_zeros (n:Nat):plv (List.replicate n 0)=List.replicate n (Value.int .i64 0):=by simp[plv,zvs]
def lenT:Value→Nat
 | .slice _ n _=>n
 | _=>0
theorem qvs (n:Nat) (hn:n≤1000000) (w:World) :
  (Instr.makeSlice 35 (.int .i64 (n:Int)) (.int .i64 (n:Int))).run prog w=.ok (.slice (some ⟨w.heap.size,0,none⟩) n n) (w.alloc (.cells (plv (List.replicate n 0)).toArray 3)):=by
 obtain⟨i,hi,hz,hsize,hby⟩:=info_parts jwk
 have hbn:((i.bytes*n:Nat):Int)≤281474976710656:=by rw[hby];omega
 rw[Int.natCast_mul] at hbn
 have hrun:=run_make (P:=prog) w 35 3 i (.int .i64 0) underlying35 hi hz .i64 .i64 n n (by omega) (Int.le_refl _) hbn (by omega)
 have hzs:(Value.int .i64 0).cells=#[.int .i64 0]:=rfl
 simp only[Int.toNat_natCast,hsize,Nat.mul_one,hzs] at hrun
 have hcells:madeCells #[Value.int .i64 0] n=(List.replicate n (Value.int .i64 0)).toArray:=by
  apply Array.ext';rw[toList_madeCells_one]
 rw[hcells] at hrun
 rw[plv_zeros]
 exact hrun
theorem own_full (w:World) {base n:Nat} {e:TypeId} {xs:List Value} (hn:xs.length=n) (hm:n≤maxLen) (hb:base≤w.heap.size):(w.alloc (.cells xs.toArray e)).ownsRow base e 1 (.slice (some ⟨w.heap.size,0,none⟩) n n) n xs :=
 ⟨by rw[hn,Nat.mul_one],.inr ⟨w.heap.size,n,xs.toArray,rfl,hb,heap_alloc_new w _,Nat.le_refl _,hm,by simp[hn],by rw[Nat.mul_one];exact List.take_of_length_le (Nat.le_of_eq hn)⟩⟩
section
variable {w w':World} {T S cap:Nat} {l:List Pr}
theorem HAt.turned (h:HAt w T S cap l) {row:Option Nat} (hg:w.grownBy w' row) (h1:∀ r,row=some r→r≠T) (h2:∀ r,row=some r→r≠S):HAt w' T S cap l:=by
 obtain⟨cur,h3,h4⟩:=h.row
 exact⟨jmy h.box hg h1,⟨cur,jmy h3 hg h2,h4⟩,h.room,h.most⟩
theorem qbh {base n:Nat} {v:Value} {xs:List Value} (ho:w.ownsRow base 3 1 v n xs) (h:HAt w T S cap l) (ht:jjq T S w w'):w'.ownsRow base 3 1 v n xs:=by
 refine⟨ho.1,?_⟩
 have h1:=own_ne h.box ho (by decide)
 obtain⟨cur,h3,-⟩:=h.row
 have h2:=own_ne h3 ho (by decide)
 rcases ho.2 with h0 | ⟨g,cap,cur,rfl,hbg,hg,rest⟩
 ·exact .inl h0
 ·exact .inr ⟨g,cap,cur,rfl,hbg,by rw[ht.block g (Array.getElem?_eq_some_iff.1 hg).1 (h1 g rfl) (h2 g rfl)];exact hg,rest⟩
theorem own_at {base n c g:Nat} {xs:List Value} (ho:w.ownsRow base 3 1 (.slice (some ⟨g,0,none⟩) n c) n xs) {j:Nat} {u:Value} (h:xs[j]?=some u):w.cell? ⟨g,j,none⟩=some u:=by
 have h1:=ho.cells (g:=g) rfl j u h
 have e:(⟨g,0,none⟩:Addr).add j=⟨g,j,none⟩:=by unfold Addr.add;split <;> simp_all
 rwa [e] at h1
theorem own_apart {base n:Nat} {g c:Nat} {xs:List Value} (ho:w.ownsRow base 3 1 (.slice (some ⟨g,0,none⟩) n c) n xs) (h:HAt w T S cap l):g≠T∧g≠S:=by
 obtain⟨cur,h3,-⟩:=h.row
 exact⟨own_ne h.box ho (by decide) g rfl,own_ne h3 ho (by decide) g rfl⟩
end
section
variable {w:World} {A:Option Addr} {n m:Nat} {c:List Int}
def CameRel (w:World) (c:List Int) (i:Value) (wr:World):Prop :=
 ∃ (k S cap:Nat) (l:List Pr),k≤c.length∧i=.int .i64 (k:Int)∧HAt wr (w.heap.size+1) S cap l∧jvv (UpTo c k) l∧l.length=jqn c k∧qdj l=jyn (wtL c) (jqn c k)∧w.heap.size≤S∧Below w.heap.size w wr
def JoinRel (w:World) (c:List Int) (v:Value) (wr:World):Prop :=
 ∃ (f:For) (ab:List Nat) (S cap:Nat) (l:List Pr),Joins c f ab l∧HAt wr (w.heap.size+1) S cap l∧w.heap.size≤S∧wr.ownsRow w.heap.size 3 1 v f.N (plv ab)∧lenT v=f.N∧Below w.heap.size w wr
theorem lens_tree (hr:Rd w w.heap.size A (zvs c)) (hn:c.length=n) (hn1:n≤4096) (hc:∀ x∈c,0≤x∧x≤1099511627776) (hsum:c.sum≤9007199254740992) :
  Calls prog 234 #[.slice A n m] w fun e w'=>∃ g ab v,e=.returned v∧qwd c ab g∧w'.ownsRow w.heap.size 3 1 v ab.length (plv ab)∧Below w.heap.size w w':=by
 have HR:=jq hr
 have HC:=jq hn
 have HB:=jq hc
 have HS:=jq hsum
 clear hr hn hc hsum
 go_enter func234,ntmps234
 go_wp2
 go_loopw [14,5] (fun i _ wr=>CameRel w c i wr) (fun i _ _=>n - (intOf i).toNat)
 case atStart =>
  have h0:=heap_alloc2_new w (.cells #[] 283) (.cells #[.slice (some ⟨w.heap.size,0,none⟩) 0 0] 280)
  have h1:=heap_alloc2_old w (.cells #[] 283) (.cells #[.slice (some ⟨w.heap.size,0,none⟩) 0 0] 280)
  exact⟨0,w.heap.size,0,[],Nat.zero_le _,rfl,⟨h0,⟨[],h1,rfl,rfl⟩,Nat.le_refl _,Nat.zero_le _⟩,upTo_none c,by simp[jqn,posL],by simp[qdj,jqn,posL,jyn],Nat.le_refl _,((Below.refl _ _).alloc jw _).alloc (by simp) _⟩
 case round =>
  obtain⟨k,S,cap,l,hk,rfl,hh,hset,hlen,hsw,hS,hb⟩:=hrel
  rw[HC.out] at hk
  have HH:=jq hh
  have HSET:=jq (And.intro hset (And.intro hlen hsw))
  have HBL:=jq hb
  have hbs:=hb.size
  have hbox:=hh.boxCell
  by_cases hlt:k<n
  ·have hkc:k<c.length:=by have:=HC.out;omega
   obtain⟨b,off,rfl,-,hcell⟩:=jjn (HR.out.below hb) hkc
   have hx:=HB.out _ (List.getElem_mem hkc)
   have hki:(k:Int)<(n:Int):=by omega
   have C:=jq (jdg (some ⟨S,0,none⟩) l.length cap wr)
   have hrk:=rankL_le c k
   by_cases h0:0<c[k]
   ·have D:=jq (lens_come hh hset.heap (by omega) ((c[k]).toNat,l.length))
    have hxe:(((c[k]).toNat:Nat):Int)=c[k]:=by omega
    have e1:=upTo_step hkc h0
    have e2:=allOf_rank hkc h0
    have e3:=jvf c k hkc
    rw[if_pos h0] at e3
    obtain⟨x,hxx⟩:∃ x,x=c[k]'hkc:=⟨_,rfl⟩
    rw[←hxx] at hcell h0 D hxe e1 e2 hx
    unfold qqc at D
    simp only at D
    rw[hxe] at D
    have HE:=jq (And.intro e1 (And.intro e2 e3))
    obtain⟨N,hN⟩:∃ N,N=l.length:=⟨_,rfl⟩
    rw[←hN] at C D hbox
    have HN:=jq hN
    clear hh hset hlen hsw hb e1 e2 e3 hxx hN hxe hrk
    go_wp2_with fail
    refine C.out.mono ?_
    rintro _ w0 ⟨rfl,hw0⟩
    subst w0
    clear C
    go_wp2_with fail
    refine D.out.mono ?_
    rintro _ w2 ⟨rfl,S2,cap2,l2,h2,hp2,hi2,ht2,hs2⟩
    have hl2:l2.length=N+1:=by rw[hp2.length_eq,List.length_append,HN.out];rfl
    have HEND:=jq (show CameRel w c (.int .i64 ((k+1:Nat):Int)) w2 from ⟨k+1,S2,cap2,l2,by omega,rfl,h2,by
     have g:=HSET.out.1.push (x:=(x.toNat,jqn c k)) (upTo_new _) (by rw[←HSET.out.2.1,←HN.out];exact hp2) hi2
     exact g.congr HE.out.1,by rw[hl2,HE.out.2.2,HN.out,HSET.out.2.1],by
     rw[sumW_perm hp2,sumW_push,HE.out.2.1,HSET.out.2.2],by rcases hs2 with rfl | e <;> omega,HBL.out.trans (ht2.below (by omega) hS (by omega))⟩)
    clear h2 hp2 hi2 ht2 hs2 hl2
    go_wp2
    go_roundw
    case rel=>exact HEND.out
    case measure=>simp[intOf];omega
   ·have e3:=rankL_skip hkc h0
    obtain⟨x,hxx⟩:∃ x,x=c[k]'hkc:=⟨_,rfl⟩
    rw[←hxx] at hcell h0
    have HEND:=jq (show CameRel w c (.int .i64 ((k+1:Nat):Int)) wr from ⟨k+1,S,cap,l,by omega,rfl,hh,hset.congr fun p=>by unfold UpTo;rw[e3],by rw[e3];exact hlen,by rw[e3];exact hsw,hS,hb⟩)
    clear hh hset hlen hsw hb e3 hxx C hrk
    go_wp2
    go_roundw
    case rel=>exact HEND.out
    case measure=>simp[intOf];omega
  ·obtain rfl:k=n:=by omega
   have hkl:c.length=k:=HC.out
   have C:=jq (jdg (some ⟨S,0,none⟩) l.length cap wr)
   have hj:Joins c (For.start (posL c).length (wtL c)) (List.replicate (posL c).length 0) l:=by
    rw[←hkl] at hset hlen hsw
    exact joins_start hset hlen hsw
   have hlL:l.length=(posL c).length:=by rw[hlen,←hkl,qql]
   have hL:(posL c).length≤4096:=by have:=rankL_le c k;omega
   obtain⟨L,hLL⟩:∃ L,L=(posL c).length:=⟨_,rfl⟩
   rw[←hLL] at hlL hL
   rw[hlL] at C hbox
   have hmk:=fun W=>qvs L (by omega) W
   have HJ:=jq hj
   have HL:=jq hLL
   clear hh hset hlen hsw hb hj hLL hlL HSET hkl
   go_wp2_with fail
   refine C.out.mono ?_
   rintro _ w0 ⟨rfl,hw0⟩
   subst w0
   clear C
   have hsum:(jyn (wtL c) (posL c).length:Int)≤9007199254740992:=by rw[allOf_sum fun x hx=>(HB.out x hx).1];exact HS.out
   have hsumN:jyn (wtL c) (posL c).length≤9007199254740992:=by omega
   have HSUM:=jq hsumN
   clear hsum hsumN
   go_wp2
   have HST:=jq (show JoinRel w c (.slice (some ⟨wr.heap.size,0,none⟩) L L) (wr.alloc (.cells (plv (List.replicate L 0)).toArray 3)) from by
    have hL2:=HL.out
    refine⟨_,_,S,cap,l,HJ.out,HH.out.grow ((Below.refl _ _).alloc jw _),hS,?_,hL2,HBL.out.alloc hbs _⟩
    show _=_∧_
    show (wr.alloc (.cells (plv (List.replicate L 0)).toArray 3)).ownsRow w.heap.size 3 1 (.slice (some ⟨wr.heap.size,0,none⟩) L L) (posL c).length (plv (List.replicate (posL c).length 0))
    rw[←hL2]
    exact own_full wr (by rw[plv_length,List.length_replicate]) (by simp only[maxLen];omega) hbs)
   have HBL0:=jq HBL.out
   clear hmk HJ HBL hbox HH hS hbs hk hlt
   go_loopw [6] (fun v wr=>JoinRel w c v wr) (fun v _=>2*L - lenT v)
   case atStart=>exact HST.out
   case round =>
    clear HST HBL0
    obtain⟨f,ab,S,cap,l,hj,hh,hS,hown,hlt,hb⟩:=hrel
    obtain⟨G0,cG,rfl,hnc,hcm,hG⟩:=jjk hown
    have hbs:=hb.size
    have hbox:=hh.boxCell
    have hfl:=hj.tree.len
    have hmo:=hj.most
    rw[←HL.out] at hmo
    have hll:l.length≤2*L:=by omega
    have C:=jq (jdg (some ⟨S,0,none⟩) l.length cap wr)
    obtain⟨N,hN⟩:∃ N,N=f.N:=⟨_,rfl⟩
    rw[←hN] at hfl hmo hlt hown hnc hG ⊢
    have HB0:=jq hb
    have HJ:=jq (And.intro hj (And.intro hN hfl))
    have HH:=jq hh
    have HOWN:=jq hown
    clear hj hh hown hb hN hlt hfl
    by_cases h2:2≤l.length
    ·obtain⟨n,hn⟩:∃ n,l.length=n+2:=⟨l.length - 2,by omega⟩
     rw[hn] at hbox C hmo hll h2
     have HN:=jq hn
     have D:=jq (lens_least HH.out HJ.out.1.set.heap (n+1) (by omega) (by omega))
     obtain⟨pa,hpa⟩:∃ pa,pa=pat l 0:=⟨_,rfl⟩
     rw[←hpa] at D
     obtain⟨a0,a1⟩:=pa
     have HPA:=jq hpa
     clear hn hpa
     go_wp2_with fail
     refine C.out.mono ?_
     rintro _ w0 ⟨rfl,hw0⟩
     subst w0
     clear C
     go_wp2_with fail
     refine D.out.mono ?_
     rintro _ w1 ⟨he1,m1,hp1,hm1,hh1,hA1,ht1⟩
     subst he1
     have hset1:=(pop_set HJ.out.1.set HN.out hp1 hm1 hh1).2.2
     have hl1:=(pop_split HN.out hp1 hm1).2
     have E:=jq (lens_least hA1 hset1.heap n hl1 (by omega))
     obtain⟨pb,hpb⟩:∃ pb,pb=pat (m1.take (n+1)) 0:=⟨_,rfl⟩
     rw[←hpb] at E
     obtain⟨b0,b1⟩:=pb
     have ho1:=qbh HOWN.out HH.out ht1
     have HPB:=jq hpb
     have H1:=jq (And.intro hp1 (And.intro hm1 (And.intro hh1 (And.intro hA1 (And.intro ht1 ho1)))))
     clear hp1 hm1 hh1 hA1 ht1 hset1 hl1 D hbox ho1 hpb
     go_wp2_with fail
     refine E.out.mono ?_
     rintro _ w2 ⟨he2,m2,hp2,hm2,hh2,hA2,ht2⟩
     subst he2
     obtain⟨hT2,hS2⟩:=Joins.two HJ.out.1 HN.out H1.out.1 H1.out.2.1 H1.out.2.2.1 hp2 hm2 hh2
     rw[←HPA.out,←HPB.out] at hT2 hS2
     have ho2:=qbh H1.out.2.2.2.2.2 H1.out.2.2.2.1 ht2
     have htt:=H1.out.2.2.2.2.1.trans ht2
     have hsz2:=htt.size
     have haN:a1<N:=by rw[HJ.out.2.1];exact HJ.out.1.ok.less _ hT2.sa.1
     have hbN:b1<N:=by rw[HJ.out.2.1];exact HJ.out.1.ok.less _ hT2.sb.1
     have hab:a1≠b1:=hT2.ne
     have hsumb:a0+b0≤9007199254740992:=by have:=HSUM.out;simp only at hS2;omega
     have hN0:0<N:=by omega
     obtain⟨G,rfl,hbG,hGlt⟩:∃ g,G0=some ⟨g,0,none⟩∧w.heap.size≤g∧g<wr.heap.size:=hG.elim (fun e=>absurd e (by omega)) id
     obtain⟨hGT,hGS⟩:=own_apart ho2 hA2
     have hcA:=own_at ho2 (qbn ab a1 (by rw[HJ.out.2.2];exact haN))
     have hcB:=own_at ho2 (qbn ab b1 (by rw[HJ.out.2.2];exact hbN))
     have hfA:=ho2.frozenAt a1
     have hfB:=ho2.frozenAt b1
     have H2:=jq (And.intro hT2 (And.intro hS2 (And.intro hA2 (And.intro htt ho2))))
     have H2B:=jq (HB0.out.trans (htt.below (by omega) hS hbs))
     have hbox2:=hA2.boxCell
     have hG2:G<w2.heap.size:=by omega
     have hT2:w.heap.size+1<w2.heap.size:=hA2.box.lt
     clear hp2 hm2 hh2 hA2 ht2 ho2 htt E hT2 hS2 H1 HPA HPB hG
     unfold qqc
     simp only
     go_wp2
     go_region
     have hgr1:=((World.ownsRow.stored H2.out.2.2.2.2 a1 (.int .i64 (N:Int))).1.stored b1 (.int .i64 (N:Int))).1
     rw[plv_set,plv_set] at hgr1
     have HO3:=jq (own_drew ((hgr1.alloc (.cells #[.int .i64 (a0:Int),.int .i64 (a1:Int)] 283)).alloc (.cells #[.int .i64 (b0:Int),.int .i64 (b1:Int)] 283)))
     have HA3:=jq ((((H2.out.2.2.1.setOther (i:=a1) (v:=.int .i64 (N:Int)) (fun e=>hGT e.symm) (fun e=>hGS e.symm)).setOther (i:=b1) (v:=.int .i64 (N:Int)) (fun e=>hGT e.symm) (fun e=>hGS e.symm)).grow (((Below.refl _ _).alloc jw (.cells #[.int .i64 (a0:Int),.int .i64 (a1:Int)] 283)).alloc (by simp) (.cells #[.int .i64 (b0:Int),.int .i64 (b1:Int)] 283))).drewN 1)
     have hsz:((w2.setCell ⟨G,a1,none⟩ (.int .i64 (N:Int))).setCell ⟨G,b1,none⟩ (.int .i64 (N:Int))).heap.size=w2.heap.size:=by simp[World.setCell]
     have hBA:=heap_alloc2_old ((w2.setCell ⟨G,a1,none⟩ (.int .i64 (N:Int))).setCell ⟨G,b1,none⟩ (.int .i64 (N:Int))) (.cells #[.int .i64 (a0:Int),.int .i64 (a1:Int)] 283) (.cells #[.int .i64 (b0:Int),.int .i64 (b1:Int)] 283)
     have hBB:=heap_alloc2_new ((w2.setCell ⟨G,a1,none⟩ (.int .i64 (N:Int))).setCell ⟨G,b1,none⟩ (.int .i64 (N:Int))) (.cells #[.int .i64 (a0:Int),.int .i64 (a1:Int)] 283) (.cells #[.int .i64 (b0:Int),.int .i64 (b1:Int)] 283)
     rw[hsz] at hBA hBB
     have HB3:=jq ((((H2B.out.setCell (p:=⟨G,a1,none⟩) hbG (.int .i64 (N:Int))).setCell (p:=⟨G,b1,none⟩) hbG (.int .i64 (N:Int))).alloc (by rw[hsz];omega) (.cells #[.int .i64 (a0:Int),.int .i64 (a1:Int)] 283)).alloc (by simp;omega) (.cells #[.int .i64 (b0:Int),.int .i64 (b1:Int)] 283)).drew
     have HBX:=jq (And.intro (show Blk _ w2.heap.size 283 [.int .i64 (a0:Int),.int .i64 (a1:Int)] from hBA) (show Blk _ (w2.heap.size+1) 283 [.int .i64 (b0:Int),.int .i64 (b1:Int)] from hBB))
     have hsz3:w2.heap.size≤((((w2.setCell ⟨G,a1,none⟩ (.int .i64 (N:Int))).setCell ⟨G,b1,none⟩ (.int .i64 (N:Int))).alloc (.cells #[.int .i64 (a0:Int),.int .i64 (a1:Int)] 283)).alloc (.cells #[.int .i64 (b0:Int),.int .i64 (b1:Int)] 283)).drew.heap.size:=by simp[World.setCell];omega
     have HBX2:=jq (And.intro (HBX.out.1.same (w':=((((w2.setCell ⟨G,a1,none⟩ (.int .i64 (N:Int))).setCell ⟨G,b1,none⟩ (.int .i64 (N:Int))).alloc (.cells #[.int .i64 (a0:Int),.int .i64 (a1:Int)] 283)).alloc (.cells #[.int .i64 (b0:Int),.int .i64 (b1:Int)] 283)).drew) rfl) (HBX.out.2.same (w':=((((w2.setCell ⟨G,a1,none⟩ (.int .i64 (N:Int))).setCell ⟨G,b1,none⟩ (.int .i64 (N:Int))).alloc (.cells #[.int .i64 (a0:Int),.int .i64 (a1:Int)] 283)).alloc (.cells #[.int .i64 (b0:Int),.int .i64 (b1:Int)] 283)).drew) rfl))
     clear hgr1 hsz hcA hcB hfA hfB hbox2 hBA hBB HBX
     rw[show ((((w2.setCell ⟨G,a1,none⟩ (.int .i64 (N:Int))).setCell ⟨G,b1,none⟩ (.int .i64 (N:Int))).alloc (.cells #[.int .i64 (a0:Int),.int .i64 (a1:Int)] 283)).alloc (.cells #[.int .i64 (b0:Int),.int .i64 (b1:Int)] 283)).drewN 1=((((w2.setCell ⟨G,a1,none⟩ (.int .i64 (N:Int))).setCell ⟨G,b1,none⟩ (.int .i64 (N:Int))).alloc (.cells #[.int .i64 (a0:Int),.int .i64 (a1:Int)] 283)).alloc (.cells #[.int .i64 (b0:Int),.int .i64 (b1:Int)] 283)).drew from rfl] at HA3
     generalize ((((w2.setCell ⟨G,a1,none⟩ (.int .i64 (N:Int))).setCell ⟨G,b1,none⟩ (.int .i64 (N:Int))).alloc (.cells #[.int .i64 (a0:Int),.int .i64 (a1:Int)] 283)).alloc (.cells #[.int .i64 (b0:Int),.int .i64 (b1:Int)] 283)).drew=W3 at HO3 HA3 HB3 HBX2 hsz3 ⊢
     obtain⟨i0,hi0,hz0,hz1,hz2⟩:=info_parts jwk
     have hbs3:=HB3.out.size
     go_wp2_with ((with_reducible show wpList _ _ _ (({ dst:=some 57,op:=_,type:=_,pos:=_,after:=_,guard:=_ }:Oper)::_) _ _);go_must (refine jjd rfl (.tmp 55) (.tmp 56) 35 rfl w.heap.size 3 i0 (.int .i64 0) 1 8 underlying35 hi0 hz0 hz1 hz2 rfl (by decide) _ _ _ rfl (HO3.out.alloc _) _ _ 1 1 _ rfl (Rd.new _ _ _) rfl (by intro u hu;simp at hu;subst hu;rfl) (by simp only[maxLen];omega) (by omega) (by simp;omega) ?_;intro v4 w4 hown4 hg4;have hA4:=(HA3.out.grow ((Below.refl _ _).alloc jw _)).turned hg4 (fun r e=>by have e2:G=r:=Option.some.inj e;omega) (fun r e=>by have e2:G=r:=Option.some.inj e;omega);have hb4:=(HB3.out.alloc hbs3 _).grown hg4 (by simp;omega) (jjb HO3.out);have hx4:=jmy (HBX2.out.1.alloc_ _) hg4 (fun r e=>by have e2:G=r:=Option.some.inj e;omega);have hy4:=jmy (HBX2.out.2.alloc_ _) hg4 (fun r e=>by have e2:G=r:=Option.some.inj e;omega);have hcx:=hx4.cell 0;have hcy:=hy4.cell 0;simp only[jy] at hcx hcy;clear hg4 hx4 hy4))
     obtain⟨A4,c4,rfl,-,-,-⟩:=jjk hown4
     rw[show [Value.int .i64 0]=plv [0] from rfl,←plv_append] at hown4
     have hT4:=H2.out.1
     have D4:=jq (lens_come hA4 hT4.set.heap (by rw[hT4.len];omega) (a0+b0,N))
     unfold qqc at D4
     simp only[Int.natCast_add] at D4
     have HOWN4:=jq hown4
     have HA4:=jq hA4
     have HB4:=jq hb4
     have hbs4:=hb4.size
     clear hown4 hA4 hb4 hT4
     go_wp2_with fail
     refine D4.out.mono ?_
     rintro _ w5 ⟨rfl,S5,cap5,l5,h5,hp5,hi5,ht5,hs5⟩
     have ho5:=qbh HOWN4.out HA4.out ht5
     have HEND:=jq (show JoinRel w c (.slice A4 (N+1) c4) w5 from by
      have hN:=HJ.out.2.1
      have hj:=HJ.out.1.step (l2:=m2.take n) (n:=n) (pa:=(a0,a1)) (pb:=(b0,b1)) (l3:=l5) HN.out H2.out.1 H2.out.2.1 (by rw[←hN];exact hp5) hi5
      rw[←hN] at hj
      refine⟨_,_,S5,cap5,l5,hj,h5,by rcases hs5 with rfl | e <;> omega,?_,?_,HB4.out.trans (ht5.below (by omega) hS (by omega))⟩
      ·show w5.ownsRow w.heap.size 3 1 (.slice A4 (N+1) c4) (f.N+1) _
       rw[←hN];exact ho5
      ·show N+1=f.N+1
       rw[←hN])
     clear h5 hp5 hi5 ht5 hs5 ho5
     go_wp2
     go_roundw
     case rel=>exact HEND.out
     case measure=>simp[lenT];omega
    ·have HEND:=jq (show qwd c ab f from HJ.out.1.done (by omega))
     have hNf:f.N=N:=HJ.out.2.1.symm
     have hab:ab.length=N:=HJ.out.2.2
     have HRES:=jq (show wr.ownsRow w.heap.size 3 1 (.slice G0 N cG) ab.length (plv ab) by rw[hab];exact HOWN.out)
     obtain⟨q,hq⟩:∃ q,q=l.length:=⟨_,rfl⟩
     rw[←hq] at hbox C h2 hmo hll
     clear hNf hab HH HJ HOWN hq
     go_wp2_with fail
     refine C.out.mono ?_
     rintro _ w0 ⟨rfl,hw0⟩
     subst w0
     clear C
     go_wp2
     go_ret
     exact⟨f,ab,_,rfl,HEND.out,HRES.out,HB0.out⟩
end
end
end Go.Proofs.YtflcmmeoppdhdaaGreatDoor
