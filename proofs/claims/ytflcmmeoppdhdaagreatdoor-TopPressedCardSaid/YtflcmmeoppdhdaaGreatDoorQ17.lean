/- Rows of numbers as cells; small laws of memory beside them; a number's list that came in. General: no code of the project. · Contracts of layer 14: its small functions. · Layer 14: Count, of both. · .. -/
import Derived.Test.YtflcmmeoppdhdaaGreatDoorQ06
import Derived.Test.YtflcmmeoppdhdaaGreatDoorProg
import Derived.Lib.Strings
import Derived.Lib.Slices
import Derived.Lib.Small
import Derived.Lib.Walk
import Derived.Deep.DeepMust
import Derived.BigQuiet
import Derived.BigRegion
import Derived.StillTailTactics
import Derived.Lib.QuietBelow
import Derived.Shelf.Abstract
import Derived.Lib.OwnBridge
import Derived.Lib.SlicesMore
import Derived.Sort.WalkB12
import Derived.Deep.LoopGhost
set_option maxHeartbeats 4000000
set_option maxRecDepth 100000
namespace Go.Proofs.YtflcmmeoppdhdaaGreatDoor
open Tryz
section
open Go.RowKit Go.Sort
def zvs (l:List Int):List Value:=l.map (Value.int .i64)
theorem zvs_length (l:List Int):(zvs l).length=l.length:=by simp[zvs]
theorem jql (l:List Int) (k:Nat):(zvs l)[k]?=l[k]?.map (Value.int .i64):=by simp[zvs]
theorem jms (l:List Int) (k:Nat) (x:Int):(zvs l).set k (.int .i64 x)=zvs (l.set k x):=by simp[zvs,List.map_set]
theorem jbc {P:Program} {f:FuncId} {args:Array Value} {w:World} {m:Nat} {v:Value} (h:∀ W':World,W'.heap=w.heap→Calls P f args W' fun e w'=>e=.returned v∧w'=W') :
  Calls P f args (w.drewN m) fun e w''=>e=.returned v∧∃ j,w''=w.drewN j:=(h (w.drewN m) rfl).mono fun _ _ h=>⟨h.1,m,h.2⟩
theorem Blk.same {w w':World} {g:Nat} {t:TypeId} {cs:List Value} (h:Blk w g t cs) (e:w'.heap=w.heap):Blk w' g t cs:=by unfold Blk;rw[e];exact h
theorem jwk:(prog.info? 3).map (fun i=>(i.zero,i.size,i.bytes))=some (some (.int .i64 0),1,8):=by kernel_rfl
theorem below_drawn (w:World) (k:Nat):Below w.heap.size w (w.drewN k):=⟨rfl,rfl,rfl,Nat.le_refl _,fun _ _=>rfl⟩
theorem rd_same {w w':World} {N:Nat} {A:Option Addr} {xs:List Value} (h:Rd w N A xs) (e:w'.heap=w.heap):Rd w' N A xs:=h.keep fun p _=>World.cell?_of_block (by rw[e])
theorem jmy {W W':World} {row:Option Nat} {g:Nat} {t:TypeId} {cs:List Value} (h:Blk W g t cs) (hg:W.grownBy W' row) (hne:∀ r,row=some r→r≠g):Blk W' g t cs:=(hg.block g h.lt (fun e=>hne g e.symm rfl)).trans h
theorem sum_nn12 {c:List Int} (hc:∀ x∈c,0≤x):0≤c.sum:=by have:=jvd hc c.length;rwa [jqk c jw] at this
theorem own_ne {w:World} {B M n:Nat} {v:Value} {xs:List Value} {t:TypeId} {cs:List Value} (h:Blk w M t cs) (ho:w.ownsRow B 3 1 v n xs) (hne:t≠3):∀ r,v.ownBlock=some r→r≠M:=fun r e=>by
 have h2:=(jzc ho r e).2
 intro e2
 subst e2
 exact (h.ofType.ne hne) h2
theorem qzh {c:List Int} (hc:∀ x∈c,0≤x) {i:Nat} (hi:i<c.length):c[i]≤c.sum:=by
 have h1:=jqm c i hi
 have h2:=jwp hc (i+1)
 have h3:=jvd hc i
 omega
theorem own_drew {w:World} {base e size n:Nat} {v:Value} {xs:List Value} (h:w.ownsRow base e size v n xs):w.drew.ownsRow base e size v n xs:=h
structure jjq (T S:Nat) (w w':World):Prop where
 os:w'.os=w.os
 tape:w'.tape=w.tape
 output:w'.output=w.output
 size:w.heap.size≤w'.heap.size
 block:∀ k,k<w.heap.size→k≠T→k≠S→w'.heap[k]?=w.heap[k]?
section
variable {T S:Nat} {w w' w'':World}
theorem jjq.refl (T S:Nat) (w:World):jjq T S w w:=⟨rfl,rfl,rfl,Nat.le_refl _,fun _ _ _ _=>rfl⟩
theorem jjq.trans (h:jjq T S w w') (k:jjq T S w' w''):jjq T S w w'' :=
 ⟨k.os.trans h.os,k.tape.trans h.tape,k.output.trans h.output,Nat.le_trans h.size k.size,fun i hi h1 h2=>(k.block i (Nat.lt_of_lt_of_le hi h.size) h1 h2).trans (h.block i hi h1 h2)⟩
theorem jjq.drew (h:jjq T S w w'):jjq T S w w'.drew:=⟨h.os,h.tape,h.output,h.size,h.block⟩
theorem jjq.of_below (h:Below w.heap.size w w'):jjq T S w w':=⟨h.os,h.tape,h.output,h.size,fun k hk _ _=>h.block k hk⟩
theorem jjq.grown {row:Option Nat} (h:w.grownBy w' row) (hr:∀ r,row=some r→r=T∨r=S):jjq T S w w' :=
 ⟨h.os,h.tape,h.output,h.size,fun k hk h1 h2=>h.block k hk (fun e=>by rcases hr k e.symm with e | e <;> omega)⟩
theorem jjq.below {B:Nat} (h:jjq T S w w') (hT:B≤T) (hS:B≤S) (hB:B≤w.heap.size):Below B w w' :=
 ⟨h.os,h.tape,h.output,h.size,fun k hk=>h.block k (by omega) (by omega) (by omega)⟩
theorem jjq.blk {g:Nat} {t:TypeId} {cs:List Value} (h:jjq T S w w') (hb:Blk w g t cs) (h1:g≠T) (h2:g≠S):Blk w' g t cs:=(h.block g hb.lt h1 h2).trans hb
end
def findV (o:Option Nat):Value:=match o with
 | none=>.tuple #[.int .i64 0,.bool false]
 | some r=>.tuple #[.int .i64 (r:Int),.bool true]
def hvs (l:List Nat):List Value:=l.map fun (x:Nat)=>Value.int .u16 (x:Int)
theorem hvs_get (l:List Nat) (k:Nat) (h:k<l.length):(hvs l)[k]?=some (Value.int .u16 (l[k]:Int)):=by simp[hvs,h]
theorem hvs_set (l:List Nat) (k x:Nat):(hvs l).set k (.int .u16 (x:Int))=hvs (l.set k x):=by simp[hvs,List.map_set]
theorem jjq.set_ {w:World} {T S:Nat} (k:Nat) (v:Value):jjq T S w (w.setCell ⟨S,k,none⟩ v) :=
 ⟨rfl,rfl,rfl,by simp[World.setCell],fun i _ _ h2=>Below.heap_setCell _ _ _ i h2⟩
theorem jjq.setT {w:World} {T S:Nat} (k:Nat) (v:Value):jjq T S w (w.setCell ⟨T,k,none⟩ v) :=
 ⟨rfl,rfl,rfl,by simp[World.setCell],fun i _ h1 _=>Below.heap_setCell _ _ _ i h1⟩
theorem own_turns {T S:Nat} {x x':World} {base e size:Nat} {v:Value} {xs:List Value} {k:Nat} (h:x.ownsRow base e size v k xs) (ht:jjq T S x x') (hT:T<base) (hS:S<base):x'.ownsRow base e size v k xs:=by
 refine⟨h.1,?_⟩
 rcases h.2 with h0 | ⟨g,cap,cur,rfl,hbg,hg,rest⟩
 ·exact .inl h0
 ·exact .inr ⟨g,cap,cur,rfl,hbg,by rw[ht.block g (Array.getElem?_eq_some_iff.1 hg).1 (by omega) (by omega)];exact hg,rest⟩
theorem jjq.growO {T S:Nat} {w w' w'':World} {row:Option Nat} (h:jjq T S w w') (hg:w'.grownBy w'' row) (hr:∀ r,row=some r→w.heap.size≤r):jjq T S w w'' :=
 ⟨hg.os.trans h.os,hg.tape.trans h.tape,hg.output.trans h.output,Nat.le_trans h.size hg.size,fun k hk h1 h2=>(hg.block k (Nat.lt_of_lt_of_le hk h.size) (fun e=>by have:=hr k e.symm;omega)).trans (h.block k hk h1 h2)⟩
theorem jjq.allocO {T S:Nat} {w w':World} (h:jjq T S w w') (o:Obj):jjq T S w (w'.alloc o):=h.growO (World.grownBy_alloc w' o none) (fun r e=>by cases e)
theorem jjn {w:World} {B:Nat} {A:Option Addr} {c:List Int} (hr:Rd w B A (zvs c)) {k:Nat} (h:k<c.length):∃ b off,A=some ⟨b,off,none⟩∧b<B∧w.cell? ⟨b,off+k,none⟩=some (.int .i64 (c[k]'h)) :=
 hr k (.int .i64 (c[k]'h)) (by rw[jql,List.getElem?_eq_getElem h];rfl)
theorem make_eqN {P:Program} {t e:TypeId} {i:TypeInfo} {z:Value} (ht:P.underlying t=some (.slice e)) (hi:P.info? e=some i) (hz:i.zero=some z) (hzs:z.cells=#[z]) (hsize:i.size=1) (hby:i.bytes≤8) (n:Nat) (hn:n≤1000000) (w:World) :
  (Instr.makeSlice t (.int .i64 (n:Int)) (.int .i64 (n:Int))).run P w=.ok (.slice (some ⟨w.heap.size,0,none⟩) n n) (w.alloc (.cells (List.replicate n z).toArray e)):=by
 have hbn:((i.bytes*n:Nat):Int)≤281474976710656:=by have:=Nat.mul_le_mul_right n hby;omega
 rw[Int.natCast_mul] at hbn
 have hrun:=run_make (P:=P) w t e i z ht hi hz .i64 .i64 n n (by omega) (Int.le_refl _) hbn (by omega)
 simp only[Int.toNat_natCast,hsize,Nat.mul_one,hzs] at hrun
 have hcells:madeCells #[z] n=(List.replicate n z).toArray:=by
  apply Array.ext';rw[toList_madeCells_one]
 rw[hcells] at hrun
 exact hrun
theorem quietD {P:Program} {f:FuncId} {args:Array Value} {w:World} {m:Nat} {v:Value} (h:∀ W':World,W'.heap=w.heap→Calls P f args W' fun e w'=>e=.returned v∧∃ j,w'=W'.drewN j) :
  Calls P f args (w.drewN m) fun e w''=>e=.returned v∧∃ j,w''=w.drewN j:=(h (w.drewN m) rfl).mono fun _ _ h=>⟨h.1,by
  obtain⟨j,hj⟩:=h.2
  exact⟨m+j,by rw[hj,World.drewN_drewN]⟩⟩
theorem jxy {w:World} {g g':Nat} {t t':TypeId} {cs cs':List Value} (h:Blk w g t cs) (h':Blk w g' t' cs') (hne:t≠t'):g≠g':=by
 intro e
 subst e
 unfold Blk at h h'
 rw[h] at h'
 injection h' with h'
 injection h' with _ e _
 exact hne e
theorem jvb {w w':World} {B j:Nat} (h:Below B w w'):Below B w (w'.drewN j):=⟨h.os,h.tape,h.output,h.size,h.block⟩
end
section
open Go.RowKit Go.Sort Go.Shelf
theorem many_take (c:List Int) (k:Nat) (h:k<c.length):many (c.take (k+1))=many (c.take k)+if 0<c[k] then 1 else 0:=by
 unfold many;rw[List.take_add_one,List.getElem?_eq_getElem h,List.map_append,List.sum_append];simp
theorem many_nn (l:List Int):0≤many l:=by
 induction l with
 | nil=>simp[many]
 | cons a l ih=>simp only[many,List.map_cons,List.sum_cons] at ih ⊢;split <;> omega
theorem many_le (l:List Int):many l≤l.length:=by
 induction l with
 | nil=>simp[many]
 | cons a l ih=>simp only[many,List.map_cons,List.sum_cons,List.length_cons] at ih ⊢;split <;> omega
theorem many_zero {c:List Int} (hc:∀ x∈c,0≤x) (h:many c=0):c.sum=0:=by
 induction c with
 | nil=>rfl
 | cons a c ih =>
  have h1:=many_nn c
  have h2:=hc a List.mem_cons_self
  have h3:many (a::c)=(if 0<a then 1 else 0)+many c:=by simp[many]
  rw[h3] at h
  by_cases h0:0<a
  ·rw[if_pos h0] at h;omega
  ·rw[if_neg h0] at h
   have:=ih (fun x hx=>hc x (List.mem_cons_of_mem _ hx)) (by omega)
   simp[this];omega
section
variable {w:World} {B:Nat} {A:Option Addr} {n m:Nat} {c:List Int}
theorem indexFn_any (K:Nat) (p:Int→Bool) (hE:Enters prog K) (hK:∀ (x:Int) (W:World),Calls prog K #[.int .i64 x] W fun e w'=>e=.returned (.bool (p x))∧w'=W)
  (hr:Rd w B A (zvs c)) (hn:c.length=n) (hn1:n≤4096) :
  Calls prog 182 #[.slice A n m,.func (.func K) #[] #[]] w fun e w'=>∃ i:Int,e=.returned (.int .i64 i)∧w'=w∧decide (0≤i)=c.any p:=by
 have HE:=jq hE
 have HK:=jq hK
 have HR:=jq hr
 have HC:=jq hn
 clear hE hK hr hn
 go_enter func182,ntmps182
 go_wp2
 go_loopw [8] (fun i wr=>∃ k:Nat,k≤n∧i=.int .i64 (k:Int)∧(c.take k).any p=false∧wr=w) (fun i _=>n - (intOf i).toNat)
 case atStart=>exact⟨0,Nat.zero_le _,rfl,by simp,rfl⟩
 case round =>
  obtain⟨k,hk,rfl,hnot,rfl⟩:=hrel
  have HN:=jq hnot
  clear hnot
  by_cases hlt:k<n
  ·have hkc:k<c.length:=by have:=HC.out;omega
   obtain⟨b,off,rfl,-,hcell⟩:=jjn HR.out hkc
   have ht:(c.take (k+1)).any p=p c[k]:=by
    rw[List.take_add_one,List.getElem?_eq_getElem hkc,List.any_append,HN.out];simp
   have hmem:c[k]∈c:=List.getElem_mem hkc
   obtain⟨x,hx⟩:∃ x,x=c[k]'hkc:=⟨_,rfl⟩
   rw[←hx] at hcell ht hmem
   have C:=jq (HK.out x wr)
   have HT:=jq ht
   have HM:=jq hmem
   have hki:(k:Int)<(n:Int):=by omega
   obtain⟨o,ho⟩:∃ o,o=p x:=⟨_,rfl⟩
   rw[←ho] at C HT
   have HO:=jq ho
   clear ht hmem hx ho
   cases o with
   | true =>
    go_wp2_with fail
    rw[HE.out]
    refine C.out.mono ?_
    rintro e w' ⟨rfl,hw⟩
    obtain rfl:_=w':=hw.symm
    go_wp2
    go_ret
    exact⟨_,rfl,rfl,by rw[List.any_eq_true.2 ⟨x,HM.out,HO.out.symm⟩];simp⟩
   | false =>
    go_wp2_with fail
    rw[HE.out]
    refine C.out.mono ?_
    rintro e w' ⟨rfl,hw⟩
    obtain rfl:_=w':=hw.symm
    go_wp2
    go_roundw
    case rel=>exact⟨k+1,by omega,by go_num,HT.out,trivial⟩
    case measure=>simp[intOf];omega
  ·obtain rfl:k=n:=by omega
   go_wp2
   go_ret
   have h:=HN.out
   rw[List.take_of_length_le (by have:=HC.out;omega)] at h
   exact⟨_,rfl,rfl,by rw[h];rfl⟩
theorem jww (K:Nat) (p:Int→Bool) (hE:Enters prog K) (hK:∀ (x:Int) (W:World),Calls prog K #[.int .i64 x] W fun e w'=>e=.returned (.bool (p x))∧w'=W)
  (hr:Rd w B A (zvs c)) (hn:c.length=n) (hn1:n≤4096) :
  Calls prog 120 #[.slice A n m,.func (.func K) #[] #[]] w fun e w'=>e=.returned (.bool (c.any p))∧w'=w:=by
 have C:=jq (indexFn_any (m:=m) K p hE hK hr hn hn1)
 clear hE hK hr hn
 go_enter func120,ntmps120
 go_wp2_with fail
 refine C.out.mono ?_
 rintro e w' ⟨i,rfl,hw,ho⟩
 obtain rfl:_=w':=hw.symm
 go_wp2
 go_ret
 exact⟨rfl,rfl⟩
def nBad (x:Int):Bool:=decide (x<0)||decide (1099511627776<x)
theorem normWrong_any (x:Int) (w:World):Calls prog 121 #[.int .i64 x] w fun e w'=>e=.returned (.bool (nBad x))∧w'=w:=by
 unfold nBad
 go_enter func121,ntmps121
 by_cases h:x<0
 ·rw[decide_eq_true h,Bool.true_or]
  go_wp2
  go_ret
  exact⟨rfl,rfl⟩
 ·rw[decide_eq_false h,Bool.false_or]
  go_wp2
  go_ret
  exact⟨rfl,rfl⟩
theorem normBad_any (hr:Rd w B A (zvs c)) (hn:c.length=n) (hn1:n≤4096) :
  Calls prog 120 #[.slice A n m,.func (.func 121) #[] #[]] w fun e w'=>e=.returned (.bool (c.any nBad))∧w'=w :=
 jww 121 nBad (enters_of func121 (by kernel_rfl) rfl) (fun x W=>normWrong_any x W) hr hn hn1
theorem normThere_any (hr:Rd w B A (zvs c)) (hn:c.length=n) (hn1:n≤4096) :
  Calls prog 122 #[.slice A n m] w fun e w'=>e=.returned (.int .i64 (many c))∧w'=w:=by
 have HR:=jq hr
 have HC:=jq hn
 clear hr hn
 go_enter func122,ntmps122
 go_wp2
 go_loop [3,8] (fun s i=>∃ k:Nat,k≤n∧i=.int .i64 (k:Int)∧s=.int .i64 (many (c.take k))) (fun _ i=>n - (intOf i).toNat)
 case atStart=>exact⟨0,Nat.zero_le _,rfl,by simp[many]⟩
 case round =>
  obtain⟨k,hk,rfl,rfl⟩:=hrel
  by_cases hlt:k<n
  ·have hkc:k<c.length:=by have:=HC.out;omega
   obtain⟨b,off,rfl,-,hcell⟩:=jjn HR.out hkc
   have hs:=many_take c k hkc
   have g0:=many_nn (c.take k)
   have g1:=many_le (c.take k)
   rw[List.length_take] at g1
   obtain⟨x,hx⟩:∃ x,x=c[k]'hkc:=⟨_,rfl⟩
   rw[←hx] at hcell hs
   obtain⟨s,hss⟩:∃ s,s=many (c.take k):=⟨_,rfl⟩
   rw[←hss] at hs g0 g1 ⊢
   have hki:(k:Int)<(n:Int):=by omega
   have g2:s≤4096:=by omega
   have HS:=jq hs
   clear hs hx hss g1
   by_cases h0:0<x
   ·go_wp2
    go_round
    case rel=>exact⟨k+1,by omega,by go_num,by rw[HS.out,if_pos h0]⟩
    case measure=>simp[intOf];omega
   ·go_wp2
    go_round
    case rel=>exact⟨k+1,by omega,by go_num,by rw[HS.out,if_neg h0,Int.add_zero]⟩
    case measure=>simp[intOf];omega
  ·obtain rfl:k=n:=by omega
   rw[List.take_of_length_le (by have:=HC.out;omega)]
   go_wp2
   go_ret
   exact⟨rfl,rfl⟩
theorem normSum_any (hr:Rd w B A (zvs c)) (hn:c.length=n) (hn1:n≤4096) (hnn:∀ x∈c,0≤x) (hb:c.sum≤9007199254740992) :
  Calls prog 124 #[.slice A n m] w fun e w'=>e=.returned (.int .i64 c.sum)∧w'=w:=by
 have HR:=jq hr
 have HC:=jq hn
 have HN:=jq hnn
 have HB:=jq hb
 clear hr hn hnn hb
 go_enter func124,ntmps124
 go_wp2
 go_loop [3,8] (fun s i=>∃ k:Nat,k≤n∧i=.int .i64 (k:Int)∧s=.int .i64 (fPre c k)) (fun _ i=>n - (intOf i).toNat)
 case atStart=>exact⟨0,Nat.zero_le _,rfl,by rw[jyz]⟩
 case round =>
  obtain⟨k,hk,rfl,rfl⟩:=hrel
  by_cases hlt:k<n
  ·have hkc:k<c.length:=by have:=HC.out;omega
   obtain⟨b,off,rfl,-,hcell⟩:=jjn HR.out hkc
   have hs:=jqm c k hkc
   have g0:=jvd HN.out k
   have g1:=jwp HN.out (k+1)
   have g2:=HN.out _ (List.getElem_mem hkc)
   have g3:=HB.out
   obtain⟨x,hx⟩:∃ x,x=c[k]'hkc:=⟨_,rfl⟩
   rw[←hx] at hcell hs g2
   obtain⟨s,hss⟩:∃ s,s=fPre c k:=⟨_,rfl⟩
   rw[←hss] at hs g0 ⊢
   have HS:=jq hs
   have g4:s+x≤9007199254740992:=by omega
   have hki:(k:Int)<(n:Int):=by omega
   clear hs g1 g3 hx hss
   go_wp2
   go_round
   case rel=>exact⟨k+1,by omega,by go_num,by rw[HS.out]⟩
   case measure=>simp[intOf];omega
  ·obtain rfl:k=n:=by omega
   rw[jqk c (by have:=HC.out;omega)]
   go_wp2
   go_ret
   exact⟨rfl,rfl⟩
theorem normGreatest_any (K:Nat) (cap:Array Value) (hE:Enters prog K) (l:List Int) (hl:l.length=n) (hn0:1≤n) (hn1:n≤4096) (w:World)
  (hK:∀ j,j<n→Calls prog K (#[.int .i64 (j:Int)]++cap) w fun e w'=>e=.returned (.int .i64 (l.getD j 0))∧w'=w) :
  Calls prog 125 #[.int .i64 (n:Int),.func (.func K) #[] cap] w fun e w'=>∃ k:Nat,e=.returned (.int .i64 (k:Int))∧jyv l k∧w'=w:=by
 have HE:=jq hE
 have HK:=jq hK
 have HL:=jq hl
 clear hE hK hl
 go_enter func125,ntmps125
 go_wp2
 go_loopw [5,8] (fun f i wr=>∃ (k a:Nat),k≤n∧i=.int .i64 (k:Int)∧f=.int .i64 (a:Int)∧a<n∧((k=0∧a=0)∨jyv (l.take k) a)∧wr=w) (fun _ i _=>n - (intOf i).toNat)
 case atStart=>exact⟨0,0,Nat.zero_le _,rfl,rfl,hn0,.inl ⟨rfl,rfl⟩,rfl⟩
 case round =>
  obtain⟨k,a,hk,rfl,rfl,ha,hf,rfl⟩:=hrel
  have HF:=jq hf
  clear hf
  by_cases hlt:k<n
  ·have C1:=jq (HK.out k hlt)
   have C2:=jq (HK.out a ha)
   have hki:(k:Int)<(n:Int):=by omega
   have hnext:jyv (l.take (k+1)) (if l.getD a 0<l.getD k 0 then k else a):=by
    rcases HF.out with ⟨rfl,rfl⟩ | h
    ·rw[if_neg (by omega)]
     exact first_start l (by have:=HL.out;omega)
    ·exact first_next l h (by have:=HL.out;omega)
   obtain⟨x,hx⟩:∃ x,x=l.getD k 0:=⟨_,rfl⟩
   obtain⟨y,hy⟩:∃ y,y=l.getD a 0:=⟨_,rfl⟩
   rw[←hx,←hy] at hnext
   rw[←hx] at C1
   rw[←hy] at C2
   have HX:=jq hnext
   clear hnext hx hy
   by_cases hg:y<x
   ·have hx2:=HX.out
    rw[if_pos hg] at hx2
    have HX2:=jq hx2
    clear hx2
    go_wp2_with fail
    rw[HE.out]
    refine C1.out.mono ?_
    rintro e w' ⟨rfl,hw⟩
    obtain rfl:_=w':=hw.symm
    go_wp2_with fail
    rw[HE.out]
    refine C2.out.mono ?_
    rintro e w' ⟨rfl,hw⟩
    obtain rfl:_=w':=hw.symm
    go_wp2
    go_roundw
    case rel=>exact⟨k+1,k,by omega,by go_num,rfl,hlt,.inr HX2.out,trivial⟩
    case measure=>simp[intOf];omega
   ·have hx2:=HX.out
    rw[if_neg hg] at hx2
    have HX2:=jq hx2
    clear hx2
    go_wp2_with fail
    rw[HE.out]
    refine C1.out.mono ?_
    rintro e w' ⟨rfl,hw⟩
    obtain rfl:_=w':=hw.symm
    go_wp2_with fail
    rw[HE.out]
    refine C2.out.mono ?_
    rintro e w' ⟨rfl,hw⟩
    obtain rfl:_=w':=hw.symm
    go_wp2
    go_roundw
    case rel=>exact⟨k+1,a,by omega,by go_num,rfl,ha,.inr HX2.out,trivial⟩
    case measure=>simp[intOf];omega
  ·obtain rfl:k=n:=by omega
   have h:=HF.out
   rw[List.take_of_length_le (by have:=HL.out;omega)] at h
   have HF2:=jq (show jyv l a by
    rcases h with ⟨h0,-⟩ | h
    ·omega
    ·exact h)
   clear h
   go_wp2
   go_ret
   exact⟨a,rfl,HF2.out,rfl⟩
theorem qqf (K:Nat) (cap:Array Value) (hE:Enters prog K) (l:List Int) (hl:l.length=n) (hn1:n≤4096) (k:Nat) (hk:jyv l k) (w:World)
  (hK:∀ j,j<n→Calls prog K (#[.int .i64 (j:Int)]++cap) w fun e w'=>e=.returned (.int .i64 (l.getD j 0))∧w'=w) :
  Calls prog 125 #[.int .i64 (n:Int),.func (.func K) #[] cap] w fun e w'=>e=.returned (.int .i64 (k:Int))∧w'=w :=
 (normGreatest_any K cap hE l hl (by have:=hk.1;omega) hn1 w hK).mono fun e w' ⟨a,h1,h2,h3⟩=>⟨by rw[h1,h2.one hk],h3⟩
end
section
variable {w:World} {A:Option Addr} {n m:Nat} {l:List UInt8}
theorem qkq (hr:Rd w w.heap.size A (bvs l)) (hn:l.length=n) (hn1:n≤1000000) :
  Calls prog 83 #[.slice A n m] w fun e w'=>∃ g,e=.returned (.slice (some ⟨g,0,none⟩) (256:Nat) 256)∧w.heap.size≤g∧Blk w' g 3 (zvs (cntL l))∧Below w.heap.size w w':=by
 obtain⟨i0,hi,hz0,hz1,hz2⟩:=info_parts jwk
 have HR:=jq hr
 have HC:=jq hn
 clear hr hn
 go_enter func83,ntmps83
 go_wp2_with (at_make;go_must (refine jqp rfl (.const (.int .i64 256)) (.const (.int .i64 256)) 35 rfl w.heap.size 3 i0 (.int .i64 0) 8 underlying35 hi hz0 rfl hz1 hz2 .i64 .i64 _ _ rfl rfl 256 256 rfl rfl jw (by omega) (by simp only[maxLen];omega) jw ?_;intro w1 hg1 hown1 hgr1;have hb:Below w.heap.size w w1:=(Below.refl _ _).grown hgr1 jw (by simp)))
 have hk1:Blk w1 w.heap.size 3 (zvs (cntL (l.take 0))):=by
  unfold Blk;rw[hg1,List.take_zero];simp[zvs,cntL]
 have HK1:=jq hk1
 have HB1:=jq hb
 obtain⟨g,hg⟩:∃ g,g=w.heap.size:=⟨_,rfl⟩
 rw[←hg] at HK1
 simp only[←hg]
 have HG:=jq hg
 clear hk1 hb hg hown1 hgr1 hg1
 go_loopw [9] (fun i wr=>∃ k:Nat,k≤n∧i=.int .i64 (k:Int)∧Blk wr g 3 (zvs (cntL (l.take k)))∧Below w.heap.size w wr) (fun i _=>n - (intOf i).toNat)
 case atStart=>exact⟨0,Nat.zero_le _,rfl,HK1.out,HB1.out⟩
 case round =>
  clear HK1 HB1
  obtain⟨k,hk,rfl,hblk,hb⟩:=hrel
  have HB:=jq hb
  clear hb
  by_cases hlt:k<n
  ·have hkl:k<l.length:=by have:=HC.out;omega
   obtain⟨ab,ao,rfl,hab,hcell0⟩:=HR.out k _ (jym l k hkl)
   have hcell:=(HB.out.cell (p:=⟨ab,ao+k,none⟩) hab).trans hcell0
   have hst:=cntL_take l hkl
   have hx1:l[k].toNat<256:=l[k].toNat_lt
   have hlc:=jyf (l.take k)
   have hle:=qmp (l.take k)
   obtain⟨C,hC⟩:∃ C,C=cntL (l.take k):=⟨_,rfl⟩
   rw[←hC] at hblk hst hlc hle
   unfold jyb at hst
   obtain⟨x,hx⟩:∃ x,x=l[k].toNat:=⟨_,rfl⟩
   rw[←hx] at hcell hst hx1
   have hxc:x<C.length:=by omega
   have e:C.getD x 0=C[x]:=by simp[List.getD_eq_getElem?_getD,hxc]
   rw[e] at hst
   have hy:=hle _ (List.getElem_mem hxc)
   have hgc:=hblk.cell x
   have hgf:=hblk.frozen x
   rw[jql,List.getElem?_eq_getElem hxc] at hgc
   obtain⟨y,hyy⟩:∃ y,y=C[x]'hxc:=⟨_,rfl⟩
   rw[←hyy] at hgc hst hy
   simp only[Option.map_some] at hgc
   rw[List.length_take] at hy
   obtain⟨hy0,hy1⟩:=hy
   have hy2:y≤1000000:=by omega
   have hki:(k:Int)<(n:Int):=by omega
   have hxi:(x:Int)<256:=by omega
   have hset:=hblk.set_ x (.int .i64 (y+1))
   rw[jms,←hst] at hset
   have HSET:=jq hset
   have HB2:=jq (HB.out.setCell (p:=⟨g,x,none⟩) (by rw[HG.out];exact Nat.le_refl _) (.int .i64 (y+1)))
   clear hcell0 hst hlc hle hC hx e hyy hy1 hset hblk hxc
   go_wp2
   go_roundw
   case rel=>exact⟨k+1,by omega,by go_num,HSET.out,HB2.out⟩
   case measure=>simp[intOf];omega
  ·obtain rfl:k=n:=by omega
   rw[List.take_of_length_le (by have:=HC.out;omega)] at hblk
   have HBL:=jq hblk
   clear hblk
   go_wp2
   go_ret
   exact⟨g,rfl,by rw[HG.out];exact Nat.le_refl _,HBL.out,HB.out⟩
end
section
variable {P:Program} {o:Oper} {ev:Operand→Value} {w:World} {post:Value→World→Prop}
theorem says_mk {t:TypeId} {lo co:Operand} (hop:o.op=.makeSlice t lo co) (e:TypeId) (i:TypeInfo) (z:Value) (ht:P.underlying t=some (.slice e)) (hi:P.info? e=some i) (hz:i.zero=some z) (hzs:z.cells=#[z])
  (hsize:i.size=1) (hby:i.bytes≤8) (n:Nat) (hl:ev lo=.int .i64 (n:Int)) (hc:ev co=.int .i64 (n:Int)) (hn:n≤1000000)
  (hp:post (.slice (some ⟨w.heap.size,0,none⟩) n n) (w.alloc (.cells (List.replicate n z).toArray e))):jzv P o ev w post:=by
 have hbn:((i.bytes*n:Nat):Int)≤281474976710656:=by have:=Nat.mul_le_mul_right n hby;omega
 rw[Int.natCast_mul] at hbn
 have hrun:=run_make (P:=P) w t e i z ht hi hz .i64 .i64 n n (by omega) (Int.le_refl _) hbn (by omega)
 simp only[Int.toNat_natCast,hsize,Nat.mul_one,hzs] at hrun
 have hcells:madeCells #[z] n=(List.replicate n z).toArray:=by
  apply Array.ext';rw[toList_madeCells_one]
 rw[hcells] at hrun
 have e:(execOp ev o).run P w=.ok (.value (.slice (some ⟨w.heap.size,0,none⟩) n n)) (w.alloc (.cells (List.replicate n z).toArray e)):=by
  simp only[execOp,hop,hl,hc,Sem.run_bind,Sem.run_pure,Result.andThen_ok,hrun]
 unfold jzv
 rw[e]
 exact hp
end
def jwz (B n:Nat) (v:Value) (w:World):Prop:=∃ g,v=.slice (some ⟨g,0,none⟩) n n∧B≤g∧Blk w g 3 (zvs (List.replicate n 0))
theorem jwz.grow (B n:Nat) (v:Value) (w w':World) (h:jwz B n v w) (hb:Below w.heap.size w w'):jwz B n v w':=by
 obtain⟨g,h1,h2,h3⟩:=h
 exact⟨g,h1,h2,h3.grow hb⟩
def jxt (c:List Int) (t:Int) (k:Nat):List Int:=(c.take k).map (jzk t c.sum)++List.replicate (c.length - k) 0
theorem partRow_zero (c:List Int) (t:Int):jxt c t 0=List.replicate c.length 0:=by simp[jxt]
theorem partRow_all (c:List Int) (t:Int):jxt c t c.length=c.map (jzk t c.sum):=by simp[jxt]
theorem partRow_set (c:List Int) (t:Int) {k:Nat} (h:k<c.length):(jxt c t k).set k (jzk t c.sum c[k])=jxt c t (k+1):=by
 unfold jxt
 have hl:((c.take k).map (jzk t c.sum)).length=k:=by simp;omega
 rw[List.set_append_right _ _ (by omega),hl,Nat.sub_self,List.take_add_one,List.getElem?_eq_getElem h]
 have e:c.length - k=(c.length - (k+1))+1:=by omega
 rw[e,List.replicate_succ,List.set_cons_zero,List.map_append,List.append_assoc]
 rfl
theorem partRow_skip (c:List Int) (t:Int) {k:Nat} (h:k<c.length) (h0:c[k]=0):jxt c t k=jxt c t (k+1):=by
 rw[←partRow_set c t h]
 have hl:((c.take k).map (jzk t c.sum)).length=k:=by simp;omega
 unfold jxt
 rw[List.set_append_right _ _ (by omega),hl,Nat.sub_self]
 have e:c.length - k=(c.length - (k+1))+1:=by omega
 rw[e,List.replicate_succ,List.set_cons_zero,h0]
 simp[jzk]
theorem partRow_len (c:List Int) (t:Int) {k:Nat} (h:k≤c.length):(jxt c t k).length=c.length:=by unfold jxt;simp;omega
theorem nShare_max {t s x:Int} (hx:0<x) (ht:0≤t) (hs:0<s):jzk t s x=if t*x/s<1 then 1 else t*x/s:=by
 unfold jzk
 rw[Int.mul_comm x t]
 have h0:0≤t*x/s:=Int.ediv_nonneg (Int.mul_nonneg ht (by omega)) (by omega)
 by_cases h:t*x/s=0
 ·rw[if_pos ⟨hx,h⟩,if_pos (by omega)]
 ·rw[if_neg (fun hh=>h hh.2),if_neg (by omega)]
theorem prod_le {t x:Int} (ht0:0≤t) (ht:t≤65536) (hx0:0≤x) (hx:x≤1099511627776):0≤t*x∧t*x≤72057594037927936:=by
 refine⟨Int.mul_nonneg ht0 hx0,?_⟩
 have h1:t*x≤65536*x:=Int.mul_le_mul_of_nonneg_right ht hx0
 omega
theorem quo_le {a s:Int} (ha:0≤a) (hs:0<s):0≤a/s∧a/s≤a:=⟨Int.ediv_nonneg ha (by omega),Int.ediv_le_self _ ha⟩
theorem nShare_val {t s x:Int} (ht0:0≤t) (ht:t≤65536) (hx0:0<x) (hx:x≤1099511627776) (hs:0<s):max (wrap64 ((wrap64 (t*x)).tdiv s)) 1=jzk t s x:=by
 have hp:=prod_le ht0 ht (by omega) hx
 have hq:=quo_le hp.1 hs
 rw[nShare_max hx0 ht0 hs,IntWalk.wrap64_in (t*x) (by omega),Int.tdiv_eq_ediv_of_nonneg hp.1,IntWalk.wrap64_in (t*x/s) (by omega)]
 generalize t*x/s=q at *
 split <;> omega
section
variable {w:World} {B:Nat} {A:Option Addr} {n m:Nat} {c:List Int}
theorem normParts_any (t:Int) (hr:Rd w w.heap.size A (zvs c)) (hn:c.length=n) (hn1:n≤4096) (hnn:∀ x∈c,0≤x∧x≤1099511627776) (hb:c.sum≤9007199254740992) (hs0:0<c.sum) (ht0:0≤t) (ht:t≤65536) :
  Calls prog 123 #[.slice A n m,.int .i64 t] w fun e w'=>∃ g,e=.returned (.slice (some ⟨g,0,none⟩) n n)∧w.heap.size≤g∧Blk w' g 3 (zvs (c.map (jzk t c.sum)))∧Below w.heap.size w w':=by
 obtain⟨i0,hi,hz0,hz1,hz2⟩:=info_parts jwk
 have C1:=jq (fun (W:World) (h:Below w.heap.size w W)=>normSum_any (m:=m) (hr.below h) hn hn1 (fun x hx=>(hnn x hx).1) hb)
 have HR:=jq hr
 have HC:=jq hn
 have HN:=jq hnn
 obtain⟨s,hs⟩:∃ s,s=c.sum:=⟨_,rfl⟩
 rw[←hs] at hb hs0 C1
 have HS:=jq hs
 clear hr hn hnn hs
 go_enter func123,ntmps123
 go_wp2
 refine jyw [⟨9,[],.is (.slice A n m)⟩,
  ⟨10,[0],.is (.int .i64 (n:Int))⟩,
  ⟨11,[1],.such (jwz w.heap.size n) (jwz.grow w.heap.size n)⟩,
  ⟨12,[],.is (.slice A n m)⟩,
  ⟨13,[3],.is (.int .i64 s)⟩,
  ⟨5,[2],.such (jwz w.heap.size n) (jwz.grow w.heap.size n)⟩,
  ⟨6,[4],.is (.int .i64 s)⟩]
  [(0,.slice A n m)] (by kernel_rfl) (by kernel_rfl) (by kernel_rfl) (by kernel_rfl) (by kernel_rfl) ⟨rfl,trivial⟩ ?_ ?_
 ·repeat' (first | exact jzr.nil | refine jzr.cons ?_ ?_)
  all_goals (intro ev yi w1 hB hc hf ho hn;simp only[jyk,jdn,rowAt,Fact.says,and_true] at ho hn)
  all_goals (try ((simp[jzv,execOp,Region.wanted,Fact.says,go_sem,ho,hn,Below.refl];done)))
  ·rw[if_pos (by simp[Region.wanted])]
   exact says_mk rfl 3 i0 (.int .i64 0) underlying35 hi hz0 rfl hz1 (by rw[hz2];decide) n hn.1 hn.1 (by omega) ⟨⟨w1.heap.size,rfl,hB.size,by
    have h:=heap_alloc_new w1 (.cells (List.replicate n (Value.int .i64 0)).toArray 3)
    unfold Blk
    rw[h]
    simp[zvs]⟩,(Below.refl _ _).alloc jw _⟩
  ·rw[if_pos (by simp[Region.wanted])]
   exact jml call124 rfl hf (by simp only[List.map_toArray,List.map_cons,List.map_nil,hn]) ((C1.out w1 hB).mono fun _ _ h=>⟨_,h.1,rfl,h.2 ▸ Below.refl _ _⟩)
 ·intro x w1 hb1 hx
  obtain⟨g,h5,hg,hblk⟩:jwz w.heap.size n (x 5) w1:=hx 5 (by decide)
  have h6:x 6=.int .i64 s:=hx 6 (by decide)
  clear hx
  simp only[layAll,List.setIfInBounds_toArray,List.set_cons_succ,List.set_cons_zero,h5,h6]
  have HB1:=jq hb1
  have HBL:=jq hblk
  have HG:=jq hg
  clear hb1 hblk hg h5 h6 C1
  go_wp2
  go_loopw [16] (fun i wr=>∃ k:Nat,k≤n∧i=.int .i64 (k:Int)∧Blk wr g 3 (zvs (jxt c t k))∧Below w.heap.size w wr) (fun i _=>n - (intOf i).toNat)
  case atStart=>exact⟨0,Nat.zero_le _,rfl,by rw[partRow_zero,HC.out];exact HBL.out,HB1.out⟩
  case round =>
   clear HBL HB1
   obtain⟨k,hk,rfl,hblk,hb⟩:=hrel
   have HB:=jq hb
   clear hb
   by_cases hlt:k<n
   ·have hkc:k<c.length:=by have:=HC.out;omega
    obtain⟨b,off,rfl,hbl,hcell0⟩:=jjn HR.out hkc
    have hcell:=(HB.out.cell (p:=⟨b,off+k,none⟩) hbl).trans hcell0
    have hx0:=HN.out _ (List.getElem_mem hkc)
    have hset:=partRow_set c t hkc
    have hskip:=partRow_skip c t hkc
    have hgl:=partRow_len c t (k:=k) (by omega)
    obtain⟨x,hx⟩:∃ x,x=c[k]'hkc:=⟨_,rfl⟩
    rw[←hx] at hcell hx0 hset hskip
    obtain⟨R,hR⟩:∃ R,R=jxt c t k:=⟨_,rfl⟩
    rw[←hR] at hset hskip hgl hblk
    have hgc:=hblk.cell k
    have hgf:=hblk.frozen k
    rw[jql,List.getElem?_eq_getElem (by omega)] at hgc
    obtain⟨y,hy⟩:∃ y,y=R[k]'(by omega):=⟨_,rfl⟩
    rw[←hy] at hgc
    simp only[Option.map_some] at hgc
    have hki:(k:Int)<(n:Int):=by omega
    have HSET:=jq hset
    have HSKIP:=jq hskip
    have HBL:=jq hblk
    clear hcell0 hset hskip hx hR hblk hy hgl
    obtain⟨hx0,hx1⟩:=hx0
    by_cases h0:0<x
    ·have HV:=jq (nShare_val ht0 ht h0 hx1 hs0)
     clear hx1 hx0
     go_wp2
     rw[HV.out]
     have HBL2:=jq (HBL.out.set_ k (.int .i64 (jzk t s x)))
     have HB2:=jq (HB.out.setCell (p:=⟨g,k,none⟩) HG.out (.int .i64 (jzk t s x)))
     go_roundw
     case rel =>
      refine⟨k+1,by omega,by go_num,?_,HB2.out⟩
      have h:=HBL2.out
      rw[jms,HS.out,HSET.out] at h
      rw[HS.out]
      exact h
     case measure=>simp[intOf];omega
    ·have hz:x=0:=by omega
     have HK:=jq (HSKIP.out hz)
     clear hgc hgf
     go_wp2
     go_roundw
     case rel=>exact⟨k+1,by omega,by go_num,by rw[←HK.out];exact HBL.out,HB.out⟩
     case measure=>simp[intOf];omega
   ·obtain rfl:k=n:=by omega
    have he:jxt c t k=c.map (jzk t c.sum):=by rw[←HC.out];exact partRow_all c t
    rw[he] at hblk
    have HBL:=jq hblk
    clear hblk he
    go_wp2
    go_ret
    exact⟨g,rfl,HG.out,HBL.out,HB.out⟩
end
section
variable {w:World} {B:Nat} {A:Option Addr} {n m:Nat} {c:List Int}
theorem normOf1_any {b:Nat} (hb:w.cell? ⟨b,0,none⟩=some (.slice A n m)) (hr:Rd w B A (zvs c)) (hn:c.length=n) (j:Nat) (hj:j<n) :
  Calls prog 126 #[.int .i64 (j:Int),.pointer (some ⟨b,0,none⟩)] w fun e w'=>e=.returned (.int .i64 (c.getD j 0))∧w'=w:=by
 obtain⟨g,off,rfl,-,hcell⟩:=jjn hr (show j<c.length by omega)
 have e:c.getD j 0=c[j]'(by omega):=by simp[List.getD_eq_getElem?_getD,show j<c.length by omega]
 rw[e]
 have hji:(j:Int)<(n:Int):=by omega
 clear hr e
 go_enter func126,ntmps126
 go_wp2
 go_ret
 exact⟨rfl,rfl⟩
theorem normOf2_any {b:Nat} (hb:w.cell? ⟨b,0,none⟩=some (.slice A n m)) (hr:Rd w B A (zvs c)) (hn:c.length=n) (j:Nat) (hj:j<n) :
  Calls prog 127 #[.int .i64 (j:Int),.pointer (some ⟨b,0,none⟩)] w fun e w'=>e=.returned (.int .i64 (c.getD j 0))∧w'=w:=by
 obtain⟨g,off,rfl,-,hcell⟩:=jjn hr (show j<c.length by omega)
 have e:c.getD j 0=c[j]'(by omega):=by simp[List.getD_eq_getElem?_getD,show j<c.length by omega]
 rw[e]
 have hji:(j:Int)<(n:Int):=by omega
 clear hr e
 go_enter func127,ntmps127
 go_wp2
 go_ret
 exact⟨rfl,rfl⟩
end
theorem nBad_not {c:List Int} (h:c.any nBad=false):∀ x∈c,0≤x∧x≤1099511627776:=by
 intro x hx
 have:=List.any_eq_false.1 h x hx
 simp[nBad] at this
 exact this
structure Trims (w:World) (c:List Int) (n g bs T d:Nat) (cur:List Int) (wr:World):Prop where
 row:Blk wr g 3 (zvs cur)
 len:cur.length=n
 alike:Alike c cur
 sum:cur.sum=(T:Int)+(d:Int)
 box:Blk wr bs 35 [.slice (some ⟨g,0,none⟩) n n]
 below:Below w.heap.size w wr
theorem Trims.next {w wr:World} {c:List Int} {n g bs T d k:Nat} {cur:List Int} (h:Trims w c n g bs T (d+1) cur wr) (hc:∀ x∈c,0≤x) (ht:many c≤(T:Int)) (hg:bs≠g) (hw:w.heap.size≤g) (hk:jyv cur k) :
  Trims w c n g bs T d (cur.set k (cur.getD k 0 - 1)) (wr.setCell ⟨g,k,none⟩ (.int .i64 (cur.getD k 0 - 1))).drew:=by
 have hset:=h.row.set_ k (.int .i64 (cur.getD k 0 - 1))
 rw[jms] at hset
 have h2:=first_two h.alike hc ht (by have:=h.sum;omega) hk
 refine⟨hset.same rfl,by rw[List.length_set];exact h.len,⟨by rw[List.length_set];exact h.alike.1,fun j hj=>?_⟩,by rw[set_sum14 cur k _ hk.1,h.sum];omega,(h.box.setOther _ _ hg).same rfl,(h.below.setCell (p:=⟨g,k,none⟩) hw _).drew⟩
 rw[qzm cur k j _ hk.1]
 have:=h.alike.2 j hj
 split
 ·rename_i e;subst e;constructor
  ·omega
  ·constructor
   ·intro;omega
   ·intro hz;have:=this.2.2 hz;omega
 ·exact this
section
variable {w:World} {B:Nat} {A:Option Addr} {n m:Nat} {c:List Int}
theorem normNorm_ok (b T:Nat) (hb1:1≤b) (hb2:b≤16) (hT:T=2^b) (hbad:c.any nBad=false) (hr:Rd w w.heap.size A (zvs c)) (hn:c.length=n) (hn1:n≤4096) (h0:many c≠0) (hmT:many c≤(T:Int)) :
  Calls prog 82 #[.slice A n m,.int .i64 (b:Int)] w fun e w'=>∃ g r,e=.returned (.tuple #[.slice (some ⟨g,0,none⟩) n n,.int .i64 0])∧w.heap.size≤g∧qxj c (T:Int) r∧Blk w' g 3 (zvs r)∧Below w.heap.size w w':=by
 obtain⟨w1,hw1⟩:∃ w1,w1=w.alloc (.cells #[.slice A n m] 35):=⟨_,rfl⟩
 have hb:Below w.heap.size w w1:=by rw[hw1];exact (Below.refl _ _).alloc jw _
 have hk1:Blk w1 w.heap.size 35 [.slice A n m]:=by rw[hw1];exact heap_alloc_new w _
 have hr1:Rd w1 w1.heap.size A (zvs c):=(hr.below hb).more hb.size
 have b0:=hk1.cell 0
 simp only[jy] at b0
 have hnn:=nBad_not hbad
 have hn0:∀ x∈c,0≤x:=fun x hx=>(hnn x hx).1
 have hsum:c.sum≤9007199254740992:=by
  have h1:=sum_most 1099511627776 (l:=c) (fun x hx=>(hnn x hx).2)
  have h2:c.length*1099511627776≤4096*1099511627776:=Nat.mul_le_mul_right _ (by omega)
  omega
 have hpos:0<c.sum:=by have:=many_pos hn0;omega
 have hT1:T≤65536:=by rw[hT];exact Nat.pow_le_pow_right (n:=2) (by decide) hb2
 have hT0:1≤T:=by rw[hT];exact Nat.one_le_two_pow
 have hpow:(2:Int)^b=(T:Int):=by rw[hT];simp
 have c1:=normBad_any (m:=m) hr1 hn hn1
 rw[hbad] at c1
 have C1:=jq c1
 have C2:=jq (normThere_any (m:=m) hr1 hn hn1)
 have C3:=jq (normParts_any (m:=m) (T:Int) hr1 hn hn1 hnn hsum hpos (by omega) (by omega))
 have HR:=jq hr1
 have HB:=jq hb
 have HK:=jq hk1
 have ha:=qdl hn0 (t:=(T:Int)) (by omega) hpos
 have hsh:∀ x∈c.map (jzk (T:Int) c.sum),0≤x∧x≤65536:=fun x hx=>by
  obtain⟨y,hy,rfl⟩:=List.mem_map.1 hx
  have hy0:=hn0 y hy
  refine⟨(nShare_nn hy0 (by omega) hpos).1,Int.le_trans (nShare_le ?_ (by omega) hpos) (by omega)⟩
  obtain⟨i,hi,rfl⟩:=List.getElem_of_mem hy
  exact qzh hn0 hi
 obtain⟨S,hS⟩:∃ S,S=c.map (jzk (T:Int) c.sum):=⟨_,rfl⟩
 have hNR:∀ r,(if S.sum<(T:Int) then ∃ k,jyv c k∧r=S.set k (S.getD k 0+((T:Int) - S.sum)) else Trim (S.sum - (T:Int)).toNat S r)→qxj c (T:Int) r:=fun r h=>by
  unfold qxj;rw[←hS];exact h
 rw[←hS] at ha hsh C3
 have hSl:S.length=n:=by rw[hS,List.length_map,hn]
 have hSs:S.sum≤268435456:=by
  have h1:=sum_most 65536 (l:=S) (fun x hx=>(hsh x hx).2)
  have h2:S.length*65536≤4096*65536:=Nat.mul_le_mul_right _ (by omega)
  omega
 have hSn:0≤S.sum:=sum_nn12 (fun x hx=>(hsh x hx).1)
 have HNR:=jq hNR
 have HSH:=jq hsh
 have HSL:=jq hSl
 have HA:=jq ha
 have HW1:=jq hw1
 have HN:=jq hn
 have HM:=jq (And.intro h0 hmT)
 have HNN:=jq hn0
 have HLEN:=jq (show 0<c.length from Nat.pos_of_ne_zero fun e=>h0 (by rw[List.eq_nil_of_length_eq_zero e];rfl))
 obtain⟨M,hM⟩:∃ M,M=many c:=⟨_,rfl⟩
 rw[←hM] at C2 h0 hmT
 have hM0:(M==0)=false:=beq_eq_false_iff_ne.2 h0
 clear hr hr1 hb hk1 hn hnn hn0 hsum hpos c1 ha hsh hS hNR hSl hw1 hM hbad hT h0
 go_enter func82,ntmps82
 go_wp2_with fail
 rw[←HW1.out]
 refine C1.out.mono ?_
 rintro e w' ⟨rfl,hw⟩
 obtain rfl:_=w':=hw.symm
 go_wp2_with fail
 refine C2.out.mono ?_
 rintro e w' ⟨rfl,hw⟩
 obtain rfl:_=w':=hw.symm
 go_wp2_with fail
 refine C3.out.mono ?_
 rintro e w2 ⟨g,rfl,hg,hbg,hb2⟩
 have HB2:=jq (HB.out.trans (hb2.mono HB.out.size))
 have HK2:=jq (HK.out.grow hb2)
 have HR2:=jq ((HR.out.below hb2).more hb2.size)
 have HG:=jq (show w.heap.size<g by have:=HK.out.lt;omega)
 have hw3:∃ w3,w3=w2.alloc (.cells #[.slice (some ⟨g,0,none⟩) n n] 35):=⟨_,rfl⟩
 obtain⟨w3,hw3⟩:=hw3
 have hb3:Below w2.heap.size w2 w3:=by rw[hw3];exact (Below.refl _ _).alloc jw _
 obtain⟨bs,hbs⟩:∃ bs,bs=w2.heap.size:=⟨_,rfl⟩
 have hk3:Blk w3 bs 35 [.slice (some ⟨g,0,none⟩) n n]:=by rw[hw3,hbs];exact heap_alloc_new w2 _
 have d0:=hk3.cell 0
 have HB3:=jq (HB2.out.trans (hb3.mono HB2.out.size))
 have HK3:=jq (HK2.out.grow hb3)
 have HR3:=jq ((HR2.out.below hb3).more hb3.size)
 have HS3:=jq (hbg.grow hb3)
 have HBS:=jq (show w.heap.size<bs∧g<bs from ⟨by rw[hbs];exact HK2.out.lt,by rw[hbs];exact hbg.lt⟩)
 have HKS:=jq hk3
 have HW3:=jq hw3
 have e0:=HK3.out.cell 0
 simp only[jy] at d0 e0
 have c4:=normSum_any (m:=n) (Rd.of_blk HS3.out) HSL.out hn1 (fun x hx=>(HSH.out x hx).1) (by omega)
 have C4:=jq c4
 obtain⟨s,hs⟩:∃ s,s=S.sum:=⟨_,rfl⟩
 rw[←hs] at C4 HNR hSs hSn
 have HS:=jq hs
 clear b0 hg hbg hb2 hw3 hb3 hk3 c4 hs C1 C2 C3 HB HK HR HW1
 go_wp2_with fail
 rw[←HW3.out,←hbs]
 refine C4.out.mono ?_
 rintro e w' ⟨rfl,hw⟩
 obtain rfl:_=w':=hw.symm
 clear hbs C4
 by_cases hlt:s<(T:Int)
 ·obtain⟨k,hk⟩:=first_some c HLEN.out
  have CG:=jq (fun (W:World) (h:W.heap=w3.heap)=>qqf 126 #[.pointer (some ⟨w.heap.size,0,none⟩)] (enters_of func126 (by kernel_rfl) rfl) c HN.out hn1 k hk W
   (fun j hj=>normOf1_any (m:=m) (by have:=(HK3.out.same h).cell 0;simpa only[jy] using this) (rd_same HR3.out h) HN.out j hj))
  have hkn:k<n:=by have:=hk.1;rw[HN.out] at this;exact this
  have hgc:=HS3.out.cell k
  have hgf:=HS3.out.frozen k
  have hkS:k<S.length:=by rw[HSL.out];exact hkn
  rw[jql,List.getElem?_eq_getElem hkS] at hgc
  simp only[Option.map_some] at hgc
  have hyb:=HSH.out _ (List.getElem_mem hkS)
  have hnr:=HNR.out (S.set k (S.getD k 0+((T:Int) - s)))
  rw[if_pos hlt] at hnr
  have HRES:=jq (hnr ⟨k,hk,rfl⟩)
  have hyd:S.getD k 0=S[k]'hkS:=by simp[List.getD_eq_getElem?_getD,hkS]
  rw[hyd] at HRES
  obtain⟨y,hy⟩:∃ y,y=S[k]'hkS:=⟨_,rfl⟩
  rw[←hy] at hgc hyb HRES
  obtain⟨hy0,hy1⟩:=hyb
  have hkni:(k:Int)<(n:Int):=by omega
  have hset:=HS3.out.set_ k (.int .i64 (y+((T:Int) - s)))
  rw[jms] at hset
  have HSET:=jq (hset.same (w':=(w3.setCell ⟨g,k,none⟩ (.int .i64 (y+((T:Int) - s)))).drew) rfl)
  have HB4:=jq (HB3.out.setCell (p:=⟨g,k,none⟩) (Nat.le_of_lt HG.out) (.int .i64 (y+((T:Int) - s)))).drew
  have HKS4:=jq ((HKS.out.setOther ⟨g,k,none⟩ (.int .i64 (y+((T:Int) - s))) (by have:=HBS.out.2;simp only;omega)).same (w':=(w3.setCell ⟨g,k,none⟩ (.int .i64 (y+((T:Int) - s)))).drew) rfl)
  clear hk hnr hyd hy hset hkS
  go_wp2
  refine wp_region_still_tail 10 (by kernel_rfl) (by kernel_rfl) ?_
  simp only[List.take_succ_cons,List.take_zero,List.drop_succ_cons,List.drop_zero]
  iterate 4 still_step
  still_call (CG.out w3.drew rfl)
  repeat still_step
  refine wpStill_nil ?_
  change wpList _ _ _ _ _ w3.drew
  clear d0 e0 CG
  go_wp2
  clear hgc hgf
  obtain⟨w4,hw4⟩:∃ w4,w4=(w3.setCell ⟨g,k,none⟩ (.int .i64 (y+((T:Int) - s)))).drew:=⟨_,rfl⟩
  rw[←hw4] at HSET HB4 HKS4 ⊢
  obtain⟨r,hr⟩:∃ r,r=S.set k (y+((T:Int) - s)):=⟨_,rfl⟩
  rw[←hr] at HSET HRES
  clear hw4 hr
  go_loopw [9] (fun l wr=>l=.int .i64 ((T:Int) - s)∧Blk wr g 3 (zvs r)∧Blk wr bs 35 [.slice (some ⟨g,0,none⟩) n n]∧Below w.heap.size w wr) (fun _ _=>0)
  case atStart=>exact⟨rfl,HSET.out,HKS4.out,HB4.out⟩
  case round =>
   clear HSET HKS4 HB4
   obtain⟨rfl,hs,hk,hb⟩:=hrel
   have HSET:=jq hs
   have HB4:=jq hb
   have d1:=hk.cell 0
   simp only[jy] at d1
   clear hs hk hb
   go_wp2
   go_ret2
   exact⟨g,r,rfl,Nat.le_of_lt HG.out,HRES.out,HSET.out,HB4.out⟩
 ·have hd0:=HNR.out
  simp only[if_neg hlt] at hd0
  obtain⟨d0',hd0'⟩:∃ d:Nat,s=(T:Int)+(d:Int):=⟨(s - T).toNat,by omega⟩
  rw[show (s - (T:Int)).toNat=d0' by omega] at hd0
  have HT:=jq hd0
  have hd1:d0'≤268435456:=by omega
  have hSd:=HS.out
  rw[hd0'] at hSd
  have HSD:=jq hSd
  have hls:wrap64 ((T:Int) - s) = -(d0':Int):=by rw[IntWalk.wrap64_in _ (by omega)];omega
  clear hd0 hSd HNR hlt hSs hSn d0 e0 HS hd0'
  go_wp2
  simp only[hls]
  clear hls
  have HT3:=jq (show Trims w c n g bs T d0' S w3 from ⟨HS3.out,HSL.out,HA.out,HSD.out.symm,HKS.out,HB3.out⟩)
  go_loopw [9] (fun l wr=>∃ (d:Nat) (cur:List Int),l=.int .i64 (-(d:Int))∧d≤d0'∧Trims w c n g bs T d cur wr∧(∀ r,Trim d cur r→qxj c (T:Int) r)) (fun l _=>(-(intOf l)).toNat)
  case atStart=>exact⟨d0',S,rfl,Nat.le_refl _,HT3.out,HT.out⟩
  case round =>
   clear HT HT3 HSD HS3 HKS HB3 HK3 HR3
   obtain⟨d,cur,rfl,hd,htr,hall⟩:=hrel
   have HTR:=jq htr
   have HALL:=jq hall
   have d1:=htr.box.cell 0
   simp only[jy] at d1
   clear htr hall
   cases d with
   | zero =>
    have HRES:=jq (HALL.out cur (.done cur))
    go_wp2
    go_ret2
    exact⟨g,cur,rfl,Nat.le_of_lt HG.out,HRES.out,HTR.out.row,HTR.out.below⟩
   | succ d =>
    obtain⟨k,hk⟩:=first_some cur (by have h1:=HTR.out.len;have h2:=HLEN.out;have h3:=HN.out;omega)
    have CG:=jq (fun (W:World) (h:W.heap=wr.heap)=>qqf 127 #[.pointer (some ⟨bs,0,none⟩)] (enters_of func127 (by kernel_rfl) rfl) cur HTR.out.len hn1 k hk W
     (fun j hj=>normOf2_any (m:=n) (by have:=(HTR.out.box.same h).cell 0;simpa only[jy] using this) (Rd.of_blk (HTR.out.row.same h)) HTR.out.len j hj))
    have hkn:k<n:=by have:=hk.1;rw[HTR.out.len] at this;exact this
    have hgc:=HTR.out.row.cell k
    have hgf:=HTR.out.row.frozen k
    have hkS:k<cur.length:=by rw[HTR.out.len];exact hkn
    rw[jql,List.getElem?_eq_getElem hkS] at hgc
    simp only[Option.map_some] at hgc
    have hyd:cur.getD k 0=cur[k]'hkS:=by simp[List.getD_eq_getElem?_getD,hkS]
    have hnn:=all_nn14 HTR.out.alike
    have hy1:=qzh hnn hkS
    have hy0:=hnn _ (List.getElem_mem hkS)
    rw[HTR.out.sum] at hy1
    have HNEXT:=jq (HTR.out.next HNN.out HM.out.2 (by have:=HBS.out.2;omega) (Nat.le_of_lt HG.out) hk)
    have HALL2:=jq (show ∀ r,Trim d (cur.set k (cur.getD k 0 - 1)) r→qxj c (T:Int) r from fun r hr=>HALL.out r (.more d k cur r hk hr))
    rw[hyd] at HNEXT HALL2
    obtain⟨y,hy⟩:∃ y,y=cur[k]'hkS:=⟨_,rfl⟩
    rw[←hy] at hgc hy0 hy1 HNEXT HALL2
    have hkni:(k:Int)<(n:Int):=by omega
    have hyT:y≤536870912:=by omega
    clear hk hyd hy hkS hnn hy1
    go_wp2
    refine wp_region_still_tail 9 (by kernel_rfl) (by kernel_rfl) ?_
    simp only[List.take_succ_cons,List.take_zero,List.drop_succ_cons,List.drop_zero]
    iterate 4 still_step
    still_call (CG.out wr.drew rfl)
    repeat still_step
    refine wpStill_nil ?_
    change wpList _ _ _ _ _ wr.drew
    clear d1 CG
    go_wp2
    go_roundw
    case rel=>exact⟨d,cur.set k (y - 1),by go_num,by omega,HNEXT.out,HALL2.out⟩
    case measure=>simp[intOf];omega
end
def sBad (x:Int):Bool:=decide (x<0)
theorem sBad_not {c:List Int} (h:c.any sBad=false):∀ x∈c,0≤x:=by
 intro x hx
 have:=List.any_eq_false.1 h x hx
 simp[sBad] at this
 exact this
section
variable {w:World} {B:Nat} {A:Option Addr} {n m:Nat} {c:List Int}
theorem slotWrong_any (x:Int) (w:World):Calls prog 130 #[.int .i64 x] w fun e w'=>e=.returned (.bool (sBad x))∧w'=w:=by
 unfold sBad
 go_enter func130,ntmps130
 go_wp2
 go_ret
 exact⟨rfl,rfl⟩
theorem slotBad_any (hr:Rd w B A (zvs c)) (hn:c.length=n) (hn1:n≤4096) :
  Calls prog 120 #[.slice A n m,.func (.func 130) #[] #[]] w fun e w'=>e=.returned (.bool (c.any sBad))∧w'=w :=
 jww 130 sBad (enters_of func130 (by kernel_rfl) rfl) (fun x W=>slotWrong_any x W) hr hn hn1
theorem slotFill_any (T:Nat) (hT:T≤65536) (hr:Rd w B A (zvs c)) (hn:c.length=n) (hn1:n≤4096) (hnn:∀ x∈c,0≤x) (o:Bool) (ho:o=true↔c.sum=(T:Int)) :
  Calls prog 131 #[.slice A n m,.int .i64 (T:Int)] w fun e w'=>e=.returned (.bool o)∧w'=w:=by
 have HR:=jq hr
 have HC:=jq hn
 have HN:=jq hnn
 have HO:=jq ho
 clear hr hn hnn ho
 go_enter func131,ntmps131
 go_wp2
 go_loop [1,9] (fun s i=>∃ (k:Nat) (z:Int),k≤n∧i=.int .i64 (k:Int)∧s=.int .i64 z∧0≤z∧z≤(T:Int)∧z=(T:Int) - fPre c k) (fun _ i=>n - (intOf i).toNat)
 case atStart=>exact⟨0,T,Nat.zero_le _,rfl,rfl,by omega,Int.le_refl _,by rw[jyz,Int.sub_zero]⟩
 case round =>
  obtain⟨k,z,hk,rfl,rfl,hz0,hz1,hz⟩:=hrel
  have HZ:=jq hz
  clear hz
  by_cases hlt:k<n
  ·have hkc:k<c.length:=by have:=HC.out;omega
   obtain⟨b,off,rfl,-,hcell⟩:=jjn HR.out hkc
   have hs:=jqm c k hkc
   have g1:=jwp HN.out (k+1)
   have g2:=HN.out _ (List.getElem_mem hkc)
   obtain⟨x,hx⟩:∃ x,x=c[k]'hkc:=⟨_,rfl⟩
   rw[←hx] at hcell hs g2
   have hki:(k:Int)<(n:Int):=by omega
   by_cases hg:z<x
   ·have hof:o=false:=by
     cases o with
     | false=>rfl
     | true=>have:=HO.out.1 rfl;have:=HZ.out;omega
    subst hof
    clear hs g1 hx
    go_wp2
    go_ret
    exact⟨rfl,rfl⟩
   ·have HZ2:=jq (show z - x=(T:Int) - fPre c (k+1) by have:=HZ.out;omega)
    clear hs g1 hx
    go_wp2
    go_round
    case rel=>exact⟨k+1,z - x,by omega,by go_num,rfl,by omega,by omega,HZ2.out⟩
    case measure=>simp[intOf];omega
  ·obtain rfl:k=n:=by omega
   have h:=HZ.out
   rw[jqk c (by have:=HC.out;omega)] at h
   have ho2:(z==0)=o:=by
    cases o with
    | true=>have:=HO.out.1 rfl;rw[beq_iff_eq];omega
    | false =>
     rw[beq_eq_false_iff_ne]
     intro e
     have:=HO.out.2 (by omega)
     cases this
   clear h HZ
   go_wp2
   go_ret
   exact⟨rfl,rfl⟩
end
end
section
open Go.RowKit Go.Sort
theorem qzg:(prog.info? 5).map (fun i=>(i.zero,i.size,i.bytes))=some (some (.int .u8 0),1,1):=by kernel_rfl
def u8s (o:List Nat):List UInt8:=o.map UInt8.ofNat
theorem jqz (o:List Nat):(u8s o).length=o.length:=by simp[u8s]
theorem bvs_u8s (o:List Nat) {c:Nat} (h:c<256):bvs (u8s (o++[c]))=bvs (u8s o)++[Value.int .u8 (c:Int)]:=by
 have h2:(UInt8.ofNat c).toNat=c:=by simp[UInt8.toNat_ofNat'];omega
 simp[u8s,bvs,h2]
def nvs (B:List Nat):List Value:=B.map fun (b:Nat)=>Value.int .u8 (b:Int)
theorem nvs_length (B:List Nat):(nvs B).length=B.length:=by simp[nvs]
theorem nvs_bvs (l:List UInt8):nvs (l.map UInt8.toNat)=bvs l:=by simp[nvs,bvs]
theorem nvs_drop (B:List Nat) (k:Nat):(nvs B).drop k=nvs (B.drop k):=by simp[nvs]
end
section
open Go.RowKit Go.Sort Go.Lib
abbrev encB:Int→Value:=fun x=>Value.int .u8 x
theorem rev_arr (blk cap:Nat) (d:Array Int) (w:World) (hH:Holds encB w blk 0 d) (hsz:d.size≤1000000) :
  Calls prog 135 #[.slice (some ⟨blk,0,none⟩) d.size cap] w fun e w'=>e=.returned (.tuple #[])∧∃ n,w'=putRow encB (Sort.ahead w n) blk 0 d.reverse:=by
 go_enter func135,ntmps135
 go_wp2
 go_loopg [2,3] d.size (fun k s2 s3 wr=>∃ (i jn:Nat) (jz:Int) (dk:Array Int) (n:Nat),s2=.int .i64 i∧s3=.int .i64 jz∧((i:Int)<jz→jz=jn∧jn<d.size)∧(¬ (i:Int)<jz→¬ i<jn)∧jn - i≤k ∧
  dk.size=d.size∧wr=putRow encB (Sort.ahead w n) blk 0 dk∧reverseLoop i jn dk=reverseLoop 0 (d.size - 1) d)
 case atStart=>exact⟨0,d.size - 1,(d.size:Int) - 1,d,0,rfl,rfl,fun h=>⟨by omega,by omega⟩,fun h=>by omega,by omega,rfl,(putRow_self encB w blk 0 d hH).symm,rfl⟩
 case round =>
  obtain⟨i,jn,jz,dk,n,rfl,rfl,h1,h2,hk,hds,hwr,heq⟩:=hrel
  by_cases hlt:(i:Int)<jz
  ·obtain⟨rfl,hjn⟩:=h1 hlt
   have hij:i<jn:=by omega
   have hHk:Holds encB wr blk 0 dk:=by rw[hwr];exact holds_putRow encB _ blk 0 d dk (holds_ahead encB w n blk 0 d hH) hds
   obtain⟨ci,fi⟩:=hHk i (by omega)
   obtain⟨cj,fj⟩:=hHk jn (by omega)
   rw[Nat.zero_add] at ci fi cj fj
   have hii:(i:Int)<(d.size:Int):=by omega
   have hjj:(jn:Int)<(d.size:Int):=by omega
   have A:=jq hwr
   have HEQ:=jq heq
   have HDS:=jq hds
   have hne:i≠jn:=by omega
   clear hwr hHk hH h1 h2 heq hds
   go_wp2
   go_region
   all_goals go_wp2
   all_goals go_roundg (jn - 1 - (i+1))
   case measure=>omega
   case rel =>
    have heq:=HEQ.out
    rw[reverseLoop,if_pos hij] at heq
    have hsw:=swap_world encB (blk:=blk) (off:=0) (show i<dk.size by have:=HDS.out;omega) (show jn<dk.size by have:=HDS.out;omega) A.out (x:=encB dk[jn]!) (y:=encB dk[i]!) rfl rfl
    rw[Nat.zero_add,Nat.zero_add] at hsw
    exact⟨i+1,jn - 1,(jn:Int) - 1,swp dk i jn,n+1,by simp,rfl,fun h=>⟨by omega,by omega⟩,fun h=>by omega,Nat.le_refl _,by rw[size_swp];exact HDS.out,hsw,heq⟩
  ·have hnot:=h2 hlt
   go_wp2
   refine bodyPost_end (results_none rfl _ _ _) rfl ?_
   refine⟨rfl,n,?_⟩
   rw[reverseLoop,if_neg hnot] at heq
   rw[←Lib.reverseLoop_reverse,←heq]
theorem bvs_enc (l:List UInt8):bvs l=(l.map fun b=>(b.toNat:Int)).map encB:=by simp[bvs,encB]
theorem rev_own {w:World} {B cap:Nat} {A:Option Addr} {l:List UInt8} (h:w.ownsRow B 5 1 (.slice A l.length cap) l.length (bvs l)) (hl:l.length≤1000000) (hne:l≠[]) :
  Calls prog 135 #[.slice A l.length cap] w fun e w'=>e=.returned (.tuple #[])∧w'.ownsRow B 5 1 (.slice A l.length cap) l.length (bvs l.reverse)∧Below B w w'∧jjj B [5] w w':=by
 have h0:=h
 rw[bvs_enc] at h
 obtain⟨g,c2,hv,hg,hgl,hn,hc,hlen,hH⟩:=holds_of_ownsRow h (fun e=>by
  injection e with _ e2 _
  exact hne (List.length_eq_zero_iff.1 e2))
 injection hv with e1 _ e3
 subst e1 e3
 have hs:((l.map fun b=>(b.toNat:Int)).toArray).size=l.length:=by simp
 have hC:=rev_arr g cap (l.map fun b=>(b.toNat:Int)).toArray w hH (by rw[hs];exact hl)
 rw[hs] at hC
 refine hC.mono ?_
 rintro e w' ⟨rfl,n,rfl⟩
 have hrev:(l.map fun b=>(b.toNat:Int)).toArray.reverse=(l.reverse.map fun b=>(b.toNat:Int)).toArray:=by simp
 rw[hrev]
 have hown:=ownsRow_putRow (q:=n) (k:=l.length) (ys:=l.reverse.map fun b=>(b.toNat:Int)) h (by simp) jw
 rw[List.take_of_length_le (by simp),←bvs_enc] at hown
 have hb:=below_putRow (enc:=encB) (q:=n) (d:=(l.reverse.map fun b=>(b.toNat:Int)).toArray) (Below.refl B w) hg
 refine⟨rfl,hown,hb,⟨hb.os,hb.tape,hb.output,hb.size,fun k hk hkt=>?_⟩⟩
 have hty:=(jzc h0 g rfl).2
 have hgk:g≠k:=fun e=>by
  subst e
  rcases hkt with h1 | h1
  ·omega
  ·exact h1 _ (by simp) hty
 simp[putRow,mapBlock,Sort.ahead,Array.getElem?_modify,hgk]
end
section
open Go.RowKit Go.Sort Go.Shelf
def hRow (c:List Int) (k j T:Nat):List Nat:=sRow c k++List.replicate j k++List.replicate (T - (sRow c k).length - j) 0
theorem hRow_len {c:List Int} {k j T:Nat} (h:(sRow c k).length+j≤T):(hRow c k j T).length=T:=by simp[hRow];omega
theorem hRow_zero (c:List Int) (T:Nat):hRow c 0 0 T=List.replicate T 0:=by simp[hRow,sRow]
theorem hRow_set {c:List Int} {k j T:Nat} (h:(sRow c k).length+j<T):(hRow c k j T).set ((sRow c k).length+j) k=hRow c k (j+1) T:=by
 unfold hRow
 have e:T - (sRow c k).length - j=(T - (sRow c k).length - (j+1))+1:=by omega
 have hl:(sRow c k++List.replicate j k).length=(sRow c k).length+j:=by simp
 rw[List.set_append_right _ _ (by rw[hl];exact Nat.le_refl _),hl,Nat.sub_self,e,List.replicate_succ,List.set_cons_zero,List.replicate_succ']
 simp
theorem hRow_next (c:List Int) (k T:Nat):hRow c k (c.getD k 0).toNat T=hRow c (k+1) 0 T:=by
 unfold hRow
 simp only[sRow,List.length_append,List.length_replicate,List.replicate_zero,List.append_nil,Nat.sub_zero]
 congr 2
 omega
theorem hRow_all {c:List Int} {k T:Nat} (h:(sRow c k).length=T):hRow c k 0 T=sRow c k:=by simp[hRow,h]
def fRow2 (c:List Int) (k:Nat):List Int:=(List.range (c.length+1)).map fun j=>if j≤k then fPre c j else 0
theorem qvx (c:List Int) (k:Nat):(fRow2 c k).length=c.length+1:=by simp[fRow2]
theorem fRow2_zero (c:List Int):fRow2 c 0=List.replicate (c.length+1) 0:=by
 refine List.eq_replicate_iff.2 ⟨qvx c 0,fun x hx=>?_⟩
 obtain⟨j,-,rfl⟩:=List.mem_map.1 hx
 by_cases h:j≤0
 ·rw[if_pos h,show j=0 by omega,jyz]
 ·rw[if_neg h]
theorem jdy (c:List Int) (k j:Nat) (h:j<c.length+1):(fRow2 c k)[j]?=some (if j≤k then fPre c j else 0):=by
 unfold fRow2
 rw[List.getElem?_map,List.getElem?_range h]
 rfl
theorem fRow2_set (c:List Int) (k:Nat):(fRow2 c k).set (k+1) (fPre c (k+1))=fRow2 c (k+1):=by
 refine List.ext_getElem? fun j=>?_
 by_cases hj:j<c.length+1
 ·rw[jdy c (k+1) j hj]
  by_cases e:k+1=j
  ·subst e
   rw[List.getElem?_set_self (by rw[qvx];exact hj),if_pos jw]
  ·rw[List.getElem?_set_ne e,jdy c k j hj]
   by_cases h1:j≤k
   ·rw[if_pos h1,if_pos (by omega)]
   ·rw[if_neg h1,if_neg (by omega)]
 ·rw[List.getElem?_eq_none (by rw[List.length_set,qvx];omega),List.getElem?_eq_none (by rw[qvx];omega)]
structure qwb (w:World) (P F H:Nat) (c:List Int) (k b T:Nat):Prop where
 pb:Blk w P 178 [.slice (some ⟨F,0,none⟩) (c.length+1:Nat) (c.length+1),.slice (some ⟨H,0,none⟩) T T,.int .i64 (b:Int)]
 fb:Blk w F 3 (zvs (fRow2 c k))
 hb:Blk w H 162 (hvs (hRow c k 0 T))
theorem blk_types {w:World} {g g':Nat} {t t':TypeId} {cs cs':List Value} (h:Blk w g t cs) (h':Blk w g' t' cs') (hne:t≠t'):g≠g':=fun e=>by
 subst e
 exact h.ofType.ne hne h'.ofType
theorem qwb.grow {w w':World} {P F H:Nat} {c:List Int} {k b T:Nat} (h:qwb w P F H c k b T) (hb:Below w.heap.size w w'):qwb w' P F H c k b T:=⟨h.pb.grow hb,h.fb.grow hb,h.hb.grow hb⟩
section
variable {w:World} {P F H b T:Nat} {c:List Int}
theorem slotGive_any (k:Nat) (h:qwb w P F H c k b T) (hc:∀ x∈c,0≤x) (hs:c.sum=(T:Int)) (hT:T≤65536) (hl:c.length≤4096) (hk:k<c.length) :
  Calls prog 132 #[.pointer (some ⟨P,0,none⟩),.int .i64 (k:Int),.int .i64 (c[k]'hk)] w fun e w'=>(∃ u,e=.returned u)∧qwb w' P F H c (k+1) b T∧jjq F H w w':=by
 have hPF:=blk_types h.pb h.fb (by decide)
 have hPH:=blk_types h.pb h.hb (by decide)
 have hFH:=blk_types h.fb h.hb (by decide)
 have hx0:=hc _ (List.getElem_mem hk)
 have hsl:=sRow_len hc k (by omega)
 have hsn:=jqm c k hk
 have hle:=jwp hc (k+1)
 rw[hs] at hle
 have hnx:=hRow_next c k T
 rw[show c.getD k 0=c[k] by simp[List.getD_eq_getElem?_getD,hk]] at hnx
 obtain⟨x,hx⟩:=Int.eq_ofNat_of_zero_le hx0
 rw[hx] at hsn hnx ⊢
 rw[Int.toNat_natCast] at hnx
 have HSET:=jq (fun (j:Nat) (h:(sRow c k).length+j<T)=>hRow_set h)
 have HLEN:=jq (fun (j:Nat) (h:(sRow c k).length+j≤T)=>hRow_len h)
 obtain⟨p,hp⟩:∃ p,p=(sRow c k).length:=⟨_,rfl⟩
 rw[←hp] at hsl HSET HLEN
 rw[←hsl] at hsn
 have hpx:p+x≤T:=by omega
 have hfs:=fRow2_set c k
 rw[hsn] at hfs
 have HFS:=jq hfs
 have HNX:=jq hnx
 have HSH:=jq h
 have c0:=h.pb.cell 0
 have c1:=h.pb.cell 1
 simp only[jy,jx] at c0 c1
 have f0:=h.fb.cell k
 rw[jql,jdy c k k (by omega),if_pos jw,←hsl] at f0
 simp only[Option.map_some] at f0
 obtain⟨n,hn⟩:∃ n,n=c.length:=⟨_,rfl⟩
 rw[←hn] at c0 hl
 have hkn:(k:Int)<(n:Int)+1:=by omega
 have hkn2:(k:Int)+1<(n:Int)+1:=by omega
 have HN:=jq hn
 clear h hfs hnx hsl hsn hle hx hx0 hp hs
 go_enter func132,ntmps132
 go_wp2
 clear c0 c1 f0
 go_loopw [16] (fun i wr=>∃ j:Nat,j≤x∧i=.int .i64 (j:Int)∧Blk wr H 162 (hvs (hRow c k j T))∧jjq F H w wr∧(wr.heap[F]?=w.heap[F]?)) (fun i _=>x - (intOf i).toNat)
 case atStart=>exact⟨0,Nat.zero_le _,rfl,HSH.out.hb,jjq.refl _ _ _,rfl⟩
 case round =>
  obtain⟨j,hj,rfl,hblk,hu,hF⟩:=hrel
  have HU:=jq hu
  have HF:=jq hF
  have hpb:=HU.out.blk HSH.out.pb hPF hPH
  have c0:=hpb.cell 0
  have c1:=hpb.cell 1
  simp only[jy,jx] at c0 c1
  rw[←HN.out] at c0
  clear hu hF hpb
  by_cases hlt:j<x
  ·have hlen:=HLEN.out j (by omega)
   have hset:=hblk.set_ (p+j) (.int .u16 (k:Int))
   rw[hvs_set,HSET.out j (by omega)] at hset
   have hgc:=hblk.cell (p+j)
   have hgf:=hblk.frozen (p+j)
   rw[hvs_get _ _ (by rw[hlen];omega)] at hgc
   obtain⟨y,hy⟩:∃ y,y=(hRow c k j T)[p+j]'(by rw[hlen];omega):=⟨_,rfl⟩
   rw[←hy] at hgc
   have HST:=jq hset
   have HU2:=jq (HU.out.trans (jjq.set_ (p+j) (.int .u16 (k:Int))))
   have HF2:=jq (show (wr.setCell ⟨H,p+j,none⟩ (.int .u16 (k:Int))).heap[F]?=w.heap[F]? from (heap_setCell_other wr ⟨H,p+j,none⟩ F _ hFH).trans HF.out)
   have hji:(j:Int)<(x:Int):=by omega
   have hpj:(p:Int)+(j:Int)<(T:Int):=by omega
   clear hset hblk hlen hy
   go_wp2
   go_roundw
   case rel=>exact⟨j+1,by omega,by go_num,HST.out,HU2.out,HF2.out⟩
   case measure=>simp[intOf];omega
  ·obtain rfl:j=x:=by omega
   rw[HNX.out] at hblk
   have hfb:Blk wr F 3 (zvs (fRow2 c k)):=HF.out.trans HSH.out.fb
   have hset:=hfb.set_ (k+1) (.int .i64 ((p:Int)+(j:Int)))
   rw[jms,HFS.out] at hset
   have hgc:=hfb.cell (k+1)
   have hgf:=hfb.frozen (k+1)
   rw[jql,jdy c k (k+1) (by have:=HN.out;omega)] at hgc
   simp only[Option.map_some] at hgc
   have HRES:=jq (show qwb (wr.setCell ⟨F,k+1,none⟩ (.int .i64 ((p:Int)+(j:Int)))) P F H c (k+1) b T from
    ⟨(HU.out.blk HSH.out.pb hPF hPH).setOther _ _ hPF,hset,hblk.setOther _ _ (fun e=>hFH e.symm)⟩)
   have HU2:=jq (HU.out.trans (jjq.setT (k+1) (.int .i64 ((p:Int)+(j:Int)))))
   clear hset hblk hfb
   go_wp2
   go_end0
   exact⟨⟨_,rfl⟩,HRES.out,HU2.out⟩
end
end
end Go.Proofs.YtflcmmeoppdhdaaGreatDoor
