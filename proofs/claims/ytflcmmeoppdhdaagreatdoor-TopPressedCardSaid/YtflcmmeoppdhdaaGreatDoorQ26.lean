/- Layer 21: letters in order: what the library's sort leaves. · Layer 21: the program's Make. · Layer 21: who has a code; the fixed calls. · Layer 21: of bits: whose code is ahead. -/
import Derived.Test.YtflcmmeoppdhdaaGreatDoorQ05
import Derived.Test.YtflcmmeoppdhdaaGreatDoorQ23
set_option maxHeartbeats 4000000
set_option maxRecDepth 100000
namespace Go.Proofs.YtflcmmeoppdhdaaGreatDoor
open Tryz
section
open Go.RowKit Go.Sort Go.Shelf
theorem cfL_lt (l:List Int) (i j:Nat):cfL l i j<0↔(l.getD i 0<l.getD j 0∨(l.getD i 0=l.getD j 0∧i<j)):=by
 unfold cfL orN cmpN
 obtain⟨x,hx⟩:∃ x,x=l.getD i 0:=⟨_,rfl⟩
 obtain⟨y,hy⟩:∃ y,y=l.getD j 0:=⟨_,rfl⟩
 rw[←hx,←hy]
 by_cases h1:x<y
 ·simp[h1]
 ·by_cases h2:y<x
  ·simp[h1,h2];omega
  ·by_cases h3:i<j
   ·have:(i:Int)<j:=by omega
    simp[h1,h2,this];omega
   ·by_cases h4:j<i
    ·have h5:(j:Int)<i:=by omega
     have h6:¬ (i:Int)<j:=by omega
     simp[h1,h2,h5,h6];omega
    ·have h5:¬ (j:Int)<i:=by omega
     have h6:¬ (i:Int)<j:=by omega
     simp[h1,h2,h5,h6];omega
def encM (n:Nat) (i:Nat):Value:=.int .i64 ((i%n:Nat):Int)
def cfM (l:List Int) (n i j:Nat):Int:=cfL l (i%n) (j%n)
theorem cfM_swo (l:List Int) (n:Nat):SWO (ltOf (cfM l n)) where
 irrefl x:=by unfold ltOf cfM;rw[decide_eq_false_iff_not,cfL_lt];omega
 trans x y z h1 h2:=by unfold ltOf cfM at *;rw[decide_eq_true_eq,cfL_lt] at *;omega
 ntrans x y z h1 h2:=by unfold ltOf cfM at *;rw[decide_eq_false_iff_not,cfL_lt] at *;omega
section
variable {w:World} {blk off m:Nat} {enc:Nat→Value} {d:Array Nat} {os:Array Obj}
theorem sort_other {j:Nat} (hj:j<w.heap.size) (hne:j≠blk):(sortWorld enc w blk off m d os).heap[j]?=w.heap[j]?:=by
 unfold sortWorld grow putRow mapBlock
 simp only
 rw[Array.getElem?_append_left (by simpa [Sort.ahead] using hj),Array.getElem?_modify,if_neg (fun e=>hne e.symm)]
 rfl
theorem sort_below (hb:blk<w.heap.size):Below blk w (sortWorld enc w blk off m d os) :=
 ⟨rfl,rfl,rfl,by simp[sortWorld,grow,putRow,mapBlock,Sort.ahead],fun k hk=>sort_other (by omega) (by omega)⟩
end
theorem ord_sorted {l:List Int} {n:Nat} {d d':Array Nat} (hn:l.length=n) (hl:∀ x∈l,0≤x) (hd:d.toList=qjm (natL l)) (hp:PermIn 0 d.size d d') (hs:SortedIn (ltOf (cfM l n)) 0 d.size d'):OrdL (natL l) d'.toList:=by
 have hperm:d'.toList.Perm d.toList:=by
  have h:=hp.2.2
  have e1:d'.extract 0 d.size=d':=by rw[←hp.1];simp
  have e2:d.extract 0 d.size=d:=by simp
  rwa [e1,e2] at h
 rw[hd] at hperm
 have hmem:∀ i∈d'.toList,i<n:=fun i hi=>by
  have:=(qvg.1 (hperm.mem_iff.1 hi)).1
  rw[jxq] at this;omega
 have hnod:d'.toList.Nodup:=hperm.nodup_iff.2 (hereL_nodup _)
 refine⟨hperm,List.pairwise_iff_getElem.2 fun i j hi hj hij=>?_⟩
 have hsz:d'.toList.length=d.size:=by rw[Array.length_toList,hp.1]
 have h1:=hs i j (Nat.zero_le _) hij (by omega)
 have e1:d'[i]! = d'.toList[i]:=by rw[getElem!_pos d' i (by simpa using hi)];simp
 have e2:d'[j]! = d'.toList[j]:=by rw[getElem!_pos d' j (by simpa using hj)];simp
 rw[e1,e2] at h1
 have m1:=hmem _ (List.getElem_mem hi)
 have m2:=hmem _ (List.getElem_mem hj)
 have hne:d'.toList[i]≠d'.toList[j]:=List.pairwise_iff_getElem.1 hnod i j hi hj hij
 obtain⟨a,ha⟩:∃ a,a=d'.toList[i]:=⟨_,rfl⟩
 obtain⟨b,hb⟩:∃ b,b=d'.toList[j]:=⟨_,rfl⟩
 rw[←ha,←hb] at h1 hne
 rw[←ha] at m1 ⊢
 rw[←hb] at m2 ⊢
 unfold ltOf cfM at h1
 rw[decide_eq_false_iff_not,cfL_lt,Nat.mod_eq_of_lt m1,Nat.mod_eq_of_lt m2] at h1
 unfold lexB
 rw[decide_eq_true_eq,jgm l (by omega),jgm l (by omega)]
 have e3:l.getD a 0=l[a]'(by omega):=by simp[List.getD_eq_getElem?_getD,show a<l.length by omega]
 have e4:l.getD b 0=l[b]'(by omega):=by simp[List.getD_eq_getElem?_getD,show b<l.length by omega]
 rw[e3,e4] at h1
 have p1:=hl _ (List.getElem_mem (show a<l.length by omega))
 have p2:=hl _ (List.getElem_mem (show b<l.length by omega))
 omega
def intS (S:List Nat):List Int:=S.map fun (x:Nat)=>(x:Int)
theorem here_step (l:List Nat) (k:Nat):((List.range (k+1)).filter fun i=>decide (0<l.getD i 0))=((List.range k).filter fun i=>decide (0<l.getD i 0))++if 0<l.getD k 0 then [k] else []:=by
 rw[List.range_succ,List.filter_append]
 congr 1
 by_cases h:0<l.getD k 0
 ·rw[if_pos h,List.filter_cons_of_pos (by exact decide_eq_true h),List.filter_nil]
 ·rw[if_neg h,List.filter_cons_of_neg (by rw[decide_eq_false h];decide),List.filter_nil]
section
variable {w:World} {A:Option Addr} {n m:Nat} {l:List Int}
theorem sort_call {g c:Nat} {d:Array Nat} {E:Nat} {B:Nat} (hn:l.length=n) (hn0:0<n) (hb:w.cell? ⟨E,0,none⟩=some (.slice A n m)) (hr:Rd w B A (zvs l)) (hB:B≤g) (hE:E<g) (hg:g<w.heap.size) (hsz:d.size≤4096)
  (hH:Holds (encM n) w g 0 d) :
  Calls prog 210 #[.slice (some ⟨g,0,none⟩) d.size c,.func (.func 211) #[] #[.pointer (some ⟨E,0,none⟩)]] w fun e w' =>
   e=.returned (.tuple #[])∧∃ d' q os,PermIn 0 d.size d d'∧SortedIn (ltOf (cfM l n)) 0 d.size d'∧w'=sortWorld (encM n) w g 0 q d' os:=by
 have eg:∀ args w,(callFunc 211 args).run prog w=.ok (.enter 211 args) w:=enters_of func211 (by kernel_rfl) rfl
 have hcmp:CmpLays1 prog 211 #[.pointer (some ⟨E,0,none⟩)] (encM n) (cfM l n) g 0 d.size w:=fun q os dk _ x y=>by
  have hbl:=sort_below (enc:=encM n) (off:=0) (m:=q) (d:=dk) (os:=os) hg
  have hb2:=(hbl.cell (p:=⟨E,0,none⟩) hE).trans hb
  have hr2:=hr.below (hbl.mono hB)
  exact inOrder_cmp hb2 hr2 hn (x%n) (y%n) (Nat.mod_lt _ hn0) (Nat.mod_lt _ hn0)
 have hcon:=Any.slices_SortFunc sortI (encM n) (fun _=>rfl) (cfM l n) (cfM_swo l n) 211 #[.pointer (some ⟨E,0,none⟩)] g 0 c d w eg hcmp hH hg (by omega)
 exact hcon
theorem holds_own {B g c N:Nat} {d:Array Nat} (ho:w.ownsRow B 3 1 (.slice (some ⟨g,0,none⟩) N c) N (zvs (intS d.toList))) (hlt:∀ x∈d.toList,x<n):Holds (encM n) w g 0 d:=fun j hj=>by
 have hj2:j<d.toList.length:=by rw[Array.length_toList];exact hj
 have h1:=own_at ho (zvs_getC (intS d.toList) (k:=j) (x:=(d.toList[j]:Nat)) (by unfold intS;rw[List.getElem?_map,List.getElem?_eq_getElem hj2];rfl))
 have h2:=ho.frozenAt j
 have e:d[j]! = d.toList[j]:=by rw[getElem!_pos d j hj];simp
 rw[Nat.zero_add,e]
 unfold encM
 rw[Nat.mod_eq_of_lt (hlt _ (List.getElem_mem hj2))]
 exact⟨h1,h2⟩
theorem rd_holds {g:Nat} {d:Array Nat} (h:Holds (encM n) w g 0 d) (hlt:∀ x∈d.toList,x<n) (hg:g<w.heap.size):Rd w w.heap.size (some ⟨g,0,none⟩) (zvs (intS d.toList)):=fun j u hu=>by
 have hj2:j<d.toList.length:=by
  have:=(List.getElem?_eq_some_iff.1 hu).1
  simpa [zvs,intS] using this
 have hj:j<d.size:=by rw[←Array.length_toList];exact hj2
 have h1:=(h j hj).1
 have e:d[j]! = d.toList[j]:=by rw[getElem!_pos d j hj];simp
 rw[e] at h1
 unfold encM at h1
 rw[Nat.mod_eq_of_lt (hlt _ (List.getElem_mem hj2))] at h1
 have h2:=zvs_getC (intS d.toList) (k:=j) (x:=(d.toList[j]:Nat)) (by unfold intS;rw[List.getElem?_map,List.getElem?_eq_getElem hj2];rfl)
 rw[h2] at hu
 injection hu with hu
 subst hu
 exact⟨g,0,rfl,hg,h1⟩
theorem inOrder_any (hr:Rd w w.heap.size A (zvs l)) (hn:l.length=n) (hn1:n≤4096) (hl:∀ x∈l,0≤x) (hne:qjm (natL l)≠[]) :
  Calls prog 167 #[.slice A n m] w fun e w'=>∃ (G:Nat) (S:List Nat) (k c:Nat),e=.returned (.slice (some ⟨G,0,none⟩) k c)∧OrdL (natL l) S∧S.length=k∧Rd w' w'.heap.size (some ⟨G,0,none⟩) (zvs (intS S))∧Below w.heap.size w w'∧w.heap.size≤G:=by
 obtain⟨i1,hi1,hy0,hy1,hy2⟩:=info_parts jwk
 have hn0:0<n:=by
  rcases Nat.eq_zero_or_pos n with h | h
  ·exfalso;apply hne
   have:natL l=[]:=List.eq_nil_of_length_eq_zero (by rw[jxq,hn,h])
   rw[this];rfl
  ·exact h
 obtain⟨W1,hW1⟩:∃ W,W=w.alloc (.cells #[.slice A n m] 35):=⟨_,rfl⟩
 have hbW:Below w.heap.size w W1:=by rw[hW1];exact (Below.refl _ _).alloc jw _
 have hszW:W1.heap.size=w.heap.size+1:=by rw[hW1];simp
 have hbox:W1.cell? ⟨w.heap.size,0,none⟩=some (.slice A n m):=by
  rw[hW1];exact new_cell w [.slice A n m] 35 (k:=0) rfl
 have HR:=jq (And.intro hr (And.intro hn (And.intro hl (And.intro hne hbW))))
 have HS:=jq (And.intro hszW hbox)
 clear hr hn hl hne
 go_enter func167,ntmps167
 go_wp2_with fail
 rw[←hW1]
 go_loopw [3,8] (fun v i wr=>∃ k:Nat,k≤n∧i=.int .i64 (k:Int)∧wr.ownsRow (w.heap.size+1) 3 1 v (((List.range k).filter fun i=>decide (0<(natL l).getD i 0)).length) (zvs (intS ((List.range k).filter fun i=>decide (0<(natL l).getD i 0))))∧Below (w.heap.size+1) W1 wr) (fun _ i _=>n - (intOf i).toNat)
 case atStart=>exact⟨0,Nat.zero_le _,rfl,World.ownsRow_nil _ _ _ _,Below.refl _ _⟩
 case round =>
  obtain⟨k,hk,rfl,hown,hb⟩:=hrel
  have hbs:=hb.size
  have HB:=jq hb
  have HOWN:=jq hown
  by_cases hlt:k<n
  ·have hkc:k<l.length:=by have:=HR.out.2.1;omega
   obtain⟨b,off,rfl,-,hcell⟩:=jjn ((HR.out.1.below HR.out.2.2.2.2).below (hb.mono (Nat.le_succ _))) hkc
   have hki:(k:Int)<(n:Int):=by omega
   have hst:=here_step (natL l) k
   rw[jgm l hkc] at hst
   have hx0:=HR.out.2.2.1 _ (List.getElem_mem hkc)
   obtain⟨x,hxx⟩:∃ x,x=l[k]'hkc:=⟨_,rfl⟩
   rw[←hxx] at hcell hst hx0
   obtain⟨H,hH⟩:∃ H,H=((List.range k).filter fun i=>decide (0<(natL l).getD i 0)):=⟨_,rfl⟩
   rw[←hH] at hst HOWN hown
   have hHk:H.length≤k:=by rw[hH];exact Nat.le_trans (List.length_filter_le _ _) (by simp)
   obtain⟨N,hN⟩:∃ N,N=H.length:=⟨_,rfl⟩
   rw[←hN] at HOWN hown hHk
   obtain⟨Av,cv,rfl,-,-,-⟩:=jjk hown
   have HN:=jq hN
   clear hown hb hxx hH hN
   by_cases h0:0<x
   ·rw[if_pos (by omega)] at hst
    have HST:=jq hst
    clear hst
    go_wp2_with ((with_reducible show wpList _ _ _ (({ dst:=some 18,op:=_,type:=_,pos:=_,after:=_,guard:=_ }:Oper)::_) _ _);go_must (refine jjd rfl (.tmp 15) (.tmp 17) 35 rfl (w.heap.size+1) 3 i1 (.int .i64 0) 1 8 underlying35 hi1 hy0 hy1 hy2 rfl (by decide) _ _ _ rfl (HOWN.out.alloc _) _ _ 1 1 _ rfl (Rd.new _ _ _) rfl (by intro u hu;simp at hu;subst hu;rfl) (by simp only[maxLen];omega) (by omega) (by simp;have:=HS.out.1;omega) ?_;intro v1 w2 hown1 hg1;have hb1:Below (w.heap.size+1) W1 w2:=(HB.out.alloc (by have:=HS.out.1;omega) _).grown hg1 (by simp;omega) (jjb HOWN.out);have HO1:=jq (And.intro hown1 hb1);clear hg1 hown1 hb1))
    go_roundw
    case rel=>exact⟨k+1,by omega,by go_num,by rw[HST.out,List.length_append,←HN.out];simpa [zvs,intS] using HO1.out.1,HO1.out.2⟩
    case measure=>simp[intOf];omega
   ·rw[if_neg (by omega),List.append_nil] at hst
    have HST:=jq hst
    clear hst
    go_wp2
    go_roundw
    case rel=>exact⟨k+1,by omega,by go_num,by rw[HST.out,←HN.out];exact HOWN.out,HB.out⟩
    case measure=>simp[intOf];omega
  ·obtain rfl:k=n:=by omega
   have hHe:((List.range k).filter fun i=>decide (0<(natL l).getD i 0))=qjm (natL l):=by unfold qjm;rw[jxq,HR.out.2.1]
   rw[hHe] at hown
   have hlt:∀ x∈qjm (natL l),x<k:=fun x hx=>by
    have:=(qvg.1 hx).1
    rw[jxq,HR.out.2.1] at this;exact this
   have hK4:(qjm (natL l)).length≤k:=by
    unfold qjm;rw[jxq,HR.out.2.1];exact Nat.le_trans (List.length_filter_le _ _) (by simp)
   have hK0:(qjm (natL l)).length≠0:=fun e=>HR.out.2.2.2.1 (List.eq_nil_of_length_eq_zero e)
   obtain⟨Av,cv,rfl,-,-,hform⟩:=jjk hown
   obtain⟨g,rfl,hgB,hgl⟩:∃ g,Av=some ⟨g,0,none⟩∧w.heap.size+1≤g∧g<wr.heap.size:=by
    rcases hform with h | h
    ·exact absurd h hK0
    ·exact h
   obtain⟨d,hd⟩:∃ d:Array Nat,d.toList=qjm (natL l):=⟨(qjm (natL l)).toArray,by simp⟩
   rw[←hd] at hown hlt hK4 hK0
   have hHo:Holds (encM k) wr g 0 d:=holds_own hown hlt
   rw[←hd]
   have C:=jq (sort_call (c:=cv) (E:=w.heap.size) HR.out.2.1 hn0 ((hb.cell (p:=⟨w.heap.size,0,none⟩) (Nat.lt_succ_self _)).trans HS.out.2) ((HR.out.1.below HR.out.2.2.2.2).below (hb.mono (Nat.le_succ _))) (by omega) (by omega) hgl (by rw[←Array.length_toList];omega) hHo)
   have HEND:=jq (And.intro hd (And.intro hHo (And.intro hgl (And.intro hgB hlt))))
   obtain⟨K,hK⟩:∃ K,K=d.toList.length:=⟨_,rfl⟩
   rw[←hK]
   rw[show d.size=K by rw[hK,Array.length_toList]] at C
   have HKK:=jq hK
   clear hown hb hd hHo hK hHe hlt hK4 hK0 hform HOWN
   go_wp2_with fail
   refine C.out.mono ?_
   rintro _ w2 ⟨rfl,d',q,os,hp,hs,hw2⟩
   obtain⟨hd,hHo,hgl,hgB,hlt⟩:=HEND.out
   rw[show K=d.size by rw[HKK.out,Array.length_toList]] at hp hs
   have hord:=ord_sorted HR.out.2.1 HR.out.2.2.1 hd hp hs
   have hHo2:Holds (encM k) w2 g 0 d':=by rw[hw2];exact holds_sortWorld _ _ _ _ _ _ _ _ hgl hHo hp.1
   have hb2:Below g wr w2:=by rw[hw2];exact sort_below hgl
   have HF:=jq (show OrdL (natL l) d'.toList∧d'.toList.length=K∧Rd w2 w2.heap.size (some ⟨g,0,none⟩) (zvs (intS d'.toList))∧Below w.heap.size w w2 from
    ⟨hord,by rw[HKK.out,Array.length_toList,Array.length_toList,hp.1],rd_holds hHo2 (fun x hx=>by
     have:=(hord.mem.1 hx).1
     rw[jxq,HR.out.2.1] at this;exact this) (Nat.lt_of_lt_of_le hgl hb2.size),HR.out.2.2.2.2.trans ((HB.out.mono (Nat.le_succ _)).trans (hb2.mono (by omega)))⟩)
   clear hd hHo hgl hgB hlt hp hs hw2 hord hHo2 hb2
   go_wp2
   go_ret
   exact⟨_,_,_,_,rfl,HF.out.1,HF.out.2.1,HF.out.2.2.1,HF.out.2.2.2,Nat.le_of_succ_le HEND.out.2.2.2.1⟩
end
theorem pvs_zeros:∀ n:Nat,pvs (List.replicate n (0,0))=List.replicate (n*2) (.int .i64 0)
 | 0=>rfl
 | n+1=>by rw[List.replicate_succ,jvr,pvs_zeros n,show (n+1)*2=n*2+1+1 by omega,List.replicate_succ,List.replicate_succ];rfl
theorem made_two (n:Nat):madeCells #[Value.int .i64 0,Value.int .i64 0] n=(List.replicate n (Value.int .i64 0)).toArray:=by
 apply Array.ext
 ·simp[size_madeCells]
 ·intro i h1 h2
  simp only[madeCells,Array.getElem_map,Array.getElem_range,List.getElem_toArray,List.getElem_replicate]
  rcases (by omega:i%2=0∨i%2=1) with e | e
  ·show (#[Value.int .i64 0,Value.int .i64 0]:Array Value)[i%2]! = _
   rw[e];rfl
  ·show (#[Value.int .i64 0,Value.int .i64 0]:Array Value)[i%2]! = _
   rw[e];rfl
theorem info_code2:(prog.info? 215).map (fun i=>(i.zero,i.size,i.bytes))=some (some (.agg #[.int .i64 0,.int .i64 0]),2,16):=by kernel_rfl
theorem make_eqC (n:Nat) (hn:n≤1000000) (w:World) :
  (Instr.makeSlice 210 (.int .i64 (n:Int)) (.int .i64 (n:Int))).run prog w=.ok (.slice (some ⟨w.heap.size,0,none⟩) n n) (w.alloc (.cells (pvs (List.replicate n (0,0))).toArray 215)):=by
 obtain⟨i,hi,hz,hsize,hby⟩:=info_parts info_code2
 have hbn:((i.bytes*n:Nat):Int)≤281474976710656:=by rw[hby];omega
 rw[Int.natCast_mul] at hbn
 have hrun:=run_make (P:=prog) w 210 215 i _ underlying210 hi hz .i64 .i64 n n (by omega) (Int.le_refl _) hbn (by omega)
 have hzs:(Value.agg #[.int .i64 0,.int .i64 0]).cells=#[.int .i64 0,.int .i64 0]:=by kernel_rfl
 simp only[Int.toNat_natCast,hsize,hzs] at hrun
 rw[made_two] at hrun
 rw[pvs_zeros]
 exact hrun
def qmr (l:List Nat) (i:Nat):Pr:=(jwl l i,l.getD i 0)
def jvw (l S:List Nat):List Pr:=(List.range l.length).map fun i=>if i∈S then qmr l i else (0,0)
def qvz (l S:List Nat):List (Pr × Nat):=S.map fun i=>(qmr l i,i)
theorem codesS_nil (l:List Nat):jvw l []=List.replicate l.length (0,0):=by
 unfold jvw
 refine List.ext_getElem? fun j=>?_
 by_cases h:j<l.length
 ·rw[List.getElem?_map,List.getElem?_range h,List.getElem?_replicate,if_pos h];simp
 ·rw[List.getElem?_eq_none (by simp;omega),List.getElem?_eq_none (by simp;omega)]
theorem codesS_len (l S:List Nat):(jvw l S).length=l.length:=by simp[jvw]
theorem codesS_snoc (l S:List Nat) (i:Nat):(jvw l S).set i (qmr l i)=jvw l (S++[i]):=by
 refine List.ext_getElem? fun j=>?_
 rw[List.getElem?_set,codesS_len]
 by_cases h:j<l.length
 ·unfold jvw
  rw[List.getElem?_map,List.getElem?_map,List.getElem?_range h]
  by_cases e:i=j
  ·subst e;simp[h]
  ·have:j≠i:=fun x=>e x.symm
   simp[e,this]
 ·unfold jvw
  rw[List.getElem?_eq_none (by simp;omega),List.getElem?_eq_none (by simp;omega)]
  by_cases e:i=j
  ·rw[if_pos e,if_neg (by omega)]
  ·rw[if_neg e]
theorem codesS_get (l S:List Nat) {i:Nat} (h:i<l.length):pat (jvw l S) i=if i∈S then qmr l i else (0,0):=by
 unfold pat jvw
 simp[List.getD_eq_getElem?_getD,h]
theorem kraftI_zero (l:List Int) (h:∀ x∈l,x≤0):jzs l=0:=by
 unfold jzs qqy
 induction l with
 | nil=>rfl
 | cons x l ih =>
  rw[List.map_cons,List.map_cons,List.sum_cons,ih fun y hy=>h y (List.mem_cons_of_mem _ hy),if_neg (by have:=h x List.mem_cons_self;omega)]
theorem kraft_posL (l:List Int):jzs l=jzs (posL l):=by
 unfold jzs qqy posL
 induction l with
 | nil=>rfl
 | cons x l ih =>
  rw[List.map_cons,List.map_cons,List.sum_cons,ih]
  by_cases h:0<x
  ·rw[List.filter_cons_of_pos (by simpa using h),List.map_cons,List.map_cons,List.sum_cons]
  ·rw[List.filter_cons_of_neg (by simpa using h),if_neg (by omega),Nat.zero_add]
theorem whole_most {l:List Int} (h:WholeC l):jzs l≤32768:=by
 rcases h with h | h
 ·omega
 ·rw[kraft_posL,h];decide
theorem fresh_key {l S:List Nat} (h:OrdL l S) {t:Nat} (ht:t<S.length):∀ p∈qvz l (S.take t),p.1≠qmr l S[t]:=fun p hp e=>by
 obtain⟨j,hj,rfl⟩:=List.mem_map.1 hp
 have h1:lexB l j S[t]=true:=by
  rw[←take_lex h.up ht] at hj
  exact (List.mem_filter.1 hj).2
 have hjS:=h.mem.1 (List.mem_of_mem_take hj)
 have hiS:=h.mem.1 (List.getElem_mem ht)
 simp only[qmr,Prod.mk.injEq] at e
 have:=codeL_one l hjS.1 hiS.1 e.2 e.1
 rw[this,lexB_irrefl] at h1
 cases h1
theorem codes_next {l S:List Nat} {t:Nat} (ht:t<S.length):(jvw l (S.take t)).set S[t] (qmr l S[t])=jvw l (S.take (t+1))∧qvz l (S.take t)++[(qmr l S[t],S[t])]=qvz l (S.take (t+1)):=by
 have e:S.take (t+1)=S.take t++[S[t]]:=by rw[List.take_add_one,List.getElem?_eq_getElem ht];rfl
 rw[codesS_snoc,e]
 exact⟨rfl,by unfold qvz;rw[List.map_append];rfl⟩
theorem whole_here {l:List Int} (h:WholeC l):qjm (natL l)≠[]:=fun e=>by
 have h0:∀ x∈l,x≤0:=fun x hx=>by
  obtain⟨i,hi,rfl⟩:=List.getElem_of_mem hx
  have h1:i∉qjm (natL l):=by rw[e];simp
  have h2:=jgm l hi
  have h3:¬ (i<(natL l).length∧0<(natL l).getD i 0):=fun hh=>h1 (qvg.2 hh)
  rw[jxq,h2] at h3
  omega
 rcases h with h | h
 ·rw[kraftI_zero l h0] at h;exact absurd h (by decide)
 ·have:(1:Int)∈posL l:=by rw[h];simp
  unfold posL at this
  have:=h0 1 (List.mem_filter.1 this).1
  omega
theorem CAt.set {w:World} {E g M n:Nat} {cs:List Pr} {es:List (Pr × Nat)} {p:Addr} {v:Value} (h:CAt w E g M n cs es) (h1:p.block≠E) (h2:p.block≠g) (h3:p.block≠M):CAt (w.setCell p v) E g M n cs es :=
 ⟨(heap_setCell_other w p E v (fun e=>h1 e.symm)).trans h.box,(heap_setCell_other w p g v (fun e=>h2 e.symm)).trans h.row,h.len,h.map.set p v (fun e=>h3 e.symm)⟩
theorem jjq.setNew {T S:Nat} {w w':World} {p:Addr} {v:Value} (h:jjq T S w w') (hp:w.heap.size≤p.block):jjq T S w (w'.setCell p v) :=
 ⟨h.os,h.tape,h.output,Nat.le_trans h.size (by simp[World.setCell]),fun k hk h1 h2=>(heap_setCell_other w' p k v (by omega)).trans (h.block k hk h1 h2)⟩
section
variable {w:World} {A:Option Addr} {n m:Nat} {l:List Int}
theorem qds (hr:Rd w w.heap.size A (zvs l)) (hn:l.length=n) (hn4:n≤4096) (hok:l.any cBad=false) (hw:WholeC l) :
  Calls prog 103 #[.slice A n m] w fun e w'=>∃ E g M S,e=.returned (.tuple #[.pointer (some ⟨E,0,none⟩),.int .i64 0])∧OrdL (natL l) S∧CAt w' E g M n (jvw (natL l) S) (qvz (natL l) S)∧Below w.heap.size w w':=by
 have C:=jq (jww (m:=m) (w:=w) 165 cBad (enters_of func165 (by kernel_rfl) rfl) (fun x W=>canonWrong_any x W) hr hn (by omega))
 have hl:=qjf.1 hok
 have D:=jq (canon_fill (m:=m) hr hn hn4 hl)
 rw[hok] at C
 rw[(qyq l).2 hw] at D
 have hmk:=fun W=>make_eqC n (by omega) W
 have hmm:=@run_makeMap prog
 obtain⟨W0,hW0⟩:∃ W,W=w.alloc (.cells (pvs (List.replicate n (0,0))).toArray 215):=⟨_,rfl⟩
 obtain⟨W1,hW1⟩:∃ W,W=W0.alloc (.map #[] 0):=⟨_,rfl⟩
 obtain⟨W2,hW2⟩:∃ W,W=W1.alloc (.cells #[.slice (some ⟨w.heap.size,0,none⟩) n n,.map (some (w.heap.size+1))] 213):=⟨_,rfl⟩
 have z0:W0.heap.size=w.heap.size+1:=by rw[hW0];simp
 have z1:W1.heap.size=w.heap.size+2:=by rw[hW1];simp[z0]
 have z2:W2.heap.size=w.heap.size+3:=by rw[hW2];simp[z1]
 have b0:Below w.heap.size w W0:=by rw[hW0];exact (Below.refl _ _).alloc jw _
 have b1:Below W0.heap.size W0 W1:=by rw[hW1];exact (Below.refl _ _).alloc jw _
 have b2:Below W1.heap.size W1 W2:=by rw[hW2];exact (Below.refl _ _).alloc jw _
 have k0:Blk W0 w.heap.size 215 (pvs (jvw (natL l) [])):=by
  have:=heap_alloc_new w (.cells (pvs (List.replicate n (0,0))).toArray 215)
  unfold Blk
  rw[hW0,this,codesS_nil,jxq,hn]
 have k1:MapC W1 (w.heap.size+1) []:=by
  have:=mapC_new W0
  rwa [←hW1,z0] at this
 have k2:Blk W2 (w.heap.size+2) 213 [.slice (some ⟨w.heap.size,0,none⟩) n n,.map (some (w.heap.size+1))]:=by
  have:=heap_alloc_new W1 (.cells #[.slice (some ⟨w.heap.size,0,none⟩) n n,.map (some (w.heap.size+1))] 213)
  unfold Blk
  rw[←z1,hW2,this]
 have hCA:CAt W2 (w.heap.size+2) w.heap.size (w.heap.size+1) n (jvw (natL l) []) (qvz (natL l) []):=⟨k2,(k0.grow b1).grow b2,by rw[codesS_len,jxq,hn],k1.grow b2⟩
 have b02:Below w.heap.size w W2:=b0.trans ((b1.trans (b2.mono b1.size)).mono b0.size)
 have F:=jq (inOrder_any (m:=m) ((hr.below b02).more b02.size) hn hn4 (fun x hx=>(hl x hx).1) (whole_here hw))
 have HR:=jq (And.intro hr (And.intro hn (And.intro hl hw)))
 have HC:=jq (And.intro hCA (And.intro b02 z2))
 clear hr hn hok hw hl k0 k1 k2 b0 b1 b2 b02 hCA z0 z1 z2
 go_enter func103,ntmps103
 go_wp2_with fail
 refine C.out.mono ?_
 rintro _ w1 ⟨rfl,hw⟩
 subst w1
 go_wp2_with fail
 refine D.out.mono ?_
 rintro _ w1 ⟨rfl,hw⟩
 subst w1
 clear C D
 go_wp2_with fail
 rw[←hW0,←hW1,←hW2]
 clear hW0 hW1 hW2 hmk hmm
 refine F.out.mono ?_
 rintro _ w3 ⟨G,S,k,c,rfl,ho,hk,hrS,hb3,hG⟩
 have hCA3:=HC.out.1.grow hb3
 have z3:=hb3.size
 rw[HC.out.2.2] at hG z3
 obtain⟨E,hE⟩:∃ E,E=w.heap.size+1+1:=⟨_,rfl⟩
 rw[←hE]
 rw[show w.heap.size+2=E by omega] at hCA3
 obtain⟨M,hM⟩:∃ M,M=w.heap.size+1:=⟨_,rfl⟩
 rw[←hM]
 rw[←hM] at hCA3
 obtain⟨g,hg⟩:∃ g,g=w.heap.size:=⟨_,rfl⟩
 rw[←hg]
 rw[←hg] at hCA3 hG z3 hE hM
 have hS:∀ t (h:t<S.length),w3.cell? ⟨G,t,none⟩=some (.int .i64 ((S[t]:Nat):Int))∧G<w3.heap.size:=fun t h=>by
  obtain⟨b',o',he,hlt,hc⟩:=jjn hrS (k:=t) (by simpa [intS] using h)
  obtain⟨rfl,rfl⟩:G=b'∧o'=0:=by injection he with e;injection e with e1 e2;exact⟨e1,e2.symm⟩
  rw[Nat.zero_add] at hc
  refine⟨?_,hlt⟩
  rw[hc];simp[intS]
 have hk4:k≤4096:=by
  rw[←hk,ho.perm.length_eq];unfold qjm
  exact Nat.le_trans (List.length_filter_le _ _) (by rw[List.length_range,jxq,HR.out.2.1];exact hn4)
 have hk0:0<k:=by
  rcases Nat.eq_zero_or_pos k with h | h
  ·have:S=[]:=List.eq_nil_of_length_eq_zero (by omega)
   have h2:=ho.perm
   rw[this] at h2
   exact absurd h2.symm.eq_nil (whole_here HR.out.2.2.2)
  ·exact h
 have hmemS:∀ t (h:t<S.length),S[t]<n∧0<(natL l).getD S[t] 0∧(natL l).getD S[t] 0≤15:=fun t h=>by
  have h1:=ho.mem.1 (List.getElem_mem h)
  rw[jxq,HR.out.2.1] at h1
  refine⟨h1.1,h1.2,?_⟩
  have h2:=jgm l (show S[t]<l.length by have:=HR.out.2.1;omega)
  have h3:=HR.out.2.2.1 _ (List.getElem_mem (show S[t]<l.length by have:=HR.out.2.1;omega))
  omega
 have hn0:0<n:=by have:=(hmemS 0 (by omega)).1;omega
 obtain⟨ab,ao,rfl,hab,-⟩:=jjn HR.out.1 (k:=0) (by have:=HR.out.2.1;omega)
 rw[←hg] at hab
 have hbw3:Below g w w3:=by rw[hg];exact HC.out.2.1.trans (hb3.mono HC.out.2.1.size)
 have hLc:∀ i,i<n→w3.cell? ⟨ab,ao+i,none⟩=some (.int .i64 (((natL l).getD i 0:Nat):Int)):=fun i hi=>by
  have hil:i<l.length:=by have:=HR.out.2.1;omega
  obtain⟨b',o',he,hlt,hc⟩:=jjn HR.out.1 hil
  obtain⟨rfl,rfl⟩:ab=b'∧ao=o':=by injection he with e;injection e with e1 e2;exact⟨e1,e2⟩
  rw[(hbw3.cell (p:=⟨ab,ao+i,none⟩) hab).trans hc,jgm l hil]
  have:=HR.out.2.2.1 _ (List.getElem_mem hil)
  congr 2
  omega
 have hS0:=(hS 0 (by omega)).1
 have hL0:=hLc S[0] (hmemS 0 (by omega)).1
 have hs0:=hmemS 0 (by omega)
 have hG3:=(hS 0 (by omega)).2
 obtain⟨i0,hi0⟩:∃ i,i=S[0]'(by omega):=⟨_,rfl⟩
 obtain⟨s0,hs0e⟩:∃ s,s=(natL l).getD (S[0]'(by omega)) 0:=⟨_,rfl⟩
 rw[←hs0e] at hL0 hs0
 rw[←hi0] at hS0 hL0 hs0
 have hi0n:(i0:Int)<(n:Int):=by omega
 have HF:=jq (And.intro hCA3 (And.intro ho (And.intro hk (And.intro hS (And.intro hLc (And.intro hmemS (And.intro hbw3 (And.intro hi0 hs0e))))))))
 have HZ:=jq (And.intro hE (And.intro hM (And.intro hg (And.intro hG (And.intro z3 (And.intro hab hG3))))))
 clear hCA3 ho hS hLc hmemS hbw3 hi0 hs0e hE hM hg hG z3 hab hG3 F hb3 hrS
 go_wp2_with fail
 have hb4:Below w3.heap.size w3 (w3.alloc (.cells #[.int .i64 (0:Int),.int .i64 (s0:Int)] 215)):=(Below.refl _ _).alloc jw _
 go_loopw [8,36] (fun _ i wr=>∃ t b s:Nat,t≤k∧i=.int .i64 (t:Int)∧CAt wr E g M n (jvw (natL l) (S.take t)) (qvz (natL l) (S.take t))∧Blk wr w3.heap.size 215 [.int .i64 (b:Int),.int .i64 (s:Int)]∧Hid (b*2^(15 - s)=sumK (natL l) (S.take t))∧s≤15∧Hid (∀ h:t<S.length,s≤(natL l).getD S[t] 0)∧jjq g M w3 wr) (fun _ i _=>k - (intOf i).toNat)
 case atStart =>
  refine⟨0,0,s0,Nat.zero_le _,rfl,HF.out.1.grow hb4,?_,jq (by simp[sumK]),by omega,jq (fun h=>by rw[HF.out.2.2.2.2.2.2.2.2];exact Nat.le_refl _),jjq.of_below hb4⟩
  have:=heap_alloc_new w3 (.cells #[.int .i64 (0:Int),.int .i64 (s0:Int)] 215)
  exact this
 case round =>
  clear hb4 hS0 hL0 hs0
  obtain⟨t,b,s,ht,rfl,hca,hblk,HK,hs15,HU,htn⟩:=hrel
  by_cases htk:t<k
  ·have htS:t<S.length:=by omega
   obtain⟨zE,zM,zg,zG,z3,zab,zG3⟩:=HZ.out
   obtain⟨-,ho,-,hS,hLc,hmemS,hbw3,-,-⟩:=HF.out
   have hm:=hmemS t htS
   have hcS:=(hS t htS).1
   have hcS:=(World.cell?_of_block (htn.block G zG3 (by omega) (by omega))).trans hcS
   have hcL:=hLc S[t] hm.1
   have hcL:=(World.cell?_of_block (htn.block ab (by omega) (by omega) (by omega))).trans hcL
   have hsu:=HU.out htS
   have hnc:=next_code ho htS hm.2.2 hsu HK.out
   have hns:=next_sum ho htS hm.2.2
   have hkr:jwl (natL l) S[t]<1000000:=by
    have h1:=codeL_most (l:=natL l) (i:=S[t]) (by rw[jxq,HR.out.2.1];exact hm.1) hm.2.1 hm.2.2
    have h2:=whole_most HR.out.2.2.2
    have h3:qqy (natL l)=jzs l:=rfl
    omega
   have CL:=jq (canon_longer b s ((natL l).getD S[t] 0) hsu hm.2.2 (by rw[hnc];omega))
   rw[hnc] at CL
   have hcn:=codes_next (l:=natL l) htS
   have hfk:=fresh_key ho htS
   obtain⟨i,hi⟩:∃ i,i=S[t]'htS:=⟨_,rfl⟩
   obtain⟨kp,hkp⟩:∃ kp,kp=qmr (natL l) (S[t]'htS):=⟨_,rfl⟩
   rw[←hkp] at hcn hfk
   obtain⟨Q,hQ⟩:∃ Q,Q=jwl (natL l) (S[t]'htS):=⟨_,rfl⟩
   obtain⟨z,hz⟩:∃ z,z=(natL l).getD (S[t]'htS) 0:=⟨_,rfl⟩
   have hup:∀ h:t+1<S.length,z≤(natL l).getD S[t+1] 0:=fun h=>by rw[hz];exact ord_up ho h
   have hkp2:kp=(Q,z):=by rw[hkp,hQ,hz];rfl
   rw[←hz] at CL hcL hsu hns hm
   rw[←hQ] at CL hkr hns
   rw[←hi] at hcS hcL hm hcn
   subst hkp2
   have hin:=hm.1
   have hzz:=hm.2.2
   have hii:(i:Int)<(n:Int):=by omega
   have hti:(t:Int)<(k:Int):=by omega
   have HN:=jq (And.intro hns (And.intro hup (And.intro hcn (And.intro hfk hin))))
   have HW:=jq (And.intro hca (And.intro hblk htn))
   have HTK:=jq htk
   have c0:=hblk.cell 0
   have c1:=hblk.cell 1
   simp only[jy,jx] at c0 c1
   clear ho hS hLc hmemS hbw3 hnc hns hup hcn hfk hm hca hblk htn hi hkp hQ hz HK HU hsu
   simp only[qxx,jkj] at CL
   obtain⟨X,hX⟩:∃ X,X=w3.heap.size:=⟨_,rfl⟩
   clear zE zM zg zG z3 zab zG3
   rw[←hX] at c0 c1 ⊢
   have HX:=jq hX
   clear hX
   go_wp2_with fail
   refine wp_region_still_tail 5 (by kernel_rfl) (by kernel_rfl) ?_
   simp only[List.take_succ_cons,List.take_zero,List.drop_succ_cons,List.drop_zero]
   repeat still_step
   refine wpStill_nil ?_
   change wpList _ _ _ _ _ wr.drew
   go_wp2_with fail
   refine (CL.out wr.drew).mono ?_
   rintro _ w5 ⟨rfl,hb5⟩
   obtain⟨hca,hblk,htn⟩:=HW.out
   rw[←HX.out] at hblk
   have hb5':Below wr.heap.size wr w5:=⟨hb5.os,hb5.tape,hb5.output,hb5.size,hb5.block⟩
   have hca5:=hca.grow hb5'
   have hblk5:=hblk.grow hb5'
   have htn5:=htn.trans (jjq.of_below hb5')
   have hlt5:=hblk5.lt
   have hXn:X≠E∧X≠g∧X≠M∧E≠g:=by have:=HZ.out;have:=HX.out;omega
   have d0:=hblk5.cell 0
   have d1:=hblk5.cell 1
   simp only[jy,jx] at d0 d1
   have f0:=hblk5.frozen 0
   have f1:=hblk5.frozen 1
   have hblk6:=(hblk5.set_ 0 (.int .i64 (Q:Int))).set_ 1 (.int .i64 (z:Int))
   simp only[List.set_cons_zero,List.set_cons_succ] at hblk6
   have hca6:=(hca5.set (p:=⟨X,0,none⟩) (v:=.int .i64 (Q:Int)) hXn.1 hXn.2.1 hXn.2.2.1).set (p:=⟨X,1,none⟩) (v:=.int .i64 (z:Int)) hXn.1 hXn.2.1 hXn.2.2.1
   have htn6:=(htn5.setNew (p:=⟨X,0,none⟩) (v:=.int .i64 (Q:Int)) (by show w3.heap.size≤X;rw[HX.out];exact Nat.le_refl _)).setNew (p:=⟨X,1,none⟩) (v:=.int .i64 (z:Int)) (by show w3.heap.size≤X;rw[HX.out];exact Nat.le_refl _)
   have CG:=jq (codesGive hca6 hXn.2.2.2 i HN.out.2.2.2.2 (Q,z) HN.out.2.2.2.1)
   have H6:=jq (And.intro hblk6 (And.intro htn6 hXn))
   clear hca hblk htn hb5 hb5' hca5 hblk5 htn5 hlt5 hblk6 hca6 htn6 hXn c0 c1 CL
   simp only[qxx,jkj] at CG
   go_wp2_with fail
   refine CG.out.mono ?_
   rintro _ w7 ⟨rfl,hca7,q1,q2,q3,q4,q5⟩
   obtain⟨hblk6,htn6,hXn⟩:=H6.out
   have hblk7:Blk w7 X 215 [.int .i64 (Q:Int),.int .i64 (z:Int)]:=(q5 X hblk6.lt hXn.2.1 hXn.2.2.1).trans hblk6
   have htn7:jjq g M w3 w7:=htn6.trans ⟨q1,q2,q3,q4,fun j hj h1 h2=>q5 j hj h1 h2⟩
   have d0:=hblk7.cell 0
   simp only[jy] at d0
   have f0:=hblk7.frozen 0
   have hblk8:=hblk7.set_ 0 (.int .i64 ((Q+1:Nat):Int))
   simp only[List.set_cons_zero] at hblk8
   have hca8:=hca7.set (p:=⟨X,0,none⟩) (v:=.int .i64 ((Q+1:Nat):Int)) hXn.1 hXn.2.1 hXn.2.2.1
   have htn8:=htn7.setNew (p:=⟨X,0,none⟩) (v:=.int .i64 ((Q+1:Nat):Int)) (by show w3.heap.size≤X;rw[HX.out];exact Nat.le_refl _)
   rw[HN.out.2.2.1.1,HN.out.2.2.1.2] at hca8
   have H8:=jq (And.intro hca8 (And.intro hblk8 htn8))
   have eQ:((Q+1:Nat):Int)=(Q:Int)+1:=by omega
   rw[eQ] at H8
   have hQ2:(Q:Int)+1≤1000000:=by omega
   clear hca7 q1 q2 q3 q4 q5 hblk6 htn6 hXn hblk7 htn7 hblk8 hca8 htn8 CG H6 eQ
   go_wp2
   go_roundw
   case rel=>exact⟨t+1,Q+1,z,HTK.out,by go_num,H8.out.1,by rw[show ((Q+1:Nat):Int)=(Q:Int)+1 by omega];first | exact H8.out.2.1 | (rw[←HX.out];exact H8.out.2.1),jq HN.out.1,hzz,jq HN.out.2.1,H8.out.2.2⟩
   case measure=>have:=HTK.out;simp[intOf];omega
  ·obtain rfl:k=t:=by omega
   have hk:=HF.out.2.2.1
   rw[List.take_of_length_le (by omega)] at hca
   have HEND:=jq (And.intro hca (htn.below (B:=g) jw (by have:=HZ.out;omega) (by have:=HZ.out;omega)))
   clear hca hblk htn hk
   go_wp2
   go_ret2
   exact⟨E,g,M,S,rfl,HF.out.2.1,HEND.out.1,by
    have h:=HF.out.2.2.2.2.2.2.1.trans HEND.out.2
    rw[HZ.out.2.2.1] at h
    exact h⟩
end
theorem ents_mem {l S:List Nat} (h:OrdL l S) {q:Pr × Nat}:q∈qvz l S↔∃ i,i<l.length∧0<l.getD i 0∧q=(qmr l i,i):=by
 unfold qvz
 rw[List.mem_map]
 constructor
 ·rintro⟨i,hi,rfl⟩
  have:=h.mem.1 hi
  exact⟨i,this.1,this.2,rfl⟩
 ·rintro⟨i,h1,h2,rfl⟩
  exact⟨i,h.mem.2 ⟨h1,h2⟩,rfl⟩
theorem find_letter {l S:List Nat} (h:OrdL l S) {i:Nat} (hi:i<l.length) (h0:0<l.getD i 0) {x y:Int} (hx:x=(jwl l i:Int)) (hy:y=(l.getD i 0:Int)):∃ r,jgw x y (qvz l S) 0=some (r,.int .i64 (i:Int)) :=
 findC_some x y _ 0 (qmr l i,i) ((ents_mem h).2 ⟨i,hi,h0,rfl⟩) ⟨hx,hy⟩ fun q hq hqe=>by
  obtain⟨j,hj,hj0,rfl⟩:=(ents_mem h).1 hq
  obtain⟨e1,e2⟩:=hqe
  have e1':x=(jwl l j:Int):=e1
  have e2':y=(l.getD j 0:Int):=e2
  exact codeL_one l hj hi (Int.ofNat_inj.1 (e2'.symm.trans hy)) (Int.ofNat_inj.1 (e1'.symm.trans hx))
theorem find_none {l S:List Nat} (h:OrdL l S) {x y:Int} (hn:∀ i,i<l.length→0<l.getD i 0→¬ (x=(jwl l i:Int)∧y=(l.getD i 0:Int))):jgw x y (qvz l S) 0=none :=
 qbz x y _ 0 fun q hq=>by
  obtain⟨j,hj,hj0,rfl⟩:=(ents_mem h).1 hq
  exact hn j hj hj0
theorem pat_code {l S:List Nat} (h:OrdL l S) {i:Nat} (hi:i<l.length):pat (jvw l S) i=if 0<l.getD i 0 then qmr l i else (0,0):=by
 rw[codesS_get l S hi]
 by_cases h0:0<l.getD i 0
 ·rw[if_pos h0,if_pos (h.mem.2 ⟨hi,h0⟩)]
 ·rw[if_neg h0,if_neg (fun hm=>h0 (h.mem.1 hm).2)]
theorem qbv {c o:List Int} (h:jzp c o) (hc:∀ x∈c,0≤x) (h1:1≤(posL c).length):WholeC o:=by
 obtain⟨c',q1,q2,-,q4⟩:=lens_end h hc
 by_cases h2:2≤(posL c).length
 ·exact .inl ((lens_kraft h hc).2.2 h2)
 ·right
  have e:(posL c').length=1:=by rw[qkx,q4,←qkx];omega
  obtain⟨g,hg,rfl⟩:=q1
  rw[e] at hg
  have hd:=one_deep hg
  have key:∀ (c:List Int) (j:Nat),posL (jmt g.d c j)=(List.range (posL c).length).map fun i=>((max (g.d (j+i)) 1:Nat):Int):=by
   intro c
   induction c with
   | nil=>intro j;rfl
   | cons x c ih =>
    intro j
    unfold jmt
    by_cases hx:0<x
    ·rw[if_pos hx]
     unfold posL at ih ⊢
     rw[List.filter_cons_of_pos (by simp;omega),List.filter_cons_of_pos (by simpa using hx),ih,List.length_cons,List.range_succ_eq_map,List.map_cons,List.map_map]
     congr 1
     refine List.map_congr_left fun i _=>?_
     simp only[Function.comp]
     rw[show j+1+i=j+(i+1) by omega]
    ·rw[if_neg hx]
     unfold posL at ih ⊢
     rw[List.filter_cons_of_neg (by decide),List.filter_cons_of_neg (by simpa using hx),ih]
  rw[key,e]
  simp[List.range_succ,hd]
theorem lens_ok {c o:List Int} (h:jzp c o) (hc:∀ x∈c,0≤x):o.any cBad=false:=by
 rw[qjf]
 intro x hx
 obtain⟨i,hi,rfl⟩:=List.getElem_of_mem hx
 have:=lens_at h hc hi (by rw[←h.len];exact hi)
 exact⟨this.1,this.2.1⟩
end
end Go.Proofs.YtflcmmeoppdhdaaGreatDoor
