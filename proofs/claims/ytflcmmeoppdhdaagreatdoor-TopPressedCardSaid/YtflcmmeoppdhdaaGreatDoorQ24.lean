/- Layer 18: what Decode tells, as plain functions: bytes that come in, letters that come out. · Layer 18: the program's decoder: take, begun, behind. · Layer 18: the program's decoder: out. · Layer 18: .. -/
import Derived.Test.YtflcmmeoppdhdaaGreatDoorQ16
import Derived.Test.YtflcmmeoppdhdaaGreatDoorQ18
import Derived.Test.YtflcmmeoppdhdaaGreatDoorQ23
set_option maxHeartbeats 4000000
set_option maxRecDepth 100000
namespace Go.Proofs.YtflcmmeoppdhdaaGreatDoor
open Tryz
section
def fill:Nat→List UInt8→Option (Nat × List UInt8)
 | x,[]=>if 8388608≤x then some (x,[]) else none
 | x,b::S=>if 8388608≤x then some (x,b::S) else fill (256*x+b.toNat) S
theorem fill_stop {x:Nat} (S:List UInt8) (h:8388608≤x):fill x S=some (x,S):=by
 cases S <;> simp[fill,h]
theorem fill_none {x:Nat} (h:x<8388608):fill x []=none:=by
 simp[fill];omega
theorem fill_next {x:Nat} (b:UInt8) (S:List UInt8) (h:x<8388608):fill x (b::S)=fill (256*x+b.toNat) S:=by
 simp only[fill];rw[if_neg (by omega)]
def jmc (r:List Int) (x:Nat):Nat:=(jgz r ((x%4096:Nat):Int)).getD 0
def outY (r:List Int) (x:Nat):Nat:=(r.getD (jmc r x) 0).toNat*(x/4096)+x%4096 - (fPre r (jmc r x)).toNat
def lets (r:List Int):Nat→Nat→List UInt8→Option (List UInt8 × Nat × List UInt8)
 | 0,x,S=>some ([],x,S)
 | n+1,x,S=>(fill (outY r x) S).bind fun p=>(lets r n p.1 p.2).map fun q=>(UInt8.ofNat (jmc r x)::q.1,q.2)
def be4V (S:List UInt8):Nat:=((S.take 4).foldl (fun a b=>256*a+b.toNat) 0)
def tellF (r:List Int) (n:Nat) (S:List UInt8):Option (List UInt8) :=
 if S.length<4∨be4V S<8388608∨2147483648≤be4V S then none
 else (lets r n (be4V S) (S.drop 4)).bind fun q=>if q.2.1=8388608∧q.2.2=[] then some q.1 else none
theorem reads_fill {y x:Nat} {S T:List Nat} (h:Reads y S x T) (more:List UInt8):8388608≤x→(∀ b∈S,b<256)→fill y (u8s S++more)=some (x,u8s T++more):=by
 induction h with
 | none x S=>intro hx _;exact fill_stop _ hx
 | next y b S x T hy hr ih =>
  intro hx hS
  have h1:=hS b List.mem_cons_self
  have h2:=ih hx fun c hc=>hS c (List.mem_cons_of_mem _ hc)
  rw[show u8s (b::S)=UInt8.ofNat b::u8s S from rfl,List.cons_append,fill_next _ _ hy,UInt8.toNat_ofNat',Nat.mod_eq_of_lt h1]
  exact h2
theorem lets_in {l0:List UInt8} {r:List Int} (hs:jkb l0 r) (more:List UInt8):∀ (l:List UInt8) (x:Nat) (T:List Nat),(∀ b∈l,b∈l0)→jvx (letL r l) x T→lets r l.length x (u8s T++more)=some (l,8388608,more)
 | [],x,T,_,h=>by
  cases h
  rfl
 | b::l,x,T,hl,h=>by
  have hb:=hl b List.mem_cons_self
  have hok:=hs.letters (b::l) hl
  have hTb:=(h.range hok).2.2
  rw[letL_cons] at h
  obtain⟨⟨k1,k2⟩,k3,k4⟩:=hs.letter hb
  simp only at k1 k2
  obtain⟨x2,T2,y,h2,hy,e1,e2,hr,hx2⟩:=h.out (by rw[←letL_cons];exact hok)
  have hlt:b.toNat<r.length:=by rw[hs.len];exact b.toNat_lt
  have hsucc:=jqm r b.toNat hlt
  have hrb:r.getD b.toNat 0=r[b.toNat]:=by simp[List.getD_eq_getElem?_getD,hlt]
  have hmod:y%(r.getD b.toNat 0).toNat<(r.getD b.toNat 0).toNat:=Nat.mod_lt _ k1
  have hf:jmc r x=b.toNat:=by
   unfold jmc
   rw[qmc hs.nn (r:=b.toNat) (by omega) hlt (by rw[e1];omega) (by rw[e1,hsucc,←hrb];omega)]
   rfl
  have hout:outY r x=y:=by unfold outY;rw[hf];exact e2
  have hfil:=reads_fill hr more hx2 hTb
  have ih:=lets_in hs more l x2 T2 (fun c hc=>hl c (List.mem_cons_of_mem _ hc)) h2
  simp only[List.length_cons,lets,hout,hfil,Option.bind_some,ih,Option.map_some,hf,UInt8.ofNat_toNat]
theorem u8s_be4 {x:Nat} (hx:x<4294967296) (S:List UInt8):(u8s (be4 x)++S).length=4+S.length∧be4V (u8s (be4 x)++S)=x∧(u8s (be4 x)++S).drop 4=S:=by
 refine⟨by simp[u8s,be4];omega,?_,by simp[u8s,be4]⟩
 simp[be4V,u8s,be4]
 omega
theorem tell_coded {l:List UInt8} {r:List Int} {x:Nat} {T:List Nat} (hs:jkb l r) (h:jvx (letL r l) x T) (more:List UInt8):tellF r l.length (u8s (be4 x++T)++more)=if more=[] then some l else none:=by
 have hrg:=h.range (hs.letters l fun _ h=>h)
 have e:u8s (be4 x++T)++more=u8s (be4 x)++(u8s T++more):=by simp[u8s]
 obtain⟨e1,e2,e3⟩:=u8s_be4 (x:=x) (by omega) (u8s T++more)
 unfold tellF
 rw[e,e1,e2,e3,if_neg (by omega),lets_in hs more l x T (fun _ h=>h) h]
 simp
end
section
open Go.RowKit Go.Sort
theorem size_u8R:(prog.info? 5).map (·.size)=some 1:=by kernel_rfl
def DecS (w:World) (D K x:Nat) (S:List UInt8) (sh:Bool):Prop :=
 ∃ A n m,Blk w D 185 [.int .i64 (x:Int),.slice A n m,.bool sh]∧Rd w K A (bvs S)∧S.length=n∧n≤m∧n≤1000000∧K≤D
section
variable {w:World} {D K x:Nat} {S:List UInt8} {sh:Bool}
theorem DecS.below {w':World} (h:DecS w D K x S sh) (hb:Below w.heap.size w w'):DecS w' D K x S sh:=by
 obtain⟨A,n,m,h1,h2,h3,h4,h5,h6⟩:=h
 exact⟨A,n,m,h1.grow hb,h2.below (hb.mono (by have:=h1.lt;omega)),h3,h4,h5,h6⟩
theorem DecS.lt (h:DecS w D K x S sh):D<w.heap.size:=by
 obtain⟨A,n,m,h1,-⟩:=h
 exact h1.lt
theorem DecS.setX (h:DecS w D K x S sh) (y:Nat):DecS (w.setCell ⟨D,0,none⟩ (.int .i64 (y:Int))) D K y S sh∧jjq D D w (w.setCell ⟨D,0,none⟩ (.int .i64 (y:Int))):=by
 obtain⟨A,n,m,h1,h2,h3,h4,h5,h6⟩:=h
 exact⟨⟨A,n,m,h1.set_ 0 _,h2.setCell h6 _,h3,h4,h5,h6⟩,jjq.set_ 0 _⟩
def tkX (x:Nat):List UInt8→Nat
 | []=>x
 | b::_=>256*x+b.toNat
def tkS:List UInt8→Bool→Bool
 | [],_=>true
 | _::_,sh=>sh
theorem qgm (h:DecS w D K x S sh) (hx:x<1000000000000) :
  Calls prog 137 #[.pointer (some ⟨D,0,none⟩)] w fun e w'=>e=.returned (.tuple #[])∧DecS w' D K (tkX x S) S.tail (tkS S sh)∧jjq D D w w':=by
 obtain⟨A,n,m,hb,hr,hn,hnm,hn1,hK⟩:=h
 have hc0:=hb.cell 0
 have hc1:=hb.cell 1
 have hf0:=hb.frozen 0
 have hf1:=hb.frozen 1
 have hf2:=hb.frozen 2
 simp only[jy,jx] at hc0 hc1
 have HB:=jq hb
 have HR:=jq hr
 clear hb hr
 cases S with
 | nil =>
  obtain rfl:n=0:=by rw[←hn];rfl
  have hc2:=HB.out.cell 2
  simp only[jy,jx] at hc2
  clear hc0 hf0 hf1
  go_enter func137,ntmps137
  go_wp2
  (try simp only[Exit.inBlock,Exit.then]);refine bodyPost_ret (results_none rfl _ _ _) rfl ?_
  exact⟨rfl,⟨A,0,m,HB.out.set_ 2 _,Rd.nil_ _ _ _,rfl,hnm,hn1,hK⟩,jjq.set_ 2 _⟩
 | cons b T =>
  have hTl:T.length+1=n:=by rw[←hn];rfl
  obtain⟨ab,ao,rfl,hab,hcell⟩:=HR.out 0 (.int .u8 (b.toNat:Int)) (by simp[bvs])
  rw[Nat.add_zero] at hcell
  have hb8:=b.toNat_lt
  obtain⟨bn,hbn⟩:∃ bn,bn=b.toNat:=⟨_,rfl⟩
  rw[←hbn] at hcell hb8
  obtain⟨M,hM⟩:∃ M,M=x*256:=⟨_,rfl⟩
  obtain⟨c,hc⟩:∃ c,c=256*x+bn:=⟨_,rfl⟩
  have hcx:c=tkX x (b::T):=by rw[hc,hbn];rfl
  have e1:IntKind.i64.wrap ((x:Int)*256)=(M:Int):=by rw[IntKind.wrap_i64];omega
  have e2:IntKind.i64.wrap ((M:Int)+(bn:Int))=(c:Int):=by rw[IntKind.wrap_i64];omega
  have e3:IntKind.i64.wrap (bn:Int)=(bn:Int):=by rw[IntKind.wrap_i64];omega
  have e4:wrap64 ((x:Int)*256)=(M:Int):=by rw[IntWalk.wrap64_in _ (by omega)];omega
  have hn0:¬ (n:Int)=0:=by omega
  have hn3:(0:Int)<(n:Int):=by omega
  have hn4:0<n:=by omega
  have hn5:¬ n=0:=by omega
  have hDs:=HB.out.lt
  rw[←hcx]
  clear hcx hbn hM hc
  go_enter func137,ntmps137
  go_wp2
  refine wp_region_still_tail 16 (by kernel_rfl) (by kernel_rfl) ?_
  simp only[List.take_succ_cons,List.take_zero,List.drop_succ_cons,List.drop_zero]
  repeat still_step
  refine wpStill_nil ?_
  change wpList _ _ _ _ _ w.drew
  have hb1:Blk ((w.setCell ⟨D,0,none⟩ (.int .i64 (c:Int))).drew) D 185 [.int .i64 (c:Int),.slice (some ⟨ab,ao,none⟩) n m,.bool sh]:=(HB.out.set_ 0 _).drew_
  have hr1:Rd ((w.setCell ⟨D,0,none⟩ (.int .i64 (c:Int))).drew) K (some ⟨ab,ao,none⟩) (bvs (b::T)):=(HR.out.setCell hK _).drew
  have HB1:=jq hb1
  have HR1:=jq hr1
  have HLN:=jq (show (bvs (b::T)).length=n by rw[jjg];exact hn)
  clear hb1 hr1 hn3 hn4 hn5 hn0 hcell
  have h1n:1≤n:=by omega
  go_wp2_with ((with_reducible show wpList _ _ _ (({ dst:=some 32,op:=_,type:=_,pos:=_,after:=_,guard:=_ }:Oper)::_) _ _);go_must (refine jxc rfl (.tmp 31) (.const (.int .i64 1)) rfl underlying22 size_u8R K _ n m 1 (bvs (b::T)) rfl rfl HR1.out HLN.out hnm h1n ?_;intro A2 c2 hc2' hr2;rw[jxj] at hr2))
  refine bodyPost_end (results_none rfl _ _ _) rfl ?_
  exact⟨rfl,⟨A2,n - 1,c2,(HB1.out.set_ 1 (.slice A2 (n - 1) c2)).same rfl,(hr2.setCell (by exact hK) _),by simp only[List.tail_cons];omega,hc2',by omega,hK⟩,((jjq.set_ 0 _).trans (jjq.set_ 1 _)).drew⟩
end
def tks:Nat→Nat→List UInt8→Nat
 | 0,x,_=>x
 | k+1,x,S=>tks k (tkX x S) S.tail
theorem tks_be4 {S:List UInt8} (h:4≤S.length):tks 4 0 S=be4V S:=by
 obtain⟨a,b,c,d,T,rfl⟩:∃ a b c d T,S=a::b::c::d::T:=by
  match S,h with
  | a::b::c::d::T,_=>exact⟨a,b,c,d,T,rfl⟩
 simp[tks,tkX,be4V]
def BeRel (w:World) (D K:Nat) (S:List UInt8) (i:Value) (wr:World):Prop :=
 ∃ (j xj:Nat),j≤4∧i=.int .i64 (j:Int)∧xj<256^j∧tks (4 - j) xj (S.drop j)=tks 4 0 S∧DecS wr D K xj (S.drop j) (decide (S.length<j))∧Below w.heap.size w wr
theorem ransBegun_any {w:World} {K n m:Nat} {A:Option Addr} {S:List UInt8} (hr:Rd w K A (bvs S)) (hK:K≤w.heap.size) (hn:S.length=n) (hnm:n≤m) (hn1:n≤1000000) :
  Calls prog 91 #[.slice A n m] w fun e w'=>∃ D,e=.returned (.pointer (some ⟨D,0,none⟩))∧w.heap.size≤D∧DecS w' D K (tks 4 0 S) (S.drop 4) (decide (S.length<4))∧Below w.heap.size w w':=by
 have hb:=(Below.refl w.heap.size w).alloc jw (.cells #[.int .i64 0,.slice A n m,.bool false] 185)
 have hk:Blk (w.alloc (.cells #[.int .i64 0,.slice A n m,.bool false] 185)) w.heap.size 185 [.int .i64 ((0:Nat):Int),.slice A n m,.bool false]:=heap_alloc_new w _
 have HREL:=jq (show BeRel w w.heap.size K S (.int .i64 ((0:Nat):Int)) (w.alloc (.cells #[.int .i64 0,.slice A n m,.bool false] 185)) from ⟨0,0,Nat.zero_le _,rfl,by decide,rfl,⟨A,n,m,by simpa using hk,by rw[List.drop_zero];exact hr.below (hb.mono hK),by rw[List.drop_zero];exact hn,hnm,hn1,hK⟩,hb⟩)
 clear hr hK hn hnm hn1 hb hk
 go_enter func91,ntmps91
 go_wp2
 go_loopw [7] (BeRel w w.heap.size K S) (fun i _=>4 - (intOf i).toNat)
 case atStart=>exact HREL.out
 case round =>
  clear HREL
  obtain⟨j,xj,hj,rfl,hxj,ht,hd,hb⟩:=hrel
  have hx4:xj<1000000000000:=Nat.lt_of_lt_of_le hxj (Nat.le_trans (Nat.pow_le_pow_right (n:=256) (by decide) hj) (by decide))
  by_cases hlt:j<4
  ·have C:=jq (qgm hd hx4)
   have hxn:tkX xj (S.drop j)<256^(j+1):=by
    rw[Nat.pow_succ]
    cases hS:S.drop j with
    | nil=>simp only[tkX];omega
    | cons b T=>have:=b.toNat_lt;simp only[tkX];omega
   have htn:tks (4 - (j+1)) (tkX xj (S.drop j)) (S.drop (j+1))=tks 4 0 S:=by
    rw[←ht,show 4 - j=(4 - (j+1))+1 by omega,tks,List.tail_drop]
   have hsn:tkS (S.drop j) (decide (S.length<j))=decide (S.length<j+1):=by
    cases hS:S.drop j with
    | nil =>
     have h1:S.length≤j:=List.drop_eq_nil_iff.1 hS
     simp only[tkS];symm;simp;omega
    | cons b T =>
     have h1:j<S.length:=by
      rcases Nat.lt_or_ge j S.length with h | h
      ·exact h
      ·rw[List.drop_of_length_le h] at hS;cases hS
     simp only[tkS]
     rw[decide_eq_false (by omega),decide_eq_false (by omega)]
   have HH:=jq (And.intro hxn (And.intro htn (And.intro hsn (And.intro hb (show w.heap.size≤w.heap.size from Nat.le_refl _)))))
   have hji:(j:Int)<4:=by omega
   clear ht hd hb hxn htn hsn hxj hx4
   go_wp2_with fail
   refine C.out.mono ?_
   rintro _ w5 ⟨rfl,hd5,ht5⟩
   rw[HH.out.2.2.1,List.tail_drop] at hd5
   have HD:=jq (And.intro hd5 (HH.out.2.2.2.1.trans (ht5.below jw jw HH.out.2.2.2.1.size)))
   clear hd5 ht5 C
   go_wp2
   go_roundw
   case rel=>exact⟨j+1,_,by omega,by go_num,HH.out.1,HH.out.2.1,HD.out.1,HD.out.2⟩
   case measure=>simp[intOf];omega
  ·obtain rfl:j=4:=by omega
   rw[Nat.sub_self,tks] at ht
   subst ht
   have HD:=jq (And.intro hd hb)
   clear hd hb hx4 hxj
   go_wp2
   go_ret
   exact⟨_,rfl,Nat.le_refl _,HD.out.1,HD.out.2⟩
theorem ransBehind_any {w:World} {B n m k:Nat} {A:Option Addr} {l:List UInt8} (hr:Rd w B A (bvs l)) (hn:l.length=n) (hnm:n≤m) (hk:k≤n) :
  Calls prog 92 #[.slice A n m,.int .i64 (k:Int)] w fun e w'=>∃ A',e=.returned (.slice A' (n - k) (n - k))∧Rd w B A' (bvs (l.drop k))∧w'=w:=by
 have hki:(k:Int)≤(n:Int):=by omega
 have hnmi:(n:Int)≤(m:Int):=by omega
 have hk0:(0:Int)≤(k:Int):=by omega
 have HR:=jq hr
 go_enter func92,ntmps92
 go_wp2
 case inl =>
  go_ret
  exact⟨A,rfl,by rw[List.drop_of_length_le (by omega)];exact Rd.nil_ _ _ _,rfl⟩
 case inr =>
  go_ret
  exact⟨_,rfl,by have h2:=HR.out.drop k;rw[jxj] at h2;exact h2,rfl⟩
theorem fill_range:∀ (S:List UInt8) (x x':Nat) (S':List UInt8),fill x S=some (x',S')→8388608≤x'∧(x<2147483648→x'<2147483648)
 | [],x,x',S',h=>by
  unfold fill at h
  split at h
  ·injection h with h;injection h with h1 h2;subst h1;exact⟨by assumption,id⟩
  ·cases h
 | b::S,x,x',S',h=>by
  by_cases hx:8388608≤x
  ·rw[fill_stop _ hx] at h
   injection h with h;injection h with h1 h2;subst h1;exact⟨hx,id⟩
  ·rw[fill_next b S (by omega)] at h
   obtain⟨h1,h2⟩:=fill_range S _ _ _ h
   exact⟨h1,fun _=>h2 (by have:=b.toNat_lt;omega)⟩
def decM (w:World) (D:Nat):Nat:=match w.cell? ⟨D,1,none⟩,w.cell? ⟨D,2,none⟩ with
 | some (.slice _ n _),some (.bool sh)=>n+if sh then 0 else 1
 | _,_=>0
theorem DecS.m {w:World} {D K x:Nat} {S:List UInt8} {sh:Bool} (h:DecS w D K x S sh):decM w D=S.length+if sh then 0 else 1:=by
 obtain⟨A,n,m,hb,-,hn,-⟩:=h
 have h1:=hb.cell 1
 have h2:=hb.cell 2
 simp only[jy,jx] at h1 h2
 unfold decM
 rw[h1,h2,hn]
theorem blk_ne18 {w:World} {g g':Nat} {t t':TypeId} {cs cs':List Value} (h:Blk w g t cs) (h':Blk w g' t' cs') (hne:t≠t'):g≠g':=fun e=>by
 subst e
 exact h.ofType.ne hne h'.ofType
theorem jwf.turn {w w':World} {P b T D K x:Nat} {c:List Int} {S:List UInt8} {sh:Bool} (h:jwf w P c b T) (hd:DecS w D K x S sh) (ht:jjq D D w w'):jwf w' P c b T:=by
 obtain⟨⟨F,H,h1⟩,h2⟩:=h
 obtain⟨A,n,m,hb,-⟩:=hd
 have k1:=blk_ne18 h1.pb hb (by decide)
 have k2:=blk_ne18 h1.fb hb (by decide)
 have k3:=blk_ne18 h1.hb hb (by decide)
 exact⟨⟨F,H,ht.blk h1.pb k1 k1,ht.blk h1.fb k2 k2,ht.blk h1.hb k3 k3⟩,h2⟩
def OutD (w:World) (D K:Nat):Option (Nat × List UInt8)→Prop
 | some p=>DecS w D K p.1 p.2 false
 | none=>∃ x S,DecS w D K x S true
def OuRel (w:World) (D K:Nat) (R:Option (Nat × List UInt8)) (wr:World):Prop :=
 ∃ (x1:Nat) (S1:List UInt8) (sh:Bool),((sh=false∧fill x1 S1=R)∨(sh=true∧R=none∧x1<8388608))∧x1<2147483648∧DecS wr D K x1 S1 sh∧jjq D D w wr
theorem letOf_is {w:World} {P:Nat} {r:List Int} (h:jwf w P r 12 4096) (x:Nat):jgz r ((x%4096:Nat):Int)=some (jmc r x)∧jmc r x<r.length∧fPre r (jmc r x)≤((x%4096:Nat):Int):=by
 obtain⟨-,hnn,hs,-,-⟩:=h
 obtain⟨k,h1,h2,h3,-⟩:=fFind_all hnn (v:=((x%4096:Nat):Int)) (by omega) (by rw[hs];omega)
 have e:jmc r x=k:=by unfold jmc;rw[h1];rfl
 rw[e]
 exact⟨h1,h2,h3⟩
theorem ransOut_any {w:World} {D K x P:Nat} {S:List UInt8} {r:List Int} (h:DecS w D K x S false) (hx:x<2147483648) (hs:jwf w P r 12 4096) (hl:r.length=256) :
  Calls prog 138 #[.pointer (some ⟨D,0,none⟩),.pointer (some ⟨P,0,none⟩)] w fun e w'=>e=.returned (.int .u8 (jmc r x:Int))∧OutD w' D K (fill (outY r x) S)∧jjq D D w w'∧outY r x<2147483648:=by
 obtain⟨l1,l2,l3⟩:=letOf_is hs x
 have hnn:=hs.2.1
 have hsum:=hs.2.2.1
 have C1:=jq (slotLetter_any ((x%4096:Nat):Int) hs)
 rw[l1] at C1
 have C2:=jq (slotOf_at (jmc r x) hs l2)
 have hp0:=jvd hnn (jmc r x)
 have hg0:0≤r[jmc r x]:=hnn _ (List.getElem_mem l2)
 have hgm:r[jmc r x]≤4096:=by have:=qzh hnn l2;omega
 have hrb:r.getD (jmc r x) 0=r[jmc r x]:=by simp[List.getD_eq_getElem?_getD,l2]
 have hoy:outY r x=(r.getD (jmc r x) 0).toNat*(x/4096)+x%4096 - (fPre r (jmc r x)).toNat:=rfl
 obtain⟨k,hk⟩:∃ k,k=jmc r x:=⟨_,rfl⟩
 obtain⟨f,hf⟩:∃ f,f=(fPre r k).toNat:=⟨_,rfl⟩
 obtain⟨s,hsv⟩:∃ s,s=(r.getD k 0).toNat:=⟨_,rfl⟩
 obtain⟨v,hv⟩:∃ v,v=x%4096:=⟨_,rfl⟩
 obtain⟨q,hq⟩:∃ q,q=x/4096:=⟨_,rfl⟩
 obtain⟨Y,hY⟩:∃ Y,Y=outY r x:=⟨_,rfl⟩
 simp only[←hk] at C1 C2 hp0 hg0 hgm hrb hoy l2 l3 ⊢
 have hfi:fPre r k=(f:Int):=by omega
 have hsi:r[k]=(s:Int):=by rw[hsv,hrb];omega
 rw[hfi,hsi] at C2
 rw[←hsv,←hf,←hv,←hq] at hoy
 rw[←hv] at C1 l3
 have hfv:f≤v:=by omega
 have hq5:q<524288:=by omega
 have hs4:s≤4096:=by omega
 have hqs:s*q≤4096*524287:=Nat.mul_le_mul hs4 (by omega)
 obtain⟨a,ha⟩:∃ a,a=s*q:=⟨_,rfl⟩
 rw[←ha] at hqs hoy
 have hYe:Y=a+v - f:=by rw[hY,hoy]
 have hY31:Y<2147483648:=by omega
 have hk256:k<256:=by omega
 have e1:(x:Int)%4096=(v:Int):=by omega
 have e1t:(x:Int).tmod 4096=(v:Int):=by rw[Int.tmod_eq_emod_of_nonneg (by omega)];exact e1
 have e2:(x:Int)/4096=(q:Int):=by omega
 have e3:IntKind.i64.wrap ((q:Int)*(s:Int))=(a:Int):=by
  have e:(q:Int)*(s:Int)=(a:Int):=by rw[ha,Int.natCast_mul,Int.mul_comm]
  rw[e,IntKind.wrap_i64];omega
 have e4:IntKind.i64.wrap ((a:Int)+(v:Int))=(a:Int)+(v:Int):=by rw[IntKind.wrap_i64];omega
 have e5:wrap64 ((a:Int)+(v:Int) - (f:Int))=(Y:Int):=by rw[IntWalk.wrap64_in _ (by omega)];omega
 have e6:IntKind.u8.wrap (k:Int)=(k:Int):=by rw[IntKind.wrap_u8];omega
 have eq0:IntKind.i64.wrap (q:Int)=(q:Int):=by rw[IntKind.wrap_i64];omega
 rw[←hY]
 obtain⟨R,hR⟩:∃ R,R=fill Y S:=⟨_,rfl⟩
 rw[←hR]
 have HH:=jq h
 have HR:=jq (And.intro hR (And.intro hY31 (show jjq D D w w from jjq.refl _ _ _)))
 have HE:=jq (And.intro e2 (And.intro e3 (And.intro e4 (And.intro e5 eq0))))
 have HE6:=jq e6
 obtain⟨A,n,m,hb,-⟩:=h
 have hc0:=hb.cell 0
 have hDs:=hb.lt
 simp only[jy] at hc0
 unfold findV at C1
 simp only at C1
 clear hs l1 l2 l3 hnn hsum hp0 hg0 hgm hrb hoy hk hf hsv hv hq hY hfi hsi hfv hq5 hs4 hqs ha hYe hb e2 e3 e4 e5 e6 eq0 hR hY31
 go_enter func138,ntmps138
 go_wp2_with fail
 refine C1.out.mono ?_
 rintro _ w0 ⟨rfl,hw0⟩
 subst w0
 go_wp2_with fail
 refine C2.out.mono ?_
 rintro _ w2 ⟨rfl,hb2⟩
 have hd2:=HH.out.below hb2
 obtain⟨A2,n2,m2,hbl2,-⟩:=id hd2
 have hc0:=hbl2.cell 0
 have hf0:=hbl2.frozen 0
 have hDs2:=hbl2.lt
 simp only[jy] at hc0
 obtain⟨g2,g3,g4,g5,g0⟩:=HE.out
 obtain⟨hd3,ht3⟩:=hd2.setX Y
 have HREL:=jq (show OuRel w D K R (w2.setCell ⟨D,0,none⟩ (.int .i64 (Y:Int))) from ⟨Y,S,false,.inl ⟨rfl,HR.out.1.symm⟩,HR.out.2.1,hd3,(jjq.of_below hb2).trans ht3⟩)
 clear hd2 hbl2 hb2 hd3 ht3 C1 C2 HH HE
 go_wp2
 clear g2 g3 g4 g5 g0 hc0 hf0 e1 e1t
 go_loopw [] (OuRel w D K R) (fun wr=>decM wr D)
 case atStart=>exact HREL.out
 case round =>
  clear HREL
  obtain⟨x1,S1,sh,hcase,hx1,hd,ht⟩:=hrel
  have hm:=hd.m
  obtain⟨A3,n3,m3,hbl3,-⟩:=id hd
  have hc0:=hbl3.cell 0
  have hc2:=hbl3.cell 2
  have hDs3:=hbl3.lt
  simp only[jy,jx] at hc0 hc2
  have HT:=jq ht
  have HM:=jq hm
  have HD:=jq hd
  clear hbl3 hm ht
  by_cases hlt:x1<8388608
  ·have hli:(x1:Int)<8388608:=by omega
   cases sh with
   | false =>
    have hfl:fill x1 S1=R:=by
     rcases hcase with ⟨-,h⟩ | ⟨h,-⟩
     ·exact h
     ·cases h
    have C:=jq (qgm hd (by omega))
    have HF:=jq hfl
    clear hcase hfl hd
    go_wp2_with fail
    refine C.out.mono ?_
    rintro _ w5 ⟨rfl,hd5,ht5⟩
    have hm5:=hd5.m
    have HT5:=jq (HT.out.trans ht5)
    clear C ht5 hc0 hc2
    cases S1 with
    | nil =>
     have hR:R=none:=by rw[←HF.out];exact fill_none hlt
     have HD5:=jq hd5
     have HM5:=jq hm5
     clear hd5 hm5
     go_wp2
     go_roundw
     case rel=>exact⟨x1,[],true,.inr ⟨rfl,hR,hlt⟩,hx1,HD5.out,HT5.out⟩
     case measure=>rw[HM5.out,HM.out];simp[tkS]
    | cons b T =>
     have hR:fill (256*x1+b.toNat) T=R:=by rw[←HF.out];exact (fill_next b T hlt).symm
     have hb8:=b.toNat_lt
     have HD5:=jq hd5
     have HM5:=jq hm5
     have hx2:256*x1+b.toNat<2147483648:=by omega
     clear hd5 hm5
     go_wp2
     go_roundw
     case rel=>exact⟨256*x1+b.toNat,T,false,.inl ⟨rfl,hR⟩,hx2,HD5.out,HT5.out⟩
     case measure=>rw[HM5.out,HM.out];simp[tkS]
   | true =>
    have hRn:R=none:=by
     rcases hcase with ⟨h,-⟩ | ⟨-,h,-⟩
     ·cases h
     ·exact h
    clear hcase hd
    have e6:=HE6.out
    go_wp2
    go_ret
    exact⟨rfl,⟨_,_,HD.out⟩,HT.out,HR.out.2.1⟩
  ·have hli:¬ (x1:Int)<8388608:=by omega
   have hlib:decide ((x1:Int)<8388608)=false:=by simp;omega
   have hfl:sh=false∧fill x1 S1=R:=by
    rcases hcase with h | ⟨-,-,h⟩
    ·exact h
    ·exact absurd h hlt
   obtain⟨rfl,hfl⟩:=hfl
   have hRs:R=some (x1,S1):=by rw[←hfl];exact fill_stop _ (by omega)
   clear hcase hd hfl
   have e6:=HE6.out
   go_wp2
   go_ret
   exact⟨rfl,HD.out,HT.out,HR.out.2.1⟩
def tellD (r:List Int) (n x:Nat) (S:List UInt8) (sh:Bool):Option (List UInt8) :=
 if sh=true∨x<8388608∨2147483648≤x then none else (lets r n x S).bind fun q=>if q.2.1=8388608∧q.2.2=[] then some q.1 else none
theorem tellD_is (r:List Int) (n:Nat) (S:List UInt8):tellD r n (tks 4 0 S) (S.drop 4) (decide (S.length<4))=tellF r n S:=by
 unfold tellD tellF
 by_cases h:S.length<4
 ·rw[if_pos (.inl (by simpa using h)),if_pos (.inl h)]
 ·rw[tks_be4 (by omega)]
  have e:(decide (S.length<4)=true∨be4V S<8388608∨2147483648≤be4V S)↔(S.length<4∨be4V S<8388608∨2147483648≤be4V S):=by simp
  simp only[e]
def LetSays (w:World) (D:Nat) (R:Option (List UInt8)) (e:Ending) (w':World):Prop :=
 jjq D D w w'∧match R with
  | some X=>∃ v,e=.returned (.tuple #[v,.bool true])∧jjz X v w'
  | none=>∃ v,e=.returned (.tuple #[v,.bool false])
theorem DecS.belowB {w w':World} {D K x B:Nat} {S:List UInt8} {sh:Bool} (h:DecS w D K x S sh) (hb:Below B w w') (hD:D<B):DecS w' D K x S sh:=by
 obtain⟨A,n,m,h1,h2,h3,h4,h5,h6⟩:=h
 exact⟨A,n,m,(hb.block _ hD).trans h1,h2.below (hb.mono (by omega)),h3,h4,h5,h6⟩
def LeRel (w:World) (D K n:Nat) (r:List Int) (R:Option (List UInt8 × Nat × List UInt8)) (bv iv:Value) (wr:World):Prop :=
 ∃ (j x1:Nat) (S1 X:List UInt8),j≤n∧iv=.int .i64 (j:Int)∧X.length=j∧(lets r (n - j) x1 S1).map (fun q=>(X++q.1,q.2))=R∧8388608≤x1∧x1<2147483648∧DecS wr D K x1 S1 false∧wr.ownsRow w.heap.size 5 1 bv j (bvs X)∧jjq D D w wr
theorem ransLetters_any {w:World} {D K x n P:Nat} {S:List UInt8} {sh:Bool} {r:List Int} (h:DecS w D K x S sh) (hs:jwf w P r 12 4096) (hl:r.length=256) (hn:n≤100000) :
  Calls prog 93 #[.pointer (some ⟨D,0,none⟩),.pointer (some ⟨P,0,none⟩),.int .i64 (n:Int)] w (LetSays w D (tellD r n x S sh)):=by
 obtain⟨i0,hi0,hz0,hz1,hz2⟩:=info_parts qzg
 have hDs:=h.lt
 obtain⟨A,n0,m0,hb,-⟩:=id h
 have hc0:=hb.cell 0
 have hc2:=hb.cell 2
 simp only[jy,jx] at hc0 hc2
 by_cases hbad:sh=true∨x<8388608∨2147483648≤x
 ·have ht:tellD r n x S sh=none:=by unfold tellD;rw[if_pos hbad]
  rw[ht]
  have HT:=jq (show LetSays w D none (.returned (.tuple #[.slice none 0 0,.bool false])) w from ⟨jjq.refl _ _ _,_,rfl⟩)
  clear h hs hb ht
  cases sh with
  | true =>
   clear hbad hc0
   go_enter func93,ntmps93
   go_wp2
   go_ret2
   exact HT.out
  | false =>
   by_cases h1:x<8388608
   ·have h1i:(x:Int)<8388608:=by omega
    clear hbad
    go_enter func93,ntmps93
    go_wp2
    go_ret2
    exact HT.out
   ·have h1i:¬ (x:Int)<8388608:=by omega
    have h2i:(2147483648:Int)≤(x:Int):=by
     rcases hbad with h | h | h
     ·cases h
     ·exact absurd h h1
     ·omega
    clear hbad h1
    go_enter func93,ntmps93
    go_wp2
    go_ret2
    exact HT.out
 ·obtain⟨rfl,h1,h2⟩:sh=false∧8388608≤x∧x<2147483648:=by
   refine⟨?_,by omega,by omega⟩
   cases sh with
   | true=>exact absurd (.inl rfl) hbad
   | false=>rfl
  have h1i:¬ (x:Int)<8388608:=by omega
  have h2i:¬ (2147483648:Int)≤(x:Int):=by omega
  have ht:tellD r n x S false=(lets r n x S).bind fun q=>if q.2.1=8388608∧q.2.2=[] then some q.1 else none:=by unfold tellD;rw[if_neg hbad]
  obtain⟨R,hR⟩:∃ R,R=lets r n x S:=⟨_,rfl⟩
  rw[←hR] at ht
  rw[ht]
  have HL:=jq hl
  have HREL:=jq (show LeRel w D K n r R (.slice none 0 0) (.int .i64 ((0:Nat):Int)) w from ⟨0,x,S,[],Nat.zero_le _,rfl,rfl,by rw[hR,Nat.sub_zero];simp,h1,h2,h,World.ownsRow_nil _ _ _ _,jjq.refl _ _ _⟩)
  have HS:=jq (And.intro hs h)
  clear h hs hb ht hR hbad h1 h2 hl
  go_enter func93,ntmps93
  go_wp2
  clear hc0 hc2
  go_loopw [8,28] (LeRel w D K n r R) (fun _ i _=>n - (intOf i).toNat)
  case atStart=>exact HREL.out
  case round =>
   clear HREL
   obtain⟨j,x1,S1,X,hj,rfl,hX,hlets,hx1,hx2,hd,hown,htb⟩:=hrel
   have hsl:=HS.out.1.turn HS.out.2 htb
   obtain⟨Ab,cb,rfl,-,-,-⟩:=jjk hown
   have hDw:=hd.lt
   by_cases hlt:j<n
   ·obtain⟨t,htt⟩:∃ t,n - j=t+1:=⟨n - j - 1,by omega⟩
    have htn:n - (j+1)=t:=by omega
    rw[htt] at hlets
    have C:=jq (ransOut_any hd hx2 hsl HL.out)
    obtain⟨-,lk,-⟩:=letOf_is hsl x1
    simp only[lets] at hlets
    have hk256:jmc r x1<256:=by rw[HL.out] at lk;exact lk
    obtain⟨F,hF⟩:∃ F,F=fill (outY r x1) S1:=⟨_,rfl⟩
    rw[←hF] at hlets C
    obtain⟨k,hk⟩:∃ k,k=jmc r x1:=⟨_,rfl⟩
    rw[←hk] at C hk256 hlets
    have hji:(j:Int)<(n:Int):=by omega
    have HF:=jq hF
    have HLE:=jq hlets
    have HSL:=jq hsl
    have HD:=jq hd
    have HOWN:=jq hown
    have HTB:=jq htb
    have HJ:=jq (And.intro hX (And.intro htn hlt))
    clear lk hF hk hlets hsl hd hown htb hX htt htn
    go_wp2_with fail
    refine C.out.mono ?_
    rintro _ w5 ⟨rfl,hod,ht5,hY⟩
    have HOWN5:=jq (own_turns (T:=D) (S:=D) HOWN.out ht5 hDs hDs)
    have HTB5:=jq (HTB.out.trans ht5)
    have hsz5:=HTB5.out.size
    have HY:=jq hY
    have hjb:j≤100000:=by omega
    clear ht5 hY C HOWN HTB HD HSL
    cases F with
    | none =>
     have hRn:R=none:=by have:=HLE.out;simp only[Option.bind_none,Option.map_none] at this;exact this.symm
     obtain⟨x6,S6,hd6⟩:=hod
     have HD6:=jq hd6
     clear hd6
     go_wp2_with ((with_reducible show wpList _ _ _ (({ dst:=some 35,op:=_,type:=_,pos:=_,after:=_,guard:=_ }:Oper)::_) _ _);go_must (refine jjd rfl (.tmp 30) (.tmp 34) 22 rfl w.heap.size 5 i0 (.int .u8 0) 1 1 underlying22 hi0 hz0 hz1 hz2 rfl (by decide) _ _ _ rfl (HOWN5.out.alloc _) _ _ 1 1 _ rfl (Rd.new _ _ _) rfl (by intro u hu;simp at hu;subst hu;rfl) (by simp only[maxLen];omega) (by omega) (by simp;omega) ?_;intro v6 w6 hown6 hg6;have hrow:=jjb HOWN5.out;have ht6:=(HTB5.out.allocO (.cells #[.int .u8 (k:Int)] 5)).growO hg6 hrow;have hb6:Below w.heap.size w5 w6:=((Below.refl _ _).alloc hsz5 _).grown hg6 (by simp;omega) hrow;obtain⟨A6,n6,m6,hbl6,-⟩:=HD6.out.belowB hb6 hDs;have hc6:=hbl6.cell 2;simp only[jy,jx] at hc6;have HT6:=jq ht6;have hD6s:=hbl6.lt;clear hown6 hg6 hrow ht6 hb6 hbl6))
     go_wp2
     go_ret2
     refine⟨HT6.out,?_⟩
     rw[hRn]
     exact⟨_,rfl⟩
    | some p =>
     obtain⟨x2,S2⟩:=p
     have hR2:(lets r (n - (j+1)) x2 S2).map (fun q=>((X++[UInt8.ofNat k])++q.1,q.2))=R:=by
      have:=HLE.out
      simp only[Option.bind_some,Option.map_map] at this
      rw[HJ.out.2.1,←this]
      congr 1
      funext q
      simp
     have hd5:DecS w5 D K x2 S2 false:=hod
     have hrg:=fill_range _ _ _ _ HF.out.symm
     have HD6:=jq hd5
     have HR2:=jq (And.intro hR2 (And.intro hrg.1 (hrg.2 HY.out)))
     clear hd5 hR2 hrg hod
     go_wp2_with ((with_reducible show wpList _ _ _ (({ dst:=some 35,op:=_,type:=_,pos:=_,after:=_,guard:=_ }:Oper)::_) _ _);go_must (refine jjd rfl (.tmp 30) (.tmp 34) 22 rfl w.heap.size 5 i0 (.int .u8 0) 1 1 underlying22 hi0 hz0 hz1 hz2 rfl (by decide) _ _ _ rfl (HOWN5.out.alloc _) _ _ 1 1 _ rfl (Rd.new _ _ _) rfl (by intro u hu;simp at hu;subst hu;rfl) (by simp only[maxLen];omega) (by omega) (by simp;omega) ?_;intro v6 w6 hown6 hg6;have hrow:=jjb HOWN5.out;have ht6:=(HTB5.out.allocO (.cells #[.int .u8 (k:Int)] 5)).growO hg6 hrow;have hb6:Below w.heap.size w5 w6:=((Below.refl _ _).alloc hsz5 _).grown hg6 (by simp;omega) hrow;have hd7:=HD6.out.belowB hb6 hDs;obtain⟨A6,n6,m6,hbl6,-⟩:=id hd7;have hc6:=hbl6.cell 2;simp only[jy,jx] at hc6;have HT6:=jq ht6;have HD7:=jq hd7;have HO6:=jq hown6;have hD6s:=hbl6.lt;clear hown6 hg6 hrow ht6 hb6 hbl6 hd7))
     have hbv:bvs (X++[UInt8.ofNat k])=bvs X++[.int .u8 (k:Int)]:=by simp[bvs,UInt8.toNat_ofNat',Nat.mod_eq_of_lt hk256]
     go_wp2
     go_roundw
     case rel=>exact⟨j+1,x2,S2,X++[UInt8.ofNat k],by have:=HJ.out.2.2;omega,by go_num,by rw[List.length_append,List.length_singleton,HJ.out.1],HR2.out.1,HR2.out.2.1,HR2.out.2.2,HD7.out,by rw[hbv];exact HO6.out,HT6.out⟩
     case measure=>have:=HJ.out.2.2;simp[intOf];omega
   ·obtain rfl:j=n:=by omega
    rw[Nat.sub_self] at hlets
    simp only[lets,Option.map_some,List.append_nil] at hlets
    subst hlets
    obtain⟨A3,n3,m3,hbl3,-,hn3,-⟩:=id hd
    have hc0:=hbl3.cell 0
    have hc1:=hbl3.cell 1
    simp only[jy,jx] at hc0 hc1
    have HO:=jq hown
    have HT:=jq htb
    have hlX:=hX
    clear hd hown htb hbl3 hsl hlt
    by_cases hxe:x1=8388608
    ·subst hxe
     cases S1 with
     | nil =>
      obtain rfl:n3=0:=by rw[←hn3];rfl
      have HE:=jq (fun (W:World) (hW:W.heap=wr.heap) (ht:jjq D D w W)=>show LetSays w D ((some (X,8388608,([]:List UInt8))).bind fun q=>if q.2.1=8388608∧q.2.2=[] then some q.1 else none) (.returned (.tuple #[.slice Ab j cb,.bool true])) W from ⟨ht,by
       simp only[Option.bind_some,and_self,if_true]
       refine⟨_,rfl,?_⟩
       have h2:W.ownsRow w.heap.size 5 1 (.slice Ab X.length cb) X.length (bvs X):=by
        rw[hlX]
        refine⟨HO.out.1,?_⟩
        rw[hW];exact HO.out.2
       have h3:=jjz.of_own h2
       rw[hlX] at h3
       exact h3⟩)
      clear hlX
      go_wp2
      go_quiet (fail)
      go_wp2
      go_ret2
      exact HE.out _ rfl ⟨HT.out.os,HT.out.tape,HT.out.output,HT.out.size,HT.out.block⟩
     | cons b T =>
      have hn0:¬ (n3:Int)=0:=by rw[←hn3,List.length_cons];omega
      have hn0b:((n3:Int)==0)=false:=by rw[beq_eq_false_iff_ne];exact hn0
      have hn0n:¬ n3=0:=by omega
      have HE:=jq (fun (W:World) (ht:jjq D D w W)=>show LetSays w D ((some (X,8388608,b::T)).bind fun q=>if q.2.1=8388608∧q.2.2=[] then some q.1 else none) (.returned (.tuple #[.slice Ab j cb,.bool false])) W from ⟨ht,by
       simp only[Option.bind_some]
       rw[if_neg (by simp)]
       exact⟨_,rfl⟩⟩)
      clear hlX hn3
      go_wp2
      go_quiet (fail)
      go_wp2
      go_ret2
      exact HE.out _ ⟨HT.out.os,HT.out.tape,HT.out.output,HT.out.size,HT.out.block⟩
    ·have hxi:¬ (x1:Int)=8388608:=by omega
     have hxb:((x1:Int)==8388608)=false:=by rw[beq_eq_false_iff_ne];exact hxi
     have HE:=jq (fun (W:World) (ht:jjq D D w W)=>show LetSays w D ((some (X,x1,S1)).bind fun q=>if q.2.1=8388608∧q.2.2=[] then some q.1 else none) (.returned (.tuple #[.slice Ab j cb,.bool false])) W from ⟨ht,by
      simp only[Option.bind_some]
      rw[if_neg (fun h=>hxe h.1)]
      exact⟨_,rfl⟩⟩)
     clear hlX
     go_wp2
     go_quiet (fail)
     go_wp2
     go_ret2
     exact HE.out _ ⟨HT.out.os,HT.out.tape,HT.out.output,HT.out.size,HT.out.block⟩
end
section
open Go.RowKit Go.Sort Go.Shelf
def jmq (w:World) (T:Nat) (A:Option Addr) (n m:Nat) (at_:Nat) (bad:Bool):Prop :=
 Blk w T 183 [.slice A n m,.int .i64 (at_:Int),.bool bad]
theorem lget_ok {l:List UInt8} {k j e:Nat} (h:lget l=(k,j,e)):k<18446744073709551616∧j≤l.length∧(e=0→0<j):=by
 rcases lget_told l with ⟨q,h1,h2,h3,-⟩ | h1 | h1
 ·rw[h] at h1
  simp only[Prod.mk.injEq] at h1
  obtain⟨rfl,rfl,rfl⟩:=h1
  exact⟨h2,h3,fun _=>lput_pos _⟩
 ·rw[h] at h1
  simp only[Prod.mk.injEq] at h1
  obtain⟨rfl,rfl,rfl⟩:=h1
  exact⟨by decide,Nat.zero_le _,fun h=>by cases h⟩
 ·rw[h] at h1
  simp only[Prod.mk.injEq] at h1
  obtain⟨rfl,rfl,rfl⟩:=h1
  exact⟨by decide,Nat.zero_le _,fun h=>by cases h⟩
section
variable {w:World} {B T:Nat} {A:Option Addr} {n m:Nat} {l:List UInt8}
theorem rd_from {at_:Nat} (hr:Rd w B A (bvs l)) (hn:l.length=n) (hnm:n≤m) (hat:at_≤n):Rd w B (if m=at_ then A else Option.map (fun x=>x.add at_) A) (bvs (l.drop at_)):=by
 by_cases h:m=at_
 ·rw[List.drop_of_length_le (by omega)];exact Rd.nil_ _ _ _
 ·rw[if_neg h,←jxj];exact hr.drop at_
theorem lebGet_from {at_:Nat} {k j e:Nat} (hr:Rd w w.heap.size A (bvs l)) (hn:l.length=n) (hnm:n≤m) (hn1:n≤1000000) (hat:at_≤n) (hg:lget (l.drop at_)=(k,j,e)) (W:World) (hW:W.heap=w.heap) :
  Calls prog 184 #[.slice (if m=at_ then A else Option.map (fun x=>x.add at_) A) (n - at_) (m - at_)] W fun e' w'=>e'=.returned (.tuple #[.int .u64 k,.int .i64 j,.int .i64 e])∧w'=W :=
 (lebGet_any _ _ _ (l.drop at_) W (rd_from (rd_same (by rw[hW];exact hr) hW) hn hnm hat) (by rw[List.length_drop,hn]) (by omega) k j e hg).mono fun _ _ h=>⟨h.1,h.2.symm⟩
theorem histNext_ok {at_ k j below:Nat} {bad:Bool} (ht:jmq w T A n m at_ bad) (hr:Rd w w.heap.size A (bvs l)) (hn:l.length=n) (hnm:n≤m) (hn1:n≤1000000) (hat:at_≤n) (hg:lget (l.drop at_)=(k,j,0)) (hk:k<below) (hb:below≤65536) :
  Calls prog 136 #[.pointer (some ⟨T,0,none⟩),.int .i64 (below:Int)] w fun e w'=>e=.returned (.int .i64 (k:Int))∧jmq w' T A n m (at_+j) bad∧jjj T [183] w w':=by
 unfold jmq at ht ⊢
 have hjl:=(lget_ok hg).2.1
 rw[List.length_drop] at hjl
 have hj1:at_+j≤1000000:=by omega
 have hc0:=ht.cell 0
 have hc1:=ht.cell 1
 have hc2:=ht.cell 2
 have hf1:=ht.frozen 1
 simp only[jy,jx] at hc0 hc1 hc2
 have HT:=jq ht
 have HR:=jq hr
 have HN:=jq hn
 have HG:=jq hg
 have hati:(at_:Int)≤(n:Int):=by omega
 have hmi:(n:Int)≤(m:Int):=by omega
 have C:=jq (lebGet_from hr hn hnm hn1 hat hg)
 clear ht hr hn hg hjl
 go_enter func136,ntmps136
 go_wp2
 go_quiet ((go_at_call 184;exact jbc C.out))
 go_wp2
 all_goals go_ret
 all_goals try subst_vars
 all_goals refine⟨rfl,?_,((jjj.refl T [183] w).drewN nq).trans (jjj.set_ (HT.out.same (w':=w.drewN nq) rfl) jw _ (by simp))⟩
 all_goals (have hs:=(HT.out.same (w':=w.drewN nq) rfl).set_ 1 (.int .i64 ((at_+j:Nat):Int));exact hs)
theorem histNext_bad {at_ k j e below:Nat} {bad:Bool} (ht:jmq w T A n m at_ bad) (hr:Rd w w.heap.size A (bvs l)) (hn:l.length=n) (hnm:n≤m) (hn1:n≤1000000) (hat:at_≤n) (hg:lget (l.drop at_)=(k,j,e)) (hk:e≠0∨below≤k) (hb:below≤65536) :
  Calls prog 136 #[.pointer (some ⟨T,0,none⟩),.int .i64 (below:Int)] w fun e w'=>e=.returned (.int .i64 0)∧jmq w' T A n m at_ true∧jjj T [183] w w':=by
 unfold jmq at ht ⊢
 have hk64:=(lget_ok hg).1
 have hc0:=ht.cell 0
 have hc1:=ht.cell 1
 have hc2:=ht.cell 2
 have hf2:=ht.frozen 2
 simp only[jy,jx] at hc0 hc1 hc2
 have HT:=jq ht
 have hati:(at_:Int)≤(n:Int):=by omega
 have hmi:(n:Int)≤(m:Int):=by omega
 have C:=jq (lebGet_from hr hn hnm hn1 hat hg)
 clear ht hr hn hg
 by_cases he:e=0
 ·subst he
  have hki:(below:Int)≤(k:Int):=by omega
  clear hk
  go_enter func136,ntmps136
  go_wp2
  go_quiet ((go_at_call 184;exact jbc C.out))
  go_wp2
  all_goals go_ret
  all_goals try subst_vars
  all_goals exact⟨rfl,(HT.out.same (w':=w.drewN nq) rfl).set_ 2 _,((jjj.refl T [183] w).drewN nq).trans (jjj.set_ (HT.out.same (w':=w.drewN nq) rfl) jw _ (by simp))⟩
 ·have hei:¬ ((e:Int)=0):=by omega
  clear hk he
  go_enter func136,ntmps136
  go_wp2
  go_quiet ((go_at_call 184;exact jbc C.out))
  go_wp2
  all_goals go_ret
  all_goals try subst_vars
  all_goals exact⟨rfl,(HT.out.same (w':=w.drewN nq) rfl).set_ 2 _,((jjj.refl T [183] w).drewN nq).trans (jjj.set_ (HT.out.same (w':=w.drewN nq) rfl) jw _ (by simp))⟩
end
def HGot (w:World) (r:Option (List Int × Nat)) (e:Ending) (w':World):Prop :=
 Below w.heap.size w w'∧match r with
 | none=>e=.returned (.tuple #[.slice none 0 0,.int .i64 0,.int .i64 16])
 | some (l,k)=>l.length=256∧∃ S,e=.returned (.tuple #[.slice (some ⟨S,0,none⟩) (256:Nat) 256,.int .i64 (k:Int),.int .i64 0])∧Blk w' S 3 (zvs l)
theorem HGot.no {w w':World} {r:Option (List Int × Nat)} (hb:Below w.heap.size w w') (h:r=none):HGot w r (.returned (.tuple #[.slice none 0 0,.int .i64 0,.int .i64 16])) w':=by
 subst h;exact⟨hb,rfl⟩
theorem HGot.yes {w w':World} {r:Option (List Int × Nat)} {l:List Int} {k S:Nat} (hb:Below w.heap.size w w') (h:r=some (l,k)) (hl:l.length=256) (hS:Blk w' S 3 (zvs l)):HGot w r (.returned (.tuple #[.slice (some ⟨S,0,none⟩) (256:Nat) 256,.int .i64 (k:Int),.int .i64 0])) w':=by
 subst h;exact⟨hb,hl,S,rfl,hS⟩
def GotRel (w:World) (S K:Nat) (A:Option Addr) (n m:Nat) (l:List UInt8) (G:Option (List Int × Nat)) (T:Int) (lv av:Value) (wr:World):Prop :=
 ∃ (a:Nat) (lf:Int) (s:Nat) (bad:Bool) (Q:List Int),lv=.int .i64 lf∧av=.int .i64 (a:Int)∧a≤256 ∧ -1≤lf∧lf≤65536∧s≤n∧Q.length=256∧Blk wr S 3 (zvs Q)∧jmq wr K A n m s bad∧Below w.heap.size w wr∧Hid (GetInv G T l a lf s bad Q)
section
variable {w:World} {B K:Nat} {A:Option Addr} {n m:Nat} {l:List UInt8}
theorem qqz {at_ below:Nat} {bad:Bool} (ht:jmq w K A n m at_ bad) (hr:Rd w w.heap.size A (bvs l)) (hn:l.length=n) (hnm:n≤m) (hn1:n≤1000000) (hat:at_≤n) (hb:below≤65536) :
  Calls prog 136 #[.pointer (some ⟨K,0,none⟩),.int .i64 (below:Int)] w fun e w'=>∃ (k s:Nat) (bad':Bool),e=.returned (.int .i64 (k:Int))∧k≤65536∧s≤n∧jmq w' K A n m s bad'∧jjj K [183] w w'∧NextSays l at_ below bad k s bad':=by
 obtain⟨⟨k,j,e⟩,hg⟩:∃ t,lget (l.drop at_)=t:=⟨_,rfl⟩
 by_cases h:e=0∧k<below
 ·obtain⟨rfl,hk⟩:=h
  have hjl:=(lget_ok hg).2.1
  rw[List.length_drop] at hjl
  exact (histNext_ok ht hr hn hnm hn1 hat hg hk hb).mono fun _ w' ⟨h1,h2,h3⟩=>⟨k,at_+j,bad,h1,by omega,by omega,h2,h3,.inl ⟨rfl,hk,j,hg,rfl⟩⟩
 ·exact (histNext_bad ht hr hn hnm hn1 hat hg (by omega) hb).mono fun _ w' ⟨h1,h2,h3⟩=>⟨0,at_,true,h1,by omega,hat,h2,h3,.inr ⟨rfl,rfl,rfl,k,j,e,hg,by omega⟩⟩
theorem histGet_any (b T:Nat) (hb1:1≤b) (hb2:b≤16) (hT:T=2^b) (hr:Rd w w.heap.size A (bvs l)) (hn:l.length=n) (hnm:n≤m) (hn1:n≤1000000) :
  Calls prog 90 #[.slice A n m,.int .i64 (b:Int)] w (HGot w (hGot (T:Int) l)):=by
 obtain⟨i0,hi,hz0,hz1,hz2⟩:=info_parts jwk
 have hT1:T≤65536:=by rw[hT];exact Nat.pow_le_pow_right (n:=2) (by decide) hb2
 have hpow:(2:Int)^b=(T:Int):=by rw[hT];simp
 obtain⟨R,hR⟩:∃ R,R=hGot (T:Int) l:=⟨_,rfl⟩
 rw[←hR]
 have HRR:=jq hR
 have HR:=jq hr
 have HN:=jq hn
 clear hr hn hT hR
 go_enter func90,ntmps90
 go_wp2
 refine jyw [⟨17,[],.such (jwz w.heap.size 256) (jwz.grow w.heap.size 256)⟩,
  ⟨18,[],.is (.int .i64 (b:Int))⟩,
  ⟨19,[1],.is (.int .i64 (T:Int))⟩,
  ⟨7,[0],.such (jwz w.heap.size 256) (jwz.grow w.heap.size 256)⟩,
  ⟨8,[2],.is (.int .i64 (T:Int))⟩]
  [(1,.int .i64 (b:Int))] (by kernel_rfl) (by kernel_rfl) (by kernel_rfl) (by kernel_rfl) (by kernel_rfl) ⟨rfl,trivial⟩ ?_ ?_
 ·repeat' (first | exact jzr.nil | refine jzr.cons ?_ ?_)
  all_goals (intro ev yi w1 hB hc hf ho hn;simp only[jyk,jdn,rowAt,Fact.says,and_true] at ho hn)
  all_goals (try ((simp[jzv,execOp,Region.wanted,Fact.says,go_sem,ho,hn,hc,Below.refl];done)))
  ·rw[if_pos (by simp[Region.wanted])]
   exact says_mk rfl 3 i0 (.int .i64 0) underlying35 hi hz0 rfl hz1 (by rw[hz2];decide) 256 (hc _) (hc _) (by omega) ⟨⟨w1.heap.size,rfl,hB.size,by
    have h:=heap_alloc_new w1 (.cells (List.replicate 256 (Value.int .i64 0)).toArray 3)
    unfold Blk
    rw[h]
    simp[zvs]⟩,(Below.refl _ _).alloc jw _⟩
  ·rw[if_pos (by simp[Region.wanted])]
   simp[jzv,execOp,go_sem,hn,hc,Fact.says]
   have hpow2:((2:Int)^b)=(T:Int):=hpow
   rw[hpow2]
   refine⟨by rw[IntKind.wrap_i64];omega,Below.refl _ _⟩
 ·intro x w1 hb1 hx
  obtain⟨S,h7,hS,hblk⟩:jwz w.heap.size 256 (x 3) w1:=hx 3 (by decide)
  have h8:x 4=.int .i64 (T:Int):=hx 4 (by decide)
  clear hx
  simp only[layAll,List.setIfInBounds_toArray,List.set_cons_succ,List.set_cons_zero,h7,h8]
  have HB1:=jq hb1
  have HBL:=jq hblk
  have HS:=jq hS
  clear hb1 hblk hS h7 h8
  have hSl:=HBL.out.lt
  have hK0:jmq (w1.alloc (.cells #[.slice A n m,.int .i64 0,.bool false] 183)) w1.heap.size A n m 0 false:=heap_alloc_new w1 _
  have hb2:=HB1.out.alloc HB1.out.size (.cells #[.slice A n m,.int .i64 0,.bool false] 183)
  have C1:=jq (qqz (below:=257) hK0 ((HR.out.below hb2).more hb2.size) HN.out hnm hn1 (Nat.zero_le _) (by decide))
  have HBL2:=jq (HBL.out.alloc_ (.cells #[.slice A n m,.int .i64 0,.bool false] 183))
  have HB2:=jq hb2
  have HKK:=jq HB1.out.size
  clear hK0 hb2 HBL HB1
  go_wp2_with fail
  refine C1.out.mono ?_
  rintro e w2 ⟨k,s,bad,rfl,-,hsn,hk2,ho2,hns⟩
  have hb2:=HB2.out.trans (((ho2.base (B':=w.heap.size) HKK.out).below HB2.out.size).mono jw)
  have hbl2:=HBL2.out.only ho2 (by decide)
  have hinv:=inv_start (T:=(T:Int)) (by omega) hns
  have HREL:=jq (show GotRel w S w1.heap.size A n m l (hG [] l 0) (T:Int) (.int .i64 (T:Int)) (.int .i64 (k:Int)) w2 from ⟨k,T,s,bad,_,rfl,rfl,hinv.1,by omega,by omega,hsn,by simp,hbl2,hk2,hb2,hinv.2⟩)
  obtain⟨K,hK⟩:∃ K,K=w1.heap.size:=⟨_,rfl⟩
  rw[←hK] at HREL hSl
  simp only[←hK]
  have HK:=jq (show w.heap.size≤K by rw[hK];exact HKK.out)
  have HKS:=jq hSl
  have HSS:=jq HS.out
  clear hinv hbl2 hb2 ho2 hns hk2 hK HBL2 HB2 C1 HKK hSl HS
  go_wp2
  go_loopw [8,10] (GotRel w S K A n m l (hG [] l 0) (T:Int)) (fun _ a _=>256 - (intOf a).toNat)
  case atStart=>exact HREL.out
  case round =>
   clear HREL
   obtain⟨a,lf,s,bad,Q,rfl,rfl,ha,hl1,hl2,hs,hQ,hblk,htk,hb,HI⟩:=hrel
   have HB:=jq hb
   have HBL:=jq hblk
   have HTK:=jq htk
   have hQS:=hb.size
   have hc1:=htk.cell 1
   have hc2:=htk.cell 2
   simp only[jy,jx] at hc1 hc2
   clear hb hblk htk
   cases bad with
   | true =>
    have HE:=jq ((inv_end HI.out (by intro h;cases h)).1 (.inl rfl))
    clear HI
    by_cases hlt:a<256
    ·have hli:(a:Int)<256:=by omega
     clear hlt
     go_wp2
     go_ret3
     exact HGot.no HB.out (HRR.out.trans HE.out)
    ·have hli:¬ (a:Int)<256:=by omega
     clear hlt
     go_wp2
     go_ret3
     exact HGot.no HB.out (HRR.out.trans HE.out)
   | false =>
    by_cases hlt:a<256
    ·have hli:(a:Int)<256:=by omega
     have hlf0:0≤lf:=by
      rcases HI.out with ⟨h,-⟩ | ⟨-,P,-,-,-,h,-⟩
      ·cases h
      ·exact h
     obtain⟨lf,rfl⟩:=Int.eq_ofNat_of_zero_le hlf0
     have C1:=jq (fun (W:World) (h1:jmq W K A n m s false) (h2:Rd W W.heap.size A (bvs l))=>qqz (below:=lf) h1 h2 HN.out hnm hn1 hs (by omega))
     clear hlf0 hlt
     go_wp2_with fail
     refine (C1.out wr HTK.out ((HR.out.below HB.out).more hQS)).mono ?_
     rintro e w3 ⟨k1,s1,bad1,rfl,hk1,hs1,ht1,ho1,hns1⟩
     have hbl1:=HBL.out.only ho1 (by decide)
     have hb1:=HB.out.trans (((ho1.base (B':=w.heap.size) HK.out).below hQS).mono jw)
     have hcS:=hbl1.cell a
     have hfS:=hbl1.frozen a
     rw[jql,List.getElem?_eq_getElem (show a<Q.length by omega)] at hcS
     simp only[Option.map_some] at hcS
     obtain⟨q0,hq0⟩:∃ q0,q0=Q[a]'(by omega):=⟨_,rfl⟩
     rw[←hq0] at hcS
     have hset:=hbl1.set_ a (.int .i64 (1+(k1:Int)))
     rw[jms] at hset
     have HSET:=jq hset
     have hSK:K≠S:=by have:=HKS.out;omega
     have HTK1:=jq (Blk.setOther ht1 ⟨S,a,none⟩ (.int .i64 (1+(k1:Int))) hSK)
     have HB3:=jq (hb1.setCell (p:=⟨S,a,none⟩) HSS.out (.int .i64 (1+(k1:Int))))
     have HNS1:=jq hns1
     clear hbl1 hb1 ht1 ho1 hq0 hset hns1 C1 hc1 hc2 HBL HTK HB hSK
     have hb3s:=HB3.out.size
     have C2:=jq (qqz (below:=256 - a) HTK1.out ((HR.out.below HB3.out).more hb3s) HN.out hnm hn1 hs1 (by omega))
     rw[show ((256 - a:Nat):Int)=256 - (a:Int) by omega] at C2
     have HW3:=jq (rfl:(w3.setCell ⟨S,a,none⟩ (.int .i64 (1+(k1:Int))))=_)
     go_wp2_with fail
     refine C2.out.mono ?_
     rintro e w4 ⟨k2,s2,bad2,rfl,hk2,hs2,ht2,ho2,hns2⟩
     have hbl2:=HSET.out.only ho2 (by decide)
     have hb4:=HB3.out.trans (((ho2.base (B':=w.heap.size) HK.out).below hb3s).mono jw)
     obtain⟨i1,i2,i3⟩:=inv_step HI.out (by omega) (by omega) (by rw[Int.toNat_natCast];exact HNS1.out) hns2
     have HF:=jq (And.intro hs2 (And.intro hbl2 (And.intro ht2 (And.intro hb4 i3))))
     have hl3 : -1≤(lf:Int) - (1+(k1:Int)):=by omega
     have hl4:(lf:Int) - (1+(k1:Int))≤65536:=by omega
     clear C2 HW3 hcS hfS HSET HTK1 HB3 HNS1 HI ht2 ho2 hns2 hbl2 hb4 i3 hs2 hb3s
     go_wp2
     obtain⟨f1,f2,f3,f4,f5⟩:=HF.out
     refine⟨⟨_,_,_,_,_,_,_,_,_,_,_,_,_,_,_,_,_,_,_,_,_,_,_,_,_,_,_,_,_,_,_,⟨a+(1+k2),_,s2,bad2,_,rfl,by go_num,i1,hl3,hl4,f1,by rw[List.length_set];exact hQ,f2,f3,f4,jq f5⟩,rfl⟩,?_⟩
     simp[intOf];omega
    ·obtain rfl:a=256:=by omega
     have hli:¬ ((256:Nat):Int)<256:=by omega
     have HE:=jq (inv_end HI.out (fun _=>rfl))
     clear hlt HI
     by_cases h0:lf=0
     ·subst h0
      have HE2:=jq (HE.out.2 rfl rfl)
      clear HE
      go_wp2
      go_quiet (fail)
      go_wp2
      go_ret3
      exact HGot.yes (below_drewN HB.out nq) (HRR.out.trans HE2.out) hQ (HBL.out.same rfl)
     ·have hzf:(lf==0)=false:=beq_eq_false_iff_ne.2 h0
      have HE2:=jq (HE.out.1 (.inr h0))
      clear HE
      go_wp2
      go_ret3
      exact HGot.no HB.out (HRR.out.trans HE2.out)
end
end
section
open Go.RowKit Go.Sort
def jdl (w:World) (Q:List UInt8 × Nat) (e:Ending) (w':World):Prop:=∃ v,e=.returned (.tuple #[v,.int .i64 (Q.2:Int)])∧jjz Q.1 v w'∧Below w.heap.size w w'
theorem jdt (w:World):jjz [] (.slice none 0 0) w:=⟨none,0,rfl,Nat.le_refl _,Rd.nil_ _ _ _⟩
def decQ:Option (List UInt8)→List UInt8 × Nat
 | some X=>(X,0)
 | none=>([],16)
theorem ransDec_nil (A:Option Addr) (m:Nat) (w:World):Calls prog 57 #[.slice A (0:Nat) m,.int .i64 0] w (jdl w ([],0)):=by
 go_enter func57,ntmps57
 go_wp2
 go_ret2
 exact⟨_,rfl,jdt _,Below.refl _ _⟩
section
variable {w:World} {A:Option Addr} {p m N:Nat} {l:List UInt8}
theorem ransDec_none (hr:Rd w w.heap.size A (bvs l)) (hp:l.length=p) (hpm:p≤m) (hp1:p≤1000000) (hN:N≤100000) (hne:¬ (N=0∧p=0)) (hg:hGot ((4096:Nat):Int) l=none) :
  Calls prog 57 #[.slice A p m,.int .i64 (N:Int)] w (jdl w ([],16)):=by
 have C1:=jq (histGet_any 12 4096 (by decide) (by decide) rfl hr hp hpm hp1)
 rw[hg] at C1
 have hNi:(N:Int)≤100000:=by omega
 have hN0:(0:Int)≤(N:Int):=by omega
 have HX:=jq (fun (W:World) (hb:Below w.heap.size w W)=>show jdl w ([],16) (.returned (.tuple #[.slice none 0 0,.int .i64 16])) W from ⟨_,rfl,jdt _,hb⟩)
 clear hr hp hg
 by_cases h0:N=0
 ·subst h0
  have hp0:¬ (p:Int)=0:=by omega
  have hp0b:((p:Int)==0)=false:=by rw[beq_eq_false_iff_ne];exact hp0
  have hp0n:¬ p=0:=by omega
  clear hne
  go_enter func57,ntmps57
  go_wp2_with fail
  refine C1.out.mono ?_
  rintro _ w1 ⟨hb1,rfl⟩
  have HB1:=jq hb1
  clear hb1 C1
  go_wp2
  go_ret2
  exact HX.out _ HB1.out
 ·have h0i:¬ (N:Int)=0:=by omega
  have h0b:((N:Int)==0)=false:=by rw[beq_eq_false_iff_ne];exact h0i
  clear hne
  go_enter func57,ntmps57
  go_wp2_with fail
  refine C1.out.mono ?_
  rintro _ w1 ⟨hb1,rfl⟩
  have HB1:=jq hb1
  clear hb1 C1
  go_wp2
  go_ret2
  exact HX.out _ HB1.out
theorem ransDec_some {r:List Int} {k:Nat} (hr:Rd w w.heap.size A (bvs l)) (hp:l.length=p) (hpm:p≤m) (hp1:p≤1000000) (hN:N≤100000) (h0:0<N) (hg:hGot ((4096:Nat):Int) l=some (r,k)) (hl:r.length=256) (hnn:∀ x∈r,0≤x) (hs:r.sum=4096) (hk:k≤p) :
  Calls prog 57 #[.slice A p m,.int .i64 (N:Int)] w (jdl w (decQ (tellF r N (l.drop k)))):=by
 have C1:=jq (histGet_any 12 4096 (by decide) (by decide) rfl hr hp hpm hp1)
 rw[hg] at C1
 have hNi:(N:Int)≤100000:=by omega
 have hN0:¬ (N:Int)=0:=by omega
 have hN0b:((N:Int)==0)=false:=by rw[beq_eq_false_iff_ne];exact hN0
 have hN1:(0:Int)<(N:Int):=by omega
 have hsb:r.any sBad=false:=by
  rw[List.any_eq_false]
  intro x hx
  have:=hnn x hx
  simp[sBad];omega
 have HR:=jq hr
 have HH:=jq (And.intro hp (And.intro hpm (And.intro hp1 (And.intro hk (And.intro hN hl)))))
 have HS:=jq (And.intro hsb hs)
 obtain⟨R,hR⟩:∃ R,R=tellF r N (l.drop k):=⟨_,rfl⟩
 rw[←hR]
 rw[←tellD_is] at hR
 have HRR:=jq hR
 clear hr hp hpm hp1 hg hnn hs hsb hk hR hl h0 hN
 go_enter func57,ntmps57
 go_wp2_with fail
 refine C1.out.mono ?_
 rintro _ w1 ⟨hb1,-,S,rfl,hS⟩
 have C2:=jq (slotMake_ok (n:=256) (m:=256) 12 4096 (by decide) (by decide) rfl (Rd.of_blk hS) HH.out.2.2.2.2.2 (by decide) HS.out.1 HS.out.2)
 have HB1:=jq hb1
 clear hb1 hS C1
 go_wp2_with fail
 refine C2.out.mono ?_
 rintro _ w2 ⟨P,rfl,hsl,hb2⟩
 have HSL:=jq hsl
 have HB2:=jq (HB1.out.trans (hb2.mono HB1.out.size))
 clear hsl hb2 C2 HB1
 have C3:=jq (ransBehind_any (k:=k) (HR.out.below HB2.out) HH.out.1 HH.out.2.1 HH.out.2.2.2.1)
 go_wp2_with fail
 refine C3.out.mono ?_
 rintro _ w3 ⟨A',rfl,hrd,hw3⟩
 subst w3
 have C4:=jq (ransBegun_any hrd HB2.out.size (by rw[List.length_drop,HH.out.1]) jw (by have:=HH.out.2.2.1;omega))
 clear hrd C3 HR
 go_wp2_with fail
 refine C4.out.mono ?_
 rintro _ w4 ⟨D,rfl,hD,hd,hb4⟩
 have C5:=jq (ransLetters_any (n:=N) hd (HSL.out.grow hb4) HH.out.2.2.2.2.2 HH.out.2.2.2.2.1)
 rw[←HRR.out] at C5
 have HB4:=jq (HB2.out.trans (hb4.mono HB2.out.size))
 have HD:=jq (Nat.le_trans HB2.out.size hD)
 clear hd hb4 hD C4 HSL HB2
 go_wp2_with fail
 refine C5.out.mono ?_
 rintro _ w5 ⟨ht5,hres⟩
 have HB5:=jq (HB4.out.trans (ht5.below HD.out HD.out HB4.out.size))
 clear ht5 C5 HB4 HRR
 cases R with
 | none =>
  obtain⟨v,rfl⟩:=hres
  have HX:=jq (show jdl w (decQ none) (.returned (.tuple #[.slice none 0 0,.int .i64 16])) w5 from ⟨_,rfl,jdt _,HB5.out⟩)
  go_wp2
  go_ret2
  exact HX.out
 | some X =>
  obtain⟨v,rfl,hv⟩:=hres
  have HX:=jq (show jdl w (decQ (some X)) (.returned (.tuple #[v,.int .i64 0])) w5 from ⟨_,rfl,hv,HB5.out⟩)
  clear hv
  go_wp2
  go_ret2
  exact HX.out
end
def mayP (low size total:Int):Bool:=decide (0≤low)&&decide (1≤size)&&decide (total≤65536)&&decide (low≤65536)&&decide (size≤65536)&&decide (low+size≤total)
section
variable {w:World}
end
section
variable {w:World} {D K:Nat} {L R C E:Nat} {B:List Nat}
theorem size_u8d:(prog.info? 5).map (·.size)=some 1:=by kernel_rfl
theorem mayP_iff {low size total:Nat}:mayP (low:Int) (size:Int) (total:Int)=true↔1≤size∧low+size≤total∧total≤65536:=by
 simp only[mayP,Bool.and_eq_true,decide_eq_true_eq]
 omega
end
end
end Go.Proofs.YtflcmmeoppdhdaaGreatDoor
