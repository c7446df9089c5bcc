/- Layer 19: the program's Code. · Layer 19: what Code says of any bytes; that it is told; how long it is. · Layer 22: a word's bits turned round (math/bits.Reverse64). · Plain mathematics of layer 22: .. -/
import Derived.Test.YtflcmmeoppdhdaaGreatDoorQ20
import Derived.MapKept
import Derived.Laws.StructEq
import Derived.RegionTactic
set_option maxHeartbeats 2000000
set_option maxRecDepth 100000
namespace Go.Proofs.YtflcmmeoppdhdaaGreatDoor
open Tryz
section
open Go.RowKit Go.Sort
theorem jjq.onlyO {g C S:Nat} {w w1 w2:World} (h:jjq g C w w1) (ho:jzx S g w1 w2) (hS:w.heap.size≤S):jjq g C w w2 :=
 ⟨ho.os.trans h.os,ho.tape.trans h.tape,ho.output.trans h.output,Nat.le_trans h.size ho.size,fun k hk h1 h2=>(ho.block k (Nat.lt_of_lt_of_le hk h.size) h1 (.inl (by omega))).trans (h.block k hk h1 h2)⟩
theorem jjq.rd {g C B:Nat} {w w1:World} {A:Option Addr} {xs:List Value} (h:jjq g C w w1) (hr:Rd w B A xs) (hB:B≤w.heap.size) (hA:∀ p,A=some p→p.block≠g∧p.block≠C):Rd w1 B A xs:=fun k u hu=>by
 obtain⟨b,off,rfl,hb,hc⟩:=hr k u hu
 obtain⟨h1,h2⟩:=hA _ rfl
 exact⟨b,off,rfl,hb,(World.cell?_of_block (h.block b (by omega) h1 h2)).trans hc⟩
def RC1 (w3:World) (S g CB D:Nat) (ws:List Nat) (L:List Bool) (i:Value) (wr:World):Prop :=
 ∃ (k A N:Nat) (o R:List Bool),k≤ws.length∧i=.int .i64 (k:Int)∧qyz D A N (ws.drop k) R∧o++R=L∧jxg D A N∧WrO wr S g o∧Blk wr CB 323 [.int .u64 (A:Int),.int .u64 (N:Int)]∧jjq g CB w3 wr
def RC2 (w3:World) (S g CB:Nat) (rs:List UInt8) (L:List Bool) (i:Value) (wr:World):Prop :=
 ∃ k:Nat,k≤rs.length∧i=.int .i64 (k:Int)∧WrO wr S g (L++jjm (rs.take k))∧jjq g CB w3 wr
theorem allBits_next (rs:List UInt8) (k:Nat) (h:k<rs.length):jjm (rs.take (k+1))=jjm (rs.take k)++bitsOf rs[k].toNat 8:=by
 rw[←jwx,List.take_add_one,List.getElem?_eq_getElem h];rfl
theorem qgb {w:World} {A:Option Addr} {n c:Nat} {W:Int} {D:Nat} {ws:List Nat} {rs:List UInt8} {L:List Bool}
  (hT:∀ W',Below w.heap.size w W'→Calls prog 50 #[.slice A n c,.int .i64 W] W' (qwk W' ws rs)) (hlay:ws≠[]→∃ V,IsW V∧W=(V:Int)∧D=8*V) (hv:∀ x∈ws,x<2^D) (hD:8≤D)
  (hL:qyz D 16 1 ws L) (hLl:L.length≤700000) (hwl:ws.length≤100000) (hrl:rs.length≤8) :
  Calls prog 287 #[.slice A n c,.int .i64 W] w fun e w'=>∃ bs,jxp bs (L++jjm rs)∧NewBy w bs e w':=by
 have CT:=jq hT
 have HLAY:=jq (fun (hne:ws≠[]) (A N K v g B:Nat) (l:List Bool) (w':World) (hc:jxg D A N) (hK:IsK A N K) (hv:v<2^D) (hw:WrO w' B g l) (hl:l.length≤800000) =>
  show Calls prog 291 #[cntV A N,.pointer (some ⟨g,0,none⟩),.int .u64 (v:Int),.int .i64 W] w' fun e w''=>e=.returned (cntV (jqv A N v) (jqq N))∧WrO w'' B g (l++qbr D K v)∧jzx B g w' w'' by
   obtain⟨V,hV,rfl,rfl⟩:=hlay hne
   exact riceLay_any hV hc hK hv w' hw hl)
 have HV:=jq hv
 have HD:=jq hD
 have HL:=jq hL
 have HLL:=jq hLl
 have HWL:=jq hwl
 have HRL:=jq hrl
 have C0:=jq (fun W'=>riceFirst_any W')
 clear hT hlay hv hD hL hLl hwl hrl
 go_enter func287,ntmps287
 go_wp2_with fail
 obtain⟨w1,hw1⟩:∃ w1,w1=w.alloc (.cells #[.slice none 0 0,.int .i64 0] 102):=⟨_,rfl⟩
 have hg1:Blk w1 w.heap.size 102 [.slice none 0 0,.int .i64 0]:=by rw[hw1];exact heap_alloc_new w _
 have hb1:Below w.heap.size w w1:=by rw[hw1];exact (Below.refl _ _).alloc jw _
 rw[←hw1]
 clear hw1
 refine (C0.out _).mono ?_
 rintro _ w2 ⟨rfl,hb2⟩
 unfold cntV
 have hg2:=hg1.grow hb2
 have hbb2:=hb1.trans (hb2.mono hb1.size)
 clear hb2 C0 hg1 hb1
 go_wp2_with fail
 obtain⟨w3,hw3⟩:∃ w3,w3=w2.alloc (.cells #[.int .u64 16,.int .u64 1] 323):=⟨_,rfl⟩
 have hc3:Blk w3 w2.heap.size 323 [.int .u64 16,.int .u64 1]:=by rw[hw3];exact heap_alloc_new w2 _
 have hb3:Below w2.heap.size w2 w3:=by rw[hw3];exact (Below.refl _ _).alloc jw _
 have hgw:w.heap.size≤w2.heap.size:=hbb2.size
 have hgc:w.heap.size≠w2.heap.size:=by have:=hg2.lt;omega
 rw[←hw3]
 have hg3:=hg2.grow hb3
 have hbb3:=hbb2.trans (hb3.mono hbb2.size)
 obtain⟨CB,hCB⟩:∃ CB,CB=w2.heap.size:=⟨_,rfl⟩
 rw[←hCB] at hc3 hgw hgc ⊢
 clear hw3 hb3 hbb2 hg2 hCB
 refine (CT.out w3 hbb3).mono ?_
 rintro _ w4 ⟨v1,v2,rfl,h1,h2,hb4⟩
 obtain⟨⟨A1,c1,rfl,hc1,hr1⟩,hf1⟩:=h1
 obtain⟨⟨A2,c2,rfl,hc2,hr2⟩,hf2⟩:=h2
 have hcl:CB<w3.heap.size:=hc3.lt
 have hgl:w.heap.size<w3.heap.size:=hg3.lt
 have HR1:=jq hr1
 have HR2:=jq hr2
 have HF1:=jq (fun p (e:A1=some p)=>show p.block≠w.heap.size∧p.block≠CB by have:=hf1 p _ _ (by rw[e]);exact⟨by omega,by omega⟩)
 have HF2:=jq (fun p (e:A2=some p)=>show p.block≠w.heap.size∧p.block≠CB by have:=hf2 p _ _ (by rw[e]);exact⟨by omega,by omega⟩)
 have HB4:=jq (hbb3.trans (hb4.mono hbb3.size))
 have HC4:=jq (hc3.grow hb4)
 have HG4:=jq (WrO.new (B:=w4.heap.size) (hg3.grow hb4) jw)
 rw[jjv]
 have HREL:=jq (show RC1 w4 w4.heap.size w.heap.size CB D ws L (.int .i64 ((0:Nat):Int)) w4 from ⟨0,16,1,[],L,Nat.zero_le _,rfl,HL.out,rfl,qjh HD.out,HG4.out,HC4.out,jjq.refl _ _ _⟩)
 have hws:=HWL.out
 clear hb4 hc3 hg3 hbb3 hr1 hr2 hf1 hf2 hcl hgl hc1 hc2 CT
 go_wp2
 go_loopw [24] (RC1 w4 w4.heap.size w.heap.size CB D ws L) (fun i _=>ws.length - (intOf i).toNat)
 case atStart=>exact HREL.out
 case round =>
  clear HREL
  obtain⟨k,A0,N0,o,R,hk,rfl,hric,hoR,hcok,hwr,hblk,htr⟩:=hrel
  have HTR:=jq htr
  have HBL:=jq hblk
  have HWR:=jq hwr
  by_cases hlt:k<ws.length
  ·obtain⟨K,R2,hK,rfl,hric2⟩:=riceB_next hric hlt
   obtain⟨ab,ao,rfl,hab,hcell⟩:=(HTR.out.rd HR1.out jw HF1.out) k _ (qzx ws k hlt)
   have hol:=congrArg List.length hoR
   rw[List.length_append] at hol
   have CL:=jq (HLAY.out (fun e=>by rw[e] at hlt;simp at hlt) A0 N0 K ws[k] w.heap.size w4.heap.size o wr hcok hK (HV.out _ (List.getElem_mem hlt)) HWR.out (by have:=HLL.out;omega))
   have HK:=jq (And.intro (show o++qbr D K ws[k]++R2=L by rw[List.append_assoc];exact hoR) (And.intro hric2 (jdc hcok (HV.out _ (List.getElem_mem hlt)))))
   have hc0:=hblk.cell 0
   have hc1:=hblk.cell 1
   simp only[jy,jx] at hc0 hc1
   obtain⟨v,hv⟩:∃ v,v=ws[k]:=⟨_,rfl⟩
   rw[←hv] at CL HK hcell
   have hki:(k:Int)<(ws.length:Int):=by omega
   unfold cntV at CL
   clear hric hoR hcok hwr hblk htr hric2 hK hol hv
   go_wp2_with fail
   refine CL.out.mono ?_
   rintro _ w5 ⟨rfl,hw5,ho5⟩
   have hb5:=ho5.blkT HBL.out (by decide) (Ne.symm hgc)
   have hd0:=hb5.cell 0
   have hd1:=hb5.cell 1
   have hf0:=hb5.frozen 0
   have hf1:=hb5.frozen 1
   simp only[jy,jx] at hd0 hd1
   have HB5:=jq hb5
   have HW5:=jq hw5
   have HT5:=jq (HTR.out.onlyO ho5 jw)
   clear hc0 hc1 hb5 hw5 ho5 CL hcell
   go_wp2
   go_roundw
   case rel=>exact⟨k+1,jqv A0 N0 v,jqq N0,_,R2,by omega,by go_num,HK.out.2.1,HK.out.1,HK.out.2.2,(HW5.out.set_ HB5.out (Ne.symm hgc) (by decide) _).set_ (HB5.out.set_ 0 _) (Ne.symm hgc) (by decide) _,(HB5.out.set_ 0 _).set_ 1 _,(HT5.out.trans (jjq.set_ 0 _)).trans (jjq.set_ 1 _)⟩
   case measure=>simp[intOf];omega
  ·obtain rfl:k=ws.length:=by omega
   obtain⟨Wr,hWr⟩:∃ Wr,Wr=wr:=⟨_,rfl⟩
   subst hWr
   rw[List.drop_length] at hric
   obtain rfl:R=[]:=by cases hric;rfl
   rw[List.append_nil] at hoR
   subst hoR
   have HREL2:=jq (show RC2 w4 w4.heap.size w.heap.size CB rs o (.int .i64 ((0:Nat):Int)) Wr from ⟨0,Nat.zero_le _,rfl,by rw[List.take_zero,show jjm []=[] from rfl,List.append_nil];exact hwr,htr⟩)
   clear hric hcok hwr hblk htr hlt hk
   go_wp2
   go_loopw [36] (RC2 w4 w4.heap.size w.heap.size CB rs o) (fun i _=>rs.length - (intOf i).toNat)
   case atStart=>exact HREL2.out
   case round =>
    clear HREL2 HTR HBL HWR
    obtain⟨k,hk,rfl,hwr,htr⟩:=hrel
    have hrl:=HRL.out
    have hll:=HLL.out
    have HTR:=jq htr
    have HWR:=jq hwr
    have hab8:(jjm (rs.take k)).length≤64:=by rw[jjs,List.length_take];omega
    by_cases hlt:k<rs.length
    ·obtain⟨ab,ao,rfl,hab,hcell⟩:=(HTR.out.rd HR2.out jw HF2.out) k _ (jym rs k hlt)
     obtain⟨v,hv⟩:∃ v,v=(rs[k]'hlt).toNat:=⟨_,rfl⟩
     have hv256:v<256:=by rw[hv];exact (rs[k]'hlt).toNat_lt
     have CP:=jq (jgb w.heap.size w4.heap.size _ v 8 wr HWR.out (by rw[List.length_append];omega) (by omega) (by decide))
     rw[List.append_assoc,hv,←allBits_next rs k hlt,←hv] at CP
     rw[←hv] at hcell
     have hki:(k:Int)<(rs.length:Int):=by omega
     have hvw:IntKind.u64.wrap (v:Int)=(v:Int):=by rw[IntKind.wrap_u64];omega
     clear hwr htr hv hab8
     go_wp2_with fail
     refine CP.out.mono ?_
     rintro _ w5 ⟨rfl,hw5,ho5⟩
     have HW5:=jq hw5
     have HT5:=jq (HTR.out.onlyO ho5 jw)
     clear hw5 ho5 CP hcell
     go_wp2
     go_roundw
     case rel=>exact⟨k+1,by omega,by go_num,HW5.out,HT5.out⟩
     case measure=>simp[intOf];omega
    ·obtain rfl:k=rs.length:=by omega
     rw[List.take_length] at hwr hab8
     have CB2:=jq (oBytes_any w.heap.size w4.heap.size _ wr hwr (by rw[List.length_append];omega))
     have HBW:=jq (HB4.out.trans (HTR.out.below jw hgw HB4.out.size))
     clear hwr htr hab8 HWR
     go_wp2_with fail
     refine CB2.out.mono ?_
     rintro _ w6 ⟨bs,hp,v6,rfl,hown,hb6⟩
     have HE:=jq (And.intro hp (And.intro (jbb hown HBW.out.size) (HBW.out.trans (hb6.mono HBW.out.size))))
     clear hp hown hb6 CB2
     go_wp2
     go_ret
     exact⟨bs,HE.out.1,_,rfl,HE.out.2.1,HE.out.2.2⟩
theorem packs_some:∀ (n:Nat) (L:List Bool),L.length=n→∃ bs,jxp bs L
 | 0,L,h=>by
  obtain rfl:=List.length_eq_zero_iff.1 h
  exact⟨[],jxp.nil⟩
 | n+1,L,h=>by
  have hne:L≠[]:=fun e=>by rw[e] at h;simp at h
  have e:=List.dropLast_concat_getLast hne
  obtain⟨bs,hb⟩:=packs_some n L.dropLast (by rw[List.length_dropLast];omega)
  obtain⟨b,hbb⟩:∃ b,b=L.getLast hne:=⟨_,rfl⟩
  rw[←hbb] at e
  rw[←e]
  obtain⟨M,hM⟩:∃ M,M=L.dropLast:=⟨_,rfl⟩
  rw[←hM] at hb ⊢
  obtain⟨c,hc⟩:∃ c:UInt8,c.toNat=((if M.length%8=0 then bs++[0] else bs).getD (M.length/8) 0).toNat ||| b.toNat <<< (M.length%8):=by
   refine⟨UInt8.ofNat (((if M.length%8=0 then bs++[0] else bs).getD (M.length/8) 0).toNat ||| b.toNat <<< (M.length%8)),?_⟩
   rw[UInt8.toNat_ofNat',Nat.mod_eq_of_lt]
   have h1:=((if M.length%8=0 then bs++[0] else bs).getD (M.length/8) 0).toNat_lt
   refine Nat.or_lt_two_pow (n:=8) h1 ?_
   have hr:M.length%8<8:=Nat.mod_lt _ (by decide)
   obtain⟨r,hr2⟩:∃ r,r=M.length%8:=⟨_,rfl⟩
   rw[←hr2] at hr ⊢
   have h2:b.toNat≤1:=by cases b <;> simp
   rw[Nat.shiftLeft_eq]
   have h3:2^r≤2^7:=Nat.pow_le_pow_right (by decide) (by omega)
   have h4:=Nat.mul_le_mul h2 h3
   omega
  exact⟨_,hb.snoc b _ rfl c hc⟩
def jkm (W:Int) (l bs:List UInt8):Prop :=
 (jqj W=false∧bs=[])∨∃ (V:Nat) (L:List Bool),IsW V∧W=(V:Int)∧qyz (8*V) 16 1 (jqs V l) L∧jxp bs (L++jjm (jzt V l))
theorem jkm.one {W:Int} {l bs bs':List UInt8} (h:jkm W l bs) (h':jkm W l bs'):bs=bs':=by
 rcases h with ⟨h1,rfl⟩ | ⟨V,L,h1,h2,h3,h4⟩ <;> rcases h' with ⟨g1,rfl⟩ | ⟨V',L',g1,g2,g3,g4⟩
 ·rfl
 ·have:=g1.right;rw[←g2,h1] at this;cases this
 ·have:=h1.right;rw[←h2,g1] at this;cases this
 ·obtain rfl:V=V':=by omega
  obtain rfl:=h3.one g3
  exact h4.unique g4
theorem qqn {V:Nat} (hV:IsW V) (l:List UInt8):∀ x∈jqs V l,x<2^(8*V):=fun x hx=>by
 rw[show 2^(8*V)=256^V by rw[Nat.pow_mul]]
 exact jks (W:=V) (by have:=hV.pos;omega) l x hx
theorem qbp {V:Nat} (hV:IsW V) (l:List UInt8):∃ L,qyz (8*V) 16 1 (jqs V l) L∧L.length≤(24+8*V)*(l.length/V):=by
 obtain⟨L,h1,h2⟩:=riceB_some (D:=8*V) (jqs V l) 16 1 (qjh (D_le hV).1) (qqn hV l)
 rw[jzh] at h2
 exact⟨L,h1,h2⟩
theorem riceL_len {V n q:Nat} (hV:IsW V) (h:n≤(24+8*V)*(q/V)) (hq:q≤4000):n≤200000:=by
 rcases hV with rfl | rfl | rfl | rfl <;> omega
theorem qkk (W:Int) (l:List UInt8):∃ bs,jkm W l bs:=by
 by_cases hW:jqj W=true
 ·obtain⟨V,rfl,hV⟩:=jdk hW
  obtain⟨L,h1,-⟩:=qbp hV l
  obtain⟨bs,hb⟩:=packs_some _ (L++jjm (jzt V l)) rfl
  exact⟨bs,.inr ⟨V,L,hV,rfl,h1,hb⟩⟩
 ·exact⟨[],.inl ⟨by simpa using hW,rfl⟩⟩
theorem qdn:∀ (n:Nat) (x:UInt8) (t:List UInt8),t.length=n→jjm (x::t)=bitsOf x.toNat 8++jjm t
 | 0,x,t,h=>by
  obtain rfl:=List.length_eq_zero_iff.1 h
  have:=jwx [] x
  rw[List.nil_append] at this
  rw[this,show jjm []=[] from rfl,List.nil_append,List.append_nil]
 | n+1,x,t,h=>by
  have hne:t≠[]:=fun e=>by rw[e] at h;simp at h
  have e:=List.dropLast_concat_getLast hne
  have ih:=qdn n x t.dropLast (by rw[List.length_dropLast];omega)
  rw[←e,←List.cons_append,jwx,ih,jwx,List.append_assoc]
theorem restF_all:∀ (rs:List UInt8) (R:List Bool),jwb rs.length (jjm rs++R,0)=(rs,(R,0))
 | [],R=>by simp[jwb,show jjm []=[] from rfl]
 | x::t,R=>by
  have hx:=x.toNat_lt
  obtain⟨g1,g2⟩:=getV_bits x.toNat 8 (jjm t++R)
  rw[←List.append_assoc,←qdn _ x t rfl] at g1 g2
  rw[List.length_cons,jwb,g1,g2,restF_all t R,Nat.mod_eq_of_lt (by omega)]
  simp
theorem any_zeros (k:Nat):(List.replicate k false).any id=false:=by
 rw[List.any_eq_false]
 intro x hx
 simp[(List.mem_replicate.1 hx).2]
theorem rice_back {V:Nat} (hV:IsW V) {l bs:List UInt8} (h:jkm (V:Int) l bs) :
  (∃ o,qjw (8*V) (l.length/V) 16 1 (jjm bs,0) o∧jmh V l.length o=(l,0))∧∃ o,qjw (8*V) (l.length/V) 16 1 (jjm (bs++[0]),0) o∧jmh V l.length o=([],16):=by
 rcases h with ⟨h1,-⟩ | ⟨V',L,h1,h2,h3,h4⟩
 ·have:=hV.right;rw[h1] at this;cases this
 ·obtain rfl:V=V':=by omega
  have hp:0<V:=by have:=hV.pos;omega
  have hall:=h4.all
  have hlen:=h4.1
  obtain⟨p,hpp⟩:∃ p,p=8*bs.length - (L++jjm (jzt V l)).length:=⟨_,rfl⟩
  rw[←hpp] at hall
  have hp8:p<8:=by omega
  have hrl:l.length%V=(jzt V l).length:=by
   rw[jvh]
   have:=Nat.div_add_mod l.length V
   rw[Nat.mul_comm] at this
   omega
  have hgo:∀ q,qjw (8*V) (l.length/V) 16 1 (L++jjm (jzt V l)++List.replicate q false,0) (some (jqs V l,(jjm (jzt V l)++List.replicate q false,0))):=fun q=>by
   have:=h3.told (qqn hV l) (jjm (jzt V l)++List.replicate q false)
   rw[jzh,←List.append_assoc] at this
   exact this
  have hout:∀ q,jmh V l.length (some (jqs V l,(jjm (jzt V l)++List.replicate q false,0)))=if jwn (List.replicate q false,0)=0 then (l,0) else ([],16):=fun q=>by
   unfold jmh
   simp only
   rw[hrl,restF_all,qvp]
  refine⟨⟨_,by rw[hall];exact hgo p,?_⟩,⟨_,by rw[jwx,hall,List.append_assoc,show bitsOf (0:UInt8).toNat 8=List.replicate 8 false from rfl,List.replicate_append_replicate];exact hgo (p+8),?_⟩⟩
  ·rw[hout,if_pos]
   unfold jwn
   rw[if_neg (by simp),if_neg (by simp;omega),if_neg (by rw[any_zeros];simp)]
  ·rw[hout,if_neg]
   unfold jwn
   rw[if_neg (by simp),if_pos (by simp)]
   decide
theorem riceCode_says (W:Int) {v:Value} {l:List UInt8} {w:World} (h:jjz l v w) (hl:l.length≤4000) {Q:List UInt8} (hQ:jkm W l Q) :
  Calls prog 287 #[v,.int .i64 W] w (NewBy w Q):=by
 obtain⟨A,c,rfl,hc,hr⟩:=h
 by_cases hW:jqj W=true
 ·obtain⟨V,rfl,hV⟩:=jdk hW
  obtain⟨L,h1,h2⟩:=qbp hV l
  have h3:=riceL_len hV h2 hl
  refine (qgb (ws:=jqs V l) (rs:=jzt V l) (fun W' hb=>qmz V hV A l.length c l W' ((hr.below hb).more hb.size) rfl hc (by omega)) (fun _=>⟨V,hV,rfl,rfl⟩) (qqn hV l) (D_le hV).1 h1 (by omega) (by rw[jzh];have:=Nat.div_le_self l.length V;omega) (by have:=qxt (W:=V) (by have:=hV.pos;omega) l;have:=hV.pos;omega)).mono ?_
  rintro e w' ⟨bs,hp,hn⟩
  obtain rfl:=hQ.one (.inr ⟨V,L,hV,rfl,h1,hp⟩)
  exact hn
 ·have hW2:jqj W=false:=by simpa using hW
  refine (qgb (D:=8) (ws:=[]) (rs:=[]) (fun W' hb=>wordTakeF_wrong A l.length c W W' hW2) (fun h=>absurd rfl h) (by simp) jw (.none 16 1) (by simp) (by simp) (by simp)).mono ?_
  rintro e w' ⟨bs,hp,hn⟩
  obtain rfl:bs=[]:=hp.unique jxp.nil
  obtain rfl:=hQ.one (.inl ⟨hW2,rfl⟩)
  exact hn
end
section
open Go.RowKit
def jyj (s m x:Nat):Nat:=(x/2^s &&& m) ||| ((x &&& m)*2^s%18446744073709551616)
theorem jyq (s m x:Nat) (hx:x<18446744073709551616):jyj s m x<18446744073709551616:=by
 have h1:x/2^s &&& m<2^64:=Nat.lt_of_le_of_lt Nat.and_le_left (Nat.lt_of_le_of_lt (Nat.div_le_self _ _) hx)
 have h2:(x &&& m)*2^s%18446744073709551616<2^64:=Nat.mod_lt _ (by decide)
 exact Nat.or_lt_two_pow h1 h2
theorem swapN_bit (s m x k:Nat):(jyj s m x).testBit k=((x.testBit (k+s)&&m.testBit k)||(decide (k<64)&&(decide (s≤k)&&(x.testBit (k - s)&&m.testBit (k - s))))):=by
 unfold jyj
 rw[Nat.testBit_or,Nat.testBit_and,←Nat.shiftRight_eq_div_pow,Nat.testBit_shiftRight,←Nat.shiftLeft_eq,(by decide:18446744073709551616=2^64),Nat.testBit_mod_two_pow,Nat.testBit_shiftLeft,Nat.testBit_and,Nat.add_comm s k]
def maskS (s m:Nat):Prop:=∀ k,k<64→m.testBit k=decide (k/s%2=0)
theorem qkn {s m x:Nat} (hm:maskS s m) (hs:s=1∨s=2∨s=4∨s=8∨s=16∨s=32) {k:Nat} (hk:k<64):(jyj s m x).testBit k=x.testBit (if k/s%2=0 then k+s else k - s):=by
 rw[swapN_bit,hm k hk]
 by_cases h:k/s%2=0
 ·rw[if_pos h,decide_eq_true h,Bool.and_true]
  by_cases h2:s≤k
  ·rw[hm (k - s) (by omega),decide_eq_false (show ¬ (k - s)/s%2=0 by rcases hs with rfl | rfl | rfl | rfl | rfl | rfl <;> omega)];simp
  ·rw[decide_eq_false h2];simp
 ·rw[if_neg h,decide_eq_false h,Bool.and_false,Bool.false_or,decide_eq_true hk,Bool.true_and]
  have h2:s≤k:=by rcases hs with rfl | rfl | rfl | rfl | rfl | rfl <;> omega
  rw[decide_eq_true h2,hm (k - s) (by omega),decide_eq_true (show (k - s)/s%2=0 by rcases hs with rfl | rfl | rfl | rfl | rfl | rfl <;> omega)];simp
theorem mask1:maskS 1 6148914691236517205:=by unfold maskS;decide +kernel
theorem mask2:maskS 2 3689348814741910323:=by unfold maskS;decide +kernel
theorem mask4:maskS 4 1085102592571150095:=by unfold maskS;decide +kernel
theorem mask8:maskS 8 71777214294589695:=by unfold maskS;decide +kernel
theorem mask16:maskS 16 281470681808895:=by unfold maskS;decide +kernel
def qxm (x:Nat):Nat:=x/2^32 ||| x*2^32%18446744073709551616
theorem halvesN_at {x k:Nat} (hx:x<18446744073709551616) (hk:k<64):(qxm x).testBit k=x.testBit (if k<32 then k+32 else k - 32):=by
 unfold qxm
 rw[Nat.testBit_or,←Nat.shiftRight_eq_div_pow,Nat.testBit_shiftRight,←Nat.shiftLeft_eq,(by decide:18446744073709551616=2^64),Nat.testBit_mod_two_pow,Nat.testBit_shiftLeft,Nat.add_comm 32 k,decide_eq_true hk,Bool.true_and]
 by_cases h:k<32
 ·rw[if_pos h,decide_eq_false (show ¬ 32≤k by omega)];simp
 ·rw[if_neg h,decide_eq_true (show 32≤k by omega),Nat.testBit_lt_two_pow (x:=x) (i:=k+32) (Nat.lt_of_lt_of_le hx (Nat.pow_le_pow_right (n:=2) (by decide) (show 64≤k+32 by omega)))];simp
def revN (x:Nat):Nat:=qxm (jyj 16 281470681808895 (jyj 8 71777214294589695 (jyj 4 1085102592571150095 (jyj 2 3689348814741910323 (jyj 1 6148914691236517205 x)))))
theorem revN_at {x k:Nat} (hx:x<18446744073709551616) (hk:k<64):(revN x).testBit k=x.testBit (63 - k):=by
 have h1:=jyq 1 6148914691236517205 x hx
 have h2:=jyq 2 3689348814741910323 _ h1
 have h3:=jyq 4 1085102592571150095 _ h2
 have h4:=jyq 8 71777214294589695 _ h3
 have h5:=jyq 16 281470681808895 _ h4
 have key:∀ k:Fin 64,(fun j=>if j/1%2=0 then j+1 else j - 1) ((fun j=>if j/2%2=0 then j+2 else j - 2) ((fun j=>if j/4%2=0 then j+4 else j - 4) ((fun j=>if j/8%2=0 then j+8 else j - 8) ((fun j=>if j/16%2=0 then j+16 else j - 16) (if k.val<32 then k.val+32 else k.val - 32)))))=63 - k.val:=by decide +kernel
 have lt:∀ s j:Nat,(s=1∨s=2∨s=4∨s=8∨s=16)→j<64→(if j/s%2=0 then j+s else j - s)<64:=fun s j hs hj=>by
  by_cases h:j/s%2=0
  ·rw[if_pos h];rcases hs with rfl | rfl | rfl | rfl | rfl <;> omega
  ·rw[if_neg h];omega
 have l0:(if k<32 then k+32 else k - 32)<64:=by by_cases h:k<32 <;> simp only[h,if_true,if_false] <;> omega
 have l1:=lt 16 _ (by decide) l0
 have l2:=lt 8 _ (by decide) l1
 have l3:=lt 4 _ (by decide) l2
 have l4:=lt 2 _ (by decide) l3
 unfold revN
 rw[halvesN_at h5 hk,qkn mask16 (by decide) l0,qkn mask8 (by decide) l1,qkn mask4 (by decide) l2,qkn mask2 (by decide) l3,qkn mask1 (by decide) l4]
 exact congrArg x.testBit (key ⟨k,hk⟩)
theorem halvesN_lt (x:Nat) (hx:x<18446744073709551616):qxm x<18446744073709551616:=by
 have h1:x/2^32<2^64:=Nat.lt_of_le_of_lt (Nat.div_le_self _ _) hx
 have h2:x*2^32%18446744073709551616<2^64:=Nat.mod_lt _ (by decide)
 exact Nat.or_lt_two_pow h1 h2
theorem revN_lt (x:Nat) (hx:x<18446744073709551616):revN x<18446744073709551616:=halvesN_lt _ (jyq _ _ _ (jyq _ _ _ (jyq _ _ _ (jyq _ _ _ (jyq _ _ _ hx)))))
theorem qkp (s P m x:Nat) (hP:P=2^s) (hx:x<18446744073709551616) (hm:m<18446744073709551616) :
  bits .or .u64 (bits .and .u64 ((x:Int)/(P:Int)) (m:Int)) (IntKind.u64.wrap (bits .and .u64 (x:Int) (m:Int)*(P:Int)))=(jyj s m x:Int):=by
 have hd:x/P<18446744073709551616:=Nat.lt_of_le_of_lt (Nat.div_le_self _ _) hx
 have e1:bits .and .u64 ((x:Int)/(P:Int)) (m:Int)=((x/P &&& m:Nat):Int):=by
  obtain⟨q,hq⟩:∃ q,q=x/P:=⟨_,rfl⟩
  rw[←hq] at hd
  rw[←Int.natCast_ediv,←hq,u64_and _ _ (by omega) (by omega) (by omega) (by omega),Int.toNat_natCast,Int.toNat_natCast]
 have e2:bits .and .u64 (x:Int) (m:Int)=((x &&& m:Nat):Int):=by
  rw[u64_and _ _ (by omega) (by omega) (by omega) (by omega),Int.toNat_natCast,Int.toNat_natCast]
 have l1:x/P &&& m<18446744073709551616:=Nat.lt_of_le_of_lt Nat.and_le_left hd
 have e3:IntKind.u64.wrap (((x &&& m:Nat):Int)*(P:Int))=(((x &&& m)*P%18446744073709551616:Nat):Int):=by
  rw[←Int.natCast_mul,IntKind.wrap_u64];omega
 have l2:(x &&& m)*P%18446744073709551616<18446744073709551616:=Nat.mod_lt _ (by decide)
 rw[e1,e2,e3,u64_or _ _ (by omega) (by omega) (by omega) (by omega),Int.toNat_natCast,Int.toNat_natCast]
 subst hP
 rfl
theorem halves_val (x:Nat) (hx:x<18446744073709551616):bits .or .u64 ((x:Int)/4294967296) (IntKind.u64.wrap ((x:Int)*4294967296))=(qxm x:Int):=by
 have e1:(x:Int)/4294967296=((x/4294967296:Nat):Int):=by omega
 have e3:IntKind.u64.wrap ((x:Int)*4294967296)=((x*4294967296%18446744073709551616:Nat):Int):=by
  rw[IntKind.wrap_u64];omega
 have l1:x/4294967296<18446744073709551616:=Nat.lt_of_le_of_lt (Nat.div_le_self _ _) hx
 have l2:x*4294967296%18446744073709551616<18446744073709551616:=Nat.mod_lt _ (by decide)
 rw[e1,e3,u64_or _ _ (by omega) (by omega) (by omega) (by omega),Int.toNat_natCast,Int.toNat_natCast]
 rfl
theorem revBytes_any (x:Nat) (hx:x<18446744073709551616) (w:World) :
  Calls prog 214 #[.int .u64 (x:Int)] w fun e w'=>e=.returned (.int .u64 (qxm (jyj 16 281470681808895 (jyj 8 71777214294589695 x)):Nat))∧w'=w:=by
 have h1:=jyq 8 71777214294589695 x hx
 have h2:=jyq 16 281470681808895 _ h1
 have v1:bits .or .u64 (bits .and .u64 (((x:Nat):Int)/256) 71777214294589695) (IntKind.u64.wrap (bits .and .u64 ((x:Nat):Int) 71777214294589695*256))=(jyj 8 71777214294589695 x:Int):=qkp 8 256 71777214294589695 x (by decide) hx (by decide)
 have v2:bits .or .u64 (bits .and .u64 (((jyj 8 71777214294589695 x:Nat):Int)/65536) 281470681808895) (IntKind.u64.wrap (bits .and .u64 ((jyj 8 71777214294589695 x:Nat):Int) 281470681808895*65536))=(jyj 16 281470681808895 (jyj 8 71777214294589695 x):Int):=qkp 16 65536 281470681808895 _ (by decide) h1 (by decide)
 have v3:=halves_val _ h2
 obtain⟨y,hy⟩:∃ y,y=jyj 8 71777214294589695 x:=⟨_,rfl⟩
 rw[←hy] at v1 v2 v3 h1 h2 ⊢
 obtain⟨z,hz⟩:∃ z,z=jyj 16 281470681808895 y:=⟨_,rfl⟩
 rw[←hz] at v2 v3 h2 ⊢
 have V1:=jq v1
 have V2:=jq v2
 have V3:=jq v3
 clear v1 v2 v3 hy hz
 go_enter func214,ntmps214
 go_wp2
 go_ret
 refine⟨jyr ?_,rfl⟩
 simp only[V1.out,V2.out,V3.out]
theorem rev64_any (x:Nat) (hx:x<18446744073709551616) (w:World) :
  Calls prog 170 #[.int .u64 (x:Int)] w fun e w'=>e=.returned (.int .u64 (revN x:Nat))∧w'=w:=by
 have h1:=jyq 1 6148914691236517205 x hx
 have h2:=jyq 2 3689348814741910323 _ h1
 have h3:=jyq 4 1085102592571150095 _ h2
 have v1:bits .or .u64 (bits .and .u64 (((x:Nat):Int)/2) 6148914691236517205) (IntKind.u64.wrap (bits .and .u64 ((x:Nat):Int) 6148914691236517205*2))=(jyj 1 6148914691236517205 x:Int):=qkp 1 2 6148914691236517205 x (by decide) hx (by decide)
 have v2:bits .or .u64 (bits .and .u64 (((jyj 1 6148914691236517205 x:Nat):Int)/4) 3689348814741910323) (IntKind.u64.wrap (bits .and .u64 ((jyj 1 6148914691236517205 x:Nat):Int) 3689348814741910323*4))=(jyj 2 3689348814741910323 (jyj 1 6148914691236517205 x):Int):=qkp 2 4 3689348814741910323 _ (by decide) h1 (by decide)
 have v3:bits .or .u64 (bits .and .u64 (((jyj 2 3689348814741910323 (jyj 1 6148914691236517205 x):Nat):Int)/16) 1085102592571150095) (IntKind.u64.wrap (bits .and .u64 ((jyj 2 3689348814741910323 (jyj 1 6148914691236517205 x):Nat):Int) 1085102592571150095*16))=(jyj 4 1085102592571150095 (jyj 2 3689348814741910323 (jyj 1 6148914691236517205 x)):Int):=qkp 4 16 1085102592571150095 _ (by decide) h2 (by decide)
 have C:=fun W=>revBytes_any _ h3 W
 have hr:revN x=qxm (jyj 16 281470681808895 (jyj 8 71777214294589695 (jyj 4 1085102592571150095 (jyj 2 3689348814741910323 (jyj 1 6148914691236517205 x))))):=rfl
 rw[←hr] at C
 obtain⟨R,hR⟩:∃ R,R=revN x:=⟨_,rfl⟩
 rw[←hR] at C ⊢
 obtain⟨y,hy⟩:∃ y,y=jyj 1 6148914691236517205 x:=⟨_,rfl⟩
 rw[←hy] at v1 v2 v3 C h1 h2 h3
 obtain⟨z,hz⟩:∃ z,z=jyj 2 3689348814741910323 y:=⟨_,rfl⟩
 rw[←hz] at v2 v3 C h2 h3
 obtain⟨u,hu⟩:∃ u,u=jyj 4 1085102592571150095 z:=⟨_,rfl⟩
 rw[←hu] at v3 C h3
 have V1:=jq v1
 have V2:=jq v2
 have V3:=jq v3
 have C:=jq C
 clear v1 v2 v3 hy hz hu hr hR
 go_enter func170,ntmps170
 go_wp2_with fail
 simp only[V1.out,V2.out,V3.out]
 refine (C.out _).mono ?_
 rintro _ w1 ⟨rfl,hw1⟩
 subst w1
 go_wp2
 go_ret
 exact⟨rfl,rfl⟩
end
section
def qwt (c s:Nat):List Bool:=(bitsOf c s).reverse
theorem qwc (c s:Nat):(qwt c s).length=s:=by unfold qwt;rw[List.length_reverse,jjy]
theorem bitsOf_get (v n k:Nat) (h:k<n):(bitsOf v n)[k]?=some (v.testBit k):=by simp[bitsOf,h]
theorem codeB_get (c s k:Nat) (h:k<s):(qwt c s)[k]?=some (c.testBit (s - 1 - k)):=by
 unfold qwt
 rw[List.getElem?_reverse (by rw[jjy];exact h),jjy,bitsOf_get _ _ _ (by omega)]
theorem codeB_turned (c s y:Nat) (hy:∀ k,k<s→y.testBit k=c.testBit (s - 1 - k)):bitsOf y s=qwt c s:=by
 apply List.ext_getElem?
 intro k
 by_cases h:k<s
 ·rw[codeB_get _ _ _ h,bitsOf_get _ _ _ h,hy k h]
 ·rw[List.getElem?_eq_none (by rw[jjy];omega),List.getElem?_eq_none (by rw[qwc];omega)]
theorem pre_start {c s:Nat} (h:c<2^s):c/2^(s - 0)=0:=Nat.div_eq_of_lt h
theorem pre_next (c:Nat) {s n:Nat} (h:n<s):c/2^(s - (n+1))=2*(c/2^(s - n))+(c.testBit (s - 1 - n)).toNat:=by
 have e:s - n=(s - (n+1))+1:=by omega
 have e2:s - 1 - n=s - (n+1):=by omega
 rw[e,e2,Nat.pow_succ,←Nat.div_div_eq_div_mul,Nat.testBit_eq_decide_div_mod_eq]
 obtain⟨q,hq⟩:∃ q,q=c/2^(s - (n+1)):=⟨_,rfl⟩
 rw[←hq]
 rcases Nat.mod_two_eq_zero_or_one q with h | h
 ·rw[h];simp;omega
 ·rw[h];simp;omega
def lenB (x:Nat):List Bool:=if x=0 then [false] else true::bitsOf x 4
def jwt (o:List Nat):List Bool:=o.flatMap lenB
def letB (o:List Nat) (c:UInt8):List Bool:=qwt (jwl o c.toNat) (o.getD c.toNat 0)
def jqy (o:List Nat) (b:List UInt8):List Bool:=b.flatMap (letB o)
def huffB (o:List Nat) (b:List UInt8):List Bool:=jwt o++jqy o b
theorem lenB_len (x:Nat):(lenB x).length=1+4*min x 1:=by
 unfold lenB
 by_cases h:x=0
 ·rw[if_pos h];subst h;rfl
 ·rw[if_neg h,List.length_cons,jjy];omega
theorem lensB_next (o:List Nat) {k:Nat} (h:k<o.length):jwt (o.take (k+1))=jwt (o.take k)++lenB o[k]:=by
 unfold jwt
 rw[List.take_add_one,List.getElem?_eq_getElem h,List.flatMap_append];simp
theorem qvr:∀ o:List Nat,(jwt o).length≤5*o.length
 | []=>Nat.le_refl _
 | x::o=>by
  have:=qvr o
  unfold jwt at *
  rw[List.flatMap_cons,List.length_append,lenB_len,List.length_cons]
  omega
theorem lensB_drop (o:List Nat) {k:Nat} (h:k<o.length):jwt (o.drop k)=lenB o[k]++jwt (o.drop (k+1)):=by
 unfold jwt
 rw[List.drop_eq_getElem_cons h,List.flatMap_cons]
theorem lettersB_next (o:List Nat) (b:List UInt8) {k:Nat} (h:k<b.length):jqy o (b.take (k+1))=jqy o (b.take k)++letB o b[k]:=by
 unfold jqy
 rw[List.take_add_one,List.getElem?_eq_getElem h,List.flatMap_append];simp
theorem lettersB_drop (o:List Nat) (b:List UInt8) {k:Nat} (h:k<b.length):jqy o (b.drop k)=letB o b[k]++jqy o (b.drop (k+1)):=by
 unfold jqy
 rw[List.drop_eq_getElem_cons h,List.flatMap_cons]
theorem letB_len (o:List Nat) (c:UInt8):(letB o c).length=o.getD c.toNat 0:=qwc _ _
theorem qqv {o:List Nat} (ho:∀ x∈o,x≤15):∀ b:List UInt8,(jqy o b).length≤15*b.length
 | []=>Nat.le_refl _
 | c::b=>by
  have:=qqv ho b
  have hc:o.getD c.toNat 0≤15:=by
   rw[List.getD_eq_getElem?_getD]
   by_cases h:c.toNat<o.length
   ·rw[List.getElem?_eq_getElem h];exact ho _ (List.getElem_mem h)
   ·rw[List.getElem?_eq_none (by omega)];exact Nat.zero_le _
  unfold jqy at *
  rw[List.flatMap_cons,List.length_append,letB_len,List.length_cons]
  omega
theorem jbt {o:List Nat}:∀ b:List UInt8,(∀ c∈b,1≤o.getD c.toNat 0)→b.length≤(jqy o b).length
 | [],_=>Nat.le_refl _
 | c::b,h=>by
  have:=jbt b fun x hx=>h x (List.mem_cons_of_mem _ hx)
  have hc:=h c List.mem_cons_self
  unfold jqy at *
  rw[List.flatMap_cons,List.length_append,letB_len,List.length_cons]
  omega
theorem ends_pow {l:List Nat} (hk:ends (lenC l) 15≤32768) {s:Nat} (hs:s≤15):ends (lenC l) s≤2^s:=by
 have h1:=qml (lenC l) hs (Nat.le_refl 15)
 rw[bound_all] at h1
 unfold bound at h1
 have h2:ends (lenC l) s*2^(15 - s)≤2^s*2^(15 - s):=by
  rw[←Nat.pow_add,show s+(15 - s)=15 by omega]
  exact Nat.le_trans h1 hk
 exact Nat.le_of_mul_le_mul_right h2 (Nat.two_pow_pos _)
theorem codeL_pow {l:List Nat} (hk:ends (lenC l) 15≤32768) {i:Nat} (hi:i<l.length) (h0:1≤l.getD i 0) (h15:l.getD i 0≤15):jwl l i<2^l.getD i 0 :=
 Nat.lt_of_lt_of_le (codeL_in l hi h0).2 (ends_pow hk h15)
theorem pre_none {l:List Nat} {i:Nat} (hi:i<l.length) (h15:l.getD i 0≤15) {n:Nat} (hn:1≤n) (hns:n<l.getD i 0) {j:Nat} (hj:j<l.length) (hjn:l.getD j 0=n):jwl l j≠jwl l i/2^(l.getD i 0 - n):=fun e=>by
 obtain⟨s,hs⟩:∃ s,s=l.getD i 0:=⟨_,rfl⟩
 have a1:=codeL_in l hi (by omega)
 have a2:=codeL_in l hj (by omega)
 rw[←hs] at a1 e hns h15
 rw[hjn] at a2
 obtain⟨v,hv⟩:∃ v,v=jwl l i*2^(15 - s):=⟨_,rfl⟩
 have v1:v/2^(15 - s)=jwl l i:=by rw[hv,Nat.mul_div_cancel _ (Nat.two_pow_pos _)]
 have v2:v/2^(15 - n)=jwl l j:=by
  rw[show 15 - n=(15 - s)+(s - n) by omega,Nat.pow_add,←Nat.div_div_eq_div_mul,v1,e]
 have b1:hit (lenC l) v s:=by unfold hit;rw[v1];exact a1
 have b2:hit (lenC l) v n:=by unfold hit;rw[v2];exact a2
 exact hit_one (lenC l) v hn h15 hns b2 b1
end
section
open Go.RowKit Go.Sort
def intL (l:List Nat):List Int:=l.map fun (x:Nat)=>(x:Int)
theorem intL_len (l:List Nat):(intL l).length=l.length:=List.length_map ..
theorem intL_get (l:List Nat) {k:Nat} (h:k<l.length):(zvs (intL l))[k]?=some (.int .i64 ((l[k]:Nat):Int)):=by
 rw[jql];unfold intL;simp[h]
theorem layCode_any (g B:Nat) (l:List Bool) (c s:Nat) (w:World) (h:WrO w B g l) (hl:l.length≤100000) (hc:c<9223372036854775808) (hs:s≤64) :
  Calls prog 106 #[.pointer (some ⟨g,0,none⟩),.int .i64 (c:Int),.int .i64 (s:Int)] w fun e w'=>e=.returned (.tuple #[])∧WrO w' B g (l++qwt c s)∧jzx B g w w':=by
 have hR:=revN_lt c (by omega)
 have hbits:bitsOf (revN c/2^(64 - s)) s=qwt c s:=codeB_turned c s _ fun k hk=>by
  rw[←Nat.shiftRight_eq_div_pow,Nat.testBit_shiftRight,revN_at (by omega) (by omega)]
  congr 1
  omega
 have C1:=jq (fun W=>rev64_any c (by omega) W)
 have hw1:=jq (show IntKind.u64.wrap (c:Int)=(c:Int) by rw[IntKind.wrap_u64];omega)
 obtain⟨R,hRe⟩:∃ R,R=revN c:=⟨_,rfl⟩
 rw[←hRe] at C1 hR hbits
 obtain⟨V,hV⟩:∃ V,V=R/2^(64 - s):=⟨_,rfl⟩
 rw[←hV] at hbits
 have hV64:V<18446744073709551616:=by rw[hV];exact Nat.lt_of_le_of_lt (Nat.div_le_self _ _) hR
 have C2:=jq (jgb g B l V s w h (by omega) hV64 hs)
 rw[hbits] at C2
 obtain⟨T,hT⟩:∃ T,T=64 - s:=⟨_,rfl⟩
 rw[←hT] at hV
 have hT2:=jq (show IntKind.i64.wrap (64 - (s:Int))=(T:Int) by rw[IntKind.wrap_i64];omega)
 have hV2:=jq (show (R:Int)/2^T=(V:Int) by rw[hV];simp)
 have hTs:(64:Int) - (s:Int)=(T:Int):=by omega
 clear h hR hRe hbits hV hT hV64
 go_enter func106,ntmps106
 go_wp2_with fail
 first | rw[hw1.out] | skip
 refine (C1.out _).mono ?_
 rintro _ w1 ⟨rfl,hw⟩
 subst w1
 go_wp2_with fail
 rw[hV2.out]
 refine C2.out.mono ?_
 rintro _ w2 ⟨rfl,hw2,ho2⟩
 have HE:=jq (And.intro hw2 ho2)
 clear hw2 ho2
 go_wp2
 refine bodyPost_end (results_none rfl _ _ _) rfl ?_
 exact⟨rfl,HE.out.1,HE.out.2⟩
theorem layLens_any {r n m g B:Nat} {l:List Bool} {o:List Nat} (w:World) (h:WrO w B g l) (hr:Blk w r 3 (zvs (intL o))) (hrg:r≠g) (hn:o.length=n) (hn1:n≤256) (ho:∀ x∈o,x≤15) (hl:l.length≤1000) :
  Calls prog 104 #[.pointer (some ⟨g,0,none⟩),.slice (some ⟨r,0,none⟩) n m] w fun e w'=>e=.returned (.tuple #[])∧WrO w' B g (l++jwt o)∧jzx B g w w':=by
 have HR:=jq hr
 have HN:=jq (And.intro hn ho)
 have HS:=jq (show WrO w B g (l++jwt (o.take 0)) by rw[List.take_zero,show jwt []=[] from rfl,List.append_nil];exact h)
 clear hr hn ho h
 go_enter func104,ntmps104
 go_wp2
 go_loopw [8] (fun i wr=>∃ k:Nat,k≤n∧i=.int .i64 (k:Int)∧WrO wr B g (l++jwt (o.take k))∧jzx B g w wr) (fun i _=>n - (intOf i).toNat)
 case atStart=>exact⟨0,Nat.zero_le _,rfl,HS.out,jzx.refl _ _ _⟩
 case round =>
  clear HS
  obtain⟨k,hk,rfl,hat,ho1⟩:=hrel
  have HAT:=jq hat
  have HO:=jq ho1
  by_cases hlt:k<n
  ·have hko:k<o.length:=by have:=HN.out.1;omega
   have hcell:=(ho1.blkT HR.out (by decide) hrg).cell k
   rw[intL_get o hko] at hcell
   have hnx:=lensB_next o hko
   have hx15:=HN.out.2 _ (List.getElem_mem hko)
   obtain⟨x,hx⟩:∃ x,x=o[k]:=⟨_,rfl⟩
   rw[←hx] at hcell hnx hx15
   have hll:(l++jwt (o.take k)).length≤3000:=by
    have:=qvr (o.take k)
    rw[List.length_append]
    rw[List.length_take] at this
    omega
   have HLL:=jq hll
   have HNX:=jq hnx
   have hki:(k:Int)<(n:Int):=by omega
   clear hat ho1 hx hnx hll
   by_cases hx0:x=0
   ·subst hx0
    have C1:=jq (jgb g B _ 0 1 wr HAT.out (by have:=HLL.out;omega) (by decide) (by decide))
    go_wp2_with fail
    refine C1.out.mono ?_
    rintro _ w1 ⟨rfl,hw1,ho1⟩
    have HW1:=jq (show WrO w1 B g (l++jwt (o.take (k+1))) by rw[HNX.out,←List.append_assoc];exact hw1)
    have HO1:=jq (HO.out.trans ho1)
    clear hw1 ho1 C1
    go_wp2
    go_roundw
    case rel=>exact⟨k+1,by omega,by go_num,HW1.out,HO1.out⟩
    case measure=>simp[intOf];omega
   ·have hxi:¬ (x:Int)=0:=by omega
    have hlb:lenB x=[true]++bitsOf x 4:=by unfold lenB;rw[if_neg hx0];rfl
    have HLB:=jq hlb
    have hxw:=jq (show IntKind.u64.wrap (x:Int)=(x:Int) by rw[IntKind.wrap_u64];omega)
    have C1:=jq (jgb g B _ 1 1 wr HAT.out (by have:=HLL.out;omega) (by decide) (by decide))
    clear hlb
    go_wp2_with fail
    refine C1.out.mono ?_
    rintro _ w1 ⟨rfl,hw1,ho1⟩
    have C2:=jq (jgb g B _ x 4 w1 hw1 (by rw[List.length_append,jjy];have:=HLL.out;omega) (by omega) (by decide))
    have HO1:=jq (HO.out.trans ho1)
    clear hw1 ho1 C1 hcell
    go_wp2_with fail
    first | rw[hxw.out] | skip
    refine C2.out.mono ?_
    rintro _ w2 ⟨rfl,hw2,ho2⟩
    have HW2:=jq (show WrO w2 B g (l++jwt (o.take (k+1))) by rw[HNX.out,HLB.out,←List.append_assoc,←List.append_assoc];exact hw2)
    have HO2:=jq (HO1.out.trans ho2)
    clear hw2 ho2 C2 HO1
    go_wp2
    go_roundw
    case rel=>exact⟨k+1,by omega,by go_num,HW2.out,HO2.out⟩
    case measure=>simp[intOf];omega
  ·obtain rfl:k=n:=by omega
   have HE:=jq (And.intro hat ho1)
   clear hat ho1
   go_wp2
   refine bodyPost_end (results_none rfl _ _ _) rfl ?_
   refine⟨rfl,?_,HE.out.2⟩
   have:=HE.out.1
   rwa [List.take_of_length_le (Nat.le_of_eq HN.out.1)] at this
end
section
open Go.RowKit Go.Sort Go.Shelf
def cmpN (x y:Int):Int:=if x<y then -1 else if y<x then 1 else 0
theorem isNaN_any (x:Int) (w:World):Calls prog 237 #[.int .i64 x] w fun e w'=>e=.returned (.bool false)∧w'=w:=by
 go_enter func237,ntmps237
 go_wp2
 go_ret
 exact⟨rfl,rfl⟩
theorem compare_any (x y:Int) (w:World):Calls prog 213 #[.int .i64 x,.int .i64 y] w fun e w'=>e=.returned (.int .i64 (cmpN x y))∧w'=w:=by
 have C:=jq isNaN_any
 unfold cmpN
 go_enter func213,ntmps213
 by_cases h1:x<y
 ·rw[if_pos h1]
  go_wp2_with (go_at_call 237;go_must (refine (C.out _ _).mono ?_;rintro _ _ ⟨rfl,rfl⟩))
  go_ret
  exact⟨rfl,rfl⟩
 ·rw[if_neg h1]
  by_cases h2:y<x
  ·rw[if_pos h2]
   go_wp2_with (go_at_call 237;go_must (refine (C.out _ _).mono ?_;rintro _ _ ⟨rfl,rfl⟩))
   go_ret
   exact⟨rfl,rfl⟩
  ·rw[if_neg h2]
   go_wp2_with (go_at_call 237;go_must (refine (C.out _ _).mono ?_;rintro _ _ ⟨rfl,rfl⟩))
   go_ret
   exact⟨rfl,rfl⟩
def orN (a b:Int):Int:=if a=0 then b else a
theorem or_two (a b:Int) (g:Nat) (w:World) (h0:w.cell? ⟨g,0,none⟩=some (.int .i64 a)) (h1:w.cell? ⟨g,1,none⟩=some (.int .i64 b)) :
  Calls prog 212 #[.slice (some ⟨g,0,none⟩) 2 2] w fun e w'=>e=.returned (.int .i64 (orN a b))∧w'=w:=by
 have H:=jq (And.intro h0 h1)
 clear h0 h1
 go_enter func212,ntmps212
 go_wp2
 go_loopw [8] (fun i wr=>∃ j:Nat,j≤2∧i=.int .i64 (j:Int)∧(1≤j→a=0)∧(2≤j→b=0)∧wr=w) (fun i _=>2 - (intOf i).toNat)
 case atStart=>exact⟨0,by decide,rfl,by omega,by omega,by first | trivial | rfl⟩
 case round =>
  obtain⟨j,hj,rfl,ha,hb,rfl⟩:=hrel
  obtain⟨h0,h1⟩:=H.out
  rcases (by omega:j=0∨j=1∨j=2) with rfl | rfl | rfl
  ·by_cases e:a=0
   ·subst e
    go_wp2
    go_roundw
    case rel=>exact⟨1,by decide,rfl,fun _=>by first | trivial | rfl,by omega,by first | trivial | rfl⟩
    case measure=>decide
   ·go_wp2
    go_ret
    exact⟨by rw[show orN a b=a from if_neg e];rfl,rfl⟩
  ·obtain rfl:=ha (by decide)
   by_cases e:b=0
   ·subst e
    go_wp2
    go_roundw
    case rel=>exact⟨2,by decide,rfl,fun _=>by first | trivial | rfl,fun _=>by first | trivial | rfl,by first | trivial | rfl⟩
    case measure=>decide
   ·go_wp2
    go_ret
    exact⟨by rw[show orN 0 b=b from if_pos rfl];rfl,rfl⟩
  ·obtain rfl:=ha (by decide)
   obtain rfl:=hb (by decide)
   go_wp2
   go_ret
   exact⟨rfl,rfl⟩
theorem new_cell (w:World) (xs:List Value) (t:TypeId) {k:Nat} {u:Value} (h:xs[k]?=some u):((w.alloc (.cells xs.toArray t)).drew).cell? ⟨w.heap.size,k,none⟩=some u:=by
 obtain⟨b,off,he,-,hc⟩:=Rd.new w xs.toArray t k u (by simpa using h)
 obtain⟨rfl,rfl⟩:w.heap.size=b∧off=0:=by injection he with e;injection e with e1 e2;exact⟨e1,e2.symm⟩
 rw[Nat.zero_add] at hc
 exact hc
def cfL (l:List Int) (i j:Nat):Int:=orN (cmpN (l.getD i 0) (l.getD j 0)) (cmpN (i:Int) (j:Int))
theorem inOrder_cmp {w:World} {B:Nat} {A:Option Addr} {n m E:Nat} {l:List Int} (hb:w.cell? ⟨E,0,none⟩=some (.slice A n m)) (hr:Rd w B A (zvs l)) (hn:l.length=n) (i j:Nat) (hi:i<n) (hj:j<n) :
  Calls prog 211 #[.int .i64 (i:Int),.int .i64 (j:Int),.pointer (some ⟨E,0,none⟩)] w fun e w'=>e=.returned (.int .i64 (cfL l i j))∧∃ q os,w'=grow (w.drewN q) os:=by
 have hil:i<l.length:=by omega
 have hjl:j<l.length:=by omega
 obtain⟨ab,ao,rfl,-,hc1⟩:=jjn hr hil
 obtain⟨ab',ao',he,-,hc2⟩:=jjn hr hjl
 obtain⟨rfl,rfl⟩:ab=ab'∧ao=ao':=by injection he with e;injection e with e1 e2;exact⟨e1,e2⟩
 have e1:l.getD i 0=l[i]:=by simp[List.getD_eq_getElem?_getD,hil]
 have e2:l.getD j 0=l[j]:=by simp[List.getD_eq_getElem?_getD,hjl]
 unfold cfL
 rw[e1,e2]
 obtain⟨x,hx⟩:∃ x,x=l[i]'hil:=⟨_,rfl⟩
 obtain⟨y,hy⟩:∃ y,y=l[j]'hjl:=⟨_,rfl⟩
 rw[←hx] at hc1 ⊢
 rw[←hy] at hc2 ⊢
 have C:=jq compare_any
 have hii:(i:Int)<(n:Int):=by omega
 have hji:(j:Int)<(n:Int):=by omega
 have DO:=jq (or_two (cmpN x y) (cmpN (i:Int) (j:Int)) w.heap.size ((w.alloc (.cells #[.int .i64 (cmpN x y),.int .i64 (cmpN (i:Int) (j:Int))] 3)).drew) (new_cell w [.int .i64 (cmpN x y),.int .i64 (cmpN (i:Int) (j:Int))] 3 (k:=0) rfl) (new_cell w [.int .i64 (cmpN x y),.int .i64 (cmpN (i:Int) (j:Int))] 3 (k:=1) rfl))
 clear he hr hx hy hn e1 e2 hil hjl
 go_enter func211,ntmps211
 go_wp2
 go_region_with (first | (go_at_call 213;refine (C.out _ _ _).mono ?_;rintro _ _ ⟨rfl,rfl⟩) | (go_at_call 212;refine DO.out.mono ?_;rintro _ _ ⟨rfl,rfl⟩))
 all_goals go_wp2
 all_goals go_ret
 all_goals exact⟨rfl,1,#[_],by rw[alloc_eq_grow];rfl⟩
end
section
open Go.RowKit
def jkj (a b:Int):Value:=.agg #[.int .i64 a,.int .i64 b]
def qxx (k:Pr):Value:=jkj (k.1:Int) (k.2:Int)
def qxz:List (Pr × Nat)→Nat→List MapEntry
 | [],_=>[]
 | p::t,b=>⟨qxx p.1,.int .i64 (p.2:Int),b⟩::qxz t (b+1)
theorem cEnts_snoc:∀ (es:List (Pr × Nat)) (b:Nat) (p:Pr × Nat),qxz (es++[p]) b=qxz es b++[⟨qxx p.1,.int .i64 (p.2:Int),b+es.length⟩]
 | [],b,p=>by simp[qxz]
 | q::t,b,p=>by
  simp only[List.cons_append,qxz,cEnts_snoc t,List.length_cons]
  rw[show b+1+t.length=b+(t.length+1) by omega]
def MapC (w:World) (b:Nat) (es:List (Pr × Nat)):Prop:=w.heap[b]?=some (.map (qxz es 0).toArray es.length)
def jgw (x y:Int):List (Pr × Nat)→Nat→Option (Nat × Value)
 | [],_=>none
 | p::t,j=>if x=(p.1.1:Int)∧y=(p.1.2:Int) then some (j,.int .i64 (p.2:Int)) else jgw x y t (j+1)
theorem qbz (x y:Int):∀ (es:List (Pr × Nat)) (j:Nat),(∀ p∈es,¬ (x=(p.1.1:Int)∧y=(p.1.2:Int)))→jgw x y es j=none
 | [],_,_=>rfl
 | p::t,j,h=>by
  unfold jgw
  rw[if_neg (h p List.mem_cons_self)]
  exact qbz x y t (j+1) fun q hq=>h q (List.mem_cons_of_mem _ hq)
theorem findC_some (x y:Int):∀ (es:List (Pr × Nat)) (j:Nat) (p:Pr × Nat),p∈es→(x=(p.1.1:Int)∧y=(p.1.2:Int))→(∀ q∈es,(x=(q.1.1:Int)∧y=(q.1.2:Int))→q.2=p.2)→∃ i,jgw x y es j=some (i,.int .i64 (p.2:Int))
 | [],_,_,h,_,_=>by cases h
 | q::t,j,p,h,he,hu=>by
  unfold jgw
  by_cases e:x=(q.1.1:Int)∧y=(q.1.2:Int)
  ·rw[if_pos e,hu q List.mem_cons_self e]
   exact⟨j,rfl⟩
  ·rw[if_neg e]
   rcases List.mem_cons.1 h with rfl | h
   ·exact absurd he e
   ·exact findC_some x y t (j+1) p h he fun r hr=>hu r (List.mem_cons_of_mem _ hr)
theorem equal_code (a b c d:Int) (w:World):(Op.equal 215 (jkj a b) (jkj c d)).run prog w=.ok (decide (a=c)&&decide (b=d)) w:=by
 have u3:=underlying3
 have hS:prog.underlying 215=some (.struct (prog.fieldsOf 215)):=by kernel_rfl
 have hp:prog.stoodInHeld 215=false:=by kernel_rfl
 unfold Op.equal jkj
 rw[show Op.maxDepth=9999+1 from rfl,run_equalIn_agg w 9999 215 _ _ hS hp]
 simp only[Program.fieldsOf,underlying215]
 go_simp
 by_cases h1:a=c <;> by_cases h2:b=d <;> simp[h1,h2]
theorem check_code (e:Bool) (a b:Int) (w:World):(Instr.checkKey e 10000 215 (jkj a b)).run prog w=.ok () w:=by
 unfold jkj
 kernel_rfl
theorem asking_code (x y:Int) (w:World):∀ (es:List (Pr × Nat)) (b j:Nat),(Instr.findAsking 215 (jkj x y) (qxz es b) j).run prog w=.ok (jgw x y es j) w
 | [],_,_=>by simp[Instr.findAsking,qxz,jgw]
 | p::t,b,j=>by
  unfold qxz Instr.findAsking qxx
  simp only[Sem.run_bind,equal_code,Result.andThen_ok]
  unfold jgw
  by_cases e:x=(p.1.1:Int)∧y=(p.1.2:Int)
  ·rw[if_pos e]
   simp[e.1,e.2]
  ·rw[if_neg e]
   have h:(decide (x=(p.1.1:Int))&&decide (y=(p.1.2:Int)))=false:=by
    rw[Bool.and_eq_false_iff,decide_eq_false_iff_not,decide_eq_false_iff_not]
    by_cases h1:x=(p.1.1:Int)
    ·exact .inr fun h2=>e ⟨h1,h2⟩
    ·exact .inl h1
   rw[h]
   simpa using asking_code x y w t (b+1) (j+1)
theorem now_code (x y:Int) (fs):∀ (es:List (Pr × Nat)) (b j:Nat),Instr.findNow (.struct fs) (jkj x y) (qxz es b) j=if es=[] then some none else none
 | [],_,_=>rfl
 | p::t,b,j=>by simp[qxz,Instr.findNow,Instr.sameNow,jkj]
theorem find_code (x y:Int) (w:World) (es:List (Pr × Nat)):(Instr.findKey 215 (jkj x y) (qxz es 0)).run prog w=.ok (jgw x y es 0) w:=by
 have hu:=underlying215
 unfold Instr.findKey
 simp only[Sem.run_bind,run_underlying hu,Result.andThen_ok,now_code]
 by_cases e:es=[]
 ·subst e;simp[jgw]
 ·rw[if_neg e];exact asking_code x y w es 0 0
theorem run_cput (w:World) (b:Nat) (es:List (Pr × Nat)) (hb:MapC w b es) (k:Pr) (i:Nat) (hn:∀ p∈es,p.1≠k) :
  ∃ w',(Instr.mapUpdate 211 (.map (some b)) (qxx k) (.int .i64 (i:Int))).run prog w=.ok () w'∧MapC w' b (es++[(k,i)])∧w.grownBy w' (some b):=by
 have ht:=underlying211
 have hf:jgw (k.1:Int) (k.2:Int) es 0=none:=qbz _ _ es 0 fun p hp h=>hn p hp (Prod.ext (by omega) (by omega))
 have hs:=MapKept.heap_set (w:=w) (o':=.map ((qxz es 0).toArray.push ⟨qxx k,.int .i64 (i:Int),es.length⟩) (es.length+1)) hb
 refine⟨{ w with heap:=w.heap.setIfInBounds b (.map ((qxz es 0).toArray.push ⟨qxx k,.int .i64 (i:Int),es.length⟩) (es.length+1)) },?_,?_,rfl,rfl,rfl,by simp,fun r hr hne=>hs.2 r (fun e=>hne (by rw[e]))⟩
 ·have h1:=check_code false (k.1:Int) (k.2:Int) w
  have h2:=find_code (k.1:Int) (k.2:Int) w es
  rw[hf] at h2
  unfold qxx
  simp[Instr.mapUpdate,run_underlying ht,MapKept.run_getObj_map hb,h1,h2,MapKept.run_setObj_map _ hb,Result.andThen]
 ·unfold MapC
  rw[hs.1,cEnts_snoc]
  simp
theorem run_cget (w:World) (b:Nat) (es:List (Pr × Nat)) (hb:MapC w b es) (x y:Int) :
  (Instr.lookup 211 (.map (some b)) (jkj x y) true).run prog w=.ok (match jgw x y es 0 with | some r=>.tuple #[r.2,.bool true] | none=>.tuple #[.int .i64 0,.bool false]) w:=by
 have ht:=underlying211
 have hz:(zeroValue 3).run prog w=.ok (.int .i64 0) w:=by kernel_rfl
 have h2:=find_code x y w es
 have h1:=check_code (qxz es 0).toArray.isEmpty x y w
 simp only[Instr.lookup,Sem.run_bind,run_underlying ht,Result.andThen_ok,MapKept.run_getObj_map hb,Sem.run_pure,h1,h2]
 cases jgw x y es 0 with
 | none=>simp[hz]
 | some r=>simp
theorem MapC.lt {w:World} {b:Nat} {es:List (Pr × Nat)} (h:MapC w b es):b<w.heap.size:=(Array.getElem?_eq_some_iff.1 h).1
theorem MapC.grow {w w':World} {b:Nat} {es:List (Pr × Nat)} (h:MapC w b es) (hb:Below w.heap.size w w'):MapC w' b es:=(hb.block b h.lt).trans h
theorem MapC.same {w w':World} {b:Nat} {es:List (Pr × Nat)} (h:MapC w b es) (e:w'.heap=w.heap):MapC w' b es:=by unfold MapC;rw[e];exact h
theorem MapC.set {w:World} {b:Nat} {es:List (Pr × Nat)} (h:MapC w b es) (a:Addr) (v:Value) (hne:b≠a.block):MapC (w.setCell a v) b es:=(heap_setCell_other w a b v hne).trans h
theorem mapC_new (w:World):MapC (w.alloc (.map #[] 0)) w.heap.size []:=by
 have:=heap_alloc_new w (.map #[] 0)
 exact this
end
section
open Go.RowKit Go.Sort Go.Shelf
def pvs (l:List Pr):List Value:=l.flatMap fun p=>[.int .i64 (p.1:Int),.int .i64 (p.2:Int)]
theorem jvr (p:Pr) (l:List Pr):pvs (p::l)=.int .i64 (p.1:Int) :: .int .i64 (p.2:Int)::pvs l:=rfl
theorem pvs_length (l:List Pr):(pvs l).length=l.length*2:=by
 induction l with
 | nil=>rfl
 | cons p l ih=>rw[jvr];simp only[List.length_cons,ih];omega
theorem pvs_append (l m:List Pr):pvs (l++m)=pvs l++pvs m:=by simp[pvs]
theorem pvs_get0 (l:List Pr):∀ k,k<l.length→(pvs l)[k*2]?=some (.int .i64 ((pat l k).1:Int)):=by
 induction l with
 | nil=>intro k h;simp at h
 | cons p l ih =>
  intro k h
  cases k with
  | zero=>simp[jvr,pat]
  | succ k =>
   have:=ih k (by simpa using h)
   rw[jvr,show (k+1)*2=k*2+1+1 by omega,jx,jx,this]
   simp[pat]
theorem pvs_get1 (l:List Pr):∀ k,k<l.length→(pvs l)[k*2+1]?=some (.int .i64 ((pat l k).2:Int)):=by
 induction l with
 | nil=>intro k h;simp at h
 | cons p l ih =>
  intro k h
  cases k with
  | zero=>simp[jvr,pat]
  | succ k =>
   have:=ih k (by simpa using h)
   rw[jvr,show (k+1)*2+1=k*2+1+1+1 by omega,jx,jx,this]
   simp[pat]
theorem pvs_set (l:List Pr) (x:Pr):∀ k,k<l.length→((pvs l).set (k*2) (.int .i64 (x.1:Int))).set (k*2+1) (.int .i64 (x.2:Int))=pvs (l.set k x):=by
 induction l with
 | nil=>intro k h;simp at h
 | cons p l ih =>
  intro k h
  cases k with
  | zero=>simp[jvr]
  | succ k =>
   have:=ih k (by simpa using h)
   rw[jvr,show (k+1)*2=k*2+1+1 by omega,List.set_cons_succ,List.set_cons_succ,List.set_cons_succ,List.set_cons_succ,this]
   rfl
theorem pvs_take (l:List Pr) (k:Nat):(pvs l).take (k*2)=pvs (l.take k):=by
 induction l generalizing k with
 | nil=>simp[pvs]
 | cons p l ih =>
  cases k with
  | zero=>simp[pvs]
  | succ k =>
   rw[jvr,show (k+1)*2=k*2+1+1 by omega,List.take_succ_cons,List.take_succ_cons,ih,List.take_succ_cons,jvr]
structure HAt (w:World) (T S cap:Nat) (l:List Pr):Prop where
 box:Blk w T 280 [.slice (some ⟨S,0,none⟩) l.length cap]
 row:∃ cur,Blk w S 283 cur∧cur.length=cap*2∧cur.take (l.length*2)=pvs l
 room:l.length≤cap
 most:cap≤maxLen
section
variable {w w':World} {T S cap:Nat} {l:List Pr}
theorem HAt.ne (h:HAt w T S cap l):T≠S:=fun e=>by
 obtain⟨cur,h1,-⟩:=h.row
 have:=h.box
 subst e
 unfold Blk at this h1
 rw[this] at h1
 injection h1 with h1
 injection h1 with _ h2
 exact absurd h2 (by decide)
theorem HAt.cell0 (h:HAt w T S cap l) {k:Nat} (hk:k<l.length):w.cell? ⟨S,k*2,none⟩=some (.int .i64 ((pat l k).1:Int)):=by
 obtain⟨cur,h1,h2,h3⟩:=h.row
 rw[h1.cell,←pvs_get0 l k hk,←h3,List.getElem?_take_of_lt (by omega)]
theorem HAt.cell1 (h:HAt w T S cap l) {k:Nat} (hk:k<l.length):w.cell? ⟨S,k*2+1,none⟩=some (.int .i64 ((pat l k).2:Int)):=by
 obtain⟨cur,h1,h2,h3⟩:=h.row
 rw[h1.cell,←pvs_get1 l k hk,←h3,List.getElem?_take_of_lt (by omega)]
theorem HAt.frozen (h:HAt w T S cap l) (i:Nat):w.frozen? ⟨S,i,none⟩=false:=by
 obtain⟨cur,h1,-⟩:=h.row
 exact h1.frozen i
theorem HAt.boxCell (h:HAt w T S cap l):w.cell? ⟨T,0,none⟩=some (.slice (some ⟨S,0,none⟩) l.length cap):=h.box.cell 0
theorem HAt.grow (h:HAt w T S cap l) (hb:Below w.heap.size w w'):HAt w' T S cap l:=by
 obtain⟨cur,h1,h2⟩:=h.row
 exact⟨h.box.grow hb,⟨cur,h1.grow hb,h2⟩,h.room,h.most⟩
theorem HAt.same (h:HAt w T S cap l) (e:w'.heap=w.heap):HAt w' T S cap l:=by
 obtain⟨cur,h1,h2⟩:=h.row
 exact⟨h.box.same e,⟨cur,h1.same e,h2⟩,h.room,h.most⟩
theorem drewN_two (w:World) (a b:Nat):(w.drewN a).drewN b=w.drewN (a+b):=by simp[World.drewN,Nat.add_assoc]
theorem jdg (A:Option Addr) (n c:Nat) (w:World):Calls prog 244 #[.slice A n c] w fun e w'=>e=.returned (.int .i64 (n:Int))∧w'=w:=by
 go_enter func244,ntmps244
 go_wp2
 go_ret
 exact⟨rfl,rfl⟩
theorem things_less_at (x y:Pr) (n i j:Nat) (hi:i<n) (hj:j<n)
  (hx0:w.cell? ⟨S,i*2,none⟩=some (.int .i64 (x.1:Int))) (hx1:w.cell? ⟨S,i*2+1,none⟩=some (.int .i64 (x.2:Int))) (hy0:w.cell? ⟨S,j*2,none⟩=some (.int .i64 (y.1:Int))) (hy1:w.cell? ⟨S,j*2+1,none⟩=some (.int .i64 (y.2:Int))) :
  Calls prog 305 #[.slice (some ⟨S,0,none⟩) n cap,.int .i64 (i:Int),.int .i64 (j:Int)] w fun e w'=>e=.returned (.bool (pl x y))∧∃ q,w'=w.drewN q:=by
 obtain⟨x0,x1⟩:=x
 obtain⟨y0,y1⟩:=y
 simp only at hx0 hx1 hy0 hy1
 by_cases he:x0=y0
 ·subst he
  have hp:pl (x0,x1) (x0,y1)=decide ((x1:Int)<(y1:Int)):=by simp[pl]
  rw[hp]
  go_enter func305,ntmps305
  go_wp2
  go_quiet (fail)
  go_wp2
  go_quiet (fail)
  go_wp2
  go_ret
  exact⟨by simp,_,drewN_two _ _ _⟩
 ·have he2:¬ (x0:Int)=(y0:Int):=by omega
  have hp:pl (x0,x1) (y0,y1)=decide ((x0:Int)<(y0:Int)):=by simp[pl,he]
  rw[hp]
  go_enter func305,ntmps305
  go_wp2
  go_quiet (fail)
  go_wp2
  go_quiet (fail)
  go_wp2
  go_ret
  exact⟨by simp,_,drewN_two _ _ _⟩
def swapW (w:World) (S i j:Nat) (x y:Pr):World :=
 ((((w.setCell ⟨S,i*2,none⟩ (.int .i64 (y.1:Int))).setCell ⟨S,i*2+1,none⟩ (.int .i64 (y.2:Int))).setCell ⟨S,j*2,none⟩ (.int .i64 (x.1:Int))).setCell ⟨S,j*2+1,none⟩ (.int .i64 (x.2:Int))).drew
theorem things_swap_at (x y:Pr) (n i j:Nat) (hi:i<n) (hj:j<n)
  (hx0:w.cell? ⟨S,i*2,none⟩=some (.int .i64 (x.1:Int))) (hx1:w.cell? ⟨S,i*2+1,none⟩=some (.int .i64 (x.2:Int))) (hy0:w.cell? ⟨S,j*2,none⟩=some (.int .i64 (y.1:Int))) (hy1:w.cell? ⟨S,j*2+1,none⟩=some (.int .i64 (y.2:Int)))
  (hf:∀ k,w.frozen? ⟨S,k,none⟩=false) :
  Calls prog 308 #[.slice (some ⟨S,0,none⟩) n cap,.int .i64 (i:Int),.int .i64 (j:Int)] w fun e w'=>e=.returned (.tuple #[])∧w'=swapW w S i j x y:=by
 have f1:=hf (i*2)
 have f2:=hf (i*2+1)
 have f3:=hf (j*2)
 have f4:=hf (j*2+1)
 clear hf
 obtain⟨x0,x1⟩:=x
 obtain⟨y0,y1⟩:=y
 simp only at hx0 hx1 hy0 hy1
 by_cases hij:i=j
 ·subst hij
  have e0:y0=x0:=by rw[hx0] at hy0;injection hy0 with h;injection h with _ h;omega
  have e1:y1=x1:=by rw[hx1] at hy1;injection hy1 with h;injection h with _ h;omega
  subst e0 e1
  clear hy0 hy1 f3 f4
  go_enter func308,ntmps308
  go_wp2
  go_region
  go_end0
  exact⟨rfl,rfl⟩
 ·go_enter func308,ntmps308
  go_wp2
  go_region
  go_end0
  exact⟨rfl,rfl⟩
theorem jxh {α:Type} (l:List α) (n i:Nat) (x:α):(l.set i x).take n=(l.take n).set i x:=List.take_set ..
theorem HAt.swap (h:HAt w T S cap l) {i j:Nat} (hi:i<l.length) (hj:j<l.length):HAt (swapW w S i j (pat l i) (pat l j)) T S cap (qwq l i j)∧jjq T S w (swapW w S i j (pat l i) (pat l j)):=by
 have hne:=h.ne
 obtain⟨cur,h1,h2,h3⟩:=h.row
 refine⟨⟨?_,⟨(((cur.set (i*2) (.int .i64 ((pat l j).1:Int))).set (i*2+1) (.int .i64 ((pat l j).2:Int))).set (j*2) (.int .i64 ((pat l i).1:Int))).set (j*2+1) (.int .i64 ((pat l i).2:Int)),?_,?_,?_⟩,by rw[jxb];exact h.room,h.most⟩,?_⟩
 ·rw[jxb]
  exact ((((h.box.setOther _ _ hne).setOther _ _ hne).setOther _ _ hne).setOther _ _ hne).drew_
 ·exact ((((h1.set_ _ _).set_ _ _).set_ _ _).set_ _ _).drew_
 ·simp[h2]
 ·rw[jxb,jxh,jxh,jxh,jxh,h3,pvs_set _ _ _ hi,pvs_set _ _ _ (by simpa using hj)]
  rfl
 ·exact ((((jjq.set_ _ _).trans (jjq.set_ _ _)).trans (jjq.set_ _ _)).trans (jjq.set_ _ _)).drew
theorem jmp (h:HAt w T S cap l) {i j:Nat} (hi:i<l.length) (hj:j<l.length) :
  Calls prog 305 #[.slice (some ⟨S,0,none⟩) l.length cap,.int .i64 (i:Int),.int .i64 (j:Int)] w fun e w'=>e=.returned (.bool (pl (pat l i) (pat l j)))∧∃ q,w'=w.drewN q :=
 things_less_at _ _ _ _ _ hi hj (h.cell0 hi) (h.cell1 hi) (h.cell0 hj) (h.cell1 hj)
theorem jmr (h:HAt w T S cap l) {i j:Nat} (hi:i<l.length) (hj:j<l.length) :
  Calls prog 308 #[.slice (some ⟨S,0,none⟩) l.length cap,.int .i64 (i:Int),.int .i64 (j:Int)] w fun e w'=>e=.returned (.tuple #[])∧HAt w' T S cap (qwq l i j)∧jjq T S w w' :=
 (things_swap_at _ _ _ _ _ hi hj (h.cell0 hi) (h.cell1 hi) (h.cell0 hj) (h.cell1 hj) h.frozen).mono fun _ _ ⟨a,b⟩=>⟨a,b ▸ h.swap hi hj⟩
theorem wrapNil_some (ts:Array TypeId) (t:TypeId) (a:Addr) (x y:String):Builtin.ssaWrapNilChk_ ts t #[.pointer (some a),strVal x,strVal y]=pure (.pointer (some a)):=rfl
theorem run_meth (name:String) (f:Nat) (hm:(prog.info? 278).map (fun ti=>(ti.methods.find? (·.name==name)).map fun m=>(m.path,m.func))=some (some (#[],some (f,false)))) (h:HAt w T S cap l) :
  Sem.run prog (method (prog.types.size+100) 278 (.pointer (some ⟨T,0,none⟩)) name) w=.ok (f,.slice (some ⟨S,0,none⟩) l.length cap) w:=by
 have hc:=h.boxCell
 rw[Option.map_eq_some_iff] at hm
 obtain⟨ti,hti,hm⟩:=hm
 rw[Option.map_eq_some_iff] at hm
 obtain⟨m,hm1,hm2⟩:=hm
 injection hm2 with hp hf
 have hti2:=run_typeInfo (P:=prog) w hti
 have hu:prog.underlying 278=some (.pointer 280):=by kernel_rfl
 have hag:(isAgg 280).run prog w=.ok false w:=by kernel_rfl
 show Sem.run prog (method ((prog.types.size+99)+1) _ _ _) w=_
 unfold method
 simp[hti2,hm1,hp,hf,follow,receiverAt,run_underlying hu,Place.get,wrapNil_some,loadVar,hag,hc,go_sem]
theorem run_methP (name:String) (f T:Nat) (w:World) (hm:(prog.info? 278).map (fun ti=>(ti.methods.find? (·.name==name)).map fun m=>(m.path,m.func))=some (some (#[],some (f,true)))) :
  Sem.run prog (method (prog.types.size+100) 278 (.pointer (some ⟨T,0,none⟩)) name) w=.ok (f,.pointer (some ⟨T,0,none⟩)) w:=by
 rw[Option.map_eq_some_iff] at hm
 obtain⟨ti,hti,hm⟩:=hm
 rw[Option.map_eq_some_iff] at hm
 obtain⟨m,hm1,hm2⟩:=hm
 injection hm2 with hp hf
 have hti2:=run_typeInfo (P:=prog) w hti
 have hu:prog.underlying 278=some (.pointer 280):=by kernel_rfl
 show Sem.run prog (method ((prog.types.size+99)+1) _ _ _) w=_
 unfold method
 simp[hti2,hm1,hp,hf,follow,receiverAt,run_underlying hu,Place.get,go_sem]
theorem qvt (h:HAt w T S cap l):Sem.run prog (method (prog.types.size+100) 278 (.pointer (some ⟨T,0,none⟩)) "Less") w=.ok (305,.slice (some ⟨S,0,none⟩) l.length cap) w:=run_meth "Less" _ (by kernel_rfl) h
theorem meth_len (h:HAt w T S cap l):Sem.run prog (method (prog.types.size+100) 278 (.pointer (some ⟨T,0,none⟩)) "Len") w=.ok (244,.slice (some ⟨S,0,none⟩) l.length cap) w:=run_meth "Len" _ (by kernel_rfl) h
theorem qqb (h:HAt w T S cap l):Sem.run prog (method (prog.types.size+100) 278 (.pointer (some ⟨T,0,none⟩)) "Swap") w=.ok (308,.slice (some ⟨S,0,none⟩) l.length cap) w:=run_meth "Swap" _ (by kernel_rfl) h
theorem meth_push (T:Nat) (w:World):Sem.run prog (method (prog.types.size+100) 278 (.pointer (some ⟨T,0,none⟩)) "Push") w=.ok (307,.pointer (some ⟨T,0,none⟩)) w:=run_methP "Push" _ T w (by kernel_rfl)
theorem meth_pop (T:Nat) (w:World):Sem.run prog (method (prog.types.size+100) 278 (.pointer (some ⟨T,0,none⟩)) "Pop") w=.ok (306,.pointer (some ⟨T,0,none⟩)) w:=run_methP "Pop" _ T w (by kernel_rfl)
end
def jzs (l:List Int):Nat:=qqy (l.map Int.toNat)
theorem kraftI_take (l:List Int) {k:Nat} (h:k<l.length):jzs (l.take (k+1))=jzs (l.take k)+if 1≤(l[k]).toNat∧(l[k]).toNat≤15 then 2^(15 - (l[k]).toNat) else 0:=by
 unfold jzs qqy
 rw[List.take_add_one,List.getElem?_eq_getElem h,List.map_append,List.map_append,List.sum_append]
 congr 1
theorem qgz (l:List Int):jzs l≤16384*l.length:=by
 unfold jzs qqy
 induction l with
 | nil=>simp
 | cons x l ih =>
  simp only[List.map_cons,List.sum_cons,List.length_cons]
  have:(if 1≤x.toNat∧x.toNat≤15 then 2^(15 - x.toNat) else 0)≤16384:=by
   split
   ·have h:=Nat.pow_le_pow_right (n:=2) (by decide) (show 15 - x.toNat≤14 by omega)
    exact h
   ·decide
  omega
section
variable {w:World} {A:Option Addr} {n m:Nat} {l:List Int}
end
end
end Go.Proofs.YtflcmmeoppdhdaaGreatDoor
