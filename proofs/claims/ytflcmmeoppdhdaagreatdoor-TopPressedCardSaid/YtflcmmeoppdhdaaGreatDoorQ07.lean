/- Plain mathematics of layer 4: words and their bytes, the lowest first. · Contracts of layer 4: Right, of the code and of the reference. · Words of a width: what the contracts of words say. · .. -/
import Derived.Test.YtflcmmeoppdhdaaGreatDoorQ06
import Derived.Test.YtflcmmeoppdhdaaGreatDoorProg
import Derived.Deep.DeepMust
set_option maxHeartbeats 1000000
set_option maxRecDepth 100000
namespace Go.Proofs.YtflcmmeoppdhdaaGreatDoor
open Tryz
section
def leN:List UInt8→Nat
 | []=>0
 | c::l=>c.toNat+256*leN l
def leB:Nat→Nat→List UInt8
 | 0,_=>[]
 | w+1,v=>UInt8.ofNat (v%256)::leB w (v/256)
def jjt:Nat→Nat→List UInt8→List Nat
 | 0,_,_=>[]
 | n+1,w,l=>leN (l.take w)::jjt n w (l.drop w)
def layW (w:Nat) (ws:List Nat):List UInt8:=ws.flatMap (leB w)
theorem leB_len:∀ (w v:Nat),(leB w v).length=w
 | 0,_=>rfl
 | w+1,v=>by simp[leB,leB_len w]
theorem leN_lt:∀ l:List UInt8,leN l<256^l.length
 | []=>by simp[leN]
 | c::l=>by
  have:=leN_lt l
  have hc:=c.toNat_lt
  simp only[leN,List.length_cons,Nat.pow_succ]
  omega
theorem leN_append:∀ l m:List UInt8,leN (l++m)=leN l+256^l.length*leN m
 | [],m=>by simp[leN]
 | c::l,m=>by
  simp only[List.cons_append,leN,leN_append l m,List.length_cons,Nat.pow_succ]
  rw[Nat.mul_add,←Nat.mul_assoc,Nat.mul_comm 256 (256^l.length)]
  omega
theorem leN_snoc (l:List UInt8) (c:UInt8):leN (l++[c])=leN l+c.toNat*256^l.length:=by
 rw[leN_append]
 simp[leN,Nat.mul_comm]
theorem leN_leB:∀ (w v:Nat),leN (leB w v)=v%256^w
 | 0,v=>by simp[leB,leN,Nat.mod_one]
 | w+1,v=>by
  simp only[leB,leN,leN_leB w]
  have h:(UInt8.ofNat (v%256)).toNat=v%256:=by rw[UInt8.toNat_ofNat'];omega
  rw[h,Nat.pow_succ,Nat.mul_comm (256^w),Nat.mod_mul]
theorem leB_leN:∀ l:List UInt8,leB l.length (leN l)=l
 | []=>rfl
 | c::l=>by
  have hc:=c.toNat_lt
  simp only[List.length_cons,leB,leN]
  have h1:(c.toNat+256*leN l)%256=c.toNat:=by omega
  have h2:(c.toNat+256*leN l)/256=leN l:=by omega
  rw[h1,h2,leB_leN l]
  congr 1
  apply UInt8.toNat_inj.1
  rw[UInt8.toNat_ofNat']
  omega
theorem jjc:∀ (n w:Nat) (l:List UInt8),(jjt n w l).length=n
 | 0,_,_=>rfl
 | n+1,w,l=>by simp[jjt,jjc n]
theorem wordsN_snoc:∀ (n w:Nat) (l:List UInt8),jjt (n+1) w l=jjt n w l++[leN ((l.drop (n*w)).take w)]
 | 0,w,l=>by simp[jjt]
 | n+1,w,l=>by
  show leN (l.take w)::jjt (n+1) w (l.drop w)=leN (l.take w)::(jjt n w (l.drop w)++_)
  rw[wordsN_snoc n w (l.drop w),List.drop_drop]
  rw[show w+n*w=(n+1)*w by rw[Nat.add_mul];omega]
theorem wordsN_take:∀ (n w:Nat) (l:List UInt8),jjt n w (l.take (n*w))=jjt n w l
 | 0,_,_=>rfl
 | n+1,w,l=>by
  have e:(n+1)*w=w+n*w:=by rw[Nat.add_mul];omega
  simp only[jjt]
  rw[e,List.take_take,Nat.min_eq_left (by omega),List.drop_take,show w+n*w - w=n*w by omega,wordsN_take n w (l.drop w)]
theorem layW_words:∀ (n w:Nat) (l:List UInt8),n*w≤l.length→layW w (jjt n w l)=l.take (n*w)
 | 0,w,l,_=>by simp[jjt,layW]
 | n+1,w,l,h=>by
  have hw:w≤l.length:=by rw[Nat.add_mul] at h;omega
  show leB w (leN (l.take w))++layW w (jjt n w (l.drop w))=_
  have e:=leB_leN (l.take w)
  rw[List.length_take,Nat.min_eq_left hw] at e
  rw[e,layW_words n w (l.drop w) (by rw[List.length_drop];rw[Nat.add_mul] at h;omega)]
  rw[Nat.add_mul,Nat.one_mul,Nat.add_comm (n*w),List.take_add]
theorem words_layW:∀ (w:Nat) (ws:List Nat) (m:List UInt8),jjt ws.length w (layW w ws++m)=ws.map (·%256^w)
 | _,[],_=>rfl
 | w,v::ws,m=>by
  show jjt (ws.length+1) w ((leB w v++layW w ws)++m)=_
  have ht:((leB w v++layW w ws)++m).take w=leB w v:=by
   rw[List.append_assoc,List.take_left' (leB_len w v)]
  have hd:((leB w v++layW w ws)++m).drop w=layW w ws++m:=by
   rw[List.append_assoc,List.drop_left' (leB_len w v)]
  simp only[jjt,ht,hd,leN_leB,words_layW w ws m,List.map_cons]
theorem qvn:∀ (w:Nat) (ws:List Nat),(layW w ws).length=ws.length*w
 | _,[]=>by simp[layW]
 | w,v::ws=>by
  show (leB w v++layW w ws).length=_
  rw[List.length_append,leB_len,qvn w ws,List.length_cons,Nat.add_mul]
  omega
theorem layW_snoc (w:Nat) (ws:List Nat) (k:Nat) (h:k<ws.length):layW w (ws.take (k+1))=layW w (ws.take k)++leB w ws[k]:=by
 unfold layW
 rw[List.take_succ_eq_append_getElem h,List.flatMap_append]
 simp
theorem leB_snoc:∀ (k v:Nat),leB (k+1) v=leB k v++[UInt8.ofNat (v/256^k%256)]
 | 0,v=>by simp[leB]
 | k+1,v=>by
  show UInt8.ofNat (v%256)::leB (k+1) (v/256)=UInt8.ofNat (v%256)::(leB k (v/256)++_)
  rw[leB_snoc k (v/256),Nat.div_div_eq_div_mul,Nat.pow_succ,Nat.mul_comm 256]
def jqj (w:Int):Bool:=w==1||w==2||w==4||w==8
theorem qkm (w:Int):jqj w=true↔w=1∨w=2∨w=4∨w=8:=by
 simp[jqj,or_assoc]
def maskN (w:Int):Nat:=if jqj w then 256^w.toNat - 1 else 0
end
section
open Go.RowKit
theorem jjx (n:Int) (b:Bool) (hb:b=jqj n) (w:World) :
  Calls prog 14 #[.int .i64 n] w fun e w'=>e=.returned (.bool b)∧w=w':=by
 by_cases h:n=1∨n=2∨n=4∨n=8
 ·have hb1:b=true:=by rw[hb];exact (qkm n).2 h
  subst hb1
  clear hb
  rcases h with rfl | rfl | rfl | rfl
  all_goals
   go_enter func14,ntmps14
   go_wp2
   go_ret
   exact⟨rfl,rfl⟩
 ·have hb0:b=false:=by
   rw[hb]
   cases hr:jqj n with
   | false=>rfl
   | true=>exact absurd ((qkm n).1 hr) h
  subst hb0
  have h1:(n==1)=false:=by rw[beq_eq_false_iff_ne];omega
  have h2:(n==2)=false:=by rw[beq_eq_false_iff_ne];omega
  have h4:(n==4)=false:=by rw[beq_eq_false_iff_ne];omega
  have h8:(n==8)=false:=by rw[beq_eq_false_iff_ne];omega
  clear hb h
  go_enter func14,ntmps14
  go_wp2
  go_ret
  exact⟨rfl,rfl⟩
def IsW (W:Nat):Prop:=W=1∨W=2∨W=4∨W=8
theorem IsW.right {W:Nat} (h:IsW W):true=jqj (W:Int):=by
 rcases h with rfl | rfl | rfl | rfl <;> rfl
theorem jdk {n:Int} (h:jqj n=true):∃ W:Nat,n=(W:Int)∧IsW W:=by
 rcases (qkm n).1 h with rfl | rfl | rfl | rfl
 ·exact⟨1,rfl,.inl rfl⟩
 ·exact⟨2,rfl,.inr (.inl rfl)⟩
 ·exact⟨4,rfl,.inr (.inr (.inl rfl))⟩
 ·exact⟨8,rfl,.inr (.inr (.inr rfl))⟩
theorem IsW.pos {W:Nat} (h:IsW W):1≤W∧W≤8:=by rcases h with rfl | rfl | rfl | rfl <;> omega
theorem jyy:(prog.info? 64).map (fun i=>(i.zero,i.size,i.bytes))=some (some (.int .u64 0),1,8):=by kernel_rfl
def NewW (w:World) (ws:List Nat) (e:Ending) (w':World):Prop:=∃ v,e=.returned v∧jzm (wvs ws) v w'∧Below w.heap.size w w'
def jwg (B:Nat) (v:Value):Prop:=∀ p n c,v=.slice (some p) n c→B≤p.block
theorem jwg.nil (B:Nat):jwg B (.slice none 0 0):=fun p n c e=>by cases e
theorem jwg.at_ {B g o n c:Nat} (h:B≤g):jwg B (.slice (some ⟨g,o,none⟩) n c):=fun p n' c' e=>by injection e with e;injection e with e;subst e;exact h
theorem jwg.low {B B':Nat} {v:Value} (h:jwg B v) (hB:B'≤B):jwg B' v:=fun p n c e=>Nat.le_trans hB (h p n c e)
def qyf (B:Nat) (xs:List Value) (v:Value) (w:World):Prop:=jzm xs v w∧jwg B v
theorem qyf.grow (B:Nat) (xs:List Value) (v:Value) (w w':World) (h:qyf B xs v w) (hb:Below w.heap.size w w'):qyf B xs v w':=⟨h.1.grow hb,h.2⟩
def NewWF (w:World) (ws:List Nat) (e:Ending) (w':World):Prop:=∃ v,e=.returned v∧qyf w.heap.size (wvs ws) v w'∧Below w.heap.size w w'
theorem width_of (u:Nat):∃ V,IsW V∧wrap64 (2^(u%4))=(V:Int):=by
 rcases (show u%4=0∨u%4=1∨u%4=2∨u%4=3 by omega) with h | h | h | h <;> rw[h]
 ·exact⟨1,.inl rfl,IntWalk.wrap64_in _ (by decide)⟩
 ·exact⟨2,.inr (.inl rfl),IntWalk.wrap64_in _ (by decide)⟩
 ·exact⟨4,.inr (.inr (.inl rfl)),IntWalk.wrap64_in _ (by decide)⟩
 ·exact⟨8,.inr (.inr (.inr rfl)),IntWalk.wrap64_in _ (by decide)⟩
def qmd (w:World) (l:List UInt8) (e:Ending) (w':World):Prop:=∃ v,e=.returned v∧jjz l v w'∧Below w.heap.size w w'
theorem jyc (n:Int) (w:World) :
  Calls prog 66 #[.int .i64 n] w fun e w'=>e=.returned (.int .u64 (maskN n:Int))∧w=w':=by
 cases hr:jqj n with
 | true =>
  rcases (qkm n).1 hr with rfl | rfl | rfl | rfl
  all_goals
   go_enter func66,ntmps66
   go_wp2_with (go_at_call 14;go_must (refine (jjx _ true hr.symm _).mono ?_;rintro e w' ⟨rfl,rfl⟩))
   go_ret
   exact⟨jyr (by decide),rfl⟩
 | false =>
  have hm:maskN n=0:=by unfold maskN;rw[hr];rfl
  rw[hm]
  clear hm
  go_enter func66,ntmps66
  go_wp2_with (go_at_call 14;go_must (refine (jjx _ false hr.symm _).mono ?_;rintro e w' ⟨rfl,rfl⟩))
  go_ret
  exact⟨rfl,rfl⟩
def TogRel (K:IntKind) (l:List UInt8) (t i:Value):Prop:=∃ k:Nat,k≤l.length∧i=.int .i64 k∧t=.int K (leN (l.take k):Int)
theorem or_join (x y i:Nat) (h1:x<2^i) (h2:y%2^i=0):x ||| y=x+y:=by
 rw[Nat.or_comm,nat_join i y x h2 h1,Nat.add_comm]
theorem tog_all (l:List UInt8) (k W:Nat) (h:k<l.length) (hW:l.length≤W) :
  leN (l.take k)<2^(8*k)∧(l[k].toNat*2^(8*k))%2^(8*k)=0∧leN (l.take k)+l[k].toNat*2^(8*k)<256^W∧leN (l.take (k+1))=leN (l.take k)+l[k].toNat*2^(8*k):=by
 have hp:(2:Nat)^(8*k)=256^k:=by rw[Nat.pow_mul]
 have hl:(l.take k).length=k:=by rw[List.length_take];omega
 have h1:=leN_lt (l.take k)
 rw[hl] at h1
 have e:leN (l.take (k+1))=leN (l.take k)+l[k].toNat*256^k:=by
  rw[List.take_succ_eq_append_getElem h,leN_snoc,hl]
 have h2:=leN_lt (l.take (k+1))
 have h3:256^(l.take (k+1)).length≤256^W:=Nat.pow_le_pow_right (by decide) (by rw[List.length_take];omega)
 rw[hp]
 exact⟨h1,Nat.mul_mod_left _ _,by omega,e⟩
theorem tog_u8 (l:List UInt8) (k:Nat) (h:k<l.length) (hW:l.length≤1):bits .or .u8 (leN (l.take k):Int) ((l[k].toNat:Int)*2^(8*k)%256)=(leN (l.take (k+1)):Int):=by
 obtain⟨h1,h2,h3,h4⟩:=tog_all l k 1 h hW
 have h5:(256:Nat)^1=256:=by decide
 rw[h5] at h3
 have e:(l[k].toNat:Int)*2^(8*k)=((l[k].toNat*2^(8*k):Nat):Int):=by simp
 rw[e,h4]
 generalize l[k].toNat*2^(8*k)=y at *
 generalize leN (l.take k)=x at *
 have hm:(y:Int)%256=(y:Int):=by omega
 rw[hm,u8_or_nat x y (by omega) (by omega),or_join x y (8*k) h1 h2]
theorem tog_u16 (l:List UInt8) (k:Nat) (h:k<l.length) (hW:l.length≤2):bits .or .u16 (leN (l.take k):Int) (IntKind.u16.wrap ((l[k].toNat:Int)*2^(8*k)))=(leN (l.take (k+1)):Int):=by
 obtain⟨h1,h2,h3,h4⟩:=tog_all l k 2 h hW
 have h5:(256:Nat)^2=65536:=by decide
 rw[h5] at h3
 have e:(l[k].toNat:Int)*2^(8*k)=((l[k].toNat*2^(8*k):Nat):Int):=by simp
 rw[e,h4]
 generalize l[k].toNat*2^(8*k)=y at *
 generalize leN (l.take k)=x at *
 have hm:IntKind.u16.wrap (y:Int)=(y:Int):=by rw[IntKind.wrap_u16];omega
 rw[hm,u16_or_nat x y (by omega) (by omega),or_join x y (8*k) h1 h2]
theorem tog_u32 (l:List UInt8) (k:Nat) (h:k<l.length) (hW:l.length≤4):bits .or .u32 (leN (l.take k):Int) ((l[k].toNat:Int)*2^(8*k)%4294967296)=(leN (l.take (k+1)):Int):=by
 obtain⟨h1,h2,h3,h4⟩:=tog_all l k 4 h hW
 have h5:(256:Nat)^4=4294967296:=by decide
 rw[h5] at h3
 have e:(l[k].toNat:Int)*2^(8*k)=((l[k].toNat*2^(8*k):Nat):Int):=by simp
 rw[e,h4]
 generalize l[k].toNat*2^(8*k)=y at *
 generalize leN (l.take k)=x at *
 have hm:(y:Int)%4294967296=(y:Int):=by omega
 rw[hm,u32_or_nat x y (by omega) (by omega),or_join x y (8*k) h1 h2]
theorem tog_u64 (l:List UInt8) (k:Nat) (h:k<l.length) (hW:l.length≤8):bits .or .u64 (leN (l.take k):Int) (IntKind.u64.wrap ((l[k].toNat:Int)*2^(8*k)))=(leN (l.take (k+1)):Int):=by
 obtain⟨h1,h2,h3,h4⟩:=tog_all l k 8 h hW
 have h5:(256:Nat)^8=18446744073709551616:=by decide
 rw[h5] at h3
 have e:(l[k].toNat:Int)*2^(8*k)=((l[k].toNat*2^(8*k):Nat):Int):=by simp
 rw[e,h4]
 generalize l[k].toNat*2^(8*k)=y at *
 generalize leN (l.take k)=x at *
 have hm:IntKind.u64.wrap (y:Int)=(y:Int):=by rw[IntKind.wrap_u64];omega
 rw[hm,u64_or_nat x y (by omega) (by omega),or_join x y (8*k) h1 h2]
theorem together_u8 (A:Option Addr) (n c:Nat) (l:List UInt8) (w:World) (hr:Rd w w.heap.size A (bvs l)) (hn:l.length=n) (hW:n=1) :
  Calls prog 174 #[.slice A n c] w fun e w'=>e=.returned (.int .u8 (leN l:Int))∧w=w':=by
 subst hn
 have hW':(l.length:Int)=1:=by omega
 have hl1:(l.length:Int)≤1:=by omega
 have hl0:(1:Int)≤(l.length:Int):=by omega
 clear hW'
 have HW:=jq hW
 clear hW
 go_enter func174,ntmps174
 go_wp2
 go_loop [3,8] (TogRel .u8 l) (fun _ i=>l.length - (intOf i).toNat)
 case atStart=>exact⟨0,Nat.zero_le _,rfl,rfl⟩
 case round =>
  obtain⟨k,hk,rfl,rfl⟩:=hrel
  by_cases hlt:k<l.length
  ·obtain⟨ab,ao,rfl,_,hcell⟩:=hr k _ (jym l k hlt)
   have hstep:=tog_u8 l k hlt (by have:=HW.out;omega)
   obtain⟨b,hb⟩:∃ b,b=l[k]:=⟨_,rfl⟩
   rw[←hb] at hcell hstep
   have hb8:=b.toNat_lt
   have hb0:(0:Int)≤(b.toNat:Int):=by omega
   have hb255:(b.toNat:Int)≤255:=by omega
   have HS:=jq hstep
   clear hb hb8 hstep
   go_wp2
   go_round
   case rel=>exact⟨k+1,by omega,by go_num,by rw[←HS.out]⟩
   case measure=>simp[intOf];omega
  ·obtain rfl:k=l.length:=by omega
   rw[List.take_length]
   go_wp2
   go_ret
   exact⟨rfl,rfl⟩
theorem together_u16 (A:Option Addr) (n c:Nat) (l:List UInt8) (w:World) (hr:Rd w w.heap.size A (bvs l)) (hn:l.length=n) (hW:n=2) :
  Calls prog 175 #[.slice A n c] w fun e w'=>e=.returned (.int .u16 (leN l:Int))∧w=w':=by
 subst hn
 have hW':(l.length:Int)=2:=by omega
 have hl1:(l.length:Int)≤2:=by omega
 have hl0:(1:Int)≤(l.length:Int):=by omega
 clear hW'
 have HW:=jq hW
 clear hW
 go_enter func175,ntmps175
 go_wp2
 go_loop [3,8] (TogRel .u16 l) (fun _ i=>l.length - (intOf i).toNat)
 case atStart=>exact⟨0,Nat.zero_le _,rfl,rfl⟩
 case round =>
  obtain⟨k,hk,rfl,rfl⟩:=hrel
  by_cases hlt:k<l.length
  ·obtain⟨ab,ao,rfl,_,hcell⟩:=hr k _ (jym l k hlt)
   have hstep:=tog_u16 l k hlt (by have:=HW.out;omega)
   obtain⟨b,hb⟩:∃ b,b=l[k]:=⟨_,rfl⟩
   rw[←hb] at hcell hstep
   have hb8:=b.toNat_lt
   have hb0:(0:Int)≤(b.toNat:Int):=by omega
   have hb255:(b.toNat:Int)≤255:=by omega
   have HS:=jq hstep
   clear hb hb8 hstep
   go_wp2
   go_round
   case rel=>exact⟨k+1,by omega,by go_num,by rw[←HS.out]⟩
   case measure=>simp[intOf];omega
  ·obtain rfl:k=l.length:=by omega
   rw[List.take_length]
   go_wp2
   go_ret
   exact⟨rfl,rfl⟩
theorem together_u32 (A:Option Addr) (n c:Nat) (l:List UInt8) (w:World) (hr:Rd w w.heap.size A (bvs l)) (hn:l.length=n) (hW:n=4) :
  Calls prog 176 #[.slice A n c] w fun e w'=>e=.returned (.int .u32 (leN l:Int))∧w=w':=by
 subst hn
 have hW':(l.length:Int)=4:=by omega
 have hl1:(l.length:Int)≤4:=by omega
 have hl0:(1:Int)≤(l.length:Int):=by omega
 clear hW'
 have HW:=jq hW
 clear hW
 go_enter func176,ntmps176
 go_wp2
 go_loop [3,8] (TogRel .u32 l) (fun _ i=>l.length - (intOf i).toNat)
 case atStart=>exact⟨0,Nat.zero_le _,rfl,rfl⟩
 case round =>
  obtain⟨k,hk,rfl,rfl⟩:=hrel
  by_cases hlt:k<l.length
  ·obtain⟨ab,ao,rfl,_,hcell⟩:=hr k _ (jym l k hlt)
   have hstep:=tog_u32 l k hlt (by have:=HW.out;omega)
   obtain⟨b,hb⟩:∃ b,b=l[k]:=⟨_,rfl⟩
   rw[←hb] at hcell hstep
   have hb8:=b.toNat_lt
   have hb0:(0:Int)≤(b.toNat:Int):=by omega
   have hb255:(b.toNat:Int)≤255:=by omega
   have HS:=jq hstep
   clear hb hb8 hstep
   go_wp2
   go_round
   case rel=>exact⟨k+1,by omega,by go_num,by rw[←HS.out]⟩
   case measure=>simp[intOf];omega
  ·obtain rfl:k=l.length:=by omega
   rw[List.take_length]
   go_wp2
   go_ret
   exact⟨rfl,rfl⟩
theorem together_u64 (A:Option Addr) (n c:Nat) (l:List UInt8) (w:World) (hr:Rd w w.heap.size A (bvs l)) (hn:l.length=n) (hW:n=8) :
  Calls prog 177 #[.slice A n c] w fun e w'=>e=.returned (.int .u64 (leN l:Int))∧w=w':=by
 subst hn
 have hW':(l.length:Int)=8:=by omega
 have hl1:(l.length:Int)≤8:=by omega
 have hl0:(1:Int)≤(l.length:Int):=by omega
 clear hW'
 have HW:=jq hW
 clear hW
 go_enter func177,ntmps177
 go_wp2
 go_loop [3,8] (TogRel .u64 l) (fun _ i=>l.length - (intOf i).toNat)
 case atStart=>exact⟨0,Nat.zero_le _,rfl,rfl⟩
 case round =>
  obtain⟨k,hk,rfl,rfl⟩:=hrel
  by_cases hlt:k<l.length
  ·obtain⟨ab,ao,rfl,_,hcell⟩:=hr k _ (jym l k hlt)
   have hstep:=tog_u64 l k hlt (by have:=HW.out;omega)
   obtain⟨b,hb⟩:∃ b,b=l[k]:=⟨_,rfl⟩
   rw[←hb] at hcell hstep
   have hb8:=b.toNat_lt
   have hb0:(0:Int)≤(b.toNat:Int):=by omega
   have hb255:(b.toNat:Int)≤255:=by omega
   have HS:=jq hstep
   clear hb hb8 hstep
   go_wp2
   go_round
   case rel=>exact⟨k+1,by omega,by go_num,by rw[←HS.out]⟩
   case measure=>simp[intOf];omega
  ·obtain rfl:k=l.length:=by omega
   rw[List.take_length]
   go_wp2
   go_ret
   exact⟨rfl,rfl⟩
def RowRel (w:World) (W m r:Nat) (l:List UInt8) (i:Value) (wr:World):Prop :=
 ∃ k:Nat,k≤m∧i=.int .i64 k∧Blk wr r 64 (wrow (jjt k W l) m)∧Below w.heap.size w wr
theorem qmw (k W m:Nat) (l:List UInt8) (h:k<m):(wrow (jjt k W l) m).set k (.int .u64 (leN ((l.drop (k*W)).take W):Int))=wrow (jjt (k+1) W l) m:=by
 have e:=qmv (jjt k W l) m (leN ((l.drop (k*W)).take W)) (by rw[jjc];exact h)
 rw[jjc] at e
 rw[e,wordsN_snoc]
theorem qmx (k W m:Nat) (l:List UInt8) (h:k<m):(wrow (jjt k W l) m)[k]?=some (.int .u64 0):=by
 have e:=qmy (jjt k W l) m (by rw[jjc];exact h)
 rwa [jjc] at e
theorem row_u8 (A:Option Addr) (n c m:Nat) (l:List UInt8) (w:World) (hr:Rd w w.heap.size A (bvs l)) (hn:l.length=n) (hm:n=m*1) (hnc:n≤c) (hb1:n≤100000) :
  Calls prog 110 #[.slice A n c,.int .i64 1] w (NewWF w (jjt m 1 l)):=by
 obtain⟨i0,hi,hz0,hz1,hz2⟩:=info_parts jyy
 subst hn
 have hq:(l.length:Int)/1=(m:Int):=by omega
 have hml:m≤100000:=by omega
 have HM:=jq hm
 clear hm
 go_enter func110,ntmps110
 go_wp2_with (at_make;go_must (refine jqp rfl (.tmp 10) (.tmp 10) 63 rfl w.heap.size 64 i0 (.int .u64 0) 8 underlying63 hi hz0 rfl hz1 hz2 .i64 .i64 _ _ rfl rfl m m (by have:=HM.out;omega) (by have:=HM.out;omega) jw (by omega) (by simp only[maxLen];omega) jw ?_;intro w1 hg1 hown1 hgr1;have hb:Below w.heap.size w w1:=(Below.refl _ _).grown hgr1 jw (by simp);have hblk:Blk w1 w.heap.size 64 (wrow (jjt 0 1 l) m):=(by unfold Blk;rw[hg1];simp[wrow,jjt,wvs]);clear hg1 hown1 hgr1))
 clear hq
 go_loopw [14] (RowRel w 1 m w.heap.size l) (fun i _=>m - (intOf i).toNat)
 case atStart=>exact⟨0,Nat.zero_le _,rfl,hblk,hb⟩
 case round =>
  obtain⟨k,hk,rfl,hblk,hb⟩:=hrel
  by_cases hlt:k<m
  ·have hml2:(m:Int)*1=(l.length:Int):=by have:=HM.out;omega
   have hlo:0<l.length:=by have:=HM.out;omega
   obtain⟨ab,ao,rfl,_,_⟩:=hr.at_ (by rw[jjg];exact hlo)
   have hcell:=hblk.cell k
   rw[qmx k 1 m l hlt] at hcell
   have hfr:=hblk.frozen k
   have hset:=hblk.set_ k (.int .u64 (leN ((l.drop (k*1)).take 1):Int))
   rw[qmw k 1 m l hlt] at hset
   obtain⟨ch,hch⟩:∃ ch,ch=(l.drop (k*1)).take 1:=⟨_,rfl⟩
   have hrc:Rd wr wr.heap.size (some ⟨ab,ao+k,none⟩) (bvs ch):=by
    have:=((((hr.below hb).more hb.size).drop (k*1)).take 1)
    rw[jxj,jbw,←hch] at this
    simpa [Addr.add_lit] using this
   have hcl:ch.length=1:=by rw[hch,List.length_take,List.length_drop];have:=HM.out;omega
   rw[←hch] at hset
   have HSET:=jq hset
   have HRC:=jq hrc
   have HCL:=jq hcl
   have hk0:(k:Int)<(m:Int):=by omega
   have hkl:(k:Int)*1+1≤(l.length:Int):=by omega
   have hkl2:(k:Int)*1+1≤(c:Int):=by omega
   clear hset hrc hcl hch hblk
   go_wp2_with fail
   refine (together_u8 _ _ _ ch _ HRC.out (by have:=HCL.out;omega) (by omega)).mono ?_
   rintro e w' ⟨rfl,rfl⟩
   have hle:=leN_lt ch
   rw[HCL.out] at hle
   have hle2:(leN ch:Int)<256:=by omega
   have hle3:(0:Int)≤(leN ch:Int):=by omega
   clear hle
   go_wp2
   go_roundw
   case rel=>exact⟨k+1,by omega,by go_num,HSET.out,hb.setCell jw _⟩
   case measure=>simp[intOf];omega
  ·obtain rfl:k=m:=by omega
   have hfull:=jkz (jjt k 1 l)
   rw[jjc] at hfull
   rw[hfull] at hblk
   have hrd:=Rd.of_blk hblk
   have HRD:=jq hrd
   clear hblk hfull hrd
   go_wp2
   go_ret
   exact⟨.slice (some ⟨w.heap.size,0,none⟩) k k,rfl,⟨⟨_,k,by rw[jjv,jjc],by rw[jjv,jjc];exact Nat.le_refl _,HRD.out⟩,jwg.at_ jw⟩,hb⟩
theorem row_u16 (A:Option Addr) (n c m:Nat) (l:List UInt8) (w:World) (hr:Rd w w.heap.size A (bvs l)) (hn:l.length=n) (hm:n=m*2) (hnc:n≤c) (hb1:n≤100000) :
  Calls prog 111 #[.slice A n c,.int .i64 2] w (NewWF w (jjt m 2 l)):=by
 obtain⟨i0,hi,hz0,hz1,hz2⟩:=info_parts jyy
 subst hn
 have hq:(l.length:Int)/2=(m:Int):=by omega
 have hml:m≤100000:=by omega
 have HM:=jq hm
 clear hm
 go_enter func111,ntmps111
 go_wp2_with (at_make;go_must (refine jqp rfl (.tmp 10) (.tmp 10) 63 rfl w.heap.size 64 i0 (.int .u64 0) 8 underlying63 hi hz0 rfl hz1 hz2 .i64 .i64 _ _ rfl rfl m m (by have:=HM.out;omega) (by have:=HM.out;omega) jw (by omega) (by simp only[maxLen];omega) jw ?_;intro w1 hg1 hown1 hgr1;have hb:Below w.heap.size w w1:=(Below.refl _ _).grown hgr1 jw (by simp);have hblk:Blk w1 w.heap.size 64 (wrow (jjt 0 2 l) m):=(by unfold Blk;rw[hg1];simp[wrow,jjt,wvs]);clear hg1 hown1 hgr1))
 clear hq
 go_loopw [14] (RowRel w 2 m w.heap.size l) (fun i _=>m - (intOf i).toNat)
 case atStart=>exact⟨0,Nat.zero_le _,rfl,hblk,hb⟩
 case round =>
  obtain⟨k,hk,rfl,hblk,hb⟩:=hrel
  by_cases hlt:k<m
  ·have hml2:(m:Int)*2=(l.length:Int):=by have:=HM.out;omega
   have hlo:0<l.length:=by have:=HM.out;omega
   obtain⟨ab,ao,rfl,_,_⟩:=hr.at_ (by rw[jjg];exact hlo)
   have hcell:=hblk.cell k
   rw[qmx k 2 m l hlt] at hcell
   have hfr:=hblk.frozen k
   have hset:=hblk.set_ k (.int .u64 (leN ((l.drop (k*2)).take 2):Int))
   rw[qmw k 2 m l hlt] at hset
   obtain⟨ch,hch⟩:∃ ch,ch=(l.drop (k*2)).take 2:=⟨_,rfl⟩
   have hrc:Rd wr wr.heap.size (some ⟨ab,ao+k*2,none⟩) (bvs ch):=by
    have:=((((hr.below hb).more hb.size).drop (k*2)).take 2)
    rw[jxj,jbw,←hch] at this
    simpa [Addr.add_lit] using this
   have hcl:ch.length=2:=by rw[hch,List.length_take,List.length_drop];have:=HM.out;omega
   rw[←hch] at hset
   have HSET:=jq hset
   have HRC:=jq hrc
   have HCL:=jq hcl
   have hk0:(k:Int)<(m:Int):=by omega
   have hkl:(k:Int)*2+2≤(l.length:Int):=by omega
   have hkl2:(k:Int)*2+2≤(c:Int):=by omega
   clear hset hrc hcl hch hblk
   go_wp2_with fail
   refine (together_u16 _ _ _ ch _ HRC.out (by have:=HCL.out;omega) (by omega)).mono ?_
   rintro e w' ⟨rfl,rfl⟩
   have hle:=leN_lt ch
   rw[HCL.out] at hle
   have hle2:(leN ch:Int)<65536:=by omega
   have hle3:(0:Int)≤(leN ch:Int):=by omega
   clear hle
   go_wp2
   go_roundw
   case rel=>exact⟨k+1,by omega,by go_num,HSET.out,hb.setCell jw _⟩
   case measure=>simp[intOf];omega
  ·obtain rfl:k=m:=by omega
   have hfull:=jkz (jjt k 2 l)
   rw[jjc] at hfull
   rw[hfull] at hblk
   have hrd:=Rd.of_blk hblk
   have HRD:=jq hrd
   clear hblk hfull hrd
   go_wp2
   go_ret
   exact⟨.slice (some ⟨w.heap.size,0,none⟩) k k,rfl,⟨⟨_,k,by rw[jjv,jjc],by rw[jjv,jjc];exact Nat.le_refl _,HRD.out⟩,jwg.at_ jw⟩,hb⟩
theorem row_u32 (A:Option Addr) (n c m:Nat) (l:List UInt8) (w:World) (hr:Rd w w.heap.size A (bvs l)) (hn:l.length=n) (hm:n=m*4) (hnc:n≤c) (hb1:n≤100000) :
  Calls prog 112 #[.slice A n c,.int .i64 4] w (NewWF w (jjt m 4 l)):=by
 obtain⟨i0,hi,hz0,hz1,hz2⟩:=info_parts jyy
 subst hn
 have hq:(l.length:Int)/4=(m:Int):=by omega
 have hml:m≤100000:=by omega
 have HM:=jq hm
 clear hm
 go_enter func112,ntmps112
 go_wp2_with (at_make;go_must (refine jqp rfl (.tmp 10) (.tmp 10) 63 rfl w.heap.size 64 i0 (.int .u64 0) 8 underlying63 hi hz0 rfl hz1 hz2 .i64 .i64 _ _ rfl rfl m m (by have:=HM.out;omega) (by have:=HM.out;omega) jw (by omega) (by simp only[maxLen];omega) jw ?_;intro w1 hg1 hown1 hgr1;have hb:Below w.heap.size w w1:=(Below.refl _ _).grown hgr1 jw (by simp);have hblk:Blk w1 w.heap.size 64 (wrow (jjt 0 4 l) m):=(by unfold Blk;rw[hg1];simp[wrow,jjt,wvs]);clear hg1 hown1 hgr1))
 clear hq
 go_loopw [14] (RowRel w 4 m w.heap.size l) (fun i _=>m - (intOf i).toNat)
 case atStart=>exact⟨0,Nat.zero_le _,rfl,hblk,hb⟩
 case round =>
  obtain⟨k,hk,rfl,hblk,hb⟩:=hrel
  by_cases hlt:k<m
  ·have hml2:(m:Int)*4=(l.length:Int):=by have:=HM.out;omega
   have hlo:0<l.length:=by have:=HM.out;omega
   obtain⟨ab,ao,rfl,_,_⟩:=hr.at_ (by rw[jjg];exact hlo)
   have hcell:=hblk.cell k
   rw[qmx k 4 m l hlt] at hcell
   have hfr:=hblk.frozen k
   have hset:=hblk.set_ k (.int .u64 (leN ((l.drop (k*4)).take 4):Int))
   rw[qmw k 4 m l hlt] at hset
   obtain⟨ch,hch⟩:∃ ch,ch=(l.drop (k*4)).take 4:=⟨_,rfl⟩
   have hrc:Rd wr wr.heap.size (some ⟨ab,ao+k*4,none⟩) (bvs ch):=by
    have:=((((hr.below hb).more hb.size).drop (k*4)).take 4)
    rw[jxj,jbw,←hch] at this
    simpa [Addr.add_lit] using this
   have hcl:ch.length=4:=by rw[hch,List.length_take,List.length_drop];have:=HM.out;omega
   rw[←hch] at hset
   have HSET:=jq hset
   have HRC:=jq hrc
   have HCL:=jq hcl
   have hk0:(k:Int)<(m:Int):=by omega
   have hkl:(k:Int)*4+4≤(l.length:Int):=by omega
   have hkl2:(k:Int)*4+4≤(c:Int):=by omega
   clear hset hrc hcl hch hblk
   go_wp2_with fail
   refine (together_u32 _ _ _ ch _ HRC.out (by have:=HCL.out;omega) (by omega)).mono ?_
   rintro e w' ⟨rfl,rfl⟩
   have hle:=leN_lt ch
   rw[HCL.out] at hle
   have hle2:(leN ch:Int)<4294967296:=by omega
   have hle3:(0:Int)≤(leN ch:Int):=by omega
   clear hle
   go_wp2
   go_roundw
   case rel=>exact⟨k+1,by omega,by go_num,HSET.out,hb.setCell jw _⟩
   case measure=>simp[intOf];omega
  ·obtain rfl:k=m:=by omega
   have hfull:=jkz (jjt k 4 l)
   rw[jjc] at hfull
   rw[hfull] at hblk
   have hrd:=Rd.of_blk hblk
   have HRD:=jq hrd
   clear hblk hfull hrd
   go_wp2
   go_ret
   exact⟨.slice (some ⟨w.heap.size,0,none⟩) k k,rfl,⟨⟨_,k,by rw[jjv,jjc],by rw[jjv,jjc];exact Nat.le_refl _,HRD.out⟩,jwg.at_ jw⟩,hb⟩
theorem row_u64 (A:Option Addr) (n c m:Nat) (l:List UInt8) (w:World) (hr:Rd w w.heap.size A (bvs l)) (hn:l.length=n) (hm:n=m*8) (hnc:n≤c) (hb1:n≤100000) :
  Calls prog 113 #[.slice A n c,.int .i64 8] w (NewWF w (jjt m 8 l)):=by
 obtain⟨i0,hi,hz0,hz1,hz2⟩:=info_parts jyy
 subst hn
 have hq:(l.length:Int)/8=(m:Int):=by omega
 have hml:m≤100000:=by omega
 have HM:=jq hm
 clear hm
 go_enter func113,ntmps113
 go_wp2_with (at_make;go_must (refine jqp rfl (.tmp 10) (.tmp 10) 63 rfl w.heap.size 64 i0 (.int .u64 0) 8 underlying63 hi hz0 rfl hz1 hz2 .i64 .i64 _ _ rfl rfl m m (by have:=HM.out;omega) (by have:=HM.out;omega) jw (by omega) (by simp only[maxLen];omega) jw ?_;intro w1 hg1 hown1 hgr1;have hb:Below w.heap.size w w1:=(Below.refl _ _).grown hgr1 jw (by simp);have hblk:Blk w1 w.heap.size 64 (wrow (jjt 0 8 l) m):=(by unfold Blk;rw[hg1];simp[wrow,jjt,wvs]);clear hg1 hown1 hgr1))
 clear hq
 go_loopw [14] (RowRel w 8 m w.heap.size l) (fun i _=>m - (intOf i).toNat)
 case atStart=>exact⟨0,Nat.zero_le _,rfl,hblk,hb⟩
 case round =>
  obtain⟨k,hk,rfl,hblk,hb⟩:=hrel
  by_cases hlt:k<m
  ·have hml2:(m:Int)*8=(l.length:Int):=by have:=HM.out;omega
   have hlo:0<l.length:=by have:=HM.out;omega
   obtain⟨ab,ao,rfl,_,_⟩:=hr.at_ (by rw[jjg];exact hlo)
   have hcell:=hblk.cell k
   rw[qmx k 8 m l hlt] at hcell
   have hfr:=hblk.frozen k
   have hset:=hblk.set_ k (.int .u64 (leN ((l.drop (k*8)).take 8):Int))
   rw[qmw k 8 m l hlt] at hset
   obtain⟨ch,hch⟩:∃ ch,ch=(l.drop (k*8)).take 8:=⟨_,rfl⟩
   have hrc:Rd wr wr.heap.size (some ⟨ab,ao+k*8,none⟩) (bvs ch):=by
    have:=((((hr.below hb).more hb.size).drop (k*8)).take 8)
    rw[jxj,jbw,←hch] at this
    simpa [Addr.add_lit] using this
   have hcl:ch.length=8:=by rw[hch,List.length_take,List.length_drop];have:=HM.out;omega
   rw[←hch] at hset
   have HSET:=jq hset
   have HRC:=jq hrc
   have HCL:=jq hcl
   have hk0:(k:Int)<(m:Int):=by omega
   have hkl:(k:Int)*8+8≤(l.length:Int):=by omega
   have hkl2:(k:Int)*8+8≤(c:Int):=by omega
   clear hset hrc hcl hch hblk
   go_wp2_with fail
   refine (together_u64 _ _ _ ch _ HRC.out (by have:=HCL.out;omega) (by omega)).mono ?_
   rintro e w' ⟨rfl,rfl⟩
   have hle:=leN_lt ch
   rw[HCL.out] at hle
   have hle2:(leN ch:Int)<18446744073709551616:=by omega
   have hle3:(0:Int)≤(leN ch:Int):=by omega
   clear hle
   go_wp2
   go_roundw
   case rel=>exact⟨k+1,by omega,by go_num,HSET.out,hb.setCell jw _⟩
   case measure=>simp[intOf];omega
  ·obtain rfl:k=m:=by omega
   have hfull:=jkz (jjt k 8 l)
   rw[jjc] at hfull
   rw[hfull] at hblk
   have hrd:=Rd.of_blk hblk
   have HRD:=jq hrd
   clear hblk hfull hrd
   go_wp2
   go_ret
   exact⟨.slice (some ⟨w.heap.size,0,none⟩) k k,rfl,⟨⟨_,k,by rw[jjv,jjc],by rw[jjv,jjc];exact Nat.le_refl _,HRD.out⟩,jwg.at_ jw⟩,hb⟩
theorem wordWordsF_any (W:Nat) (hW:IsW W) (A:Option Addr) (n c m:Nat) (l:List UInt8) (w:World) (hr:Rd w w.heap.size A (bvs l)) (hn:l.length=n) (hm:n=m*W) (hnc:n≤c) (hb1:n≤100000) :
  Calls prog 71 #[.slice A n c,.int .i64 (W:Int)] w (NewWF w (jjt m W l)):=by
 rcases hW with rfl | rfl | rfl | rfl
 ·have c1:=row_u8 A n c m l w hr hn hm hnc hb1
  have C1:=jq c1
  clear c1 hn hm
  go_enter func71,ntmps71
  go_wp2_with (go_at_call 110;go_must (refine C1.out.mono ?_;rintro e w' ⟨v,rfl,h1,h2⟩))
  go_ret
  exact⟨v,rfl,h1,h2⟩
 ·have c1:=row_u16 A n c m l w hr hn hm hnc hb1
  have C1:=jq c1
  clear c1 hn hm
  go_enter func71,ntmps71
  go_wp2_with (go_at_call 111;go_must (refine C1.out.mono ?_;rintro e w' ⟨v,rfl,h1,h2⟩))
  go_ret
  exact⟨v,rfl,h1,h2⟩
 ·have c1:=row_u32 A n c m l w hr hn hm hnc hb1
  have C1:=jq c1
  clear c1 hn hm
  go_enter func71,ntmps71
  go_wp2_with (go_at_call 112;go_must (refine C1.out.mono ?_;rintro e w' ⟨v,rfl,h1,h2⟩))
  go_ret
  exact⟨v,rfl,h1,h2⟩
 ·have c1:=row_u64 A n c m l w hr hn hm hnc hb1
  have C1:=jq c1
  clear c1 hn hm
  go_enter func71,ntmps71
  go_wp2_with (go_at_call 113;go_must (refine C1.out.mono ?_;rintro e w' ⟨v,rfl,h1,h2⟩))
  go_ret
  exact⟨v,rfl,h1,h2⟩
theorem info_u8w:(prog.info? 5).map (fun i=>(i.zero,i.size,i.bytes))=some (some (.int .u8 0),1,1):=by kernel_rfl
def qyg (B:Nat) (l:List UInt8) (v:Value) (w:World):Prop:=jjz l v w∧jwg B v
theorem qyg.grow (B:Nat) (l:List UInt8) (v:Value) (w w':World) (h:qyg B l v w) (hb:Below w.heap.size w w'):qyg B l v w':=⟨h.1.grow hb,h.2⟩
def NewBF (w:World) (l:List UInt8) (e:Ending) (w':World):Prop:=∃ v,e=.returned v∧qyg w.heap.size l v w'∧Below w.heap.size w w'
theorem fresh_own {w:World} {base e size n:Nat} {v:Value} {xs:List Value} (h:w.ownsRow base e size v n xs):jwg base v:=by
 rcases h.2 with ⟨rfl,_⟩ | ⟨g,cap,cur,rfl,hb,_⟩
 ·exact jwg.nil _
 ·exact jwg.at_ hb
theorem size_u8w:(prog.info? 5).map (·.size)=some 1:=by kernel_rfl
theorem wcloneF_any (A:Option Addr) (n c:Nat) (l:List UInt8) (w:World) (hr:Rd w w.heap.size A (bvs l)) (hn:l.length=n) (hb1:n≤100000) :
  Calls prog 72 #[.slice A n c] w (NewBF w l):=by
 obtain⟨i0,hi,hz0,hz1,hz2⟩:=info_parts info_u8w
 cases A with
 | none =>
  have hl:l=[]:=by
   cases l with
   | nil=>rfl
   | cons a r=>obtain⟨_,_,e',_⟩:=hr 0 _ (jym (a::r) 0 (by simp));cases e'
  subst hl
  have hnil:=fun W=>Lib.run_eql_slice_nil (P:=prog) W 22 5 none n c 0 0 underlying22
  clear hn
  go_enter func72,ntmps72
  go_wp2
  go_ret
  exact⟨.slice none 0 0,rfl,⟨⟨none,0,rfl,Nat.le_refl _,Rd.nil_ _ _ _⟩,jwg.nil _⟩,Below.refl _ _⟩
 | some ad =>
  subst hn
  have hnil:=fun W=>Lib.run_eql_slice_nil (P:=prog) W 22 5 (some ad) l.length c 0 0 underlying22
  have hnews:(bvs l).length=l.length*1:=by rw[jjg,Nat.mul_one]
  have HNEWS:=jq hnews
  clear hnews
  go_enter func72,ntmps72
  go_wp2_with ((with_reducible show wpList _ _ _ (({ dst:=some 7,op:=_,type:=_,pos:=_,after:=_,guard:=_ }:Oper)::_) _ _);go_must (refine jjd rfl (.tmp 5) (.tmp 6) 22 rfl w.heap.size 5 i0 (.int .u8 0) 1 1 underlying22 hi hz0 hz1 hz2 rfl (by decide) _ 0 [] rfl (World.ownsRow_made w #[] 0 jw (Nat.zero_le _) rfl) w.heap.size (some ad) l.length c (bvs l) rfl (hr.alloc jw _) HNEWS.out (jmx _) (by simp only[maxLen];omega) (by omega) (by simp) ?_;intro v2 w2 hown2 hg2;rw[Nat.zero_add,List.nil_append] at hown2;have hb2:Below w.heap.size w w2:=((Below.refl _ _).alloc jw _).grown hg2 (by simp) (jjb (World.ownsRow_made (e:=5) (size:=1) w #[] 0 jw (Nat.zero_le _) rfl));clear hg2))
  go_ret
  exact⟨v2,rfl,⟨jjz.of_own hown2,fresh_own hown2⟩,hb2⟩
def NewTake (w:World) (ws:List Nat) (l:List UInt8) (e:Ending) (w':World):Prop :=
 ∃ v1 v2,e=.returned (.tuple #[v1,v2])∧jzm (wvs ws) v1 w'∧jjz l v2 w'∧Below w.heap.size w w'
def qwk (w:World) (ws:List Nat) (l:List UInt8) (e:Ending) (w':World):Prop :=
 ∃ v1 v2,e=.returned (.tuple #[v1,v2])∧qyf w.heap.size (wvs ws) v1 w'∧qyg w.heap.size l v2 w'∧Below w.heap.size w w'
theorem qwk.t {w:World} {ws:List Nat} {l:List UInt8} {e:Ending} {w':World} (h:qwk w ws l e w'):NewTake w ws l e w':=by
 obtain⟨v1,v2,he,h1,h2,h3⟩:=h
 exact⟨v1,v2,he,h1.1,h2.1,h3⟩
theorem wordTakeF_wrong (A:Option Addr) (n c:Nat) (W:Int) (w:World) (hW:jqj W=false) :
  Calls prog 50 #[.slice A n c,.int .i64 W] w (qwk w [] []):=by
 have c1:=jjx W false hW.symm
 have C1:=jq c1
 clear c1
 go_enter func50,ntmps50
 go_wp2_with (go_at_call 14;go_must (refine (C1.out _).mono ?_;rintro e w' ⟨rfl,rfl⟩))
 go_ret2
 exact⟨.slice none 0 0,.slice none 0 0,rfl,⟨⟨none,0,rfl,Nat.le_refl _,Rd.nil_ _ _ _⟩,jwg.nil _⟩,⟨⟨none,0,rfl,Nat.le_refl _,Rd.nil_ _ _ _⟩,jwg.nil _⟩,Below.refl _ _⟩
theorem qmz (W:Nat) (hW:IsW W) (A:Option Addr) (n c:Nat) (l:List UInt8) (w:World) (hr:Rd w w.heap.size A (bvs l)) (hn:l.length=n) (hnc:n≤c) (hb1:n≤100000) :
  Calls prog 50 #[.slice A n c,.int .i64 (W:Int)] w (qwk w (jjt (n/W) W l) (l.drop (n/W*W))):=by
 subst hn
 obtain⟨m,hm⟩:∃ m,m=l.length/W:=⟨_,rfl⟩
 obtain⟨q,hq⟩:∃ q,q=m*W:=⟨_,rfl⟩
 have hdm:=Nat.div_add_mod l.length W
 rw[←hm,Nat.mul_comm,←hq] at hdm
 have hW1:=hW.pos
 have hql:q≤l.length:=by omega
 have hqc:q≤c:=by omega
 have hend:(l.length:Int) - (l.length:Int)%(W:Int)=(q:Int):=by
  have:((l.length:Int)%(W:Int))=((l.length%W:Nat):Int):=by simp
  rw[this];omega
 rw[←hm,←hq]
 have hws:=wordsN_take m W l
 rw[←hq] at hws
 obtain⟨ws,hwse⟩:∃ ws,ws=jjt m W l:=⟨_,rfl⟩
 rw[←hwse] at hws
 rw[←hwse]
 have hlq:(l.take q).length=q:=by rw[List.length_take];omega
 have c1:=jjx (W:Int) true hW.right
 have c2:=fun (A:Option Addr) (c:Nat) (W':World) (h:Rd W' W'.heap.size A (bvs (l.take q))) (hc:q≤c)=>wordWordsF_any W hW A q c m (l.take q) W' h hlq hq hc (by omega)
 rw[hws] at c2
 have C1:=jq c1
 have C2:=jq c2
 have hWi:(1:Int)≤(W:Int):=by omega
 clear c1 c2 hws hwse hlq hq hm hdm
 go_enter func50,ntmps50
 go_wp2_with (go_at_call 14;go_must (refine (C1.out _).mono ?_;rintro e w' ⟨rfl,rfl⟩))
 clear hend
 refine jyw [⟨17,[],.is (.slice A l.length c)⟩,
  ⟨18,[],.is (.int .i64 (q:Int))⟩,
  ⟨19,[0,1],.is (.slice A q c)⟩,
  ⟨20,[],.is (.int .i64 (W:Int))⟩,
  ⟨21,[2,3],.such (qyf w.heap.size (wvs ws)) (qyf.grow w.heap.size (wvs ws))⟩,
  ⟨22,[],.is (.slice A l.length c)⟩,
  ⟨23,[],.is (.int .i64 (q:Int))⟩,
  ⟨24,[5,6],.bytes (l.drop q)⟩,
  ⟨25,[7],.such (qyg w.heap.size (l.drop q)) (qyg.grow w.heap.size (l.drop q))⟩,
  ⟨4,[4],.such (qyf w.heap.size (wvs ws)) (qyf.grow w.heap.size (wvs ws))⟩,
  ⟨5,[8],.such (qyg w.heap.size (l.drop q)) (qyg.grow w.heap.size (l.drop q))⟩]
  [(0,.slice A l.length c),(6,.int .i64 (q:Int)),(1,.int .i64 (W:Int))] (by kernel_rfl) (by kernel_rfl) (by kernel_rfl) (by kernel_rfl) (by kernel_rfl) ⟨rfl,rfl,rfl,trivial⟩ ?_ ?_
 ·repeat' (first | exact jzr.nil | refine jzr.cons ?_ ?_)
  all_goals (intro ev yi W' hB _ hf ho hn;simp only[jyk,jdn,rowAt,Fact.says,and_true] at ho hn)
  all_goals (rw[if_pos (by simp[Region.wanted])])
  all_goals (try ((simp[jzv,execOp,Fact.says,go_sem,ho,hn,hqc,Below.refl];done)))
  ·exact jml call71 (vs:=#[.slice A q c,.int .i64 (W:Int)]) rfl hf (by simp[hn]) ((C2.out A c W' (by rw[←jbw];exact ((hr.below hB).more hB.size).take q) hqc).mono fun _ _ h=>by obtain⟨v,he,h1,h2⟩:=h;exact⟨v,he,⟨h1.1,h1.2.low hB.size⟩,h2⟩)
  ·refine says_from rfl underlying22 size_u8w hn.1 hn.2.2.1 ((hr.below hB).more hB.size) (jjg l) hnc hql fun A' c' h1 h2=>⟨⟨A',c',?_,?_,?_⟩,Below.refl _ _⟩
   ·rw[List.length_drop]
   ·rw[List.length_drop];exact h1
   ·rw[←jxj];exact h2
  ·obtain⟨A',c',hv,h1,h2⟩:=hn.1
   rw[List.length_drop] at hv h1
   exact jml call72 (vs:=#[.slice A' (l.length - q) c']) rfl hf (by simp[hv]) ((wcloneF_any A' (l.length - q) c' (l.drop q) W' h2 (List.length_drop) (by omega)).mono fun _ _ h=>by obtain⟨v,he,h1,h2⟩:=h;exact⟨v,he,⟨h1.1,h1.2.low hB.size⟩,h2⟩)
 ·intro X w4 hb4 hx
  have h9:qyf w.heap.size (wvs ws) (X 9) w4:=hx 9 (by decide)
  have h10:qyg w.heap.size (l.drop q) (X 10) w4:=hx 10 (by decide)
  clear hx
  have H9:=jq h9
  have H10:=jq h10
  clear h9 h10
  simp only[layAll,List.setIfInBounds_toArray,List.set_cons_succ,List.set_cons_zero]
  go_wp2
  go_ret2
  exact⟨_,_,rfl,H9.out,H10.out,hb4⟩
theorem qgl (W:Nat) (hW:IsW W) (A:Option Addr) (n c:Nat) (l:List UInt8) (w:World) (hr:Rd w w.heap.size A (bvs l)) (hn:l.length=n) (hnc:n≤c) (hb1:n≤100000) :
  Calls prog 50 #[.slice A n c,.int .i64 (W:Int)] w (NewTake w (jjt (n/W) W l) (l.drop (n/W*W))):=(qmz W hW A n c l w hr hn hnc hb1).mono fun _ _ h=>h.t
end
section
def jqs (W:Nat) (l:List UInt8):List Nat:=jjt (l.length/W) W l
def jzt (W:Nat) (l:List UInt8):List UInt8:=l.drop (l.length/W*W)
theorem jzh (W:Nat) (l:List UInt8):(jqs W l).length=l.length/W:=jjc _ _ _
theorem jvh (W:Nat) (l:List UInt8):(jzt W l).length=l.length - l.length/W*W:=by simp[jzt]
theorem qgn {W:Nat} (hW:0<W) (ws:List Nat) (rest:List UInt8) (hr:rest.length<W) :
  jqs W (layW W ws++rest)=ws.map (·%256^W)∧jzt W (layW W ws++rest)=rest:=by
 have hd:(layW W ws++rest).length/W=ws.length:=by
  rw[List.length_append,qvn,Nat.add_comm,Nat.add_mul_div_right _ _ hW,Nat.div_eq_of_lt hr,Nat.zero_add]
 unfold jqs jzt
 rw[hd]
 refine⟨words_layW W ws rest,?_⟩
 rw[List.drop_left' (qvn W ws)]
theorem qxt {W:Nat} (hW:0<W) (l:List UInt8):(jzt W l).length<W:=by
 rw[jvh]
 have h1:=Nat.div_add_mod l.length W
 have h2:=Nat.mod_lt l.length hW
 rw[Nat.mul_comm] at h1
 omega
theorem qvp {W:Nat} (l:List UInt8):layW W (jqs W l)++jzt W l=l:=by
 unfold jqs jzt
 rw[layW_words _ _ _ (Nat.div_mul_le_self _ _),List.take_append_drop]
theorem jks {W:Nat} (hW:0<W) (l:List UInt8):∀ x∈jqs W l,x<256^W:=by
 have h:=qgn hW (jqs W l) (jzt W l) (qxt hW l)
 rw[qvp] at h
 intro x hx
 rw[h.1] at hx
 obtain⟨y,_,rfl⟩:=List.mem_map.1 hx
 exact Nat.mod_lt _ (Nat.pow_pos (by decide))
end
section
open Go.RowKit
theorem qvh:(prog.info? 5).map (fun i=>(i.zero,i.size,i.bytes))=some (some (.int .u8 0),1,1):=by kernel_rfl
def NewBy (w:World) (l:List UInt8) (e:Ending) (w':World):Prop :=
 ∃ v,e=.returned v∧w'.ownsRow w.heap.size 5 1 v l.length (bvs l)∧Below w.heap.size w w'
theorem jkp {P:Program} (w:World) (t e:TypeId) (a:Option Addr) (n c:Nat) (h:P.underlying t=some (.slice e)) :
  (binOp .eql t (.slice a n c) (.slice none 0 0)).run P w=.ok (.bool a.isNone) w:=by
 simp only[binOp]
 simp[Op.equal,Op.maxDepth,Lib.run_equalIn_slice_nil w 9999 t e a n c 0 0 h]
theorem qwr (A:Option Addr) (n c:Nat) (l:List UInt8) (w:World) (hr:Rd w w.heap.size A (bvs l)) (hn:l.length=n) (hn1:n≤140737488355000) :
  Calls prog 72 #[.slice A n c] w (NewBy w l):=by
 cases A with
 | none =>
  have hl:l=[]:=by
   cases l with
   | nil=>rfl
   | cons a r=>obtain⟨_,_,e,_⟩:=hr 0 _ (jym (a::r) 0 (by simp));cases e
  subst hl
  obtain rfl:0=n:=by simpa using hn
  have heq:(binOp .eql 22 (.slice none 0 c) (.slice none 0 0)).run prog w=.ok (.bool true) w:=jkp w _ _ none 0 c underlying22
  go_enter func72,ntmps72
  go_wp2
  go_ret
  exact⟨_,rfl,World.ownsRow_nil _ _ _ _,Below.refl _ _⟩
 | some a =>
  obtain⟨i0,hi,hz0,hz1,hz2⟩:=info_parts qvh
  have hcl:(bvs l).length=n*1:=by rw[jjg,hn,Nat.mul_one]
  have HCL:=jq hcl
  have HN:=jq hn
  clear hcl hn
  have heq:(binOp .eql 22 (.slice (some a) n c) (.slice none 0 0)).run prog w=.ok (.bool false) w:=jkp w _ _ (some a) n c underlying22
  go_enter func72,ntmps72
  go_wp2_with (at_builtin;go_must (refine jjd rfl (.tmp 5) (.tmp 6) 22 rfl w.heap.size 5 i0 (.int .u8 0) 1 1 underlying22 hi hz0 hz1 hz2 rfl (by decide) _ 0 [] rfl (World.ownsRow_made w #[] 0 jw (Nat.zero_le _) rfl) w.heap.size _ n _ (bvs l) rfl (hr.alloc jw _) HCL.out (jmx _) (by simp only[maxLen];omega) (by omega) (by simp) ?_;intro v2 w2 hown2 hg2;rw[Nat.zero_add,List.nil_append] at hown2;have hb2:Below w.heap.size w w2:=((Below.refl _ _).alloc jw _).grown hg2 (by simp) (jjb (World.ownsRow_made (e:=5) (size:=1) w #[] 0 jw (Nat.zero_le _) rfl))))
  go_ret
  exact⟨_,rfl,by rw[HN.out];exact hown2,hb2⟩
theorem clone_any (A:Option Addr) (n c:Nat) (l:List UInt8) (w:World) (hr:Rd w w.heap.size A (bvs l)) (hn:l.length=n) (hn1:n≤140737488355000) (_:A=none→c=0) :
  Calls prog 72 #[.slice A n c] w (NewBy w l):=qwr A n c l w hr hn hn1
theorem bcloneB_any (A:Option Addr) (n c:Nat) (l:List UInt8) (w:World) (hr:Rd w w.heap.size A (bvs l)) (hn:l.length=n) (hn1:n≤140737488355000) :
  Calls prog 11 #[.slice A n c] w (NewBy w l):=by
 cases A with
 | none =>
  have hl:l=[]:=by
   cases l with
   | nil=>rfl
   | cons a r=>obtain⟨_,_,e,_⟩:=hr 0 _ (jym (a::r) 0 (by simp));cases e
  subst hl
  obtain rfl:0=n:=by simpa using hn
  have heq:(binOp .eql 22 (.slice none 0 c) (.slice none 0 0)).run prog w=.ok (.bool true) w:=jkp w _ _ none 0 c underlying22
  go_enter func11,ntmps11
  go_wp2
  go_ret
  exact⟨_,rfl,World.ownsRow_nil _ _ _ _,Below.refl _ _⟩
 | some a =>
  obtain⟨i0,hi,hz0,hz1,hz2⟩:=info_parts qvh
  have hcl:(bvs l).length=n*1:=by rw[jjg,hn,Nat.mul_one]
  have HCL:=jq hcl
  have HN:=jq hn
  clear hcl hn
  have heq:(binOp .eql 22 (.slice (some a) n c) (.slice none 0 0)).run prog w=.ok (.bool false) w:=jkp w _ _ (some a) n c underlying22
  go_enter func11,ntmps11
  go_wp2_with (at_builtin;go_must (refine jjd rfl (.tmp 5) (.tmp 6) 22 rfl w.heap.size 5 i0 (.int .u8 0) 1 1 underlying22 hi hz0 hz1 hz2 rfl (by decide) _ 0 [] rfl (World.ownsRow_made w #[] 0 jw (Nat.zero_le _) rfl) w.heap.size _ n _ (bvs l) rfl (hr.alloc jw _) HCL.out (jmx _) (by simp only[maxLen];omega) (by omega) (by simp) ?_;intro v2 w2 hown2 hg2;rw[Nat.zero_add,List.nil_append] at hown2;have hb2:Below w.heap.size w w2:=((Below.refl _ _).alloc jw _).grown hg2 (by simp) (jjb (World.ownsRow_made (e:=5) (size:=1) w #[] 0 jw (Nat.zero_le _) rfl))))
  go_ret
  exact⟨_,rfl,by rw[HN.out];exact hown2,hb2⟩
def LayRelW (w:World) (W:Nat) (ws:List Nat) (v i:Value) (wr:World):Prop :=
 ∃ (k:Nat) (out:List UInt8),k≤ws.length∧i=.int .i64 k∧Hid (out=layW W (ws.take k))∧out.length=k*W∧wr.ownsRow w.heap.size 5 1 v out.length (bvs out)∧Below w.heap.size w wr
def LayByte (w:World) (W x n0:Nat) (out:List UInt8) (v t j:Value) (wr:World):Prop :=
 ∃ (k:Nat) (o:List UInt8),k≤W∧j=.int .i64 k∧t=.int .u64 ((x/256^k:Nat):Int)∧Hid (o=out++leB k x)∧o.length=n0+k∧wr.ownsRow w.heap.size 5 1 v o.length (bvs o)∧Below w.heap.size w wr
theorem qww (W:Nat) (hW:IsW W) (A:Option Addr) (n c:Nat) (ws:List Nat) (A2:Option Addr) (r c2:Nat) (rest:List UInt8) (w:World) (hr:Rd w w.heap.size A (wvs ws)) (hn:ws.length=n) (hlt64:∀ x∈ws,x<18446744073709551616) (hr2:Rd w w.heap.size A2 (bvs rest)) (hrl:rest.length=r) (hb1:n≤100000) (hb2:r≤100000) :
  Calls prog 53 #[.slice A n c,.int .i64 (W:Int),.slice A2 r c2] w (qmd w (layW W ws++rest)):=by
 obtain⟨j0,hj,hy0,hy1,hy2⟩:=info_parts info_u8w
 subst hn hrl
 have hW1:=hW.pos
 have c1:=jjx (W:Int) true hW.right
 have C1:=jq c1
 have H64:=jq hlt64
 clear c1 hW hlt64
 go_enter func53,ntmps53
 have hprod:ws.length*W≤800000:=by
  have:ws.length*W≤100000*8:=Nat.mul_le_mul hb1 hW1.2
  omega
 obtain⟨S,hS⟩:∃ S,S=ws.length*W:=⟨_,rfl⟩
 rw[←hS] at hprod
 have hSi:(ws.length:Int)*(W:Int)=(S:Int):=by rw[hS];simp
 have HS:=jq hS
 clear hS
 go_wp2_with (first
  | (go_at_call 14;go_must (refine (C1.out _).mono ?_;rintro e w' ⟨rfl,rfl⟩))
  | (at_make;go_must (refine jqp rfl (.const (.int .i64 0)) (.tmp 19) 22 rfl w.heap.size 5 j0 (.int .u8 0) 1 underlying22 hj hy0 rfl hy1 hy2 .i64 .i64 0 _ rfl rfl 0 (S+rest.length) rfl (by omega) (by omega) (by omega) (by simp only[maxLen];omega) jw ?_;intro w0 hg0 hown0 hgr0;have hb0:Below w.heap.size w w0:=(Below.refl _ _).grown hgr0 jw (by simp);clear hg0 hgr0)))
 clear hSi
 go_loopw [7,23] (LayRelW w W ws) (fun _ i _=>ws.length - (intOf i).toNat)
 case atStart=>exact⟨0,[],Nat.zero_le _,rfl,rfl,by simp,by simpa [bvs] using hown0,hb0⟩
 case round =>
  obtain⟨k,out,hk,rfl,HO,hol,hown,hb⟩:=hrel
  have hbs:=hb.size
  have hkW:k*W≤800000:=by
   have:k*W≤100000*8:=Nat.mul_le_mul (by omega) hW1.2
   omega
  by_cases hlt:k<ws.length
  ·obtain⟨ab,ao,rfl,hab,hcell0⟩:=hr k _ (qzx ws k hlt)
   have hcell:=(hb.cell (p:=⟨ab,ao+k,none⟩) hab).trans hcell0
   obtain⟨x,hx⟩:∃ x,x=ws[k]:=⟨_,rfl⟩
   have hx64:x<18446744073709551616:=by rw[hx];exact H64.out _ (List.getElem_mem _)
   rw[←hx] at hcell
   have hnext:Hid (layW W (ws.take (k+1))=out++leB W x):=by rw[layW_snoc W ws k hlt,HO.out,hx];exact rfl
   have hd:decide ((k:Int)<(ws.length:Int))=true:=by rw[decide_eq_true_eq];omega
   clear hx hcell0
   go_wp2
   go_loopw [7,9,28] (LayByte w W x (k*W) out) (fun _ _ i _=>W - (intOf i).toNat)
   case atStart=>exact⟨0,out,Nat.zero_le _,rfl,by simp,by simp[leB,Hid],by omega,hown,hb⟩
   case round =>
    clear hown hb hcell
    obtain⟨j,o,hjW,rfl,rfl,Ho,hoL,hown,hb⟩:=hrel
    have hbs:=hb.size
    by_cases hjl:j<W
    ·obtain⟨y,hy⟩:∃ y,y=x/256^j:=⟨_,rfl⟩
     have hy64:y<18446744073709551616:=by rw[hy];exact Nat.lt_of_le_of_lt (Nat.div_le_self _ _) hx64
     have hyn:Hid (x/256^(j+1)=y/256):=by rw[hy,Nat.div_div_eq_div_mul,Nat.pow_succ];exact rfl
     have hsn:Hid (out++leB (j+1) x=o++[UInt8.ofNat (y%256)]):=by rw[leB_snoc,Ho.out,←hy,List.append_assoc];exact rfl
     rw[←hy]
     clear hy Ho
     go_wp2_with ((with_reducible show wpList _ _ _ (({ dst:=some 34,op:=_,type:=_,pos:=_,after:=_,guard:=_ }:Oper)::_) _ _);go_must (refine jjd rfl (.tmp 30) (.tmp 33) 22 rfl w.heap.size 5 j0 (.int .u8 0) 1 1 underlying22 hj hy0 hy1 hy2 rfl (by decide) _ _ _ rfl (hown.alloc _) _ _ 1 1 _ rfl (Rd.new _ _ _) rfl (by intro u hu;simp at hu;subst hu;rfl) (by simp only[maxLen];omega) (by omega) (by simp;omega) ?_;intro v1 w1 hown1 hg1;have hb1:Below w.heap.size w w1:=(hb.alloc hbs _).grown hg1 (by simp;omega) (jjb hown);clear hg1 hown hb))
     have hown2:w1.ownsRow w.heap.size 5 1 v1 (o++[UInt8.ofNat (y%256)]).length (bvs (o++[UInt8.ofNat (y%256)])):=by
      rw[bvs_push,List.length_append];exact hown1
     clear hown1
     go_roundw
     case rel=>exact⟨j+1,o++[UInt8.ofNat (y%256)],by omega,by go_num,by rw[hyn.out];go_num,hsn.out.symm,by rw[List.length_append];simp only[List.length_cons,List.length_nil];omega,hown2,hb1⟩
     case measure=>simp[intOf];omega
    ·obtain rfl:j=W:=by omega
     go_wp2
     go_roundw
     case rel=>exact⟨k+1,o,by omega,by go_num,by rw[Ho.out,←hnext.out];exact rfl,by rw[hoL,Nat.add_mul,Nat.one_mul],hown,hb⟩
     case measure=>simp[intOf];omega
  ·obtain rfl:k=ws.length:=by omega
   rw[List.take_length] at HO
   have hnews:(bvs rest).length=rest.length*1:=by rw[jjg,Nat.mul_one]
   have HNEWS:=jq hnews
   clear hnews
   go_wp2_with ((with_reducible show wpList _ _ _ (({ dst:=some 41,op:=_,type:=_,pos:=_,after:=_,guard:=_ }:Oper)::_) _ _);go_must (refine jjd rfl (.tmp 39) (.tmp 40) 22 rfl w.heap.size 5 j0 (.int .u8 0) 1 1 underlying22 hj hy0 hy1 hy2 rfl (by decide) _ _ _ rfl hown w.heap.size A2 rest.length c2 (bvs rest) rfl (hr2.below hb) HNEWS.out (jmx _) (by simp only[maxLen];omega) (by omega) hbs ?_;intro v1 w1 hown1 hg1;have hb1:Below w.heap.size w w1:=hb.grown hg1 hbs (jjb hown);clear hg1 hown hb))
   go_ret
   refine⟨v1,rfl,?_,hb1⟩
   rw[←HO.out]
   apply jjz.of_own (base:=w.heap.size) (e:=5)
   rw[List.length_append,jqt]
   exact hown1
end
end Go.Proofs.YtflcmmeoppdhdaaGreatDoor
