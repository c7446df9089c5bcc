/- Layer 27: what becomes of bytes by a mode, and how many it is at least. · Layer 27: what the program's Code and Decode tell, by any mode. -/
import Derived.Test.YtflcmmeoppdhdaaGreatDoorQ27
import Derived.Test.YtflcmmeoppdhdaaGreatDoorQ39
set_option maxHeartbeats 1000000
set_option maxRecDepth 100000
namespace Go.Proofs.YtflcmmeoppdhdaaGreatDoor
open Tryz
section
open Go.RowKit Go.Sort
def ModeQ (k V:Nat) (l Q:List UInt8):Prop :=
 match k with
 | 0=>Q=l
 | 1=>jkm (V:Int) l Q
 | 2=>RansQ l Q
 | 3=>BldQ letWay noneF l Q
 | 4=>BldQ bitWay newD l Q
 | _=>HuffQ l Q
theorem onesOf_some (n m:Nat) (h:0<m):1≤(jxk n m).length∨n=0∧¬ n<m:=by
 unfold jxk
 by_cases h1:n<m
 ·rw[if_pos h1];left;simp
 ·rw[if_neg h1];left;simp;omega
theorem riceW_some (D k v:Nat):1≤(qbr D k v).length:=by
 unfold qbr
 split
 ·have:=onesOf_some (v/2^k) 24 (by decide)
  rw[List.length_append];omega
 ·have:(jxk 24 24).length=24:=(jdm 24 24).2 rfl
  rw[List.length_append];omega
theorem riceB_least {D A N:Nat} {l:List Nat} {L:List Bool} (h:qyz D A N l L):l.length≤L.length:=by
 induction h with
 | none=>exact Nat.le_refl _
 | word A N k v l L hk hr ih =>
  have:=riceW_some D k v
  rw[List.length_append,List.length_cons];omega
theorem allBits_len (l:List UInt8):(jjm l).length=8*l.length:=by simp[jjm]
theorem lensB_ge:∀ o:List Nat,o.length≤(jwt o).length
 | []=>Nat.le_refl _
 | x::o=>by
  have ih:=lensB_ge o
  unfold jwt at *
  rw[List.flatMap_cons,List.length_append,lenB_len,List.length_cons];omega
theorem lensB_one:∀ (o:List Nat) (k:Nat),1≤o.getD k 0→o.length+4≤(jwt o).length
 | [],k,h=>by simp at h
 | x::o,0,h=>by
  have ih:=lensB_ge o
  have hx:1≤x:=by simpa using h
  unfold jwt at *
  rw[List.flatMap_cons,List.length_append,lenB_len,List.length_cons];omega
 | x::o,k+1,h=>by
  have ih:=lensB_one o k (by simpa using h)
  unfold jwt at *
  rw[List.flatMap_cons,List.length_append,lenB_len,List.length_cons];omega
theorem huffB_least {l:List UInt8} {o:List Nat} (hl:l≠[]) (hT:LensT l o):260+l.length≤(huffB o l).length:=by
 obtain⟨b,t,rfl⟩:=List.exists_cons_of_ne_nil hl
 have h1:=lensB_one o b.toNat (hT.some b List.mem_cons_self)
 have h2:=jbt (o:=o) (b::t) hT.some
 have h3:=hT.len
 unfold huffB
 rw[List.length_append];omega
theorem leastM_le {k V:Nat} (hV:IsW V) {l Q:List UInt8} (h:ModeQ k V l Q):leastM k V l.length≤Q.length:=by
 match k with
 | 0 =>
  have h:Q=l:=h
  rw[h];exact Nat.le_refl _
 | 1 =>
  have h:jkm (V:Int) l Q:=h
  show (l.length/V+l.length%V*8+7)/8≤_
  rcases h with ⟨h1,-⟩ | ⟨V',L,h1,h2,h3,h4⟩
  ·have:=hV.right;rw[h1] at this;cases this
  ·obtain rfl:V=V':=by omega
   have h5:=riceB_least h3
   have h6:=h4.1
   have h7:=jzh V l
   have h8:=jvh V l
   rw[List.length_append,allBits_len] at h6
   have hrl:(jzt V l).length=l.length%V:=by
    rw[h8]
    have:=Nat.div_add_mod l.length V
    rw[Nat.mul_comm] at this
    omega
   rw[hrl] at h6
   rw[h7] at h5
   generalize l.length/V=q at *
   generalize l.length%V=r at *
   omega
 | 2=>exact Nat.zero_le _
 | 3=>exact Nat.zero_le _
 | 4=>exact Nat.zero_le _
 | k+5 =>
  have h:HuffQ l Q:=h
  show (if l.length=0 then 0 else (260+l.length+7)/8)≤_
  rcases h with ⟨rfl,rfl⟩ | ⟨h1,o,h2,h3⟩
  ·exact Nat.le_refl _
  ·have h4:=huffB_least h1 (lensT_of h1 h2)
   have h5:=h3.1
   have h6:=List.length_pos_iff.2 h1
   rw[if_neg (by omega)]
   omega
theorem newBy_m {w:World} {l:List UInt8} {e:Ending} {w':World} (h:NewBy w l e w'):NewM w l e w':=by
 obtain⟨v,he,hown,hb⟩:=h
 exact⟨v,he,jjz.of_own hown,hb⟩
end
section
open Go.RowKit Go.Sort Go.Shelf
theorem huffDec_nil {v:Value} {w:World} (h:jjz [] v w):Calls prog 63 #[v,.int .i64 0] w (SaysM w [] 0):=by
 obtain⟨A,c,rfl,hc,hr⟩:=h
 go_enter func63,ntmps63
 go_wp2
 go_ret2
 exact⟨_,rfl,none_bytes _,Below.refl _ _⟩
section
variable {k V:Nat} {l Q:List UInt8}
theorem wayCode_any (hk:k≤5) (hQ:ModeQ k V l Q) (hl:l.length≤1000) {v:Value} {W:World} (h:jjz l v W):Calls prog (codeK k) #[wayX k,v,.int .i64 (V:Int)] W (NewM W Q):=by
 rcases (show k=0∨k=1∨k=2∨k=3∨k=4∨k=5 by omega) with rfl | rfl | rfl | rfl | rfl | rfl
 ·rw[show Q=l from hQ]
  exact theyCode_any _ h (by omega)
 ·exact wordsCode_any fun W' hb=>(riceCode_says (V:Int) (h.grow hb) (by omega) hQ).mono fun _ _=>newBy_m
 ·exact jvj (enters_of func56 (by kernel_rfl) rfl) fun W' hb=>ransCode_q hQ (by omega) v W' (h.grow hb)
 ·exact jvj (enters_of func58 (by kernel_rfl) rfl) fun W' hb=>blendAdapt_q hQ hl v (h.grow hb)
 ·exact jvj (enters_of func60 (by kernel_rfl) rfl) fun W' hb=>blendCode_q hQ hl v (h.grow hb)
 ·exact jvj (enters_of func62 (by kernel_rfl) rfl) fun W' hb=>huffCode_q hQ (by omega) v W' (h.grow hb)
theorem modesCode_q (hk:k≤5) (hV:IsW V) (hQ:ModeQ k V l Q) (hl:l.length≤1000) {v:Value} {w:World} (h:jjz l v w):Calls prog 6 #[.int .i64 (k:Int),v,.int .i64 (V:Int)] w (SaysM w Q 0) :=
 mdsCode_any hk hV fun _ hb=>wayCode_any hk hQ hl (h.grow hb)
theorem modeQ_some (k:Nat) {V:Nat} (l:List UInt8) (hl:l.length≤1000) {A:Option Addr} {w:World} (hr:Rd w w.heap.size A (bvs l)):∃ Q,ModeQ k V l Q:=by
 match k with
 | 0=>exact⟨l,rfl⟩
 | 1=>exact qkk _ l
 | 2=>exact ransQ_some (by omega) hr
 | 3=>exact bldQ_some letWay noneF_inv l hl
 | 4=>exact bldQ_some bitWay newD_ok l hl
 | k+5=>exact huffQ_some (by omega) hr
theorem riceSays_len {V:Nat} (hV:IsW V) {l Q:List UInt8} (h:jkm (V:Int) l Q) (hl:l.length≤1000):Q.length≤10000:=by
 rcases h with ⟨h1,-⟩ | ⟨V',L,h1,h2,h3,h4⟩
 ·have:=hV.right;rw[h1] at this;cases this
 ·obtain rfl:V=V':=by omega
  obtain⟨L',g1,g2⟩:=qbp hV l
  obtain rfl:=h3.one g1
  have h5:=h4.1
  rw[List.length_append,allBits_len,jvh] at h5
  have:(24+8*V)*(l.length/V)≤32*l.length:=by
   rcases hV with rfl | rfl | rfl | rfl <;> omega
  omega
theorem wayDec_any (hk:k≤5) (hV:IsW V) (hQ:ModeQ k V l Q) (hl:l.length≤1000) {v:Value} {W:World} (h:jjz Q v W):Calls prog (decK k) #[wayX k,v,.int .i64 (V:Int),.int .i64 (l.length:Int)] W (SaysM W l 0):=by
 rcases (show k=0∨k=1∨k=2∨k=3∨k=4∨k=5 by omega) with rfl | rfl | rfl | rfl | rfl | rfl
 ·obtain rfl:Q=l:=hQ
  exact theyDec_any _ h (by omega)
 ·obtain⟨⟨o,ho,hout⟩,-⟩:=rice_back hV hQ
  refine wordsDec_any fun W' hb=>?_
  have C:=riceDec_any hV (n:=l.length) (by omega) Q v W' (h.grow hb) (riceSays_len hV hQ hl) ho
  rw[hout] at C
  exact C
 ·exact jvp (enters_of func57 (by kernel_rfl) rfl) fun W' hb=>(ransBack_q hQ (by omega) v W').1 (h.grow hb)
 ·exact jvp (enters_of func59 (by kernel_rfl) rfl) fun W' hb=>blendAdapted_q (X:=[]) hQ hl (by decide) v (by rw[List.append_nil];exact h.grow hb)
 ·exact jvp (enters_of func61 (by kernel_rfl) rfl) fun W' hb=>blendDecode_q (X:=[]) hQ hl (by decide) v (by rw[List.append_nil];exact h.grow hb)
 ·refine jvp (enters_of func63 (by kernel_rfl) rfl) fun W' hb=>?_
  by_cases h0:l=[]
  ·subst h0
   rcases (show HuffQ [] Q from hQ) with ⟨-,rfl⟩ | ⟨h1,-⟩
   ·exact huffDec_nil (h.grow hb)
   ·exact absurd rfl h1
  ·exact (huffBack_q hQ h0 (by omega) v W').1 (h.grow hb)
theorem qkj (hk:k≤5) (hV:IsW V) (hQ:ModeQ k V l Q) (hl:l.length≤1000) {v:Value} {w:World} (h:jjz Q v w):Calls prog 7 #[.int .i64 (k:Int),v,.int .i64 (V:Int),.int .i64 (l.length:Int)] w (SaysM w l 0):=by
 have h2:=h
 obtain⟨A,c,rfl,hc,hr⟩:=h2
 exact mdsDecode_any hk hV (by omega) (leastM_le hV hQ) fun _ hb=>wayDec_any hk hV hQ hl (h.grow hb)
end
end
end Go.Proofs.YtflcmmeoppdhdaaGreatDoor
