/- Plain mathematics of layer 9: words as bits, of each those in which it differs, within a window. -/
import Derived.Test.YtflcmmeoppdhdaaGreatDoorQ02
import Derived.Test.YtflcmmeoppdhdaaGreatDoorQ08
import Derived.Lib.ItoaNum
set_option maxHeartbeats 1000000
set_option maxRecDepth 100000
namespace Go.Proofs.YtflcmmeoppdhdaaGreatDoor
section
def jjp (W x:Nat):Nat:=8*W - Lib.bitLen x
def jjf (x:Nat):Nat:=Lib.ctz 64 x
abbrev Win:=Option (Nat × Nat)
def qdz (W:Nat):Win→Prop
 | none=>True
 | some p=>p.1+p.2<8*W
def hasB:Win→Nat→Nat→Bool
 | none,_,_=>false
 | some p,a,b=>decide (p.1≤a)&&decide (p.2≤b)
def ownB (W a b x:Nat):List Bool:=bitsOf (x/2^b) (8*W - a - b)
def winB (W:Nat) (s:Win) (x:Nat):List Bool:=ownB W (s.getD (0,0)).1 (s.getD (0,0)).2 x
def qqg (W:Nat) (s:Win) (x:Nat):Win:=if x=0 then s else if hasB s (jjp W x) (jjf x) then s else some (jjp W x,jjf x)
def qkg (W:Nat) (s:Win) (x:Nat):List Bool :=
 if x=0 then [false]
 else if hasB s (jjp W x) (jjf x) then [true,false]++winB W s x
 else [true,true]++bitsOf (jjp W x) 6++bitsOf (8*W - jjp W x - jjf x - 1) 6++ownB W (jjp W x) (jjf x) x
def gorL (W:Nat):Win→List Nat→List Bool
 | _,[]=>[]
 | s,x::t=>qkg W s x++gorL W (qqg W s x) t
def gorB (W:Nat):List Nat→List Bool
 | []=>[]
 | x::t=>bitsOf x (8*W)++gorL W none t
def packB (W:Nat) (l:List Nat):List Bool:=gorB W (jwr W l)
theorem pow_256 (W:Nat):256^W=2^(8*W):=by rw[Nat.pow_mul]
theorem jmg {W x:Nat} (hW:W≤8) (h0:x≠0) (hx:x<256^W) :
  jjp W x+jjf x<8*W∧jjp W x=8*W - Lib.bitLen x∧Lib.bitLen x≤8*W∧1≤Lib.bitLen x∧jjf x<64∧x<2^(8*W - jjp W x)∧2^jjf x*(x/2^jjf x)=x∧jjf x<Lib.bitLen x:=by
 have hx2:x<2^(8*W):=by rw[←pow_256];exact hx
 have hx64:x<2^64:=Nat.lt_of_lt_of_le hx2 (Nat.pow_le_pow_right (by decide) (by omega))
 obtain⟨h1,h2,h3⟩:=Lib.bitLenAux_bounds 64 x hx64 h0
 have hL:Lib.bitLenAux 64 x=Lib.bitLen x:=rfl
 rw[hL] at h1 h2 h3
 have h4:=Lib.bitLen_le x (8*W) (by omega) hx2
 obtain⟨m,hm,hk⟩:=Lib.ctzFrom_spec 64 x (by omega) hx64
 have hb:jjf x=Lib.ctzFrom 64 x:=by unfold jjf Lib.ctz;rw[if_neg h0]
 rw[←hb] at hm hk
 have h5:2^jjf x≤x:=by
  have:2^jjf x*1≤2^jjf x*(2*m+1):=Nat.mul_le_mul_left _ (by omega)
  omega
 have h6:jjf x<Lib.bitLen x:=by
  rcases Nat.lt_or_ge (jjf x) (Lib.bitLen x) with g | g
  ·exact g
  ·have:=Nat.pow_le_pow_right (n:=2) (by decide) g
   omega
 have ha:jjp W x=8*W - Lib.bitLen x:=rfl
 refine⟨by omega,ha,h4,h1,hk,?_,?_,h6⟩
 ·rw[ha,show 8*W - (8*W - Lib.bitLen x)=Lib.bitLen x by omega];exact h3
 ·have e:x/2^jjf x=2*m+1:=by
   exact Nat.div_eq_of_eq_mul_right (Nat.two_pow_pos _) hm
  rw[e];exact hm.symm
theorem own_back {W x a b:Nat} (hW:W≤8) (h0:x≠0) (hx:x<256^W) (ha:a≤jjp W x) (hb:b≤jjf x) (hab:a+b<8*W) :
  valOf (ownB W a b x)*2^b=x:=by
 obtain⟨h1,h2,h3,h4,h5,h6,h7,h8⟩:=jmg hW h0 hx
 unfold ownB
 rw[jbn]
 have hd:2^b*(x/2^b)=x:=by
  obtain⟨d,hd⟩:∃ d,jjf x=b+d:=⟨jjf x - b,by omega⟩
  have:x=2^b*(2^d*(x/2^jjf x)):=by rw[←Nat.mul_assoc,←Nat.pow_add,←hd,h7]
  rw[Nat.mul_comm]
  exact Nat.div_mul_cancel ⟨_,this⟩
 have hlt:x/2^b<2^(8*W - a - b):=by
  rw[Nat.div_lt_iff_lt_mul (Nat.pow_pos (by decide)),←Nat.pow_add]
  exact Nat.lt_of_lt_of_le h6 (Nat.pow_le_pow_right (by decide) (by omega))
 rw[Nat.mod_eq_of_lt hlt,Nat.mul_comm]
 exact hd
theorem nextW_ok {W x:Nat} {s:Win} (hW:W≤8) (hx:x<256^W) (hs:qdz W s):qdz W (qqg W s x):=by
 unfold qqg
 split
 ·exact hs
 ·rename_i h0
  split
  ·exact hs
  ·exact (jmg hW h0 hx).1
theorem hasB_some {a b:Nat} {s:Win} (h:hasB s a b=true):∃ p:Nat × Nat,s=some p∧p.1≤a∧p.2≤b:=by
 cases s with
 | none=>cases h
 | some p=>exact⟨p,rfl,by simpa [hasB] using h⟩
theorem stepB_len {W x:Nat} {s:Win}:1≤(qkg W s x).length∧(qkg W s x).length≤8*W+14:=by
 unfold qkg
 split
 ·simp
 ·split
  ·simp[winB,ownB,jjy];omega
  ·simp[ownB,jjy];omega
theorem gorL_len (W:Nat):∀ (s:Win) (l:List Nat),l.length≤(gorL W s l).length∧(gorL W s l).length≤l.length*(8*W+14)
 | s,[]=>by simp[gorL]
 | s,x::t=>by
  have h1:=stepB_len (W:=W) (x:=x) (s:=s)
  have h2:=gorL_len W (qqg W s x) t
  simp only[gorL,List.length_append,List.length_cons]
  rw[Nat.add_mul,Nat.one_mul]
  omega
theorem packB_len (W:Nat) (l:List Nat) (h:l≠[]):8*W+(l.length - 1)≤(packB W l).length∧(packB W l).length≤8*W+(l.length - 1)*(8*W+14):=by
 have hl:=jmk W l
 unfold packB
 cases hf:jwr W l with
 | nil=>rw[hf] at hl;exact absurd (List.length_eq_zero_iff.1 hl.symm) h
 | cons x t =>
  rw[hf,List.length_cons] at hl
  have:=gorL_len W none t
  simp only[gorB,List.length_append,jjy]
  rw[show l.length - 1=t.length by omega]
  omega
theorem packB_nil (W:Nat):packB W []=[]:=rfl
end
end Go.Proofs.YtflcmmeoppdhdaaGreatDoor
