/- Contract of layer 10's Unpack. -/
import Derived.Test.YtflcmmeoppdhdaaGreatDoorQ11
import Derived.ScopeJumps
import Derived.WalkMore
set_option maxHeartbeats 2000000
set_option maxRecDepth 100000
namespace Go.Proofs.YtflcmmeoppdhdaaGreatDoor
open Tryz
section
open Go.RowKit
theorem wp_scope_once {P:Program} {a:Act} {w:World} {Q:Exit→Act→World→Prop} {c rest:Code} (l:Nat) (J:Act→World→Prop) (μ:Act→World→Nat) (hf:findLabel c l=some (Code.skip.seq rest))
  (pass:∀ a w,J a w→rest.wp P (Exit.jump l (fun a' w'=>J a' w'∧μ a' w'<μ a w) Q) a w)
  (first:(∀ a w,J a w→rest.wp P (Exit.jump l J Q) a w)→c.wp P (Exit.jump l J Q) a w):(Code.scope c).wp P Q a w :=
 wp_scope_jumps l J μ hf (first fun a w h=>wp_mono (pass a w h) fun e a' w' hq=>by
  cases e with
  | goto l'=>exact⟨hq.1,hq.2.1⟩
  | _=>exact hq) fun a w h=>wp_seq (wp_skip (pass a w h))
def toldL (x:UInt8) (t:List UInt8):List UInt8:=if x.toNat<128 then t.take (x.toNat+1) else List.replicate (x.toNat - 125) (t.headD 0)
theorem toldL_len {x:UInt8} {t:List UInt8} (h:jkf x≤t.length+1):(toldL x t).length=qym x:=by
 unfold toldL qym jkf at *
 split
 ·rename_i h1
  rw[if_pos h1] at h
  rw[List.length_take]
  omega
 ·simp
theorem manyN_le (x:UInt8):qym x≤130:=by
 have:=x.toNat_lt
 unfold qym
 split <;> omega
theorem sizeN_pos (x:UInt8):2≤jkf x:=by
 unfold jkf
 split <;> omega
theorem qgh {x:UInt8} {t:List UInt8} (h:jkf x≤t.length+1):jqh (x::t)=(jqh ((x::t).drop (jkf x))).map (toldL x t++·):=by
 unfold toldL jkf at *
 by_cases h1:x.toNat<128
 ·rw[if_pos h1] at h
  simp only[if_pos h1]
  rw[qmj x t h1 (by omega)]
  rfl
 ·rw[if_neg h1] at h
  simp only[if_neg h1]
  match t,h with
  | y::t,_ =>
   rw[qkc x y t h1]
   rfl
theorem qgf {x:UInt8} {t:List UInt8} (h:t.length+1<jkf x):jqh (x::t)=none:=by
 unfold jkf at h
 by_cases h1:x.toNat<128
 ·rw[if_pos h1] at h
  exact unpackL_lack x t h1 (by omega)
 ·rw[if_neg h1] at h
  match t,h with
  | [],_=>exact unpackL_lack2 x h1
  | _::_,h=>simp at h;omega
theorem rtold_any (base:Nat) (out:List UInt8) (v:Value) (n0:Nat) (A:Option Addr) (n c:Nat) (x:UInt8) (t:List UInt8) (w:World) (hown:w.ownsRow base 5 1 v n0 (bvs out)) (hn0:out.length=n0) (hbase:base≤w.heap.size)
  (hr:Rd w base A (bvs ((x::t).take (jkf x)))) (hs:jkf x≤t.length+1) (hn:jkf x=n) (hnc:n≤c) (hb:n0≤1000000000000) :
  Calls prog 81 #[v,.slice A n c,.int .i64 (qym x:Nat)] w fun e w'=>∃ v',e=.returned v'∧w'.ownsRow base 5 1 v' (n0+qym x) (bvs (out++toldL x t))∧Below base w w':=by
 have hlen:=toldL_len hs
 subst hn
 unfold jkf toldL at *
 by_cases h1:x.toNat<128
 ·simp only[if_pos h1] at hs hr hnc hlen ⊢
  have e:(x::t).take (x.toNat+2)=x::t.take (x.toNat+1):=rfl
  rw[e] at hr
  have hl:(t.take (x.toNat+1)).length=x.toNat+1:=by rw[List.length_take];omega
  have:=told_apart base out v n0 A (x.toNat+2) c x (t.take (x.toNat+1)) w hown hn0 hbase hr (by rw[hl]) hnc h1 hl hb (qym x:Nat)
  rw[hlen] at this
  exact this
 ·simp only[if_neg h1] at hs hr hnc hlen ⊢
  cases t with
  | nil=>simp at hs
  | cons y t =>
   have e:(x::y::t).take 2=[x,y]:=rfl
   rw[e] at hr
   have hm:qym x=x.toNat - 125:=by unfold qym;rw[if_neg h1]
   rw[←hm]
   exact told_alike base out v n0 A c x y w hown hn0 hbase hr h1 hb (qym x) (by have:=manyN_le x;omega)
def UnpAns (w:World) (R:List UInt8 × Nat) (e:Ending) (w':World):Prop:=∃ v,e=.returned (.tuple #[v,.int .i64 (R.2:Int)])∧jjz R.1 v w'∧Below w.heap.size w w'
theorem unp_not {w w':World} (hb:Below w.heap.size w w') {l:List UInt8} {m:Nat} (hm:m≤268435456) (h:∀ o,jqh l=some o→o.length≠m):UnpAns w (jzy l (m:Int)) (.returned (.tuple #[.slice none 0 0,.int .i64 16])) w':=by
 unfold jzy
 rw[if_neg (by omega)]
 cases hu:jqh l with
 | none=>exact⟨_,rfl,⟨none,0,rfl,Nat.le_refl _,Rd.nil_ _ _ _⟩,hb⟩
 | some o =>
  have:=h o hu
  simp only
  rw[if_neg (by omega)]
  exact⟨_,rfl,⟨none,0,rfl,Nat.le_refl _,Rd.nil_ _ _ _⟩,hb⟩
theorem unp_yes {w w':World} (hb:Below w.heap.size w w') {l:List UInt8} {m:Nat} (hm:m≤268435456) {o:List UInt8} (h:jqh l=some o) (ho:o.length=m) {v:Value} (hv:jjz o v w'):UnpAns w (jzy l (m:Int)) (.returned (.tuple #[v,.int .i64 0])) w':=by
 unfold jzy
 rw[if_neg (by omega),h]
 simp only
 rw[if_pos (by omega)]
 exact⟨_,rfl,hv,hb⟩
def UnpRel (w:World) (l:List UInt8) (m:Nat) (s v:Value) (wr:World):Prop :=
 ∃ (k:Nat) (A:Option Addr) (c:Nat) (out:List UInt8),k≤l.length∧s=.slice A (l.length - k) c∧l.length - k≤c∧Rd wr w.heap.size A (bvs (l.drop k))∧wr.ownsRow w.heap.size 5 1 v out.length (bvs out)∧Hid (jqh l=(jqh (l.drop k)).map (out++·))∧out.length≤m∧Below w.heap.size w wr
def UnpJ (w:World) (l:List UInt8) (m:Nat) (a:Act) (wr:World):Prop :=
 ∃ s v u7 u8 u9 u10 u11 u12 u13 u14 u15 u16 u17 u18 u19 u20 u21 u22 u23 u24 u25 u26 u27 u28 u29 u30 u31 u32 u33 u34 u35 u36 u37 u38 u39 u40 u41 u42 u43 u44 u45 u46 u47 u48,UnpRel w l m s v wr∧a={ tmps:=#[s,.int .i64 (m:Int),undef,undef,.slice none 0 0,.int .i64 0,v,u7,u8,u9,u10,u11,u12,u13,u14,u15,u16,u17,u18,u19,u20,u21,u22,u23,u24,u25,u26,u27,u28,u29,u30,u31,u32,u33,u34,u35,u36,u37,u38,u39,u40,u41,u42,u43,u44,u45,u46,u47,u48],defers:=[] }
theorem runsUnpack_in (A:Option Addr) (n c:Nat) (l:List UInt8) (m:Nat) (hm:m≤268435456) (w:World) (hr:Rd w w.heap.size A (bvs l)) (hn:l.length=n) (hnc:n≤c) (hn1:n≤1000000000) :
  Calls prog 55 #[.slice A n c,.int .i64 (m:Int)] w (UnpAns w (jzy l (m:Int))):=by
 subst hn
 have h0:¬ (m:Int)<0:=by omega
 have h1:¬ (268435456:Int)<(m:Int):=by omega
 obtain⟨R,hRR⟩:∃ R,R=jzy l (m:Int):=⟨_,rfl⟩
 have HRR:=jq hRR
 rw[←hRR]
 clear hRR
 go_enter func55,ntmps55
 go_wp2_with fail
 refine wp_scope_once 0 (UnpJ w l m) (fun a' _=>lenOf (a'.tmps.getD 0 undef)) rfl ?_ ?_
 ·clear hr hnc h0 h1
  rintro a' wr ⟨s,v,u7,u8,u9,u10,u11,u12,u13,u14,u15,u16,u17,u18,u19,u20,u21,u22,u23,u24,u25,u26,u27,u28,u29,u30,u31,u32,u33,u34,u35,u36,u37,u38,u39,u40,u41,u42,u43,u44,u45,u46,u47,u48,hrel,rfl⟩
  obtain⟨k,A,c,out,hk,rfl,hnc,hr,hown,HO,hol,hb⟩:=hrel
  have hbs:=hb.size
  by_cases hlt:k<l.length
  ·obtain⟨x,t,hR⟩:∃ x t,l.drop k=x::t:=⟨_,_,List.drop_eq_getElem_cons hlt⟩
   have hrl:t.length+1=l.length - k:=by rw[←List.length_cons (a:=x),←hR,List.length_drop]
   obtain⟨q,hq⟩:∃ q,q=l.length - k:=⟨_,rfl⟩
   rw[hR] at hr HO
   rw[←hq] at hrl hnc
   simp only[←hq]
   have hq0:0<q:=by omega
   have hq0i:(0:Int)<(q:Int):=by omega
   have C1:=jq (first_any A q c x t wr (hr.more hbs) hrl)
   have hz2:=sizeN_pos x
   have hy2:=manyN_le x
   have hstep:=qgh (x:=x) (t:=t)
   have hnone:=qgf (x:=x) (t:=t)
   have htl:=toldL_len (x:=x) (t:=t)
   have htold:=fun (v:Value) (A':Option Addr) (w':World) (h:w'.ownsRow w.heap.size 5 1 v out.length (bvs out)) (hb:w.heap.size≤w'.heap.size) (hr:Rd w' w.heap.size A' (bvs ((x::t).take (jkf x)))) (hs:jkf x≤t.length+1) (c':Nat) (hc:jkf x≤c')=>rtold_any w.heap.size out v out.length A' (jkf x) c' x t w' h rfl hb hr hs rfl hc (by omega)
   obtain⟨z,hz⟩:∃ z,z=jkf x:=⟨_,rfl⟩
   obtain⟨y,hy⟩:∃ y,y=qym x:=⟨_,rfl⟩
   rw[←hz] at C1 hz2 hstep hnone htl htold
   rw[←hy] at C1 hy2 htl htold
   clear hz hy
   have HN:=jq (And.intro (And.intro hq hrl) (And.intro hk (And.intro hlt (And.intro hol hq0))))
   clear hq hk hlt hq0
   by_cases g1:q<z
   ·have g1i:(q:Int)<(z:Int):=by omega
    have hun:jqh l=none:=by rw[HO.out,hnone (by omega)];rfl
    have HA:=jq (HRR.out ▸ unp_not (m:=m) hb hm (l:=l) (fun o ho=>by rw[hun] at ho;cases ho))
    clear hr hown HO hstep hnone htl htold hun g1 hR hnc hb hbs hrl hol
    go_wp2_with fail
    refine C1.out.mono ?_
    rintro e w1 ⟨rfl,rfl⟩
    go_wp2_with fail
    simp only[Exit.jump]
    go_ret2
    exact HA.out
   ·by_cases g2:m<out.length+y
    ·have g1i:¬ (q:Int)<(z:Int):=by omega
     have g2i:(m:Int) - (out.length:Int)<(y:Int):=by omega
     have HA:=jq (HRR.out ▸ unp_not (m:=m) hb hm (l:=l) (fun o ho=>by
      rw[HO.out,hstep (by omega)] at ho
      cases hu:jqh ((x::t).drop z) with
      | none=>rw[hu] at ho;cases ho
      | some u =>
       rw[hu] at ho
       simp only[Option.map_some,Option.some.injEq] at ho
       rw[←ho,List.length_append,List.length_append,htl (by omega)]
       omega))
     obtain⟨A1,c1,rfl,ho1,ho2,-⟩:=jjk hown
     simp only[maxLen] at ho2
     clear hr hown HO hstep hnone htl htold g1 g2 hR hnc hb hbs hrl
     go_wp2_with fail
     refine C1.out.mono ?_
     rintro e w1 ⟨rfl,rfl⟩
     go_wp2_with fail
     simp only[Exit.jump]
     go_ret2
     exact HA.out
    ·have g1i:¬ (q:Int)<(z:Int):=by omega
     have g2i:¬ (m:Int) - (out.length:Int)<(y:Int):=by omega
     have hzq:z≤q:=by omega
     have hzc:z≤c:=by omega
     have hz0:0<z:=by omega
     obtain⟨A1,c1,rfl,ho1,ho2,-⟩:=jjk hown
     simp only[maxLen] at ho2
     have hd:(x::t).drop z=l.drop (k+z):=by rw[←hR,List.drop_drop]
     have C2:=jq (htold _ A wr hown hbs (by have:=hr.take z;rwa [jbw] at this) (by omega) c hzc)
     have HST:=jq (hstep (by omega))
     have HD:=jq hd
     have HTL:=jq (htl (by omega))
     have HR:=jq hr
     have HOM:=jq g2
     have HB:=jq (And.intro hb hbs)
     clear hr hown hstep hnone htl htold g1 g2 hR hb hbs hrl hd hol hz2
     go_wp2_with fail
     refine C1.out.mono ?_
     rintro e w1 ⟨rfl,rfl⟩
     clear C1
     go_wp2_with fail
     refine C2.out.mono ?_
     rintro e w1 ⟨v',rfl,hown1,hb1⟩
     have HOWN1:=jq hown1
     have HB1:=jq (HB.out.1.trans hb1)
     have HR1:=jq (HR.out.below hb1)
     clear hown1 hb1 C2 HR HB
     go_wp2_with ((with_reducible show wpList _ _ _ (({ dst:=some 43,op:=_,type:=_,pos:=_,after:=_,guard:=_ }:Oper)::_) _ _);go_must (refine jxc rfl (.tmp 41) (.tmp 42) rfl underlying22 size_u8r w.heap.size A q c z (bvs (x::t)) rfl rfl HR1.out (by rw[jjg];exact HN.out.1.2) hnc hzq ?_;intro A' c' hc' hrd';rw[jxj] at hrd'))
     go_step3
     have hN:=HN.out
     have htln:=HTL.out
     refine⟨rfl,⟨_,_,_,_,_,_,_,_,_,_,_,_,_,_,_,_,_,_,_,_,_,_,_,_,_,_,_,_,_,_,_,_,_,_,_,_,_,_,_,_,_,_,_,_,⟨k+z,A',c',out++toldL x t,by omega,?_,by omega,?_,?_,jq ?_,?_,HB1.out⟩,rfl⟩,?_⟩
     ·rw[show l.length - (k+z)=q - z by omega]
     ·rw[←HD.out];exact hrd'
     ·rw[List.length_append,htln];exact HOWN1.out
     ·rw[HO.out,HST.out,HD.out,Option.map_map]
      congr 1
      funext u
      simp
     ·rw[List.length_append,htln];have:=HOM.out;omega
     ·show q - z<q
      omega
  ·have hk':k=l.length:=by omega
   have hO:=HO.out
   rw[hk',List.drop_length,qwx,Option.map_some,List.append_nil] at hO
   have hz:l.length - k=0:=by omega
   simp only[hz]
   obtain⟨A1,c1,rfl,ho1,ho2,-⟩:=jjk hown
   by_cases g:out.length<m
   ·have gi:(out.length:Int)<(m:Int):=by omega
    have HA:=jq (HRR.out ▸ unp_not (m:=m) hb hm (l:=l) (fun o ho=>by rw[hO] at ho;injection ho with ho;subst ho;omega))
    clear hr hown HO hO hnc hb hbs hk' hz g hlt hk
    go_wp2_with fail
    simp only[Exit.jump]
    go_ret2
    exact HA.out
   ·have gi:¬ (out.length:Int)<(m:Int):=by omega
    have HA:=jq (HRR.out ▸ unp_yes (m:=m) hb hm (l:=l) hO (by omega) (jjz.of_own hown))
    clear hr hown HO hO hnc hb hbs hk' hz g hlt hk
    go_wp2_with fail
    simp only[Exit.jump]
    go_ret2
    exact HA.out
 ·intro hpass
  go_wp2_with fail
  go_step3
  rename_i hK
  refine hK _ _ (hpass _ _ ?_)
  exact⟨_,_,_,_,_,_,_,_,_,_,_,_,_,_,_,_,_,_,_,_,_,_,_,_,_,_,_,_,_,_,_,_,_,_,_,_,_,_,_,_,_,_,_,_,⟨0,A,c,[],Nat.zero_le _,rfl,hnc,hr,World.ownsRow_nil _ _ _ _,jq (by simp),Nat.zero_le _,Below.refl _ _⟩,rfl⟩
theorem unpackR_arg {l:List UInt8} {m:Int} (h:m<0∨268435456<m):jzy l m=([],2):=by unfold jzy;rw[if_pos h]
theorem runsUnpack_any (A:Option Addr) (n c:Nat) (l:List UInt8) (m:Int) (w:World) (hr:Rd w w.heap.size A (bvs l)) (hn:l.length=n) (hnc:n≤c) (hn1:n≤1000000000) :
  Calls prog 55 #[.slice A n c,.int .i64 m] w (UnpAns w (jzy l m)):=by
 by_cases h:m<0∨268435456<m
 ·rw[unpackR_arg h]
  clear hr hnc hn1
  by_cases h0:m<0
  ·clear h
   go_enter func55,ntmps55
   go_wp2_with fail
   go_step3
   go_wp2
   rw[Exit.noGoto_ret]
   go_ret2
   exact⟨_,rfl,⟨none,0,rfl,Nat.le_refl _,Rd.nil_ _ _ _⟩,Below.refl _ _⟩
  ·have h1:268435456<m:=by omega
   clear h
   go_enter func55,ntmps55
   go_wp2_with fail
   go_step3
   go_wp2
   rw[Exit.noGoto_ret]
   go_ret2
   exact⟨_,rfl,⟨none,0,rfl,Nat.le_refl _,Rd.nil_ _ _ _⟩,Below.refl _ _⟩
 ·obtain⟨q,rfl⟩:=Int.eq_ofNat_of_zero_le (show 0≤m by omega)
  exact runsUnpack_in A n c l q (by omega) w hr hn hnc hn1
end
end Go.Proofs.YtflcmmeoppdhdaaGreatDoor
