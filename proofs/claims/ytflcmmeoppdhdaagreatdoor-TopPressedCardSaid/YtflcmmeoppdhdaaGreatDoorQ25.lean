/- Layer 17: the span: step, may, settled, cut, narrow (over any function that is handed on). · Layer 17: narrow, over any function that is handed on. · Layer 17: the program's encoder: Begin, lay, Put, .. -/
import Derived.Test.YtflcmmeoppdhdaaGreatDoorQ24
set_option maxHeartbeats 2000000
set_option maxRecDepth 100000
namespace Go.Proofs.YtflcmmeoppdhdaaGreatDoor
open Tryz
section
open Go.RowKit Go.Sort
section
variable {w:World} {g:Nat} {t:TypeId} {L R:Nat} {rest:List Value}
theorem spStep_bad (total:Int) (h:total<1∨65536<total) (v:Value) :
  Calls prog 201 #[v,.int .i64 total] w fun e w'=>e=.returned (.int .u32 0)∧w'=w:=by
 by_cases h1:total<1
 ·clear h
  go_enter func201,ntmps201
  go_wp2
  go_ret
  exact⟨rfl,rfl⟩
 ·have h2:65536<total:=by omega
  clear h
  go_enter func201,ntmps201
  go_wp2
  go_ret
  exact⟨rfl,rfl⟩
theorem spStep_ok (T:Nat) (h1:1≤T) (h2:T≤65536) (hR:R<4294967296) (hb:w.cell? ⟨g,1,none⟩=some (.int .u32 (R:Int))) :
  Calls prog 201 #[.pointer (some ⟨g,0,none⟩),.int .i64 (T:Int)] w fun e w'=>e=.returned (.int .u32 ((R/T:Nat):Int))∧w'=w:=by
 have hle:R/T≤R:=Nat.div_le_self _ _
 obtain⟨r,hr⟩:∃ r,r=R/T:=⟨_,rfl⟩
 rw[←hr] at hle ⊢
 have hd:(R:Int)/(T:Int)=(r:Int):=by rw[hr];exact (Int.natCast_ediv _ _).symm
 have hw:IntKind.u32.wrap ((R:Int)/(T:Int))=(r:Int):=by rw[hd,IntKind.wrap_u32];omega
 have ht:IntKind.u32.wrap (T:Int)=(T:Int):=by rw[IntKind.wrap_u32];omega
 have t0:¬ (T:Int)=0:=by omega
 have t1:¬ (T:Int)<1:=by omega
 have t2:¬ 65536<(T:Int):=by omega
 have t3:¬ T=0:=by omega
 clear hr hle hd h1 h2 hR
 go_enter func201,ntmps201
 go_wp2
 go_ret
 exact⟨by first | rfl | rw[hw],rfl⟩
theorem spMay_any (low size total:Int) (hs:size≤9223372036854775807) (hR:65536≤R) (hR2:R<4294967296) (hb:w.cell? ⟨g,1,none⟩=some (.int .u32 (R:Int))) :
  Calls prog 190 #[.pointer (some ⟨g,0,none⟩),.int .i64 low,.int .i64 size,.int .i64 total] w fun e w'=>e=.returned (.bool (mayP low size total))∧w'=w:=by
 by_cases h1:0≤low
 ·by_cases h2:1≤size
  ·by_cases h3:total<1∨65536<total
   ·have HQ:=jq (show mayP low size total=false by simp only[mayP,Bool.and_eq_false_iff,decide_eq_false_iff_not];omega)
    have C1:=jq (spStep_bad (w:=w) total h3 (.pointer (some ⟨g,0,none⟩)))
    clear h3
    go_enter func190,ntmps190
    go_wp2_with fail
    refine C1.out.mono ?_
    rintro _ _ ⟨rfl,rfl⟩
    go_wp2
    go_ret
    exact⟨by rw[HQ.out];rfl,rfl⟩
   ·obtain⟨T,rfl⟩:=Int.eq_ofNat_of_zero_le (show 0≤total by omega)
    have hT1:1≤T:=by omega
    have hT2:T≤65536:=by omega
    have hr:0<R/T:=Nat.div_pos (by omega) (by omega)
    have C1:=jq (spStep_ok (w:=w) (g:=g) T hT1 hT2 hR2 hb)
    obtain⟨r,hrr⟩:∃ r,r=R/T:=⟨_,rfl⟩
    rw[←hrr] at C1 hr
    have hri:(0:Int)<(r:Int):=by omega
    have hw:wrap64 ((T:Int) - size)=(T:Int) - size:=IntWalk.wrap64_in _ (by omega)
    by_cases h4:low≤(T:Int) - size
    ·have HQ:=jq (show mayP low size T=true by simp only[mayP,Bool.and_eq_true,decide_eq_true_eq];omega)
     clear h3 hT1 hT2 hrr
     go_enter func190,ntmps190
     go_wp2_with fail
     refine C1.out.mono ?_
     rintro _ _ ⟨rfl,rfl⟩
     go_wp2
     go_ret
     exact⟨by rw[HQ.out];rfl,rfl⟩
    ·have HQ:=jq (show mayP low size T=false by simp only[mayP,Bool.and_eq_false_iff,decide_eq_false_iff_not];omega)
     have h5:decide (low≤(T:Int) - size)=false:=by simp;omega
     clear h3 hT1 hT2 hrr h4
     go_enter func190,ntmps190
     go_wp2_with fail
     refine C1.out.mono ?_
     rintro _ _ ⟨rfl,rfl⟩
     go_wp2
     go_ret
     exact⟨by rw[HQ.out];rfl,rfl⟩
  ·have HQ:=jq (show mayP low size total=false by simp[mayP,h2])
   go_enter func190,ntmps190
   go_wp2
   go_ret
   exact⟨by rw[HQ.out];rfl,rfl⟩
 ·have HQ:=jq (show mayP low size total=false by simp[mayP,h1])
  go_enter func190,ntmps190
  go_wp2
  go_ret
  exact⟨by rw[HQ.out];rfl,rfl⟩
theorem same_vals32 {L R:Nat} (hL:L<4294967296):∃ x m y:Nat,IntKind.u32.wrap ((L:Int)/16777216)=(x:Int)∧IntKind.u32.wrap ((L:Int)+(R:Int))=(m:Int)∧IntKind.u32.wrap ((m:Int)/16777216)=(y:Int)∧(jky L R↔x=y)∧x=L/16777216∧x<256:=by
 refine⟨L/16777216,(L+R)%4294967296,(L+R)%4294967296/16777216,?_,?_,?_,Iff.rfl,rfl,by omega⟩
 ·rw[IntKind.wrap_u32];omega
 ·rw[IntKind.wrap_u32];omega
 ·rw[IntKind.wrap_u32];omega
theorem spSettled_any (hL:L<4294967296) (hc0:w.cell? ⟨g,0,none⟩=some (.int .u32 (L:Int))) (hc1:w.cell? ⟨g,1,none⟩=some (.int .u32 (R:Int))) :
  Calls prog 221 #[.pointer (some ⟨g,0,none⟩)] w fun e w'=>e=.returned (.bool (decide (jky L R)))∧w'=w.drew:=by
 obtain⟨x,m,y,e1,e2,e3,e4,e5,e6⟩:=same_vals32 (R:=R) hL
 have hxy:((x:Int)==(y:Int))=decide (jky L R):=by
  by_cases h:jky L R
  ·rw[e4.1 h];simp[h]
  ·simp[h];intro he;exact h (e4.2 (by omega))
 obtain⟨s,hs⟩:∃ s,s=decide (jky L R):=⟨_,rfl⟩
 rw[←hs] at hxy ⊢
 clear hs e4 e5 e6 hL
 go_enter func221,ntmps221
 go_wp2
 refine wp_region_still_lit (by kernel_rfl) (by kernel_rfl) ?_
 repeat still_step
 refine wpStill_nil ?_
 change Exit.then _ _ _ _ w.drew
 clear e1 e2 e3
 go_wp2
 go_ret
 exact⟨rfl,rfl⟩
theorem spCut_no (hR:65536≤R) (hc1:w.cell? ⟨g,1,none⟩=some (.int .u32 (R:Int))) :
  Calls prog 222 #[.pointer (some ⟨g,0,none⟩)] w fun e w'=>e=.returned (.bool false)∧w'=w:=by
 have h:decide ((65536:Int)≤(R:Int))=true:=by simp;omega
 clear hR
 go_enter func222,ntmps222
 go_wp2
 go_ret
 exact⟨rfl,rfl⟩
theorem spCut_yes (hL:L<4294967296) (hR:R<65536) (hc0:w.cell? ⟨g,0,none⟩=some (.int .u32 (L:Int))) (hc1:w.cell? ⟨g,1,none⟩=some (.int .u32 (R:Int))) (hf1:w.frozen? ⟨g,1,none⟩=false) :
  Calls prog 222 #[.pointer (some ⟨g,0,none⟩)] w fun e w'=>e=.returned (.bool true)∧w'=w.setCell ⟨g,1,none⟩ (.int .u32 ((65536 - L%65536:Nat):Int)):=by
 have h:decide ((65536:Int)≤(R:Int))=false:=by simp;omega
 obtain⟨m,hm⟩:∃ m,m=L%65536:=⟨_,rfl⟩
 obtain⟨c,hc⟩:∃ c,c=65536 - L%65536:=⟨_,rfl⟩
 have e1:(L:Int).tmod 65536=(m:Int):=by rw[Int.tmod_eq_emod_of_nonneg (by omega)];omega
 have e2:(L:Int)%65536=(m:Int):=by omega
 have e3:IntKind.u32.wrap (65536 - (m:Int))=(c:Int):=by rw[IntKind.wrap_u32];omega
 rw[←hc]
 clear hR hm hc hL
 go_enter func222,ntmps222
 go_wp2
 go_ret
 exact⟨rfl,rfl⟩
end
end
section
open Go.RowKit Go.Sort Go.Shelf
structure SpanJ (g K:Nat) (J:List Nat→Nat→Nat→World→Prop):Prop where
 cell0:∀ {o L R w},J o L R w→w.cell? ⟨g,0,none⟩=some (.int .u32 (L:Int))
 cell1:∀ {o L R w},J o L R w→w.cell? ⟨g,1,none⟩=some (.int .u32 (R:Int))
 frozen0:∀ {o L R w},J o L R w→w.frozen? ⟨g,0,none⟩=false
 frozen1:∀ {o L R w},J o L R w→w.frozen? ⟨g,1,none⟩=false
 set0:∀ {o L R w} (L':Nat),J o L R w→J o L' R (w.setCell ⟨g,0,none⟩ (.int .u32 (L':Int)))
 set1:∀ {o L R w} (R':Nat),J o L R w→J o L R' (w.setCell ⟨g,1,none⟩ (.int .u32 (R':Int)))
 drew:∀ {o L R w},J o L R w→J o L R w.drew
 move:∀ {o L R w},J o L R w→L<4294967296→o.length<7→Calls prog K #[.pointer (some ⟨g,0,none⟩)] w fun e w'=>e=.returned (.tuple #[])∧J (o++[L/16777216]) L R w'
theorem qzs (L:Nat):∃ l:Nat,IntKind.u32.wrap ((L:Int)*256)=(l:Int)∧(L:Int)*256%4294967296=(l:Int)∧l=256*L%4294967296:=by
 refine⟨256*L%4294967296,?_,by omega,rfl⟩
 rw[IntKind.wrap_u32];omega
def SpRel (J:List Nat→Nat→Nat→World→Prop) (o:List Nat) (A B:Nat) (gg:Nat) (wr:World):Prop :=
 ∃ (L R:Nat) (o1 o2:List Nat),o1++o2=o∧jvc L R o2 A B∧jqw L R∧J o1 L R wr∧o2.length=gg
theorem qgd {w:World} {g K:Nat} {J:List Nat→Nat→Nat→World→Prop} (HJ:SpanJ g K J) (hE:Enters prog K) {L R low size total A B:Nat} {o:List Nat} (hj:J [] L R w) (hi:jqw L R) (hR:65536≤R) (h1:1≤size) (h2:low+size≤total) (h3:total≤65536)
  (hm:jvc (L+low*(R/total)) (size*(R/total)) o A B) :
  Calls prog 191 #[.pointer (some ⟨g,0,none⟩),.int .i64 (low:Int),.int .i64 (size:Int),.int .i64 (total:Int),.func (.func K) #[.pointer (some ⟨g,0,none⟩)] #[]] w fun e w'=>e=.returned (.tuple #[])∧J o A B w':=by
 obtain⟨n1,n2,n3,n4⟩:=jmd hi hR h1 h2 h3
 have hR2:R<4294967296:=by obtain⟨a,b,c,d⟩:=hi;omega
 have C1:=jq (spStep_ok (w:=w) (g:=g) total (by omega) h3 hR2 (HJ.cell1 hj))
 have HJJ:=jq hj
 have HH:=jq HJ
 have HE:=jq hE
 have hlow:low<4294967296:=by omega
 have hsize:size<4294967296:=by omega
 have hL:=hi.1
 have hadd:(low+size)*(R/total)=low*(R/total)+size*(R/total):=Nat.add_mul ..
 obtain⟨r,hr⟩:∃ r,r=R/total:=⟨_,rfl⟩
 rw[←hr] at hm n1 n2 n3 n4 hadd C1
 obtain⟨lr,hlr⟩:∃ lr,lr=low*r:=⟨_,rfl⟩
 obtain⟨S,hS⟩:∃ S,S=size*r:=⟨_,rfl⟩
 rw[←hlr,←hS] at hm n4 hadd
 rw[←hlr] at n3
 have hml:IntKind.u32.wrap ((r:Int)*(low:Int))=(lr:Int):=by rw[←Int.natCast_mul,Nat.mul_comm,←hlr,IntKind.wrap_u32];omega
 have hms:IntKind.u32.wrap ((r:Int)*(size:Int))=(S:Int):=by rw[←Int.natCast_mul,Nat.mul_comm,←hS,IntKind.wrap_u32];omega
 obtain⟨q,hqq⟩:∃ q,q=L+lr:=⟨_,rfl⟩
 rw[←hqq] at hm n4 n3
 have hq:IntKind.u32.wrap ((L:Int)+(lr:Int))=(q:Int):=by rw[IntKind.wrap_u32];omega
 have hwl:IntKind.u32.wrap (low:Int)=(low:Int):=by rw[IntKind.wrap_u32];omega
 have hws:IntKind.u32.wrap (size:Int)=(size:Int):=by rw[IntKind.wrap_u32];omega
 have HM:=jq hm
 have HN:=jq n4
 have hol:=hm.few n4
 have HOL:=jq hol
 have hc0:=HJ.cell0 hj
 have hf0:=HJ.frozen0 hj
 have hc1:=HJ.cell1 hj
 have hf1:=HJ.frozen1 hj
 clear hr hlr hS hqq n1 n2 n3 n4 hadd hm hj hi hR h1 h2 h3 hR2 hlow hsize hL hol HJ hE
 go_enter func191,ntmps191
 go_wp2_with fail
 refine C1.out.mono ?_
 rintro _ w0 ⟨rfl,hw0⟩
 subst w0
 clear C1
 go_wp2
 have HREL:=jq (show SpRel J o A B o.length ((w.setCell ⟨g,0,none⟩ (.int .u32 (q:Int))).setCell ⟨g,1,none⟩ (.int .u32 (S:Int))) from ⟨q,S,[],o,rfl,HM.out,HN.out,HH.out.set1 S (HH.out.set0 q HJJ.out),rfl⟩)
 clear hc0 hf0 hc1 hf1 hml hms hq hwl hws HM HN HJJ
 go_loopg [] o.length (fun gg wr=>SpRel J o A B gg wr)
 case atStart=>exact HREL.out
 case round =>
  clear HREL
  obtain⟨L1,R1,o1,o2,ho,hm,hi,hj,hg⟩:=hrel
  have hLb:=hi.1
  have hRb:R1<4294967296:=by obtain⟨a,b,c,d⟩:=hi;omega
  have C2:=jq (spSettled_any (w:=wr) (g:=g) (R:=R1) hLb (HH.out.cell0 hj) (HH.out.cell1 hj))
  have HJ1:=jq (HH.out.drew hj)
  have HMV:=jq hm
  have HSP:=jq hi
  have HO:=jq ho
  have HG:=jq hg
  clear hm hi hj ho hg
  by_cases hs:jky L1 R1
  ·rw[show decide (jky L1 R1)=true by simp[hs]] at C2
   obtain⟨o3,ho3,HM3⟩:∃ o3,o2=L1/16777216::o3∧Hid (jvc (256*L1%4294967296) (256*cutR L1 R1%4294967296) o3 A B):=by
    cases HMV.out with
    | stop _ _ hh _=>exact absurd hs hh
    | move _ _ o3 _ _ _ hr=>exact⟨o3,rfl,jq hr⟩
   have hms:=move_span HSP.out (.inl hs)
   rw[show cutR L1 R1=R1 by unfold cutR;rw[if_pos hs]] at HM3 hms
   have HS2:=jq hms.2.2.2
   have HO3:=jq ho3
   have hol:o1.length<7:=by have:=congrArg List.length HO.out;rw[List.length_append,ho3,List.length_cons] at this;have:=HOL.out;omega
   have C3:=jq (HH.out.move HJ1.out hLb hol)
   obtain⟨l1,f1,f2,f3⟩:=qzs L1
   obtain⟨l2,g1,g2,g3⟩:=qzs R1
   rw[←f3,←g3] at HM3 HS2
   clear hms ho3 f3 g3 hol hs HMV HSP
   go_wp2_with fail
   refine C2.out.mono ?_
   rintro _ _ ⟨rfl,rfl⟩
   go_wp2_with fail
   rw[HE.out]
   refine C3.out.mono ?_
   rintro _ w2 ⟨rfl,hj2⟩
   have HJ2:=jq hj2
   have hc0:=HH.out.cell0 hj2
   have hf0:=HH.out.frozen0 hj2
   have hc1:=HH.out.cell1 hj2
   have hf1:=HH.out.frozen1 hj2
   clear hj2 C2 C3 HJ1
   go_wp2
   go_roundg (o3.length)
   case measure=>have h1:=HO3.out;have h2:=HG.out;rw[h1,List.length_cons] at h2;omega
   case rel=>exact⟨l1,l2,o1++[L1/16777216],o3,by rw[←HO.out,HO3.out];simp,HM3.out,HS2.out,HH.out.set1 l2 (HH.out.set0 l1 HJ2.out),rfl⟩
  ·rw[show decide (jky L1 R1)=false by simp[hs]] at C2
   by_cases hR:R1<65536
   ·obtain⟨o3,ho3,HM3⟩:∃ o3,o2=L1/16777216::o3∧Hid (jvc (256*L1%4294967296) (256*cutR L1 R1%4294967296) o3 A B):=by
     cases HMV.out with
     | stop _ _ _ hh=>omega
     | move _ _ o3 _ _ _ hr=>exact⟨o3,rfl,jq hr⟩
    have hms:=move_span HSP.out (.inr hR)
    rw[show cutR L1 R1=65536 - L1%65536 by unfold cutR;rw[if_neg hs]] at HM3 hms
    have HS2:=jq hms.2.2.2
    have HO3:=jq ho3
    have hol:o1.length<7:=by have:=congrArg List.length HO.out;rw[List.length_append,ho3,List.length_cons] at this;have:=HOL.out;omega
    have C4:=jq (spCut_yes (w:=wr.drew) (g:=g) hLb hR (HH.out.cell0 HJ1.out) (HH.out.cell1 HJ1.out) (HH.out.frozen1 HJ1.out))
    have hj3:=HH.out.set1 (65536 - L1%65536) HJ1.out
    obtain⟨c,hc⟩:∃ c,c=65536 - L1%65536:=⟨_,rfl⟩
    rw[←hc] at HM3 HS2 C4 hj3
    obtain⟨w1,hw1⟩:∃ w1,w1=wr.drew.setCell ⟨g,1,none⟩ (.int .u32 (c:Int)):=⟨_,rfl⟩
    rw[←hw1] at C4 hj3
    have C3:=jq (HH.out.move hj3 hLb hol)
    obtain⟨l1,f1,f2,f3⟩:=qzs L1
    obtain⟨l2,g1,g2,g3⟩:=qzs c
    rw[←f3,←g3] at HM3 HS2
    clear hms ho3 f3 g3 hol hs HMV HSP hj3 hw1 hc hR
    go_wp2_with fail
    refine C2.out.mono ?_
    rintro _ _ ⟨rfl,rfl⟩
    go_wp2_with fail
    refine C4.out.mono ?_
    rintro _ w3 ⟨rfl,hw3⟩
    subst w3
    go_wp2_with fail
    rw[HE.out]
    refine C3.out.mono ?_
    rintro _ w2 ⟨rfl,hj2⟩
    have HJ2:=jq hj2
    have hc0:=HH.out.cell0 hj2
    have hf0:=HH.out.frozen0 hj2
    have hc1:=HH.out.cell1 hj2
    have hf1:=HH.out.frozen1 hj2
    clear hj2 C2 C3 C4 HJ1
    go_wp2
    go_roundg (o3.length)
    case measure=>have h1:=HO3.out;have h2:=HG.out;rw[h1,List.length_cons] at h2;omega
    case rel=>exact⟨l1,l2,o1++[L1/16777216],o3,by rw[←HO.out,HO3.out];simp,HM3.out,HS2.out,HH.out.set1 l2 (HH.out.set0 l1 HJ2.out),rfl⟩
   ·obtain⟨ho2,hA,hB⟩:o2=[]∧L1=A∧R1=B:=by
     cases HMV.out with
     | stop _ _ _ _=>exact⟨rfl,rfl,rfl⟩
     | move _ _ o3 _ _ hh hr =>
       rcases hh with hh | hh
       ·exact absurd hh hs
       ·exact absurd hh hR
    have C4:=jq (spCut_no (w:=wr.drew) (g:=g) (R:=R1) (by omega) (HH.out.cell1 HJ1.out))
    have HEND:=jq (show J o A B wr.drew by have h:=HJ1.out;have e:=HO.out;rw[ho2,List.append_nil] at e;rw[←e,←hA,←hB];exact h)
    clear hs HMV HSP hR ho2 hA hB HO HG HJ1
    go_wp2_with fail
    refine C2.out.mono ?_
    rintro _ _ ⟨rfl,rfl⟩
    go_wp2_with fail
    refine C4.out.mono ?_
    rintro _ w3 ⟨rfl,hw3⟩
    subst w3
    clear C2 C4
    go_wp2
    refine bodyPost_end (results_none rfl _ _ _) rfl ?_
    exact⟨rfl,HEND.out⟩
def jwd (w:World) (E L R:Nat) (o:List Nat):Prop :=
 ∃ v,Blk w E 235 [.int .u32 (L:Int),.int .u32 (R:Int),v]∧w.ownsRow (E+1) 5 1 v o.length (bvs (u8s o))
def encT:List TypeId:=[235,5]
section
variable {w:World} {E L R:Nat} {o:List Nat}
theorem jwd.only {B:Nat} {ts:List TypeId} {w':World} (h:jwd w E L R o) (ho:jjj B ts w w') (h1:235∉ts) (h2:5∉ts):jwd w' E L R o:=by
 obtain⟨v,hb,hown⟩:=h
 exact⟨v,hb.only ho h1,jxl hown ho h2⟩
theorem jwd.below {w':World} (h:jwd w E L R o) (hb:Below w.heap.size w w'):jwd w' E L R o:=by
 obtain⟨v,hbl,hown⟩:=h
 exact⟨v,hbl.grow hb,jyh hown hb⟩
theorem jwd.same {w':World} (h:jwd w E L R o) (e:w'.heap=w.heap):jwd w' E L R o:=by
 obtain⟨v,hbl,hown⟩:=h
 refine⟨v,hbl.same e,hown.1,?_⟩
 rw[e];exact hown.2
theorem jwd.lt (h:jwd w E L R o):E<w.heap.size:=by
 obtain⟨v,hbl,-⟩:=h
 exact hbl.lt
theorem qxn {base e size n:Nat} {v:Value} {xs:List Value} {p:Addr} {u:Value} (h:w.ownsRow base e size v n xs) (hp:p.block<base):(w.setCell p u).ownsRow base e size v n xs:=by
 refine⟨h.1,?_⟩
 rcases h.2 with h0 | ⟨g,cap,cur,rfl,hbg,hg,rest⟩
 ·exact .inl h0
 ·exact .inr ⟨g,cap,cur,rfl,hbg,by rw[Below.heap_setCell w p u g (by omega)];exact hg,rest⟩
theorem encLay_end {A1:Option Addr} {c1 x g7 cap7:Nat} {w7:World} (hown:w.ownsRow (E+1) 5 1 (.slice A1 o.length c1) o.length (bvs (u8s o))) (hx:x<256)
  (hb7:Blk w7 E 235 [.int .u32 (L:Int),.int .u32 (R:Int),.slice A1 o.length c1]) (hg7:World.grownBy (w.drew.alloc (.cells #[.int .u8 (x:Int)] 5)) w7 (Value.slice A1 o.length c1).ownBlock)
  (hown7:w7.ownsRow (E+1) 5 1 (.slice (some ⟨g7,0,none⟩) (o.length+1) cap7) (o.length+1) (bvs (u8s o)++[.int .u8 (x:Int)])) :
  jwd (w7.setCell ⟨E,2,none⟩ (.slice (some ⟨g7,0,none⟩) (o.length+1) cap7)) E L R (o++[x])∧jjj E encT w (w7.setCell ⟨E,2,none⟩ (.slice (some ⟨g7,0,none⟩) (o.length+1) cap7)):=by
 have h1:jjj E encT w (w.drew.alloc (.cells #[.int .u8 (x:Int)] 5)):=jjj.of_below ((Below.refl _ _).drew.alloc jw _)
 have h2:jjj E encT (w.drew.alloc (.cells #[.int .u8 (x:Int)] 5)) w7:=jjj.grown hg7 (fun k hk=>by
  obtain⟨a,b⟩:=jzc (jyh hown ((Below.refl w.heap.size w).drew.alloc jw (.cells #[.int .u8 (x:Int)] 5))) k hk
  exact⟨by omega,b⟩) (by simp[encT])
 refine⟨⟨_,hb7.set_ 2 _,?_⟩,(h1.trans h2).trans (jjj.set_ hb7 jw _ (by simp[encT]))⟩
 rw[bvs_u8s o hx,List.length_append,List.length_singleton]
 exact qxn hown7 (Nat.lt_succ_self _)
theorem encLay_any (h:jwd w E L R o) (hL:L<4294967296) (ho:o.length≤100000) :
  Calls prog 192 #[.pointer (some ⟨E,0,none⟩)] w fun e w'=>e=.returned (.tuple #[])∧jwd w' E L R (o++[L/16777216])∧jjj E encT w w':=by
 obtain⟨v,hb,hown⟩:=h
 obtain⟨A1,c1,rfl,-,-,-⟩:=jjk hown
 obtain⟨i0,hi0,hz0,hz1,hz2⟩:=info_parts qzg
 obtain⟨x,hx,hx2⟩:∃ x,x=L/16777216∧x<256:=⟨_,rfl,by omega⟩
 have e1:IntKind.u32.wrap ((L:Int)/16777216)=(x:Int):=by rw[IntKind.wrap_u32];omega
 have e2:IntKind.u8.wrap (x:Int)=(x:Int):=by rw[IntKind.wrap_u8];omega
 have hc0:=hb.cell 0
 have hc2:=hb.cell 2
 have hf2:=hb.frozen 2
 simp only[jy,jx] at hc0 hc2
 have HB:=jq hb
 have HOWN:=jq hown
 have HO:=jq ho
 rw[←hx]
 have HX:=jq hx2
 have hgl:E<w.heap.size:=hb.lt
 clear hb hown ho hx hx2 hL
 go_enter func192,ntmps192
 go_wp2
 go_region_law (refine step_append_lies _ (by rfl) _ _ _ (by rfl) (E+1) 5 i0 (.int .u8 0) 1 1 underlying22 hi0 hz0 hz1 hz2 rfl (by decide) _ _ _ (by rfl) ((own_drew HOWN.out).alloc _) _ 1 1 [.int .u8 (x:Int)] (by rfl) (by rfl) (World.news_of_block (heap_alloc_new _ _)) (by intro u hu;simp at hu;subst hu;rfl) (by decide) (by simp only[maxLen];have:=HO.out;omega) (by have:=HO.out;omega) (by have:=HB.out.lt;simp;omega) _ rfl ?_;intro g7 cap7 w7 hown7 hgr7 hat7 hlt7;have hrow:=jjb HOWN.out;have hb7:Blk w7 E 235 [.int .u32 (L:Int),.int .u32 (R:Int),.slice A1 o.length c1]:=jmy ((HB.out.same (w':=w.drew) rfl).alloc_ _) hgr7 (fun r e=>by have:=hrow r e;omega);have hc7:=hb7.cell 2;have hf7:=hb7.frozen 2;simp only[jy,jx] at hc7;have HB7:=jq hb7;have HG7:=jq hgr7;have HOWN7:=jq hown7;clear hb7 hgr7 hown7 hat7 hlt7 hrow)
 all_goals (go_wp2;refine bodyPost_end (results_none rfl _ _ _) rfl ?_;refine⟨rfl,?_⟩)
 all_goals exact encLay_end HOWN.out HX.out HB7.out HG7.out HOWN7.out
theorem span_size:(prog.info? 232).map (·.size)=some 2:=by kernel_rfl
theorem rcFirst_any (w:World):Calls prog 186 #[] w fun e w'=>e=.returned (.agg #[.int .u32 0,.int .u32 4294967295])∧Below w.heap.size w w':=by
 have hb:=(Below.refl w.heap.size w).alloc jw (.cells #[.int .u32 0,.int .u32 4294967295] 232)
 go_enter func186,ntmps186
 go_wp2
 exact bodyPost_ret (v:=.agg #[.int .u32 0,.int .u32 4294967295]) (results_cell_row results186 _ _ w.heap.size 232 _ (0,0) _ rfl (heap_alloc_new w _) underlying232 rfl span_size) rfl ⟨rfl,hb⟩
theorem rcBegin_any (w:World):Calls prog 139 #[] w fun e w'=>∃ E,e=.returned (.pointer (some ⟨E,0,none⟩))∧w.heap.size≤E∧jwd w' E 0 4294967295 []∧Below w.heap.size w w':=by
 have C:=jq (rcFirst_any w)
 go_enter func139,ntmps139
 go_wp2_with fail
 refine C.out.mono ?_
 rintro _ w1 ⟨rfl,hb⟩
 go_wp2
 go_ret
 exact⟨w1.heap.size,rfl,hb.size,⟨.slice none 0 0,heap_alloc_new w1 _,World.ownsRow_nil _ _ _ _⟩,hb.alloc hb.size _⟩
theorem enc_span (ho:o.length≤90000):SpanJ E 192 (fun o2 L' R' w'=>jwd w' E L' R' (o++o2)∧jjj E encT w w') where
 cell0:=fun {o2 L' R' w'} ⟨⟨v,hb,_⟩,_⟩=>hb.cell 0
 cell1:=fun {o2 L' R' w'} ⟨⟨v,hb,_⟩,_⟩=>hb.cell 1
 frozen0:=fun {o2 L' R' w'} ⟨⟨v,hb,_⟩,_⟩=>hb.frozen 0
 frozen1:=fun {o2 L' R' w'} ⟨⟨v,hb,_⟩,_⟩=>hb.frozen 1
 set0:=fun {o2 L' R' w'} L2 ⟨⟨v,hb,hown⟩,ho⟩=>⟨⟨v,hb.set_ 0 _,qxn hown (Nat.lt_succ_self _)⟩,ho.trans (jjj.set_ hb jw _ (by simp[encT]))⟩
 set1:=fun {o2 L' R' w'} R2 ⟨⟨v,hb,hown⟩,ho⟩=>⟨⟨v,hb.set_ 1 _,qxn hown (Nat.lt_succ_self _)⟩,ho.trans (jjj.set_ hb jw _ (by simp[encT]))⟩
 drew:=fun {o2 L' R' w'} ⟨h,ho⟩=>⟨h.same rfl,ho.drew⟩
 move:=fun {o2 L' R' w'} ⟨h2,ho2⟩ hL h7=>(encLay_any h2 hL (by rw[List.length_append];omega)).mono fun e w2 ⟨h3,h4,h5⟩=>⟨h3,by rw[←List.append_assoc];exact h4,ho2.trans h5⟩
theorem encPut_ok {low size total A B:Nat} {o2:List Nat} (h:jwd w E L R o) (ho:o.length≤90000) (hi:jqw L R) (hR:65536≤R) (h1:1≤size) (h2:low+size≤total) (h3:total≤65536) (hm:jvc (L+low*(R/total)) (size*(R/total)) o2 A B) :
  Calls prog 143 #[.pointer (some ⟨E,0,none⟩),.int .i64 (low:Int),.int .i64 (size:Int),.int .i64 (total:Int)] w fun e w'=>e=.returned (.int .i64 0)∧jwd w' E A B (o++o2)∧jjj E encT w w':=by
 have hR2:R<4294967296:=by obtain⟨a,b,c,d⟩:=hi;omega
 obtain⟨v,hb,-⟩:=id h
 have C:=jq (spMay_any (w:=w) (g:=E) (low:Int) (size:Int) (total:Int) (by omega) hR hR2 (hb.cell 1))
 rw[mayP_iff.2 ⟨h1,h2,h3⟩] at C
 have D:=jq (qgd (w:=w) (enc_span ho) (enters_of func192 (by kernel_rfl) rfl) ⟨by rw[List.append_nil];exact h,jjj.refl _ _ _⟩ hi hR h1 h2 h3 hm)
 clear hb hR hR2 hm hi h1 h2 h3 h ho
 go_enter func143,ntmps143
 go_wp2_with fail
 refine C.out.mono ?_
 rintro _ w0 ⟨rfl,hw0⟩
 subst w0
 go_wp2_with fail
 refine D.out.mono ?_
 rintro _ w2 ⟨rfl,h4,h5⟩
 have H:=jq (And.intro h4 h5)
 clear h4 h5 C D
 go_wp2
 go_ret
 exact⟨rfl,H.out⟩
theorem encBytes_any (h:jwd w E L R o) (hL:L<4294967296) (ho:o.length≤90000) :
  Calls prog 140 #[.pointer (some ⟨E,0,none⟩)] w fun e w'=>∃ v,e=.returned v∧w'.ownsRow w.heap.size 5 1 v (o++be4 L).length (bvs (u8s (o++be4 L)))∧Below w.heap.size w w':=by
 obtain⟨i0,hi0,hz0,hz1,hz2⟩:=info_parts qzg
 obtain⟨v,hb,hown⟩:=h
 obtain⟨A1,c1,rfl,-,-,-⟩:=jjk hown
 have C:=jq (qwr A1 o.length c1 (u8s o) w (Rd.of_own hown) (jqz o) (by omega))
 have hc2:=hb.cell 2
 simp only[jy,jx] at hc2
 have HB:=jq hb
 have hgl:=hb.lt
 have HO:=jq ho
 have HL:=jq hL
 clear hb hown ho hL
 go_enter func140,ntmps140
 go_wp2_with fail
 refine C.out.mono ?_
 rintro _ w1 ⟨v1,rfl,hown1,hb1⟩
 rw[jqz] at hown1
 have HREL:=jq (And.intro hown1 hb1)
 clear hown1 hb1 C hc2
 go_wp2
 go_loopw [3,12] (fun b i wr=>∃ k:Nat,k≤4∧i=.int .i64 (k:Int)∧wr.ownsRow w.heap.size 5 1 b (o++(be4 L).take k).length (bvs (u8s (o++(be4 L).take k)))∧Below w.heap.size w wr) (fun _ i _=>4 - (intOf i).toNat)
 case atStart=>exact⟨0,by decide,rfl,by simpa using HREL.out.1,HREL.out.2⟩
 case round =>
  clear HREL
  obtain⟨k,hk,rfl,hown,hbl⟩:=hrel
  obtain⟨A2,c2,rfl,-,-,-⟩:=jjk hown
  have HOWN:=jq hown
  have HBL:=jq hbl
  have hc0:=(HB.out.below hbl hgl).cell 0
  simp only[jy] at hc0
  clear hown hbl
  rcases (by omega:k=0∨k=1∨k=2∨k=3∨k=4) with rfl | rfl | rfl | rfl | rfl
  ·obtain⟨s,hs⟩:∃ s,s=L%4294967296:=⟨_,rfl⟩
   obtain⟨b,hb⟩:∃ b,b=s/16777216:=⟨_,rfl⟩
   have hlt:b<256:=by omega
   have hbe:(be4 L).take 1=(be4 L).take 0++[b]:=by have:=HL.out;simp[be4];omega
   have HBE:=jq hbe
   have e1:(L:Int)%4294967296=(s:Int):=by omega
   have e2:(s:Int)/16777216=(b:Int):=by omega
   have e3:IntKind.u32.wrap ((s:Int)/16777216)=(b:Int):=by rw[IntKind.wrap_u32];omega
   have e4:IntKind.u8.wrap (b:Int)=(b:Int):=by rw[IntKind.wrap_u8];omega
   have HLT:=jq hlt
   have hl1:(o++(be4 L).take 0).length≤100000:=by have:=HO.out;simp[be4];omega
   clear hs hb hlt hbe hk
   go_wp2_with ((with_reducible show wpList _ _ _ (({ dst:=some 27,op:=_,type:=_,pos:=_,after:=_,guard:=_ }:Oper)::_) _ _);go_must (refine jjd rfl (.tmp 15) (.tmp 26) 22 rfl w.heap.size 5 i0 (.int .u8 0) 1 1 underlying22 hi0 hz0 hz1 hz2 rfl (by decide) _ _ _ rfl (HOWN.out.alloc _) _ _ 1 1 _ rfl (Rd.new _ _ _) rfl (by intro u hu;simp at hu;subst hu;rfl) (by simp only[maxLen];omega) (by omega) (by have:=HBL.out.size;simp;omega) ?_;intro v3 w3 hown3 hg3;have hrow:=jjb HOWN.out;have hb3:=(HBL.out.alloc HBL.out.size (.cells #[.int .u8 (b:Int)] 5)).grown hg3 (by have:=HBL.out.size;simp;omega) hrow;clear hg3 hrow))
   have HB3:=jq hb3
   have h3:w3.ownsRow w.heap.size 5 1 v3 (o++(be4 L).take 1).length (bvs (u8s (o++(be4 L).take 1))):=by
    rw[HBE.out,←List.append_assoc,bvs_u8s _ HLT.out,List.length_append,List.length_singleton];exact hown3
   have H3:=jq h3
   clear h3 hown3 hb3 hl1 e1 e2 e3 e4 HLT
   go_wp2
   go_roundw
   case rel=>exact⟨1,by decide,rfl,H3.out,HB3.out⟩
   case measure=>simp[intOf]
  ·obtain⟨s,hs⟩:∃ s,s=L*256%4294967296:=⟨_,rfl⟩
   obtain⟨b,hb⟩:∃ b,b=s/16777216:=⟨_,rfl⟩
   have hlt:b<256:=by omega
   have hbe:(be4 L).take 2=(be4 L).take 1++[b]:=by have:=HL.out;simp[be4];omega
   have HBE:=jq hbe
   have e1:(L:Int)*256%4294967296=(s:Int):=by omega
   have e2:(s:Int)/16777216=(b:Int):=by omega
   have e3:IntKind.u32.wrap ((s:Int)/16777216)=(b:Int):=by rw[IntKind.wrap_u32];omega
   have e4:IntKind.u8.wrap (b:Int)=(b:Int):=by rw[IntKind.wrap_u8];omega
   have HLT:=jq hlt
   have hl1:(o++(be4 L).take 1).length≤100000:=by have:=HO.out;simp[be4];omega
   clear hs hb hlt hbe hk
   go_wp2_with ((with_reducible show wpList _ _ _ (({ dst:=some 27,op:=_,type:=_,pos:=_,after:=_,guard:=_ }:Oper)::_) _ _);go_must (refine jjd rfl (.tmp 15) (.tmp 26) 22 rfl w.heap.size 5 i0 (.int .u8 0) 1 1 underlying22 hi0 hz0 hz1 hz2 rfl (by decide) _ _ _ rfl (HOWN.out.alloc _) _ _ 1 1 _ rfl (Rd.new _ _ _) rfl (by intro u hu;simp at hu;subst hu;rfl) (by simp only[maxLen];omega) (by omega) (by have:=HBL.out.size;simp;omega) ?_;intro v3 w3 hown3 hg3;have hrow:=jjb HOWN.out;have hb3:=(HBL.out.alloc HBL.out.size (.cells #[.int .u8 (b:Int)] 5)).grown hg3 (by have:=HBL.out.size;simp;omega) hrow;clear hg3 hrow))
   have HB3:=jq hb3
   have h3:w3.ownsRow w.heap.size 5 1 v3 (o++(be4 L).take 2).length (bvs (u8s (o++(be4 L).take 2))):=by
    rw[HBE.out,←List.append_assoc,bvs_u8s _ HLT.out,List.length_append,List.length_singleton];exact hown3
   have H3:=jq h3
   clear h3 hown3 hb3 hl1 e1 e2 e3 e4 HLT
   go_wp2
   go_roundw
   case rel=>exact⟨2,by decide,rfl,H3.out,HB3.out⟩
   case measure=>simp[intOf]
  ·obtain⟨s,hs⟩:∃ s,s=L*65536%4294967296:=⟨_,rfl⟩
   obtain⟨b,hb⟩:∃ b,b=s/16777216:=⟨_,rfl⟩
   have hlt:b<256:=by omega
   have hbe:(be4 L).take 3=(be4 L).take 2++[b]:=by have:=HL.out;simp[be4];omega
   have HBE:=jq hbe
   have e1:(L:Int)*65536%4294967296=(s:Int):=by omega
   have e2:(s:Int)/16777216=(b:Int):=by omega
   have e3:IntKind.u32.wrap ((s:Int)/16777216)=(b:Int):=by rw[IntKind.wrap_u32];omega
   have e4:IntKind.u8.wrap (b:Int)=(b:Int):=by rw[IntKind.wrap_u8];omega
   have HLT:=jq hlt
   have hl1:(o++(be4 L).take 2).length≤100000:=by have:=HO.out;simp[be4];omega
   clear hs hb hlt hbe hk
   go_wp2_with ((with_reducible show wpList _ _ _ (({ dst:=some 27,op:=_,type:=_,pos:=_,after:=_,guard:=_ }:Oper)::_) _ _);go_must (refine jjd rfl (.tmp 15) (.tmp 26) 22 rfl w.heap.size 5 i0 (.int .u8 0) 1 1 underlying22 hi0 hz0 hz1 hz2 rfl (by decide) _ _ _ rfl (HOWN.out.alloc _) _ _ 1 1 _ rfl (Rd.new _ _ _) rfl (by intro u hu;simp at hu;subst hu;rfl) (by simp only[maxLen];omega) (by omega) (by have:=HBL.out.size;simp;omega) ?_;intro v3 w3 hown3 hg3;have hrow:=jjb HOWN.out;have hb3:=(HBL.out.alloc HBL.out.size (.cells #[.int .u8 (b:Int)] 5)).grown hg3 (by have:=HBL.out.size;simp;omega) hrow;clear hg3 hrow))
   have HB3:=jq hb3
   have h3:w3.ownsRow w.heap.size 5 1 v3 (o++(be4 L).take 3).length (bvs (u8s (o++(be4 L).take 3))):=by
    rw[HBE.out,←List.append_assoc,bvs_u8s _ HLT.out,List.length_append,List.length_singleton];exact hown3
   have H3:=jq h3
   clear h3 hown3 hb3 hl1 e1 e2 e3 e4 HLT
   go_wp2
   go_roundw
   case rel=>exact⟨3,by decide,rfl,H3.out,HB3.out⟩
   case measure=>simp[intOf]
  ·obtain⟨s,hs⟩:∃ s,s=L*16777216%4294967296:=⟨_,rfl⟩
   obtain⟨b,hb⟩:∃ b,b=s/16777216:=⟨_,rfl⟩
   have hlt:b<256:=by omega
   have hbe:(be4 L).take 4=(be4 L).take 3++[b]:=by have:=HL.out;simp[be4];omega
   have HBE:=jq hbe
   have e1:(L:Int)*16777216%4294967296=(s:Int):=by omega
   have e2:(s:Int)/16777216=(b:Int):=by omega
   have e3:IntKind.u32.wrap ((s:Int)/16777216)=(b:Int):=by rw[IntKind.wrap_u32];omega
   have e4:IntKind.u8.wrap (b:Int)=(b:Int):=by rw[IntKind.wrap_u8];omega
   have HLT:=jq hlt
   have hl1:(o++(be4 L).take 3).length≤100000:=by have:=HO.out;simp[be4];omega
   clear hs hb hlt hbe hk
   go_wp2_with ((with_reducible show wpList _ _ _ (({ dst:=some 27,op:=_,type:=_,pos:=_,after:=_,guard:=_ }:Oper)::_) _ _);go_must (refine jjd rfl (.tmp 15) (.tmp 26) 22 rfl w.heap.size 5 i0 (.int .u8 0) 1 1 underlying22 hi0 hz0 hz1 hz2 rfl (by decide) _ _ _ rfl (HOWN.out.alloc _) _ _ 1 1 _ rfl (Rd.new _ _ _) rfl (by intro u hu;simp at hu;subst hu;rfl) (by simp only[maxLen];omega) (by omega) (by have:=HBL.out.size;simp;omega) ?_;intro v3 w3 hown3 hg3;have hrow:=jjb HOWN.out;have hb3:=(HBL.out.alloc HBL.out.size (.cells #[.int .u8 (b:Int)] 5)).grown hg3 (by have:=HBL.out.size;simp;omega) hrow;clear hg3 hrow))
   have HB3:=jq hb3
   have h3:w3.ownsRow w.heap.size 5 1 v3 (o++(be4 L).take 4).length (bvs (u8s (o++(be4 L).take 4))):=by
    rw[HBE.out,←List.append_assoc,bvs_u8s _ HLT.out,List.length_append,List.length_singleton];exact hown3
   have H3:=jq h3
   clear h3 hown3 hb3 hl1 e1 e2 e3 e4 HLT
   go_wp2
   go_roundw
   case rel=>exact⟨4,by decide,rfl,H3.out,HB3.out⟩
   case measure=>simp[intOf]
  ·have h4:(be4 L).take 4=be4 L:=rfl
   rw[h4] at HOWN
   clear h4 hk hc0
   go_wp2
   go_ret
   exact⟨_,rfl,HOWN.out,HBL.out⟩
end
end
section
open Go.RowKit
def Counts (c:List Int):Prop:=(1≤c.length∧c.length≤4096)∧(∀ x∈c,0≤x)∧c.sum≤65536
structure Lies (w:World) (T S n:Nat) (l:List Int) (total:Int):Prop where
 tb:Blk w T 262 [.slice (some ⟨S,0,none⟩) (n+1:Nat) (n+1),.int .i64 total]
 sb:Blk w S 3 (zvs l)
def jwq (w:World) (T S:Nat) (c:List Int):Prop:=Counts c∧Lies w T S c.length (fRow c) c.sum
theorem Lies.ne {w:World} {T S n:Nat} {l:List Int} {t:Int} (h:Lies w T S n l t):T≠S:=by
 intro e
 have h1:=h.tb;have h2:=h.sb
 rw[e] at h1
 unfold Blk at h1 h2
 rw[h1] at h2
 simp at h2
theorem Lies.grow {w w':World} {T S n:Nat} {l:List Int} {t:Int} (h:Lies w T S n l t) (hb:Below w.heap.size w w'):Lies w' T S n l t:=⟨h.tb.grow hb,h.sb.grow hb⟩
theorem jwq.grow {w w':World} {T S:Nat} {c:List Int} (h:jwq w T S c) (hb:Below w.heap.size w w'):jwq w' T S c:=⟨h.1,h.2.grow hb⟩
theorem Lies.same {w w':World} {T S n:Nat} {l:List Int} {t:Int} (h:Lies w T S n l t) (e:w'.heap=w.heap):Lies w' T S n l t:=⟨h.tb.same e,h.sb.same e⟩
theorem jwq.same {w w':World} {T S:Nat} {c:List Int} (h:jwq w T S c) (e:w'.heap=w.heap):jwq w' T S c:=⟨h.1,h.2.same e⟩
theorem low_bits (p:Nat) (h0:0<p) (h:p<2^62):bits .and .i64 (p:Int) (wrap64 (-(p:Int)))=(fLow p:Int):=by
 obtain⟨e,-⟩:=Lib.lowest_bit 64 p (by omega) (by omega)
 have hl:=jmw h0 (by omega)
 have e1:(BitVec.ofInt 64 (p:Int)).toNat=p:=by simp;omega
 have e2:(BitVec.ofInt 64 (wrap64 (-(p:Int)))).toNat=2^64 - p:=by
  rw[IntWalk.wrap64_in _ (by omega)];simp[BitVec.toNat_ofInt];omega
 have e3:bits .and .i64 (p:Int) (wrap64 (-(p:Int)))=IntKind.i64.wrap ((((BitVec.ofInt 64 (p:Int)).toNat &&& (BitVec.ofInt 64 (wrap64 (-(p:Int)))).toNat:Nat)):Int):=by
  rw[←BitVec.toNat_and]
  rfl
 rw[e3,e1,e2,e,IntKind.wrap_i64]
 unfold fLow at hl ⊢
 omega
theorem jkd (p:Nat) (h0:0<p) (h:p<2^62) (w:World) :
  Calls prog 220 #[.int .i64 (p:Int)] w fun e w'=>e=.returned (.int .i64 (fLow p:Int))∧w'=w:=by
 have e:=low_bits p h0 h
 have hw:wrap64 (-(p:Int)) = -(p:Int):=IntWalk.wrap64_in _ (by omega)
 rw[hw] at e
 clear hw
 go_enter func220,ntmps220
 go_wp2
 go_ret
 exact⟨rfl,rfl⟩
theorem bitsLen_any (x:Int) (w:World) (h0:0≤x) (h1:x≤18446744073709551615) :
  Calls prog 236 #[.int .u64 x] w fun e w'=>e=.returned (.int .i64 (Lib.bitLen x.toNat))∧w'=w:=by
 go_enter func236,ntmps236
 go_wp2_with (go_at_call 238;refine (len64_any _ _ h0 h1).mono ?_;rintro e w' ⟨rfl,rfl⟩)
 go_ret
 exact⟨rfl,rfl⟩
theorem fenGreatest_any (n:Nat) (h0:0<n) (h:n≤4096) (w:World) :
  Calls prog 225 #[.int .i64 (n:Int)] w fun e w'=>e=.returned (.int .i64 (2^(Lib.bitLen n - 1):Nat))∧w'=w:=by
 have c:=bitsLen_any (n:Int) w (by omega) (by omega)
 rw[Int.toNat_natCast] at c
 have C:=jq c
 have hle:Lib.bitLen n≤13:=Lib.bitLen_le n 13 (by omega) (by omega)
 have h1:1≤Lib.bitLen n:=by
  have:=Lib.bitLen_half n (by omega) (by omega);omega
 clear c
 obtain⟨L,hL⟩:∃ L,Lib.bitLen n=L+1:=⟨Lib.bitLen n - 1,by omega⟩
 rw[hL] at C hle ⊢
 have hp:2^L≤4096:=Nat.pow_le_pow_right (n:=2) (by decide) (show L≤12 by omega)
 have hp2:2^(L+1)=2*2^L:=by rw[Nat.pow_succ];omega
 have hpi:((2:Int)^(L+1))=2*((2^L:Nat):Int):=by rw[Int.pow_succ];simp;omega
 clear h1 hL
 go_enter func225,ntmps225
 go_wp2_with (go_at_call 236;refine C.out.mono ?_;rintro e w' ⟨rfl,rfl⟩)
 go_ret
 exact⟨jyr (by rw[Nat.add_sub_cancel];simp),rfl⟩
section
variable {w:World} {T S n:Nat} {l:List Int} {t:Int}
theorem fenLen_blk (h:Blk w T 262 [.slice (some ⟨S,0,none⟩) (n+1:Nat) (n+1),.int .i64 t]) (hn:n≤4096) :
  Calls prog 187 #[.pointer (some ⟨T,0,none⟩)] w fun e w'=>e=.returned (.int .i64 (n:Int))∧w'=w:=by
 have c0:=h.cell 0
 simp only[jy] at c0
 go_enter func187,ntmps187
 go_wp2
 go_ret
 exact⟨rfl,rfl⟩
theorem jkl (h:Lies w T S n l t) (hn:n≤4096) :
  Calls prog 187 #[.pointer (some ⟨T,0,none⟩)] w fun e w'=>e=.returned (.int .i64 (n:Int))∧w'=w:=fenLen_blk h.tb hn
theorem qjt (h:Lies w T S n l t) :
  Calls prog 193 #[.pointer (some ⟨T,0,none⟩)] w fun e w'=>e=.returned (.int .i64 t)∧w'=w:=by
 have c1:=h.tb.cell 1
 simp only[jx,jy] at c1
 go_enter func193,ntmps193
 go_wp2
 go_ret
 exact⟨rfl,rfl⟩
theorem fenHas_any (i:Int) (h:Lies w T S n l t) (hn:n≤4096) :
  Calls prog 219 #[.pointer (some ⟨T,0,none⟩),.int .i64 i] w fun e w'=>e=.returned (.bool (decide (0≤i∧i<n)))∧w'=w:=by
 have C:=jq (jkl h hn)
 go_enter func219,ntmps219
 go_wp2_with (go_at_call 187;refine C.out.mono ?_;rintro e w' ⟨rfl,rfl⟩)
 all_goals go_ret
 ·rename_i h0
  exact⟨by simp[h0],rfl⟩
 ·rename_i h0
  have h1:¬ (0≤i):=by omega
  exact⟨by simp[h1],rfl⟩
end
theorem fRow_zero (n:Nat):fRow (List.replicate n 0)=List.replicate (n+1) 0:=by
 refine List.eq_replicate_iff.2 ⟨by simp[fRow_len],fun b hb=>?_⟩
 obtain⟨j,_,rfl⟩:=List.mem_map.1 hb
 have h:∀ k,fPre (List.replicate n 0) k=0:=fun k=>by simp[fPre]
 unfold jzb;rw[h,h];rfl
theorem fenNew_any (n:Nat) (w:World) (h1:1≤n) (h2:n≤4096) :
  Calls prog 196 #[.int .i64 (n:Int)] w fun e w'=>∃ T,e=.returned (.pointer (some ⟨T,0,none⟩))∧∃ S,jwq w' T S (List.replicate n 0)∧(w.heap.size≤T∧w.heap.size≤S)∧Below w.heap.size w w':=by
 obtain⟨i0,hi,hz0,hz1,hz2⟩:=info_parts jwk
 have a1:¬ ((n:Int)<1):=by omega
 have a2:¬ ((4096:Int)<n):=by omega
 go_enter func196,ntmps196
 go_wp2_with (at_make;go_must (refine jqp rfl (.tmp 10) (.tmp 10) 35 rfl w.heap.size 3 i0 (.int .i64 0) 8 underlying35 hi hz0 rfl hz1 hz2 .i64 .i64 _ _ rfl rfl (n+1) (n+1) (by omega) (by omega) jw (by omega) (by simp only[maxLen];omega) jw ?_;intro w1 hg1 hown1 hgr1;have hb:Below w.heap.size w w1:=(Below.refl _ _).grown hgr1 jw (by simp)))
 go_ret
 refine⟨w1.heap.size,rfl,w.heap.size,⟨⟨by simp;omega,?_,by simp⟩,?_,?_⟩,⟨hb.size,Nat.le_refl _⟩,hb.alloc hb.size _⟩
 ·intro x hx;obtain⟨-,rfl⟩:=List.mem_replicate.1 hx;exact Int.le_refl _
 ·have:=heap_alloc_new w1 (.cells #[.slice (some ⟨w.heap.size,0,none⟩) (n+1) (n+1),.int .i64 0] 262)
  unfold Blk
  rw[this]
  simp
 ·have hs:Blk w1 w.heap.size 3 (zvs (fRow (List.replicate n 0))):=by unfold Blk;rw[hg1,fRow_zero];simp[zvs]
  exact hs.alloc_ _
theorem lt_bitLen (x:Nat) (h:x<2^64):x<2^Lib.bitLen x:=by
 have key:∀ (f x:Nat),x<2^f→x<2^Lib.bitLenAux f x:=by
  intro f
  induction f with
  | zero=>intro x h;simpa [Lib.bitLenAux] using h
  | succ f ih =>
   intro x h
   unfold Lib.bitLenAux
   split
   ·omega
   ·have:=ih (x/2) (by rw[Nat.pow_succ] at h;omega)
    rw[Nat.add_comm,Nat.pow_succ];omega
 exact key 64 x h
theorem fenFind_none {w:World} {T S:Nat} {c:List Int} (v:Int) (h:jwq w T S c) (hv:v<0∨c.sum≤v) :
  Calls prog 200 #[.pointer (some ⟨T,0,none⟩),.int .i64 v] w fun e w'=>e=.returned (.tuple #[.int .i64 0,.bool false])∧w'=w:=by
 have C:=jq (qjt h.2)
 clear h
 rcases hv with hv | hv
 ·go_enter func200,ntmps200
  go_wp2
  go_ret2
  exact⟨rfl,rfl⟩
 ·by_cases h0:v<0
  ·go_enter func200,ntmps200
   go_wp2
   go_ret2
   exact⟨rfl,rfl⟩
  ·go_enter func200,ntmps200
   go_wp2_with (go_at_call 193;refine C.out.mono ?_;rintro e w' ⟨rfl,rfl⟩)
   go_ret2
   exact⟨rfl,rfl⟩
def stepAt:Nat→Nat
 | 0=>0
 | j+1=>2^j
theorem fenFind_some {w:World} {T S:Nat} {c:List Int} (v:Int) (r:Nat) (h:jwq w T S c) (hv:jgz c v=some r) :
  Calls prog 200 #[.pointer (some ⟨T,0,none⟩),.int .i64 v] w fun e w'=>e=.returned (.tuple #[.int .i64 (r:Int),.bool true])∧w'=w:=by
 have hlen:=h.1.1
 have hnn:=h.1.2.1
 have htot:=h.1.2.2
 have hin:=fFind_in hv
 have hvs:v<c.sum:=by have:=jwp hnn (r+1);omega
 have hle:Lib.bitLen c.length≤13:=Lib.bitLen_le c.length 13 (by omega) (by omega)
 have h1:1≤Lib.bitLen c.length:=by
  have:=Lib.bitLen_half c.length (by omega) (by omega);omega
 obtain⟨L,hL⟩:∃ L,Lib.bitLen c.length=L+1:=⟨Lib.bitLen c.length - 1,by omega⟩
 have hlt:c.length<2^(L+1):=by rw[←hL];exact lt_bitLen _ (by omega)
 obtain⟨hfd,hfl⟩:=qbq hnn hin.1 hvs hlt
 rw[hv] at hfd
 injection hfd with hfd
 have hg:=fenGreatest_any c.length (by omega) hlen.2
 rw[hL,Nat.add_sub_cancel] at hg
 have C:=jq (qjt h.2)
 have CL:=jq (jkl h.2 hlen.2)
 have CG:=jq hg
 have HL:=jq h.2
 have HN:=jq hnn
 have HFD:=jq hfd
 have HLT:=jq hlt
 have hv0:=hin.1
 have hL12:L≤12:=by omega
 have hT0:=h.2.tb.cell 0
 simp only[jy] at hT0
 have hge:¬ (c.sum≤v):=by omega
 clear h hnn hfd hlt hg hin hfl hle h1 hL hv
 go_enter func200,ntmps200
 go_wp2_with (first
  | (go_at_call 193;refine C.out.mono ?_;rintro e w' ⟨rfl,rfl⟩)
  | (go_at_call 187;refine CL.out.mono ?_;rintro e w' ⟨rfl,rfl⟩)
  | (go_at_call 225;refine (CG.out _).mono ?_;rintro e w' ⟨rfl,rfl⟩))
 go_loop [1,6,7] (fun vv ff ss=>∃ j p:Nat,j≤L+1∧ss=.int .i64 (stepAt j:Nat)∧ff=.int .i64 (p:Int)∧vv=.int .i64 (v - fPre c p)∧2^j∣p∧p≤c.length∧fPre c p≤v∧qyw c v j p=r)
  (fun _ _ ss=>(intOf ss).toNat)
 case atStart=>exact⟨L+1,0,Nat.le_refl _,rfl,rfl,by rw[jyz,Int.sub_zero],Nat.dvd_zero _,Nat.zero_le _,by rw[jyz];exact hv0,HFD.out.symm⟩
 case round =>
  obtain⟨j,p,hj,rfl,rfl,rfl,hdv,hp,hpv,hsk⟩:=hrel
  cases j with
  | zero =>
   simp only[stepAt,qyw] at hsk ⊢
   subst hsk
   go_wp2
   go_ret2
   exact⟨rfl,rfl⟩
  | succ j =>
   obtain⟨P,hP⟩:∃ P,P=2^j:=⟨_,rfl⟩
   have hst:stepAt (j+1)=P:=hP.symm
   have hP0:0<P:=by rw[hP];exact Nat.two_pow_pos j
   have hP4:P≤4096:=by rw[hP];exact Nat.pow_le_pow_right (n:=2) (by decide) (show j≤12 by omega)
   have hsn:P/2=stepAt j:=by
    cases j with
    | zero=>rw[hP];rfl
    | succ j=>rw[hP,Nat.pow_succ];simp[stepAt]
   have hdv0:2^j∣p:=Nat.dvd_trans ⟨2,by rw[Nat.pow_succ]⟩ hdv
   have hdv1:2^j∣p+P:=by rw[hP];exact Nat.dvd_add hdv0 (Nat.dvd_refl _)
   have hnode:=fNode_half c hdv (by rw[←hP];omega)
   have hsk2:(if p+P≤c.length∧fPre c (p+P)≤v then qyw c v j (p+P) else qyw c v j p)=r:=by rw[hP];exact hsk
   rw[←hP] at hnode
   have HDV0:=jq hdv0
   have HDV1:=jq hdv1
   have HSN:=jq hsn
   have HSK:=jq hsk2
   have HNODE:=jq hnode
   have pp0:=jvd HN.out p
   have HPV:=jq hpv
   rw[hst]
   obtain⟨q,hq⟩:∃ q,q=v - fPre c p:=⟨_,rfl⟩
   rw[←hq]
   have HQ:=jq hq
   have hq0:0≤q:=by omega
   have hq1:q≤65536:=by omega
   have hPi:(0:Int)<(P:Int):=by omega
   clear hdv hsk hsk2 hnode hdv0 hdv1 hsn hst hP hq pp0 hpv
   by_cases hin:p+P≤c.length
   ·have hS:=HL.out.sb.cell (p+P)
    rw[jql,fRow_get c (p+P) hin,HNODE.out] at hS
    simp only[Option.map_some] at hS
    obtain⟨nd,hnd⟩:∃ nd,nd=fPre c (p+P) - fPre c p:=⟨_,rfl⟩
    rw[←hnd] at hS
    have HND:=jq hnd
    have hnd0:0≤nd:=by have:=jmv HN.out (a:=p) (b:=p+P) (by omega);omega
    have hnd1:nd≤65536:=by have:=jwp HN.out (p+P);have:=jvd HN.out p;omega
    have hini:(p:Int)+(P:Int)≤(c.length:Int):=by omega
    have hinx:(p:Int)+(P:Int)<(c.length:Int)+1:=by omega
    clear hnd
    by_cases hle:nd≤q
    ·go_wp2_with (go_at_call 187;refine CL.out.mono ?_;rintro e w' ⟨rfl,rfl⟩)
     go_round
     case rel =>
      have h1:=HQ.out
      have h2:=HND.out
      have hle2:fPre c (p+P)≤v:=by omega
      refine⟨j,p+P,by omega,?_,?_,?_,HDV1.out,hin,hle2,?_⟩
      ·rw[←HSN.out];congr 1
      ·congr 1
      ·congr 1;omega
      ·have:=HSK.out;rwa [if_pos ⟨hin,hle2⟩] at this
     case measure=>simp[intOf];omega
    ·go_wp2_with (go_at_call 187;refine CL.out.mono ?_;rintro e w' ⟨rfl,rfl⟩)
     go_round
     case rel =>
      have h1:=HQ.out
      have h2:=HND.out
      have hle2:¬ fPre c (p+P)≤v:=by omega
      refine⟨j,p,by omega,?_,rfl,?_,HDV0.out,hp,HPV.out,?_⟩
      ·rw[←HSN.out];congr 1
      ·congr 1
      ·have:=HSK.out;rwa [if_neg (fun x=>hle2 x.2)] at this
     case measure=>simp[intOf];omega
   ·have hini:¬ ((p:Int)+(P:Int)≤(c.length:Int)):=by omega
    go_wp2_with (go_at_call 187;refine CL.out.mono ?_;rintro e w' ⟨rfl,rfl⟩)
    go_round
    case rel =>
     refine⟨j,p,by omega,?_,rfl,?_,HDV0.out,hp,HPV.out,?_⟩
     ·rw[←HSN.out];congr 1
     ·rw[HQ.out]
     ·have:=HSK.out;rwa [if_neg (fun x=>hin x.1)] at this
    case measure=>simp[intOf];omega
end
section
open Go.RowKit Go.Sort Go.Shelf
def jqf (w:World) (D K:Nat) (L R:Nat) (s:Nat × List Nat × Nat):Prop :=
 ∃ A n m,Blk w D 243 [.int .u32 (L:Int),.int .u32 (R:Int),.slice A n m,.int .u32 (s.1:Int),.int .i64 (s.2.2:Int)]∧Rd w K A (nvs s.2.1)∧s.2.1.length=n∧n≤m∧n≤1000000∧K≤D∧s.1<4294967296∧∀ b∈s.2.1,b<256
def Soft (s:Nat × List Nat × Nat):Prop:=s.2.2=0∨s.2.2=16
theorem comeS_soft {s:Nat × List Nat × Nat} (h:Soft s):Soft (comeS s):=by
 obtain⟨C,B,E⟩:=s
 cases B with
 | nil=>rcases h with h | h <;> (simp only at h;subst h;exact .inr rfl)
 | cons b T=>exact h
theorem qxw:∀ (k:Nat) {s:Nat × List Nat × Nat},Soft s→Soft (jxx k s)
 | 0,_,h=>h
 | k+1,_,h=>qxw k (comeS_soft h)
section
variable {w:World} {D K L R C E:Nat} {B:List Nat} {s:Nat × List Nat × Nat}
theorem jqf.below {w':World} (h:jqf w D K L R s) (hb:Below w.heap.size w w'):jqf w' D K L R s:=by
 obtain⟨A,n,m,h1,h2,h3,h4,h5,h6,h7⟩:=h
 exact⟨A,n,m,h1.grow hb,h2.below (hb.mono (by have:=h1.lt;omega)),h3,h4,h5,h6,h7⟩
theorem jqf.same {w':World} (h:jqf w D K L R s) (e:w'.heap=w.heap):jqf w' D K L R s:=by
 obtain⟨A,n,m,h1,h2,h3,h4,h5,h6,h7⟩:=h
 exact⟨A,n,m,h1.same e,h2.keep (fun p _=>World.cell?_of_block (by rw[e])),h3,h4,h5,h6,h7⟩
theorem jqf.drew_ (h:jqf w D K L R s):jqf w.drew D K L R s:=h.same rfl
theorem jqf.lt (h:jqf w D K L R s):D<w.heap.size:=by
 obtain⟨A,n,m,h1,-⟩:=h
 exact h1.lt
theorem shiftadd_vals {C b:Nat} (hb:b<256):∃ M c:Nat,(C:Int)*256%4294967296=(M:Int)∧IntKind.u32.wrap ((C:Int)*256)=(M:Int)∧IntKind.u32.wrap ((M:Int)+(b:Int))=(c:Int)∧((M:Int)+(b:Int))%4294967296=(c:Int)∧IntKind.u32.wrap (b:Int)=(b:Int)∧c=(256*C+b)%4294967296:=by
 refine⟨C*256%4294967296,(256*C+b)%4294967296,by omega,?_,?_,by omega,?_,rfl⟩
 ·rw[IntKind.wrap_u32];omega
 ·rw[IntKind.wrap_u32];omega
 ·rw[IntKind.wrap_u32];omega
theorem decNext_any (h:jqf w D K L R s) (hs:Soft s) :
  Calls prog 197 #[.pointer (some ⟨D,0,none⟩)] w fun e w'=>e=.returned (.tuple #[])∧jqf w' D K L R (comeS s)∧jjq D D w w':=by
 obtain⟨C,B,E⟩:=s
 obtain⟨A,n,m,hb,hr,hn,hnm,hn1,hK,hC,hB⟩:=h
 simp only at hb hr hn hC hB
 have hc2:=hb.cell 2
 have hc3:=hb.cell 3
 have hf2:=hb.frozen 2
 have hf3:=hb.frozen 3
 have hf4:=hb.frozen 4
 simp only[jy,jx] at hc2 hc3
 have HB:=jq hb
 have HR:=jq hr
 clear hb hr
 cases B with
 | nil =>
  obtain rfl:n=0:=by rw[←hn];rfl
  have hc4:=HB.out.cell 4
  simp only[jy,jx] at hc4
  have he:comeS (C,[],E)=(C,[],16):=by rw[comeS_nil];rcases hs with h | h <;> (simp only at h;subst h;rfl)
  rw[he]
  clear hs hc3 hf2 hf3 he
  go_enter func197,ntmps197
  go_wp2
  (try simp only[Exit.inBlock,Exit.then]);refine bodyPost_ret (results_none rfl _ _ _) rfl ?_
  exact⟨rfl,⟨A,0,m,HB.out.set_ 4 _,Rd.nil_ _ _ _,rfl,hnm,hn1,hK,hC,hB⟩,jjq.set_ 4 _⟩
 | cons b T =>
  have hb8:=hB b (by simp)
  have hTb:∀ y∈T,y<256:=fun y hy=>hB y (by simp[hy])
  have hTl:T.length+1=n:=by rw[←hn];rfl
  obtain⟨ab,ao,rfl,hab,hcell⟩:=HR.out 0 (.int .u8 (b:Int)) (by simp[nvs])
  rw[Nat.add_zero] at hcell
  obtain⟨M,c,e1,e5,e2,e6,e3,e4⟩:=shiftadd_vals (C:=C) hb8
  rw[qms,←e4]
  have hn0:¬ (n:Int)=0:=by omega
  have hn3:(0:Int)<(n:Int):=by omega
  have hn4:0<n:=by omega
  have hn5:¬ n=0:=by omega
  have hc256:c<4294967296:=by rw[e4];exact Nat.mod_lt _ (by decide)
  have hDs:=HB.out.lt
  clear e4 hs
  go_enter func197,ntmps197
  go_wp2
  refine wp_region_still_tail 16 (by kernel_rfl) (by kernel_rfl) ?_
  simp only[List.take_succ_cons,List.take_zero,List.drop_succ_cons,List.drop_zero]
  repeat still_step
  refine wpStill_nil ?_
  change wpList _ _ _ _ _ w.drew
  have hb1:Blk ((w.setCell ⟨D,3,none⟩ (.int .u32 (c:Int))).drew) D 243 [.int .u32 (L:Int),.int .u32 (R:Int),.slice (some ⟨ab,ao,none⟩) n m,.int .u32 (c:Int),.int .i64 (E:Int)]:=(HB.out.set_ 3 _).drew_
  have hr1:Rd ((w.setCell ⟨D,3,none⟩ (.int .u32 (c:Int))).drew) K (some ⟨ab,ao,none⟩) (nvs (b::T)):=(HR.out.setCell hK _).drew
  have HB1:=jq hb1
  have HR1:=jq hr1
  have HLN:=jq (show (nvs (b::T)).length=n by rw[nvs_length];exact hn)
  clear hb1 hr1 hn3 hn4 hn5 hn0 hcell
  have h1n:1≤n:=by omega
  go_wp2_with ((with_reducible show wpList _ _ _ (({ dst:=some 32,op:=_,type:=_,pos:=_,after:=_,guard:=_ }:Oper)::_) _ _);go_must (refine jxc rfl (.tmp 31) (.const (.int .i64 1)) rfl underlying22 size_u8d K _ n m 1 (nvs (b::T)) rfl rfl HR1.out HLN.out hnm h1n ?_;intro A2 c2 hc2' hr2;rw[nvs_drop] at hr2))
  refine bodyPost_end (results_none rfl _ _ _) rfl ?_
  exact⟨rfl,⟨A2,n - 1,c2,(HB1.out.set_ 2 (.slice A2 (n - 1) c2)).same rfl,(hr2.setCell (by exact hK) _),by simp only;omega,hc2',by omega,hK,hc256,hTb⟩,((jjq.set_ 3 _).trans (jjq.set_ 2 _)).drew⟩
theorem qzk (h:jqf w D K L R s):Calls prog 199 #[.pointer (some ⟨D,0,none⟩)] w fun e w'=>e=.returned (.int .i64 (s.2.2:Int))∧w'=w:=by
 obtain⟨A,n,m,hb,-⟩:=h
 have hc4:=hb.cell 4
 simp only[jy,jx] at hc4
 clear hb
 go_enter func199,ntmps199
 go_wp2
 go_ret
 exact⟨rfl,rfl⟩
def doneS (s:Nat × List Nat × Nat):Nat:=if s.2.2=0 then (if s.2.1=[] then 0 else 16) else s.2.2
theorem decDone_any (h:jqf w D K L R s):Calls prog 149 #[.pointer (some ⟨D,0,none⟩)] w fun e w'=>e=.returned (.int .i64 (doneS s:Int))∧w'=w:=by
 have C:=jq (qzk h)
 obtain⟨C0,B,E⟩:=s
 obtain⟨A,n,m,hb,-,hn,-⟩:=h
 have hc2:=hb.cell 2
 simp only[jy,jx] at hc2 C
 simp only at hn
 clear hb
 by_cases hE:E=0
 ·subst hE
  cases B with
  | nil =>
   obtain rfl:n=0:=by rw[←hn];rfl
   have HD:=jq (show doneS (C0,[],0)=0 from rfl)
   go_enter func149,ntmps149
   go_wp2_with fail
   refine C.out.mono ?_
   rintro _ w0 ⟨rfl,hw0⟩
   subst w0
   go_wp2
   go_ret
   exact⟨by rw[HD.out];rfl,rfl⟩
  | cons b T =>
   have hn1:(0:Int)<(n:Int):=by rw[←hn,List.length_cons];omega
   have HD:=jq (show doneS (C0,b::T,0)=16 from rfl)
   clear hn
   go_enter func149,ntmps149
   go_wp2_with fail
   refine C.out.mono ?_
   rintro _ w0 ⟨rfl,hw0⟩
   subst w0
   go_wp2
   go_ret
   exact⟨by rw[HD.out];rfl,rfl⟩
 ·have hEi:¬ (E:Int)=0:=by omega
  have HD:=jq (show doneS (C0,B,E)=E by unfold doneS;rw[if_neg hE])
  clear hE hn
  go_enter func149,ntmps149
  go_wp2_with fail
  refine C.out.mono ?_
  rintro _ w0 ⟨rfl,hw0⟩
  subst w0
  go_wp2
  go_ret
  exact⟨by rw[HD.out];rfl,rfl⟩
theorem jqf.setErr (h:jqf w D K L R (C,B,E)) (E':Nat):jqf (w.setCell ⟨D,4,none⟩ (.int .i64 (E':Int))) D K L R (C,B,E')∧jjq D D w (w.setCell ⟨D,4,none⟩ (.int .i64 (E':Int))):=by
 obtain⟨A,n,m,hb,hr,hn,hnm,hn1,hK,hC,hB⟩:=h
 exact⟨⟨A,n,m,hb.set_ 4 _,hr.setCell hK _,hn,hnm,hn1,hK,hC,hB⟩,jjq.set_ 4 _⟩
end
section
variable {w:World} {D K L R C E:Nat} {B:List Nat} {s:Nat × List Nat × Nat}
theorem find_vals32 {L R C T:Nat} (hL:L<4294967296) (hC:C<4294967296) (hT:1≤T) (hTR:T≤R):∃ Z r q:Nat,IntKind.u32.wrap ((C:Int) - (L:Int))=(Z:Int)∧((C:Int) - (L:Int))%4294967296=(Z:Int)∧r=R/T∧1≤r∧IntKind.u32.wrap ((Z:Int)/(r:Int))=(q:Int)∧(Z:Int)/(r:Int)=(q:Int)∧q<4294967296∧q=(C+4294967296 - L)%4294967296/(R/T):=by
 have hr:1≤R/T:=(Nat.le_div_iff_mul_le (by omega)).2 (by omega)
 obtain⟨r,hrr⟩:∃ r,r=R/T:=⟨_,rfl⟩
 rw[←hrr] at hr
 rw[←hrr]
 obtain⟨Z,hZ⟩:∃ Z,Z=(C+4294967296 - L)%4294967296:=⟨_,rfl⟩
 have hlt:Z<4294967296:=by rw[hZ];exact Nat.mod_lt _ (by decide)
 have hdc2:(Z:Int)/(r:Int)=((Z/r:Nat):Int):=(Int.natCast_ediv _ _).symm
 have hle:Z/r≤Z:=Nat.div_le_self _ _
 rw[←hZ]
 obtain⟨q,hq⟩:∃ q,q=Z/r:=⟨_,rfl⟩
 rw[←hq] at hle hdc2 ⊢
 refine⟨Z,r,q,?_,?_,rfl,hr,?_,hdc2,by omega,rfl⟩
 ·rw[IntKind.wrap_u32];omega
 ·omega
 ·rw[hdc2,IntKind.wrap_u32];omega
theorem decFind_ok (T:Nat) (h:jqf w D K L R (C,B,0)) (hi:jqw L R) (hR:65536≤R) (h1:1≤T) (h2:T≤65536) :
  Calls prog 152 #[.pointer (some ⟨D,0,none⟩),.int .i64 (T:Int)] w fun e w'=>e=.returned (.int .i64 ((findS L R C T).1:Int))∧jqf w' D K L R (C,B,(findS L R C T).2)∧jjq D D w w':=by
 have C1:=jq (qzk h)
 have hR2:R<4294967296:=by obtain⟨a,b,c,d⟩:=hi;omega
 obtain⟨A,n,m,hb,hr,hn,hnm,hn1,hK,hC,hB⟩:=id h
 have C2:=jq (spStep_ok (w:=w) (g:=D) T h1 h2 hR2 (hb.cell 1))
 obtain⟨Z,r,q,e1,e2,e3,e4,e5,e6,e7,e8⟩:=find_vals32 (L:=L) (R:=R) (C:=C) (T:=T) hi.1 hC h1 (by omega)
 rw[←e3] at C2
 have hc0:=hb.cell 0
 have hc3:=hb.cell 3
 have hc4:=hb.cell 4
 have hf4:=hb.frozen 4
 simp only[jy,jx] at hc0 hc3 hc4 C1
 have HH:=jq h
 have HE:=jq e8
 have hDl:=hb.lt
 have hr0:¬ r=0:=by omega
 have hr1:¬ (r:Int)=0:=by omega
 have HWQ:=jq (show IntKind.i64.wrap (q:Int)=(q:Int)∧IntKind.u32.wrap (q:Int)=(q:Int)∧wrap64 (q:Int)=(q:Int)∧(q:Int)%4294967296=(q:Int) from ⟨by rw[IntKind.wrap_i64];omega,by rw[IntKind.wrap_u32];omega,IntWalk.wrap64_in _ (by omega),by omega⟩)
 have HE5:=jq (And.intro e1 (And.intro e2 (And.intro e5 e6)))
 clear hb hr hn hnm hn1 hK hC hB e1 e2 e3 e4 e5 e6 e7 e8 h hi hR h1 h2 hR2
 by_cases hq:T≤q
 ·have hfs:findS L R C T=(0,16):=by unfold findS;rw[←HE.out,if_pos hq]
  rw[hfs]
  have hqi:(T:Int)≤(q:Int):=by omega
  have HEND:=jq (show jqf ((w.setCell ⟨D,4,none⟩ (.int .i64 16)).drew) D K L R (C,B,16)∧jjq D D w ((w.setCell ⟨D,4,none⟩ (.int .i64 16)).drew) from ⟨(HH.out.setErr 16).1.drew_,(HH.out.setErr 16).2.drew⟩)
  clear hfs hq
  go_enter func152,ntmps152
  go_wp2_with fail
  refine C1.out.mono ?_
  rintro _ w0 ⟨rfl,hw0⟩
  subst w0
  go_wp2_with fail
  refine C2.out.mono ?_
  rintro _ w0 ⟨rfl,hw0⟩
  subst w0
  clear C1 C2
  go_wp2
  obtain⟨e1,e2,e5,e6⟩:=HE5.out
  obtain⟨hwq,hwq1,hwq3,hwq2⟩:=HWQ.out
  refine wp_region_still_lit (by kernel_rfl) (by kernel_rfl) ?_
  repeat still_step
  refine wpStill_nil ?_
  change Exit.then _ _ _ _ w.drew
  clear e1 e2 e5 e6 hwq hwq1 hwq2 hwq3 HE5 HWQ
  go_wp2
  go_ret
  exact⟨rfl,HEND.out⟩
 ·have hfs:findS L R C T=(q,0):=by unfold findS;rw[←HE.out,if_neg hq]
  rw[hfs]
  have hqi:¬ (T:Int)≤(q:Int):=by omega
  clear hfs hq
  go_enter func152,ntmps152
  go_wp2_with fail
  refine C1.out.mono ?_
  rintro _ w0 ⟨rfl,hw0⟩
  subst w0
  go_wp2_with fail
  refine C2.out.mono ?_
  rintro _ w0 ⟨rfl,hw0⟩
  subst w0
  clear C1 C2
  go_wp2
  obtain⟨e1,e2,e5,e6⟩:=HE5.out
  obtain⟨hwq,hwq1,hwq3,hwq2⟩:=HWQ.out
  refine wp_region_still_lit (by kernel_rfl) (by kernel_rfl) ?_
  repeat still_step
  refine wpStill_nil ?_
  change Exit.then _ _ _ _ w.drew
  clear e1 e2 e5 e6 hwq hwq1 hwq2 hwq3 HE5 HWQ
  go_wp2
  go_ret
  exact⟨rfl,HH.out.drew_,(jjq.refl D D w).drew⟩
theorem dec_span (hs:Soft s):SpanJ D 197 (fun o L' R' w'=>jqf w' D K L' R' (jxx o.length s)∧jjq D D w w') where
 cell0:=fun {o L' R' w'} ⟨⟨A,n,m,hb,_⟩,_⟩=>hb.cell 0
 cell1:=fun {o L' R' w'} ⟨⟨A,n,m,hb,_⟩,_⟩=>hb.cell 1
 frozen0:=fun {o L' R' w'} ⟨⟨A,n,m,hb,_⟩,_⟩=>hb.frozen 0
 frozen1:=fun {o L' R' w'} ⟨⟨A,n,m,hb,_⟩,_⟩=>hb.frozen 1
 set0:=fun {o L' R' w'} L2 ⟨⟨A,n,m,hb,hr,hn,hnm,hn1,hK,hC,hB⟩,ht⟩=>⟨⟨A,n,m,hb.set_ 0 _,hr.setCell hK _,hn,hnm,hn1,hK,hC,hB⟩,ht.trans (jjq.set_ 0 _)⟩
 set1:=fun {o L' R' w'} L2 ⟨⟨A,n,m,hb,hr,hn,hnm,hn1,hK,hC,hB⟩,ht⟩=>⟨⟨A,n,m,hb.set_ 1 _,hr.setCell hK _,hn,hnm,hn1,hK,hC,hB⟩,ht.trans (jjq.set_ 1 _)⟩
 drew:=fun {o L' R' w'} ⟨h,ht⟩=>⟨h.drew_,ht.drew⟩
 move:=fun {o L' R' w'} ⟨h2,ht2⟩ _ _=>(decNext_any h2 (qxw o.length hs)).mono fun e w2 ⟨h3,h4,h5⟩=>⟨h3,by rw[List.length_append,List.length_singleton,qxv];exact h4,ht2.trans h5⟩
theorem decTake_ok {low size total A' B':Nat} {o:List Nat} (h:jqf w D K L R (C,B,0)) (hi:jqw L R) (hR:65536≤R) (h1:1≤size) (h2:low+size≤total) (h3:total≤65536) (hm:jvc (L+low*(R/total)) (size*(R/total)) o A' B') :
  Calls prog 153 #[.pointer (some ⟨D,0,none⟩),.int .i64 (low:Int),.int .i64 (size:Int),.int .i64 (total:Int)] w fun e w'=>e=.returned (.int .i64 ((jxx o.length (C,B,0)).2.2:Int))∧jqf w' D K A' B' (jxx o.length (C,B,0))∧jjq D D w w':=by
 have hR2:R<4294967296:=by obtain⟨a,b,c,d⟩:=hi;omega
 have C1:=jq (qzk h)
 have D1:=jq (qgd (w:=w) (dec_span (D:=D) (K:=K) (w:=w) (s:=(C,B,0)) (.inl rfl)) (enters_of func197 (by kernel_rfl) rfl) ⟨h,jjq.refl _ _ _⟩ hi hR h1 h2 h3 hm)
 obtain⟨A,n,m,hb,-⟩:=h
 have C2:=jq (spMay_any (w:=w) (g:=D) (low:Int) (size:Int) (total:Int) (by omega) hR hR2 (hb.cell 1))
 rw[mayP_iff.2 ⟨h1,h2,h3⟩] at C2
 have hc4:=hb.cell 4
 simp only[jy,jx] at hc4 C1
 obtain⟨s2,hs2⟩:∃ s2,s2=jxx o.length (C,B,0):=⟨_,rfl⟩
 rw[←hs2] at D1 ⊢
 have hDl:=hb.lt
 clear hb hm hR hR2 hi h1 h2 h3 hs2
 go_enter func153,ntmps153
 go_wp2_with fail
 refine C1.out.mono ?_
 rintro _ w0 ⟨rfl,hw0⟩
 subst w0
 go_wp2_with fail
 refine C2.out.mono ?_
 rintro _ w0 ⟨rfl,hw0⟩
 subst w0
 go_wp2_with fail
 refine D1.out.mono ?_
 rintro _ w2 ⟨rfl,hd,ht⟩
 have hc2:w2.cell? ⟨D,4,none⟩=some (.int .i64 (s2.2.2:Int)):=by
  obtain⟨A2,n2,m2,hb2,-⟩:=hd
  exact hb2.cell 4
 have hDl2:=hd.lt
 have H:=jq (And.intro hd ht)
 clear hd ht C1 C2 D1 hc4
 go_wp2
 go_ret
 exact⟨rfl,H.out⟩
theorem decRead_any {A:Option Addr} {n m:Nat} (l:List UInt8) (hr:Rd w w.heap.size A (bvs l)) (hn:l.length=n) (hn1:n≤1000000) :
  Calls prog 147 #[.slice A n m] w fun e w'=>∃ D,e=.returned (.pointer (some ⟨D,0,none⟩))∧w.heap.size≤D∧jqf w' D D 0 4294967295 (jxx 4 (0,l.map UInt8.toNat,0))∧Below w.heap.size w w':=by
 have C1:=jq (rcFirst_any w)
 have C2:=jq (fun (W:World) (h:Below w.heap.size w W)=>qwr A n m l W ((hr.below h).more h.size) hn (by omega))
 have HN:=jq hn
 have HN1:=jq hn1
 clear hr hn hn1
 go_enter func147,ntmps147
 go_wp2_with fail
 refine C1.out.mono ?_
 rintro _ w1 ⟨rfl,hb1⟩
 have HB1:=jq hb1
 clear hb1
 go_wp2_with fail
 refine (C2.out w1 HB1.out).mono ?_
 rintro _ w2 ⟨v,rfl,hown,hb2⟩
 obtain⟨A2,c2,rfl,hc2,-,-⟩:=jjk hown
 have HB2:=jq (HB1.out.trans (hb2.mono HB1.out.size))
 have h0:jqf (w2.alloc (.cells #[.int .u32 0,.int .u32 4294967295,.slice A2 l.length c2,.int .u32 0,.int .i64 0] 243)) w2.heap.size w2.heap.size 0 4294967295 (jxx 0 (0,l.map UInt8.toNat,0)):=by
  refine⟨A2,l.length,c2,heap_alloc_new w2 _,?_,by simp[jxx],hc2,by have:=HN.out;have:=HN1.out;omega,Nat.le_refl _,Nat.zero_lt_succ _,?_⟩
  ·show Rd _ _ _ (nvs (l.map UInt8.toNat))
   rw[nvs_bvs]
   exact (Rd.of_own hown).alloc jw _
  ·intro b hb
   obtain⟨c,-,rfl⟩:=List.mem_map.1 hb
   exact c.toNat_lt
 have hbw:Below w.heap.size w (w2.alloc (.cells #[.int .u32 0,.int .u32 4294967295,.slice A2 l.length c2,.int .u32 0,.int .i64 0] 243)):=HB2.out.alloc HB2.out.size _
 obtain⟨D,hD⟩:∃ D,D=w2.heap.size:=⟨_,rfl⟩
 obtain⟨w3,hw3⟩:∃ w3,w3=w2.alloc (.cells #[.int .u32 0,.int .u32 4294967295,.slice A2 l.length c2,.int .u32 0,.int .i64 0] 243):=⟨_,rfl⟩
 rw[←hw3,←hD] at h0
 rw[←hw3] at hbw
 have H0:=jq h0
 have HBW:=jq hbw
 have HW:=jq hw3
 have HD:=jq hD
 have HDS:=jq (show w.heap.size≤D by rw[hD];exact HB2.out.size)
 clear h0 hbw hw3 hD hown hb2 hc2 C1 C2
 go_wp2
 simp only[←HW.out,←HD.out]
 go_loopw [9] (fun i wr=>∃ k:Nat,k≤4∧i=.int .i64 (k:Int)∧jqf wr D D 0 4294967295 (jxx k (0,l.map UInt8.toNat,0))∧Below w.heap.size w wr) (fun i _=>4 - (intOf i).toNat)
 case atStart=>exact⟨0,by decide,rfl,H0.out,HBW.out⟩
 case round =>
  clear H0 HBW
  obtain⟨k,hk,rfl,hd,hb⟩:=hrel
  by_cases hlt:k<4
  ·have C3:=jq (decNext_any hd (qxw k (.inl rfl)))
   have HB:=jq hb
   have hki:(k:Int)<4:=by omega
   clear hd hb
   go_wp2_with fail
   refine C3.out.mono ?_
   rintro _ w4 ⟨rfl,hd2,ht2⟩
   have HD2:=jq (show jqf w4 D D 0 4294967295 (jxx (k+1) (0,l.map UInt8.toNat,0)) by rw[qxv];exact hd2)
   have HB2:=jq (HB.out.trans (ht2.below (B:=w.heap.size) HDS.out HDS.out HB.out.size))
   clear hd2 ht2 C3 HB
   go_wp2
   go_roundw
   case rel=>exact⟨k+1,by omega,by go_num,HD2.out,HB2.out⟩
   case measure=>simp[intOf];omega
  ·obtain rfl:k=4:=by omega
   have HE:=jq (And.intro hd hb)
   clear hd hb
   go_wp2
   go_ret
   exact⟨D,rfl,HDS.out,HE.out⟩
end
end
end Go.Proofs.YtflcmmeoppdhdaaGreatDoor
