/- The whole, stage 17: bytes by any recipe and any mode come back (D1). -/
import Derived.Test.YtflcmmeoppdhdaaGreatDoorQ35
import Derived.Test.YtflcmmeoppdhdaaGreatDoorQ40
set_option maxHeartbeats 2000000
set_option maxRecDepth 100000
namespace Go.Proofs.YtflcmmeoppdhdaaGreatDoor
open Tryz
section
open Go.RowKit Go.Sort Go.Shelf
theorem qkh (l:List UInt8) (v:Value) (w:World) (h:jjz l v w):(convert 22 9 v).run prog w=.ok (.string ⟨l.toArray⟩) w:=by
 obtain⟨A,c,rfl,hc,hr⟩:=h
 exact run_str w 22 9 5 underlying22 underlying5 underlying9 _ A l c hr _ rfl
theorem qgg (w:World) (ht:TabA w):Calls prog 4 #[] w (Yes w):=by
 have C1:=jq (fun (v:Value) (w':World) (h:jjz [1,2,4] v w') (ht:TabA w')=>go_right (W:=1) (.inl rfl) 1 (by decide) [1,2,4] v w' h (by decide) ht)
 have HG:=jq (fun (m:List UInt8) (h:goR 1 (jjr 1) [1,2,4] m)=>And.intro (backC_go (W:=1) (.inl rfl) 1 [1,2,4] m (by decide) h) (qvm (keep_all 1 (by decide)) h))
 have hba:Below w.heap.size w (w.alloc (.cells #[.int .u8 1,.int .u8 2,.int .u8 4] 5)):=(Below.refl _ _).alloc jw _
 have hk:jjz [1,2,4] (.slice (some ⟨w.heap.size,0,none⟩) 3 3) (w.alloc (.cells #[.int .u8 1,.int .u8 2,.int .u8 4] 5)):=⟨_,3,rfl,by decide,Rd.new w _ _⟩
 have C2:=jq (C1.out _ _ hk (ht.grow hba))
 have HT:=jq (ht.grow hba)
 have HB:=jq hba
 clear hk hba ht C1
 go_enter func4,ntmps4
 go_wp2_with fail
 refine C2.out.mono ?_
 rintro e w1 ⟨mid,v1,hgo,rfl,hv1,hb1⟩
 obtain⟨hback,hlen⟩:=HG.out mid hgo
 have hl3:mid.length=3:=hlen
 obtain⟨Q,hQ⟩:=qkk ((1:Nat):Int) mid
 have hQ2:ModeQ 1 1 mid Q:=hQ
 have hq1:1≤Q.length:=by
  have:=leastM_le (k:=1) (V:=1) (.inl rfl) hQ2
  rw[hl3] at this
  exact this
 have C3:=jq (modesCode_q (k:=1) (V:=1) (by decide) (.inl rfl) hQ2 (by omega) hv1)
 have C4:=jq (fun (v:Value) (W':World) (h:jjz Q v W')=>qkj (k:=1) (V:=1) (by decide) (.inl rfl) hQ2 (by omega) h)
 have C5:=jq (fun (v:Value) (W':World) (h:jjz mid v W')=>back_right (W:=1) (.inl rfl) 1 (by decide) 3 (by decide) mid v W' h (.inl ⟨by omega,by omega⟩))
 have HBK:=jq (show backC 1 1 3 mid=some [1,2,4] from hback)
 obtain⟨A1,c1,rfl,-,-⟩:=hv1
 have HB1:=jq (HB.out.trans (hb1.mono HB.out.size))
 rw[hl3] at C3 C4 ⊢
 have HQ1:=jq hq1
 clear hgo hback hlen hl3 hQ hQ2 hq1 hb1 C2 HG HB HT
 go_wp2_with fail
 refine C3.out.mono ?_
 rintro e w2 ⟨v2,rfl,hv2,hb2⟩
 have C6:=jq (C4.out _ _ hv2)
 obtain⟨A2,c2,rfl,-,-⟩:=hv2
 have HB2:=jq (HB1.out.trans (hb2.mono HB1.out.size))
 have hpos:(0:Int)<(Q.length:Int):=by have:=HQ1.out;omega
 obtain⟨N,hN⟩:∃ N,N=Q.length:=⟨_,rfl⟩
 rw[←hN] at C6 hpos ⊢
 clear hb2 C3 C4 HB1 hN
 go_wp2_with fail
 refine C6.out.mono ?_
 rintro e w3 ⟨v3,rfl,hv3,hb3⟩
 have c7:=C5.out _ _ hv3
 rw[HBK.out] at c7
 have C7:=jq c7
 have HB3:=jq (HB2.out.trans (hb3.mono HB2.out.size))
 clear hv3 hb3 c7 C5 C6 HB2
 go_wp2_with fail
 refine C7.out.mono ?_
 rintro e w4 ⟨A4,n4,c4,rfl,hb4,h4⟩
 have HB4:=jq (HB3.out.trans (hb4.mono HB3.out.size))
 have hs4:=qkh _ _ _ h4
 have hen:errN (some [1,2,4])=0:=rfl
 rw[hen]
 clear hb4 hen h4
 go_wp2
 go_ret
 exact⟨rfl,HB4.out⟩
theorem topPressed_core {V k n:Nat} (hV:IsW V) (hk:k≤5) (hn:n≤10) (A:Option Addr) (c:Nat) (l:List UInt8) (u a b:Nat) (w:World) (hr:Rd w w.heap.size A (bvs l)) (hnc:l.length≤c) (hs:l.length≤300) (ht:TabA w) (hw:wrap64 (2^(u%4))=(V:Int)) (ha:n=a%11) (hb:k=b%6) :
  Calls prog 3 #[.slice A l.length c,.int .u8 (u:Int),.int .u8 (a:Int),.int .u8 (b:Int)] w (Yes w):=by
 have hni:(a:Int)%11=(n:Int):=by omega
 have hki:(b:Int)%6=(k:Int):=by omega
 have h300:¬ (300:Int)<(l.length:Int):=by omega
 have hv0:jjz l (.slice A l.length c) w:=⟨A,c,rfl,hnc,hr⟩
 have C1:=jq (go_right hV n hn l _ w hv0 (by omega) ht)
 have HG:=jq (fun (m:List UInt8) (h:goR V (jjr n) l m)=>And.intro (backC_go hV n l m (by omega) h) (goR_few hV (jjr n) l m (qqr n) (steps_drop n) h))
 have C5:=jq (fun (m:List UInt8) (v:Value) (w':World) (h:jjz m v w') (hm:m.length≤3*l.length+64)=>back_right hV n hn l.length (by omega) m v w' h (.inl ⟨by omega,by omega⟩))
 have HP:=jq (And.intro hV (And.intro hk hs))
 have HT:=jq ht
 have HL:=jq hv0
 clear hr ht hV hn hk ha hb hv0 hs
 go_enter func3,ntmps3
 go_wp2_with fail
 refine C1.out.mono ?_
 rintro e w1 ⟨mid,v1,hgo,rfl,hv1,hb1⟩
 obtain⟨hback,hfew⟩:=HG.out mid hgo
 obtain⟨hV,hk,hs⟩:=HP.out
 have hm:mid.length≤1000:=by omega
 obtain⟨A1,c1,rfl,-,hr1⟩:=id hv1
 obtain⟨Q,hQ⟩:=modeQ_some k (V:=V) mid hm hr1
 have C3:=jq (modesCode_q hk hV hQ hm hv1)
 have C4:=jq (fun (v:Value) (W':World) (h:jjz Q v W')=>qkj hk hV hQ hm h)
 have C6:=jq (fun (v:Value) (W':World) (h:jjz mid v W')=>C5.out mid v W' h hfew)
 have HBK:=jq hback
 have HB1:=jq hb1
 have HV1:=jq hv1
 have HT1:=jq (HT.out.grow hb1)
 have HL1:=jq (HL.out.grow hb1)
 have hmi:(mid.length:Int)≤1000:=by omega
 clear hgo hback hfew hQ hb1 hr1 hv1 C1 C5 HG HP hV hk hs hm HT HL
 go_wp2_with fail
 refine C3.out.mono ?_
 rintro e w2 ⟨v2,rfl,hv2,hb2⟩
 have C7:=jq (C4.out _ _ hv2)
 have HB2:=jq (HB1.out.trans (hb2.mono HB1.out.size))
 have HV2:=jq (HV1.out.grow hb2)
 have HT2:=jq (HT1.out.grow hb2)
 have HL2:=jq (HL1.out.grow hb2)
 clear hv2 hb2 C3 C4 HB1 HV1 HT1 HL1
 go_wp2_with fail
 refine C7.out.mono ?_
 rintro e w3 ⟨v3,rfl,hv3,hb3⟩
 have c8:=C6.out _ _ hv3
 rw[HBK.out] at c8
 have C8:=jq c8
 have HX3:=jq hv3
 have HB3:=jq (HB2.out.trans (hb3.mono HB2.out.size))
 have HV3:=jq (HV2.out.grow hb3)
 have HT3:=jq (HT2.out.grow hb3)
 have HL3:=jq (HL2.out.grow hb3)
 clear hv3 hb3 c8 C6 C7 HB2 HV2 HT2 HL2
 go_wp2_with fail
 refine C8.out.mono ?_
 rintro e w4 ⟨A4,n4,c4,rfl,hb4,h4⟩
 have HB4:=jq (HB3.out.trans (hb4.mono HB3.out.size))
 have CK:=jq (qgg w4 (HT3.out.grow hb4))
 have hs1:=qkh _ _ _ (HX3.out.grow hb4)
 have hs2:=qkh _ _ _ (HV3.out.grow hb4)
 have hs3:=qkh _ _ _ h4
 have hs4:=qkh _ _ _ (HL3.out.grow hb4)
 have hen:errN (some l)=0:=rfl
 rw[hen]
 rw[show (some l).getD []=l from rfl] at hs3
 obtain⟨S,hS⟩:∃ S:ByteArray,S=⟨l.toArray⟩:=⟨_,rfl⟩
 obtain⟨R,hR⟩:∃ R:ByteArray,R=⟨mid.toArray⟩:=⟨_,rfl⟩
 rw[←hS] at hs3 hs4
 rw[←hR] at hs1 hs2
 clear hb4 hen h4 hS hR C8 HB3 HV3 HT3 HL3 HX3
 go_wp2_with fail
 refine CK.out.mono ?_
 rintro e w5 ⟨rfl,hb5⟩
 have HB5:=jq (HB4.out.trans (hb5.mono HB4.out.size))
 clear hb5 hs1 hs2 hs3 hs4
 go_wp2
 go_ret
 exact⟨rfl,HB5.out⟩
theorem topPressed_law (A:Option Addr) (L c:Nat) (l:List UInt8) (u a b:Nat) (w:World) (hr:Rd w w.heap.size A (bvs l)) (hL:l.length=L) (hLc:L≤c) (ht:TabA w) :
  Calls prog 3 #[.slice A L c,.int .u8 (u:Int),.int .u8 (a:Int),.int .u8 (b:Int)] w (Yes w):=by
 subst hL
 by_cases h300:300<l.length
 ·have h2:(300:Int)<(l.length:Int):=by omega
  have CK:=jq (qgg w ht)
  clear hr ht
  go_enter func3,ntmps3
  go_wp2_with fail
  refine CK.out.mono ?_
  rintro e w' ⟨rfl,hb⟩
  go_wp2
  go_ret
  exact⟨rfl,hb⟩
 ·obtain⟨V,hV,hw⟩:=width_of u
  exact topPressed_core hV (k:=b%6) (n:=a%11) (by omega) (by omega) A c l u a b w hr hLc (by omega) ht hw rfl rfl
end
end Go.Proofs.YtflcmmeoppdhdaaGreatDoor
