/- Layer 26: a byte, laid bit by bit. · Layer 26: coding by how often each letter was seen; a byte, laid as a letter. · Layer 26: what is coded by a way; Code, Adapt. · Layer 26: Code and Adapt. · Layer .. -/
import Derived.Test.YtflcmmeoppdhdaaGreatDoorQ30
import Derived.Test.YtflcmmeoppdhdaaGreatDoorQ37
set_option maxHeartbeats 8000000
set_option maxRecDepth 100000
namespace Go.Proofs.YtflcmmeoppdhdaaGreatDoor
open Tryz
section
open Go.RowKit Go.Sort
theorem and1_i64 (n:Nat) (h:n≤9223372036854775807):bits .and .i64 (n:Int) 1=((n%2:Nat):Int):=by
 have e1:(BitVec.ofInt 64 (n:Int)).toNat=n:=by simp;omega
 have e2:(BitVec.ofInt 64 1).toNat=1:=by decide
 have e:bits .and .i64 (n:Int) 1=IntKind.i64.wrap ((((BitVec.ofInt 64 (n:Int)).toNat &&& (BitVec.ofInt 64 1).toNat:Nat)):Int):=by
  rw[←BitVec.toNat_and]
  rfl
 rw[e,e1,e2,Nat.and_one_is_mod,IntKind.wrap_i64]
 omega
theorem bit_high {c k:Nat} (hc:c<256):bits .and .i64 ((c:Int)/2^(7 - k)) 1=((bitD c k:Nat):Int):=by
 have e:(c:Int)/2^(7 - k)=((c/2^(7 - k):Nat):Int):=by simp
 have h:=Nat.div_le_self c (2^(7 - k))
 rw[e]
 unfold bitD
 exact and1_i64 _ (by omega)
structure LayRelBl (w wr:World) (B Bm E:Nat) (a:ModA) (s:ModD) (ps:List jqd) (c k:Nat) (L R:Nat) (o:List Nat):Prop where
 at_:jvs Bm a (runK s c k) wr
 e:jwd wr E L R o
 enc:Enc (ps++qjv s c k) L R o
 below:Below B w wr
 size:w.heap.size≤wr.heap.size
theorem layBits1_any {w:World} {B Bm E L R c:Nat} {a:ModA} {s:ModD} {ps:List jqd} {o:List Nat} (hlo:∀ k∈a.every,B≤k) (hc:c<256) (hat:jvs Bm a s w) (he:jwd w E L R o) (hBE:B≤E) (hen:Enc ps L R o) (hps:∀ p∈ps,p.ok) (hpl:ps.length≤10000) :
  Calls prog 154 #[.pointer (some ⟨E,0,none⟩),.int .u8 (c:Int),.pointer (some ⟨Bm,0,none⟩)] w fun e w'=>e=.returned (.tuple #[])∧∃ L' R' o',jvs Bm a (runK s c 8) w'∧jwd w' E L' R' o'∧Enc (ps++qjv s c 8) L' R' o'∧Below B w w':=by
 have HLO:=jq hlo
 have HPS:=jq hps
 have HPL:=jq hpl
 have HBE:=jq hBE
 have H0:=jq (⟨hat,he,by simpa [qjv] using hen,Below.refl _ _,Nat.le_refl _⟩:LayRelBl w w B Bm E a s ps c 0 L R o)
 clear hlo hat he hBE hen hps hpl
 go_enter func154,ntmps154
 go_wp2
 go_loopw [7] (fun i wr=>∃ (k L R:Nat) (o:List Nat),k≤8∧i=.int .i64 (k:Int)∧LayRelBl w wr B Bm E a s ps c k L R o) (fun i _=>8 - (intOf i).toNat)
 case atStart=>exact⟨0,L,R,o,Nat.zero_le _,rfl,H0.out⟩
 case round =>
  clear H0
  obtain⟨k,L,R,o,hk,rfl,hrel⟩:=hrel
  have HR:=jq hrel
  have hbox:=hrel.at_.box.cell
  clear hrel
  by_cases hlt:k<8
  ·have hki:(k:Int)<8:=by omega
   have hb2:=bitD_lt c k
   obtain⟨b,hb⟩:∃ b,b=bitD c k:=⟨_,rfl⟩
   rw[←hb] at hb2
   have HBIT:=jq (bit_high (k:=k) hc)
   rw[←hb] at HBIT
   have CP:=jq (modP_any HR.out.at_.m)
   have CQ:=jq (fun W=>part_any (runK s c k) b W)
   have hok:=bitP_ok (runK s c k) b
   have hpk:∀ p∈ps++qjv s c k,p.ok:=fun p hp=>by
    rcases List.mem_append.1 hp with hp | hp
    ·exact HPS.out p hp
    ·exact bitsP_ok s c k p hp
   have hins:=HR.out.enc.inside hpk
   have hol:o.length≤90000:=by
    have h1:=hins.2.2.2
    rw[List.length_append,qwl] at h1
    have:=HPL.out
    omega
   obtain⟨o2,L',R',hm,hen2⟩:=HR.out.enc.more hpk hok
   have hbs:=bitsP_snoc s c k
   rw[←hb] at hbs
   rw[List.append_assoc,←hbs] at hen2
   have hseen:runK s c (k+1)=(runK s c k).seen (b:Int):=by rw[hb];rfl
   have CE:=jq (fun (W:World) (h:jwd W E L R o)=>encPut_ok h hol hins.1 hins.2.1 hok.1 hok.2.1 hok.2.2 hm)
   have HEN:=jq hen2
   have HSEEN:=jq hseen
   clear hok hpk hins hol hm hen2 hbs hseen hb
   obtain⟨⟨lo,sz,tot⟩,hp⟩:∃ p,p=bitP (runK s c k) b:=⟨_,rfl⟩
   rw[←hp] at CQ CE
   dsimp only at CQ CE
   obtain⟨p,hpp⟩:∃ p,p=(runK s c k).chance:=⟨_,rfl⟩
   rw[←hpp] at CP CQ
   clear hp hpp
   go_wp2_with fail
   rw[HBIT.out]
   refine CP.out.mono ?_
   rintro e w1 ⟨rfl,hb1⟩
   have HE1:=jq (HR.out.e.below hb1)
   have HA1:=jq (HR.out.at_.grow hb1)
   have HB1:=jq hb1
   clear hbox hb1 CP
   go_wp2_with fail
   refine (CQ.out _).mono ?_
   rintro e w' ⟨rfl,hw⟩
   obtain rfl:_=w':=hw.symm
   go_wp2_with fail
   refine (CE.out _ HE1.out).mono ?_
   rintro e w2 ⟨rfl,he2,hu2⟩
   have ha2:=HA1.out.onlyT hu2 (by decide) (by decide) (by decide) (by decide) (by decide)
   have hbox:=ha2.box.cell
   have CS:=jq (qxl (b:Int) ha2.m)
   have HU2:=jq ((jjj.of_below HB1.out).trans hu2)
   have HE2:=jq he2
   have HA2:=jq ha2
   clear he2 hu2 ha2 CQ CE HE1 HA1 HB1
   go_wp2_with fail
   refine CS.out.mono ?_
   rintro e w3 ⟨⟨u,rfl⟩,hm3,hu3⟩
   have ht3:=HA2.out.m.turned hu3 HLO.out
   have hb23:Below B wr w3:=((HU2.out.base HBE.out).below (Nat.le_trans HBE.out (Nat.le_of_lt HR.out.e.lt))).trans (ht3.below (Nat.le_trans HBE.out (Nat.le_of_lt HE2.out.lt)))
   have HN:=jq (⟨by rw[HSEEN.out];exact HA2.out.next hm3 ht3,HE2.out.only ht3 (by decide) (by decide),HEN.out,HR.out.below.trans hb23,Nat.le_trans HR.out.size hb23.size⟩:LayRelBl w w3 B Bm E a s ps c (k+1) L' R' (o++o2))
   clear hm3 hu3 ht3 hb23 hbox CS HU2 HE2 HA2
   go_wp2
   go_roundw
   case rel=>exact⟨k+1,L',R',o++o2,by omega,by go_num,HN.out⟩
   case measure=>simp[intOf];omega
  ·obtain rfl:k=8:=by omega
   go_wp2
   refine bodyPost_end (results_none rfl _ _ _) rfl ?_
   exact⟨rfl,L,R,o,HR.out.at_,HR.out.e,HR.out.enc,HR.out.below⟩
theorem fHalf_sum2:∀ (c:List Int),2*(jqc c).sum≤c.sum+c.length
 | []=>by simp[jqc]
 | x::c=>by
  have h:=fHalf_sum2 c
  have e:jqc (x::c)=(x+1)/2::jqc c:=rfl
  rw[e,List.sum_cons,List.sum_cons,List.length_cons]
  omega
def shrF (c:List Int):List Int:=if c.sum≤16384 then c else jqc c
def qbk (c:List Int) (k:Nat):List Int:=shrF (c.set k (c.getD k 0+24))
def InvF (c:List Int):Prop:=Ones 256 c∧c.sum≤16384
theorem shrunk_shrF {c:List Int} (h:Ones 256 c) (hs:c.sum≤16408):jdq 16384 c (shrF c):=by
 unfold shrF
 by_cases hc:c.sum≤16384
 ·rw[if_pos hc];exact .stop c hc
 ·rw[if_neg hc]
  have h2:=fHalf_sum2 c
  have h3:=h.1
  exact .more c _ (by omega) (.stop _ (by omega))
theorem getD_at {c:List Int} {k:Nat} (hk:k<c.length):c.getD k 0=c[k]:=by
 rw[List.getD_eq_getElem?_getD,List.getElem?_eq_getElem hk,Option.getD_some]
theorem qyr {c:List Int} {k:Nat} (h:InvF c) (hk:k<256):jdq 16384 (c.set k (c.getD k 0+24)) (qbk c k)∧InvF (qbk c k):=by
 have hk':k<c.length:=by rw[h.1.1];exact hk
 have ho:Ones 256 (c.set k (c.getD k 0+24)):=by rw[getD_at hk'];exact h.1.set hk' (by decide)
 have hs:(c.set k (c.getD k 0+24)).sum≤16408:=by
  rw[getD_at hk',set_sum c k hk' 24]
  have:=h.2
  omega
 have hsh:=shrunk_shrF ho hs
 exact⟨hsh,hsh.ones ho⟩
def letP (c:List Int) (k:Nat):jqd:=⟨(fPre c k).toNat,(c.getD k 0).toNat,c.sum.toNat⟩
theorem letP_vals {c:List Int} {k:Nat} (h:InvF c) (hk:k<256):((letP c k).low:Int)=fPre c k∧((letP c k).size:Int)=c.getD k 0∧((letP c k).total:Int)=c.sum∧0≤fPre c k∧1≤c.getD k 0∧fPre c k+c.getD k 0≤c.sum∧fPre c (k+1)=fPre c k+c.getD k 0:=by
 have hk':k<c.length:=by rw[h.1.1];exact hk
 have nn:∀ x∈c,0≤x:=fun x hx=>Int.le_trans (by decide) (h.1.2 x hx)
 have h1:=h.1.2 _ (List.getElem_mem hk')
 have h2:=jqm c k hk'
 have h3:=jwp nn (k+1)
 have h4:=jvd nn k
 rw[←getD_at hk'] at h1 h2
 unfold letP
 dsimp only
 exact⟨by omega,by omega,by omega,by omega,by omega,by omega,by omega⟩
theorem letP_ok {c:List Int} {k:Nat} (h:InvF c) (hk:k<256):(letP c k).ok:=by
 obtain⟨h1,h2,h3,h4,h5,h6,-⟩:=letP_vals h hk
 have:=h.2
 unfold jqd.ok
 omega
def letWay:Way (List Int) where
 parts c k:=[letP c k]
 next:=qbk
 inv:=InvF
 keeps h hk:=(qyr h hk).2
 oks h hk p hp:=by rw[List.mem_singleton.1 hp];exact letP_ok h hk
 few _ _:=by simp
def noneF:List Int:=List.replicate 256 1
theorem ones_sum (n:Nat):(List.replicate n (1:Int)).sum=n:=by simp
theorem noneF_inv:InvF noneF:=⟨ones_rep 256,by have h:=ones_sum 256;unfold noneF;rw[h];decide⟩
structure qjx (Bm F T S:Nat) (c:List Int) (w:World):Prop where
 box:Boxed w Bm 142 (.pointer (some ⟨F,0,none⟩))
 f:jzw w F T S c 24 16384
section
variable {w w':World} {B Bm F T S:Nat} {ts:List TypeId} {c c':List Int}
theorem qjx.onlyT (h:qjx Bm F T S c w) (ho:jjj B ts w w') (h0:142∉ts) (h1:238∉ts) (h2:262∉ts) (h3:3∉ts):qjx Bm F T S c w' :=
 ⟨Blk.only (cs:=[_]) h.box ho h0,h.f.onlyT ho h1 h2 h3⟩
theorem qjx.grow (h:qjx Bm F T S c w) (hb:Below w.heap.size w w'):qjx Bm F T S c w':=h.onlyT (B:=0) (ts:=[]) (jjj.of_below hb) List.not_mem_nil List.not_mem_nil List.not_mem_nil List.not_mem_nil
theorem qjx.next (h:qjx Bm F T S c w) (hm:jzw w' F T S c' 24 16384) (ho:jjj B frqT w w'):qjx Bm F T S c' w':=⟨Blk.only (cs:=[_]) h.box ho (by decide),hm⟩
theorem letSeen_any {k:Nat} (h:jzw w F T S c 24 16384) (hi:InvF c) (hk:k<256) :
  Calls prog 145 #[.pointer (some ⟨F,0,none⟩),.int .i64 (k:Int)] w fun e w'=>e=.returned (.int .i64 0)∧jzw w' F T S (qbk c k) 24 16384∧jjq T S w w':=by
 have hl:=hi.1.1
 have hk':k<c.length:=by rw[hl];exact hk
 refine (freqSeen_any k h (by rw[hl];exact hi.1) hk' (by decide) (by have:=hi.2;omega) (by rw[hl];decide)).mono ?_
 rintro e w' ⟨h1,⟨r,h2,h3⟩,h4⟩
 have h5:=(qyr hi hk).1
 rw[getD_at hk'] at h5
 exact⟨h1,h5.one h2 ▸ h3,h4⟩
end
theorem layLetter1_any {w:World} {B Bm F T S E L R k:Nat} {c:List Int} {ps:List jqd} {o:List Nat} (hlo:B≤T∧B≤S) (hi:InvF c) (hk:k<256) (hat:qjx Bm F T S c w) (he:jwd w E L R o) (hBE:B≤E) (hen:Enc ps L R o) (hps:∀ p∈ps,p.ok) (hpl:ps.length≤10000) :
  Calls prog 141 #[.pointer (some ⟨E,0,none⟩),.int .u8 (k:Int),.pointer (some ⟨Bm,0,none⟩)] w fun e w'=>e=.returned (.tuple #[])∧∃ L' R' o',qjx Bm F T S (qbk c k) w'∧jwd w' E L' R' o'∧Enc (ps++[letP c k]) L' R' o'∧Below B w w':=by
 have hk':k<c.length:=by rw[hi.1.1];exact hk
 have CO:=jq (freqOf_at k hat.f hk')
 have hok:=letP_ok hi hk
 obtain⟨v1,v2,v3,-⟩:=letP_vals hi hk
 have hins:=hen.inside hps
 have hol:o.length≤90000:=by have:=hins.2.2.2;omega
 obtain⟨o2,L',R',hm,hen2⟩:=hen.more hps hok
 have CE:=jq (fun (W:World) (h:jwd W E L R o)=>encPut_ok h hol hins.1 hins.2.1 hok.1 hok.2.1 hok.2.2 hm)
 rw[←getD_at hk',←v1,←v2] at CO
 have HEN:=jq hen2
 have HI:=jq hi
 have HA:=jq hat
 have HE:=jq he
 have HV:=jq v3
 have HLO:=jq hlo
 have HBE:=jq hBE
 have hbox:=hat.box.cell
 have kw:IntKind.i64.wrap (k:Int)=(k:Int):=by rw[IntKind.wrap_i64];omega
 clear v1 v2 v3 hok hins hol hm hen2 hps hpl hi hat he hen hk' hlo hBE
 obtain⟨⟨lo,sz,tot⟩,hp⟩:∃ p,p=letP c k:=⟨_,rfl⟩
 rw[←hp] at CO CE HV
 dsimp only at CO CE HV
 clear hp
 go_enter func141,ntmps141
 go_wp2_with fail
 refine CO.out.mono ?_
 rintro e w1 ⟨rfl,hb1⟩
 have ha1:=HA.out.grow hb1
 have HA1:=jq ha1
 have HE1:=jq (HE.out.below hb1)
 have HB1:=jq hb1
 have CT:=jgv ha1.f
 rw[←HV.out] at CT
 have CT1:=jq CT
 have hbox:=ha1.box.cell
 clear hb1 ha1 CO CT
 go_wp2_with fail
 refine CT1.out.mono ?_
 rintro e w' ⟨rfl,hw⟩
 obtain rfl:_=w':=hw.symm
 go_wp2_with fail
 refine (CE.out _ HE1.out).mono ?_
 rintro e w2 ⟨rfl,he2,hu2⟩
 have ha2:=HA1.out.onlyT hu2 (by decide) (by decide) (by decide) (by decide)
 have hbox:=ha2.box.cell
 have CS:=jq (letSeen_any ha2.f HI.out hk)
 have HU2:=jq ((jjj.of_below HB1.out).trans hu2)
 have HE2:=jq he2
 have HA2:=jq ha2
 clear he2 hu2 ha2 CE CT1 HE1 HA1 HB1
 go_wp2_with fail
 refine CS.out.mono ?_
 rintro e w3 ⟨rfl,hm3,hu3⟩
 have ht3:=HA2.out.f.turned hu3 HLO.out
 have hb23:Below B w w3:=((HU2.out.base HBE.out).below (Nat.le_trans HBE.out (Nat.le_of_lt HE.out.lt))).trans (ht3.below (Nat.le_trans HBE.out (Nat.le_of_lt HE2.out.lt)))
 have HN:=jq (And.intro (HA2.out.next hm3 ht3) (And.intro (HE2.out.only ht3 (by decide) (by decide)) hb23))
 clear hm3 hu3 ht3 hb23 hbox CS HU2 HE2 HA2
 go_wp2
 refine bodyPost_end (results_none rfl _ _ _) rfl ?_
 exact⟨rfl,L',R',o++o2,HN.out.1,HN.out.2.1,HEN.out,HN.out.2.2⟩
structure LayJ {σ:Type} (V:Way σ) (K:Nat) (caps:Array Value) (B:Nat) (At:σ→World→Prop):Prop where
 grow:∀ {s:σ} {w w':World},At s w→Below w.heap.size w w'→At s w'
 lay:∀ {s:σ} {c E L R:Nat} {ps:List jqd} {o:List Nat} {w:World},V.inv s→c<256→At s w→jwd w E L R o→B≤E→Enc ps L R o→(∀ p∈ps,p.ok)→ps.length≤10000 →
  Calls prog K (#[.pointer (some ⟨E,0,none⟩),.int .u8 (c:Int)]++caps) w fun e w'=>e=.returned (.tuple #[])∧∃ L' R' o',At (V.next s c) w'∧jwd w' E L' R' o'∧Enc (ps++V.parts s c) L' R' o'∧Below B w w'
structure CodRel {σ:Type} (V:Way σ) (At:σ→World→Prop) (w wr:World) (B E:Nat) (s:σ) (l:List Nat) (L R:Nat) (o:List Nat):Prop where
 at_:At (V.seen s l) wr
 e:jwd wr E L R o
 enc:Enc (V.all s l) L R o
 below:Below B w wr
theorem map_take_snoc {l:List UInt8} {k:Nat} (h:k<l.length):(l.take (k+1)).map UInt8.toNat=(l.take k).map UInt8.toNat++[l[k].toNat]:=by
 have e:l.take (k+1)=l.take k++[l[k]]:=by rw[List.take_add_one,List.getElem?_eq_getElem h];rfl
 rw[e,List.map_append]
 rfl
theorem u8_lt (l:List UInt8):∀ c∈l.map UInt8.toNat,c<256:=fun c hc=>by
 obtain⟨x,-,rfl⟩:=List.mem_map.1 hc
 exact x.toNat_lt
theorem coded_any {σ:Type} {V:Way σ} {K:Nat} {caps:Array Value} {B:Nat} {At:σ→World→Prop} (HJ:LayJ V K caps B At) (hE:Enters prog K) {w:World} {A:Option Addr} {n m:Nat} {l:List UInt8} {s:σ} (hr:Rd w B A (bvs l)) (hn:l.length=n) (h1:1≤n) (hn1:n≤1000) (hB:B≤w.heap.size) (hi:V.inv s) (hat:At s w) :
  Calls prog 94 #[.slice A n m,.func (.func K) #[] caps] w fun e w'=>∃ v Q,e=.returned v∧Laid 0 4294967295 (V.all s (l.map UInt8.toNat)) Q∧Q.length≤90000∧w'.ownsRow B 5 1 v Q.length (bvs (u8s Q))∧Below B w w':=by
 have HH:=jq HJ
 have HE:=jq hE
 have HRD:=jq hr
 have HN:=jq hn
 have HN1:=jq hn1
 have HI:=jq hi
 have HA:=jq hat
 have HB:=jq hB
 have h0:¬ ((n:Int)=0):=by omega
 have h0':0<(n:Int):=by omega
 clear HJ hE hr hn hn1 hi hat hB h1
 go_enter func94,ntmps94
 go_wp2_with fail
 refine (rcBegin_any w).mono ?_
 rintro _ w1 ⟨E,rfl,hE,he1,hb1⟩
 have HBE:=jq (Nat.le_trans HB.out hE)
 have HREL:=jq (⟨HH.out.grow HA.out hb1,he1,Enc.nil,hb1.mono HB.out⟩:CodRel V At w w1 B E s [] 0 4294967295 [])
 clear hE he1 hb1 HA h0'
 go_wp2
 go_loopw [14] (fun i wr=>∃ (k L R:Nat) (o:List Nat),k≤n∧i=.int .i64 (k:Int)∧CodRel V At w wr B E s ((l.take k).map UInt8.toNat) L R o) (fun i _=>n - (intOf i).toNat)
 case atStart=>exact⟨0,0,4294967295,[],Nat.zero_le _,rfl,HREL.out⟩
 case round =>
  clear HREL
  obtain⟨k,L,R,o,hk,rfl,hrel⟩:=hrel
  have HR:=jq hrel
  clear hrel
  by_cases hlt:k<n
  ·have hkl:k<l.length:=by rw[HN.out];exact hlt
   obtain⟨ab,ao,rfl,hab,hcell0⟩:=HRD.out k _ (jym l k hkl)
   have hcell:=(HR.out.below.cell (p:=⟨ab,ao+k,none⟩) hab).trans hcell0
   have hsn:=map_take_snoc hkl
   obtain⟨c,hc⟩:∃ c,c=l[k].toNat:=⟨_,rfl⟩
   have hc256:c<256:=by rw[hc];exact l[k].toNat_lt
   rw[←hc] at hcell hsn
   obtain⟨pre,hpre⟩:∃ pre,pre=(l.take k).map UInt8.toNat:=⟨_,rfl⟩
   have hplt:∀ x∈pre,x<256:=by rw[hpre];exact u8_lt _
   have hpl:pre.length≤1000:=by rw[hpre,List.length_map,List.length_take];have:=HN1.out;omega
   rw[←hpre] at HR hsn
   have hok:=Way.all_ok (V:=V) pre HI.out hplt
   have hlen:=(Way.all_len (V:=V) s pre).2
   have CL:=jq (HH.out.lay (Way.seen_inv pre HI.out hplt) hc256 HR.out.at_ HR.out.e HBE.out HR.out.enc hok (by omega))
   have HSN:=jq hsn
   have hki:(k:Int)<(n:Int):=by omega
   have hk1:k<1000:=by have:=HN1.out;omega
   clear hcell0 hab hkl hc hpre hplt hpl hok hlen hsn
   go_wp2_with fail
   rw[HE.out]
   refine CL.out.mono ?_
   rintro e w3 ⟨rfl,L',R',o',ha3,he3,hen3,hb3⟩
   have HN3:=jq (⟨by rw[HSN.out,Way.seen_snoc];exact ha3,he3,by rw[HSN.out,Way.all_snoc];exact hen3,HR.out.below.trans hb3⟩:CodRel V At w w3 B E s ((l.take (k+1)).map UInt8.toNat) L' R' o')
   clear ha3 he3 hen3 hb3 CL hcell
   go_wp2
   go_roundw
   case rel=>exact⟨k+1,L',R',o',by omega,by go_num,HN3.out⟩
   case measure=>simp[intOf];omega
  ·obtain rfl:k=n:=by omega
   have htk:l.take k=l:=List.take_of_length_le (by rw[HN.out];exact Nat.le_refl _)
   rw[htk] at HR
   have hok:=Way.all_ok (V:=V) (l.map UInt8.toNat) HI.out (u8_lt l)
   have hlen:=(Way.all_len (V:=V) s (l.map UInt8.toNat)).2
   rw[List.length_map,HN.out] at hlen
   have hins:=HR.out.enc.inside hok
   have hol:o.length≤80000:=by have:=hins.2.2.2;have:=HN1.out;omega
   have CB:=jq (encBytes_any HR.out.e hins.1.1 (by omega))
   have HEND:=jq (And.intro HR.out.enc.bytes (show (o++be4 L).length≤90000 by rw[List.length_append,show (be4 L).length=4 from rfl];omega))
   clear hok hlen hins hol htk
   go_wp2_with fail
   refine CB.out.mono ?_
   rintro e w4 ⟨v,rfl,hown,hb4⟩
   have hsz:=Nat.le_trans HB.out HR.out.below.size
   have HF:=jq (And.intro (jbb hown hsz) (HR.out.below.trans (hb4.mono hsz)))
   clear hown hb4 CB
   go_wp2
   go_ret
   exact⟨v,o++be4 L,rfl,HEND.out.1,HEND.out.2,HF.out.1,HF.out.2⟩
theorem Laid.one {L R:Nat} {ps:List jqd} {T:List Nat} (h:Laid L R ps T):∀ {T':List Nat},Laid L R ps T'→T=T':=by
 induction h with
 | last L R=>intro T' h';cases h' with
  | last=>rfl
 | part L R p ps o T L' R' hm hr ih=>intro T' h';cases h' with
  | part _ _ _ _ o2 T2 L2 R2 hm2 hr2 =>
   obtain⟨rfl,rfl,rfl⟩:=hm.one hm2
   rw[ih hr2]
def BldQ {σ:Type} (V:Way σ) (s:σ) (l Q:List UInt8):Prop:=(l=[]∧Q=[])∨(l≠[]∧∃ T,Laid 0 4294967295 (V.all s (l.map UInt8.toNat)) T∧Q=u8s T∧T.length≤90000)
theorem enc_all:∀ (ps:List jqd),(∀ p∈ps,p.ok)→∃ L R o,Enc ps.reverse L R o
 | [],_=>⟨_,_,_,Enc.nil⟩
 | p::ps,h=>by
  obtain⟨L,R,o,he⟩:=enc_all ps fun q hq=>h q (by simp[hq])
  obtain⟨o2,L',R',-,he2⟩:=he.more (fun q hq=>h q (by simp at hq;simp[hq])) (h p (by simp))
  exact⟨L',R',o++o2,by rw[List.reverse_cons];exact he2⟩
theorem bldQ_some {σ:Type} (V:Way σ) {s:σ} (hi:V.inv s) (l:List UInt8) (hl:l.length≤1000):∃ Q,BldQ V s l Q:=by
 by_cases h:l=[]
 ·exact⟨[],.inl ⟨h,rfl⟩⟩
 ·have hok:=Way.all_ok (V:=V) (l.map UInt8.toNat) hi (u8_lt l)
  have hlen:=(Way.all_len (V:=V) s (l.map UInt8.toNat)).2
  rw[List.length_map] at hlen
  obtain⟨L,R,o,he⟩:=enc_all (V.all s (l.map UInt8.toNat)).reverse (fun p hp=>hok p (by simpa using hp))
  rw[List.reverse_reverse] at he
  have hins:=(he.inside hok).2.2.2
  exact⟨u8s (o++be4 L),.inr ⟨h,_,he.bytes,rfl,by rw[List.length_append,show (be4 L).length=4 from rfl];omega⟩⟩
def NewBl (w:World) (Q:List UInt8) (e:Ending) (w':World):Prop:=∃ v,e=.returned v∧jjz Q v w'∧Below w.heap.size w w'
theorem nilBytes (w:World):jjz [] (.slice none 0 0) w:=⟨none,0,rfl,Nat.le_refl _,Rd.nil_ _ _ _⟩
theorem own_bytes {w:World} {B:Nat} {v:Value} {T:List Nat} (h:w.ownsRow B 5 1 v T.length (bvs (u8s T))):jjz (u8s T) v w:=by
 obtain⟨A,c,rfl,hc,-,-⟩:=jjk h
 exact⟨A,c,by rw[jqz],by rw[jqz];exact hc,Rd.of_own h⟩
section
variable {w:World}
theorem layBits_any (M:Nat) (w:World):Calls prog 99 #[.pointer (some ⟨M,0,none⟩)] w fun e w'=>∃ Bm,e=.returned (.func (.func 154) #[] #[.pointer (some ⟨Bm,0,none⟩)])∧w.heap.size≤Bm∧Boxed w' Bm 149 (.pointer (some ⟨M,0,none⟩))∧Below w.heap.size w w':=by
 go_enter func99,ntmps99
 go_wp2
 go_ret
 exact⟨w.heap.size,rfl,Nat.le_refl _,Boxed.new _ _ _,(Below.refl _ _).alloc jw _⟩
theorem layLetter_any (M:Nat) (w:World):Calls prog 95 #[.pointer (some ⟨M,0,none⟩)] w fun e w'=>∃ Bm,e=.returned (.func (.func 141) #[] #[.pointer (some ⟨Bm,0,none⟩)])∧w.heap.size≤Bm∧Boxed w' Bm 142 (.pointer (some ⟨M,0,none⟩))∧Below w.heap.size w w':=by
 go_enter func95,ntmps95
 go_wp2
 go_ret
 exact⟨w.heap.size,rfl,Nat.le_refl _,Boxed.new _ _ _,(Below.refl _ _).alloc jw _⟩
theorem qjj (w:World):Calls prog 96 #[] w fun e w'=>∃ F T S,e=.returned (.pointer (some ⟨F,0,none⟩))∧jzw w' F T S noneF 24 16384∧(w.heap.size≤T∧w.heap.size≤S)∧Below w.heap.size w w':=by
 have C:=jq (freqNew_any 256 24 16384 w (by unfold MayF;decide))
 go_enter func96,ntmps96
 go_wp2_with fail
 refine C.out.mono ?_
 rintro e w1 ⟨F,rfl,T,S,hf,⟨-,hT,hS⟩,hb⟩
 have H:=jq (And.intro hf (And.intro (And.intro hT hS) hb))
 clear hf hT hS hb
 go_wp2
 go_ret
 exact⟨F,T,S,rfl,H.out⟩
theorem coded_nil (A:Option Addr) (m:Nat) (f:Value) (w:World):Calls prog 94 #[.slice A (0:Nat) m,f] w fun e w'=>e=.returned (.slice none 0 0)∧w'=w:=by
 go_enter func94,ntmps94
 go_wp2
 go_ret
 exact⟨rfl,rfl⟩
theorem coded_q {σ:Type} {V:Way σ} {K:Nat} {caps:Array Value} {B:Nat} {At:σ→World→Prop} (HJ:LayJ V K caps B At) (hE:Enters prog K) {A:Option Addr} {m:Nat} {l Q:List UInt8} {s:σ} (hQ:BldQ V s l Q) (hl:l.length≤1000) (hr:Rd w B A (bvs l)) (hB:B≤w.heap.size) (hi:V.inv s) (hat:At s w) :
  Calls prog 94 #[.slice A l.length m,.func (.func K) #[] caps] w fun e w'=>∃ v,e=.returned v∧jjz Q v w'∧Below B w w':=by
 rcases hQ with ⟨rfl,rfl⟩ | ⟨h1,h2⟩
 ·refine (coded_nil A m _ w).mono ?_
  rintro e w' ⟨rfl,rfl⟩
  exact⟨_,rfl,nilBytes _,Below.refl _ _⟩
 ·refine (coded_any HJ hE (m:=m) hr rfl (List.length_pos_iff.2 h1) hl hB hi hat).mono ?_
  rintro e w' ⟨v,T,rfl,hT,-,hown,hb⟩
  obtain⟨T2,hT2,rfl,-⟩:=h2
  rw[hT2.one hT]
  exact⟨v,rfl,own_bytes hown,hb⟩
theorem bits_lay {B Bm:Nat} {a:ModA} (hlo:∀ k∈a.every,B≤k):LayJ bitWay 154 #[.pointer (some ⟨Bm,0,none⟩)] B (jvs Bm a) :=
 ⟨fun h hb=>h.grow hb,fun _ hc hat he hBE hen hps hpl=>layBits1_any hlo hc hat he hBE hen hps hpl⟩
theorem letter_lay {B Bm F T S:Nat} (hlo:B≤T∧B≤S):LayJ letWay 141 #[.pointer (some ⟨Bm,0,none⟩)] B (qjx Bm F T S) :=
 ⟨fun h hb=>h.grow hb,fun hi hc hat he hBE hen hps hpl=>layLetter1_any hlo hi hc hat he hBE hen hps hpl⟩
theorem blendCode_q {l Q:List UInt8} (hQ:BldQ bitWay newD l Q) (hl:l.length≤1000) (v:Value) (h:jjz l v w):Calls prog 60 #[v] w (NewBl w Q):=by
 obtain⟨A,c,rfl,hc,hr⟩:=h
 have HQ:=jq hQ
 have HL:=jq hl
 have HR:=jq hr
 obtain⟨N,hN⟩:∃ N,N=l.length:=⟨_,rfl⟩
 rw[←hN]
 have HN:=jq hN
 clear hQ hl hr hc hN
 go_enter func60,ntmps60
 go_wp2_with fail
 refine (modNew_any w).mono ?_
 rintro e w1 ⟨a,rfl,hm1,hlo1,hb1⟩
 have H1:=jq (And.intro hm1 (And.intro hlo1 hb1))
 clear hm1 hlo1 hb1
 go_wp2_with fail
 refine (layBits_any a.M w1).mono ?_
 rintro e w2 ⟨Bm,rfl,-,hbox,hb2⟩
 have hb12:=H1.out.2.2.trans (hb2.mono H1.out.2.2.size)
 have C:=coded_q (m:=c) (bits_lay (Bm:=Bm) H1.out.2.1) (enters_of func154 (by kernel_rfl) rfl) HQ.out HL.out (HR.out.below hb12) hb12.size newD_ok ⟨hbox,H1.out.1.grow hb2⟩
 rw[←HN.out] at C
 have C1:=jq C
 have HB:=jq hb12
 clear hbox hb2 hb12 C H1
 go_wp2_with fail
 refine C1.out.mono ?_
 rintro e w3 ⟨v,rfl,hv,hb3⟩
 have HF:=jq (And.intro hv (HB.out.trans hb3))
 clear hv hb3 C1
 go_wp2
 go_ret
 exact⟨v,rfl,HF.out⟩
theorem blendAdapt_q {l Q:List UInt8} (hQ:BldQ letWay noneF l Q) (hl:l.length≤1000) (v:Value) (h:jjz l v w):Calls prog 58 #[v] w (NewBl w Q):=by
 obtain⟨A,c,rfl,hc,hr⟩:=h
 have HQ:=jq hQ
 have HL:=jq hl
 have HR:=jq hr
 obtain⟨N,hN⟩:∃ N,N=l.length:=⟨_,rfl⟩
 rw[←hN]
 have HN:=jq hN
 clear hQ hl hr hc hN
 go_enter func58,ntmps58
 go_wp2_with fail
 refine (qjj w).mono ?_
 rintro e w1 ⟨F,T,S,rfl,hm1,hlo1,hb1⟩
 have H1:=jq (And.intro hm1 (And.intro hlo1 hb1))
 clear hm1 hlo1 hb1
 go_wp2_with fail
 refine (layLetter_any F w1).mono ?_
 rintro e w2 ⟨Bm,rfl,-,hbox,hb2⟩
 have hb12:=H1.out.2.2.trans (hb2.mono H1.out.2.2.size)
 have C:=coded_q (m:=c) (letter_lay (Bm:=Bm) (F:=F) H1.out.2.1) (enters_of func141 (by kernel_rfl) rfl) HQ.out HL.out (HR.out.below hb12) hb12.size noneF_inv ⟨hbox,⟨H1.out.1.fb.grow hb2,H1.out.1.tree.grow hb2⟩⟩
 rw[←HN.out] at C
 have C1:=jq C
 have HB:=jq hb12
 clear hbox hb2 hb12 C H1
 go_wp2_with fail
 refine C1.out.mono ?_
 rintro e w3 ⟨v,rfl,hv,hb3⟩
 have HF:=jq (And.intro hv (HB.out.trans hb3))
 clear hv hb3 C1
 go_wp2
 go_ret
 exact⟨v,rfl,HF.out⟩
end
end
section
open Go.RowKit Go.Sort Go.Shelf
def qyd (T X:List Nat):Nat × List Nat × Nat:=(num4 (T++X),(T++X).drop 4,0)
theorem num4_app {T:List Nat} (X:List Nat) (h:4≤T.length):num4 (T++X)=num4 T:=by
 match T,h with
 | a::b::c::d::T,_=>rfl
theorem restS_start {T X:List Nat} (hT:∀ y∈T++X,y<256) (hl:4≤T.length):jxx 4 (0,T++X,0)=qyd T X:=by
 unfold qyd
 match T,hl with
 | a::b::c::d::T,_=>exact comesS_four a b c d (T++X) hT
theorem back_more {L R:Nat} {p:jqd} {rest:List jqd} {T X:List Nat} (h:Laid L R (p::rest) T) (hs:jqw L R) (hR:65536≤R) (hp:∀ q∈p::rest,q.ok) (hX:∀ y∈X,y<256) :
  ∃ (n L' R':Nat) (T':List Nat),Laid L' R' rest T'∧jqw L' R'∧65536≤R'∧p.low≤n∧n<p.low+p.size ∧
   (∀ (w:World) (D K:Nat),jqf w D K L R (qyd T X)→Calls prog 152 #[.pointer (some ⟨D,0,none⟩),.int .i64 (p.total:Int)] w fun e w'=>e=.returned (.int .i64 (n:Int))∧jqf w' D K L R (qyd T X)∧jjq D D w w') ∧
   (∀ (w:World) (D K:Nat),jqf w D K L R (qyd T X)→Calls prog 153 #[.pointer (some ⟨D,0,none⟩),.int .i64 (p.low:Int),.int .i64 (p.size:Int),.int .i64 (p.total:Int)] w fun e w'=>e=.returned (.int .i64 0)∧jqf w' D K L' R' (qyd T' X)∧jjq D D w w'):=by
 obtain⟨w1,w2,w3,w4⟩:=h.within hs hR hp
 obtain⟨p1,p2,p3⟩:=hp p List.mem_cons_self
 obtain⟨n1,n2,n3,n4⟩:=jmd hs hR p1 p2 p3
 cases h with
 | part _ _ _ _ o T L' R' hm hr =>
  obtain⟨i1,i2⟩:=hm.inside n4
  obtain⟨t1,t2,t3,t4⟩:=hr.within i1 i2 fun q hq=>hp q (List.mem_cons_of_mem _ hq)
  obtain⟨q1,q2⟩:=hm.within n4 T t1 t2 t3 t4
  have hC:num4 (o++T)<4294967296:=by have:=hs.2.2.1;omega
  obtain⟨n,f1,f2,f3⟩:=findS_in (L:=L) (R:=R) (C:=num4 (o++T)) (low:=p.low) (size:=p.size) (total:=p.total) w3 hC n1 q1 q2 p2
  have hb:∀ y∈o++(T++X),y<256:=fun y hy=>by
   rw[←List.append_assoc] at hy
   rcases List.mem_append.1 hy with hy | hy
   ·exact w1 y hy
   ·exact hX y hy
  have hcm:=comesS_num o (T++X) 0 hb (by rw[List.length_append];omega)
  rw[←List.append_assoc] at hcm
  rw[←num4_app X w2] at f1
  refine⟨n,L',R',T,hr,i1,i2,f2,f3,fun w D K hd=>?_,fun w D K hd=>?_⟩
  ·have:=decFind_ok p.total hd hs hR (by omega) p3
   rw[f1] at this
   exact this
  ·have:=decTake_ok hd hs hR p1 p2 p3 hm
   rw[hcm] at this
   exact this
section
variable {w w':World} {D K L R:Nat} {st:Nat × List Nat × Nat} {S:List Nat}
def NoByte (S:List Nat) (w:World):Prop:=∀ g∈S,∃ t cs,Blk w g t cs∧t≠243∧∀ v∈cs,∀ x,v ≠ .int .u8 x
theorem jqf.onlyS (h:jqf w D K L R st) (hu:jqx S w w') (hS:NoByte S w):jqf w' D K L R st:=by
 obtain⟨A,n,m,h1,h2,h3,h4,h5,h6,h7⟩:=h
 refine⟨A,n,m,hu.blk h1 fun hD=>?_,fun i u hi=>?_,h3,h4,h5,h6,h7⟩
 ·obtain⟨t,cs,hb,hne,-⟩:=hS D hD
  exact h1.ofType.ne hne.symm hb.ofType
 ·obtain⟨b,off,rfl,hb,hc⟩:=h2 i u hi
  refine⟨b,off,rfl,hb,?_⟩
  have hlt:b<w.heap.size:=World.block_lt_of_cell? w _ hc
  rw[World.cell?_of_block (w:=w) (w':=w') (a:=⟨b,off+i,none⟩) (hu.block b hlt fun hm=>?_)]
  ·exact hc
  ·obtain⟨t,cs,hk,-,hv⟩:=hS b hm
   have e:cs[off+i]?=some u:=(hk.cell (off+i)).symm.trans hc
   have hx:∃ x,u=.int .u8 x:=by
    simp only[nvs,List.getElem?_map,Option.map_eq_some_iff] at hi
    obtain⟨y,-,rfl⟩:=hi
    exact⟨_,rfl⟩
   obtain⟨x,rfl⟩:=hx
   exact hv _ (List.mem_of_getElem? e) x rfl
theorem jqf.kept (h:jqf w D K L R st) (hk:∀ k,k≤D→w'.heap[k]?=w.heap[k]?):jqf w' D K L R st:=by
 obtain⟨A,n,m,h1,h2,h3,h4,h5,h6,h7⟩:=h
 exact⟨A,n,m,(hk D jw).trans h1,h2.keep fun p hp=>World.cell?_of_block (hk _ (by omega)),h3,h4,h5,h6,h7⟩
theorem jqf.ofType (h:jqf w D K L R st):jby w D 243:=by
 obtain⟨A,n,m,h1,-⟩:=h
 exact h1.ofType
theorem jqf.turnedT (h:jqf w D K L R st) (ht:jjq D D w w'):jjj 0 [243] w w' :=
 (jqx.of_turns ht (S:=[D]) (by simp)).onlyT fun g hg=>by
  rw[List.mem_singleton.1 hg]
  exact⟨Nat.zero_le _,_,by simp,h.ofType⟩
end
theorem zvs_nob (l:List Int):∀ v∈zvs l,∀ x,v ≠ .int .u8 x:=fun v hv x e=>by
 obtain⟨y,-,rfl⟩:=List.mem_map.1 hv
 cases e
theorem cvs_nob (l:List Nat):∀ v∈cvs l,∀ x,v ≠ .int .u8 x:=fun v hv x e=>by
 obtain⟨y,-,rfl⟩:=List.mem_map.1 hv
 cases e
theorem jzg.nob {w:World} {a:ModA} {s:ModD} (h:jzg w a s):NoByte a.all w:=fun g hg=>by
 simp only[ModA.all,List.mem_cons,List.not_mem_nil,or_false] at hg
 rcases hg with rfl | rfl | rfl | rfl | rfl
 ·refine⟨_,_,h.mb,by decide,fun v hv x e=>?_⟩
  subst e
  simp[modC] at hv
 ·exact⟨_,_,h.b1.cb,by decide,cvs_nob _⟩
 ·exact⟨_,_,h.b2.cb,by decide,cvs_nob _⟩
 ·exact⟨_,_,h.b3.cb,by decide,cvs_nob _⟩
 ·exact⟨_,_,h.x.fb,by decide,zvs_nob _⟩
theorem jzw.nob {w:World} {F T S:Nat} {c:List Int} {st mo:Int} (h:jzw w F T S c st mo):NoByte [T,S] w:=fun g hg=>by
 simp only[List.mem_cons,List.not_mem_nil,or_false] at hg
 rcases hg with rfl | rfl
 ·refine⟨_,_,h.tree.2.tb,by decide,fun v hv x e=>?_⟩
  subst e
  simp at hv
 ·exact⟨_,_,h.tree.2.sb,by decide,zvs_nob _⟩
structure TakeJ {σ:Type} (V:Way σ) (K:Nat) (caps:Array Value) (S:List Nat) (own:Nat→Prop) (At:σ→World→Prop):Prop where
 kept:∀ {s:σ} {w w':World},At s w→(∀ k,own k→w'.heap[k]?=w.heap[k]?)→At s w'
 take:∀ {s:σ} {c D Kd L R:Nat} {rest:List jqd} {T X:List Nat} {w:World},V.inv s→c<256→At s w→jqf w D Kd L R (qyd T X)→Laid L R (V.parts s c++rest) T→jqw L R→65536≤R→(∀ p∈V.parts s c++rest,p.ok)→(∀ y∈X,y<256) →
  Calls prog K (#[.pointer (some ⟨D,0,none⟩)]++caps) w fun e w'=>e=.returned (.int .u8 (c:Int))∧∃ L' R' T',Laid L' R' rest T'∧jqw L' R'∧65536≤R'∧At (V.next s c) w'∧jqf w' D Kd L' R' (qyd T' X)∧jqx (D::S) w w'
section
variable {σ:Type} {V:Way σ}
def GoodB (V:Way σ) (s0:σ) (l X:List Nat) (dn:Nat) (pre:List Nat) (L R:Nat) (st:Nat × List Nat × Nat):Prop :=
 (∀ c rest,l=pre++c::rest→∃ T,st=qyd T X∧Laid L R (V.all (V.seen s0 pre) (c::rest)) T∧jqw L R∧65536≤R)∧(l=pre→doneS st=dn)
theorem GoodB.next {s0:σ} {l X pre rest T:List Nat} {dn c L R:Nat} (h:l=pre++c::rest) (hdn:l≠[]→dn=if X=[] then 0 else 16) (hla:Laid L R (V.all (V.next (V.seen s0 pre) c) rest) T) (hs:jqw L R) (hR:65536≤R):GoodB V s0 l X dn (pre++[c]) L R (qyd T X):=by
 refine⟨fun c' rest' h'=>?_,fun h'=>?_⟩
 ·rw[h,List.append_assoc] at h'
  have e:=List.append_cancel_left h'
  simp only[List.singleton_append,List.cons.injEq,true_and] at e
  subst e
  exact⟨T,rfl,by rw[Way.seen_snoc];exact hla,hs,hR⟩
 ·have e:c::rest=[c]:=List.append_cancel_left (h.symm.trans h')
  simp only[List.cons.injEq,true_and] at e
  subst e
  rw[hdn (by rw[h];simp)]
  have hT:T=be4 L:=by
   cases hla with
   | last=>rfl
  rw[hT]
  show (if (0:Nat)=0 then (if (be4 L++X).drop 4=[] then 0 else 16) else 0)=_
  rw[if_pos rfl,show (be4 L++X).drop 4=X from rfl]
structure TkSt (V:Way σ) (At:σ→World→Prop) (s0:σ) (l X:List Nat) (dn D Kd Bn Bt Bd:Nat) (f:Value) (pre:List Nat) (L R:Nat) (st:Nat × List Nat × Nat) (w:World):Prop where
 bn:Boxed w Bn 3 (.int .i64 (l.length:Int))
 bt:Boxed w Bt 146 f
 bd:Boxed w Bd 192 (.pointer (some ⟨D,0,none⟩))
 at_:At (V.seen s0 pre) w
 d:jqf w D Kd L R st
 good:GoodB V s0 l X dn pre L R st
theorem TkSt.kept {K:Nat} {caps:Array Value} {S:List Nat} {own keep:Nat→Prop} {At:σ→World→Prop} {s0:σ} {l X pre:List Nat} {dn D Kd Bn Bt Bd L R:Nat} {f:Value} {st:Nat × List Nat × Nat} {w w':World} (HJ:TakeJ V K caps S own At)
  (hk:(∀ k,k≤D→keep k)∧(∀ k,own k→keep k)∧keep Bn∧keep Bt∧keep Bd) (h:TkSt V At s0 l X dn D Kd Bn Bt Bd f pre L R st w) (hb:jyg keep w w'):TkSt V At s0 l X dn D Kd Bn Bt Bd f pre L R st w' :=
 ⟨(hb.2 _ hk.2.2.1).trans h.bn,(hb.2 _ hk.2.2.2.1).trans h.bt,(hb.2 _ hk.2.2.2.2).trans h.bd,HJ.kept h.at_ fun k ho=>hb.2 k (hk.2.1 k ho),h.d.kept fun k hkd=>hb.2 k (hk.1 k hkd),h.good⟩
theorem taken1_hands {K:Nat} {caps:Array Value} {S:List Nat} {own keep:Nat→Prop} {At:σ→World→Prop} (HJ:TakeJ V K caps S own At) (hE:Enters prog K) (N:Nat) (hN:1≤N) {D Kd Bn Bt Bd:Nat} {l X:List Nat} {s0:σ} {dn L0 R0:Nat} {st0:Nat × List Nat × Nat} {w:World}
  (hk:(∀ k,k≤D→keep k)∧(∀ k,own k→keep k)∧keep Bn∧keep Bt∧keep Bd) (hS:Bn∉D::S∧Bt∉D::S∧Bd∉D::S) (hi:V.inv s0) (hl:∀ c∈l,c<256) (hX:∀ y∈X,y<256) (hlen:l.length≤1000000) (hdn:l≠[]→dn=if X=[] then 0 else 16)
  (h0:TkSt V At s0 l X dn D Kd Bn Bt Bd (.func (.func K) #[] caps) [] L0 R0 st0 w) :
  HandsBoth N prog 198 #[.pointer (some ⟨Bn,0,none⟩),.pointer (some ⟨Bt,0,none⟩),.pointer (some ⟨Bd,0,none⟩)] (D::S) keep (fun c:Nat=>#[Value.int .u8 (c:Int)]) l (fun W=>∃ L R st,jqf W D Kd L R st∧doneS st=dn) w:=by
 intro lp J W hW hJ hY hJ0
 have HH:=jq HJ
 have HE:=jq hE
 have HK:=jq hk
 have HS:=jq hS
 have HI:=jq hi
 have HL:=jq hl
 have HX:=jq hX
 have HDN:=jq hdn
 have h0':=h0.kept HJ hk hW
 have hcn:=h0'.bn.cell
 have H0:=jq h0'
 clear HJ hE hk hS hi hl hX hdn h0 h0' hW
 refine callsIn_of_wp func198 rfl trivial ?_ rfl
 simp only[ntmps198,List.size_toArray,List.length_cons,List.length_nil,Nat.reduceAdd,Nat.reduceSub,Array.replicate_succ,Array.replicate_zero,List.push_toArray,List.append_toArray,List.nil_append,List.cons_append]
 gi_wp2
 gi_loopw [7] (fun i wr=>∃ (pre rest:List Nat) (L R:Nat) (st:Nat × List Nat × Nat),l=pre++rest∧i=.int .i64 (pre.length:Int)∧TkSt V At s0 l X dn D Kd Bn Bt Bd (.func (.func K) #[] caps) pre L R st wr∧J pre wr)
  (fun i _=>l.length - (intOf i).toNat)
 case atStart=>exact⟨[],l,L0,R0,st0,rfl,rfl,H0.out,hJ0⟩
 case round =>
  clear H0 hcn hJ0
  obtain⟨pre,rest,L,R,st,hl2,rfl,ht,hj⟩:=hrel
  have HT:=jq ht
  have hct:=ht.bt.cell
  have hcd:=ht.bd.cell
  have hll:l.length=pre.length+rest.length:=by rw[hl2,List.length_append]
  clear ht
  cases rest with
  | nil =>
   rw[List.append_nil] at hl2
   have hge:¬ ((pre.length:Int)<(l.length:Int)):=by rw[hl2];omega
   have HEND:=jq (HT.out.good.2 hl2)
   clear hct hcd
   gi_wp2
   go_end0
   exact⟨⟨_,rfl⟩,hj,L,R,st.1,st.2.1,st.2.2,HT.out.d,HEND.out⟩
  | cons c r =>
   have hlt:(pre.length:Int)<(l.length:Int):=by rw[hll,List.length_cons];omega
   have hpl:pre.length<1000000:=by rw[hll,List.length_cons] at hlen;omega
   have hmem:∀ x∈pre,x<256:=fun x hx=>HL.out x (by rw[hl2];simp[hx])
   have hmem2:∀ x∈c::r,x<256:=fun x hx=>HL.out x (by rw[hl2];simp only[List.mem_append];exact .inr hx)
   have hinv:=Way.seen_inv pre HI.out hmem
   obtain⟨T,hst,hla,hsp,hR⟩:=HT.out.good.1 c r hl2
   have hd:=HT.out.d
   rw[hst] at hd
   have CT:=jq (HH.out.take hinv (hmem2 c (by simp)) HT.out.at_ hd hla hsp hR (Way.all_ok (V:=V) (c::r) hinv hmem2) HX.out)
   have HL2:=jq hl2
   have HJ2:=jq hj
   clear hmem hmem2 hinv hst hla hsp hR hd hl2 hj hll
   gi_wp2_with fail
   refine⟨trivial,?_⟩
   rw[HE.out]
   refine⟨(fun h=>by cases h),?_⟩
   refine (callsIn_wide.2 CT.out).mono ?_
   rintro e w3 ⟨rfl,L',R',T',hla,hsp,hR,hat,hd,hu⟩
   have HG:=jq (GoodB.next HL2.out HDN.out hla hsp hR)
   have hs:=HS.out
   have ht3:Boxed w3 Bn 3 (.int .i64 (l.length:Int))∧Boxed w3 Bt 146 (.func (.func K) #[] caps)∧Boxed w3 Bd 192 (.pointer (some ⟨D,0,none⟩)):=⟨hu.blk (cs:=[_]) HT.out.bn hs.1,hu.blk (cs:=[_]) HT.out.bt hs.2.1,hu.blk (cs:=[_]) HT.out.bd hs.2.2⟩
   have HT3:=jq ht3
   have HA3:=jq hat
   have HD3:=jq hd
   have HJ3:=jq (hJ _ _ _ HJ2.out hu)
   have hcd:=ht3.2.2.cell
   have ce:=qzk hd
   rw[show (((qyd T' X).2.2:Nat):Int)=0 from rfl] at ce
   have CE:=jq ce
   clear hla hsp hR hat hd hu hs ht3 CT HT HJ2 ce
   gi_wp2_with fail
   refine⟨trivial,(callsIn_wide.2 CE.out).mono ?_⟩
   rintro e w' ⟨rfl,hw⟩
   obtain rfl:_=w':=hw.symm
   obtain⟨fn,tmps,assign,body,hy,hYR⟩:=hY pre c r _ HL2.out.symm HJ3.out
   gi_wp2
   refine hYR.mono ?_
   rintro e3 w4 ⟨rfl,hJ4,hk4⟩
   have hT4:=TkSt.kept HH.out HK.out ⟨HT3.out.1,HT3.out.2.1,HT3.out.2.2,(by rw[Way.seen_snoc];exact HA3.out),HD3.out,HG.out⟩ hk4
   have HT4:=jq hT4
   clear hT4 hk4 HT3 HA3 HD3 HG CE
   gi_wp2
   refine⟨⟨pre++[c],r,L',R',_,by rw[HL2.out,List.append_assoc];rfl,?_,HT4.out,hJ4⟩,?_⟩
   ·rw[List.length_append,List.length_singleton]
    exact congrArg (Value.int IntKind.i64) (by omega)
   ·simp only[intOf]
    omega
end
attribute [local go_sem] Oper.semAt_some
theorem takenBl_any (D K:Nat) (n:Int) (caps:Array Value) (w:World):Calls prog 148 #[.pointer (some ⟨D,0,none⟩),.int .i64 n,.func (.func K) #[] caps] w fun e w' =>
  e=.returned (.func (.func 198) #[] #[.pointer (some ⟨w.heap.size+1,0,none⟩),.pointer (some ⟨w.heap.size+1+1,0,none⟩),.pointer (some ⟨w.heap.size,0,none⟩)])∧w'.heap.size=w.heap.size+3 ∧
   Boxed w' (w.heap.size+1) 3 (.int .i64 n)∧Boxed w' (w.heap.size+1+1) 146 (.func (.func K) #[] caps)∧Boxed w' w.heap.size 192 (.pointer (some ⟨D,0,none⟩))∧Below w.heap.size w w':=by
 go_enter func148,ntmps148
 go_wp2
 go_ret
 have h1:=Boxed.new w 192 (.pointer (some ⟨D,0,none⟩))
 have h2:=Boxed.new (w.alloc (.cells #[.pointer (some ⟨D,0,none⟩)] 192)) 3 (.int .i64 n)
 have h3:=Boxed.new ((w.alloc (.cells #[.pointer (some ⟨D,0,none⟩)] 192)).alloc (.cells #[.int .i64 n] 3)) 146 (.func (.func K) #[] caps)
 simp only[World.size_alloc] at h2 h3
 exact⟨rfl,by simp,h2.alloc _,h3,(h1.alloc _).alloc _,(((Below.refl _ _).alloc jw _).alloc (by simp) _).alloc (by simp;omega) _⟩
structure DecI (w:World) (B Bb N0:Nat) (pre:List Nat) (W:World):Prop where
 row:∃ v,Boxed W Bb 22 v∧W.ownsRow N0 5 1 v pre.length (nvs pre)
 below:Below B w W
theorem DecI.turns {w A C:World} {B Bb N0:Nat} {S:List Nat} {pre:List Nat} (h:DecI w B Bb N0 pre A) (hu:jwy N0 S A C) (hS:∀ k∈S,B≤k∧k<N0) (hb:Bb∉S) (hN:B≤N0) (hB:B≤w.heap.size):DecI w B Bb N0 pre C:=by
 obtain⟨⟨v,h1,h2⟩,h3⟩:=h
 exact⟨⟨v,hu.blk (cs:=[_]) h1 hb,hu.own h2 fun k hk=>(hS k hk).2⟩,h3.trans (hu.below (fun k hk=>(hS k hk).1) hN (Nat.le_trans hB h3.size))⟩
theorem nvs_snoc (l:List Nat) (c:Nat):nvs (l++[c])=nvs l++[.int .u8 (c:Int)]:=by simp[nvs]
theorem nvs_u8s {l:List Nat} (h:∀ c∈l,c<256):nvs l=bvs (u8s l):=by
 simp only[nvs,bvs,u8s,List.map_map]
 refine List.map_congr_left fun c hc=>?_
 have:=h c hc
 simp[UInt8.toNat_ofNat']
 omega
def keepBl (Bb N0 k:Nat):Prop:=k<N0∧k≠Bb
theorem decI_more {w Wd w4:World} {B Bb N0 c:Nat} {pre:List Nat} {v v':Value} {tmp:Obj} (h1:Boxed Wd Bb 22 v) (h2:Wd.ownsRow N0 5 1 v pre.length (nvs pre)) (h3:Below B w Wd) (hB:B≤Bb) (hN:Bb<N0) (hs:N0≤Wd.heap.size)
  (hown:w4.ownsRow N0 5 1 v' (pre.length+1) (nvs pre++[.int .u8 (c:Int)])) (hg:(Wd.alloc tmp).grownBy w4 v.ownBlock) :
  Boxed w4 Bb 22 v∧KeepsFrom N0 Wd (w4.setCell ⟨Bb,0,none⟩ v')∧jyg (keepBl Bb N0) Wd (w4.setCell ⟨Bb,0,none⟩ v')∧DecI w B Bb N0 (pre++[c]) (w4.setCell ⟨Bb,0,none⟩ v'):=by
 obtain⟨a1,a2,a3,a4,a5⟩:=h1.appended (by decide) (jbb h2 (Nat.le_of_lt hN)) (by omega) jw (jbb hown (Nat.le_of_lt hN)) hg
 have hrow:=jjb h2
 refine⟨a1,a4.from _,⟨a4.size,fun k hk=>?_⟩,⟨⟨v',a2,?_⟩,h3.trans (a5.mono hB)⟩⟩
 ·obtain⟨k1,k2⟩:=hk
  refine (Below.heap_setCell _ _ _ _ k2).trans ((hg.block k (by simp;omega) fun e=>?_).trans (Below.heap_alloc _ _ _ (by omega)))
  have:=hrow k e.symm
  omega
 ·rw[List.length_append,List.length_singleton,nvs_snoc]
  exact hown.kept (grownBy_setCell' w4 Bb v') (.inr (a1.not_row (by decide) hown).symm)
theorem decoded_any {σ:Type} {V:Way σ} {K:Nat} {caps:Array Value} {S:List Nat} {own:Nat→Prop} {At:σ→World→Prop} (HJ:TakeJ V K caps S own At) (hE:Enters prog K) {w:World} {B:Nat} {A:Option Addr} {M m N:Nat} {bs:List UInt8} {l X:List Nat} {s0:σ} {dn:Nat}
  (hr:Rd w w.heap.size A (bvs bs)) (hM:bs.length=M) (hM1:M≤100000) (hN:l.length=N) (hN1:N≤1000) (hl:∀ c∈l,c<256) (hX:∀ y∈X,y<256) (hi:V.inv s0) (hat:At s0 w) (hown:∀ k,own k→k<w.heap.size) (hS:∀ k∈S,B≤k∧k<w.heap.size) (hB:B≤w.heap.size)
  (hdn:l≠[]→dn=if X=[] then 0 else 16) (hdd:dn=0∨dn=16) (hg:GoodB V s0 l X dn [] 0 4294967295 (jxx 4 (0,bs.map UInt8.toNat,0))) (hne:N≠0∨(N=0∧M≠0)) :
  Calls prog 97 #[.slice A M m,.int .i64 (N:Int),.func (.func K) #[] caps] w fun e w'=>∃ v,e=.returned (.tuple #[v,.int .i64 (dn:Int)])∧jjz (if dn=0 then u8s l else []) v w'∧Below B w w':=by
 obtain⟨i0,hi0,hz0,hz1,hz2⟩:=info_parts qzg
 have CR:=jq (decRead_any (m:=m) bs hr hM (by omega))
 have HH:=jq HJ
 have HE:=jq hE
 have HN:=jq hN
 have HN1:=jq (show l.length≤1000 by rw[hN];exact hN1)
 have HL:=jq hl
 have HX:=jq hX
 have HI:=jq hi
 have HA:=jq hat
 have HO:=jq hown
 have HS:=jq hS
 have HB:=jq hB
 have HDN:=jq hdn
 have HDD:=jq hdd
 have HG:=jq hg
 obtain⟨nv,hnv⟩:∃ nv:Int,nv=(N:Int):=⟨_,rfl⟩
 rw[←hnv]
 have t1:¬ (nv<0):=by omega
 have t2:¬ ((67108864:Int)<nv):=by omega
 have hne2:(nv==0)=false∨((nv==0)=true∧¬ ((M:Int)=0)):=by
  rcases hne with h | ⟨h1,h2⟩
  ·exact .inl (by simp;omega)
  ·exact .inr ⟨by simp;omega,by omega⟩
 have HNV:=jq (show nv=(l.length:Int) by rw[hnv,hN])
 clear HN hnv hne HJ hE hr hM hM1 hN hN1 hl hX hi hat hown hS hB hdn hdd hg
 refine (callsIn_wide (n:=4)).1 ?_
 refine callsIn_of_wp_marks func97 rfl trivial ?_ rfl
 simp only[ntmps97,List.size_toArray,List.length_cons,List.length_nil,Nat.reduceAdd,Nat.reduceSub,Array.replicate_succ,Array.replicate_zero,List.push_toArray,List.append_toArray,List.nil_append,List.cons_append]
 rcases hne2 with hn | ⟨hn,hm⟩
 all_goals
  gi_wp2_with fail
  refine⟨trivial,(callsIn_wide.2 CR.out).mono ?_⟩
  rintro e w1 ⟨D,rfl,hD,hd,hb1⟩
  have hb2:=(Boxed.new w1 22 (.slice none 0 0))
  have hbw2:Below w1.heap.size w1 (w1.alloc (.cells #[.slice none 0 0] 22)):=(Below.refl _ _).alloc jw _
  have hsz2:(w1.alloc (.cells #[.slice none 0 0] 22)).heap.size=w1.heap.size+1:=World.size_alloc _ _
  obtain⟨w2,hw2⟩:∃ w2,w2=w1.alloc (.cells #[.slice none 0 0] 22):=⟨_,rfl⟩
  obtain⟨Bb,hBb⟩:∃ Bb,Bb=w1.heap.size:=⟨_,rfl⟩
  rw[←hw2,←hBb] at hb2
  rw[←hw2] at hbw2
  rw[←hw2,←hBb] at hsz2
  have hDl:=hd.lt
  rw[←hBb] at hDl
  have HD2:=jq (hd.below hbw2)
  have HB2:=jq (hb1.trans (hbw2.mono hb1.size))
  have HBX:=jq hb2
  have HW:=jq (And.intro hw2 hBb)
  have HSZ:=jq (And.intro hsz2 (And.intro hDl (And.intro hD (show w.heap.size≤Bb by rw[hBb];exact hb1.size))))
  clear hb2 hbw2 hsz2 hw2 hBb hDl hd hb1 hD CR
  gi_wp2_with fail
  simp only[←HW.out.1,←HW.out.2]
  refine⟨trivial,(callsIn_wide.2 (takenBl_any D K nv caps w2)).mono ?_⟩
  rintro e w3 ⟨rfl,hs3,hbn,hbt,hbd,hb3⟩
  have hbx3:Boxed w3 Bb 22 (.slice none 0 0):=Blk.grow (cs:=[_]) HBX.out hb3
  rw[HSZ.out.1] at hs3 hbn hbt hbd
  have hb03:=HB2.out.trans (hb3.mono HB2.out.size)
  have hz:=HSZ.out
  have hsS:=HS.out
  have h0:TkSt V At s0 l X dn D D (Bb+1+1) (Bb+1+1+1) (Bb+1) (.func (.func K) #[] caps) [] 0 4294967295 (jxx 4 (0,bs.map UInt8.toNat,0)) w3 :=
   ⟨by rw[←HNV.out];exact hbn,hbt,hbd,HH.out.kept HA.out (fun k hk=>hb03.block k (HO.out k hk)),HD2.out.below hb3,HG.out⟩
  have hns:∀ j,Bb+j∉D::S:=fun j hj=>by
   rcases List.mem_cons.1 hj with hj | hj
   ·omega
   ·have:=(hsS _ hj).2;omega
  have HHN:=jq (taken1_hands HH.out HE.out 3 (by omega) (keep:=keepBl Bb w3.heap.size) ⟨fun k hk=>⟨by omega,by omega⟩,fun k hk=>by have:=HO.out k hk;exact⟨by omega,by omega⟩,⟨by omega,by omega⟩,⟨by omega,by omega⟩,⟨by omega,by omega⟩⟩ ⟨hns 2,hns 3,hns 1⟩ HI.out HL.out HX.out (by have:=HN1.out;omega) HDN.out h0)
  have HI0:=jq (⟨⟨_,hbx3,World.ownsRow_nil _ _ _ _⟩,hb03.mono HB.out⟩:DecI w B Bb w3.heap.size [] w3)
  have HNS:=jq (And.intro hs3 (And.intro (show Bb∉D::S from hns 0) (show ∀ k∈D::S,B≤k∧k<w3.heap.size from fun k hk=>by
   have:=HB.out
   rcases List.mem_cons.1 hk with rfl | hk
   ·omega
   ·have:=hsS _ hk;omega)))
  have h4:w2.heap.size=Bb+1:=HSZ.out.1
  rw[h4]
  clear hs3 hbn hbt hbd hb3 hbx3 hb03 hz hsS h0 hns h4
  gi_wp2
  refine wpIn_range_both (by omega) (gf:=198) (lb:=#[.pointer (some ⟨Bb+1+1,0,none⟩),.pointer (some ⟨Bb+1+1+1,0,none⟩),.pointer (some ⟨Bb+1,0,none⟩)]) rfl (enters_of func198 (by kernel_rfl) rfl)
   HHN.out (fun k hk=>hk.1) (fun k hk=>(HNS.out.2.2 k hk).2) (fun _=>rfl) ?_
   (DecI w B Bb w3.heap.size) (fun s A C h hu=>h.turns hu HNS.out.2.2 HNS.out.2.1 (by have:=HNS.out.1;have:=HSZ.out;have:=HB.out;omega) HB.out) HI0.out ?_ ?_ ?_ ?_
  ·rintro A C ⟨L,R,st,hd,he⟩ hu
   refine⟨L,R,st,hd.kept fun k hk=>?_,he⟩
   have h1:=hd.lt
   rcases hu.block k (by omega) List.not_mem_nil with ⟨h2,-⟩ | e
   ·have:=HNS.out.1;have:=HSZ.out;omega
   ·exact e
  rotate_left
  ·intro lq x Wd K hK
   gi_wp2
   exact hK
  ·rintro lq pre c rest Wd hxs ⟨⟨v,hv,hrow⟩,hbw⟩ hsz
   obtain⟨Av,cv,rfl,-,-,-⟩:=jjk hrow
   have hc:=hv.cell
   have hpl:pre.length<1000:=by
    have h1:=congrArg List.length hxs
    rw[List.length_append,List.length_cons] at h1
    have:=HN1.out
    omega
   have HV:=jq (And.intro hv (And.intro hrow (And.intro hbw hsz)))
   clear hv hbw hxs
   gi_wp2_with (gi_at_builtin;refine wpListIn_append_own _ rfl _ _ 22 rfl w3.heap.size 5 i0 (.int .u8 0) 1 1 underlying22 hi0 hz0 hz1 hz2 rfl (by decide) _ pre.length (nvs pre) rfl (hrow.alloc _) ⟨Wd.heap.size,0,none⟩ 1 1 [.int .u8 (c:Int)] rfl rfl (cell_one_new _ _ _) (by simp[Value.oneCell']) (by simp only[maxLen];omega) (by omega) (by simp;omega) ?_;intro v4 w4 hown4 hg4 _;obtain⟨A4,c4,rfl,-,-,-⟩:=jjk hown4;obtain⟨a1,a2,a3,a4⟩:=decI_more HV.out.1 HV.out.2.1 HV.out.2.2.1 (by have:=HSZ.out;have:=HB.out;omega) (by have:=HNS.out.1;omega) HV.out.2.2.2 hown4 hg4;have hc4:=a1.cell;have hf4:=a1.frozen;have HR4:=jq (And.intro a2 (And.intro a3 a4));clear hown4 hg4 a1 a2 a3 a4)
   exact HR4.out
  ·rintro D' Wd hD' ⟨⟨v,hv,hrow⟩,hbw⟩ ⟨L,R,st,hd,he⟩ hK
   have CD:=decDone_any hd
   rw[he] at CD
   obtain⟨Av,cv,rfl,-,-,-⟩:=jjk hrow
   have hc:=hv.cell
   have hDw:w.heap.size≤D':=by have:=HNS.out.1;have:=HSZ.out;omega
   have HF:=jq (hbw.trans (belowK_b (w:=w) HB.out Wd D' _ (.deferred none) hDw hK rfl rfl))
   have hrw:=ownsRow_putObj hrow (.deferred none) hK rfl
   have hll:l.length=(u8s l).length:=(jqz l).symm
   rw[nvs_u8s HL.out,hll] at hrw
   have hbs:=jjz.of_own hrw
   rw[jqz] at hbs
   have HRW:=jq hbs
   have HK:=jq hK
   clear hv hbw hd he hrow hK hll hrw hbs
   rcases HDD.out with rfl | rfl
   ·have cd:Calls prog 149 #[.pointer (some ⟨D,0,none⟩)] Wd fun e w'=>e=.returned (.int .i64 0)∧w'=Wd:=CD
    have CD0:=jq cd
    clear CD cd
    gi_wp2_with fail
    refine⟨trivial,(callsIn_wide.2 CD0.out).mono ?_⟩
    rintro e w' ⟨rfl,hw⟩
    obtain rfl:_=w':=hw.symm
    gi_wp2
    refine⟨by simp,.inl ⟨_,_,rfl,run_takeDeferred HK.out,?_⟩⟩
    refine⟨_,results_tmp2 rfl _ _ _,?_⟩
    exact⟨_,rfl,HRW.out,HF.out⟩
   ·have cd:Calls prog 149 #[.pointer (some ⟨D,0,none⟩)] Wd fun e w'=>e=.returned (.int .i64 16)∧w'=Wd:=CD
    have CD0:=jq cd
    clear CD cd
    gi_wp2_with fail
    refine⟨trivial,(callsIn_wide.2 CD0.out).mono ?_⟩
    rintro e w' ⟨rfl,hw⟩
    obtain rfl:_=w':=hw.symm
    gi_wp2
    refine⟨by simp,.inl ⟨_,_,rfl,run_takeDeferred HK.out,?_⟩⟩
    refine⟨_,results_tmp2 rfl _ _ _,?_⟩
    exact⟨_,rfl,nilBytes _,HF.out⟩
structure TakRel (w wr:World) (D Kd Bm:Nat) (a:ModA) (s:ModD) (rest:List jqd) (X:List Nat) (c k L R:Nat) (T:List Nat):Prop where
 at_:jvs Bm a (runK s c k) wr
 d:jqf wr D Kd L R (qyd T X)
 laid:Laid L R ((qjv s c 8).drop k++rest) T
 span:jqw L R∧65536≤R
 on:jqx (D::a.all) w wr
theorem takeBits1_any {w:World} {D Kd Bm L R c:Nat} {a:ModA} {s:ModD} {rest:List jqd} {T X:List Nat} (hc:c<256) (hat:jvs Bm a s w) (hd:jqf w D Kd L R (qyd T X)) (hla:Laid L R (qjv s c 8++rest) T) (hsp:jqw L R) (hR:65536≤R) (hps:∀ p∈qjv s c 8++rest,p.ok) (hX:∀ y∈X,y<256) :
  Calls prog 160 #[.pointer (some ⟨D,0,none⟩),.pointer (some ⟨Bm,0,none⟩)] w fun e w'=>e=.returned (.int .u8 (c:Int))∧∃ L' R' T',Laid L' R' rest T'∧jqw L' R'∧65536≤R'∧jvs Bm a (runK s c 8) w'∧jqf w' D Kd L' R' (qyd T' X)∧jqx (D::a.all) w w':=by
 have HX:=jq hX
 have HPS:=jq hps
 have H0:=jq (⟨hat,hd,hla,⟨hsp,hR⟩,jqx.refl _ _⟩:TakRel w w D Kd Bm a s rest X c 0 L R T)
 have H80:=jq (highK_zero hc)
 clear hat hd hla hsp hR hps hX
 go_enter func160,ntmps160
 go_wp2
 go_loopw [4,7] (fun ci i wr=>∃ (k L R q:Nat) (T:List Nat),k≤8∧i=.int .i64 (k:Int)∧ci=.int .i64 (q:Int)∧q=qvf c k∧TakRel w wr D Kd Bm a s rest X c k L R T) (fun _ i _=>8 - (intOf i).toNat)
 case atStart=>exact⟨0,L,R,0,T,Nat.zero_le _,rfl,rfl,H80.out.symm,H0.out⟩
 case round =>
  clear H0 H80
  obtain⟨k,L,R,q,T,hk,rfl,rfl,hq,hrel⟩:=hrel
  have HR:=jq hrel
  have hbox:=hrel.at_.box.cell
  have hq256:q<256:=by rw[hq];exact highK_lt hc k
  clear hrel
  by_cases hlt:k<8
  ·have hki:(k:Int)<8:=by omega
   have hb2:=bitD_lt c k
   have hqn:=highK_next (c:=c) hlt
   rw[←hq] at hqn
   clear hq
   obtain⟨b,hb⟩:∃ b,b=bitD c k:=⟨_,rfl⟩
   rw[←hb] at hb2 hqn
   have CP:=jq (modP_any HR.out.at_.m)
   have CQ:=jq (fun W=>part_any (runK s c k) b W)
   have hch:=(runK s c k).chance_ok
   have hdr:=bitsP_drop s c hlt
   rw[←hb] at hdr
   have hla:=HR.out.laid
   rw[hdr,List.cons_append] at hla
   obtain⟨n,L',R',T',hla2,hi2,hR2,hlo,hhi,CF,CT⟩:=back_more (X:=X) hla HR.out.span.1 HR.out.span.2 (fun p hp=>by
    rcases List.mem_cons.1 hp with rfl | hp
    ·exact bitP_ok _ _
    ·rcases List.mem_append.1 hp with hp | hp
     ·exact HPS.out p (List.mem_append_left _ (List.mem_of_mem_drop hp))
     ·exact HPS.out p (List.mem_append_right _ hp)) HX.out
   have hseen:runK s c (k+1)=(runK s c k).seen (b:Int):=by rw[hb];rfl
   have htot:(bitP (runK s c k) b).total=65536:=by unfold bitP;split <;> rfl
   rw[htot] at CF CT
   have hpart:(b=1→(n:Int)<(runK s c k).chance)∧(b=0→¬ ((n:Int)<(runK s c k).chance)):=by
    refine⟨fun e=>?_,fun e=>?_⟩
    ·rw[e] at hhi;unfold bitP at hhi;rw[if_neg (by decide)] at hhi;dsimp only at hhi;omega
    ·rw[e] at hlo;unfold bitP at hlo;rw[if_pos rfl] at hlo;dsimp only at hlo;omega
   have HSEEN:=jq hseen
   have HN2:=jq (And.intro hla2 (And.intro hi2 hR2))
   clear hb hdr hla hla2 hi2 hR2 hlo hhi hseen
   obtain⟨⟨lo,sz,tot⟩,hp⟩:∃ p,p=bitP (runK s c k) b:=⟨_,rfl⟩
   rw[←hp] at CQ CT htot
   dsimp only at CQ CT htot
   subst htot
   obtain⟨p,hpp⟩:∃ p,p=(runK s c k).chance:=⟨_,rfl⟩
   rw[←hpp] at CP CQ hpart hch
   have CF1:=jq CF
   have CT1:=jq CT
   have HQN:=jq hqn
   clear hp hpp CF CT hch hqn
   go_wp2_with fail
   refine CP.out.mono ?_
   rintro e w1 ⟨rfl,hb1⟩
   have HD1:=jq (HR.out.d.below hb1)
   have HA1:=jq (HR.out.at_.grow hb1)
   have HB1:=jq (HR.out.on.trans (jqx.of_below hb1))
   clear hbox hb1 CP
   go_wp2_with fail
   refine (CF1.out _ _ _ HD1.out).mono ?_
   rintro e w2 ⟨rfl,hd2,ht2⟩
   have hu2:=HD1.out.turnedT ht2
   have HD2:=jq hd2
   have HA2:=jq (HA1.out.onlyT hu2 (by decide) (by decide) (by decide) (by decide) (by decide))
   have HB2:=jq (HB1.out.trans (jqx.of_turns ht2 (by simp)))
   clear hd2 ht2 hu2 CF1 HD1 HA1 HB1
   rcases (by omega:b=0∨b=1) with rfl | rfl
   ·have hnp:=hpart.2 rfl
    clear hpart hb2
    rw[show ((0:Nat):Int)=0 from rfl] at CQ HSEEN
    have CQ1:=jq (fun W=>CQ.out W)
    have hqq:((qvf c (k+1):Nat):Int)=(q:Int)*2:=by have:=HQN.out;omega
    have hq2:q*2<256:=by have:=HQN.out;have:=highK_lt hc (k+1);omega
    have HQQ:=jq hqq
    clear CQ hqq
    go_wp2_with fail
    refine (CQ1.out _).mono ?_
    rintro e w' ⟨rfl,hw⟩
    obtain rfl:_=w':=hw.symm
    go_wp2_with fail
    refine (CT1.out _ _ _ HD2.out).mono ?_
    rintro e w3 ⟨rfl,hd3,ht3⟩
    have hu3:=HD2.out.turnedT ht3
    have ha3:=HA2.out.onlyT hu3 (by decide) (by decide) (by decide) (by decide) (by decide)
    have CS:=jq (qxl 0 ha3.m)
    have hbox:=ha3.box.cell
    have HD3:=jq hd3
    have HA3:=jq ha3
    have HB3:=jq (HB2.out.trans (jqx.of_turns ht3 (by simp)))
    clear hd3 ht3 hu3 ha3 CT1 CQ1 HD2 HA2 HB2
    go_wp2_with fail
    refine CS.out.mono ?_
    rintro e w4 ⟨⟨u,rfl⟩,hm4,hu4⟩
    have ht4:=HA3.out.m.turned (B:=0) hu4 (fun _ _=>Nat.zero_le _)
    have HN:=jq (⟨by rw[HSEEN.out];exact HA3.out.next hm4 ht4,HD3.out.onlyS hu4 HA3.out.m.nob,HN2.out.1,HN2.out.2,HB3.out.trans (hu4.mono fun g hg=>by simp[hg])⟩:TakRel w w4 D Kd Bm a s rest X c (k+1) L' R' T')
    clear hm4 hu4 ht4 hbox CS HD3 HA3 HB3
    go_wp2
    go_roundw
    case rel=>exact⟨k+1,L',R',qvf c (k+1),T',by omega,by go_num,by rw[HQQ.out],rfl,HN.out⟩
    case measure=>simp[intOf];omega
   ·have hnp:=hpart.1 rfl
    clear hpart hb2
    rw[show ((1:Nat):Int)=1 from rfl] at CQ HSEEN
    have CQ1:=jq (fun W=>CQ.out W)
    have hqq:((qvf c (k+1):Nat):Int)=(q:Int)*2+1:=by have:=HQN.out;omega
    have hq2:q*2+1<256:=by have:=HQN.out;have:=highK_lt hc (k+1);omega
    have HQQ:=jq hqq
    clear CQ hqq
    go_wp2_with fail
    refine (CQ1.out _).mono ?_
    rintro e w' ⟨rfl,hw⟩
    obtain rfl:_=w':=hw.symm
    go_wp2_with fail
    refine (CT1.out _ _ _ HD2.out).mono ?_
    rintro e w3 ⟨rfl,hd3,ht3⟩
    have hu3:=HD2.out.turnedT ht3
    have ha3:=HA2.out.onlyT hu3 (by decide) (by decide) (by decide) (by decide) (by decide)
    have CS:=jq (qxl 1 ha3.m)
    have hbox:=ha3.box.cell
    have HD3:=jq hd3
    have HA3:=jq ha3
    have HB3:=jq (HB2.out.trans (jqx.of_turns ht3 (by simp)))
    clear hd3 ht3 hu3 ha3 CT1 CQ1 HD2 HA2 HB2
    go_wp2_with fail
    refine CS.out.mono ?_
    rintro e w4 ⟨⟨u,rfl⟩,hm4,hu4⟩
    have ht4:=HA3.out.m.turned (B:=0) hu4 (fun _ _=>Nat.zero_le _)
    have HN:=jq (⟨by rw[HSEEN.out];exact HA3.out.next hm4 ht4,HD3.out.onlyS hu4 HA3.out.m.nob,HN2.out.1,HN2.out.2,HB3.out.trans (hu4.mono fun g hg=>by simp[hg])⟩:TakRel w w4 D Kd Bm a s rest X c (k+1) L' R' T')
    clear hm4 hu4 ht4 hbox CS HD3 HA3 HB3
    go_wp2
    go_roundw
    case rel=>exact⟨k+1,L',R',qvf c (k+1),T',by omega,by go_num,by rw[HQQ.out],rfl,HN.out⟩
    case measure=>simp[intOf];omega
  ·obtain rfl:k=8:=by omega
   have hla:=HR.out.laid
   rw[List.drop_of_length_le (by rw[qwl];exact Nat.le_refl _),List.nil_append] at hla
   rw[highK_eight] at hq
   subst hq
   have HLA:=jq hla
   have hw8:IntKind.u8.wrap (q:Int)=(q:Int):=by rw[IntKind.wrap_u8];omega
   clear hla
   go_wp2
   go_ret
   exact⟨rfl,L,R,T,HLA.out,HR.out.span.1,HR.out.span.2,HR.out.at_,HR.out.d,HR.out.on⟩
theorem takeLetter1_any {w:World} {D Kd Bm F T S L R k:Nat} {c:List Int} {rest:List jqd} {Q X:List Nat} (hi:InvF c) (hk:k<256) (hat:qjx Bm F T S c w) (hd:jqf w D Kd L R (qyd Q X)) (hla:Laid L R ([letP c k]++rest) Q) (hsp:jqw L R) (hR:65536≤R) (hps:∀ p∈[letP c k]++rest,p.ok) (hX:∀ y∈X,y<256) :
  Calls prog 150 #[.pointer (some ⟨D,0,none⟩),.pointer (some ⟨Bm,0,none⟩)] w fun e w'=>e=.returned (.int .u8 (k:Int))∧∃ L' R' Q',Laid L' R' rest Q'∧jqw L' R'∧65536≤R'∧qjx Bm F T S (qbk c k) w'∧jqf w' D Kd L' R' (qyd Q' X)∧jqx (D::[T,S]) w w':=by
 have hk':k<c.length:=by rw[hi.1.1];exact hk
 obtain⟨v1,v2,v3,v4,v5,v6,v7⟩:=letP_vals hi hk
 obtain⟨n,L',R',Q',hla2,hi2,hR2,hlo,hhi,CF,CT⟩:=back_more (X:=X) hla hsp hR hps hX
 have hfind:jgz c (n:Int)=some k:=qmc (fun x hx=>Int.le_trans (by decide) (hi.1.2 x hx)) (by omega) hk' (by omega) (by rw[v7];omega)
 have HI:=jq hi
 have HA:=jq hat
 have HD:=jq hd
 have CO:=jq (fun (W:World) (h:qjx Bm F T S c W)=>freqOf_at k h.f hk')
 have CX:=jq (fun (W:World) (h:qjx Bm F T S c W)=>freqFind_any (n:Int) h.f)
 rw[hfind] at CX
 rw[←getD_at hk',←v1,←v2] at CO
 have CN:=jq (jgv hat.f)
 rw[←v3] at CN
 have HN2:=jq (And.intro hla2 (And.intro hi2 hR2))
 have hbox:=hat.box.cell
 have hkw:IntKind.u8.wrap (k:Int)=(k:Int):=by rw[IntKind.wrap_u8];omega
 clear hk' v1 v2 v3 v4 v5 v6 v7 hla2 hi2 hR2 hlo hhi hfind hat hd hla hsp hR hps hX hi
 obtain⟨⟨lo,sz,tot⟩,hp⟩:∃ p,p=letP c k:=⟨_,rfl⟩
 rw[←hp] at CF CT CO CN
 dsimp only at CF CT CO CN
 have CF1:=jq CF
 have CT1:=jq CT
 clear hp CF CT
 simp only[findV] at CX
 go_enter func150,ntmps150
 go_wp2_with fail
 refine CN.out.mono ?_
 rintro e w' ⟨rfl,hw⟩
 obtain rfl:_=w':=hw.symm
 clear CN
 go_wp2
 have HAD:=jq (show qjx Bm F T S c w.drew from ⟨HA.out.box,⟨HA.out.f.fb.same rfl,HA.out.f.tree.same rfl⟩⟩)
 have HDD:=jq HD.out.drew_
 go_region_with (first
  | (go_at_call 152;refine (CF1.out _ _ _ HDD.out).mono ?_;rintro e w2 ⟨rfl,hd2,ht2⟩;have hu2:=HDD.out.turnedT ht2;have ha2:=HAD.out.onlyT hu2 (by decide) (by decide) (by decide) (by decide);have hbox:=ha2.box.cell;have HD2:=jq hd2;have HA2:=jq ha2;have HB2:=jq (jqx.of_turns ht2 (S:=D::[T,S]) (by simp));clear hd2 ht2 hu2 ha2)
  | (go_at_call 151;refine (CX.out _ HA2.out).mono ?_;rintro e w' ⟨rfl,hw⟩;obtain rfl:_=w':=hw.symm))
 all_goals
  clear CX CF1 HAD HDD
  go_wp2_with fail
  refine (CO.out _ HA2.out).mono ?_
  rintro e w3 ⟨rfl,hb3⟩
  have HA3:=jq (HA2.out.grow hb3)
  have HD3:=jq (HD2.out.below hb3)
  have HB3:=jq ((jqx.refl _ _).drew.trans (HB2.out.trans (jqx.of_below hb3)))
  clear hb3 hbox CO HA2 HD2 HB2
  go_wp2_with fail
  refine (CT1.out _ _ _ HD3.out).mono ?_
  rintro e w4 ⟨rfl,hd4,ht4⟩
  have hu4:=HD3.out.turnedT ht4
  have ha4:=HA3.out.onlyT hu4 (by decide) (by decide) (by decide) (by decide)
  have hbox:=ha4.box.cell
  have CS:=jq (letSeen_any ha4.f HI.out hk)
  have HD4:=jq hd4
  have HA4:=jq ha4
  have HB4:=jq (HB3.out.trans (jqx.of_turns ht4 (by simp)))
  clear hd4 ht4 hu4 ha4 CT1 HD3 HA3 HB3
  go_wp2_with fail
  refine CS.out.mono ?_
  rintro e w5 ⟨rfl,hm5,hu5⟩
  have ht5:=HA4.out.f.turned (B:=0) hu5 ⟨Nat.zero_le _,Nat.zero_le _⟩
  have hs5:jqx [T,S] w4 w5:=⟨hu5.os,hu5.tape,hu5.output,hu5.size,fun k hk h1=>hu5.block k hk (fun e=>h1 (by simp[e])) (fun e=>h1 (by simp[e]))⟩
  have HN:=jq (And.intro (HA4.out.next hm5 ht5) (And.intro (HD4.out.onlyS hs5 HA4.out.f.nob) (HB4.out.trans (hs5.mono fun g hg=>List.mem_cons_of_mem _ hg))))
  clear hm5 hu5 ht5 hs5 hbox CS HD4 HA4 HB4
  go_wp2
  go_ret
  exact⟨rfl,L',R',Q',HN2.out.1,HN2.out.2.1,HN2.out.2.2,HN.out.1,HN.out.2.1,HN.out.2.2⟩
end
end Go.Proofs.YtflcmmeoppdhdaaGreatDoor
