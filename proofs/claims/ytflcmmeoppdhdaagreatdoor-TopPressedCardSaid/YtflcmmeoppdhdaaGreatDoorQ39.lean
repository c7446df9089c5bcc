/- Layer 26: Decode and Adapted, of what was coded. -/
import Derived.Test.YtflcmmeoppdhdaaGreatDoorQ38
set_option maxHeartbeats 1000000
set_option maxRecDepth 100000
namespace Go.Proofs.YtflcmmeoppdhdaaGreatDoor
open Tryz
section
open Go.RowKit Go.Sort Go.Shelf
def DecBl (w:World) (Q:List UInt8) (n:Nat) (e:Ending) (w':World):Prop:=∃ v,e=.returned (.tuple #[v,.int .i64 (n:Int)])∧jjz Q v w'∧Below w.heap.size w w'
section
variable {σ:Type} {V:Way σ}
theorem goodB_start {s0:σ} (hi:V.inv s0) {l Q:List UInt8} (hQ:BldQ V s0 l Q) (X:List UInt8) (hX:X.length≤1) (h0:¬ (l=[]∧Q++X=[])) :
  GoodB V s0 (l.map UInt8.toNat) (X.map UInt8.toNat) (if X=[] then 0 else 16) [] 0 4294967295 (jxx 4 (0,(Q++X).map UInt8.toNat,0)):=by
 rcases hQ with ⟨rfl,rfl⟩ | ⟨h1,T,h2,rfl,-⟩
 ·refine⟨fun c rest h=>by simp at h,fun _=>?_⟩
  match X,hX with
  | [],_=>exact absurd ⟨rfl,rfl⟩ h0
  | [x],_=>rw[if_neg (by simp)];rfl
 ·have hok:=Way.all_ok (V:=V) (l.map UInt8.toNat) hi (u8_lt l)
  obtain⟨b1,b2,-,-⟩:=h2.within qbt (by decide) hok
  have e:(u8s T++X).map UInt8.toNat=T++X.map UInt8.toNat:=by
   rw[List.map_append]
   congr 1
   simp only[u8s,List.map_map]
   refine (List.map_congr_left fun c hc=>?_).trans (List.map_id T)
   have:=b1 c hc
   simp[UInt8.toNat_ofNat']
   omega
  rw[e,restS_start (fun y hy=>by
   rcases List.mem_append.1 hy with hy | hy
   ·exact b1 y hy
   ·exact u8_lt X y hy) b2]
  refine⟨fun c rest h=>⟨T,rfl,?_,qbt,by decide⟩,fun h=>?_⟩
  ·rw[List.nil_append] at h
   rw[←h]
   exact h2
  ·exact absurd (List.map_eq_nil_iff.1 h) h1
end
theorem takeBits_any (M:Nat) (w:World):Calls prog 101 #[.pointer (some ⟨M,0,none⟩)] w fun e w'=>∃ Bm,e=.returned (.func (.func 160) #[] #[.pointer (some ⟨Bm,0,none⟩)])∧w.heap.size≤Bm∧Boxed w' Bm 149 (.pointer (some ⟨M,0,none⟩))∧Below w.heap.size w w':=by
 go_enter func101,ntmps101
 go_wp2
 go_ret
 exact⟨w.heap.size,rfl,Nat.le_refl _,Boxed.new _ _ _,(Below.refl _ _).alloc jw _⟩
theorem takeLetter_any (M:Nat) (w:World):Calls prog 98 #[.pointer (some ⟨M,0,none⟩)] w fun e w'=>∃ Bm,e=.returned (.func (.func 150) #[] #[.pointer (some ⟨Bm,0,none⟩)])∧w.heap.size≤Bm∧Boxed w' Bm 142 (.pointer (some ⟨M,0,none⟩))∧Below w.heap.size w w':=by
 go_enter func98,ntmps98
 go_wp2
 go_ret
 exact⟨w.heap.size,rfl,Nat.le_refl _,Boxed.new _ _ _,(Below.refl _ _).alloc jw _⟩
theorem bitsTake_j {Bm:Nat} {a:ModA}:TakeJ bitWay 160 #[.pointer (some ⟨Bm,0,none⟩)] a.all (fun k=>k=Bm∨k∈a.every) (jvs Bm a) :=
  ⟨fun {s w w'} h hk=>by
    have q:∀ {g:Nat} {t:TypeId} {cs:List Value},Blk w g t cs→g∈a.every→Blk w' g t cs:=fun hb hg=>(hk _ (.inr hg)).trans hb
    have m:=h.m
    exact⟨(hk _ (.inl rfl)).trans h.box,⟨q m.mb (by simp[ModA.every]),⟨q m.b1.fb (by simp[ModA.every]),q m.b1.cb (by simp[ModA.every]),m.b1.row,m.b1.pow,m.b1.lo⟩,⟨q m.b2.fb (by simp[ModA.every]),q m.b2.cb (by simp[ModA.every]),m.b2.row,m.b2.pow,m.b2.lo⟩,⟨q m.b3.fb (by simp[ModA.every]),q m.b3.cb (by simp[ModA.every]),m.b3.row,m.b3.pow,m.b3.lo⟩,⟨q m.x.fb (by simp[ModA.every]),m.x.wts,m.x.lo⟩,m.ok,m.n12,m.n13,m.n23⟩⟩,
   fun _ hc hat hd hla hsp hR hps hX=>takeBits1_any hc hat hd hla hsp hR hps hX⟩
theorem letter_take {Bm F T S:Nat}:TakeJ letWay 150 #[.pointer (some ⟨Bm,0,none⟩)] [T,S] (fun k=>k=Bm∨k=F∨k=T∨k=S) (qjx Bm F T S) :=
  ⟨fun h hk=>⟨(hk _ (.inl rfl)).trans h.box,⟨(hk _ (.inr (.inl rfl))).trans h.f.fb,h.f.tree.1,(hk _ (.inr (.inr (.inl rfl)))).trans h.f.tree.2.tb,(hk _ (.inr (.inr (.inr rfl)))).trans h.f.tree.2.sb⟩⟩,
   fun hi hc hat hd hla hsp hR hps hX=>takeLetter1_any hi hc hat hd hla hsp hR hps hX⟩
theorem decoded_nil (A:Option Addr) (m:Nat) (f:Value) (w:World):Calls prog 97 #[.slice A (0:Nat) m,.int .i64 ((0:Nat):Int),f] w fun e w'=>e=.returned (.tuple #[.slice none 0 0,.int .i64 0])∧w'=w:=by
 go_enter func97,ntmps97
 go_wp2
 go_ret2
 exact⟨rfl,rfl⟩
theorem decoded_q {σ:Type} {V:Way σ} {K:Nat} {caps:Array Value} {S:List Nat} {own:Nat→Prop} {At:σ→World→Prop} (HJ:TakeJ V K caps S own At) (hE:Enters prog K) {w:World} {B:Nat} {A:Option Addr} {m:Nat} {l Q X:List UInt8} {s0:σ}
  (hQ:BldQ V s0 l Q) (hl:l.length≤1000) (hX:X.length≤1) (hr:Rd w w.heap.size A (bvs (Q++X))) (hi:V.inv s0) (hat:At s0 w) (hown:∀ k,own k→k<w.heap.size) (hS:∀ k∈S,B≤k∧k<w.heap.size) (hB:B≤w.heap.size) :
  Calls prog 97 #[.slice A (Q++X).length m,.int .i64 (l.length:Int),.func (.func K) #[] caps] w fun e w'=>∃ v,e=.returned (.tuple #[v,.int .i64 ((if X=[] then 0 else 16:Nat):Int)])∧jjz (if X=[] then l else []) v w'∧Below B w w':=by
 by_cases h0:l=[]∧Q++X=[]
 ·obtain⟨rfl,h2⟩:=h0
  obtain⟨-,rfl⟩:=List.append_eq_nil_iff.1 h2
  rw[h2]
  refine (decoded_nil A m _ w).mono ?_
  rintro e w' ⟨rfl,rfl⟩
  exact⟨_,rfl,nilBytes _,Below.refl _ _⟩
 ·have hlen:(Q++X).length≤100000:=by
   rw[List.length_append]
   rcases hQ with ⟨-,rfl⟩ | ⟨-,T,-,rfl,hT⟩
   ·simp;omega
   ·rw[jqz];omega
  have hll:(l.map UInt8.toNat).length=l.length:=List.length_map _
  have hlu:u8s (l.map UInt8.toNat)=l:=by
   simp only[u8s,List.map_map]
   exact (List.map_congr_left fun c _=>UInt8.ofNat_toNat).trans (List.map_id l)
  refine (decoded_any (B:=B) (m:=m) (X:=X.map UInt8.toNat) HJ hE hr rfl hlen hll hl (u8_lt l) (u8_lt X) hi hat hown hS hB ?_ ?_ (goodB_start hi hQ X hX h0) ?_).mono ?_
  ·intro _
   by_cases hx:X=[]
   ·rw[if_pos hx,if_pos (by rw[hx];rfl)]
   ·rw[if_neg hx,if_neg (fun e=>hx (List.map_eq_nil_iff.1 e))]
  ·split
   ·exact .inl rfl
   ·exact .inr rfl
  ·by_cases hl0:l=[]
   ·refine .inr ⟨by rw[hl0];rfl,fun e=>h0 ⟨hl0,List.length_eq_zero_iff.1 e⟩⟩
   ·exact .inl fun e=>hl0 (List.length_eq_zero_iff.1 e)
  ·rintro e w' ⟨v,rfl,hv,hb⟩
   refine⟨v,rfl,?_,hb⟩
   rw[hlu] at hv
   by_cases hx:X=[]
   ·rw[if_pos hx] at hv ⊢
    exact hv
   ·rw[if_neg hx] at hv ⊢
    exact hv
theorem blendDecode_q {w:World} {l Q X:List UInt8} (hQ:BldQ bitWay newD l Q) (hl:l.length≤1000) (hX:X.length≤1) (v:Value) (h:jjz (Q++X) v w) :
  Calls prog 61 #[v,.int .i64 (l.length:Int)] w (DecBl w (if X=[] then l else []) (if X=[] then 0 else 16)):=by
 obtain⟨A,c,rfl,hc,hr⟩:=h
 have HQ:=jq hQ
 have HL:=jq hl
 have HX:=jq hX
 have HR:=jq hr
 obtain⟨N,hN⟩:∃ N,N=l.length:=⟨_,rfl⟩
 obtain⟨M,hM⟩:∃ M,M=(Q++X).length:=⟨_,rfl⟩
 rw[←hN,←hM]
 have HN:=jq (And.intro hN hM)
 obtain⟨Z,hZ⟩:∃ Z,Z=if X=[] then l else []:=⟨_,rfl⟩
 obtain⟨z,hz⟩:∃ z,z=if X=[] then 0 else 16:=⟨_,rfl⟩
 rw[←hZ,←hz]
 have HZ:=jq (And.intro hZ hz)
 clear hQ hl hr hc hN hM hX hZ hz
 go_enter func61,ntmps61
 go_wp2_with fail
 refine (modNew_any w).mono ?_
 rintro e w1 ⟨a,rfl,hm1,hlo1,hb1⟩
 have H1:=jq (And.intro hm1 (And.intro hlo1 hb1))
 clear hm1 hlo1 hb1
 go_wp2_with fail
 refine (takeBits_any a.M w1).mono ?_
 rintro e w2 ⟨Bm,rfl,-,hbox,hb2⟩
 have hb12:=H1.out.2.2.trans (hb2.mono H1.out.2.2.size)
 have hm2:=H1.out.1.grow hb2
 have hev:=hm2.lt
 have C:=decoded_q (B:=w.heap.size) (m:=c) (bitsTake_j (Bm:=Bm) (a:=a)) (enters_of func160 (by kernel_rfl) rfl) HQ.out HL.out HX.out ((HR.out.below hb12).more hb12.size) newD_ok ⟨hbox,hm2⟩
  (fun k hk=>by
   rcases hk with rfl | hk
   ·exact Blk.lt (cs:=[_]) hbox
   ·exact hev k hk) (fun k hk=>⟨H1.out.2.1 k (ModA.all_every k hk),hev k (ModA.all_every k hk)⟩) hb12.size
 rw[←HN.out.1,←HN.out.2,←HZ.out.1,←HZ.out.2] at C
 have C1:=jq C
 have HB:=jq hb12
 clear hbox hb2 hb12 C H1 hm2 hev
 go_wp2_with fail
 refine C1.out.mono ?_
 rintro e w3 ⟨v,rfl,hv,hb3⟩
 have HF:=jq (And.intro hv (HB.out.trans hb3))
 clear hv hb3 C1
 go_wp2
 go_ret2
 exact⟨v,rfl,HF.out⟩
theorem blendAdapted_q {w:World} {l Q X:List UInt8} (hQ:BldQ letWay noneF l Q) (hl:l.length≤1000) (hX:X.length≤1) (v:Value) (h:jjz (Q++X) v w) :
  Calls prog 59 #[v,.int .i64 (l.length:Int)] w (DecBl w (if X=[] then l else []) (if X=[] then 0 else 16)):=by
 obtain⟨A,c,rfl,hc,hr⟩:=h
 have HQ:=jq hQ
 have HL:=jq hl
 have HX:=jq hX
 have HR:=jq hr
 obtain⟨N,hN⟩:∃ N,N=l.length:=⟨_,rfl⟩
 obtain⟨M,hM⟩:∃ M,M=(Q++X).length:=⟨_,rfl⟩
 rw[←hN,←hM]
 have HN:=jq (And.intro hN hM)
 obtain⟨Z,hZ⟩:∃ Z,Z=if X=[] then l else []:=⟨_,rfl⟩
 obtain⟨z,hz⟩:∃ z,z=if X=[] then 0 else 16:=⟨_,rfl⟩
 rw[←hZ,←hz]
 have HZ:=jq (And.intro hZ hz)
 clear hQ hl hr hc hN hM hX hZ hz
 go_enter func59,ntmps59
 go_wp2_with fail
 refine (qjj w).mono ?_
 rintro e w1 ⟨F,T,S,rfl,hm1,hlo1,hb1⟩
 have H1:=jq (And.intro hm1 (And.intro hlo1 hb1))
 clear hm1 hlo1 hb1
 go_wp2_with fail
 refine (takeLetter_any F w1).mono ?_
 rintro e w2 ⟨Bm,rfl,-,hbox,hb2⟩
 have hb12:=H1.out.2.2.trans (hb2.mono H1.out.2.2.size)
 have hm2:jzw w2 F T S noneF 24 16384:=⟨H1.out.1.fb.grow hb2,H1.out.1.tree.grow hb2⟩
 have C:=decoded_q (B:=w.heap.size) (m:=c) (letter_take (Bm:=Bm) (F:=F) (T:=T) (S:=S)) (enters_of func150 (by kernel_rfl) rfl) HQ.out HL.out HX.out ((HR.out.below hb12).more hb12.size) noneF_inv ⟨hbox,hm2⟩
  (fun k hk=>by
   rcases hk with rfl | rfl | rfl | rfl
   ·exact Blk.lt (cs:=[_]) hbox
   ·exact hm2.fb.lt
   ·exact hm2.tree.2.tb.lt
   ·exact hm2.tree.2.sb.lt) (fun k hk=>by
   simp only[List.mem_cons,List.not_mem_nil,or_false] at hk
   rcases hk with rfl | rfl
   ·exact⟨H1.out.2.1.1,hm2.tree.2.tb.lt⟩
   ·exact⟨H1.out.2.1.2,hm2.tree.2.sb.lt⟩) hb12.size
 rw[←HN.out.1,←HN.out.2,←HZ.out.1,←HZ.out.2] at C
 have C1:=jq C
 have HB:=jq hb12
 clear hbox hb2 hb12 C H1 hm2
 go_wp2_with fail
 refine C1.out.mono ?_
 rintro e w3 ⟨v,rfl,hv,hb3⟩
 have HF:=jq (And.intro hv (HB.out.trans hb3))
 clear hv hb3 C1
 go_wp2
 go_ret2
 exact⟨v,rfl,HF.out⟩
end
end Go.Proofs.YtflcmmeoppdhdaaGreatDoor
