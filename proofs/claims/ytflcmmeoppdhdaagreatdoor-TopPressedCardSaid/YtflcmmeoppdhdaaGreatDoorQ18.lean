/- Contracts of layer 15: Make, Of, Letter, Bits. · Contracts of layer 15: Of, Letter, Bits; the fixed calls. · Layer 23: the program's small functions. · Layer 23: a bank of chances, of the program. · .. -/
import Derived.Test.YtflcmmeoppdhdaaGreatDoorQ08
import Derived.Test.YtflcmmeoppdhdaaGreatDoorQ17
set_option maxHeartbeats 4000000
set_option maxRecDepth 100000
namespace Go.Proofs.YtflcmmeoppdhdaaGreatDoor
open Tryz
section
open Go.RowKit Go.Sort Go.Shelf
def jwf (w:World) (P:Nat) (c:List Int) (b T:Nat):Prop :=
 (∃ F H,qwb w P F H c c.length b T)∧(∀ x∈c,0≤x)∧c.sum=(T:Int)∧T≤65536∧c.length≤4096
theorem jwf.grow {w w':World} {P b T:Nat} {c:List Int} (h:jwf w P c b T) (hb:Below w.heap.size w w'):jwf w' P c b T:=by
 obtain⟨⟨F,H,h1⟩,h2⟩:=h
 exact⟨⟨F,H,h1.grow hb⟩,h2⟩
theorem info_short:(prog.info? 162).map (fun i=>(i.zero,i.size,i.bytes))=some (some (.int .u16 0),1,2):=by kernel_rfl
def jvn (B n:Nat) (v:Value) (w:World):Prop:=∃ g,v=.slice (some ⟨g,0,none⟩) n n∧B≤g∧Blk w g 162 (hvs (List.replicate n 0))
theorem jvn.grow (B n:Nat) (v:Value) (w w':World) (h:jvn B n v w) (hb:Below w.heap.size w w'):jvn B n v w':=by
 obtain⟨g,h1,h2,h3⟩:=h
 exact⟨g,h1,h2,h3.grow hb⟩
def qwv (B n T:Nat) (b:Int) (v:Value) (w:World):Prop:=∃ x y,v=.agg #[x,y,.int .i64 b]∧jwz B n x w∧jvn B T y w
theorem qwv.grow (B n T:Nat) (b:Int) (v:Value) (w w':World) (h:qwv B n T b v w) (hb:Below w.heap.size w w'):qwv B n T b v w':=by
 obtain⟨x,y,h1,h2,h3⟩:=h
 exact⟨x,y,h1,jwz.grow _ _ _ _ _ h2 hb,jvn.grow _ _ _ _ _ h3 hb⟩
def jbz (B n T:Nat) (b:Int) (v:Value) (w:World):Prop:=∃ p x y,v=.pointer (some ⟨p,0,none⟩)∧B≤p∧Blk w p 178 [x,y,.int .i64 b]∧jwz B n x w∧jvn B T y w
theorem jbz.grow (B n T:Nat) (b:Int) (v:Value) (w w':World) (h:jbz B n T b v w) (hb:Below w.heap.size w w'):jbz B n T b v w':=by
 obtain⟨p,x,y,h1,h2,h3,h4,h5⟩:=h
 exact⟨p,x,y,h1,h2,h3.grow hb,jwz.grow _ _ _ _ _ h4 hb,jvn.grow _ _ _ _ _ h5 hb⟩
section
variable {w:World} {B:Nat} {A:Option Addr} {n m:Nat} {c:List Int}
theorem slotMake_ok (b T:Nat) (hb1:1≤b) (hb2:b≤16) (hT:T=2^b) (hr:Rd w w.heap.size A (zvs c)) (hn:c.length=n) (hn1:n≤4096) (hbad:c.any sBad=false) (hs:c.sum=(T:Int)) :
  Calls prog 85 #[.slice A n m,.int .i64 (b:Int)] w fun e w'=>∃ P,e=.returned (.tuple #[.pointer (some ⟨P,0,none⟩),.int .i64 0])∧jwf w' P c b T∧Below w.heap.size w w':=by
 obtain⟨i0,hi,hz0,hz1,hz2⟩:=info_parts jwk
 obtain⟨i1,hj,hy0,hy1,hy2⟩:=info_parts info_short
 have c1:=slotBad_any (m:=m) hr hn hn1
 rw[hbad] at c1
 have hT1:T≤65536:=by rw[hT];exact Nat.pow_le_pow_right (n:=2) (by decide) hb2
 have hpow:(2:Int)^b=(T:Int):=by rw[hT];simp
 have C1:=jq c1
 have C2:=jq (slotFill_any (m:=m) T hT1 hr hn hn1 (sBad_not hbad) true (Iff.intro (fun _=>hs) (fun _=>rfl)))
 have HR:=jq hr
 have HC:=jq hn
 have HN:=jq (sBad_not hbad)
 have HS:=jq hs
 clear hr hn c1 hbad hs hT
 go_enter func85,ntmps85
 go_wp2_with fail
 refine C1.out.mono ?_
 rintro e w' ⟨rfl,hw⟩
 obtain rfl:_=w':=hw.symm
 go_wp2_with fail
 refine C2.out.mono ?_
 rintro e w' ⟨rfl,hw⟩
 obtain rfl:_=w':=hw.symm
 clear C1 C2 hpow
 go_wp2
 refine jyw [⟨31,[],.is (.slice A n m)⟩,
  ⟨32,[0],.is (.int .i64 (n:Int))⟩,
  ⟨33,[1],.is (.int .i64 ((n+1:Nat):Int))⟩,
  ⟨34,[2],.such (jwz w.heap.size (n+1)) (jwz.grow w.heap.size (n+1))⟩,
  ⟨35,[],.is (.int .i64 (T:Int))⟩,
  ⟨36,[4],.such (jvn w.heap.size T) (jvn.grow w.heap.size T)⟩,
  ⟨37,[],.is (.int .i64 (b:Int))⟩,
  ⟨38,[3,5,6],.such (qwv w.heap.size (n+1) T b) (qwv.grow w.heap.size (n+1) T b)⟩,
  ⟨39,[7],.such (jbz w.heap.size (n+1) T b) (jbz.grow w.heap.size (n+1) T b)⟩,
  ⟨7,[8],.such (jbz w.heap.size (n+1) T b) (jbz.grow w.heap.size (n+1) T b)⟩]
  [(0,.slice A n m),(6,.int .i64 (T:Int)),(1,.int .i64 (b:Int))] (by kernel_rfl) (by kernel_rfl) (by kernel_rfl) (by kernel_rfl) (by kernel_rfl) ⟨rfl,rfl,rfl,trivial⟩ ?_ ?_
 ·repeat' (first | exact jzr.nil | refine jzr.cons ?_ ?_)
  all_goals (intro ev yi w1 hB hc hf ho hn;simp only[jyk,jdn,rowAt,Fact.says,and_true] at ho hn)
  all_goals (try ((simp[jzv,execOp,Region.wanted,Fact.says,go_sem,ho,hn,hc,Below.refl];done)))
  ·rw[if_pos (by simp[Region.wanted])]
   simp[jzv,execOp,go_sem,hn,hc,Fact.says]
   refine⟨by rw[IntKind.wrap_i64];omega,Below.refl _ _⟩
  ·rw[if_pos (by simp[Region.wanted])]
   exact says_mk rfl 3 i0 (.int .i64 0) underlying35 hi hz0 rfl hz1 (by rw[hz2];decide) (n+1) hn.1 hn.1 (by omega) ⟨⟨w1.heap.size,rfl,hB.size,by
    have h:=heap_alloc_new w1 (.cells (List.replicate (n+1) (Value.int .i64 0)).toArray 3)
    unfold Blk
    rw[h]
    simp[zvs]⟩,(Below.refl _ _).alloc jw _⟩
  ·rw[if_pos (by simp[Region.wanted])]
   exact says_mk rfl 162 i1 (.int .u16 0) underlying176 hj hy0 rfl hy1 (by rw[hy2];decide) T hn.1 hn.1 (by omega) ⟨⟨w1.heap.size,rfl,hB.size,by
    have h:=heap_alloc_new w1 (.cells (List.replicate T (Value.int .u16 0)).toArray 162)
    unfold Blk
    rw[h]
    simp[hvs]⟩,(Below.refl _ _).alloc jw _⟩
  ·rw[if_pos (by simp[Region.wanted])]
   obtain⟨h1,-,h2,-,h3,-⟩:=hn
   obtain⟨g1,e1,r1⟩:=h1
   obtain⟨g2,e2,r2⟩:=h2
   simp[jzv,execOp,go_sem,e1,e2,h3,Fact.says]
   exact⟨⟨_,_,rfl,⟨g1,rfl,r1⟩,⟨g2,rfl,r2⟩⟩,Below.refl _ _⟩
  ·rw[if_pos (by simp[Region.wanted])]
   obtain⟨x,y,e1,h2,h3⟩:=hn.1
   simp[jzv,execOp,go_sem,e1,Fact.says]
   have hb:=(Below.refl w1.heap.size w1).alloc jw (.cells #[x,y,Value.int IntKind.i64 (b:Int)] 178)
   exact⟨⟨_,x,y,rfl,hB.size,heap_alloc_new w1 _,jwz.grow _ _ _ _ _ h2 hb,jvn.grow _ _ _ _ _ h3 hb⟩,hb⟩
 ·intro x w1 hb1 hx
  obtain⟨P,x1,x2,h7,hP,hpb,⟨F,rfl,hF,hfb⟩,⟨H,rfl,hH,hhb⟩⟩:jbz w.heap.size (n+1) T b (x 9) w1:=hx 9 (by decide)
  clear hx
  simp only[layAll,List.setIfInBounds_toArray,List.set_cons_succ,List.set_cons_zero,Nat.zero_add,Nat.reduceAdd,h7]
  have hsh:qwb w1 P F H c 0 b T:=⟨by rw[HC.out];exact hpb,by rw[fRow2_zero,HC.out];exact hfb,by rw[hRow_zero];exact hhb⟩
  have HSH:=jq hsh
  have HB1:=jq hb1
  have HFH:=jq (And.intro hF hH)
  clear hsh hb1 hpb hF hfb hH hhb h7 hP hi hz0 hz1 hz2 hj hy0 hy1 hy2
  go_wp2
  go_loopw [42] (fun i wr=>∃ k:Nat,k≤n∧i=.int .i64 (k:Int)∧qwb wr P F H c k b T∧Below w.heap.size w wr) (fun i _=>n - (intOf i).toNat)
  case atStart=>exact⟨0,Nat.zero_le _,rfl,HSH.out,HB1.out⟩
  case round =>
   clear HSH HB1
   obtain⟨k,hk,rfl,hsh,hb⟩:=hrel
   have HSH:=jq hsh
   have HB:=jq hb
   clear hsh hb
   by_cases hlt:k<n
   ·have hkc:k<c.length:=by have:=HC.out;omega
    obtain⟨ab,ao,rfl,hab,hcell0⟩:=jjn HR.out hkc
    have hcell:=(HB.out.cell (p:=⟨ab,ao+k,none⟩) hab).trans hcell0
    have C:=jq (slotGive_any k HSH.out HN.out HS.out hT1 (by rw[HC.out];exact hn1) hkc)
    obtain⟨x0,hx0⟩:∃ x0,x0=c[k]'hkc:=⟨_,rfl⟩
    rw[←hx0] at hcell C
    have hki:(k:Int)<(n:Int):=by omega
    clear hcell0 hx0 hab
    go_wp2_with fail
    refine C.out.mono ?_
    rintro e w3 ⟨⟨u,rfl⟩,hs3,hu3⟩
    have HS3:=jq hs3
    have HB3:=jq (HB.out.trans (hu3.below HFH.out.1 HFH.out.2 HB.out.size))
    clear hs3 hu3 hcell
    go_wp2
    go_roundw
    case rel=>exact⟨k+1,by omega,by go_num,HS3.out,HB3.out⟩
    case measure=>simp[intOf];omega
   ·obtain rfl:k=n:=by omega
    have hfin:jwf wr P c b T:=⟨⟨F,H,by rw[HC.out];exact HSH.out⟩,HN.out,HS.out,hT1,by rw[HC.out];exact hn1⟩
    have HFIN:=jq hfin
    clear hfin
    go_wp2
    go_ret2
    exact⟨P,rfl,HFIN.out,HB.out⟩
end
section
variable {w:World} {P b T:Nat} {c:List Int}
theorem slotOf_at (k:Nat) (h:jwf w P c b T) (hk:k<c.length):Calls prog 88 #[.pointer (some ⟨P,0,none⟩),.int .i64 (k:Int)] w fun e w'=>e=.returned (.tuple #[.int .i64 (fPre c k),.int .i64 (c[k]'hk)])∧Below w.heap.size w w':=by
 obtain⟨⟨F,H,hp,hf,-⟩,hc,hs,hT,hl⟩:=h
 have c0:=hp.cell 0
 simp only[jy] at c0
 have f0:=hf.cell k
 have f1:=hf.cell (k+1)
 rw[jql,jdy c _ k (by omega),if_pos (by omega)] at f0
 rw[jql,jdy c _ (k+1) (by omega),if_pos (by omega)] at f1
 simp only[Option.map_some] at f0 f1
 have hsn:=jqm c k hk
 have g0:=jvd hc k
 have g1:=jwp hc (k+1)
 have g2:=hc _ (List.getElem_mem hk)
 rw[hs] at g1
 obtain⟨x,hx⟩:∃ x,x=c[k]'hk:=⟨_,rfl⟩
 obtain⟨p,hp1⟩:∃ p,p=fPre c k:=⟨_,rfl⟩
 obtain⟨q,hq1⟩:∃ q,q=fPre c (k+1):=⟨_,rfl⟩
 rw[←hx] at hsn g2 ⊢
 rw[←hp1] at hsn g0 f0 ⊢
 rw[←hq1] at hsn g1 f1
 obtain⟨n,hn⟩:∃ n,n=c.length:=⟨_,rfl⟩
 rw[←hn] at c0 hl hk
 have hki:(k:Int)<(n:Int):=by omega
 have hki3:(k:Int)<(n:Int)+1:=by omega
 have hki2:(k:Int)+1<(n:Int)+1:=by omega
 have hq2:q≤65536:=by omega
 have hqp:q - p=x:=by omega
 have HQP:=jq hqp
 have hp2:p≤q:=by omega
 have hw1:IntKind.i64.wrap ((k:Int)+1)=(k:Int)+1:=by rw[IntKind.wrap_i64];omega
 have hw2:IntKind.i64.wrap (q - p)=q - p:=by rw[IntKind.wrap_i64];omega
 have htn:((k:Int)+1).toNat=k+1:=by omega
 have hk0:(0:Int)≤(k:Int)+1:=by omega
 clear hp hf hx hp1 hq1 hn hc hs hsn g1 hqp hk
 go_enter func88,ntmps88
 go_wp2
 refine wp_region_still_lit (by kernel_rfl) (by kernel_rfl) ?_
 repeat still_step
 refine wpStill_nil ?_
 change Exit.then _ _ _ _ w.drew
 go_wp2
 go_ret2
 exact⟨by rw[HQP.out];rfl,(Below.refl _ _).drew⟩
theorem slotLetter_any (v:Int) (h:jwf w P c b T):Calls prog 185 #[.pointer (some ⟨P,0,none⟩),.int .i64 v] w fun e w'=>e=.returned (findV (jgz c v))∧w'=w:=by
 obtain⟨⟨F,H,hp,-,hh⟩,hc,hs,hT,hl⟩:=h
 have c1:=hp.cell 1
 simp only[jy,jx] at c1
 by_cases h1:v<0
 ·rw[fFind_none hc (.inl h1)]
  clear hp hh hc hs
  go_enter func185,ntmps185
  go_wp2
  go_ret2
  exact⟨rfl,rfl⟩
 by_cases h2:(T:Int)≤v
 ·rw[fFind_none hc (.inr (by omega))]
  clear hp hh hc hs
  go_enter func185,ntmps185
  go_wp2
  go_ret2
  exact⟨rfl,rfl⟩
 ·obtain⟨z,rfl⟩:=Int.eq_ofNat_of_zero_le (show 0≤v by omega)
  obtain⟨r,hr,hrc,-,-⟩:=fFind_all hc (v:=(z:Int)) (by omega) (by omega)
  have hslen:(sRow c c.length).length=T:=by
   have:=sRow_len hc c.length jw
   rw[jqk c jw,hs] at this
   omega
  rw[hRow_all hslen] at hh
  have hget:=sRow_get hc hr c.length hrc jw
  have hzl:z<(sRow c c.length).length:=by omega
  rw[List.getElem?_eq_getElem hzl,Option.some.injEq] at hget
  have hgc:=hh.cell z
  rw[hvs_get _ _ hzl,hget] at hgc
  have hzT:(z:Int)<(T:Int):=by omega
  have hr2:r≤4096:=by omega
  rw[hr]
  clear hp hh hc hs hslen hget hzl hr hrc
  go_enter func185,ntmps185
  go_wp2
  go_ret2
  exact⟨rfl,rfl⟩
end
end
section
open Go.RowKit Go.Sort
theorem qjl (n:Int) (w:World) (h:1≤n∧n≤16):Calls prog 208 #[.int .i64 n] w fun e w'=>e=.returned (.bool true)∧w'=w:=by
 obtain⟨h1,h2⟩:=h
 go_enter func208,ntmps208
 go_wp2
 go_ret
 exact⟨rfl,rfl⟩
theorem place_val (key:Nat) {bits:Nat} (h1:1≤bits) (h2:bits≤16):wrap64 (2654435761*(key:Int)%4294967296/2^(32 - bits))=((jzl key bits:Nat):Int):=by
 have e:((jzl key bits:Nat):Int)=2654435761*(key:Int)%4294967296/2^(32 - bits):=by
  unfold jzl
  rw[Int.natCast_ediv,Int.natCast_emod,Int.natCast_mul,Int.natCast_pow,Int.mul_comm]
  rfl
 have hl:=placeC_lt key (show bits≤32 by omega)
 have h3:2^bits≤2^16:=Nat.pow_le_pow_right (by decide) h2
 rw[←e]
 exact IntWalk.wrap64_in _ (by omega)
theorem ctxPlace_any (key bits:Nat) (w:World) (h:1≤bits∧bits≤16):Calls prog 242 #[.int .u32 (key:Int),.int .i64 (bits:Int)] w fun e w'=>e=.returned (.int .i64 (jzl key bits:Nat))∧w'=w:=by
 have CR:=jq (fun w=>qjl (bits:Int) w (by omega))
 obtain⟨h1,h2⟩:=h
 have a1:(bits:Int)≤16:=by omega
 go_enter func242,ntmps242
 go_wp2_with fail
 refine (CR.out _).mono ?_
 rintro e w' ⟨rfl,hw⟩
 obtain rfl:_=w':=hw.symm
 go_wp2
 go_ret
 exact⟨jyr (place_val key h1 h2),rfl⟩
theorem ctxAfter_any (p:Nat) (bit:Int) (w:World) (h:ChC p):Calls prog 233 #[.int .u32 (p:Int),.int .i64 bit] w fun e w'=>e=.returned (.int .u32 (rawC p bit:Nat))∧w'=w:=by
 obtain⟨h1,h2⟩:=h
 unfold rawC
 by_cases hb:bit=0
 ·subst hb
  rw[if_pos rfl]
  go_enter func233,ntmps233
  go_wp2
  go_ret
  exact⟨jyr (by omega),rfl⟩
 ·rw[if_neg hb]
  have hbb:(bit==0)=false:=by simp[hb]
  go_enter func233,ntmps233
  go_wp2
  go_ret
  exact⟨jyr (by omega),rfl⟩
theorem ctxHeld_any (p:Nat) (w:World):Calls prog 232 #[.int .u32 (p:Int),.int .u32 32,.int .u32 65504] w fun e w'=>e=.returned (.int .u32 (heldC p:Nat))∧w'=w:=by
 go_enter func232,ntmps232
 go_wp2
 go_ret
 exact⟨jyr (by unfold heldC;omega),rfl⟩
structure jqb (w:World) (F C bits n:Nat) (R:List Nat):Prop where
 fb:Blk w F 256 [.int .i64 (bits:Int),.slice (some ⟨C,0,none⟩) n n]
 cb:Blk w C 163 (cvs R)
 row:RowC n R
 pow:n=2^bits
 lo:1≤bits∧bits≤16
section
variable {w w':World} {F C bits n:Nat} {R:List Nat}
theorem jqb.ne (h:jqb w F C bits n R):F≠C:=jxy h.fb h.cb (by decide)
theorem jqb.grow (h:jqb w F C bits n R) (hb:Below w.heap.size w w'):jqb w' F C bits n R:=⟨h.fb.grow hb,h.cb.grow hb,h.row,h.pow,h.lo⟩
theorem jqb.same (h:jqb w F C bits n R) (e:w'.heap=w.heap):jqb w' F C bits n R:=⟨h.fb.same e,h.cb.same e,h.row,h.pow,h.lo⟩
theorem jqb.place (h:jqb w F C bits n R) (key:Nat):jzl key bits<n:=by rw[h.pow];exact placeC_lt key (by have:=h.lo;omega)
theorem ctxCell_any (key:Nat) (h:jqb w F C bits n R) :
  Calls prog 231 #[.pointer (some ⟨F,0,none⟩),.int .u32 (key:Int)] w fun e w'=>e=.returned (.pointer (some ⟨C,jzl key bits,none⟩))∧∃ j,w'=w.drewN j:=by
 have c0:=h.fb.cell 0
 have c1:=h.fb.cell 1
 simp only[jy,jx] at c0 c1
 have CR:=jq (fun w=>qjl (bits:Int) w (by have:=h.lo;omega))
 have CP:=jq (fun W=>ctxPlace_any key bits W h.lo)
 have hp:=h.place key
 obtain⟨k,hkk⟩:∃ k,k=jzl key bits:=⟨_,rfl⟩
 rw[←hkk] at CP hp ⊢
 have hpi:(k:Int)<(n:Int):=by omega
 clear h hkk
 go_enter func231,ntmps231
 go_wp2_with fail
 refine (CR.out _).mono ?_
 rintro e w' ⟨rfl,hw⟩
 obtain rfl:_=w':=hw.symm
 go_wp2
 go_quiet ((go_at_call 242;exact jbc fun W _=>CP.out W))
 go_wp2
 go_ret
 exact⟨by simp,_,rfl⟩
theorem ctxP_any (key:Nat) (h:jqb w F C bits n R) :
  Calls prog 226 #[.pointer (some ⟨F,0,none⟩),.int .u32 (key:Int)] w fun e w'=>e=.returned (.int .i64 (R.getD (jzl key bits) 0:Nat))∧∃ j,w'=w.drewN j:=by
 have CC:=jq (ctxCell_any key h)
 have hp:=h.place key
 obtain⟨k,hkk⟩:∃ k,k=jzl key bits:=⟨_,rfl⟩
 rw[←hkk] at CC hp ⊢
 have c0:=fun (W:World) (e:W.heap=w.heap)=>((h.same e).cb.cell k).trans (cvs_at h.row hp)
 have hx:=h.row.get hp
 obtain⟨x,hxx⟩:∃ x,x=R.getD k 0:=⟨_,rfl⟩
 rw[←hxx] at c0 hx ⊢
 unfold ChC at hx
 clear h hkk hxx hp
 go_enter func226,ntmps226
 go_wp2_with fail
 refine CC.out.mono ?_
 rintro e w' ⟨rfl,j,hw⟩
 have c1:=c0 w' (by rw[hw];rfl)
 have HW:=jq hw
 clear c0 hw
 go_wp2
 go_ret
 exact⟨rfl,j,HW.out⟩
theorem qxk (key:Nat) (bit:Int) (h:jqb w F C bits n R) :
  Calls prog 206 #[.pointer (some ⟨F,0,none⟩),.int .u32 (key:Int),.int .i64 bit] w fun e w'=>(∃ u,e=.returned u)∧jqb w' F C bits n (qwj R (jzl key bits) bit)∧jjq C C w w':=by
 have CC:=jq (ctxCell_any key h)
 have hp:=h.place key
 obtain⟨k,hkk⟩:∃ k,k=jzl key bits:=⟨_,rfl⟩
 rw[←hkk] at CC hp ⊢
 have H:=jq h
 have c0:=fun (W:World) (e:W.heap=w.heap)=>((h.same e).cb.cell k).trans (cvs_at h.row hp)
 have hset:=fun (W:World) (e:W.heap=w.heap)=>(h.same e).cb.set_ k (.int .u32 (afterC (R.getD k 0) bit:Nat))
 have hfr:=fun (W:World) (e:W.heap=w.heap)=>(h.same e).cb.frozen k
 simp only[cvs_set] at hset
 have hx:=h.row.get hp
 have CA:=jq (fun w=>ctxAfter_any (R.getD k 0) bit w hx)
 have CH:=jq (fun w=>ctxHeld_any (rawC (R.getD k 0) bit) w)
 unfold qwj
 have HO:=jq (afterC_ok (R.getD k 0) bit)
 have hy:heldC (rawC (R.getD k 0) bit)=afterC (R.getD k 0) bit:=rfl
 rw[hy] at CH
 obtain⟨y,hyy⟩:∃ y,y=afterC (R.getD k 0) bit:=⟨_,rfl⟩
 rw[←hyy] at CH hset HO ⊢
 obtain⟨z,hz⟩:∃ z,z=rawC (R.getD k 0) bit:=⟨_,rfl⟩
 rw[←hz] at CA CH
 obtain⟨x,hxx⟩:∃ x,x=R.getD k 0:=⟨_,rfl⟩
 rw[←hxx] at c0 hx CA
 clear h hkk hy hyy hz hxx hp hx
 go_enter func206,ntmps206
 go_wp2_with fail
 refine CC.out.mono ?_
 rintro e w' ⟨rfl,j,hw⟩
 have e1:w'.heap=w.heap:=by rw[hw];rfl
 have c1:=c0 w' e1
 have f1:=hfr w' e1
 have s1:=hset w' e1
 have HS:=jq s1
 have HF:=jq ((H.out.same e1).fb.setOther ⟨C,k,none⟩ (.int .u32 (y:Int)) H.out.ne)
 have HW:=jq hw
 clear c0 hw hfr hset e1 s1
 go_wp2_with fail
 refine (CA.out _).mono ?_
 rintro e w'' ⟨rfl,hw⟩
 obtain rfl:_=w'':=hw.symm
 go_wp2_with fail
 refine (CH.out _).mono ?_
 rintro e w'' ⟨rfl,hw⟩
 obtain rfl:_=w'':=hw.symm
 go_wp2
 go_end0
 refine⟨⟨_,rfl⟩,⟨HF.out,HS.out,H.out.row.set k HO.out,H.out.pow,H.out.lo⟩,?_⟩
 rw[HW.out]
 exact (⟨rfl,rfl,rfl,Nat.le_refl _,fun _ _ _ _=>rfl⟩:jjq C C w (w.drewN j)).trans (jjq.set_ k _)
end
def evenC (n k:Nat):List Nat:=List.replicate k 32768++List.replicate (n - k) 0
theorem evenC_set {n k:Nat} (h:k<n):(cvs (evenC n k)).set k (.int .u32 32768)=cvs (evenC n (k+1)):=by
 obtain⟨d,hd⟩:∃ d,n - k=d+1:=⟨n - k - 1,by omega⟩
 have e:=cvs_set (evenC n k) k 32768
 refine Eq.trans e ?_
 unfold evenC
 rw[hd,show n - (k+1)=d by omega,List.set_append_right _ _ (by simp),List.length_replicate,Nat.sub_self,List.replicate_succ (n:=d),List.set_cons_zero,List.replicate_succ' (n:=k),List.append_assoc]
 rfl
theorem evenC_at {n k:Nat} (h:k<n):(cvs (evenC n k))[k]?=some (.int .u32 0):=by
 obtain⟨d,hd⟩:∃ d,n - k=d+1:=⟨n - k - 1,by omega⟩
 unfold evenC
 rw[cvs,List.getElem?_map,List.getElem?_append_right (by simp),List.length_replicate,Nat.sub_self,hd]
 rfl
theorem evenC_zero (n:Nat):cvs (evenC n 0)=List.replicate n (.int .u32 0):=by simp[evenC,cvs]
theorem evenC_all (n:Nat):evenC n n=List.replicate n 32768:=by simp[evenC]
theorem info_u32c:(prog.info? 163).map (fun i=>(i.zero,i.size,i.bytes))=some (some (.int .u32 0),1,4):=by kernel_rfl
theorem qmt (bits n:Nat) (w:World) (h:1≤bits∧bits≤16) (hn:n=2^bits) :
  Calls prog 159 #[.int .i64 (bits:Int)] w fun e w'=>∃ F,e=.returned (.pointer (some ⟨F,0,none⟩))∧∃ C,jqb w' F C bits n (List.replicate n 32768)∧(w.heap.size≤F∧w.heap.size≤C)∧Below w.heap.size w w':=by
 have CR:=jq (fun w=>qjl (bits:Int) w (by omega))
 obtain⟨i0,hi,hz0,hz1,hz2⟩:=info_parts info_u32c
 have hmany:n≤65536:=by rw[hn];exact Nat.pow_le_pow_right (n:=2) (by decide) h.2
 have hmk:=make_eqN (P:=prog) (t:=254) (e:=163) underlying254 hi hz0 rfl hz1 (by rw[hz2];decide) n (by omega) w
 obtain⟨w1,hw1⟩:∃ w1,w1=w.alloc (.cells (List.replicate n (Value.int .u32 0)).toArray 163):=⟨_,rfl⟩
 rw[←hw1] at hmk
 have hsh:wrap64 (2^min bits 64)=(n:Int):=by
  have e:((n:Nat):Int)=2^bits:=by rw[hn,Int.natCast_pow];rfl
  rw[Nat.min_eq_left (by omega),←e]
  exact IntWalk.wrap64_in _ (by omega)
 have H:=jq (And.intro h hn)
 have hb1:Below w.heap.size w w1:=by rw[hw1];exact (Below.refl _ _).alloc jw _
 have hc1:Blk w1 w.heap.size 163 (cvs (evenC n 0)):=by rw[hw1,evenC_zero];exact heap_alloc_new w _
 obtain⟨C,hC⟩:∃ C,C=w.heap.size:=⟨_,rfl⟩
 rw[←hC] at hmk hc1
 have hb2:=hb1.alloc hb1.size (.cells #[.int .i64 (bits:Int),.slice (some ⟨C,0,none⟩) n n] 256)
 have hf2:Blk (w1.alloc (.cells #[.int .i64 (bits:Int),.slice (some ⟨C,0,none⟩) n n] 256)) w1.heap.size 256 [.int .i64 (bits:Int),.slice (some ⟨C,0,none⟩) n n]:=heap_alloc_new w1 _
 have hc2:=hc1.grow ((Below.refl w1.heap.size w1).alloc jw (.cells #[.int .i64 (bits:Int),.slice (some ⟨C,0,none⟩) n n] 256))
 obtain⟨w2,hw2⟩:∃ w2,w2=w1.alloc (.cells #[.int .i64 (bits:Int),.slice (some ⟨C,0,none⟩) n n] 256):=⟨_,rfl⟩
 obtain⟨F,hF⟩:∃ F,F=w1.heap.size:=⟨_,rfl⟩
 rw[←hw2] at hb2 hf2 hc2
 rw[←hF] at hf2
 have H2:=jq (And.intro hb2 (And.intro hf2 hc2))
 have HFC:=jq (show w.heap.size≤F∧w.heap.size≤C by rw[hF,hC];exact⟨hb1.size,Nat.le_refl _⟩)
 have HW:=jq (And.intro hw2 hF)
 have HM:=jq hmany
 clear hb2 hf2 hc2 hw2 hF hC hc1 hb1 hw1 hn h hmany
 go_enter func159,ntmps159
 go_wp2_with fail
 refine (CR.out _).mono ?_
 rintro e w' ⟨rfl,hw⟩
 obtain rfl:_=w':=hw.symm
 go_wp2_with fail
 rw[←HW.out.1,←HW.out.2]
 have c1:=H2.out.2.1.cell 1
 simp only[jy,jx] at c1
 go_wp2
 clear c1
 go_loopw [19] (fun ii wr=>∃ k:Nat,k≤n∧ii=.int .i64 (k:Int)∧Blk wr F 256 [.int .i64 (bits:Int),.slice (some ⟨C,0,none⟩) n n]∧Blk wr C 163 (cvs (evenC n k))∧Below w.heap.size w wr) (fun ii _=>n - (intOf ii).toNat)
 case atStart=>exact⟨0,Nat.zero_le _,rfl,H2.out.2.1,H2.out.2.2,H2.out.1⟩
 case round =>
  clear H2 HW hmk
  obtain⟨k,hk,rfl,hf,hc,hb⟩:=hrel
  have hm:=HM.out
  have HB:=jq hb
  have HF:=jq hf
  have HC:=jq hc
  by_cases hlt:k<n
  ·have hki:(k:Int)<(n:Int):=by omega
   have c1:=hf.cell 1
   simp only[jy,jx] at c1
   have c2:=(hc.cell k).trans (evenC_at hlt)
   have f2:=hc.frozen k
   have hset:=hc.set_ k (.int .u32 32768)
   rw[evenC_set hlt] at hset
   have HS:=jq hset
   have HF2:=jq (hf.setOther ⟨C,k,none⟩ (.int .u32 32768) (jxy hf hc (by decide)))
   have HB2:=jq (hb.setCell (p:=⟨C,k,none⟩) HFC.out.2 (.int .u32 32768))
   clear hset hf hc hb
   go_wp2
   go_roundw
   case rel=>exact⟨k+1,by omega,by go_num,HF2.out,HS.out,HB2.out⟩
   case measure=>simp[intOf];omega
  ·obtain rfl:k=n:=by omega
   have hall:=HC.out
   rw[evenC_all] at hall
   have HALL:=jq hall
   clear hf hc hb hall
   go_wp2
   go_ret
   exact⟨F,rfl,C,⟨HF.out,HALL.out,RowC.even _,H.out.2,H.out.1⟩,HFC.out,HB.out⟩
theorem mixHeld_any (p lo hi:Int) (w:World):Calls prog 229 #[.int .i64 p,.int .i64 lo,.int .i64 hi] w fun e w'=>e=.returned (.int .i64 (min (max p lo) hi))∧w'=w:=by
 go_enter func229,ntmps229
 go_wp2
 go_ret
 exact⟨rfl,rfl⟩
theorem qvc (p:Int) (w:World):Calls prog 228 #[.int .i64 p] w fun e w'=>e=.returned (.int .i64 (clM p))∧w'=w:=by
 have CH:=jq (fun w=>mixHeld_any p 0 65536 w)
 go_enter func228,ntmps228
 go_wp2_with fail
 refine (CH.out _).mono ?_
 rintro e w' ⟨rfl,hw⟩
 obtain rfl:_=w':=hw.symm
 go_wp2
 go_ret
 exact⟨rfl,rfl⟩
theorem qgy (p bit:Int) (w:World) (h:0≤p∧p≤65536):Calls prog 230 #[.int .i64 p,.int .i64 bit] w fun e w'=>e=.returned (.int .i64 (farM p bit))∧w'=w:=by
 obtain⟨h1,h2⟩:=h
 unfold farM
 by_cases hb:bit=0
 ·subst hb
  rw[if_pos rfl]
  go_enter func230,ntmps230
  go_wp2
  go_ret
  exact⟨rfl,rfl⟩
 ·rw[if_neg hb]
  have hbb:(bit==0)=false:=by simp[hb]
  go_enter func230,ntmps230
  go_wp2
  go_ret
  exact⟨rfl,rfl⟩
def padM (n:Nat) (W:List Int):List Int:=W++List.replicate (8 - n) 0++[(n:Int)]
theorem padM_n {n:Nat} {W:List Int} (h:W.length=n) (h8:n≤8):(zvs (padM n W))[8]?=some (.int .i64 (n:Int)):=by
 unfold padM
 rw[jql,List.getElem?_append_right (by simp;omega)]
 simp only[List.length_append,List.length_replicate,h]
 rw[show 8 - (n+(8 - n))=0 by omega]
 rfl
theorem padM_at {n k:Nat} {W:List Int} (h:W.length=n) (hk:k<n):(zvs (padM n W))[k]?=some (.int .i64 (W[k]'(by omega))):=by
 unfold padM
 rw[jql,List.append_assoc,List.getElem?_append_left (by omega),List.getElem?_eq_getElem (by omega)]
 rfl
theorem padM_set {n k:Nat} {W:List Int} (h:W.length=n) (hk:k<n) (x:Int):(zvs (padM n W)).set k (.int .i64 x)=zvs (padM n (W.set k x)):=by
 unfold padM
 rw[jms,List.append_assoc,List.append_assoc,List.set_append_left _ _ (by omega)]
structure jkt (w:World) (F n:Nat) (W:List Int):Prop where
 fb:Blk w F 253 (zvs (padM n W))
 wts:WtsM n W
 lo:1≤n∧n≤8
section
variable {w w':World} {F n:Nat} {W:List Int}
theorem jkt.grow (h:jkt w F n W) (hb:Below w.heap.size w w'):jkt w' F n W:=⟨h.fb.grow hb,h.wts,h.lo⟩
theorem jkt.same (h:jkt w F n W) (e:w'.heap=w.heap):jkt w' F n W:=⟨h.fb.same e,h.wts,h.lo⟩
theorem jkt.cell (h:jkt w F n W) {k:Nat} (hk:k<n):w.cell? ⟨F,k,none⟩=some (.int .i64 (W[k]'(by rw[h.wts.len];exact hk))):=(h.fb.cell k).trans (padM_at h.wts.len hk)
theorem jkt.count (h:jkt w F n W):w.cell? ⟨F,8,none⟩=some (.int .i64 (n:Int)):=(h.fb.cell 8).trans (padM_n h.wts.len h.lo.2)
theorem mixFits_yes (A:Option Addr) (m:Nat) (h:jkt w F n W):Calls prog 227 #[.pointer (some ⟨F,0,none⟩),.slice A n m] w fun e w'=>e=.returned (.bool true)∧w'=w:=by
 have c8:=h.count
 have h0:(0:Int)<(n:Int):=by have:=h.lo;omega
 clear h
 go_enter func227,ntmps227
 go_wp2
 go_ret
 exact⟨by simp,rfl⟩
theorem dotM_part {n:Nat} {W L:List Int} (h:WtsM n W) (hl:L.length=n) {k:Nat} (hk:k≤n):0≤dotM (W.take k) (L.take k)∧dotM (W.take k) (L.take k)≤65536*(W.take k).sum∧(k:Int)≤(W.take k).sum∧(W.take k).sum≤255*k:=by
 have hw:WtsM k (W.take k):=⟨by simp[h.len];omega,fun x hx=>h.ok x (List.mem_of_mem_take hx)⟩
 have h1:=dotM_ok hw (L:=L.take k) (by simp[hl];omega)
 have h2:=sumM_le hw.ok
 rw[hw.len] at h2
 exact⟨h1.1,h1.2,h2.1,h2.2⟩
theorem mixP_any {B:Nat} {A:Option Addr} {m:Nat} {l:List Int} (h:jkt w F n W) (hr:Rd w B A (zvs l)) (hl:l.length=n) :
  Calls prog 204 #[.pointer (some ⟨F,0,none⟩),.slice A n m] w fun e w'=>e=.returned (.int .i64 (mixM W l))∧∃ j,w'=w.drewN j:=by
 have CF:=jq (mixFits_yes A m h)
 have H:=jq h
 have HR:=jq hr
 have HL:=jq hl
 have hlo:=h.lo
 have CH:=jq (fun p w=>qvc p w)
 clear h hr hl
 go_enter func204,ntmps204
 go_wp2_with fail
 refine CF.out.mono ?_
 rintro e w' ⟨rfl,hw⟩
 obtain rfl:_=w':=hw.symm
 go_wp2
 go_loopw [5,6,15] (fun ss tt ii wr=>∃ k:Nat,k≤n∧ss=.int .i64 (dotM (W.take k) (l.take k))∧tt=.int .i64 (W.take k).sum∧ii=.int .i64 (k:Int)∧∃ j,wr=w.drewN j) (fun _ _ ii _=>n - (intOf ii).toNat)
 case atStart=>exact⟨0,Nat.zero_le _,by simp[dotM],by simp,rfl,0,rfl⟩
 case round =>
  obtain⟨k,hk,rfl,rfl,rfl,j,hwj⟩:=hrel
  have hh:wr.heap=w.heap:=by rw[hwj];rfl
  have HWJ:=jq (show ∃ j,wr=w.drewN j from ⟨j,hwj⟩)
  clear hwj
  have hpart:=dotM_part H.out.wts HL.out hk
  obtain⟨S,hS⟩:∃ S,S=dotM (W.take k) (l.take k):=⟨_,rfl⟩
  obtain⟨T,hT⟩:∃ T,T=(W.take k).sum:=⟨_,rfl⟩
  rw[←hS,←hT] at hpart ⊢
  have HST:=jq (And.intro hS hT)
  clear hS hT
  by_cases hlt:k<n
  ·have hkl:k<l.length:=by rw[HL.out];exact hlt
   have hkw:k<W.length:=by rw[H.out.wts.len];exact hlt
   obtain⟨ab,ao,rfl,-,hc1⟩:=jjn (rd_same HR.out hh) hkl
   have hc2:=(H.out.same hh).cell hlt
   have hwk:=H.out.wts.ok _ (List.getElem_mem hkw)
   have hsn:=dotM_snoc hkw hkl
   have htn:=sumM_snoc hkw
   rw[←HST.out.1] at hsn
   rw[←HST.out.2] at htn
   obtain⟨x,hx⟩:∃ x,x=W[k]'hkw:=⟨_,rfl⟩
   obtain⟨p,hp⟩:∃ p,p=l[k]'hkl:=⟨_,rfl⟩
   rw[←hx] at hc2 hwk hsn htn
   rw[←hp] at hc1 hsn
   have hpc:=clM_ok p
   have hm0:=Int.mul_nonneg (show 0≤x by omega) hpc.1
   have hm1:=Int.mul_le_mul hwk.2 hpc.2 hpc.1 (show (0:Int)≤255 by decide)
   have CP:=jq (CH.out p)
   rw[Int.mul_comm x] at hm0 hm1 hsn
   obtain⟨c,hc⟩:∃ c,c=clM p:=⟨_,rfl⟩
   rw[←hc] at CP hm0 hm1 hsn
   obtain⟨y,hy⟩:∃ y,y=c*x:=⟨_,rfl⟩
   have hw1:IntKind.i64.wrap (c*x)=y:=by rw[hy,IntKind.wrap_i64];omega
   rw[←hy] at hm0 hm1 hsn
   have hw2:IntKind.i64.wrap (S+y)=S+y:=by rw[IntKind.wrap_i64];omega
   have HSN:=jq (And.intro hsn htn)
   have hki:(k:Int)<(n:Int):=by omega
   clear hx hp hc hy hkl hkw hpc hsn htn hh
   go_wp2
   go_quiet ((go_at_call 228;exact jbc fun W _=>CP.out W))
   go_wp2
   refine⟨⟨k+1,by omega,by rw[HSN.out.1],by rw[HSN.out.2],by go_num,?_⟩,by simp[intOf];omega⟩
   obtain⟨j,hj⟩:=HWJ.out
   exact⟨j+nq,by rw[hj,World.drewN_drewN]⟩
  ·obtain rfl:k=n:=by omega
   have hS:S=dotM W l:=by rw[HST.out.1,List.take_of_length_le (by rw[H.out.wts.len];exact Nat.le_refl _),List.take_of_length_le (by rw[HL.out];exact Nat.le_refl _)]
   have hT:T=W.sum:=by rw[HST.out.2,List.take_of_length_le (by rw[H.out.wts.len];exact Nat.le_refl _)]
   have hM:mixM W l=min (max (S/T) 32) 65504:=by rw[hS,hT];rfl
   have hT1:0<T:=by omega
   have hq0:0≤S/T:=Int.ediv_nonneg hpart.1 (by omega)
   have hq1:S/T≤65536:=Int.ediv_le_of_le_mul hT1 hpart.2.1
   have HM:=jq hM
   obtain⟨q,hq⟩:∃ q,q=S/T:=⟨_,rfl⟩
   have hdiv:S.tdiv T=q:=by rw[Int.tdiv_eq_ediv_of_nonneg hpart.1,hq]
   rw[←hq] at hq0 hq1 HM
   have CD:=jq (fun w=>mixHeld_any q 32 65504 w)
   have HQ:=jq hq
   have hT0:¬ (T=0):=by omega
   have hS0:=hpart.1
   clear hS hT hM hq hpart
   go_wp2_with fail
   refine (CD.out _).mono ?_
   rintro e w' ⟨rfl,hw⟩
   obtain rfl:_=w':=hw.symm
   go_wp2
   go_ret
   exact⟨jyr HM.out.symm,HWJ.out⟩
theorem set_self {α:Type} {l:List α} {k:Nat} {x:α} (h:l[k]?=some x):l.set k x=l:=by
 refine List.ext_getElem? fun j=>?_
 rw[List.getElem?_set]
 by_cases e:k=j
 ·subst e
  rw[if_pos rfl,if_pos (List.getElem?_eq_some_iff.1 h).1,h]
 ·rw[if_neg e]
theorem rd_turns2 {A:Option Addr} {g:Nat} {t:TypeId} {cs:List Value} (hb:Blk w g t cs) (hne:g≠F) (hA:A=some ⟨g,0,none⟩):∀ W,jjq F F w W→Rd W W.heap.size A cs:=fun W hu=>by
 subst hA
 exact Rd.of_blk (hu.blk hb hne hne)
theorem mixSeen_any {A:Option Addr} {m:Nat} {l:List Int} (bit:Int) (h:jkt w F n W) (hr:∀ W,jjq F F w W→Rd W W.heap.size A (zvs l)) (hl:l.length=n) :
  Calls prog 205 #[.pointer (some ⟨F,0,none⟩),.slice A n m,.int .i64 bit] w fun e w'=>(∃ u,e=.returned u)∧jkt w' F n (qqp W l bit)∧jjq F F w w':=by
 have CF:=jq (mixFits_yes A m h)
 have CQ:=jq (mixP_any (m:=m) h (hr w (jjq.refl F F w)) hl)
 have H:=jq h
 have HR:=jq hr
 have HL:=jq hl
 have hlo:=h.lo
 have CH:=jq (fun p w=>qvc p w)
 have hmx:0≤mixM W l∧mixM W l≤65536:=by have:=heldM_ok (dotM W l/W.sum);unfold mixM;omega
 have CW:=jq (fun w=>qgy (mixM W l) bit w hmx)
 obtain⟨pm,hpm⟩:∃ pm,pm=mixM W l:=⟨_,rfl⟩
 obtain⟨mx,hmxe⟩:∃ mx,mx=farM (mixM W l) bit:=⟨_,rfl⟩
 have HMX:=jq hmxe
 rw[←hmxe] at CW
 rw[←hpm] at CQ CW
 clear h hr hl hmx hpm hmxe
 go_enter func205,ntmps205
 go_wp2_with fail
 refine CF.out.mono ?_
 rintro e w' ⟨rfl,hw⟩
 obtain rfl:_=w':=hw.symm
 go_wp2_with fail
 refine CQ.out.mono ?_
 rintro e w1 ⟨rfl,j,hwj⟩
 have hh:w1.heap=w.heap:=by rw[hwj];rfl
 have hu:jjq F F w w1:=by rw[hwj];exact⟨rfl,rfl,rfl,Nat.le_refl _,fun _ _ _ _=>rfl⟩
 have HS0:=jq (And.intro (H.out.fb.same hh) hu)
 clear hwj hh hu
 go_wp2_with fail
 refine (CW.out _).mono ?_
 rintro e w' ⟨rfl,hw⟩
 obtain rfl:_=w':=hw.symm
 go_wp2
 go_loopw [21] (fun ii wr=>∃ k:Nat,k≤n∧ii=.int .i64 (k:Int)∧Blk wr F 253 (zvs (padM n (qbc W l bit k)))∧jjq F F w wr) (fun ii _=>n - (intOf ii).toNat)
 case atStart=>exact⟨0,Nat.zero_le _,rfl,by rw[stepM_zero];exact HS0.out.1,HS0.out.2⟩
 case round =>
  clear HS0
  obtain⟨k,hk,rfl,hb,hu⟩:=hrel
  have HB:=jq hb
  have HU:=jq hu
  clear hb hu
  by_cases hlt:k<n
  ·have hkl:k<l.length:=by rw[HL.out];exact hlt
   have hkw:k<W.length:=by rw[H.out.wts.len];exact hlt
   have hkey:=stepM_succ H.out.wts HL.out bit hlt
   have hat:=stepM_get H.out.wts HL.out bit hlt
   have hlen:=stepM_len H.out.wts HL.out bit hk
   have hwk:=H.out.wts.ok _ (List.getElem_mem hkw)
   have hrd:=HR.out wr HU.out
   obtain⟨ab,ao,rfl,-,hc1⟩:=jjn hrd hkl
   have hc2:wr.cell? ⟨F,k,none⟩=some (.int .i64 (W[k]'hkw)):=by
    rw[HB.out.cell k,padM_at hlen hlt]
    rw[List.getElem?_eq_getElem (by omega)] at hat
    injection hat with hat
    rw[hat]
   have hf2:=HB.out.frozen k
   obtain⟨x,hx⟩:∃ x,x=W[k]'hkw:=⟨_,rfl⟩
   obtain⟨p,hp⟩:∃ p,p=l[k]'hkl:=⟨_,rfl⟩
   rw[←HMX.out] at hkey
   rw[←hx] at hc2 hwk hkey hat
   rw[←hp] at hc1 hkey
   have CP:=jq (CH.out p)
   have CV:=jq (fun w=>qgy (clM p) bit w (clM_ok p))
   obtain⟨own,hown⟩:∃ own,own=farM (clM p) bit:=⟨_,rfl⟩
   rw[←hown] at CV hkey
   obtain⟨c,hc⟩:∃ c,c=clM p:=⟨_,rfl⟩
   rw[←hc] at CP CV
   have hset:=HB.out.set_ k (.int .i64 (qbg x own mx))
   rw[padM_set hlen hlt,hkey] at hset
   have hstay:own=mx→Blk wr F 253 (zvs (padM n (qbc W l bit (k+1)))):=fun e=>by
    have hn:qbg x own mx=x:=by unfold qbg;rw[if_neg (by omega),if_neg (by omega)]
    rw[←hkey,hn,set_self hat]
    exact HB.out
   have HST:=jq hstay
   have HSE:=jq hset
   have hki:(k:Int)<(n:Int):=by omega
   have hk8:k<8:=by omega
   clear hx hp hown hc hkl hkw hkey hat hlen hset hstay hrd
   rcases Int.lt_trichotomy own mx with h1 | h1 | h1
   ·have HN:=jq (show qbg x own mx=min (x+1) 255 by unfold qbg;rw[if_pos h1])
    go_wp2_with fail
    refine (CP.out _).mono ?_
    rintro e w' ⟨rfl,hw⟩
    obtain rfl:_=w':=hw.symm
    go_wp2_with fail
    refine (CV.out _).mono ?_
    rintro e w' ⟨rfl,hw⟩
    obtain rfl:_=w':=hw.symm
    go_wp2
    go_region
    go_wp2
    have hse:=HSE.out
    rw[HN.out] at hse
    refine⟨⟨k+1,by omega,by go_num,hse.same rfl,(HU.out.trans (jjq.setT k _)).drew⟩,by simp[intOf];omega⟩
   ·have HN:=jq (HST.out h1)
    clear HSE
    subst h1
    go_wp2_with fail
    refine (CP.out _).mono ?_
    rintro e w' ⟨rfl,hw⟩
    obtain rfl:_=w':=hw.symm
    go_wp2_with fail
    refine (CV.out _).mono ?_
    rintro e w' ⟨rfl,hw⟩
    obtain rfl:_=w':=hw.symm
    go_wp2
    refine⟨⟨k+1,by omega,by go_num,HN.out,HU.out⟩,by simp[intOf];omega⟩
   ·have HN:=jq (show qbg x own mx=max (x - 1) 1 by unfold qbg;rw[if_neg (by omega),if_pos h1])
    have h2:¬ (own<mx):=by omega
    go_wp2_with fail
    refine (CP.out _).mono ?_
    rintro e w' ⟨rfl,hw⟩
    obtain rfl:_=w':=hw.symm
    go_wp2_with fail
    refine (CV.out _).mono ?_
    rintro e w' ⟨rfl,hw⟩
    obtain rfl:_=w':=hw.symm
    go_wp2
    go_region
    go_wp2
    have hse:=HSE.out
    rw[HN.out] at hse
    refine⟨⟨k+1,by omega,by go_num,hse.same rfl,(HU.out.trans (jjq.setT k _)).drew⟩,by simp[intOf];omega⟩
  ·obtain rfl:k=n:=by omega
   have hb:=HB.out
   rw[stepM_all H.out.wts HL.out bit] at hb
   have HB2:=jq hb
   clear hb
   go_wp2
   go_end0
   exact⟨⟨_,rfl⟩,⟨HB2.out,H.out.wts.seen HL.out bit,H.out.lo⟩,HU.out⟩
end
def newM (n k:Nat):List Int:=List.replicate k 64++List.replicate (n - k) 0
theorem newM_len {n k:Nat} (h:k≤n):(newM n k).length=n:=by simp[newM];omega
theorem newM_set {n k:Nat} (h:k<n):(newM n k).set k 64=newM n (k+1):=by
 obtain⟨d,hd⟩:∃ d,n - k=d+1:=⟨n - k - 1,by omega⟩
 unfold newM
 rw[hd,show n - (k+1)=d by omega,List.set_append_right _ _ (by simp),List.length_replicate,Nat.sub_self,List.replicate_succ (n:=d),List.set_cons_zero,List.replicate_succ' (n:=k),List.append_assoc]
 rfl
theorem newM_all (n:Nat):newM n n=List.replicate n 64:=by simp[newM]
theorem newM_zero {n:Nat} (h:n≤8):zvs (padM n (newM n 0))=[.int .i64 0,.int .i64 0,.int .i64 0,.int .i64 0,.int .i64 0,.int .i64 0,.int .i64 0,.int .i64 0,.int .i64 (n:Int)]:=by
 have e:newM n 0++List.replicate (8 - n) 0=List.replicate 8 0:=by
  unfold newM
  rw[List.replicate_zero,List.nil_append,List.replicate_append_replicate,show n - 0+(8 - n)=8 by omega]
 unfold padM
 rw[e]
 rfl
theorem mixNew_any (n:Nat) (w:World) (h:1≤n∧n≤8):Calls prog 158 #[.int .i64 (n:Int)] w fun e w'=>∃ F,e=.returned (.pointer (some ⟨F,0,none⟩))∧jkt w' F n (List.replicate n 64)∧w.heap.size≤F∧Below w.heap.size w w':=by
 obtain⟨h1,h2⟩:=h
 have a1:¬ ((n:Int)<1):=by omega
 have a2:¬ ((8:Int)<(n:Int)):=by omega
 obtain⟨w1,hw1⟩:∃ w1,w1=w.alloc (.cells #[.int .i64 0,.int .i64 0,.int .i64 0,.int .i64 0,.int .i64 0,.int .i64 0,.int .i64 0,.int .i64 0,.int .i64 (n:Int)] 253):=⟨_,rfl⟩
 have hb1:Below w.heap.size w w1:=by rw[hw1];exact (Below.refl _ _).alloc jw _
 have hk1:Blk w1 w.heap.size 253 (zvs (padM n (newM n 0))):=by rw[hw1,newM_zero h2];exact heap_alloc_new w _
 obtain⟨F,hF⟩:∃ F,F=w.heap.size:=⟨_,rfl⟩
 rw[←hF] at hk1
 have H1:=jq (And.intro hb1 hk1)
 have HW:=jq (And.intro hw1 hF)
 have HFL:=jq (show w.heap.size≤F by omega)
 clear hb1 hk1 hw1 hF
 go_enter func158,ntmps158
 go_wp2
 rw[←HW.out.1,←HW.out.2]
 go_loopw [15] (fun ii wr=>∃ k:Nat,k≤n∧ii=.int .i64 (k:Int)∧Blk wr F 253 (zvs (padM n (newM n k)))∧Below w.heap.size w wr) (fun ii _=>n - (intOf ii).toNat)
 case atStart=>exact⟨0,Nat.zero_le _,rfl,H1.out.2,H1.out.1⟩
 case round =>
  clear H1 HW
  obtain⟨k,hk,rfl,hf,hb⟩:=hrel
  have HB:=jq hb
  have HF:=jq hf
  by_cases hlt:k<n
  ·have hki:(k:Int)<(n:Int):=by omega
   have hk8:k<8:=by omega
   have hlen:=newM_len hk
   have c2:=(hf.cell k).trans (padM_at hlen hlt)
   have f2:=hf.frozen k
   have hset:=hf.set_ k (.int .i64 64)
   rw[padM_set hlen hlt,newM_set hlt] at hset
   have HS:=jq hset
   have HB2:=jq (hb.setCell (p:=⟨F,k,none⟩) HFL.out (.int .i64 64))
   obtain⟨x,hx⟩:∃ x,x=(newM n k)[k]'(by omega):=⟨_,rfl⟩
   rw[←hx] at c2
   clear hset hf hb hx hlen
   go_wp2
   go_roundw
   case rel=>exact⟨k+1,by omega,by go_num,HS.out,HB2.out⟩
   case measure=>simp[intOf];omega
  ·obtain rfl:k=n:=by omega
   have hall:=HF.out
   rw[newM_all] at hall
   have HALL:=jq hall
   clear hf hb hall
   go_wp2
   go_ret
   exact⟨F,rfl,⟨HALL.out,WtsM.first _,h1,h2⟩,HFL.out,HB.out⟩
end
end Go.Proofs.YtflcmmeoppdhdaaGreatDoor
