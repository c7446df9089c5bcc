/- Contracts of bit.Writer. · Contracts of slices.Clone, Writer.Bytes, bit.Read and bit.Reader. · Contracts of bit.Reader: Get, Ones, Done. · Contracts of bit.Reader: Err, Left, Done over what is left. .. -/
import Derived.Test.YtflcmmeoppdhdaaGreatDoorQ02
import Derived.Test.YtflcmmeoppdhdaaGreatDoorQ07
import Derived.BigRegion
import Derived.BigQuiet
import Derived.Deep.QuietTactic
import Derived.Deep.RegionWith
set_option maxHeartbeats 1000000
set_option maxRecDepth 100000
namespace Go.Proofs.YtflcmmeoppdhdaaGreatDoor
open Tryz
section
open Go.RowKit
def WrAt (w:World) (B g:Nat) (l:List Bool):Prop :=
 ∃ v bs,Blk w g 102 [v,.int .i64 l.length]∧B≤g∧w.ownsRow B 5 1 v bs.length (bvs bs)∧jxp bs l
theorem bvs_set (l:List UInt8) (k:Nat) (c:UInt8):(bvs l).set k (.int .u8 c.toNat)=bvs (l.set k c):=by simp[bvs,List.map_set]
theorem u8n {n:Nat} (h:n<256):(UInt8.ofNat n).toNat=n:=by simp[UInt8.toNat_ofNat'];omega
theorem or_bit (x:UInt8) (b:Bool) (r:Nat) (hr:r<8) :
  ∃ c:UInt8,bits .or .u8 (x.toNat:Int) ((b.toNat:Int)*2^r%256)=(c.toNat:Int)∧c.toNat=x.toNat ||| b.toNat <<< r:=by
 have hx:=x.toNat_lt
 have hb:b.toNat≤1:=by cases b <;> simp
 have hp:2^r≤128:=by have:=Nat.pow_le_pow_right (n:=2) (by decide) (show r≤7 by omega);simpa using this
 have hs:b.toNat <<< r≤128:=by
  rw[Nat.shiftLeft_eq]
  have:=Nat.mul_le_mul hb hp
  omega
 have hlt:x.toNat ||| b.toNat <<< r<2^8:=Nat.or_lt_two_pow (by omega) (by omega)
 have e:(b.toNat:Int)*2^r%256=((b.toNat <<< r:Nat):Int):=by
  rw[Nat.shiftLeft_eq] at hs ⊢
  have:((b.toNat*2^r:Nat):Int)=(b.toNat:Int)*2^r:=by simp
  rw[←this]
  omega
 refine⟨UInt8.ofNat (x.toNat ||| b.toNat <<< r),?_,?_⟩
 ·rw[e,u8_or _ _ (by omega) (by omega) (by omega) (by omega),Int.toNat_natCast,Int.toNat_natCast]
  rw[u8n hlt]
 ·exact u8n hlt
theorem lay_end {w:World} {B g r c n:Nat} {bs bs':List UInt8} {l:List Bool} {b:Bool} {x:UInt8} {u:Value}
  (hblk:Blk w g 102 [.slice (some ⟨r,0,none⟩) bs'.length c,u]) (hBg:B≤g) (hown:w.ownsRow B 5 1 (.slice (some ⟨r,0,none⟩) bs'.length c) bs'.length (bvs bs'))
  (hn:n=l.length) (hp:jxp bs l) (hbs:bs'=if l.length%8=0 then bs++[0] else bs) (hx:bs'[n/8]?=some x) :
  WrAt ((w.setCell ⟨r,n/8,none⟩ (.int .u8 (bits .or .u8 (x.toNat:Int) ((b.toNat:Int)*2^(n%8)%256)))).setCell ⟨g,1,none⟩ (.int .i64 ((n:Int)+1))).drew B g (l++[b]) ∧
  jjj B [102,5] w ((w.setCell ⟨r,n/8,none⟩ (.int .u8 (bits .or .u8 (x.toNat:Int) ((b.toNat:Int)*2^(n%8)%256)))).setCell ⟨g,1,none⟩ (.int .i64 ((n:Int)+1))).drew:=by
 obtain⟨c8,he,hc8⟩:=or_bit x b (n%8) (by omega)
 rw[he]
 obtain⟨hst,hgr⟩:=hown.stored (n/8) (.int .u8 c8.toNat)
 rw[bvs_set] at hst
 have ho1:jjj B [5] w (w.setCell ⟨r,n/8,none⟩ (.int .u8 c8.toNat)):=jjj.grown (e:=5) hgr (fun k hk=>by injection hk with hk;subst hk;exact jzc hown r rfl) (by simp)
 have hblk1:=hblk.only ho1 (by decide)
 have ho2:jjj B [102] (w.setCell ⟨r,n/8,none⟩ (.int .u8 c8.toNat)) ((w.setCell ⟨r,n/8,none⟩ (.int .u8 c8.toNat)).setCell ⟨g,1,none⟩ (.int .i64 ((n:Int)+1))):=jjj.set_ hblk1 hBg _ (by simp)
 have hst2:=jxl hst ho2 (by decide)
 have hblk2:=hblk1.set_ 1 (.int .i64 ((n:Int)+1))
 have hsz:(bs'.set (n/8) c8).length=bs'.length:=by simp
 refine⟨⟨.slice (some ⟨r,0,none⟩) bs'.length c,bs'.set (n/8) c8,?_,hBg,by rw[hsz];exact hst2,?_⟩,((ho1.more (ts':=[102,5]) (by simp)).trans (ho2.more (ts':=[102,5]) (by simp))).drew⟩
 ·have e:((l++[b]).length:Int)=(n:Int)+1:=by rw[hn];simp
  rw[e]
  exact hblk2
 ·subst hn
  exact hp.snoc b bs' hbs c8 (by rw[hc8,List.getD_eq_getElem?_getD,hx];rfl)
theorem lay_any (g B:Nat) (l:List Bool) (b:Bool) (w:World) (h:WrAt w B g l) (hl:l.length<1000000000) :
  Calls prog 114 #[.pointer (some ⟨g,0,none⟩),.int .u8 b.toNat] w fun e w'=>e=.returned (.tuple #[])∧WrAt w' B g (l++[b])∧jjj B [102,5] w w':=by
 obtain⟨i0,hi,hz0,hz1,hz2⟩:=info_parts qvh
 obtain⟨v,bs,hblk,hBg,hown,hp⟩:=h
 obtain⟨n,hn⟩:∃ n,n=l.length:=⟨_,rfl⟩
 rw[←hn] at hblk hl
 have hlen:bs.length=(n+7)/8:=by rw[hn];exact hp.1
 have HN:=jq hn
 have HP:=jq hp
 clear hn hp
 by_cases h8:n%8=0
 ·have hn0:((n:Int)%8==0)=true:=by rw[beq_iff_eq];omega
  have hlb:bs.length≤200000000:=by omega
  have hc0:=hblk.cell 0
  have hc1:=hblk.cell 1
  simp only[jy,jx] at hc0 hc1
  have hf0:=hblk.frozen 0
  have hf1:=hblk.frozen 1
  have hgs:=hblk.lt
  have H8:=jq h8
  have HLEN:=jq hlen
  have HBLK:=jq hblk
  have HOWN:=jq hown
  clear hlen hblk hown h8
  go_enter func114,ntmps114
  go_wp2_with (at_builtin;go_must (refine jjd rfl (.tmp 14) (.tmp 15) 22 rfl B 5 i0 (.int .u8 0) 1 1 underlying22 hi hz0 hz1 hz2 rfl (by decide) _ _ _ rfl (HOWN.out.alloc _) _ _ 1 1 _ rfl (Rd.new _ _ _) rfl (by intro u hu;simp at hu;subst hu;rfl) (by simp only[maxLen];omega) (by omega) (by simp;omega) ?_;intro v1 w1 hown1 hg1;obtain⟨A1,c1,rfl,hn1,-,hA1⟩:=jjk hown1;have ho1:jjj B [5] w w1:=(jjj.of_below ((Below.refl _ _).alloc jw _)).trans (jjj.grown hg1 (jzc (HOWN.out.alloc _)) (by simp));have hblk1:=HBLK.out.only ho1 (by decide);have hd0:=hblk1.cell 0;have hd1:=hblk1.cell 1;simp only[jy,jx] at hd0 hd1;have he0:=hblk1.frozen 0;have he1:=hblk1.frozen 1))
  obtain⟨r,rfl,hBr,hr⟩:∃ r,A1=some ⟨r,0,none⟩∧B≤r∧r<w1.heap.size:=by
   rcases hA1 with h0 | h0
   ·omega
   ·exact h0
  clear hA1
  have hrg:r≠g:=by
   intro e
   subst e
   exact (jzc hown1 r rfl).2.ne (show 5≠102 by decide) hblk1.ofType
  have hgr:g≠r:=Ne.symm hrg
  have ho2:jjj B [102] w1 (w1.setCell ⟨g,0,none⟩ (.slice (some ⟨r,0,none⟩) (bs.length+1) c1)):=jjj.set_ hblk1 hBg _ (by simp)
  have hblk2:=hblk1.set_ 0 (.slice (some ⟨r,0,none⟩) (bs.length+1) c1)
  have hown2:=jxl hown1 ho2 (by decide)
  have ho12:jjj B [102,5] w (w1.setCell ⟨g,0,none⟩ (.slice (some ⟨r,0,none⟩) (bs.length+1) c1)):=(ho1.more (by simp)).trans (ho2.more (by simp))
  clear hown1 hblk1 ho1 ho2 hd0 hd1 he0 he1 hc0 hc1 hf0 hf1
  generalize w1.setCell ⟨g,0,none⟩ (.slice (some ⟨r,0,none⟩) (bs.length+1) c1)=w2 at *
  have hc0:=hblk2.cell 0
  have hc1:=hblk2.cell 1
  simp only[List.set_cons_zero,jy,jx] at hc0 hc1
  have hf0:=hblk2.frozen 0
  have hf1:=hblk2.frozen 1
  have hbn:bvs bs++[Value.int .u8 0]=bvs (bs++[0]):=by simp[bvs]
  have hbl:bs.length+1=(bs++[0]).length:=by simp
  have hx:(bs++[0])[n/8]?=some (0:UInt8):=by rw[List.getElem?_append_right (by have:=HLEN.out;have:=H8.out;omega)];have:n/8 - bs.length=0:=by { have:=HLEN.out;have:=H8.out;omega };rw[this];rfl
  have hcr:w2.cell? ⟨r,n/8,none⟩=some (.int .u8 0):=by
   have:=hown2.cellAt (n/8) (by have:=HLEN.out;have:=H8.out;omega)
   rw[this,hbn]
   unfold bvs
   rw[List.getElem?_map,hx]
   rfl
  have hfr:=hown2.frozenAt (n/8)
  have hq0:(0:Int)≤(n:Int)/8:=by omega
  have hq1:(n:Int)/8<((bs.length+1:Nat):Int):=by have:=HLEN.out;have:=H8.out;omega
  have HX:=jq hx
  have HBLK2:=jq hblk2
  have HOWN2:=jq hown2
  have HBL:=jq hbl
  have HBN:=jq hbn
  have HO12:=jq ho12
  clear hx hblk2 hown2 hbl hbn ho12
  go_region
  go_wp2
  go_end0
  have hE:=lay_end (b:=b) (bs':=bs++[0]) (by rw[←HBL.out];exact HBLK2.out) hBg (by rw[←HBL.out,←HBN.out];exact HOWN2.out) HN.out HP.out (by rw[if_pos (by rw[←HN.out];exact H8.out)]) HX.out
  rw[show (((0:UInt8).toNat:Nat):Int)=0 from rfl] at hE
  exact⟨rfl,hE.1,HO12.out.trans hE.2⟩
 ·obtain⟨A,c,rfl,hnc,_,hA⟩:=jjk hown
  obtain⟨r,rfl,hBr,hr⟩:∃ r,A=some ⟨r,0,none⟩∧B≤r∧r<w.heap.size:=by
   rcases hA with h0 | h0
   ·omega
   ·exact h0
  clear hA
  have hc0:=hblk.cell 0
  have hc1:=hblk.cell 1
  simp only[jy,jx] at hc0 hc1
  have hf0:=hblk.frozen 0
  have hf1:=hblk.frozen 1
  obtain⟨x,hx⟩:∃ x:UInt8,bs[n/8]?=some x:=⟨bs[n/8]'(by omega),by simp⟩
  have hcr:w.cell? ⟨r,n/8,none⟩=some (.int .u8 x.toNat):=by
   have:=hown.cellAt (n/8) (by omega)
   rw[this]
   simp[bvs,hx]
  have hfr:=hown.frozenAt (n/8)
  have hrg:r≠g:=by
   intro e
   subst e
   exact (jzc hown r rfl).2.ne (show 5≠102 by decide) hblk.ofType
  have hgr:g≠r:=Ne.symm hrg
  have hn8:((n:Int)%8==0)=false:=by rw[beq_eq_false_iff_ne];omega
  have hq0:(0:Int)≤(n:Int)/8:=by omega
  have hq1:(n:Int)/8<(bs.length:Int):=by omega
  have HX:=jq hx
  have HLEN:=jq hlen
  have HBLK:=jq hblk
  have HOWN:=jq hown
  have H8:=jq h8
  clear hx hlen hblk hown h8
  go_enter func114,ntmps114
  go_wp2
  go_region
  go_wp2
  go_end0
  have hE:=lay_end (b:=b) HBLK.out hBg HOWN.out HN.out HP.out (by rw[if_neg (by rw[←HN.out];exact H8.out)]) HX.out
  exact⟨rfl,hE.1,hE.2⟩
theorem bit_arg (V k:Nat) (hV:V<18446744073709551616):bits .and .u64 ((V:Int)/2^k) 1%256=((V.testBit k).toNat:Int):=by
 have hd:V/2^k≤V:=Nat.div_le_self _ _
 have ht:=Nat.testBit_eq_decide_div_mod_eq (x:=V) (i:=k)
 have e:(V:Int)/2^k=((V/2^k:Nat):Int):=by simp
 rw[e,ht]
 generalize V/2^k=q at *
 rw[and1_u64 _ (by omega) (by omega)]
 rcases Nat.mod_two_eq_zero_or_one q with h | h
 ·rw[h];simp;omega
 ·rw[h];simp;omega
def PutRelW (w:World) (B g:Nat) (l:List Bool) (V n:Nat) (i:Value) (wr:World):Prop :=
 ∃ k:Nat,k≤n∧i=.int .i64 k∧WrAt wr B g (l++bitsOf V k)∧jjj B [102,5] w wr
theorem jgs (g B:Nat) (l:List Bool) (V n:Nat) (w:World) (h:WrAt w B g l) (hl:l.length<900000000) (hV:V<18446744073709551616) (hn:n≤64) :
  Calls prog 73 #[.pointer (some ⟨g,0,none⟩),.int .u64 V,.int .i64 n] w fun e w'=>e=.returned (.int .i64 0)∧WrAt w' B g (l++bitsOf V n)∧jjj B [102,5] w w':=by
 have H:=jq h
 clear h
 have hni:(n:Int)≤64:=by omega
 have hn0:¬ (n:Int)<0:=by omega
 have hn1:¬ (64:Int)<n:=by omega
 go_enter func73,ntmps73
 go_wp2
 go_loopw [17] (PutRelW w B g l V n) (fun i _=>n - (intOf i).toNat)
 case atStart=>exact⟨0,Nat.zero_le _,rfl,by rw[show bitsOf V 0=[] from rfl,List.append_nil];exact H.out,jjj.refl _ _ _⟩
 case round =>
  obtain⟨k,hk,rfl,hat,ho⟩:=hrel
  have HAT:=jq hat
  have HO:=jq ho
  clear hat ho
  by_cases hlt:k<n
  ·have hba:=bit_arg V k hV
   have HBA:=jq hba
   have hll:(l++bitsOf V k).length<1000000000:=by rw[List.length_append,jjy];omega
   have HLL:=jq hll
   clear hba hll hV
   go_wp2_with (go_at_call 114;go_must (rw[HBA.out];refine (lay_any g B _ (V.testBit k) _ HAT.out HLL.out).mono ?_;rintro e w1 ⟨rfl,hat1,ho1⟩;rw[List.append_assoc,←qxq] at hat1;have HAT1:=jq hat1;have HO1:=jq (HO.out.trans ho1);clear hat1 ho1))
   go_roundw
   case rel=>exact⟨k+1,by omega,by go_num,HAT1.out,HO1.out⟩
   case measure=>simp[intOf];omega
  ·obtain rfl:k=n:=by omega
   go_wp2
   go_ret
   exact⟨rfl,HAT.out,HO.out⟩
theorem wBytes_any (g B:Nat) (l:List Bool) (w:World) (h:WrAt w B g l) (hl:l.length<1000000000) :
  Calls prog 75 #[.pointer (some ⟨g,0,none⟩)] w fun e w'=>∃ bs,jxp bs l∧NewBy w bs e w':=by
 obtain⟨v,bs,hblk,hBg,hown,hp⟩:=h
 obtain⟨A,c,rfl,hnc,_,hA⟩:=jjk hown
 have hc0:=hblk.cell 0
 simp only[jy] at hc0
 have hr:=Rd.of_own hown
 have hlen:=hp.1
 have hcA:A=none→c=0:=by
  rintro rfl
  rcases hown.2 with ⟨h0,_⟩ | ⟨_,_,_,h0,_⟩
  ·injection h0
  ·cases h0
 have hc:=clone_any A bs.length c bs w hr rfl (by omega) hcA
 have HC:=jq hc
 have HP:=jq hp
 clear hblk hown hp hA hcA hc hr hlen hnc
 go_enter func75,ntmps75
 go_wp2_with (go_at_call 72;go_must (refine HC.out.mono ?_;rintro e w1 ⟨v1,rfl,hown1,hb1⟩))
 go_ret
 exact⟨bs,HP.out,_,rfl,hown1,hb1⟩
def jjw (w:World) (g:Nat) (L:List Bool) (e:Nat):Prop :=
 ∃ (bs:List UInt8) (at_:Nat) (A:Option Addr) (c:Nat),Blk w g 170 [.slice A bs.length c,.int .i64 at_,.int .i64 e]∧RdT w 5 A (bvs bs)∧at_≤8*bs.length∧bs.length≤140737488355000∧bs.length≤c∧L=(jjm bs).drop at_
theorem jjw.only {B:Nat} {ts:List TypeId} {w w':World} {g:Nat} {L:List Bool} {e:Nat} (h:jjw w g L e) (ho:jjj B ts w w') (h1:170∉ts) (h2:5∉ts):jjw w' g L e:=by
 obtain⟨bs,at_,A,c,hb,hr,rest⟩:=h
 exact⟨bs,at_,A,c,hb.only ho h1,hr.only ho h2,rest⟩
theorem read_all (A:Option Addr) (n c:Nat) (l:List UInt8) (w:World) (hr:Rd w w.heap.size A (bvs l)) (hn:l.length=n) (hn1:n≤140737488355000) :
  Calls prog 77 #[.slice A n c] w fun e w'=>∃ g,e=.returned (.pointer (some ⟨g,0,none⟩))∧w.heap.size≤g∧jjw w' g (jjm l) 0∧Below w.heap.size w w':=by
 have hc:=qwr A n c l w hr hn hn1
 have HC:=jq hc
 have HN:=jq hn
 clear hc hn hr
 go_enter func77,ntmps77
 go_wp2_with (go_at_call 72;go_must (refine HC.out.mono ?_;rintro e w1 ⟨v1,rfl,hown1,hb1⟩;obtain⟨A1,c1,rfl,hc1,-,-⟩:=jjk hown1))
 go_ret
 have hlen:=HN.out
 have hblk:Blk (w1.alloc (.cells #[.slice A1 l.length c1,.int .i64 0,.int .i64 0] 170)) w1.heap.size 170 [.slice A1 l.length c1,.int .i64 0,.int .i64 0]:=heap_alloc_new w1 _
 have hrd:=(RdT.of_own (hown1.alloc (.cells #[.slice A1 l.length c1,.int .i64 0,.int .i64 0] 170)))
 exact⟨w1.heap.size,rfl,hb1.size,⟨l,0,A1,c1,hblk,hrd,Nat.zero_le _,by omega,hc1,rfl⟩,hb1.alloc hb1.size _⟩
theorem bit_arg8 (x:UInt8) (r:Nat):bits .and .u8 ((x.toNat:Int)/2^r) 1=((x.toNat.testBit r).toNat:Int):=by
 have hx:=x.toNat_lt
 have hd:x.toNat/2^r≤x.toNat:=Nat.div_le_self _ _
 have ht:=Nat.testBit_eq_decide_div_mod_eq (x:=x.toNat) (i:=r)
 have e:(x.toNat:Int)/2^r=((x.toNat/2^r:Nat):Int):=by simp
 rw[e,ht]
 generalize x.toNat/2^r=q at *
 rw[u8_and _ _ (by omega) (by omega) (by omega) (by omega),Int.toNat_natCast,show ((1:Int).toNat)=1 from rfl,nat_mask1]
 rcases Nat.mod_two_eq_zero_or_one q with h | h <;> rw[h] <;> rfl
section
variable {w:World} {g:Nat} {bs:List UInt8} {at_ e c:Nat} {A:Option Addr}
theorem jxn (u0 u1:Value) (e:Int) (h:Blk w g 170 [u0,u1,.int .i64 e]) :
  Calls prog 172 #[.pointer (some ⟨g,0,none⟩)] w fun e' w'=>e'=.returned (.int .i64 e)∧w=w':=by
 have hc2:=h.cell 2
 simp only[jy,jx] at hc2
 clear h
 go_enter func172,ntmps172
 go_wp2
 go_ret
 exact⟨rfl,rfl⟩
theorem jbg (h:Blk w g 170 [.slice A bs.length c,.int .i64 at_,.int .i64 0]) (hl:bs.length≤140737488355000) (ha:at_≤8*bs.length) :
  Calls prog 117 #[.pointer (some ⟨g,0,none⟩)] w fun e' w'=>e'=.returned (.int .i64 ((8*bs.length - at_:Nat):Int))∧w.drew=w':=by
 have hc0:=h.cell 0
 have hc1:=h.cell 1
 simp only[jy,jx] at hc0 hc1
 have H:=jq h
 clear h
 obtain⟨n,hn⟩:∃ n,n=bs.length:=⟨_,rfl⟩
 rw[←hn] at hc0 hl ha ⊢
 have HN:=jq hn
 clear hn
 have hni:(n:Int)≤140737488355000:=by omega
 have hai:(at_:Int)≤8*(n:Int):=by omega
 go_enter func117,ntmps117
 go_wp2_with (go_at_call 172;go_must (refine (jxn _ _ _ H.out).mono ?_;rintro e w' ⟨rfl,rfl⟩))
 go_region
 go_wp2
 go_ret
 exact⟨jyr (by omega),rfl⟩
theorem jmf (k:Nat) (u2:Value) (h:Blk w g 170 [.slice A bs.length c,.int .i64 at_,u2]) (hr:RdT w 5 A (bvs bs)) (hl:bs.length≤140737488355000) (hk:at_+k<8*bs.length) :
  Calls prog 173 #[.pointer (some ⟨g,0,none⟩),.int .i64 k] w fun e' w'=>e'=.returned (.int .u8 ((jdp bs (at_+k)).toNat:Nat))∧w=w':=by
 have hc0:=h.cell 0
 have hc1:=h.cell 1
 simp only[jy,jx] at hc0 hc1
 obtain⟨x,hx⟩:∃ x:UInt8,bs[(k+at_)/8]?=some x:=⟨bs[(k+at_)/8]'(by omega),by simp⟩
 obtain⟨b,off,rfl,_,hcx⟩:=hr ((k+at_)/8) (.int .u8 x.toNat) (by simp[bvs,hx])
 have hbit:jdp bs (at_+k)=x.toNat.testBit ((k+at_)%8):=by
  simp only[jdp,Nat.add_comm at_ k,List.getD_eq_getElem?_getD,hx,Option.getD_some]
 rw[hbit]
 obtain⟨n,hn⟩:∃ n,n=bs.length:=⟨_,rfl⟩
 rw[←hn] at hc0 hl hk
 clear h hr hx hbit hn
 have hx8:=x.toNat_lt
 have hni:(n:Int)≤140737488355000:=by omega
 have hki:(k:Int)+(at_:Int)<8*(n:Int):=by omega
 have hq0:0≤((k:Int)+(at_:Int))/8:=by omega
 have hq1:((k:Int)+(at_:Int))/8<(n:Int):=by omega
 go_enter func173,ntmps173
 go_wp2
 go_ret
 exact⟨jyr (bit_arg8 x ((k+at_)%8)),rfl⟩
theorem rKeep_any (u0 u1:Value) (e:Int) (h:Blk w g 170 [u0,u1,.int .i64 0]) :
  Calls prog 180 #[.pointer (some ⟨g,0,none⟩),.int .i64 e] w fun e' w'=>e'=.returned (.tuple #[])∧w.setCell ⟨g,2,none⟩ (.int .i64 e)=w':=by
 have hc2:=h.cell 2
 simp only[jy,jx] at hc2
 have hf2:=h.frozen 2
 clear h
 go_enter func180,ntmps180
 go_wp2
 go_end0
 exact⟨rfl,rfl⟩
theorem jyt (n m e:Int) (f:Value) (w:World) (h0:0≤n) (h1:n≤m) :
  Calls prog 179 #[.int .i64 n,.int .i64 m,.int .i64 e,f] w fun e' w'=>e'=.returned (.bool true)∧w=w':=by
 go_enter func179,ntmps179
 go_wp2
 go_ret
 exact⟨rfl,rfl⟩
theorem qdy (u0 u1:Value) (n m e:Int) (h:Blk w g 170 [u0,u1,.int .i64 0]) (hn:n<0∨m<n) :
  Calls prog 179 #[.int .i64 n,.int .i64 m,.int .i64 e,.func (.func 180) #[.pointer (some ⟨g,0,none⟩)] #[]] w fun e' w'=>e'=.returned (.bool false)∧w.setCell ⟨g,2,none⟩ (.int .i64 e)=w':=by
 have H:=jq h
 clear h
 by_cases h0:n<0
 ·clear hn
  go_enter func179,ntmps179
  go_wp2_with (go_at_call 180;go_must (refine (rKeep_any _ _ _ H.out).mono ?_;rintro e' w' ⟨rfl,rfl⟩))
  go_ret
  exact⟨rfl,rfl⟩
 ·have h1:m<n:=by omega
  have h2:0≤n:=by omega
  clear hn h0
  go_enter func179,ntmps179
  go_wp2_with (go_at_call 180;go_must (refine (rKeep_any _ _ _ H.out).mono ?_;rintro e' w' ⟨rfl,rfl⟩))
  go_ret
  exact⟨rfl,rfl⟩
end
theorem qvq (bs:List UInt8) (at_ k:Nat) (b:Bool) (h:((jjm bs).drop at_)[k]?=some b):b=jdp bs (at_+k)∧at_+k<8*bs.length:=by
 rw[List.getElem?_drop] at h
 have hlt:at_+k<8*bs.length:=by
  have:=(List.getElem?_eq_some_iff.1 h).1
  rwa [jjs] at this
 rw[jxr bs _ hlt] at h
 injection h with h
 exact⟨h.symm,hlt⟩
theorem jbv (bs:List UInt8) (at_:Nat):((jjm bs).drop at_).length=8*bs.length - at_:=by rw[List.length_drop,jjs]
theorem get_bit (L:List Bool) (k:Nat) (b:Bool) (hb:L[k]?=some b) (hk:k<64) :
  bits .or .u64 (valOf (L.take k):Int) (IntKind.u64.wrap (IntKind.u64.wrap (b.toNat:Int)*2^k))=(valOf (L.take (k+1)):Int):=by
 have hkl:=(List.getElem?_eq_some_iff.1 hb).1
 have ht:L.take (k+1)=L.take k++[b]:=by rw[List.take_add_one,hb];rfl
 have hl:(L.take k).length=k:=by rw[List.length_take];omega
 have hv:=valOf_lt (L.take k)
 rw[hl] at hv
 have hp:(2:Nat)^k≤2^63:=Nat.pow_le_pow_right (by decide) (by omega)
 have hb1:b.toNat≤1:=by cases b <;> simp
 have hm:b.toNat*2^k≤2^k:=by have:=Nat.mul_le_mul_right (2^k) hb1;rwa [Nat.one_mul] at this
 have e:(b.toNat:Int)*2^k=((b.toNat*2^k:Nat):Int):=by simp
 have ew:IntKind.u64.wrap (b.toNat:Int)=(b.toNat:Int):=by rw[IntKind.wrap_u64];omega
 have hmod:((b.toNat*2^k:Nat):Int)%2^k=0:=by rw[←e];exact Int.mul_emod_left _ _
 have hv2:((valOf (L.take k):Nat):Int)<2^k:=by
  have:((valOf (L.take k):Nat):Int)<((2^k:Nat):Int):=by exact_mod_cast hv
  simpa using this
 rw[ht,qdq,hl,ew,e,IntKind.wrap_u64]
 generalize b.toNat*2^k=q at *
 generalize valOf (L.take k)=v at *
 rw[Int.emod_eq_of_lt (by omega) (by omega),orHigh_u64 _ _ k (by omega) hv2 (by omega) hmod (by omega) (by omega)]
 omega
section
variable {w:World} {g:Nat} {L:List Bool}
theorem rGet_err (n:Int) (e:Nat) (h:jjw w g L e) (he:e≠0):Calls prog 118 #[.pointer (some ⟨g,0,none⟩),.int .i64 n] w fun e' w'=>e'=.returned (.int .u64 0)∧w=w':=by
 obtain⟨bs,at_,A,c,hb,hr,ha,hl,hlc,rfl⟩:=h
 have HB:=jq hb
 have hne:(((e:Nat):Int) != 0)=true:=by rw[bne_iff_ne];omega
 clear hb hr he
 go_enter func118,ntmps118
 go_wp2_with (go_at_call 172;go_must (refine (jxn _ _ _ HB.out).mono ?_;rintro e w' ⟨rfl,rfl⟩))
 go_ret
 exact⟨rfl,rfl⟩
theorem rGet_trunc (n:Nat) (h:jjw w g L 0) (hn:n≤64) (hL1:L.length<n) :
  Calls prog 118 #[.pointer (some ⟨g,0,none⟩),.int .i64 n] w fun e' w'=>e'=.returned (.int .u64 0)∧jjw w' g L 11∧jjj g [170] w w':=by
 obtain⟨bs,at_,A,c,hb,hr,ha,hl,hlc,hL⟩:=h
 have hL2:8*bs.length - at_<n:=by rw[hL,jbv] at hL1;exact hL1
 have HB:=jq hb
 have HR:=jq hr
 have HL:=jq hL
 have HL2:=jq hL2
 clear hb hr hL hL1 hL2
 go_enter func118,ntmps118
 go_wp2_with (first
  | (go_at_call 172;go_must (refine (jxn _ _ _ HB.out).mono ?_;rintro e w' ⟨rfl,rfl⟩))
  | (go_at_call 117;go_must (refine (jbg HB.out hl ha).mono ?_;rintro e w' ⟨rfl,rfl⟩))
  | (go_at_call 179;refine (jyt _ _ _ _ _ (by omega) (by omega)).mono ?_;rintro e w' ⟨rfl,rfl⟩)
  | (go_at_call 179;go_must (refine (qdy (w:=w.drew) _ _ _ _ _ HB.out (by have:=HL2.out;omega)).mono ?_;rintro e w' ⟨rfl,rfl⟩)))
 go_ret
 have ho:jjj g [170] w (w.setCell ⟨g,2,none⟩ (.int .i64 11)):=jjj.set_ HB.out jw _ (by simp)
 exact⟨rfl,⟨bs,at_,A,c,HB.out.set_ 2 _,HR.out.only ho.drew (by decide),ha,hl,hlc,HL.out⟩,ho.drew⟩
def GetRelR (L:List Bool) (n:Nat) (v i:Value):Prop:=∃ k:Nat,k≤n∧i=.int .i64 k∧v=.int .u64 (valOf (L.take k))
theorem rGet_ok (n:Nat) (h:jjw w g L 0) (hn:n≤64) (hL1:n≤L.length) :
  Calls prog 118 #[.pointer (some ⟨g,0,none⟩),.int .i64 n] w fun e' w'=>e'=.returned (.int .u64 (valOf (L.take n)))∧jjw w' g (L.drop n) 0∧jjj g [170] w w':=by
 obtain⟨bs,at_,A,c,hb,hr,ha,hl,hlc,hL⟩:=h
 have hL2:n≤8*bs.length - at_:=by rw[hL,jbv] at hL1;exact hL1
 have hc1:=hb.cell 1
 simp only[jy,jx] at hc1
 have hf1:=hb.frozen 1
 have HB:=jq hb
 have HR:=jq hr
 have HL:=jq hL
 have HL2:=jq hL2
 have hai:(at_:Int)≤1125899907000000:=by omega
 have hni:(n:Int)≤64:=by omega
 clear hb hr hL hL2
 go_enter func118,ntmps118
 go_wp2_with (first
  | (go_at_call 172;go_must (refine (jxn _ _ _ HB.out).mono ?_;rintro e w' ⟨rfl,rfl⟩))
  | (go_at_call 117;go_must (refine (jbg HB.out hl ha).mono ?_;rintro e w' ⟨rfl,rfl⟩))
  | (go_at_call 179;refine (jyt _ _ _ _ _ (by omega) (by have:=HL2.out;omega)).mono ?_;rintro e w' ⟨rfl,rfl⟩))
 go_loop [5,25] (GetRelR L n) (fun _ i=>n - (intOf i).toNat)
 case atStart=>exact⟨0,Nat.zero_le _,rfl,by simp[valOf]⟩
 case round =>
  obtain⟨k,hk,rfl,rfl⟩:=hrel
  by_cases hlt:k<n
  ·have hb0:L[k]?=some (jdp bs (at_+k)):=by
    rw[HL.out,List.getElem?_drop,jxr bs _ (by have:=HL2.out;omega)]
   have hstep:=get_bit L k _ hb0 (by omega)
   have HS:=jq hstep
   clear hb0 hstep
   go_wp2_with (go_at_call 173;go_must (refine (jmf k _ (w:=w.drew) HB.out HR.out hl (by have:=HL2.out;omega)).mono ?_;rintro e w' ⟨rfl,rfl⟩))
   go_round
   case rel=>exact⟨k+1,by omega,by go_num,by rw[HS.out]⟩
   case measure=>simp[intOf];omega
  ·obtain rfl:k=n:=by omega
   go_wp2
   go_ret
   have ho:jjj g [170] w (w.setCell ⟨g,1,none⟩ (.int .i64 ((at_:Int)+(k:Int)))):=jjj.set_ HB.out jw _ (by simp)
   refine⟨rfl,⟨bs,at_+k,A,c,?_,HR.out.only ho.drew (by decide),by have:=HL2.out;omega,hl,hlc,by rw[HL.out,List.drop_drop]⟩,ho.drew⟩
   rw[show ((at_+k:Nat):Int)=(at_:Int)+(k:Int) from rfl]
   exact HB.out.set_ 1 _
theorem rOnes_err (n:Int) (e:Nat) (h:jjw w g L e) (he:e≠0):Calls prog 298 #[.pointer (some ⟨g,0,none⟩),.int .i64 n] w fun e' w'=>e'=.returned (.int .i64 0)∧w=w':=by
 obtain⟨bs,at_,A,c,hb,hr,ha,hl,hlc,rfl⟩:=h
 have HB:=jq hb
 have hne:(((e:Nat):Int) != 0)=true:=by rw[bne_iff_ne];omega
 clear hb hr he
 go_enter func298,ntmps298
 go_wp2_with (go_at_call 172;go_must (refine (jxn _ _ _ HB.out).mono ?_;rintro e w' ⟨rfl,rfl⟩))
 go_ret
 exact⟨rfl,rfl⟩
def CountR (n:Nat) (i:Value):Prop:=∃ k:Nat,k≤n∧i=.int .i64 k
theorem rOnes_full (m:Nat) (R:List Bool) (h:jjw w g L 0) (hm:m≤256) (hL0:L=List.replicate m true++R) :
  Calls prog 298 #[.pointer (some ⟨g,0,none⟩),.int .i64 m] w fun e' w'=>e'=.returned (.int .i64 m)∧jjw w' g R 0∧jjj g [170] w w':=by
 obtain⟨bs,at_,A,c,hb,hr,ha,hl,hlc,hL⟩:=h
 have hL2:m≤8*bs.length - at_:=by rw[←jbv,←hL,hL0];simp
 have hc1:=hb.cell 1
 simp only[jy,jx] at hc1
 have hf1:=hb.frozen 1
 have HB:=jq hb
 have HR:=jq hr
 have HL:=jq hL
 have HL0:=jq hL0
 have HL2:=jq hL2
 have hai:(at_:Int)≤1125899907000000:=by omega
 have hmi:(m:Int)≤256:=by omega
 clear hb hr hL hL2 hL0
 go_enter func298,ntmps298
 go_wp2_with (first
  | (go_at_call 172;go_must (refine (jxn _ _ _ HB.out).mono ?_;rintro e w' ⟨rfl,rfl⟩))
  | (go_at_call 117;go_must (refine (jbg HB.out hl ha).mono ?_;rintro e w' ⟨rfl,rfl⟩))
  | (go_at_call 179;go_must (refine (jyt _ _ _ _ _ (by omega) (by omega)).mono ?_;rintro e w' ⟨rfl,rfl⟩)))
 go_loop [20] (CountR m) (fun i=>m - (intOf i).toNat)
 case atStart=>exact⟨0,Nat.zero_le _,rfl⟩
 case round =>
  obtain⟨k,hk,rfl⟩:=hrel
  by_cases hlt:k<m
  ·have hb0:L[k]?=some true:=by rw[HL0.out,List.getElem?_append_left (by simp;omega)];simp[hlt]
   obtain⟨hbit,hbl⟩:=qvq bs at_ k true (by rw[←HL.out];exact hb0)
   have hn:=fun (W:World) (H:Blk W g 170 [.slice A bs.length c,.int .i64 at_,.int .i64 0]) (HR:RdT W 5 A (bvs bs))=>jmf (w:=W) k _ H HR hl hbl
   rw[←hbit] at hn
   have HNX:=jq hn
   clear hb0 hbit hn hbl
   go_wp2_with (first
    | (go_at_call 179;go_must (refine (jyt _ _ _ _ _ (by omega) (by have:=HL2.out;omega)).mono ?_;rintro e w' ⟨rfl,rfl⟩))
    | (go_at_call 173;go_must (refine (HNX.out w.drew HB.out HR.out).mono ?_;rintro e w' ⟨rfl,rfl⟩)))
   go_round
   case rel=>exact⟨k+1,by omega,by go_num⟩
   case measure=>simp[intOf];omega
  ·obtain rfl:k=m:=by omega
   go_wp2
   go_ret
   have ho:jjj g [170] w (w.setCell ⟨g,1,none⟩ (.int .i64 ((at_:Int)+(k:Int)))):=jjj.set_ HB.out jw _ (by simp)
   refine⟨rfl,⟨bs,at_+k,A,c,?_,HR.out.only ho.drew (by decide),by have:=HL2.out;omega,hl,hlc,?_⟩,ho.drew⟩
   ·rw[show ((at_+k:Nat):Int)=(at_:Int)+(k:Int) from rfl]
    exact HB.out.set_ 1 _
   ·rw[←List.drop_drop,←HL.out,HL0.out];simp
theorem rOnes_stop (m n:Nat) (R:List Bool) (h:jjw w g L 0) (hm:m≤256) (hn:n<m) (hL0:L=List.replicate n true++false::R) :
  Calls prog 298 #[.pointer (some ⟨g,0,none⟩),.int .i64 m] w fun e' w'=>e'=.returned (.int .i64 n)∧jjw w' g R 0∧jjj g [170] w w':=by
 obtain⟨bs,at_,A,c,hb,hr,ha,hl,hlc,hL⟩:=h
 have hL2:n+1≤8*bs.length - at_:=by rw[←jbv,←hL,hL0];simp
 have hc1:=hb.cell 1
 simp only[jy,jx] at hc1
 have hf1:=hb.frozen 1
 have HB:=jq hb
 have HR:=jq hr
 have HL:=jq hL
 have HL0:=jq hL0
 have HL2:=jq hL2
 have hai:(at_:Int)≤1125899907000000:=by omega
 have hmi:(m:Int)≤256:=by omega
 clear hb hr hL hL2 hL0
 go_enter func298,ntmps298
 go_wp2_with (first
  | (go_at_call 172;go_must (refine (jxn _ _ _ HB.out).mono ?_;rintro e w' ⟨rfl,rfl⟩))
  | (go_at_call 117;go_must (refine (jbg HB.out hl ha).mono ?_;rintro e w' ⟨rfl,rfl⟩))
  | (go_at_call 179;go_must (refine (jyt _ _ _ _ _ (by omega) (by omega)).mono ?_;rintro e w' ⟨rfl,rfl⟩)))
 go_loop [20] (CountR n) (fun i=>n - (intOf i).toNat)
 case atStart=>exact⟨0,Nat.zero_le _,rfl⟩
 case round =>
  obtain⟨k,hk,rfl⟩:=hrel
  by_cases hlt:k<n
  ·have hb0:L[k]?=some true:=by rw[HL0.out,List.getElem?_append_left (by simp;omega)];simp[hlt]
   obtain⟨hbit,hbl⟩:=qvq bs at_ k true (by rw[←HL.out];exact hb0)
   have hn:=fun (W:World) (H:Blk W g 170 [.slice A bs.length c,.int .i64 at_,.int .i64 0]) (HR:RdT W 5 A (bvs bs))=>jmf (w:=W) k _ H HR hl hbl
   rw[←hbit] at hn
   have HNX:=jq hn
   clear hb0 hbit hn hbl
   go_wp2_with (first
    | (go_at_call 179;go_must (refine (jyt _ _ _ _ _ (by omega) (by have:=HL2.out;omega)).mono ?_;rintro e w' ⟨rfl,rfl⟩))
    | (go_at_call 173;go_must (refine (HNX.out w.drew HB.out HR.out).mono ?_;rintro e w' ⟨rfl,rfl⟩)))
   go_round
   case rel=>exact⟨k+1,by omega,by go_num⟩
   case measure=>simp[intOf];omega
  ·obtain rfl:k=n:=by omega
   have hb0:L[k]?=some false:=by rw[HL0.out,List.getElem?_append_right (by simp)];simp
   obtain⟨hbit,hbl⟩:=qvq bs at_ k false (by rw[←HL.out];exact hb0)
   have hn:=fun (W:World) (H:Blk W g 170 [.slice A bs.length c,.int .i64 at_,.int .i64 0]) (HR:RdT W 5 A (bvs bs))=>jmf (w:=W) k _ H HR hl hbl
   rw[←hbit] at hn
   have HNX:=jq hn
   clear hb0 hbit hn hbl
   go_wp2_with (first
    | (go_at_call 179;go_must (refine (jyt _ _ _ _ _ (by omega) (by have:=HL2.out;omega)).mono ?_;rintro e w' ⟨rfl,rfl⟩))
    | (go_at_call 173;go_must (refine (HNX.out w.drew HB.out HR.out).mono ?_;rintro e w' ⟨rfl,rfl⟩)))
   go_ret
   have ho:jjj g [170] w (w.setCell ⟨g,1,none⟩ (.int .i64 ((at_:Int)+((k:Int)+1)))):=jjj.set_ HB.out jw _ (by simp)
   refine⟨rfl,⟨bs,at_+(k+1),A,c,?_,HR.out.only ho.drew (by decide),by have:=HL2.out;omega,hl,hlc,?_⟩,ho.drew⟩
   ·rw[show ((at_+(k+1):Nat):Int)=(at_:Int)+((k:Int)+1) from rfl]
    exact HB.out.set_ 1 _
   ·rw[←List.drop_drop,←HL.out,HL0.out,List.drop_append];simp
theorem rOnes_trunc (m n:Nat) (h:jjw w g L 0) (hm:m≤256) (hn:n<m) (hL0:L=List.replicate n true) :
  Calls prog 298 #[.pointer (some ⟨g,0,none⟩),.int .i64 m] w fun e' w'=>e'=.returned (.int .i64 0)∧jjw w' g L 11∧jjj g [170] w w':=by
 obtain⟨bs,at_,A,c,hb,hr,ha,hl,hlc,hL⟩:=h
 have hL2:n=8*bs.length - at_:=by rw[←jbv,←hL,hL0];simp
 have HB:=jq hb
 have HR:=jq hr
 have HL:=jq hL
 have HL0:=jq hL0
 have HL2:=jq hL2
 have hmi:(m:Int)≤256:=by omega
 clear hb hr hL hL2 hL0
 go_enter func298,ntmps298
 go_wp2_with (first
  | (go_at_call 172;go_must (refine (jxn _ _ _ HB.out).mono ?_;rintro e w' ⟨rfl,rfl⟩))
  | (go_at_call 117;go_must (refine (jbg HB.out hl ha).mono ?_;rintro e w' ⟨rfl,rfl⟩))
  | (go_at_call 179;go_must (refine (jyt _ _ _ _ _ (by omega) (by omega)).mono ?_;rintro e w' ⟨rfl,rfl⟩)))
 go_loop [20] (CountR n) (fun i=>n - (intOf i).toNat)
 case atStart=>exact⟨0,Nat.zero_le _,rfl⟩
 case round =>
  obtain⟨k,hk,rfl⟩:=hrel
  by_cases hlt:k<n
  ·have hb0:L[k]?=some true:=by rw[HL0.out];simp[hlt]
   obtain⟨hbit,hbl⟩:=qvq bs at_ k true (by rw[←HL.out];exact hb0)
   have hn:=fun (W:World) (H:Blk W g 170 [.slice A bs.length c,.int .i64 at_,.int .i64 0]) (HR:RdT W 5 A (bvs bs))=>jmf (w:=W) k _ H HR hl hbl
   rw[←hbit] at hn
   have HNX:=jq hn
   clear hb0 hbit hn hbl
   go_wp2_with (first
    | (go_at_call 179;go_must (refine (jyt _ _ _ _ _ (by omega) (by have:=HL2.out;omega)).mono ?_;rintro e w' ⟨rfl,rfl⟩))
    | (go_at_call 173;go_must (refine (HNX.out w.drew HB.out HR.out).mono ?_;rintro e w' ⟨rfl,rfl⟩)))
   go_round
   case rel=>exact⟨k+1,by omega,by go_num⟩
   case measure=>simp[intOf];omega
  ·obtain rfl:k=n:=by omega
   go_wp2_with (go_at_call 179;go_must (refine (qdy (w:=w.drew) _ _ _ _ _ HB.out (by have:=HL2.out;omega)).mono ?_;rintro e w' ⟨rfl,rfl⟩))
   go_ret
   have ho:jjj g [170] w (w.setCell ⟨g,2,none⟩ (.int .i64 11)):=jjj.set_ HB.out jw _ (by simp)
   exact⟨rfl,⟨bs,at_,A,c,HB.out.set_ 2 _,HR.out.only ho.drew (by decide),ha,hl,hlc,HL.out⟩,ho.drew⟩
end
section
variable {w:World} {g:Nat} {L:List Bool}
theorem qxs (e:Nat) (h:jjw w g L e):Calls prog 172 #[.pointer (some ⟨g,0,none⟩)] w fun e' w'=>e'=.returned (.int .i64 e)∧w=w':=by
 obtain⟨bs,at_,A,c,hb,_⟩:=h
 exact jxn _ _ _ hb
theorem qzp (h:jjw w g L 0):Calls prog 117 #[.pointer (some ⟨g,0,none⟩)] w fun e' w'=>e'=.returned (.int .i64 (L.length:Nat))∧w.drew=w':=by
 obtain⟨bs,at_,A,c,hb,hr,ha,hl,_,rfl⟩:=h
 rw[jbv]
 exact jbg hb hl ha
theorem rNext_is (k:Nat) (b:Bool) (h:jjw w g L 0) (hb:L[k]?=some b) :
  Calls prog 173 #[.pointer (some ⟨g,0,none⟩),.int .i64 k] w fun e' w'=>e'=.returned (.int .u8 (b.toNat:Nat))∧w=w':=by
 obtain⟨bs,at_,A,c,hblk,hr,ha,hl,_,rfl⟩:=h
 obtain⟨rfl,hlt⟩:=qvq bs at_ k b hb
 exact jmf k _ hblk hr hl hlt
theorem rDone_err (e:Nat) (h:jjw w g L e) (he:e≠0):Calls prog 109 #[.pointer (some ⟨g,0,none⟩)] w fun e' w'=>e'=.returned (.int .i64 e)∧w=w':=by
 have H:=jq (qxs e h)
 have hne:(((e:Nat):Int) != 0)=true:=by rw[bne_iff_ne];omega
 clear h he
 go_enter func109,ntmps109
 go_wp2_with (go_at_call 172;go_must (refine H.out.mono ?_;rintro e w' ⟨rfl,rfl⟩))
 go_ret
 exact⟨rfl,rfl⟩
theorem rDone_more (h:jjw w g L 0) (hl:8≤L.length) (hl2:L.length≤9000000000000000):Calls prog 109 #[.pointer (some ⟨g,0,none⟩)] w fun e' w'=>e'=.returned (.int .i64 22)∧w.drew=w':=by
 have H:=jq (qxs 0 h)
 have H2:=jq (qzp h)
 have hli:(8:Int)≤(L.length:Int):=by omega
 clear h
 go_enter func109,ntmps109
 go_wp2_with (first
  | (go_at_call 172;go_must (refine H.out.mono ?_;rintro e w' ⟨rfl,rfl⟩))
  | (go_at_call 117;go_must (refine H2.out.mono ?_;rintro e w' ⟨rfl,rfl⟩)))
 go_ret
 exact⟨rfl,rfl⟩
theorem rDone_ok (n:Nat) (h:jjw w g L 0) (hn:n<8) (hL:L=List.replicate n false):Calls prog 109 #[.pointer (some ⟨g,0,none⟩)] w fun e' w'=>e'=.returned (.int .i64 0)∧w.drew=w':=by
 have H:=jq (qxs 0 h)
 have h2:=qzp h
 rw[show L.length=n by rw[hL];simp] at h2
 have H2:=jq h2
 have H3:=jq h
 have HL:=jq hL
 have hni:(n:Int)<8:=by omega
 clear h h2 hL
 go_enter func109,ntmps109
 go_wp2_with (first
  | (go_at_call 172;go_must (refine H.out.mono ?_;rintro e w' ⟨rfl,rfl⟩))
  | (go_at_call 117;go_must (refine H2.out.mono ?_;rintro e w' ⟨rfl,rfl⟩)))
 go_loop [16] (CountR n) (fun i=>n - (intOf i).toNat)
 case atStart=>exact⟨0,Nat.zero_le _,rfl⟩
 case round =>
  obtain⟨k,hk,rfl⟩:=hrel
  by_cases hlt:k<n
  ·have hb0:L[k]?=some false:=by rw[HL.out];simp[hlt]
   have HB0:=jq hb0
   clear hb0
   go_wp2_with (go_at_call 173;go_must (refine (rNext_is (w:=w.drew) k false H3.out HB0.out).mono ?_;rintro e w' ⟨rfl,rfl⟩))
   go_round
   case rel=>exact⟨k+1,by omega,by go_num⟩
   case measure=>simp[intOf];omega
  ·obtain rfl:k=n:=by omega
   go_wp2
   go_ret
   exact⟨rfl,rfl⟩
theorem rDone_pay (n:Nat) (R:List Bool) (h:jjw w g L 0) (hn:n+1+R.length<8) (hL:L=List.replicate n false++true::R):Calls prog 109 #[.pointer (some ⟨g,0,none⟩)] w fun e' w'=>e'=.returned (.int .i64 16)∧w.drew=w':=by
 have H:=jq (qxs 0 h)
 have h2:=qzp h
 obtain⟨t,ht⟩:∃ t,t=n+1+R.length:=⟨_,rfl⟩
 rw[show L.length=t by rw[hL,ht];simp;omega] at h2
 have H2:=jq h2
 have H3:=jq h
 have HL:=jq hL
 have hni:(t:Int)<8:=by omega
 have hnt:n<t:=by omega
 clear h h2 hL ht hn
 go_enter func109,ntmps109
 go_wp2_with (first
  | (go_at_call 172;go_must (refine H.out.mono ?_;rintro e w' ⟨rfl,rfl⟩))
  | (go_at_call 117;go_must (refine H2.out.mono ?_;rintro e w' ⟨rfl,rfl⟩)))
 go_loop [16] (CountR n) (fun i=>n - (intOf i).toNat)
 case atStart=>exact⟨0,Nat.zero_le _,rfl⟩
 case round =>
  obtain⟨k,hk,rfl⟩:=hrel
  by_cases hlt:k<n
  ·have hb0:L[k]?=some false:=by rw[HL.out,List.getElem?_append_left (by simp;omega)];simp[hlt]
   have HB0:=jq hb0
   clear hb0
   go_wp2_with (go_at_call 173;go_must (refine (rNext_is (w:=w.drew) k false H3.out HB0.out).mono ?_;rintro e w' ⟨rfl,rfl⟩))
   go_round
   case rel=>exact⟨k+1,by omega,by go_num⟩
   case measure=>simp[intOf];omega
  ·obtain rfl:k=n:=by omega
   have hb0:L[k]?=some true:=by rw[HL.out,List.getElem?_append_right (by simp)];simp
   have HB0:=jq hb0
   clear hb0
   go_wp2_with (go_at_call 173;go_must (refine (rNext_is (w:=w.drew) k true H3.out HB0.out).mono ?_;rintro e w' ⟨rfl,rfl⟩))
   go_ret
   exact⟨rfl,rfl⟩
end
theorem WrAt.only {B B' g:Nat} {ts:List TypeId} {l:List Bool} {w w':World} (h:WrAt w B' g l) (ho:jjj B ts w w') (h1:102∉ts) (h2:5∉ts):WrAt w' B' g l:=by
 obtain⟨v,bs,hb,hg,hown,hp⟩:=h
 exact⟨v,bs,hb.only ho h1,hg,jxl hown ho h2,hp⟩
theorem wrAt_new (w:World) (B:Nat) (h:B≤w.heap.size):WrAt (w.alloc (.cells #[.slice none 0 0,.int .i64 0] 102)) B w.heap.size [] :=
 ⟨.slice none 0 0,[],heap_alloc_new w _,h,World.ownsRow_nil _ _ _ _,jxp.nil⟩
theorem jzf (g n:Nat) (s:List Bool × Nat) (w:World) (h:jjw w g s.1 s.2) (hn:n≤64) :
  Calls prog 118 #[.pointer (some ⟨g,0,none⟩),.int .i64 (n:Int)] w fun e' w'=>e'=.returned (.int .u64 (getV s n:Nat))∧jjw w' g (getS s n).1 (getS s n).2∧jjj g [170] w w':=by
 obtain⟨L,e⟩:=s
 unfold getV getS
 simp only at h ⊢
 by_cases he:e=0
 ·subst he
  by_cases hl:n≤L.length
  ·rw[if_pos ⟨rfl,hl⟩,if_pos rfl,if_pos hl]
   exact rGet_ok n h hn hl
  ·rw[if_neg (fun q=>hl q.2),if_pos rfl,if_neg hl]
   exact rGet_trunc n h hn (Nat.lt_of_not_le hl)
 ·rw[if_neg (fun q=>he q.1),if_neg he]
  refine (rGet_err (n:Int) e h he).mono ?_
  rintro e' w' ⟨rfl,rfl⟩
  exact⟨rfl,h,jjj.refl _ _ _⟩
theorem rDone_st (g:Nat) (s:List Bool × Nat) (w:World) (h:jjw w g s.1 s.2) (hl:s.1.length≤9000000000000000) :
  Calls prog 109 #[.pointer (some ⟨g,0,none⟩)] w fun e' w'=>e'=.returned (.int .i64 (jwn s:Nat))∧jjj g [170] w w':=by
 obtain⟨L,e⟩:=s
 unfold jwn
 simp only at h hl ⊢
 by_cases he:e=0
 ·subst he
  rw[if_neg (by simp)]
  by_cases h8:8≤L.length
  ·rw[if_pos h8]
   refine (rDone_more h h8 hl).mono ?_
   rintro e' w' ⟨rfl,rfl⟩
   exact⟨rfl,(jjj.refl _ _ _).drew⟩
  ·rw[if_neg h8]
   by_cases ha:L.any id=true
   ·rw[if_pos ha]
    obtain⟨n,R,hL⟩:=any_split L ha
    have hlen:=congrArg List.length hL
    simp at hlen
    refine (rDone_pay n R h (by omega) hL).mono ?_
    rintro e' w' ⟨rfl,rfl⟩
    exact⟨rfl,(jjj.refl _ _ _).drew⟩
   ·rw[if_neg ha]
    refine (rDone_ok L.length h (by omega) (any_none L ha)).mono ?_
    rintro e' w' ⟨rfl,rfl⟩
    exact⟨rfl,(jjj.refl _ _ _).drew⟩
 ·rw[if_pos he]
  refine (rDone_err e h he).mono ?_
  rintro e' w' ⟨rfl,rfl⟩
  exact⟨rfl,jjj.refl _ _ _⟩
theorem rOnes_st (g m:Nat) (s:List Bool × Nat) (w:World) (h:jjw w g s.1 s.2) (hm:m≤256) :
  Calls prog 298 #[.pointer (some ⟨g,0,none⟩),.int .i64 (m:Int)] w fun e' w'=>e'=.returned (.int .i64 (jwm s m:Nat))∧jjw w' g (jxs s m).1 (jxs s m).2∧jjj g [170] w w':=by
 obtain⟨L,e⟩:=s
 unfold jwm jxs
 simp only at h ⊢
 by_cases he:e=0
 ·subst he
  rw[if_pos rfl,if_pos rfl]
  rcases qbf m L with ⟨R,h1,h2⟩ | ⟨n,R,h0,h1,h2⟩ | ⟨n,h0,h1,h2⟩
  ·rw[h2];exact rOnes_full m R h hm h1
  ·rw[h2];exact rOnes_stop m n R h hm h0 h1
  ·rw[h2];exact rOnes_trunc m n h hm h0 h1
 ·rw[if_neg he,if_neg he]
  refine (rOnes_err (m:Int) e h he).mono ?_
  rintro e' w' ⟨rfl,rfl⟩
  exact⟨rfl,h,jjj.refl _ _ _⟩
def RdrA (w:World) (g:Nat) (A:Option Addr) (c:Nat) (bs:List UInt8) (L:List Bool) (e:Nat):Prop :=
 ∃ at_:Nat,Blk w g 170 [.slice A bs.length c,.int .i64 at_,.int .i64 e]∧RdT w 5 A (bvs bs)∧at_≤8*bs.length∧bs.length≤140737488355000∧bs.length≤c∧L=(jjm bs).drop at_
theorem RdrA.is {w:World} {g:Nat} {A:Option Addr} {c:Nat} {bs:List UInt8} {L:List Bool} {e:Nat} (h:RdrA w g A c bs L e):jjw w g L e:=by
 obtain⟨at_,h⟩:=h
 exact⟨bs,at_,A,c,h⟩
theorem jjw.at_ {w:World} {g:Nat} {L:List Bool} {e:Nat} (h:jjw w g L e):∃ A c bs,RdrA w g A c bs L e:=by
 obtain⟨bs,at_,A,c,h⟩:=h
 exact⟨A,c,bs,at_,h⟩
theorem RdrA.only {B:Nat} {ts:List TypeId} {w w':World} {g:Nat} {A:Option Addr} {c:Nat} {bs:List UInt8} {L:List Bool} {e:Nat} (h:RdrA w g A c bs L e) (ho:jjj B ts w w') (h1:170∉ts) (h2:5∉ts):RdrA w' g A c bs L e:=by
 obtain⟨at_,hb,hr,rest⟩:=h
 exact⟨at_,hb.only ho h1,hr.only ho h2,rest⟩
theorem RdrA.row {w:World} {g:Nat} {A:Option Addr} {c:Nat} {bs:List UInt8} {L:List Bool} {e:Nat} (h:RdrA w g A c bs L e):bs=[]∨∃ b off,A=some ⟨b,off,none⟩∧b<w.heap.size:=by
 obtain⟨at_,hb,hr,rest⟩:=h
 cases bs with
 | nil=>exact .inl rfl
 | cons x t =>
  obtain⟨b,off,e1,e2,e3⟩:=hr 0 (.int .u8 (x.toNat:Int)) (by simp[bvs])
  exact .inr ⟨b,off,e1,e2.lt⟩
theorem RdrA.setOther {w:World} {g r i:Nat} {A:Option Addr} {c:Nat} {bs:List UInt8} {L:List Bool} {e:Nat} (h:RdrA w g A c bs L e) (hr:bs=[]∨∃ b off,A=some ⟨b,off,none⟩∧b≠r) (hg:g≠r) (u:Value):RdrA (w.setCell ⟨r,i,none⟩ u) g A c bs L e:=by
 obtain⟨at_,hb,hrd,rest⟩:=h
 refine⟨at_,hb.setOther ⟨r,i,none⟩ u (by simpa using hg),?_,rest⟩
 rcases hr with rfl | ⟨b,off,rfl,hb2⟩
 ·intro k u hu;simp[bvs] at hu
 ·intro k v hv
  obtain⟨b',off',e1,e2,e3⟩:=hrd k v hv
  injection e1 with e1
  injection e1 with e1 e4
  subst e1 e4
  have hh:=Below.heap_setCell w ⟨r,i,none⟩ u b (by simpa using hb2)
  refine⟨b,off,rfl,?_,(World.cell?_of_block (w:=w) (a:=⟨b,off+k,none⟩) hh).trans e3⟩
  obtain⟨cs',fr,h2⟩:=e2
  exact⟨cs',fr,hh.trans h2⟩
section
variable {w:World} {g c:Nat} {A:Option Addr} {bs:List UInt8} {L:List Bool}
theorem aGet_err (n:Int) (e:Nat) (h:RdrA w g A c bs L e) (he:e≠0):Calls prog 118 #[.pointer (some ⟨g,0,none⟩),.int .i64 n] w fun e' w'=>e'=.returned (.int .u64 0)∧w=w':=by
 obtain⟨at_,hb,hr,ha,hl,hlc,rfl⟩:=h
 have HB:=jq hb
 have hne:(((e:Nat):Int) != 0)=true:=by rw[bne_iff_ne];omega
 clear hb hr he
 go_enter func118,ntmps118
 go_wp2_with (go_at_call 172;go_must (refine (jxn _ _ _ HB.out).mono ?_;rintro e w' ⟨rfl,rfl⟩))
 go_ret
 exact⟨rfl,rfl⟩
theorem aGet_trunc (n:Nat) (h:RdrA w g A c bs L 0) (hn:n≤64) (hL1:L.length<n) :
  Calls prog 118 #[.pointer (some ⟨g,0,none⟩),.int .i64 n] w fun e' w'=>e'=.returned (.int .u64 0)∧RdrA w' g A c bs L 11∧jjj g [170] w w':=by
 obtain⟨at_,hb,hr,ha,hl,hlc,hL⟩:=h
 have hL2:8*bs.length - at_<n:=by rw[hL,jbv] at hL1;exact hL1
 have HB:=jq hb
 have HR:=jq hr
 have HL:=jq hL
 have HL2:=jq hL2
 clear hb hr hL hL1 hL2
 go_enter func118,ntmps118
 go_wp2_with (first
  | (go_at_call 172;go_must (refine (jxn _ _ _ HB.out).mono ?_;rintro e w' ⟨rfl,rfl⟩))
  | (go_at_call 117;go_must (refine (jbg HB.out hl ha).mono ?_;rintro e w' ⟨rfl,rfl⟩))
  | (go_at_call 179;refine (jyt _ _ _ _ _ (by omega) (by omega)).mono ?_;rintro e w' ⟨rfl,rfl⟩)
  | (go_at_call 179;go_must (refine (qdy (w:=w.drew) _ _ _ _ _ HB.out (by have:=HL2.out;omega)).mono ?_;rintro e w' ⟨rfl,rfl⟩)))
 go_ret
 have ho:jjj g [170] w (w.setCell ⟨g,2,none⟩ (.int .i64 11)):=jjj.set_ HB.out jw _ (by simp)
 exact⟨rfl,⟨at_,HB.out.set_ 2 _,HR.out.only ho.drew (by decide),ha,hl,hlc,HL.out⟩,ho.drew⟩
theorem aGet_ok (n:Nat) (h:RdrA w g A c bs L 0) (hn:n≤64) (hL1:n≤L.length) :
  Calls prog 118 #[.pointer (some ⟨g,0,none⟩),.int .i64 n] w fun e' w'=>e'=.returned (.int .u64 (valOf (L.take n)))∧RdrA w' g A c bs (L.drop n) 0∧jjj g [170] w w':=by
 obtain⟨at_,hb,hr,ha,hl,hlc,hL⟩:=h
 have hL2:n≤8*bs.length - at_:=by rw[hL,jbv] at hL1;exact hL1
 have hc1:=hb.cell 1
 simp only[jy,jx] at hc1
 have hf1:=hb.frozen 1
 have HB:=jq hb
 have HR:=jq hr
 have HL:=jq hL
 have HL2:=jq hL2
 have hai:(at_:Int)≤1125899907000000:=by omega
 have hni:(n:Int)≤64:=by omega
 clear hb hr hL hL2
 go_enter func118,ntmps118
 go_wp2_with (first
  | (go_at_call 172;go_must (refine (jxn _ _ _ HB.out).mono ?_;rintro e w' ⟨rfl,rfl⟩))
  | (go_at_call 117;go_must (refine (jbg HB.out hl ha).mono ?_;rintro e w' ⟨rfl,rfl⟩))
  | (go_at_call 179;refine (jyt _ _ _ _ _ (by omega) (by have:=HL2.out;omega)).mono ?_;rintro e w' ⟨rfl,rfl⟩))
 go_loop [5,25] (GetRelR L n) (fun _ i=>n - (intOf i).toNat)
 case atStart=>exact⟨0,Nat.zero_le _,rfl,by simp[valOf]⟩
 case round =>
  obtain⟨k,hk,rfl,rfl⟩:=hrel
  by_cases hlt:k<n
  ·have hb0:L[k]?=some (jdp bs (at_+k)):=by
    rw[HL.out,List.getElem?_drop,jxr bs _ (by have:=HL2.out;omega)]
   have hstep:=get_bit L k _ hb0 (by omega)
   have HS:=jq hstep
   clear hb0 hstep
   go_wp2_with (go_at_call 173;go_must (refine (jmf k _ (w:=w.drew) HB.out HR.out hl (by have:=HL2.out;omega)).mono ?_;rintro e w' ⟨rfl,rfl⟩))
   go_round
   case rel=>exact⟨k+1,by omega,by go_num,by rw[HS.out]⟩
   case measure=>simp[intOf];omega
  ·obtain rfl:k=n:=by omega
   go_wp2
   go_ret
   have ho:jjj g [170] w (w.setCell ⟨g,1,none⟩ (.int .i64 ((at_:Int)+(k:Int)))):=jjj.set_ HB.out jw _ (by simp)
   refine⟨rfl,⟨at_+k,?_,HR.out.only ho.drew (by decide),by have:=HL2.out;omega,hl,hlc,by rw[HL.out,List.drop_drop]⟩,ho.drew⟩
   rw[show ((at_+k:Nat):Int)=(at_:Int)+(k:Int) from rfl]
   exact HB.out.set_ 1 _
end
theorem aGet_st {A:Option Addr} {c:Nat} {bs:List UInt8} (g n:Nat) (s:List Bool × Nat) (w:World) (h:RdrA w g A c bs s.1 s.2) (hn:n≤64) :
  Calls prog 118 #[.pointer (some ⟨g,0,none⟩),.int .i64 (n:Int)] w fun e' w'=>e'=.returned (.int .u64 (getV s n:Nat))∧RdrA w' g A c bs (getS s n).1 (getS s n).2∧jjj g [170] w w':=by
 obtain⟨L,e⟩:=s
 unfold getV getS
 simp only at h ⊢
 by_cases he:e=0
 ·subst he
  by_cases hl:n≤L.length
  ·rw[if_pos ⟨rfl,hl⟩,if_pos rfl,if_pos hl]
   exact aGet_ok n h hn hl
  ·rw[if_neg (fun q=>hl q.2),if_pos rfl,if_neg hl]
   exact aGet_trunc n h hn (Nat.lt_of_not_le hl)
 ·rw[if_neg (fun q=>he q.1),if_neg he]
  refine (aGet_err (n:Int) e h he).mono ?_
  rintro e' w' ⟨rfl,rfl⟩
  exact⟨rfl,h,jjj.refl _ _ _⟩
def WrO (w:World) (B g:Nat) (l:List Bool):Prop :=
 ∃ v bs,Blk w g 102 [v,.int .i64 l.length]∧B≤w.heap.size∧w.ownsRow B 5 1 v bs.length (bvs bs)∧jxp bs l
structure jzx (B g:Nat) (w w':World):Prop where
 os:w'.os=w.os
 tape:w'.tape=w.tape
 output:w'.output=w.output
 size:w.heap.size≤w'.heap.size
 block:∀ k,k<w.heap.size→k≠g→(k<B∨¬ jby w k 5)→w'.heap[k]?=w.heap[k]?
section
variable {B g:Nat} {w w' w'':World}
theorem jzx.refl (B g:Nat) (w:World):jzx B g w w:=⟨rfl,rfl,rfl,Nat.le_refl _,fun _ _ _ _=>rfl⟩
theorem jzx.trans (h:jzx B g w w') (h':jzx B g w' w''):jzx B g w w'' :=
 ⟨h'.os.trans h.os,h'.tape.trans h.tape,h'.output.trans h.output,Nat.le_trans h.size h'.size,fun k hk hg hn=>by
  have e:=h.block k hk hg hn
  refine (h'.block k (Nat.lt_of_lt_of_le hk h.size) hg ?_).trans e
  rcases hn with hn | hn
  ·exact .inl hn
  ·refine .inr fun ho=>hn ?_
   obtain⟨cs,fr,ho⟩:=ho
   exact⟨cs,fr,e ▸ ho⟩⟩
theorem jzx.drew (h:jzx B g w w'):jzx B g w w'.drew:=⟨h.os,h.tape,h.output,h.size,h.block⟩
theorem jzx.of_only (h:jjj B [5] w w'):jzx B g w w':=⟨h.os,h.tape,h.output,h.size,fun k hk _ hn=>h.block k hk (hn.imp id fun q t ht=>by rw[List.mem_singleton.1 ht];exact q)⟩
theorem jzx.of_below (h:Below w.heap.size w w'):jzx B g w w':=⟨h.os,h.tape,h.output,h.size,fun k hk _ _=>h.block k hk⟩
theorem jzx.set_g (i:Nat) (u:Value):jzx B g w (w.setCell ⟨g,i,none⟩ u):=⟨rfl,rfl,rfl,by simp[World.setCell],fun k _ hg _=>Below.heap_setCell w _ u k (by simpa using hg)⟩
theorem jzx.set_new (h:jzx B g w w') {p:Addr} (hp:w.heap.size≤p.block) (u:Value):jzx B g w (w'.setCell p u) :=
 ⟨h.os,h.tape,h.output,by simpa [World.setCell] using h.size,fun k hk hg hn=>(Below.heap_setCell w' p u k (by omega)).trans (h.block k hk hg hn)⟩
theorem jzx.blkT {r:Nat} {t:TypeId} {cs:List Value} (h:jzx B g w w') (hb:Blk w r t cs) (ht:t≠5) (hg:r≠g):Blk w' r t cs:=(h.block r hb.lt hg (.inr fun ho=>hb.ofType.ne ht ho)).trans hb
theorem WrO.lt {l:List Bool} (h:WrO w B g l):g<w.heap.size∧B≤w.heap.size:=by
 obtain⟨v,bs,h1,h0,-⟩:=h
 exact⟨h1.lt,h0⟩
theorem jzx.below (h:jzx B g w w') {n:Nat} (hn:n≤B) (hg:n≤g) (hs:n≤w.heap.size):Below n w w':=⟨h.os,h.tape,h.output,h.size,fun k hk=>h.block k (by omega) (by omega) (.inl (by omega))⟩
theorem WrO.kept {l:List Bool} (h:WrO w B g l) (hb:Below w.heap.size w w'):WrO w' B g l:=by
 obtain⟨v,bs,h1,h0,h2,h3⟩:=h
 exact⟨v,bs,h1.grow hb,Nat.le_trans h0 hb.size,jyh h2 hb,h3⟩
theorem WrO.set_ {l:List Bool} {r i:Nat} {t:TypeId} {cs:List Value} (h:WrO w B g l) (hb:Blk w r t cs) (hg:r≠g) (ht:5≠t) (u:Value):WrO (w.setCell ⟨r,i,none⟩ u) B g l:=by
 obtain⟨v,bs,h1,h0,h2,h3⟩:=h
 have ho:jjj 0 [t] w (w.setCell ⟨r,i,none⟩ u):=jjj.set_ hb (Nat.zero_le _) _ (by simp)
 exact⟨v,bs,h1.setOther ⟨r,i,none⟩ u (by simpa using Ne.symm hg),by simpa [World.setCell] using h0,jxl h2 ho (by simpa using ht),h3⟩
theorem WrO.new (h:Blk w g 102 [.slice none 0 0,.int .i64 0]) (hB:B≤w.heap.size):WrO w B g []:=⟨_,[],h,hB,World.ownsRow_nil _ _ _ _,jxp.nil⟩
end
theorem layO_end {w:World} {B g r c n:Nat} {bs bs':List UInt8} {l:List Bool} {b:Bool} {x:UInt8} {u:Value}
  (hblk:Blk w g 102 [.slice (some ⟨r,0,none⟩) bs'.length c,u]) (hBg:B≤w.heap.size) (hown:w.ownsRow B 5 1 (.slice (some ⟨r,0,none⟩) bs'.length c) bs'.length (bvs bs'))
  (hn:n=l.length) (hp:jxp bs l) (hbs:bs'=if l.length%8=0 then bs++[0] else bs) (hx:bs'[n/8]?=some x) :
  WrO ((w.setCell ⟨r,n/8,none⟩ (.int .u8 (bits .or .u8 (x.toNat:Int) ((b.toNat:Int)*2^(n%8)%256)))).setCell ⟨g,1,none⟩ (.int .i64 ((n:Int)+1))).drew B g (l++[b]) ∧
  jzx B g w ((w.setCell ⟨r,n/8,none⟩ (.int .u8 (bits .or .u8 (x.toNat:Int) ((b.toNat:Int)*2^(n%8)%256)))).setCell ⟨g,1,none⟩ (.int .i64 ((n:Int)+1))).drew:=by
 obtain⟨c8,he,hc8⟩:=or_bit x b (n%8) (by omega)
 rw[he]
 obtain⟨hst,hgr⟩:=hown.stored (n/8) (.int .u8 c8.toNat)
 rw[bvs_set] at hst
 have ho1:jjj B [5] w (w.setCell ⟨r,n/8,none⟩ (.int .u8 c8.toNat)):=jjj.grown (e:=5) hgr (fun k hk=>by injection hk with hk;subst hk;exact jzc hown r rfl) (by simp)
 have hblk1:=hblk.only ho1 (by decide)
 have ho2:jjj 0 [102] (w.setCell ⟨r,n/8,none⟩ (.int .u8 c8.toNat)) ((w.setCell ⟨r,n/8,none⟩ (.int .u8 c8.toNat)).setCell ⟨g,1,none⟩ (.int .i64 ((n:Int)+1))):=jjj.set_ hblk1 (Nat.zero_le _) _ (by simp)
 have hst2:=jxl hst ho2 (by decide)
 have hblk2:=hblk1.set_ 1 (.int .i64 ((n:Int)+1))
 have hsz:(bs'.set (n/8) c8).length=bs'.length:=by simp
 refine⟨⟨.slice (some ⟨r,0,none⟩) bs'.length c,bs'.set (n/8) c8,?_,by simpa [World.setCell] using hBg,by rw[hsz];exact hst2,?_⟩,((jzx.of_only ho1).trans (jzx.set_g _ _)).drew⟩
 ·have e:((l++[b]).length:Int)=(n:Int)+1:=by rw[hn];simp
  rw[e]
  exact hblk2
 ·subst hn
  exact hp.snoc b bs' hbs c8 (by rw[hc8,List.getD_eq_getElem?_getD,hx];rfl)
theorem layO_any (g B:Nat) (l:List Bool) (b:Bool) (w:World) (h:WrO w B g l) (hl:l.length<1000000000) :
  Calls prog 114 #[.pointer (some ⟨g,0,none⟩),.int .u8 b.toNat] w fun e w'=>e=.returned (.tuple #[])∧WrO w' B g (l++[b])∧jzx B g w w':=by
 obtain⟨i0,hi,hz0,hz1,hz2⟩:=info_parts qvh
 obtain⟨v,bs,hblk,hBg,hown,hp⟩:=h
 obtain⟨n,hn⟩:∃ n,n=l.length:=⟨_,rfl⟩
 rw[←hn] at hblk hl
 have hlen:bs.length=(n+7)/8:=by rw[hn];exact hp.1
 have HN:=jq hn
 have HP:=jq hp
 clear hn hp
 by_cases h8:n%8=0
 ·have hn0:((n:Int)%8==0)=true:=by rw[beq_iff_eq];omega
  have hlb:bs.length≤200000000:=by omega
  have hc0:=hblk.cell 0
  have hc1:=hblk.cell 1
  simp only[jy,jx] at hc0 hc1
  have hf0:=hblk.frozen 0
  have hf1:=hblk.frozen 1
  have hgs:=hblk.lt
  have H8:=jq h8
  have HLEN:=jq hlen
  have HBLK:=jq hblk
  have HOWN:=jq hown
  clear hlen hblk hown h8
  go_enter func114,ntmps114
  go_wp2_with (at_builtin;go_must (refine jjd rfl (.tmp 14) (.tmp 15) 22 rfl B 5 i0 (.int .u8 0) 1 1 underlying22 hi hz0 hz1 hz2 rfl (by decide) _ _ _ rfl (HOWN.out.alloc _) _ _ 1 1 _ rfl (Rd.new _ _ _) rfl (by intro u hu;simp at hu;subst hu;rfl) (by simp only[maxLen];omega) (by omega) (by simp;omega) ?_;intro v1 w1 hown1 hg1;obtain⟨A1,c1,rfl,hn1,-,hA1⟩:=jjk hown1;have ho1:jjj B [5] w w1:=(jjj.of_below ((Below.refl _ _).alloc jw _)).trans (jjj.grown hg1 (jzc (HOWN.out.alloc _)) (by simp));have hblk1:=HBLK.out.only ho1 (by decide);have hd0:=hblk1.cell 0;have hd1:=hblk1.cell 1;simp only[jy,jx] at hd0 hd1;have he0:=hblk1.frozen 0;have he1:=hblk1.frozen 1))
  obtain⟨r,rfl,hBr,hr⟩:∃ r,A1=some ⟨r,0,none⟩∧B≤r∧r<w1.heap.size:=by
   rcases hA1 with h0 | h0
   ·omega
   ·exact h0
  clear hA1
  have hrg:r≠g:=by
   intro e
   subst e
   exact (jzc hown1 r rfl).2.ne (show 5≠102 by decide) hblk1.ofType
  have hgr:g≠r:=Ne.symm hrg
  have ho2:jjj 0 [102] w1 (w1.setCell ⟨g,0,none⟩ (.slice (some ⟨r,0,none⟩) (bs.length+1) c1)):=jjj.set_ hblk1 (Nat.zero_le _) _ (by simp)
  have hblk2:=hblk1.set_ 0 (.slice (some ⟨r,0,none⟩) (bs.length+1) c1)
  have hown2:=jxl hown1 ho2 (by decide)
  have ho12:jzx B g w (w1.setCell ⟨g,0,none⟩ (.slice (some ⟨r,0,none⟩) (bs.length+1) c1)):=(jzx.of_only ho1).trans (jzx.set_g _ _)
  clear hown1 hblk1 ho1 ho2 hd0 hd1 he0 he1 hc0 hc1 hf0 hf1
  generalize w1.setCell ⟨g,0,none⟩ (.slice (some ⟨r,0,none⟩) (bs.length+1) c1)=w2 at *
  have hc0:=hblk2.cell 0
  have hc1:=hblk2.cell 1
  simp only[List.set_cons_zero,jy,jx] at hc0 hc1
  have hf0:=hblk2.frozen 0
  have hf1:=hblk2.frozen 1
  have hbn:bvs bs++[Value.int .u8 0]=bvs (bs++[0]):=by simp[bvs]
  have hbl:bs.length+1=(bs++[0]).length:=by simp
  have hx:(bs++[0])[n/8]?=some (0:UInt8):=by rw[List.getElem?_append_right (by have:=HLEN.out;have:=H8.out;omega)];have:n/8 - bs.length=0:=by { have:=HLEN.out;have:=H8.out;omega };rw[this];rfl
  have hcr:w2.cell? ⟨r,n/8,none⟩=some (.int .u8 0):=by
   have:=hown2.cellAt (n/8) (by have:=HLEN.out;have:=H8.out;omega)
   rw[this,hbn]
   unfold bvs
   rw[List.getElem?_map,hx]
   rfl
  have hfr:=hown2.frozenAt (n/8)
  have hq0:(0:Int)≤(n:Int)/8:=by omega
  have hq1:(n:Int)/8<((bs.length+1:Nat):Int):=by have:=HLEN.out;have:=H8.out;omega
  have HX:=jq hx
  have HBLK2:=jq hblk2
  have HOWN2:=jq hown2
  have HBL:=jq hbl
  have HBN:=jq hbn
  have HO12:=jq ho12
  clear hx hblk2 hown2 hbl hbn ho12
  go_region
  go_wp2
  go_end0
  have hE:=layO_end (b:=b) (bs':=bs++[0]) (by rw[←HBL.out];exact HBLK2.out) (Nat.le_trans hBg HO12.out.size) (by rw[←HBL.out,←HBN.out];exact HOWN2.out) HN.out HP.out (by rw[if_pos (by rw[←HN.out];exact H8.out)]) HX.out
  rw[show (((0:UInt8).toNat:Nat):Int)=0 from rfl] at hE
  exact⟨rfl,hE.1,HO12.out.trans hE.2⟩
 ·obtain⟨A,c,rfl,hnc,_,hA⟩:=jjk hown
  obtain⟨r,rfl,hBr,hr⟩:∃ r,A=some ⟨r,0,none⟩∧B≤r∧r<w.heap.size:=by
   rcases hA with h0 | h0
   ·omega
   ·exact h0
  clear hA
  have hc0:=hblk.cell 0
  have hc1:=hblk.cell 1
  simp only[jy,jx] at hc0 hc1
  have hf0:=hblk.frozen 0
  have hf1:=hblk.frozen 1
  obtain⟨x,hx⟩:∃ x:UInt8,bs[n/8]?=some x:=⟨bs[n/8]'(by omega),by simp⟩
  have hcr:w.cell? ⟨r,n/8,none⟩=some (.int .u8 x.toNat):=by
   have:=hown.cellAt (n/8) (by omega)
   rw[this]
   simp[bvs,hx]
  have hfr:=hown.frozenAt (n/8)
  have hrg:r≠g:=by
   intro e
   subst e
   exact (jzc hown r rfl).2.ne (show 5≠102 by decide) hblk.ofType
  have hgr:g≠r:=Ne.symm hrg
  have hn8:((n:Int)%8==0)=false:=by rw[beq_eq_false_iff_ne];omega
  have hq0:(0:Int)≤(n:Int)/8:=by omega
  have hq1:(n:Int)/8<(bs.length:Int):=by omega
  have HX:=jq hx
  have HLEN:=jq hlen
  have HBLK:=jq hblk
  have HOWN:=jq hown
  have H8:=jq h8
  clear hx hlen hblk hown h8
  go_enter func114,ntmps114
  go_wp2
  go_region
  go_wp2
  go_end0
  have hE:=layO_end (b:=b) HBLK.out hBg HOWN.out HN.out HP.out (by rw[if_neg (by rw[←HN.out];exact H8.out)]) HX.out
  exact⟨rfl,hE.1,hE.2⟩
def PutRelO (w:World) (B g:Nat) (l:List Bool) (V n:Nat) (i:Value) (wr:World):Prop :=
 ∃ k:Nat,k≤n∧i=.int .i64 k∧WrO wr B g (l++bitsOf V k)∧jzx B g w wr
theorem jgb (g B:Nat) (l:List Bool) (V n:Nat) (w:World) (h:WrO w B g l) (hl:l.length<900000000) (hV:V<18446744073709551616) (hn:n≤64) :
  Calls prog 73 #[.pointer (some ⟨g,0,none⟩),.int .u64 V,.int .i64 n] w fun e w'=>e=.returned (.int .i64 0)∧WrO w' B g (l++bitsOf V n)∧jzx B g w w':=by
 have H:=jq h
 clear h
 have hni:(n:Int)≤64:=by omega
 have hn0:¬ (n:Int)<0:=by omega
 have hn1:¬ (64:Int)<n:=by omega
 go_enter func73,ntmps73
 go_wp2
 go_loopw [17] (PutRelO w B g l V n) (fun i _=>n - (intOf i).toNat)
 case atStart=>exact⟨0,Nat.zero_le _,rfl,by rw[show bitsOf V 0=[] from rfl,List.append_nil];exact H.out,jzx.refl _ _ _⟩
 case round =>
  obtain⟨k,hk,rfl,hat,ho⟩:=hrel
  have HAT:=jq hat
  have HO:=jq ho
  clear hat ho
  by_cases hlt:k<n
  ·have hba:=bit_arg V k hV
   have HBA:=jq hba
   have hll:(l++bitsOf V k).length<1000000000:=by rw[List.length_append,jjy];omega
   have HLL:=jq hll
   clear hba hll hV
   go_wp2_with (go_at_call 114;go_must (rw[HBA.out];refine (layO_any g B _ (V.testBit k) _ HAT.out HLL.out).mono ?_;rintro e w1 ⟨rfl,hat1,ho1⟩;rw[List.append_assoc,←qxq] at hat1;have HAT1:=jq hat1;have HO1:=jq (HO.out.trans ho1);clear hat1 ho1))
   go_roundw
   case rel=>exact⟨k+1,by omega,by go_num,HAT1.out,HO1.out⟩
   case measure=>simp[intOf];omega
  ·obtain rfl:k=n:=by omega
   go_wp2
   go_ret
   exact⟨rfl,HAT.out,HO.out⟩
def OnesRelO (w:World) (B g:Nat) (l:List Bool) (n:Nat) (i:Value) (wr:World):Prop :=
 ∃ k:Nat,k≤n∧i=.int .i64 k∧WrO wr B g (l++List.replicate k true)∧jzx B g w wr
theorem oOnes_any (g B:Nat) (l:List Bool) (n m:Nat) (w:World) (h:WrO w B g l) (hl:l.length<900000000) (hn:n≤m) (hm:m≤256) :
  Calls prog 295 #[.pointer (some ⟨g,0,none⟩),.int .i64 n,.int .i64 m] w fun e w'=>e=.returned (.int .i64 0)∧WrO w' B g (l++jxk n m)∧jzx B g w w':=by
 have H:=jq h
 clear h
 have hni:(n:Int)≤(m:Int):=by omega
 have hmi:(m:Int)≤256:=by omega
 have hn0:¬ (n:Int)<0:=by omega
 have hn1:¬ (m:Int)<n:=by omega
 have hn2:¬ (256:Int)<m:=by omega
 go_enter func295,ntmps295
 go_wp2
 go_loopw [21] (OnesRelO w B g l n) (fun i _=>n - (intOf i).toNat)
 case atStart=>exact⟨0,Nat.zero_le _,rfl,by rw[List.replicate_zero,List.append_nil];exact H.out,jzx.refl _ _ _⟩
 case round =>
  obtain⟨k,hk,rfl,hat,ho⟩:=hrel
  have HAT:=jq hat
  have HO:=jq ho
  clear hat ho
  have hll:(l++List.replicate k true).length<1000000000:=by rw[List.length_append,List.length_replicate];omega
  have HLL:=jq hll
  clear hll
  by_cases hlt:k<n
  ·go_wp2_with (go_at_call 114;go_must (refine (layO_any g B _ true _ HAT.out HLL.out).mono ?_;rintro e w1 ⟨rfl,hat1,ho1⟩;rw[List.append_assoc,←List.replicate_succ'] at hat1;have HAT1:=jq hat1;have HO1:=jq (HO.out.trans ho1);clear hat1 ho1))
   go_roundw
   case rel=>exact⟨k+1,by omega,by go_num,HAT1.out,HO1.out⟩
   case measure=>simp[intOf];omega
  ·obtain rfl:k=n:=by omega
   by_cases hlm:k<m
   ·go_wp2_with (go_at_call 114;go_must (refine (layO_any g B _ false _ HAT.out HLL.out).mono ?_;rintro e w1 ⟨rfl,hat1,ho1⟩;have HAT1:=jq hat1;have HO1:=jq (HO.out.trans ho1);clear hat1 ho1))
    go_ret
    exact⟨rfl,by have:=HAT1.out;rw[List.append_assoc] at this;unfold jxk;rw[if_pos hlm];exact this,HO1.out⟩
   ·have hlm':¬ (k:Int)<m:=by omega
    go_wp2
    go_ret
    exact⟨rfl,by unfold jxk;rw[if_neg hlm,List.append_nil];exact HAT.out,HO.out⟩
theorem oBytes_any (g B:Nat) (l:List Bool) (w:World) (h:WrO w B g l) (hl:l.length<1000000000) :
  Calls prog 75 #[.pointer (some ⟨g,0,none⟩)] w fun e w'=>∃ bs,jxp bs l∧NewBy w bs e w':=by
 obtain⟨v,bs,hblk,hBg,hown,hp⟩:=h
 obtain⟨A,c,rfl,hnc,_,hA⟩:=jjk hown
 have hc0:=hblk.cell 0
 simp only[jy] at hc0
 have hr:=Rd.of_own hown
 have hlen:=hp.1
 have hcA:A=none→c=0:=by
  rintro rfl
  rcases hown.2 with ⟨h0,_⟩ | ⟨_,_,_,h0,_⟩
  ·injection h0
  ·cases h0
 have hc:=clone_any A bs.length c bs w hr rfl (by omega) hcA
 have HC:=jq hc
 have HP:=jq hp
 clear hblk hown hp hA hcA hc hr hlen hnc
 go_enter func75,ntmps75
 go_wp2_with (go_at_call 72;go_must (refine HC.out.mono ?_;rintro e w1 ⟨v1,rfl,hown1,hb1⟩))
 go_ret
 exact⟨bs,HP.out,_,rfl,hown1,hb1⟩
end
end Go.Proofs.YtflcmmeoppdhdaaGreatDoor
