/- Contracts of layer 5: the closures, each, Diff, Sum, Second, Twice. · Contracts of layer 6: within, halfOf, fold, unfold, each, Fold, Unfold. -/
import Derived.Test.YtflcmmeoppdhdaaGreatDoorQ08
set_option maxHeartbeats 1000000
set_option maxRecDepth 100000
namespace Go.Proofs.YtflcmmeoppdhdaaGreatDoor
open Tryz
section
open Go.RowKit
theorem sub_u64 (v a:Nat) (ha:a<18446744073709551616):IntKind.u64.wrap ((v:Int) - (a:Int))=(((v+(18446744073709551616 - a))%18446744073709551616:Nat):Int):=by
 rw[IntKind.wrap_u64];omega
theorem add_u64 (a v:Nat):IntKind.u64.wrap ((a:Int)+(v:Int))=(((a+v)%18446744073709551616:Nat):Int):=by
 rw[IntKind.wrap_u64];omega
theorem diffFn_any (g v a:Nat) (w:World) (hg:One w g a) (ha:a<18446744073709551616) :
  Calls prog 40 #[.int .u64 (v:Int),.pointer (some ⟨g,0,none⟩)] w fun e w'=>e=.returned (.int .u64 (((v+(18446744073709551616 - a))%18446744073709551616:Nat):Int))∧w'=w.setCell ⟨g,0,none⟩ (.int .u64 (v:Int)):=by
 have hc:=hg.cell
 have hf:=hg.frozen
 have hs:=sub_u64 v a ha
 obtain⟨x,hx⟩:∃ x,x=(v+(18446744073709551616 - a))%18446744073709551616:=⟨_,rfl⟩
 rw[←hx] at hs
 rw[←hx]
 have HS:=jq hs
 clear hg ha hs hx
 go_enter func40,ntmps40
 go_wp2
 go_ret
 exact⟨jyr HS.out,rfl⟩
theorem sumFn_any (g v a:Nat) (w:World) (hg:One w g a) :
  Calls prog 41 #[.int .u64 (v:Int),.pointer (some ⟨g,0,none⟩)] w fun e w'=>e=.returned (.int .u64 (((a+v)%18446744073709551616:Nat):Int))∧w'=w.setCell ⟨g,0,none⟩ (.int .u64 (((a+v)%18446744073709551616:Nat):Int)):=by
 have hc:=hg.cell
 have hf:=hg.frozen
 have hs:=add_u64 a v
 obtain⟨x,hx⟩:∃ x,x=(a+v)%18446744073709551616:=⟨_,rfl⟩
 rw[←hx] at hs
 rw[←hx]
 have hc2:=(hg.set_ x).cell
 rw[←hs] at hc2
 have HS:=jq hs
 clear hg hs hx
 go_enter func41,ntmps41
 go_wp2
 go_ret
 exact⟨jyr HS.out,by rw[HS.out]⟩
def EachDiffRel (w:World) (W g r:Nat) (ws:List Nat) (i:Value) (wr:World):Prop :=
 ∃ k:Nat,k≤ws.length∧i=.int .i64 k∧One wr g (ahead ws k)∧Blk wr r 64 (wrow (rowOf (jgc (256^W) ws) k) ws.length)∧Below g w wr
theorem eachDiff_any (W:Nat) (hW:IsW W) (g:Nat) (A:Option Addr) (n c:Nat) (ws:List Nat) (w:World) (hg:One w g 0) (hr:Rd w g A (wvs ws)) (hn:ws.length=n) (hb1:n≤1000000000000) (hlt64:∀ x∈ws,x<18446744073709551616) :
  Calls prog 39 #[.slice A n c,.int .i64 (W:Int),.func (.func 40) #[] #[.pointer (some ⟨g,0,none⟩)]] w fun e w'=>∃ v,e=.returned v∧jzm (wvs (qjk W ws)) v w'∧Below g w w':=by
 obtain⟨i0,hi,hz0,hz1,hz2⟩:=info_parts jyy
 subst hn
 have H64:=jq hlt64
 have HWW:=jq hW
 have c1:=jjx (W:Int) true hW.right
 have C1:=jq c1
 have c2:=jyc (W:Int)
 obtain⟨M,hM⟩:∃ M,M=maskN (W:Int):=⟨_,rfl⟩
 rw[←hM] at c2
 have C2:=jq c2
 have HM:=jq hM
 have hgl:=Blk.lt hg
 clear hlt64 hW c1 c2 hM
 go_enter func39,ntmps39
 go_wp2_with (first
  | (go_at_call 14;go_must (refine (C1.out _).mono ?_;rintro e w' ⟨rfl,rfl⟩))
  | (go_at_call 66;go_must (refine (C2.out _).mono ?_;rintro e w' ⟨rfl,rfl⟩))
  | (at_make;go_must (refine jqp rfl (.tmp 17) (.tmp 17) 63 rfl w.heap.size 64 i0 (.int .u64 0) 8 underlying63 hi hz0 rfl hz1 hz2 .i64 .i64 _ _ rfl rfl ws.length ws.length rfl rfl jw (by omega) (by simp only[maxLen];omega) jw ?_;intro w1 hg1 hown1 hgr1;have hb:Below w.heap.size w w1:=(Below.refl _ _).grown hgr1 jw (by simp);have hblk:Blk w1 w.heap.size 64 (wrow (rowOf (jgc (256^W) ws) 0) ws.length):=(by unfold Blk;rw[hg1];simp[wrow,rowOf,wvs]);clear hg1 hown1 hgr1)))
 have hg1:One w1 g 0:=Blk.grow hg hb
 have hbg:=hb.mono (Nat.le_of_lt hgl)
 clear hb
 go_loopw [21] (EachDiffRel w W g w.heap.size ws) (fun i _=>ws.length - (intOf i).toNat)
 case atStart=>exact⟨0,Nat.zero_le _,rfl,hg1,hblk,hbg⟩
 case round =>
  obtain⟨k,hk,rfl,hone,hblk,hb⟩:=hrel
  clear hg hg1 hbg
  by_cases hlt:k<ws.length
  ·obtain⟨ab,ao,rfl,hab,hcell0⟩:=hr k _ (qzx ws k hlt)
   have hcell:=(hb.cell (p:=⟨ab,ao+k,none⟩) hab).trans hcell0
   have hd:ws[k]=ws.getD k 0:=by simp[List.getD_eq_getElem?_getD,hlt]
   have hv:=H64.out _ (List.getElem_mem hlt)
   rw[hd] at hv hcell
   have ha:=ahead_lt ws _ (by decide) H64.out k
   have hnext:ws.getD k 0=ahead ws (k+1):=by rw[ahead,if_neg (by omega),Nat.add_sub_cancel]
   have hout:(ws.getD k 0+(18446744073709551616 - ahead ws k))%18446744073709551616%256^W=jgc (256^W) ws k:=rfl
   obtain⟨v,hvv⟩:∃ v,v=ws.getD k 0:=⟨_,rfl⟩
   rw[←hvv] at hv hcell hnext hout
   obtain⟨a,haa⟩:∃ a,a=ahead ws k:=⟨_,rfl⟩
   rw[←haa] at hone ha hout
   obtain⟨x,hx⟩:∃ x,x=(v+(18446744073709551616 - a))%18446744073709551616:=⟨_,rfl⟩
   have hxl:x<18446744073709551616:=by rw[hx];exact Nat.mod_lt _ (by decide)
   have c3:=diffFn_any g v a wr hone ha
   rw[←hx] at c3 hout
   have hma:=qqm W x HWW.out hxl
   rw[←HM.out,hout] at hma
   have C3:=jq c3
   have HMA:=jq hma
   have HNEXT:=jq hnext
   have HB:=jq hb
   have HBLK:=jq hblk
   have HONE:=jq hone
   clear c3 hma hnext hout hx hxl haa hvv hcell0 ha hb hblk hone
   have hk1:(k:Int)<(ws.length:Int):=by omega
   go_wp2_with fail
   refine C3.out.mono ?_
   rintro e w1 ⟨rfl,hw1⟩
   have hone1:=HONE.out.set_ v
   rw[←hw1] at hone1
   have hblk1:=HBLK.out.setOther ⟨g,0,none⟩ (.int .u64 (v:Int)) (by simp;omega)
   rw[←hw1] at hblk1
   have hb2:=HB.out.setCell (p:=⟨g,0,none⟩) jw (.int .u64 (v:Int))
   rw[←hw1] at hb2
   have hcr:=hblk1.cell k
   have h0:=qmy (rowOf (jgc (256^W) ws) k) ws.length (by rw[jjh];exact hlt)
   rw[jjh] at h0
   rw[h0] at hcr
   have hfr:=hblk1.frozen k
   have hset:=hblk1.set_ k (.int .u64 ((jgc (256^W) ws k:Nat):Int))
   have h1:=qmv (rowOf (jgc (256^W) ws) k) ws.length (jgc (256^W) ws k) (by rw[jjh];exact hlt)
   rw[jjh] at h1
   rw[h1,←jkn] at hset
   have hone2:One _ g _:=Blk.setOther hone1 ⟨w.heap.size,k,none⟩ (.int .u64 ((jgc (256^W) ws k:Nat):Int)) (by simp;omega)
   rw[HNEXT.out] at hone2
   have hb3:=hb2.setCell (p:=⟨w.heap.size,k,none⟩) (Nat.le_of_lt hgl) (.int .u64 ((jgc (256^W) ws k:Nat):Int))
   have HS:=jq (And.intro hset (And.intro hone2 hb3))
   clear hset hone2 hb3 hb2 hone1 hblk1 h0 h1 hw1 HONE HBLK HB hcell
   go_wp2
   rw[HMA.out]
   go_roundw
   case rel=>exact⟨k+1,by omega,by go_num,HS.out.2.1,HS.out.1,HS.out.2.2⟩
   case measure=>simp[intOf];omega
  ·obtain rfl:k=ws.length:=by omega
   have hfull:=jkz (rowOf (jgc (256^W) ws) ws.length)
   rw[jjh] at hfull
   rw[hfull] at hblk
   have hrd:=Rd.of_blk hblk
   have HRD:=jq hrd
   clear hblk hfull hrd
   go_wp2
   go_ret
   exact⟨.slice (some ⟨w.heap.size,0,none⟩) ws.length ws.length,rfl,⟨_,ws.length,by rw[jjv,jxw],by rw[jjv,jxw];exact Nat.le_refl _,HRD.out⟩,hb⟩
theorem eachDiff_wrong (a:Value) (b:Value) (W:Int) (w:World) (hW:jqj W=false) :
  Calls prog 39 #[a,.int .i64 W,b] w fun e w'=>e=.returned (.slice none 0 0)∧w'=w:=by
 have c1:=jjx W false hW.symm
 have C1:=jq c1
 clear c1
 go_enter func39,ntmps39
 go_wp2_with (go_at_call 14;go_must (refine (C1.out _).mono ?_;rintro e w' ⟨rfl,rfl⟩))
 go_ret
 exact⟨rfl,rfl⟩
theorem jgj (W:Int) (A:Option Addr) (n c:Nat) (ws:List Nat) (w:World) (hr:Rd w w.heap.size A (wvs ws)) (hn:ws.length=n) (hb1:n≤1000000000000) (hlt64:∀ x∈ws,x<18446744073709551616) :
  Calls prog 20 #[.slice A n c,.int .i64 W] w (NewW w (ofW qjk W ws)):=by
 have hmf:∀ (fn:Fn) (first cap:Array Value) (w:World),(Instr.makeFunc fn first cap).run prog w=.ok (.func fn first cap) w:=fun _ _ _ _=>rfl
 have hone:=one_new w 0
 have hra:=hr.alloc jw (.cells #[.int .u64 ((0:Nat):Int)] 64)
 have hba:Below w.heap.size w (w.alloc (.cells #[.int .u64 ((0:Nat):Int)] 64)):=(Below.refl _ _).alloc jw _
 have HH:=jq (And.intro hone (And.intro hra hba))
 clear hone hra hba hr
 unfold ofW
 cases hR:jqj W with
 | true =>
  obtain⟨V,rfl,hV⟩:=jdk hR
  rw[if_pos rfl,Int.toNat_natCast]
  have c1:=eachDiff_any V hV w.heap.size A n c ws _ HH.out.1 HH.out.2.1 hn hb1 hlt64
  have C1:=jq c1
  clear c1 hlt64 hR hV
  go_enter func20,ntmps20
  go_wp2_with fail
  refine C1.out.mono ?_
  rintro e w1 ⟨v,rfl,hv,hb⟩
  have hb1:=HH.out.2.2.trans hb
  clear hb
  go_wp2
  go_ret
  exact⟨v,rfl,hv,hb1⟩
 | false =>
  rw[if_neg (by decide)]
  have c1:=fun a b W'=>eachDiff_wrong a b W W' hR
  have C1:=jq c1
  clear c1 hlt64 hR
  go_enter func20,ntmps20
  go_wp2_with fail
  refine (C1.out _ _ _).mono ?_
  rintro e w1 ⟨rfl,rfl⟩
  go_wp2
  go_ret
  exact⟨.slice none 0 0,rfl,⟨none,0,rfl,Nat.le_refl _,Rd.nil_ _ _ _⟩,HH.out.2.2⟩
def EachSumRel (w:World) (W g r:Nat) (ws:List Nat) (i:Value) (wr:World):Prop :=
 ∃ k:Nat,k≤ws.length∧i=.int .i64 k∧One wr g (sumTo ws k%18446744073709551616)∧Blk wr r 64 (wrow (rowOf (sumAt (256^W) ws) k) ws.length)∧Below g w wr
theorem eachSum_any (W:Nat) (hW:IsW W) (g:Nat) (A:Option Addr) (n c:Nat) (ws:List Nat) (w:World) (hg:One w g 0) (hr:Rd w g A (wvs ws)) (hn:ws.length=n) (hb1:n≤1000000000000) (hlt64:∀ x∈ws,x<18446744073709551616) :
  Calls prog 39 #[.slice A n c,.int .i64 (W:Int),.func (.func 41) #[] #[.pointer (some ⟨g,0,none⟩)]] w fun e w'=>∃ v,e=.returned v∧jzm (wvs (sumW W ws)) v w'∧Below g w w':=by
 obtain⟨i0,hi,hz0,hz1,hz2⟩:=info_parts jyy
 subst hn
 have H64:=jq hlt64
 have HWW:=jq hW
 have c1:=jjx (W:Int) true hW.right
 have C1:=jq c1
 have c2:=jyc (W:Int)
 obtain⟨M,hM⟩:∃ M,M=maskN (W:Int):=⟨_,rfl⟩
 rw[←hM] at c2
 have C2:=jq c2
 have HM:=jq hM
 have hgl:=Blk.lt hg
 clear hlt64 hW c1 c2 hM
 go_enter func39,ntmps39
 go_wp2_with (first
  | (go_at_call 14;go_must (refine (C1.out _).mono ?_;rintro e w' ⟨rfl,rfl⟩))
  | (go_at_call 66;go_must (refine (C2.out _).mono ?_;rintro e w' ⟨rfl,rfl⟩))
  | (at_make;go_must (refine jqp rfl (.tmp 17) (.tmp 17) 63 rfl w.heap.size 64 i0 (.int .u64 0) 8 underlying63 hi hz0 rfl hz1 hz2 .i64 .i64 _ _ rfl rfl ws.length ws.length rfl rfl jw (by omega) (by simp only[maxLen];omega) jw ?_;intro w1 hg1 hown1 hgr1;have hb:Below w.heap.size w w1:=(Below.refl _ _).grown hgr1 jw (by simp);have hblk:Blk w1 w.heap.size 64 (wrow (rowOf (sumAt (256^W) ws) 0) ws.length):=(by unfold Blk;rw[hg1];simp[wrow,rowOf,wvs]);clear hg1 hown1 hgr1)))
 have hg1:One w1 g 0:=Blk.grow hg hb
 have hbg:=hb.mono (Nat.le_of_lt hgl)
 clear hb
 go_loopw [21] (EachSumRel w W g w.heap.size ws) (fun i _=>ws.length - (intOf i).toNat)
 case atStart=>exact⟨0,Nat.zero_le _,rfl,hg1,hblk,hbg⟩
 case round =>
  obtain⟨k,hk,rfl,hone,hblk,hb⟩:=hrel
  clear hg hg1 hbg
  by_cases hlt:k<ws.length
  ·obtain⟨ab,ao,rfl,hab,hcell0⟩:=hr k _ (qzx ws k hlt)
   have hcell:=(hb.cell (p:=⟨ab,ao+k,none⟩) hab).trans hcell0
   have hd:ws[k]=ws.getD k 0:=by simp[List.getD_eq_getElem?_getD,hlt]
   have hv:=H64.out _ (List.getElem_mem hlt)
   rw[hd] at hv hcell
   have ha:=Nat.mod_lt (sumTo ws k) (show 18446744073709551616>0 by decide)
   have hnext:(sumTo ws k%18446744073709551616+ws.getD k 0)%18446744073709551616=sumTo ws (k+1)%18446744073709551616:=by rw[Nat.mod_add_mod];rfl
   have hout:(sumTo ws k%18446744073709551616+ws.getD k 0)%18446744073709551616%256^W=sumAt (256^W) ws k:=by
    unfold sumAt
    rw[hnext]
    exact mod_64 HWW.out _
   obtain⟨v,hvv⟩:∃ v,v=ws.getD k 0:=⟨_,rfl⟩
   rw[←hvv] at hv hcell hnext hout
   obtain⟨a,haa⟩:∃ a,a=sumTo ws k%18446744073709551616:=⟨_,rfl⟩
   rw[←haa] at hone ha hnext hout
   obtain⟨x,hx⟩:∃ x,x=(a+v)%18446744073709551616:=⟨_,rfl⟩
   have hxl:x<18446744073709551616:=by rw[hx];exact Nat.mod_lt _ (by decide)
   have c3:=sumFn_any g v a wr hone
   rw[←hx] at c3 hout hnext
   have hma:=qqm W x HWW.out hxl
   rw[←HM.out,hout] at hma
   have C3:=jq c3
   have HMA:=jq hma
   have HNEXT:=jq hnext
   have HB:=jq hb
   have HBLK:=jq hblk
   have HONE:=jq hone
   clear c3 hma hnext hout hx hxl haa hvv hcell0 ha hb hblk hone
   have hk1:(k:Int)<(ws.length:Int):=by omega
   go_wp2_with fail
   refine C3.out.mono ?_
   rintro e w1 ⟨rfl,hw1⟩
   have hone1:=HONE.out.set_ x
   rw[←hw1] at hone1
   have hblk1:=HBLK.out.setOther ⟨g,0,none⟩ (.int .u64 (x:Int)) (by simp;omega)
   rw[←hw1] at hblk1
   have hb2:=HB.out.setCell (p:=⟨g,0,none⟩) jw (.int .u64 (x:Int))
   rw[←hw1] at hb2
   have hcr:=hblk1.cell k
   have h0:=qmy (rowOf (sumAt (256^W) ws) k) ws.length (by rw[jjh];exact hlt)
   rw[jjh] at h0
   rw[h0] at hcr
   have hfr:=hblk1.frozen k
   have hset:=hblk1.set_ k (.int .u64 ((sumAt (256^W) ws k:Nat):Int))
   have h1:=qmv (rowOf (sumAt (256^W) ws) k) ws.length (sumAt (256^W) ws k) (by rw[jjh];exact hlt)
   rw[jjh] at h1
   rw[h1,←jkn] at hset
   have hone2:One _ g _:=Blk.setOther hone1 ⟨w.heap.size,k,none⟩ (.int .u64 ((sumAt (256^W) ws k:Nat):Int)) (by simp;omega)
   rw[HNEXT.out] at hone2
   have hb3:=hb2.setCell (p:=⟨w.heap.size,k,none⟩) (Nat.le_of_lt hgl) (.int .u64 ((sumAt (256^W) ws k:Nat):Int))
   have HS:=jq (And.intro hset (And.intro hone2 hb3))
   clear hset hone2 hb3 hb2 hone1 hblk1 h0 h1 hw1 HONE HBLK HB hcell
   go_wp2
   rw[HMA.out]
   go_roundw
   case rel=>exact⟨k+1,by omega,by go_num,HS.out.2.1,HS.out.1,HS.out.2.2⟩
   case measure=>simp[intOf];omega
  ·obtain rfl:k=ws.length:=by omega
   have hfull:=jkz (rowOf (sumAt (256^W) ws) ws.length)
   rw[jjh] at hfull
   rw[hfull] at hblk
   have hrd:=Rd.of_blk hblk
   have HRD:=jq hrd
   clear hblk hfull hrd
   go_wp2
   go_ret
   exact⟨.slice (some ⟨w.heap.size,0,none⟩) ws.length ws.length,rfl,⟨_,ws.length,by rw[jjv,jkh],by rw[jjv,jkh];exact Nat.le_refl _,HRD.out⟩,hb⟩
theorem eachSum_wrong (a:Value) (b:Value) (W:Int) (w:World) (hW:jqj W=false) :
  Calls prog 39 #[a,.int .i64 W,b] w fun e w'=>e=.returned (.slice none 0 0)∧w'=w:=by
 have c1:=jjx W false hW.symm
 have C1:=jq c1
 clear c1
 go_enter func39,ntmps39
 go_wp2_with (go_at_call 14;go_must (refine (C1.out _).mono ?_;rintro e w' ⟨rfl,rfl⟩))
 go_ret
 exact⟨rfl,rfl⟩
theorem qjp (W:Int) (A:Option Addr) (n c:Nat) (ws:List Nat) (w:World) (hr:Rd w w.heap.size A (wvs ws)) (hn:ws.length=n) (hb1:n≤1000000000000) (hlt64:∀ x∈ws,x<18446744073709551616) :
  Calls prog 21 #[.slice A n c,.int .i64 W] w (NewW w (ofW sumW W ws)):=by
 have hmf:∀ (fn:Fn) (first cap:Array Value) (w:World),(Instr.makeFunc fn first cap).run prog w=.ok (.func fn first cap) w:=fun _ _ _ _=>rfl
 have hone:=one_new w 0
 have hra:=hr.alloc jw (.cells #[.int .u64 ((0:Nat):Int)] 64)
 have hba:Below w.heap.size w (w.alloc (.cells #[.int .u64 ((0:Nat):Int)] 64)):=(Below.refl _ _).alloc jw _
 have HH:=jq (And.intro hone (And.intro hra hba))
 clear hone hra hba hr
 unfold ofW
 cases hR:jqj W with
 | true =>
  obtain⟨V,rfl,hV⟩:=jdk hR
  rw[if_pos rfl,Int.toNat_natCast]
  have c1:=eachSum_any V hV w.heap.size A n c ws _ HH.out.1 HH.out.2.1 hn hb1 hlt64
  have C1:=jq c1
  clear c1 hlt64 hR hV
  go_enter func21,ntmps21
  go_wp2_with fail
  refine C1.out.mono ?_
  rintro e w1 ⟨v,rfl,hv,hb⟩
  have hb1:=HH.out.2.2.trans hb
  clear hb
  go_wp2
  go_ret
  exact⟨v,rfl,hv,hb1⟩
 | false =>
  rw[if_neg (by decide)]
  have c1:=fun a b W'=>eachSum_wrong a b W W' hR
  have C1:=jq c1
  clear c1 hlt64 hR
  go_enter func21,ntmps21
  go_wp2_with fail
  refine (C1.out _ _ _).mono ?_
  rintro e w1 ⟨rfl,rfl⟩
  go_wp2
  go_ret
  exact⟨.slice none 0 0,rfl,⟨none,0,rfl,Nat.le_refl _,Rd.nil_ _ _ _⟩,HH.out.2.2⟩
theorem ofW_second (W:Int) (l:List Nat):ofW qjk W (ofW qjk W l)=ofW jgn W l:=by
 unfold ofW
 split <;> rfl
theorem ofW_twice (W:Int) (l:List Nat):ofW sumW W (ofW sumW W l)=ofW qkt W l:=by
 unfold ofW
 split <;> rfl
theorem deltaSecond_any (W:Int) (A:Option Addr) (n c:Nat) (ws:List Nat) (w:World) (hr:Rd w w.heap.size A (wvs ws)) (hn:ws.length=n) (hb1:n≤1000000000000) (hlt64:∀ x∈ws,x<18446744073709551616) :
  Calls prog 22 #[.slice A n c,.int .i64 W] w (NewW w (ofW jgn W ws)):=by
 have c1:=jgj W A n c ws w hr hn hb1 hlt64
 have hle:=ofW_len jxw W ws
 have c2:=fun (A:Option Addr) (c:Nat) (W':World) (h:Rd W' W'.heap.size A (wvs (ofW qjk W ws)))=>jgj W A _ c _ W' h rfl (by omega) (ofW_lt jgq W ws)
 rw[ofW_second] at c2
 have C1:=jq c1
 have C2:=jq c2
 clear c1 c2 hlt64 hle
 go_enter func22,ntmps22
 go_wp2_with fail
 refine C1.out.mono ?_
 rintro e w1 ⟨v,rfl,⟨A1,c1,rfl,_,h1⟩,hb⟩
 rw[jjv]
 go_wp2_with fail
 refine (C2.out _ _ _ h1).mono ?_
 rintro e w2 ⟨v2,rfl,hv2,hb2⟩
 have hbb:=hb.trans (hb2.mono hb.size)
 clear hb hb2 h1
 go_wp2
 go_ret
 exact⟨v2,rfl,hv2,hbb⟩
theorem deltaTwice_any (W:Int) (A:Option Addr) (n c:Nat) (ws:List Nat) (w:World) (hr:Rd w w.heap.size A (wvs ws)) (hn:ws.length=n) (hb1:n≤1000000000000) (hlt64:∀ x∈ws,x<18446744073709551616) :
  Calls prog 23 #[.slice A n c,.int .i64 W] w (NewW w (ofW qkt W ws)):=by
 have c1:=qjp W A n c ws w hr hn hb1 hlt64
 have hle:=ofW_len jkh W ws
 have c2:=fun (A:Option Addr) (c:Nat) (W':World) (h:Rd W' W'.heap.size A (wvs (ofW sumW W ws)))=>qjp W A _ c _ W' h rfl (by omega) (ofW_lt sumW_lt W ws)
 rw[ofW_twice] at c2
 have C1:=jq c1
 have C2:=jq c2
 clear c1 c2 hlt64 hle
 go_enter func23,ntmps23
 go_wp2_with fail
 refine C1.out.mono ?_
 rintro e w1 ⟨v,rfl,⟨A1,c1,rfl,_,h1⟩,hb⟩
 rw[jjv]
 go_wp2_with fail
 refine (C2.out _ _ _ h1).mono ?_
 rintro e w2 ⟨v2,rfl,hv2,hb2⟩
 have hbb:=hb.trans (hb2.mono hb.size)
 clear hb hb2 h1
 go_wp2
 go_ret
 exact⟨v2,rfl,hv2,hbb⟩
theorem within_any (v m h x:Nat) (w:World) (hv:v≤m) (hm:m<18446744073709551616) (hx:x=if h=1 then m - v else v) :
  Calls prog 68 #[.int .u64 (v:Int),.int .u64 (m:Int),.int .u64 (h:Int)] w fun e w'=>e=.returned (.int .u64 (x:Int))∧w'=w:=by
 by_cases h1:h=1
 ·rw[if_pos h1] at hx
  have hs:IntKind.u64.wrap ((m:Int) - (v:Int))=(x:Int):=by rw[IntKind.wrap_u64];omega
  have HS:=jq hs
  have hd:((h:Int)==1)=true:=by rw[beq_iff_eq];omega
  clear hs hx h1 hv hm
  go_enter func68,ntmps68
  go_wp2
  go_ret
  exact⟨jyr HS.out,rfl⟩
 ·rw[if_neg h1] at hx
  subst hx
  have hd:((h:Int)==1)=false:=by rw[beq_eq_false_iff_ne];omega
  clear h1 hv hm
  go_enter func68,ntmps68
  go_wp2
  go_ret
  exact⟨rfl,rfl⟩
theorem halfOf_any (v m x:Nat) (w:World) (hm:m<18446744073709551616) (hx:x=if v≤m/2 then 0 else 1) :
  Calls prog 67 #[.int .u64 (v:Int),.int .u64 (m:Int)] w fun e w'=>e=.returned (.int .u64 (x:Int))∧w'=w:=by
 by_cases h1:v≤m/2
 ·rw[if_pos h1] at hx
  subst hx
  have hd:(v:Int)≤IntKind.u64.wrap ((m:Int)/2):=by rw[IntKind.wrap_u64];omega
  clear h1 hm
  go_enter func67,ntmps67
  go_wp2
  go_ret
  exact⟨rfl,rfl⟩
 ·rw[if_neg h1] at hx
  subst hx
  have hd:¬ ((v:Int)≤IntKind.u64.wrap ((m:Int)/2)):=by rw[IntKind.wrap_u64];omega
  clear h1 hm
  go_enter func67,ntmps67
  go_wp2
  go_ret
  exact⟨rfl,rfl⟩
theorem fold_or (y h:Nat) (hh:h=0∨h=1) (hy:2*y<18446744073709551616):bits .or .u64 (IntKind.u64.wrap ((y:Int)*2)) (h:Int)=((2*y+h:Nat):Int):=by
 have e:IntKind.u64.wrap ((y:Int)*2)=((2*y:Nat):Int):=by rw[IntKind.wrap_u64];omega
 rw[e]
 rcases hh with rfl | rfl
 ·rw[u64_or_nat _ _ hy (by decide),Nat.or_zero];rfl
 ·have:=or1_u64 ((2*y:Nat):Int) (by omega) (by omega) (by omega)
  simpa using this
theorem foldFn_any (v m M x:Nat) (w:World) (hM:m=M - 1) (hM0:0<M) (hv:v≤m) (hm:m<18446744073709551616) (hx:x=foldN M v) :
  Calls prog 43 #[.int .u64 (v:Int),.int .u64 (m:Int)] w fun e w'=>e=.returned (.int .u64 (x:Int))∧w'=w:=by
 obtain⟨h,hh⟩:∃ h,h=if v≤m/2 then 0 else 1:=⟨_,rfl⟩
 obtain⟨y,hy⟩:∃ y,y=if h=1 then m - v else v:=⟨_,rfl⟩
 have c1:=fun W=>halfOf_any v m h W hm hh
 have c2:=fun W=>within_any v m h y W hv hm hy
 have h01:h=0∨h=1:=by rw[hh];split <;> simp
 have hxy:2*y+h=x∧2*y<18446744073709551616:=by
  rw[hx,hy,hh]
  unfold foldN
  subst hM
  by_cases g:v≤(M - 1)/2
  ·rw[if_pos g,if_neg (by decide),if_pos g];omega
  ·rw[if_neg g,if_pos rfl,if_neg g];omega
 have hor:=fold_or y h h01 hxy.2
 rw[hxy.1] at hor
 have HOR:=jq hor
 have C1:=jq c1
 have C2:=jq c2
 clear hor c1 c2 hxy h01 hy hh hx hv hm hM hM0
 go_enter func43,ntmps43
 go_wp2_with (first
  | (go_at_call 67;go_must (refine (C1.out _).mono ?_;rintro e w' ⟨rfl,rfl⟩))
  | (go_at_call 68;go_must (refine (C2.out _).mono ?_;rintro e w' ⟨rfl,rfl⟩)))
 go_ret
 exact⟨jyr HOR.out,rfl⟩
theorem unfoldFn_any (v m M x:Nat) (w:World) (hM:m=M - 1) (hv:v≤m) (hm:m<18446744073709551616) (hx:x=qwy M v) :
  Calls prog 44 #[.int .u64 (v:Int),.int .u64 (m:Int)] w fun e w'=>e=.returned (.int .u64 (x:Int))∧w'=w:=by
 have hb:bits .and .u64 (v:Int) 1=((v%2:Nat):Int):=by rw[and1_u64 _ (by omega) (by omega)];omega
 have hd:(v:Int)/2=((v/2:Nat):Int):=by omega
 have hxx:x=if v%2=1 then m - v/2 else v/2:=by
  rw[hx,hM]
  unfold qwy
  by_cases g:v%2=0
  ·rw[if_pos g,if_neg (by omega)]
  ·rw[if_neg g,if_pos (by omega)]
 have c2:=fun W=>within_any (v/2) m (v%2) x W (by omega) hm hxx
 rw[←hb,←hd] at c2
 have C2:=jq c2
 clear c2 hxx hx hv hm hM hb hd
 go_enter func44,ntmps44
 go_wp2_with (go_at_call 68;go_must (refine (C2.out _).mono ?_;rintro e w' ⟨rfl,rfl⟩))
 go_ret
 exact⟨rfl,rfl⟩
def FEachRel (w:World) (f:Nat→Nat) (r n:Nat) (i:Value) (wr:World):Prop :=
 ∃ k:Nat,k≤n∧i=.int .i64 k∧Blk wr r 64 (wrow (rowOf f k) n)∧Below w.heap.size w wr
theorem feach_wrong (a:Value) (b:Value) (W:Int) (w:World) (hW:jqj W=false) :
  Calls prog 42 #[a,.int .i64 W,b] w fun e w'=>e=.returned (.slice none 0 0)∧w'=w:=by
 have c1:=jjx W false hW.symm
 have C1:=jq c1
 clear c1
 go_enter func42,ntmps42
 go_wp2_with (go_at_call 14;go_must (refine (C1.out _).mono ?_;rintro e w' ⟨rfl,rfl⟩))
 go_ret
 exact⟨rfl,rfl⟩
theorem feachFold_any (W:Nat) (hW:IsW W) (A:Option Addr) (n c:Nat) (ws:List Nat) (w:World) (hr:Rd w w.heap.size A (wvs ws)) (hn:ws.length=n) (hb1:n≤1000000000000) (hlt64:∀ x∈ws,x<18446744073709551616) :
  Calls prog 42 #[.slice A n c,.int .i64 (W:Int),.func (.func 43) #[] #[]] w (NewW w (foldW W ws)):=by
 obtain⟨i0,hi,hz0,hz1,hz2⟩:=info_parts jyy
 subst hn
 have H64:=jq hlt64
 have HWW:=jq hW
 have c1:=jjx (W:Int) true hW.right
 have C1:=jq c1
 have c2:=jyc (W:Int)
 have hM2:=mask_is W hW
 obtain⟨M,hM⟩:∃ M,M=maskN (W:Int):=⟨_,rfl⟩
 rw[←hM] at c2 hM2
 have C2:=jq c2
 have HM:=jq hM
 have HM2:=jq hM2
 clear hlt64 hW c1 c2 hM hM2
 go_enter func42,ntmps42
 go_wp2_with (first
  | (go_at_call 14;go_must (refine (C1.out _).mono ?_;rintro e w' ⟨rfl,rfl⟩))
  | (go_at_call 66;go_must (refine (C2.out _).mono ?_;rintro e w' ⟨rfl,rfl⟩))
  | (at_make;go_must (refine jqp rfl (.tmp 17) (.tmp 17) 63 rfl w.heap.size 64 i0 (.int .u64 0) 8 underlying63 hi hz0 rfl hz1 hz2 .i64 .i64 _ _ rfl rfl ws.length ws.length rfl rfl jw (by omega) (by simp only[maxLen];omega) jw ?_;intro w1 hg1 hown1 hgr1;have hb:Below w.heap.size w w1:=(Below.refl _ _).grown hgr1 jw (by simp);have hblk:Blk w1 w.heap.size 64 (wrow (rowOf (qdc (256^W) ws) 0) ws.length):=(by unfold Blk;rw[hg1];simp[wrow,rowOf,wvs]);clear hg1 hown1 hgr1)))
 go_loopw [21] (FEachRel w (qdc (256^W) ws) w.heap.size ws.length) (fun i _=>ws.length - (intOf i).toNat)
 case atStart=>exact⟨0,Nat.zero_le _,rfl,hblk,hb⟩
 case round =>
  clear hblk hb
  obtain⟨k,hk,rfl,hblk,hb⟩:=hrel
  by_cases hlt:k<ws.length
  ·obtain⟨ab,ao,rfl,hab,hcell0⟩:=hr k _ (qzx ws k hlt)
   have hcell:=(hb.cell (p:=⟨ab,ao+k,none⟩) hab).trans hcell0
   have hd:ws[k]=ws.getD k 0:=by simp[List.getD_eq_getElem?_getD,hlt]
   rw[hd] at hcell
   have hma:=qqm W (ws.getD k 0) HWW.out (getD_lt ws _ (by decide) H64.out k)
   rw[←HM.out] at hma
   have hvl:ws.getD k 0%256^W<256^W:=Nat.mod_lt _ jxz
   have hM0:0<256^W:=jxz
   have hMl:M<18446744073709551616:=by
    have:=HM2.out
    rcases jmm HWW.out with e | e | e | e <;> rw[e] at this <;> omega
   obtain⟨x,hx⟩:∃ x,x=qdc (256^W) ws k:=⟨_,rfl⟩
   have c3:=fun W'=>foldFn_any (ws.getD k 0%256^W) M (256^W) x W' HM2.out hM0 (by have:=HM2.out;omega) hMl hx
   rw[←hma] at c3
   obtain⟨v,hvv⟩:∃ v,v=ws.getD k 0:=⟨_,rfl⟩
   rw[←hvv] at hcell c3
   have hcr:=hblk.cell k
   have h0:=qmy (rowOf (qdc (256^W) ws) k) ws.length (by rw[jjh];exact hlt)
   rw[jjh] at h0
   rw[h0] at hcr
   have hfr:=hblk.frozen k
   have hset:=hblk.set_ k (.int .u64 (x:Int))
   have h1:=qmv (rowOf (qdc (256^W) ws) k) ws.length x (by rw[jjh];exact hlt)
   rw[jjh] at h1
   rw[h1,hx,←jkn,←hx] at hset
   have C3:=jq c3
   have HSET:=jq hset
   clear c3 hma hset hx hMl hM0 hvl hd hvv hcell0 h0 h1 hblk
   have hk1:(k:Int)<(ws.length:Int):=by omega
   go_wp2_with fail
   refine (C3.out _).mono ?_
   rintro e w1 ⟨rfl,rfl⟩
   go_wp2
   go_roundw
   case rel=>exact⟨k+1,by omega,by go_num,HSET.out,hb.setCell jw _⟩
   case measure=>simp[intOf];omega
  ·obtain rfl:k=ws.length:=by omega
   have hfull:=jkz (rowOf (qdc (256^W) ws) ws.length)
   rw[jjh] at hfull
   rw[hfull] at hblk
   have hrd:=Rd.of_blk hblk
   have HRD:=jq hrd
   clear hblk hfull hrd
   go_wp2
   go_ret
   exact⟨.slice (some ⟨w.heap.size,0,none⟩) ws.length ws.length,rfl,⟨_,ws.length,by rw[jjv,qqj],by rw[jjv,qqj];exact Nat.le_refl _,HRD.out⟩,hb⟩
theorem foldFold_any (W:Int) (A:Option Addr) (n c:Nat) (ws:List Nat) (w:World) (hr:Rd w w.heap.size A (wvs ws)) (hn:ws.length=n) (hb1:n≤1000000000000) (hlt64:∀ x∈ws,x<18446744073709551616) :
  Calls prog 24 #[.slice A n c,.int .i64 W] w (NewW w (ofW foldW W ws)):=by
 unfold ofW
 cases hR:jqj W with
 | true =>
  obtain⟨V,rfl,hV⟩:=jdk hR
  rw[if_pos rfl,Int.toNat_natCast]
  have c1:=feachFold_any V hV A n c ws w hr hn hb1 hlt64
  have C1:=jq c1
  clear c1 hlt64 hR hV hr
  go_enter func24,ntmps24
  go_wp2_with fail
  refine C1.out.mono ?_
  rintro e w1 ⟨v,rfl,hv,hb⟩
  go_wp2
  go_ret
  exact⟨v,rfl,hv,hb⟩
 | false =>
  rw[if_neg (by decide)]
  have c1:=fun a b W'=>feach_wrong a b W W' hR
  have C1:=jq c1
  clear c1 hlt64 hR hr
  go_enter func24,ntmps24
  go_wp2_with fail
  refine (C1.out _ _ _).mono ?_
  rintro e w1 ⟨rfl,rfl⟩
  go_wp2
  go_ret
  exact⟨.slice none 0 0,rfl,⟨none,0,rfl,Nat.le_refl _,Rd.nil_ _ _ _⟩,Below.refl _ _⟩
theorem feachUnfold_any (W:Nat) (hW:IsW W) (A:Option Addr) (n c:Nat) (ws:List Nat) (w:World) (hr:Rd w w.heap.size A (wvs ws)) (hn:ws.length=n) (hb1:n≤1000000000000) (hlt64:∀ x∈ws,x<18446744073709551616) :
  Calls prog 42 #[.slice A n c,.int .i64 (W:Int),.func (.func 44) #[] #[]] w (NewW w (qzq W ws)):=by
 obtain⟨i0,hi,hz0,hz1,hz2⟩:=info_parts jyy
 subst hn
 have H64:=jq hlt64
 have HWW:=jq hW
 have c1:=jjx (W:Int) true hW.right
 have C1:=jq c1
 have c2:=jyc (W:Int)
 have hM2:=mask_is W hW
 obtain⟨M,hM⟩:∃ M,M=maskN (W:Int):=⟨_,rfl⟩
 rw[←hM] at c2 hM2
 have C2:=jq c2
 have HM:=jq hM
 have HM2:=jq hM2
 clear hlt64 hW c1 c2 hM hM2
 go_enter func42,ntmps42
 go_wp2_with (first
  | (go_at_call 14;go_must (refine (C1.out _).mono ?_;rintro e w' ⟨rfl,rfl⟩))
  | (go_at_call 66;go_must (refine (C2.out _).mono ?_;rintro e w' ⟨rfl,rfl⟩))
  | (at_make;go_must (refine jqp rfl (.tmp 17) (.tmp 17) 63 rfl w.heap.size 64 i0 (.int .u64 0) 8 underlying63 hi hz0 rfl hz1 hz2 .i64 .i64 _ _ rfl rfl ws.length ws.length rfl rfl jw (by omega) (by simp only[maxLen];omega) jw ?_;intro w1 hg1 hown1 hgr1;have hb:Below w.heap.size w w1:=(Below.refl _ _).grown hgr1 jw (by simp);have hblk:Blk w1 w.heap.size 64 (wrow (rowOf (jbh (256^W) ws) 0) ws.length):=(by unfold Blk;rw[hg1];simp[wrow,rowOf,wvs]);clear hg1 hown1 hgr1)))
 go_loopw [21] (FEachRel w (jbh (256^W) ws) w.heap.size ws.length) (fun i _=>ws.length - (intOf i).toNat)
 case atStart=>exact⟨0,Nat.zero_le _,rfl,hblk,hb⟩
 case round =>
  clear hblk hb
  obtain⟨k,hk,rfl,hblk,hb⟩:=hrel
  by_cases hlt:k<ws.length
  ·obtain⟨ab,ao,rfl,hab,hcell0⟩:=hr k _ (qzx ws k hlt)
   have hcell:=(hb.cell (p:=⟨ab,ao+k,none⟩) hab).trans hcell0
   have hd:ws[k]=ws.getD k 0:=by simp[List.getD_eq_getElem?_getD,hlt]
   rw[hd] at hcell
   have hma:=qqm W (ws.getD k 0) HWW.out (getD_lt ws _ (by decide) H64.out k)
   rw[←HM.out] at hma
   have hvl:ws.getD k 0%256^W<256^W:=Nat.mod_lt _ jxz
   have hMl:M<18446744073709551616:=by
    have:=HM2.out
    rcases jmm HWW.out with e | e | e | e <;> rw[e] at this <;> omega
   obtain⟨x,hx⟩:∃ x,x=jbh (256^W) ws k:=⟨_,rfl⟩
   have c3:=fun W'=>unfoldFn_any (ws.getD k 0%256^W) M (256^W) x W' HM2.out (by have:=HM2.out;omega) hMl hx
   rw[←hma] at c3
   obtain⟨v,hvv⟩:∃ v,v=ws.getD k 0:=⟨_,rfl⟩
   rw[←hvv] at hcell c3
   have hcr:=hblk.cell k
   have h0:=qmy (rowOf (jbh (256^W) ws) k) ws.length (by rw[jjh];exact hlt)
   rw[jjh] at h0
   rw[h0] at hcr
   have hfr:=hblk.frozen k
   have hset:=hblk.set_ k (.int .u64 (x:Int))
   have h1:=qmv (rowOf (jbh (256^W) ws) k) ws.length x (by rw[jjh];exact hlt)
   rw[jjh] at h1
   rw[h1,hx,←jkn,←hx] at hset
   have C3:=jq c3
   have HSET:=jq hset
   clear c3 hma hset hx hMl hvl hd hvv hcell0 h0 h1 hblk
   have hk1:(k:Int)<(ws.length:Int):=by omega
   go_wp2_with fail
   refine (C3.out _).mono ?_
   rintro e w1 ⟨rfl,rfl⟩
   go_wp2
   go_roundw
   case rel=>exact⟨k+1,by omega,by go_num,HSET.out,hb.setCell jw _⟩
   case measure=>simp[intOf];omega
  ·obtain rfl:k=ws.length:=by omega
   have hfull:=jkz (rowOf (jbh (256^W) ws) ws.length)
   rw[jjh] at hfull
   rw[hfull] at hblk
   have hrd:=Rd.of_blk hblk
   have HRD:=jq hrd
   clear hblk hfull hrd
   go_wp2
   go_ret
   exact⟨.slice (some ⟨w.heap.size,0,none⟩) ws.length ws.length,rfl,⟨_,ws.length,by rw[jjv,jgp],by rw[jjv,jgp];exact Nat.le_refl _,HRD.out⟩,hb⟩
theorem foldUnfold_any (W:Int) (A:Option Addr) (n c:Nat) (ws:List Nat) (w:World) (hr:Rd w w.heap.size A (wvs ws)) (hn:ws.length=n) (hb1:n≤1000000000000) (hlt64:∀ x∈ws,x<18446744073709551616) :
  Calls prog 25 #[.slice A n c,.int .i64 W] w (NewW w (ofW qzq W ws)):=by
 unfold ofW
 cases hR:jqj W with
 | true =>
  obtain⟨V,rfl,hV⟩:=jdk hR
  rw[if_pos rfl,Int.toNat_natCast]
  have c1:=feachUnfold_any V hV A n c ws w hr hn hb1 hlt64
  have C1:=jq c1
  clear c1 hlt64 hR hV hr
  go_enter func25,ntmps25
  go_wp2_with fail
  refine C1.out.mono ?_
  rintro e w1 ⟨v,rfl,hv,hb⟩
  go_wp2
  go_ret
  exact⟨v,rfl,hv,hb⟩
 | false =>
  rw[if_neg (by decide)]
  have c1:=fun a b W'=>feach_wrong a b W W' hR
  have C1:=jq c1
  clear c1 hlt64 hR hr
  go_enter func25,ntmps25
  go_wp2_with fail
  refine (C1.out _ _ _).mono ?_
  rintro e w1 ⟨rfl,rfl⟩
  go_wp2
  go_ret
  exact⟨.slice none 0 0,rfl,⟨none,0,rfl,Nat.le_refl _,Rd.nil_ _ _ _⟩,Below.refl _ _⟩
end
end Go.Proofs.YtflcmmeoppdhdaaGreatDoor
