/- Contracts of layer 11: Back. · Contracts of layer 11: Back, whole. -/
import Derived.Test.YtflcmmeoppdhdaaGreatDoorQ34
set_option maxHeartbeats 4000000
set_option maxRecDepth 100000
namespace Go.Proofs.YtflcmmeoppdhdaaGreatDoor
open Tryz
section
open Go.RowKit Go.Shelf
attribute [local go_sem] Oper.semAt_some
abbrev StepX:={ x:Nat × Nat // 1≤x.2∧x.2≤7 }
def encXR (x:StepX):Array Value:=#[.int .i64 (x.1.1:Int),.int .i64 (x.1.2:Int)]
def jmj (n₀ Bs:Nat) (v:Value) (W W':World):Prop:=Below n₀ W W'∧(Blk W Bs 35 [v]→Blk W' Bs 35 [v])
theorem jmj.trans {n₀ Bs:Nat} {v:Value} {X Y Z:World} (h:jmj n₀ Bs v X Y) (k:jmj n₀ Bs v Y Z):jmj n₀ Bs v X Z:=⟨h.1.trans k.1,fun x=>k.2 (h.2 x)⟩
theorem jmj.put {n₀ Bs:Nat} {v:Value} {w:World} (hn:n₀≤w.heap.size) (W:World) (l:Nat) (o o':Obj) (hl:w.heap.size≤l) (h:W.heap[l]?=some o) (hc:o.isCells=false) (hw:o.isWalk=false):jmj n₀ Bs v W (W.putObj l o') :=
 ⟨belowK_b hn W l o o' hl h hc hw,fun hm=>by
  refine (World.putObj_heap_other (fun e=>?_)).trans hm
  subst e
  rw[show W.heap[Bs]?=_ from hm] at h
  cases h
  cases hc⟩
def Turned (R:List StepX) (L:List Nat):Prop:=R.length=L.length∧∀ k (h:k<R.length),(R[k]).1.1=R.length - 1 - k∧L[R.length - 1 - k]?=some (R[k]).1.2
theorem backward1_in (n:Nat) (hn:1≤n) (l Bs n₀:Nat) (A:Option Addr) (c:Nat) (L:List Nat) (R:List StepX) (hR:Turned R L) (hb1:R.length≤1000) (J Jx:List StepX→World→Prop)
  (hY:∀ pre (x:StepX) Wd,J pre Wd→pre.length<R.length→YieldAt Fence.wide (n - 1) prog l (encXR x) Wd fun e W' =>
   (e=.returned (.bool true)∧J (pre++[x]) W'∧jmj n₀ Bs (.slice A R.length c) Wd W')∨(e=.returned (.bool false)∧Jx (pre++[x]) W'))
  (w:World) (hl:Blk w Bs 35 [.slice A R.length c]) (hr:Rd w n₀ A (nvsI L)) (h0:J [] w) :
  CallsIn Fence.wide n prog 37 #[.func (.yield l) #[] #[],.pointer (some ⟨Bs,0,none⟩)] w fun e w'=>(∃ v,e=.returned v) ∧
   ((∃ ys,ys=R∧J ys w')∨(∃ pre,pre <+: R∧Jx pre w')):=by
 have HR:=jq hR
 have hc0:=hl.cell 0
 simp only[jy] at hc0
 clear hR
 refine callsIn_of_wp func37 rfl trivial ?_ rfl
 simp only[ntmps37,List.size_toArray,List.length_cons,List.length_nil,Nat.reduceAdd,Nat.reduceSub,Array.replicate_succ,Array.replicate_zero,List.push_toArray,List.append_toArray,List.nil_append,List.cons_append]
 gi_wp2
 clear hc0
 gi_loopw [3] (fun i wr=>∃ (k:Nat) (z:Int),k≤R.length∧z=(R.length:Int) - 1 - (k:Int)∧i=.int .i64 z∧J (R.take k) wr∧jmj n₀ Bs (.slice A R.length c) w wr)
  (fun i _=>(intOf i+1).toNat)
 case atStart=>exact⟨0,_,Nat.zero_le _,by simp,rfl,h0,Below.refl _ _,fun h=>h⟩
 case round =>
  obtain⟨k,z,hk,hz,rfl,hJs,hnx⟩:=hrel
  by_cases hlt:k<R.length
  ·obtain⟨q,hq⟩:∃ q,q=R.length - 1 - k:=⟨_,rfl⟩
   have hzq:z=(q:Int):=by omega
   subst hzq
   have hql:q<R.length:=by omega
   obtain⟨hx1,hx2⟩:=HR.out.2 k hlt
   rw[←hq] at hx1 hx2
   obtain⟨ab,ao,rfl,hab,hcell0⟩:=hr q _ (nvs_get L q _ hx2)
   have hcell:=(hnx.1.cell (p:=⟨ab,ao+q,none⟩) hab).trans hcell0
   have hmc:=(hnx.2 hl).cell 0
   simp only[jy] at hmc
   have htake:=List.take_append_getElem (l:=R) (i:=k) hlt
   obtain⟨fn,tmps,assign,body,hy,hRR⟩:=hY _ (R[k]) wr hJs (by rw[List.length_take];omega)
   rw[htake] at hRR
   unfold encXR at hy
   obtain⟨s,hs⟩:∃ s,s=(R[k]).1.2:=⟨_,rfl⟩
   rw[hx1,←hs] at hy
   rw[←hs] at hcell
   have hqi:(q:Int)<(R.length:Int):=by omega
   have HT:=jq htake
   have HQ:=jq hq
   clear hx1 hx2 hcell0 hJs hs htake hz hq
   gi_wp2
   refine hRR.mono ?_
   rintro e W3 (⟨rfl,hJ3,hk3⟩ | ⟨rfl,hJx3⟩)
   ·gi_wp2
    go_roundw
    case rel=>exact⟨k+1,_,by omega,by have:=HQ.out;omega,rfl,hJ3,hnx.trans hk3⟩
    case measure=>simp[intOf]
   ·gi_wp2
    refine bodyPost_ret (results_none rfl _ _ _) rfl ?_
    exact⟨⟨_,rfl⟩,.inr ⟨_,List.take_prefix _ _,hJx3⟩⟩
  ·obtain rfl:k=R.length:=by omega
   have hz1:z = -1:=by omega
   subst hz1
   rw[List.take_of_length_le jw] at hJs
   clear hz
   gi_wp2
   go_end0
   exact⟨⟨_,rfl⟩,.inl ⟨_,rfl,hJs⟩⟩
theorem qyh (n:Nat) (hn:1≤n) (Bs n₀:Nat) (A:Option Addr) (c:Nat) (L:List Nat) (R:List StepX) (hR:Turned R L) (hb1:R.length≤1000)
  (w:World) (hl:Blk w Bs 35 [.slice A R.length c]) (hn₀:n₀≤w.heap.size) (hr:Rd w n₀ A (nvsI L)) :
  SeqStopsK Fence.wide n prog 37 #[.pointer (some ⟨Bs,0,none⟩)] encXR (jmj n₀ Bs (.slice A R.length c)) (fun ys=>ys=R) (fun pre=>pre <+: R) R.length w :=
 fun l J Jx W' hW' _ _ hY h0 =>
  backward1_in n hn l Bs n₀ A c L R hR hb1 J Jx hY W' (hl.grow hW') (fun k u hu=>by
   obtain⟨b,off,rfl,hb,hc⟩:=hr k u hu
   exact⟨b,off,rfl,hb,(hW'.cell (p:=⟨b,off+k,none⟩) (Nat.lt_of_lt_of_le hb hn₀)).trans hc⟩) h0
theorem qdp (A:Option Addr) (n c:Nat) (w:World) :
  Calls prog 17 #[.slice A n c] w fun e w'=>e=.returned (.func (.func 37) #[] #[.pointer (some ⟨w.heap.size,0,none⟩)])∧Below w.heap.size w w'∧w'.heap.size=w.heap.size+1∧Blk w' w.heap.size 35 [.slice A n c]:=by
 go_enter func17,ntmps17
 go_wp2
 go_ret
 exact⟨rfl,(Below.refl _ _).alloc jw _,by simp,heap_alloc_new w _⟩
def turnAt (L:List Nat) (k:Nat) (h:∀ s∈L,1≤s∧s≤7) (hk:k<L.length):StepX:=⟨(L.length - 1 - k,L[L.length - 1 - k]'(by omega)),h _ (List.getElem_mem _)⟩
theorem turned_ofR (L:List Nat) (h:∀ s∈L,1≤s∧s≤7):∃ R:List StepX,Turned R L∧R.map (·.1.2)=L.reverse:=by
 refine⟨(List.finRange L.length).map fun k=>turnAt L k.val h k.isLt,⟨by simp,fun k hk=>?_⟩,?_⟩
 ·simp only[List.length_map,List.length_finRange] at hk
  simp[turnAt]
 ·apply List.ext_getElem
  ·simp
  ·intro i h1 h2
   simp[turnAt,List.getElem_reverse]
theorem unpackL_few:∀ (n:Nat) (l o:List UInt8),l.length≤n→jqh l=some o→o.length≤130*l.length
 | 0,l,o,hl,h=>by
  have:l=[]:=List.length_eq_zero_iff.1 (by omega)
  subst this
  rw[qwx] at h
  injection h with h
  subst h
  simp
 | n+1,l,o,hl,h=>by
  cases l with
  | nil =>
   rw[qwx] at h
   injection h with h
   subst h
   simp
  | cons x t =>
   by_cases hz:jkf x≤t.length+1
   ·rw[qgh hz,Option.map_eq_some_iff] at h
    obtain⟨o',ho,rfl⟩:=h
    have h1:=unpackL_few n _ o' (by rw[List.length_drop];have:=sizeN_pos x;simp only[List.length_cons] at hl ⊢;omega) ho
    have h2:=toldL_len hz
    have h3:=manyN_le x
    have h4:=sizeN_pos x
    rw[List.length_drop] at h1
    rw[List.length_append,h2]
    simp only[List.length_cons] at h1 ⊢
    omega
   ·rw[qgf (by omega)] at h
    cases h
def Fits (raw len:Nat):Prop:=(raw≤90000∧len≤90000)∨len≤600
theorem undo_fits {W raw s:Nat} (hW:IsW W) (hs:1≤s∧s≤7) {m x:List UInt8} (h:jxd W raw s m=some x) (hf:Fits raw m.length):Fits raw x.length:=by
 by_cases h5:s≤5
 ·obtain⟨y,hy,hl⟩:=undoR_keeps (W:=W) (raw:=raw) ⟨hs.1,h5⟩ m
  rw[hy] at h
  injection h with h
  subst h
  rw[hl]
  exact hf
 ·have hx:=undoR_raw (W:=W) (by omega) h
  rcases Nat.lt_or_ge 90000 raw with hr | hr
  ·exfalso
   have hm:m.length≤600:=by rcases hf with ⟨h1,_⟩ | h1 <;> omega
   rcases (show s=6∨s=7 by omega) with rfl | rfl
   ·unfold jxd at h
    simp only[show ¬ (6=1) by decide,show ¬ (6=2) by decide,show ¬ (6=3) by decide,show ¬ (6=4) by decide,show ¬ (6=5) by decide,if_false,if_true] at h
    split at h
    ·cases h
    ·split at h
     ·rename_i hz
      have h1:=gorR_some hz
      have h2:=gorR_few (W:=W) (raw/W) (m.take (m.length - raw%W))
      have h3:(m.take (m.length - raw%W)).length≤m.length:=List.length_take_le' _ _
      have h4:raw/W≤4800:=by omega
      have h5:=Nat.div_add_mod raw W
      have h6:=Nat.mod_lt raw (show 0<W by have:=hW.pos;omega)
      have h7:W*(raw/W)≤8*4800:=Nat.mul_le_mul hW.pos.2 h4
      have:=hW.pos
      omega
     ·cases h
   ·unfold jxd at h
    simp only[show ¬ (7=1) by decide,show ¬ (7=2) by decide,show ¬ (7=3) by decide,show ¬ (7=4) by decide,show ¬ (7=5) by decide,show ¬ (7=6) by decide,if_false,if_true] at h
    split at h
    ·rename_i hz
     obtain⟨h1,h2⟩:=runsR_some hz
     have h3:=unpackL_few _ m _ jw h2
     omega
    ·cases h
  ·left
   omega
theorem qmf {W raw:Nat}:∀ {A B:List Nat} {m:List UInt8},jbp W raw A m=none→jbp W raw (A++B) m=none
 | [],B,m,h=>by cases h
 | a::A,B,m,h=>by
  simp only[List.cons_append,jbp] at h ⊢
  cases hu:jxd W raw a m with
  | none=>rfl
  | some k =>
   rw[hu] at h
   exact qmf h
def BackAns (w:World) (o:Option (List UInt8)) (e:Ending) (w':World):Prop :=
 ∃ A n c,e=.returned (.tuple #[.slice A n c,.int .i64 (errN o:Int)])∧Below w.heap.size w w'∧jjz (o.getD []) (.slice A n c) w'
theorem nil_bytes (w:World):jjz [] (.slice none 0 0) w:=⟨none,0,rfl,Nat.le_refl _,Rd.nil_ _ _ _⟩
def backC (W n raw:Nat) (m:List UInt8):Option (List UInt8) :=
 if keepB (jjr n)=true∧m.length≠raw then none else jbp W raw (jjr n).reverse m
attribute [local go_sem] Oper.semAt_some
theorem qqr (n:Nat):∀ s∈jjr n,1≤s∧s≤7:=by
 unfold jjr
 split <;> decide
def BackI (w0:World) (B:Nat) (W raw:Nat) (mid:List UInt8) (pre:List StepX) (Wd:World):Prop :=
 (∃ v m,Boxed Wd B 22 v∧jjz m v Wd∧Fits raw m.length∧Hid (jbp W raw (pre.map (·.1.2)) mid=some m))∧Below B w0 Wd
def BackX (w:World) (B8 B9:Nat) (W raw:Nat) (mid:List UInt8) (c:Code) (pre:List StepX) (Wd:World):Prop :=
 (c=.ret∧jbp W raw (pre.map (·.1.2)) mid=none∧Boxed Wd B8 22 (.slice none 0 0)∧Boxed Wd B9 24 (.int .i64 16))∧Below w.heap.size w Wd
theorem isBytes_own (B:Nat) (p:List StepX→List UInt8→Value→Prop) (t:TypeId):Own (fun (pre:List StepX) Wd=>∃ v m,Boxed Wd B t v∧jjz m v Wd∧p pre m v):=fun s X Y row hs hg hrow=>by
 obtain⟨v,m,h1,h2,h3⟩:=hs
 refine⟨v,m,boxed_own (β:=Unit) B t (fun _=>v) () X Y row h1 hg hrow,?_,h3⟩
 obtain⟨A,c,rfl,hc,hr⟩:=h2
 refine⟨A,c,rfl,hc,fun k u hu=>?_⟩
 obtain⟨b,off,e,hb,hcl⟩:=hr k u hu
 exact⟨b,off,e,Nat.lt_of_lt_of_le hb hg.size,cell_kept hcl hg hrow⟩
theorem qzj {w':World} {p q:Nat} {tmps:Array Value} {fn:Func} {i j:Tmp} {t u:TypeId} (hres:fn.results=#[.cell i t,.cell j u]) {v0 v1:Value} (hi:tmps[i]?.getD undef=.pointer (some ⟨p,0,none⟩)) (hj:tmps[j]?.getD undef=.pointer (some ⟨q,0,none⟩))
  (ht:∀ w,(isAgg t).run prog w=.ok false w) (hu:∀ w,(isAgg u).run prog w=.ok false w) (h0:w'.cell? ⟨p,0,none⟩=some v0) (h1:w'.cell? ⟨q,0,none⟩=some v1):(results fn tmps).run prog w'=.ok (.tuple #[v0,v1]) w':=by
 simp[results,hres,hi,hj,go_sem,h0,h1,ht,hu]
def boxes4 (W raw:Int):List Obj:=[.cells #[.int .i64 W] 3,.cells #[.int .i64 raw] 3,.cells #[.slice none 0 0] 22,.cells #[.int .i64 0] 24]
structure Boxes4 (w wA:World) (W raw:Int):Prop where
 b5:Blk wA w.heap.size 3 [.int .i64 W]
 b7:Blk wA (w.heap.size+1) 3 [.int .i64 raw]
 b8:Blk wA (w.heap.size+1+1) 22 [.slice none 0 0]
 b9:Blk wA (w.heap.size+1+1+1) 24 [.int .i64 0]
 below:Below w.heap.size w wA
 size:w.heap.size+4≤wA.heap.size
theorem qmn (w:World) (W raw:Int):Boxes4 w (jbx w (boxes4 W raw)) W raw :=
 ⟨jvm (boxes4 W raw) w 0 _ rfl,jvm (boxes4 W raw) w 1 _ rfl,jvm (boxes4 W raw) w 2 _ rfl,jvm (boxes4 W raw) w 3 _ rfl,jyx _ _,by simp[boxes4,jbx]⟩
theorem Boxes4.grow {w wA wB:World} {W raw:Int} (h:Boxes4 w wA W raw) (hb:Below wA.heap.size wA wB):Boxes4 w wB W raw :=
 ⟨h.b5.grow hb,h.b7.grow hb,h.b8.grow hb,h.b9.grow hb,h.below.trans (hb.mono h.below.size),Nat.le_trans h.size hb.size⟩
theorem back_early {W:Nat} (hW:IsW W) (n:Nat) (hn:n≤10) (raw:Nat) (hraw:raw≤16777216) (mid:List UInt8) (v:Value) (w:World) (hv:jjz mid v w) (_:mid.length≤90000) (hk:keepB (jjr n)=true) (hne:mid.length≠raw) :
  Calls prog 8 #[v,.int .i64 (W:Int),.int .i64 (n:Int),.int .i64 (raw:Int)] w (BackAns w none):=by
 have hmay:mayBR (W:Int) (n:Int) (raw:Int)=true:=by
  unfold mayBR sizedB
  rw[←hW.right]
  simp
  omega
 have c1:=fun (w':World)=>may_any (W:Int) (n:Int) (raw:Int) w'
 rw[hmay] at c1
 have C1:=jq c1
 have c4:=fun (w':World)=>qkf (n:Int) w'
 rw[show jxm (n:Int)=jjr n by unfold jxm;rw[if_pos ⟨by omega,by omega⟩,Int.toNat_natCast]] at c4
 have hl4:=qqs n
 have hall:=qqr n
 have c6:=fun (v:Value) (w':World) (h:jzm (nvsI (jjr n)) v w')=>jbs (jjr n) v w' h (by omega) (fun y hy=>by have:=hall y hy;omega)
 rw[hk] at c6
 have C6:=jq c6
 obtain⟨L,hL⟩:∃ L,L=jjr n:=⟨_,rfl⟩
 rw[←hL] at c4 C6
 have C4:=jq c4
 obtain⟨A,c,rfl,hc,-⟩:=hv
 have hni:(((mid.length:Nat):Int) != ((raw:Nat):Int))=true:=by rw[bne_iff_ne];omega
 have HBX:=jq (qmn w (W:Int) (raw:Int))
 clear c1 c4 c6 hmay hL hn hW hk hall hl4 hne
 go_enter func8,ntmps8
 go_wp2_with fail
 refine (C1.out _).mono ?_
 rintro e w' ⟨rfl,rfl⟩
 go_wp2_with fail
 refine (C4.out _).mono ?_
 rintro e w1 ⟨v1,rfl,h1,hb1⟩
 have HX1:=jq (HBX.out.grow hb1)
 have C7:=jq (C6.out v1 w1 h1)
 obtain⟨A1,cc1,rfl,-,-⟩:=h1
 have x5:=HX1.out.b5.cell 0
 have x7:=HX1.out.b7.cell 0
 have x8:=HX1.out.b8.cell 0
 have x9:=HX1.out.b9.cell 0
 have f8:=HX1.out.b8.frozen 0
 have f9:=HX1.out.b9.frozen 0
 simp only[jy] at x5 x7 x8 x9
 clear hb1 HBX C1 C4 C6
 go_wp2_with fail
 refine C7.out.mono ?_
 rintro e w2 ⟨rfl,rfl⟩
 go_wp2
 have g8:=((HX1.out.b8.set_ 0 (.slice none 0 0)).setOther ⟨w.heap.size+1+1+1,0,none⟩ (.int .i64 16) (by simp only;omega)).cell 0
 have g9:=((HX1.out.b9.setOther ⟨w.heap.size+1+1,0,none⟩ (.slice none 0 0) (by simp only;omega)).set_ 0 (.int .i64 16)).cell 0
 simp only[List.set_cons_zero,jy] at g8 g9
 exact bodyPost_ret (qzj results8 rfl rfl (fun w=>run_isAgg_plain underlying22 rfl w) (fun w=>run_isAgg_plain underlying24 rfl w) g8 g9) rfl
  ⟨_,_,_,rfl,(HX1.out.below.setCell (p:=⟨w.heap.size+1+1,0,none⟩) (by simp only;omega) _).setCell (p:=⟨w.heap.size+1+1+1,0,none⟩) (by simp only;omega) _,nil_bytes _⟩
theorem Boxed.set_ {w:World} {B:Nat} {t:TypeId} {v:Value} (h:Boxed w B t v) (u:Value):Boxed (w.setCell ⟨B,0,none⟩ u) B t u:=Blk.set_ (cs:=[v]) h 0 u
theorem jjz.setBox {w:World} {l:List UInt8} {v:Value} {p:Addr} {q:Value} (h:jjz l v w) (hp:w.cell? p=some q) (hq:∀ c:UInt8,q ≠ .int .u8 (c.toNat:Int)) (u:Value):jjz l v (w.setCell p u):=by
 obtain⟨A1,c1,rfl,hc,hr⟩:=h
 refine⟨A1,c1,rfl,hc,fun k x hx=>?_⟩
 obtain⟨b,off,e,hb,hcl⟩:=hr k x hx
 refine⟨b,off,e,by simpa [World.setCell] using hb,?_⟩
 rw[World.cell?_setCell_other]
 ·exact hcl
 ·intro e2
  subst e2
  rw[hcl] at hp
  injection hp with hp
  subst hp
  simp only[bvs,List.getElem?_map,Option.map_eq_some_iff] at hx
  obtain⟨c,_,hc⟩:=hx
  exact hq c hc.symm
theorem jjz.keptOwn {X Y:World} {l:List UInt8} {v:Value} {row:Option Nat} (h:jjz l v X) (hg:X.grownBy Y row) (hrow:∀ r,row=some r→∃ o:Obj,X.heap[r]?=some o∧o.isCells=false):jjz l v Y:=by
 obtain⟨A,c,rfl,hc,hr⟩:=h
 refine⟨A,c,rfl,hc,fun k u hu=>?_⟩
 obtain⟨b,off,e,hb,hcl⟩:=hr k u hu
 exact⟨b,off,e,Nat.lt_of_lt_of_le hb hg.size,cell_kept hcl hg hrow⟩
theorem KeepsFrom.of_below {B:Nat} {W W':World} (h:Below W.heap.size W W'):KeepsFrom B W W':=⟨h.size,fun k _ _ hk _=>(h.block k (Array.getElem?_eq_some_iff.1 hk).1).trans hk⟩
theorem back_any0 {W:Nat} (hW:IsW W) (n:Nat) (hn:n≤10) (raw:Nat) (hraw:raw≤16777216) (mid:List UInt8) (v:Value) (w:World) (hv:jjz mid v w) (hf:Fits raw mid.length) (hk:keepB (jjr n)=false) :
  Calls prog 8 #[v,.int .i64 (W:Int),.int .i64 (n:Int),.int .i64 (raw:Int)] w (BackAns w (jbp W raw (jjr n).reverse mid)):=by
 have hmay:mayBR (W:Int) (n:Int) (raw:Int)=true:=by
  unfold mayBR sizedB
  rw[←hW.right]
  simp
  omega
 have hmid:mid.length≤90000:=by rcases hf with ⟨_,h⟩ | h <;> omega
 have c1:=fun (w':World)=>may_any (W:Int) (n:Int) (raw:Int) w'
 rw[hmay] at c1
 have C1:=jq c1
 have C2:=jq (fun (w':World)=>kinds_any hW w')
 have c4:=fun (w':World)=>qkf (n:Int) w'
 rw[show jxm (n:Int)=jjr n by unfold jxm;rw[if_pos ⟨by omega,by omega⟩,Int.toNat_natCast]] at c4
 have hl4:=qqs n
 have hall:=qqr n
 have c6:=fun (v:Value) (w':World) (h:jzm (nvsI (jjr n)) v w')=>jbs (jjr n) v w' h (by omega) (fun y hy=>by have:=hall y hy;omega)
 rw[hk] at c6
 obtain⟨L,hL⟩:∃ L,L=jjr n:=⟨_,rfl⟩
 rw[←hL] at c4 c6 hl4 hall ⊢
 obtain⟨R,hR,hRL⟩:=turned_ofR L hall
 rw[←hRL]
 have C4:=jq c4
 have C6:=jq c6
 have HUF:=jq (fun (s:Nat) (hs:1≤s∧s≤7) (m x:List UInt8) (h:jxd W raw s m=some x) (hf:Fits raw m.length)=>undo_fits hW hs h hf)
 have HV:=jq hv
 have HF:=jq hf
 have HR:=jq hR
 have hRn:R.length≤4:=by rw[hR.1];exact hl4
 obtain⟨A,c,rfl,hc,-⟩:=hv
 have C3:=jq (fun (w':World) (h:jjz mid (.slice A mid.length c) w')=>qmh mid _ w' h hmid)
 obtain⟨o,ho⟩:∃ o,o=jbp W raw (R.map (·.1.2)) mid:=⟨_,rfl⟩
 rw[←ho]
 have HO:=jq ho
 have HBX:=jq (qmn w (W:Int) (raw:Int))
 clear c1 c4 c6 hmay hL hn hW hf hR hRL hall ho hk
 refine (callsIn_wide (n:=4)).1 ?_
 refine callsIn_of_wp_marks func8 rfl trivial ?_ rfl
 simp only[ntmps8,List.size_toArray,List.length_cons,List.length_nil,Nat.reduceAdd,Nat.reduceSub,Array.replicate_succ,Array.replicate_zero,List.push_toArray,List.append_toArray,List.nil_append,List.cons_append]
 gi_wp2_with fail
 refine⟨trivial,?_⟩
 refine (callsIn_wide.2 (C1.out _)).mono ?_
 rintro e w' ⟨rfl,rfl⟩
 gi_wp2_with fail
 refine⟨trivial,?_⟩
 refine (callsIn_wide.2 (C4.out _)).mono ?_
 rintro e w1 ⟨v1,rfl,h1,hb1⟩
 have HX1:=jq (HBX.out.grow hb1)
 have C7:=jq (C6.out v1 w1 h1)
 have HL1:=jq h1
 obtain⟨A1,cc1,rfl,-,-⟩:=h1
 have x7:=HX1.out.b7.cell 0
 simp only[jy] at x7
 rw[jzj,←HR.out.1] at C7 HL1
 rw[jzj,←HR.out.1]
 clear hb1 HBX C1 C4 C6
 gi_wp2_with fail
 refine⟨trivial,?_⟩
 refine (callsIn_wide.2 C7.out).mono ?_
 rintro e w2 ⟨rfl,rfl⟩
 gi_wp2_with fail
 refine⟨trivial,?_⟩
 refine (callsIn_wide.2 (C2.out _)).mono ?_
 rintro e w2 ⟨b,rfl,hk2,hb2⟩
 have HX2:=jq (HX1.out.grow hb2)
 have HK2:=jq hk2
 have HL2:=jq (HL1.out.grow hb2)
 clear hb2 hk2 x7 C7 C2 HX1 HL1
 gi_wp2_with fail
 refine⟨trivial,?_⟩
 obtain⟨wK,hwK⟩:∃ wK,wK=w2.alloc (.cells #[.map (some b)] 32):=⟨_,rfl⟩
 have hbK:Below w2.heap.size w2 wK:=by rw[hwK];exact (Below.refl _ _).alloc jw _
 have hk11:Blk wK w2.heap.size 32 [.map (some b)]:=by rw[hwK];exact heap_alloc_new w2 _
 rw[←hwK]
 refine (callsIn_wide.2 (C3.out wK (HV.out.grow (HX2.out.below.trans (hbK.mono HX2.out.below.size))))).mono ?_
 rintro e w3 ⟨v3,rfl,hr3,hb3⟩
 have HX3:=jq ((HX2.out.grow hbK).grow hb3)
 have HK3:=jq ((HK2.out.grow hbK).grow hb3)
 have HL3:=jq ((HL2.out.grow hbK).grow hb3)
 have H11:=jq (hk11.grow hb3)
 have hB11:w.heap.size+4≤w2.heap.size:=HX2.out.size
 have hB12:w2.heap.size<w3.heap.size:=H11.out.lt
 have HM3:=jq hr3.bytes
 obtain⟨A3,c3,rfl,-,-⟩:=hr3
 obtain⟨B11,hB11e⟩:∃ B11,B11=w2.heap.size:=⟨_,rfl⟩
 rw[←hB11e] at H11 hB11 hB12 ⊢
 clear hb3 hbK hk11 hwK HX2 HK2 HL2 C3 HV hB11e
 gi_wp2_with fail
 refine⟨trivial,?_⟩
 obtain⟨wO,hwO⟩:∃ wO,wO=w3.alloc (.cells #[.slice A3 mid.length c3] 22):=⟨_,rfl⟩
 have hbO:Below w3.heap.size w3 wO:=by rw[hwO];exact (Below.refl _ _).alloc jw _
 have hsO:wO.heap.size=w3.heap.size+1:=by rw[hwO];simp
 have hk12:Boxed wO w3.heap.size 22 (.slice A3 mid.length c3):=by rw[hwO];exact Boxed.new w3 _ _
 rw[←hwO]
 refine (callsIn_wide.2 (qdp A1 R.length cc1 wO)).mono ?_
 rintro e w4 ⟨rfl,hb4,hs4,hbk4⟩
 have hb34:Below w3.heap.size w3 w4:=hbO.trans (hb4.mono hbO.size)
 have hk12':Boxed w4 w3.heap.size 22 (.slice A3 mid.length c3):=(hb4.block w3.heap.size (by omega)).trans hk12
 have hlt4:w3.heap.size≤w4.heap.size:=hb34.size
 obtain⟨B13,hB13⟩:∃ B13,B13=wO.heap.size:=⟨_,rfl⟩
 obtain⟨B12,hB12e⟩:∃ B12,B12=w3.heap.size:=⟨_,rfl⟩
 have hB13':B13=B12+1:=by omega
 have hb34':Below B12 w3 w4:=by rw[hB12e];exact hb34
 have hbB:B12≤w3.heap.size:=Nat.le_of_eq hB12e
 have hmO:=(HM3.out.grow hb34)
 obtain⟨A1',c1',he1,-,hr1⟩:=HL3.out
 rw[jzj,←HR.out.1] at he1
 injection he1 with q1 q2 q3
 subst q1 q3
 have hr1':Rd w4 B12 A1 (nvsI L):=by rw[hB12e];exact hr1.below hb34
 rw[←hB13] at hbk4
 rw[←hB12e] at hk12' hB12 hlt4
 have hB12s:w.heap.size+4<B12:=by omega
 have e13:(Addr.mk wO.heap.size 0 none)=⟨B13,0,none⟩:=by rw[hB13]
 have e12:(Addr.mk w3.heap.size 0 none)=⟨B12,0,none⟩:=by rw[hB12e]
 rw[e13,e12]
 have HE13:=jq hB13'
 have HE12:=jq hB12e
 clear hb4 hs4 hk12 hbO hwO hsO hr1 hb34 hB13 e13 e12 hB13' hB12e
 gi_wp2
 refine wpIn_rangeFunc_ownG rfl (by omega) (gf:=37) (lb:=#[.pointer (some ⟨B13,0,none⟩)]) rfl trivial (enters_of func37 (by kernel_rfl) rfl)
  (qyh 3 (by omega) B13 B12 A1 cc1 L R HR.out (by omega) w4 hbk4 hlt4 hr1') jmj.trans (jmj.put hlt4) (Below.refl _ _) (fun _=>rfl)
  (BackI w3 B12 W raw mid) (BackX w (w.heap.size+1+1) (w.heap.size+1+1+1) W raw mid)
  (OwnFrom.and (Own.from (isBytes_own B12 (fun pre m _=>Fits raw m.length∧Hid (jbp W raw (pre.map (·.1.2)) mid=some m)) _) _) (ownFrom_below hbB hlt4))
  (fun c=>OwnFrom.and (Own.from (fun s X Y row hs hg hr=>⟨hs.1,hs.2.1,boxed_own (β:=Unit) _ _ (fun _=>_) () X Y row hs.2.2.1 hg hr,boxed_own (β:=Unit) _ _ (fun _=>_) () X Y row hs.2.2.2 hg hr⟩) _) (ownFrom_below jw (by omega)))
  ⟨⟨_,mid,hk12',hmO,HF.out,rfl⟩,hb34'⟩
  ?a1 ?assign ?body ?done ?stop
 case assign =>
  intro l x Wd K hK
  unfold encXR
  gi_wp2
  exact hK
 case body =>
  rintro l pre x Wd ⟨⟨vd,m,hbx,hbm,hfit,HBR⟩,hBd⟩ hlt
  have hB3:Below w3.heap.size w3 Wd:=by rw[←HE12.out];exact hBd
  have hX:=HX3.out.grow hB3
  have HX:=jq hX
  have x5:=hX.b5.cell 0
  have x7:=hX.b7.cell 0
  have x8:=hX.b8.cell 0
  have x9:=hX.b9.cell 0
  have f8:=hX.b8.frozen 0
  have f9:=hX.b9.frozen 0
  have x11:=(H11.out.grow hB3).cell 0
  simp only[jy] at x5 x7 x8 x9 x11
  have hz7:=x.2
  obtain⟨d,u,hlk,-,hu⟩:=run_step (HK3.out.grow hB3) (s:=x.1.2 - 1) (by omega)
  rw[show x.1.2 - 1+1=x.1.2 by omega] at hlk hu
  obtain⟨K,cap,rfl,hE,hC⟩:=hu
  have hm9:m.length≤90000:=by rcases hfit with ⟨_,h⟩ | h <;> omega
  have hf2:raw≤90000∨m.length≤5000:=by rcases hfit with ⟨h,_⟩ | h <;> omega
  have cu:=hC Wd m vd raw (jdj.refl _) hbm hm9 hf2 hraw
  have HUM:=jq (fun (y:List UInt8) (h:jxd W raw x.1.2 m=some y)=>HUF.out x.1.2 hz7 m y h hfit)
  have hbr:∀ ou,ou=jxd W raw x.1.2 m→jbp W raw ((pre++[x]).map (·.1.2)) mid=ou:=fun ou h=>by
   rw[List.map_append,List.map_singleton,qzv,HBR.out,h]
   rfl
  have HBR2:=jq hbr
  obtain⟨ou,hou⟩:∃ ou,ou=jxd W raw x.1.2 m:=⟨_,rfl⟩
  rw[←hou] at cu
  have HOU:=jq hou
  have CU:=jq cu
  have HE:=jq hE
  have hfu:=field_undo d (.func (.func K) #[] cap) Wd
  have HBO:=jq hbx
  have x12:=hbx.cell
  have f12:=hbx.frozen
  have HBD:=jq hBd
  obtain⟨Am,cm,rfl,-,-⟩:=hbm
  clear hB3 hX hE hC cu hou hbr HBR hbx hBd hfit hm9 hf2
  gi_wp2_with fail
  refine⟨trivial,?_⟩
  rw[HE.out]
  refine⟨(fun h=>by cases h),?_⟩
  refine (CallsIn.inRound l (callsIn_wide.2 CU.out)).mono ?_
  rintro e w5 ⟨A5,n5,c5,rfl,hb5,h5⟩
  have hlt12:B12<Wd.heap.size:=HBO.out.lt
  have y12:Boxed w5 B12 22 (.slice Am m.length cm):=(hb5.block B12 hlt12).trans HBO.out
  have HX5:=jq (HX.out.grow hb5)
  have HK5:=jq (KeepsFrom.of_below (B:=w4.heap.size) hb5)
  have HB5:=jq (HBD.out.trans (hb5.mono (Nat.le_of_lt hlt12)))
  have HS5:=jq (show jmj B12 B13 (.slice A1 R.length cc1) Wd w5 from ⟨hb5.mono (Nat.le_of_lt hlt12),fun q=>q.grow hb5⟩)
  have HY12:=jq y12
  have z12:=y12.cell
  have g12:=y12.frozen
  have H5:=jq h5
  have hBs:B12<B13:=by have:=HE13.out;omega
  clear x5 x7 x8 x9 f8 f9 x11 x12 f12 hlk hfu CU h5 hb5 y12
  cases ou with
  | none =>
   have z8:=HX5.out.b8.cell 0
   have z9:=HX5.out.b9.cell 0
   have g8:=HX5.out.b8.frozen 0
   have g9:=HX5.out.b9.frozen 0
   simp only[jy] at z8 z9
   have hen:errN none=16:=rfl
   rw[hen]
   clear hen
   gi_wp2
   have k8:Blk (((w5.setCell ⟨B12,0,none⟩ (.slice A5 n5 c5)).setCell ⟨w.heap.size+1+1,0,none⟩ (.slice none 0 0)).setCell ⟨w.heap.size+1+1+1,0,none⟩ (.int .i64 16)) (w.heap.size+1+1) 22 [.slice none 0 0] :=
    (((HX5.out.b8.setOther ⟨B12,0,none⟩ (.slice A5 n5 c5) (by simp only;omega)).set_ 0 (.slice none 0 0))).setOther _ _ (by simp only;omega)
   have k9:Blk (((w5.setCell ⟨B12,0,none⟩ (.slice A5 n5 c5)).setCell ⟨w.heap.size+1+1,0,none⟩ (.slice none 0 0)).setCell ⟨w.heap.size+1+1+1,0,none⟩ (.int .i64 16)) (w.heap.size+1+1+1) 24 [.int .i64 16] :=
    (((HX5.out.b9.setOther ⟨B12,0,none⟩ (.slice A5 n5 c5) (by simp only;omega)).setOther ⟨w.heap.size+1+1,0,none⟩ (.slice none 0 0) (by simp only;omega))).set_ 0 (.int .i64 16)
   exact⟨HK5.out.trans (((KeepsOthers.setCell _ _ _).trans ((KeepsOthers.setCell _ _ _).trans (KeepsOthers.setCell _ _ _))).from _),⟨rfl,HBR2.out none HOU.out,k8,k9⟩,
    ((HX5.out.below.setCell (p:=⟨B12,0,none⟩) (by simp only;omega) _).setCell (p:=⟨w.heap.size+1+1,0,none⟩) (by simp only;omega) _).setCell (p:=⟨w.heap.size+1+1+1,0,none⟩) (by simp only;omega) _⟩
  | some y =>
   have hen:errN (some y)=0:=rfl
   rw[hen]
   clear hen
   gi_wp2
   exact⟨HK5.out.trans ((KeepsOthers.setCell _ _ _).from _),HS5.out.trans ⟨(Below.refl B12 w5).setCell (p:=⟨B12,0,none⟩) jw _,fun q=>q.setOther _ _ (by simp only;omega)⟩,
    ⟨_,y,Boxed.set_ HY12.out _,(H5.out y rfl).setBox z12 (fun c h=>by cases h) _,HUM.out y HOU.out.symm,HBR2.out (some y) HOU.out⟩,HB5.out.setCell (p:=⟨B12,0,none⟩) jw _⟩
 case done =>
  rintro D ys Wd hD rfl ⟨⟨vd,m,hbx,hbm,hfit,HBR⟩,hBd⟩ hK
  have hB3:Below w3.heap.size w3 Wd:=by rw[←HE12.out];exact hBd
  have HX:=jq (HX3.out.grow hB3)
  have x12:=hbx.cell
  have x8:=HX.out.b8.cell 0
  have x9:=HX.out.b9.cell 0
  have f8:=HX.out.b8.frozen 0
  have f9:=HX.out.b9.frozen 0
  simp only[jy] at x8 x9
  have HBM:=jq hbm
  have HK:=jq hK
  have hom:o=some m:=by rw[HO.out];exact HBR.out
  subst hom
  obtain⟨Am,cm,rfl,-,-⟩:=hbm
  clear hB3 hbx hBd hfit HBR hK HO
  gi_wp2
  have hK2:=((KeepsOthers.setCell Wd ⟨w.heap.size+1+1,0,none⟩ (.slice Am m.length cm)).trans (KeepsOthers.setCell _ ⟨w.heap.size+1+1+1,0,none⟩ (.int .i64 0))).same D _ HK.out rfl
  refine⟨by simp,.inl ⟨_,_,rfl,run_takeDeferred hK2,?_⟩⟩
  have k8:Blk ((Wd.setCell ⟨w.heap.size+1+1,0,none⟩ (.slice Am m.length cm)).setCell ⟨w.heap.size+1+1+1,0,none⟩ (.int .i64 0)) (w.heap.size+1+1) 22 [.slice Am m.length cm]:=(HX.out.b8.set_ 0 _).setOther _ _ (by simp only;omega)
  have k9:Blk ((Wd.setCell ⟨w.heap.size+1+1,0,none⟩ (.slice Am m.length cm)).setCell ⟨w.heap.size+1+1+1,0,none⟩ (.int .i64 0)) (w.heap.size+1+1+1) 24 [.int .i64 0]:=(HX.out.b9.setOther ⟨w.heap.size+1+1,0,none⟩ (.slice Am m.length cm) (by simp only;omega)).set_ 0 _
  have x9':=(HX.out.b9.setOther ⟨w.heap.size+1+1,0,none⟩ (.slice Am m.length cm) (by simp only;omega)).cell 0
  simp only[jy] at x9'
  have hm2:=(HBM.out.setBox x8 (fun c h=>by cases h) (.slice Am m.length cm)).setBox x9' (fun c h=>by cases h) (.int .i64 0)
  have hrow:∀ r,some D=some r→∃ o,((Wd.setCell ⟨w.heap.size+1+1,0,none⟩ (.slice Am m.length cm)).setCell ⟨w.heap.size+1+1+1,0,none⟩ (.int .i64 0)).heap[r]?=some o∧o.isCells=false:=fun r e=>by
   cases e
   exact⟨_,hK2,rfl⟩
  exact⟨_,qzj results8 rfl rfl (fun w=>run_isAgg_plain underlying22 rfl w) (fun w=>run_isAgg_plain underlying24 rfl w) (cell_kept (k8.cell 0) (grownBy_putObj' _ D (.deferred none)) hrow) (cell_kept (k9.cell 0) (grownBy_putObj' _ D (.deferred none)) hrow),
   ⟨Am,m.length,cm,rfl,((HX.out.below.setCell (p:=⟨w.heap.size+1+1,0,none⟩) (by simp only;omega) _).setCell (p:=⟨w.heap.size+1+1+1,0,none⟩) (by simp only;omega) _).trans (belowK_b (w:=w) jw _ D _ _ (by omega) hK2 rfl rfl),
    jjz.keptOwn hm2 (grownBy_putObj' _ D (.deferred none)) hrow⟩⟩
 case stop =>
  rintro D cc pre Wd hD hpre ⟨⟨rfl,hnone,hx8,hx9⟩,hB⟩ hK
  have hom:o=none:=by
   obtain⟨t,rfl⟩:=hpre
   rw[HO.out,List.map_append]
   exact qmf hnone
  subst hom
  have g8:=hx8.cell
  have g9:=hx9.cell
  gi_wp2
  refine⟨by simp,.inl ⟨_,_,rfl,run_takeDeferred hK,?_⟩⟩
  have hrow:∀ r,some D=some r→∃ o,Wd.heap[r]?=some o∧o.isCells=false:=fun r e=>by
   cases e
   exact⟨_,hK,rfl⟩
  exact⟨_,qzj results8 rfl rfl (fun w=>run_isAgg_plain underlying22 rfl w) (fun w=>run_isAgg_plain underlying24 rfl w) (cell_kept g8 (grownBy_putObj' _ D (.deferred none)) hrow) (cell_kept g9 (grownBy_putObj' _ D (.deferred none)) hrow),
   ⟨_,_,_,rfl,hB.trans (belowK_b (w:=w) jw Wd D _ _ (by omega) hK rfl rfl),nil_bytes _⟩⟩
theorem back_any1 {W:Nat} (hW:IsW W) (n:Nat) (hn:n≤10) (raw:Nat) (hraw:raw≤16777216) (mid:List UInt8) (v:Value) (w:World) (hv:jjz mid v w) (hf:Fits raw mid.length) (hk:keepB (jjr n)=true) (hlen:mid.length=raw) :
  Calls prog 8 #[v,.int .i64 (W:Int),.int .i64 (n:Int),.int .i64 (raw:Int)] w (BackAns w (jbp W raw (jjr n).reverse mid)):=by
 have hmay:mayBR (W:Int) (n:Int) (raw:Int)=true:=by
  unfold mayBR sizedB
  rw[←hW.right]
  simp
  omega
 have hmid:mid.length≤90000:=by rcases hf with ⟨_,h⟩ | h <;> omega
 have c1:=fun (w':World)=>may_any (W:Int) (n:Int) (raw:Int) w'
 rw[hmay] at c1
 have C1:=jq c1
 have C2:=jq (fun (w':World)=>kinds_any hW w')
 have c4:=fun (w':World)=>qkf (n:Int) w'
 rw[show jxm (n:Int)=jjr n by unfold jxm;rw[if_pos ⟨by omega,by omega⟩,Int.toNat_natCast]] at c4
 have hl4:=qqs n
 have hall:=qqr n
 have c6:=fun (v:Value) (w':World) (h:jzm (nvsI (jjr n)) v w')=>jbs (jjr n) v w' h (by omega) (fun y hy=>by have:=hall y hy;omega)
 rw[hk] at c6
 obtain⟨L,hL⟩:∃ L,L=jjr n:=⟨_,rfl⟩
 rw[←hL] at c4 c6 hl4 hall ⊢
 obtain⟨R,hR,hRL⟩:=turned_ofR L hall
 rw[←hRL]
 have C4:=jq c4
 have C6:=jq c6
 have HUF:=jq (fun (s:Nat) (hs:1≤s∧s≤7) (m x:List UInt8) (h:jxd W raw s m=some x) (hf:Fits raw m.length)=>undo_fits hW hs h hf)
 have HV:=jq hv
 have HF:=jq hf
 have HR:=jq hR
 have hRn:R.length≤4:=by rw[hR.1];exact hl4
 obtain⟨A,c,rfl,hc,-⟩:=hv
 have C3:=jq (fun (w':World) (h:jjz mid (.slice A mid.length c) w')=>qmh mid _ w' h hmid)
 obtain⟨o,ho⟩:∃ o,o=jbp W raw (R.map (·.1.2)) mid:=⟨_,rfl⟩
 rw[←ho]
 have HO:=jq ho
 have HBX:=jq (qmn w (W:Int) (raw:Int))
 have hni:(((mid.length:Nat):Int) != ((raw:Nat):Int))=false:=by rw[hlen];simp
 clear c1 c4 c6 hmay hL hn hW hf hR hRL hall ho hk hlen
 refine (callsIn_wide (n:=4)).1 ?_
 refine callsIn_of_wp_marks func8 rfl trivial ?_ rfl
 simp only[ntmps8,List.size_toArray,List.length_cons,List.length_nil,Nat.reduceAdd,Nat.reduceSub,Array.replicate_succ,Array.replicate_zero,List.push_toArray,List.append_toArray,List.nil_append,List.cons_append]
 gi_wp2_with fail
 refine⟨trivial,?_⟩
 refine (callsIn_wide.2 (C1.out _)).mono ?_
 rintro e w' ⟨rfl,rfl⟩
 gi_wp2_with fail
 refine⟨trivial,?_⟩
 refine (callsIn_wide.2 (C4.out _)).mono ?_
 rintro e w1 ⟨v1,rfl,h1,hb1⟩
 have HX1:=jq (HBX.out.grow hb1)
 have C7:=jq (C6.out v1 w1 h1)
 have HL1:=jq h1
 obtain⟨A1,cc1,rfl,-,-⟩:=h1
 have x7:=HX1.out.b7.cell 0
 simp only[jy] at x7
 rw[jzj,←HR.out.1] at C7 HL1
 rw[jzj,←HR.out.1]
 clear hb1 HBX C1 C4 C6
 gi_wp2_with fail
 refine⟨trivial,?_⟩
 refine (callsIn_wide.2 C7.out).mono ?_
 rintro e w2 ⟨rfl,rfl⟩
 gi_wp2_with fail
 refine⟨trivial,?_⟩
 refine (callsIn_wide.2 (C2.out _)).mono ?_
 rintro e w2 ⟨b,rfl,hk2,hb2⟩
 have HX2:=jq (HX1.out.grow hb2)
 have HK2:=jq hk2
 have HL2:=jq (HL1.out.grow hb2)
 clear hb2 hk2 x7 C7 C2 HX1 HL1
 gi_wp2_with fail
 refine⟨trivial,?_⟩
 obtain⟨wK,hwK⟩:∃ wK,wK=w2.alloc (.cells #[.map (some b)] 32):=⟨_,rfl⟩
 have hbK:Below w2.heap.size w2 wK:=by rw[hwK];exact (Below.refl _ _).alloc jw _
 have hk11:Blk wK w2.heap.size 32 [.map (some b)]:=by rw[hwK];exact heap_alloc_new w2 _
 rw[←hwK]
 refine (callsIn_wide.2 (C3.out wK (HV.out.grow (HX2.out.below.trans (hbK.mono HX2.out.below.size))))).mono ?_
 rintro e w3 ⟨v3,rfl,hr3,hb3⟩
 have HX3:=jq ((HX2.out.grow hbK).grow hb3)
 have HK3:=jq ((HK2.out.grow hbK).grow hb3)
 have HL3:=jq ((HL2.out.grow hbK).grow hb3)
 have H11:=jq (hk11.grow hb3)
 have hB11:w.heap.size+4≤w2.heap.size:=HX2.out.size
 have hB12:w2.heap.size<w3.heap.size:=H11.out.lt
 have HM3:=jq hr3.bytes
 obtain⟨A3,c3,rfl,-,-⟩:=hr3
 obtain⟨B11,hB11e⟩:∃ B11,B11=w2.heap.size:=⟨_,rfl⟩
 rw[←hB11e] at H11 hB11 hB12 ⊢
 clear hb3 hbK hk11 hwK HX2 HK2 HL2 C3 HV hB11e
 gi_wp2_with fail
 refine⟨trivial,?_⟩
 obtain⟨wO,hwO⟩:∃ wO,wO=w3.alloc (.cells #[.slice A3 mid.length c3] 22):=⟨_,rfl⟩
 have hbO:Below w3.heap.size w3 wO:=by rw[hwO];exact (Below.refl _ _).alloc jw _
 have hsO:wO.heap.size=w3.heap.size+1:=by rw[hwO];simp
 have hk12:Boxed wO w3.heap.size 22 (.slice A3 mid.length c3):=by rw[hwO];exact Boxed.new w3 _ _
 rw[←hwO]
 refine (callsIn_wide.2 (qdp A1 R.length cc1 wO)).mono ?_
 rintro e w4 ⟨rfl,hb4,hs4,hbk4⟩
 have hb34:Below w3.heap.size w3 w4:=hbO.trans (hb4.mono hbO.size)
 have hk12':Boxed w4 w3.heap.size 22 (.slice A3 mid.length c3):=(hb4.block w3.heap.size (by omega)).trans hk12
 have hlt4:w3.heap.size≤w4.heap.size:=hb34.size
 obtain⟨B13,hB13⟩:∃ B13,B13=wO.heap.size:=⟨_,rfl⟩
 obtain⟨B12,hB12e⟩:∃ B12,B12=w3.heap.size:=⟨_,rfl⟩
 have hB13':B13=B12+1:=by omega
 have hb34':Below B12 w3 w4:=by rw[hB12e];exact hb34
 have hbB:B12≤w3.heap.size:=Nat.le_of_eq hB12e
 have hmO:=(HM3.out.grow hb34)
 obtain⟨A1',c1',he1,-,hr1⟩:=HL3.out
 rw[jzj,←HR.out.1] at he1
 injection he1 with q1 q2 q3
 subst q1 q3
 have hr1':Rd w4 B12 A1 (nvsI L):=by rw[hB12e];exact hr1.below hb34
 rw[←hB13] at hbk4
 rw[←hB12e] at hk12' hB12 hlt4
 have hB12s:w.heap.size+4<B12:=by omega
 have e13:(Addr.mk wO.heap.size 0 none)=⟨B13,0,none⟩:=by rw[hB13]
 have e12:(Addr.mk w3.heap.size 0 none)=⟨B12,0,none⟩:=by rw[hB12e]
 rw[e13,e12]
 have HE13:=jq hB13'
 have HE12:=jq hB12e
 clear hb4 hs4 hk12 hbO hwO hsO hr1 hb34 hB13 e13 e12 hB13' hB12e
 gi_wp2
 refine wpIn_rangeFunc_ownG rfl (by omega) (gf:=37) (lb:=#[.pointer (some ⟨B13,0,none⟩)]) rfl trivial (enters_of func37 (by kernel_rfl) rfl)
  (qyh 3 (by omega) B13 B12 A1 cc1 L R HR.out (by omega) w4 hbk4 hlt4 hr1') jmj.trans (jmj.put hlt4) (Below.refl _ _) (fun _=>rfl)
  (BackI w3 B12 W raw mid) (BackX w (w.heap.size+1+1) (w.heap.size+1+1+1) W raw mid)
  (OwnFrom.and (Own.from (isBytes_own B12 (fun pre m _=>Fits raw m.length∧Hid (jbp W raw (pre.map (·.1.2)) mid=some m)) _) _) (ownFrom_below hbB hlt4))
  (fun c=>OwnFrom.and (Own.from (fun s X Y row hs hg hr=>⟨hs.1,hs.2.1,boxed_own (β:=Unit) _ _ (fun _=>_) () X Y row hs.2.2.1 hg hr,boxed_own (β:=Unit) _ _ (fun _=>_) () X Y row hs.2.2.2 hg hr⟩) _) (ownFrom_below jw (by omega)))
  ⟨⟨_,mid,hk12',hmO,HF.out,rfl⟩,hb34'⟩
  ?a1 ?assign ?body ?done ?stop
 case assign =>
  intro l x Wd K hK
  unfold encXR
  gi_wp2
  exact hK
 case body =>
  rintro l pre x Wd ⟨⟨vd,m,hbx,hbm,hfit,HBR⟩,hBd⟩ hlt
  have hB3:Below w3.heap.size w3 Wd:=by rw[←HE12.out];exact hBd
  have hX:=HX3.out.grow hB3
  have HX:=jq hX
  have x5:=hX.b5.cell 0
  have x7:=hX.b7.cell 0
  have x8:=hX.b8.cell 0
  have x9:=hX.b9.cell 0
  have f8:=hX.b8.frozen 0
  have f9:=hX.b9.frozen 0
  have x11:=(H11.out.grow hB3).cell 0
  simp only[jy] at x5 x7 x8 x9 x11
  have hz7:=x.2
  obtain⟨d,u,hlk,-,hu⟩:=run_step (HK3.out.grow hB3) (s:=x.1.2 - 1) (by omega)
  rw[show x.1.2 - 1+1=x.1.2 by omega] at hlk hu
  obtain⟨K,cap,rfl,hE,hC⟩:=hu
  have hm9:m.length≤90000:=by rcases hfit with ⟨_,h⟩ | h <;> omega
  have hf2:raw≤90000∨m.length≤5000:=by rcases hfit with ⟨h,_⟩ | h <;> omega
  have cu:=hC Wd m vd raw (jdj.refl _) hbm hm9 hf2 hraw
  have HUM:=jq (fun (y:List UInt8) (h:jxd W raw x.1.2 m=some y)=>HUF.out x.1.2 hz7 m y h hfit)
  have hbr:∀ ou,ou=jxd W raw x.1.2 m→jbp W raw ((pre++[x]).map (·.1.2)) mid=ou:=fun ou h=>by
   rw[List.map_append,List.map_singleton,qzv,HBR.out,h]
   rfl
  have HBR2:=jq hbr
  obtain⟨ou,hou⟩:∃ ou,ou=jxd W raw x.1.2 m:=⟨_,rfl⟩
  rw[←hou] at cu
  have HOU:=jq hou
  have CU:=jq cu
  have HE:=jq hE
  have hfu:=field_undo d (.func (.func K) #[] cap) Wd
  have HBO:=jq hbx
  have x12:=hbx.cell
  have f12:=hbx.frozen
  have HBD:=jq hBd
  obtain⟨Am,cm,rfl,-,-⟩:=hbm
  clear hB3 hX hE hC cu hou hbr HBR hbx hBd hfit hm9 hf2
  gi_wp2_with fail
  refine⟨trivial,?_⟩
  rw[HE.out]
  refine⟨(fun h=>by cases h),?_⟩
  refine (CallsIn.inRound l (callsIn_wide.2 CU.out)).mono ?_
  rintro e w5 ⟨A5,n5,c5,rfl,hb5,h5⟩
  have hlt12:B12<Wd.heap.size:=HBO.out.lt
  have y12:Boxed w5 B12 22 (.slice Am m.length cm):=(hb5.block B12 hlt12).trans HBO.out
  have HX5:=jq (HX.out.grow hb5)
  have HK5:=jq (KeepsFrom.of_below (B:=w4.heap.size) hb5)
  have HB5:=jq (HBD.out.trans (hb5.mono (Nat.le_of_lt hlt12)))
  have HS5:=jq (show jmj B12 B13 (.slice A1 R.length cc1) Wd w5 from ⟨hb5.mono (Nat.le_of_lt hlt12),fun q=>q.grow hb5⟩)
  have HY12:=jq y12
  have z12:=y12.cell
  have g12:=y12.frozen
  have H5:=jq h5
  have hBs:B12<B13:=by have:=HE13.out;omega
  clear x5 x7 x8 x9 f8 f9 x11 x12 f12 hlk hfu CU h5 hb5 y12
  cases ou with
  | none =>
   have z8:=HX5.out.b8.cell 0
   have z9:=HX5.out.b9.cell 0
   have g8:=HX5.out.b8.frozen 0
   have g9:=HX5.out.b9.frozen 0
   simp only[jy] at z8 z9
   have hen:errN none=16:=rfl
   rw[hen]
   clear hen
   gi_wp2
   have k8:Blk (((w5.setCell ⟨B12,0,none⟩ (.slice A5 n5 c5)).setCell ⟨w.heap.size+1+1,0,none⟩ (.slice none 0 0)).setCell ⟨w.heap.size+1+1+1,0,none⟩ (.int .i64 16)) (w.heap.size+1+1) 22 [.slice none 0 0] :=
    (((HX5.out.b8.setOther ⟨B12,0,none⟩ (.slice A5 n5 c5) (by simp only;omega)).set_ 0 (.slice none 0 0))).setOther _ _ (by simp only;omega)
   have k9:Blk (((w5.setCell ⟨B12,0,none⟩ (.slice A5 n5 c5)).setCell ⟨w.heap.size+1+1,0,none⟩ (.slice none 0 0)).setCell ⟨w.heap.size+1+1+1,0,none⟩ (.int .i64 16)) (w.heap.size+1+1+1) 24 [.int .i64 16] :=
    (((HX5.out.b9.setOther ⟨B12,0,none⟩ (.slice A5 n5 c5) (by simp only;omega)).setOther ⟨w.heap.size+1+1,0,none⟩ (.slice none 0 0) (by simp only;omega))).set_ 0 (.int .i64 16)
   exact⟨HK5.out.trans (((KeepsOthers.setCell _ _ _).trans ((KeepsOthers.setCell _ _ _).trans (KeepsOthers.setCell _ _ _))).from _),⟨rfl,HBR2.out none HOU.out,k8,k9⟩,
    ((HX5.out.below.setCell (p:=⟨B12,0,none⟩) (by simp only;omega) _).setCell (p:=⟨w.heap.size+1+1,0,none⟩) (by simp only;omega) _).setCell (p:=⟨w.heap.size+1+1+1,0,none⟩) (by simp only;omega) _⟩
  | some y =>
   have hen:errN (some y)=0:=rfl
   rw[hen]
   clear hen
   gi_wp2
   exact⟨HK5.out.trans ((KeepsOthers.setCell _ _ _).from _),HS5.out.trans ⟨(Below.refl B12 w5).setCell (p:=⟨B12,0,none⟩) jw _,fun q=>q.setOther _ _ (by simp only;omega)⟩,
    ⟨_,y,Boxed.set_ HY12.out _,(H5.out y rfl).setBox z12 (fun c h=>by cases h) _,HUM.out y HOU.out.symm,HBR2.out (some y) HOU.out⟩,HB5.out.setCell (p:=⟨B12,0,none⟩) jw _⟩
 case done =>
  rintro D ys Wd hD rfl ⟨⟨vd,m,hbx,hbm,hfit,HBR⟩,hBd⟩ hK
  have hB3:Below w3.heap.size w3 Wd:=by rw[←HE12.out];exact hBd
  have HX:=jq (HX3.out.grow hB3)
  have x12:=hbx.cell
  have x8:=HX.out.b8.cell 0
  have x9:=HX.out.b9.cell 0
  have f8:=HX.out.b8.frozen 0
  have f9:=HX.out.b9.frozen 0
  simp only[jy] at x8 x9
  have HBM:=jq hbm
  have HK:=jq hK
  have hom:o=some m:=by rw[HO.out];exact HBR.out
  subst hom
  obtain⟨Am,cm,rfl,-,-⟩:=hbm
  clear hB3 hbx hBd hfit HBR hK HO
  gi_wp2
  have hK2:=((KeepsOthers.setCell Wd ⟨w.heap.size+1+1,0,none⟩ (.slice Am m.length cm)).trans (KeepsOthers.setCell _ ⟨w.heap.size+1+1+1,0,none⟩ (.int .i64 0))).same D _ HK.out rfl
  refine⟨by simp,.inl ⟨_,_,rfl,run_takeDeferred hK2,?_⟩⟩
  have k8:Blk ((Wd.setCell ⟨w.heap.size+1+1,0,none⟩ (.slice Am m.length cm)).setCell ⟨w.heap.size+1+1+1,0,none⟩ (.int .i64 0)) (w.heap.size+1+1) 22 [.slice Am m.length cm]:=(HX.out.b8.set_ 0 _).setOther _ _ (by simp only;omega)
  have k9:Blk ((Wd.setCell ⟨w.heap.size+1+1,0,none⟩ (.slice Am m.length cm)).setCell ⟨w.heap.size+1+1+1,0,none⟩ (.int .i64 0)) (w.heap.size+1+1+1) 24 [.int .i64 0]:=(HX.out.b9.setOther ⟨w.heap.size+1+1,0,none⟩ (.slice Am m.length cm) (by simp only;omega)).set_ 0 _
  have x9':=(HX.out.b9.setOther ⟨w.heap.size+1+1,0,none⟩ (.slice Am m.length cm) (by simp only;omega)).cell 0
  simp only[jy] at x9'
  have hm2:=(HBM.out.setBox x8 (fun c h=>by cases h) (.slice Am m.length cm)).setBox x9' (fun c h=>by cases h) (.int .i64 0)
  have hrow:∀ r,some D=some r→∃ o,((Wd.setCell ⟨w.heap.size+1+1,0,none⟩ (.slice Am m.length cm)).setCell ⟨w.heap.size+1+1+1,0,none⟩ (.int .i64 0)).heap[r]?=some o∧o.isCells=false:=fun r e=>by
   cases e
   exact⟨_,hK2,rfl⟩
  exact⟨_,qzj results8 rfl rfl (fun w=>run_isAgg_plain underlying22 rfl w) (fun w=>run_isAgg_plain underlying24 rfl w) (cell_kept (k8.cell 0) (grownBy_putObj' _ D (.deferred none)) hrow) (cell_kept (k9.cell 0) (grownBy_putObj' _ D (.deferred none)) hrow),
   ⟨Am,m.length,cm,rfl,((HX.out.below.setCell (p:=⟨w.heap.size+1+1,0,none⟩) (by simp only;omega) _).setCell (p:=⟨w.heap.size+1+1+1,0,none⟩) (by simp only;omega) _).trans (belowK_b (w:=w) jw _ D _ _ (by omega) hK2 rfl rfl),
    jjz.keptOwn hm2 (grownBy_putObj' _ D (.deferred none)) hrow⟩⟩
 case stop =>
  rintro D cc pre Wd hD hpre ⟨⟨rfl,hnone,hx8,hx9⟩,hB⟩ hK
  have hom:o=none:=by
   obtain⟨t,rfl⟩:=hpre
   rw[HO.out,List.map_append]
   exact qmf hnone
  subst hom
  have g8:=hx8.cell
  have g9:=hx9.cell
  gi_wp2
  refine⟨by simp,.inl ⟨_,_,rfl,run_takeDeferred hK,?_⟩⟩
  have hrow:∀ r,some D=some r→∃ o,Wd.heap[r]?=some o∧o.isCells=false:=fun r e=>by
   cases e
   exact⟨_,hK,rfl⟩
  exact⟨_,qzj results8 rfl rfl (fun w=>run_isAgg_plain underlying22 rfl w) (fun w=>run_isAgg_plain underlying24 rfl w) (cell_kept g8 (grownBy_putObj' _ D (.deferred none)) hrow) (cell_kept g9 (grownBy_putObj' _ D (.deferred none)) hrow),
   ⟨_,_,_,rfl,hB.trans (belowK_b (w:=w) jw Wd D _ _ (by omega) hK rfl rfl),nil_bytes _⟩⟩
theorem back_right {W:Nat} (hW:IsW W) (n:Nat) (hn:n≤10) (raw:Nat) (hraw:raw≤16777216) (mid:List UInt8) (v:Value) (w:World) (hv:jjz mid v w) (hf:Fits raw mid.length) :
  Calls prog 8 #[v,.int .i64 (W:Int),.int .i64 (n:Int),.int .i64 (raw:Int)] w (BackAns w (backC W n raw mid)):=by
 unfold backC
 by_cases hc:keepB (jjr n)=true∧mid.length≠raw
 ·rw[if_pos hc]
  exact back_early hW n hn raw hraw mid v w hv (by rcases hf with ⟨_,h⟩ | h <;> omega) hc.1 hc.2
 ·rw[if_neg hc]
  cases hk:keepB (jjr n) with
  | false=>exact back_any0 hW n hn raw hraw mid v w hv hf hk
  | true=>exact back_any1 hW n hn raw hraw mid v w hv hf hk (Decidable.byContradiction fun h=>hc ⟨hk,h⟩)
theorem back_of_go {W raw:Nat} (hW:IsW W) (hr:raw≤67108864):∀ (A:List Nat) (l m:List UInt8),(∀ s∈A.dropLast,1≤s∧s≤5)→goR W A l m→l.length=raw→jbp W raw A.reverse m=some l
 | [],l,m,_,h,_=>by cases h;rfl
 | [a],l,m,_,h,hl=>by
  obtain⟨k,h1,h2⟩:=h
  cases h2
  have hu:=undo_do hW (by omega) h1
  rw[hl] at hu
  simp only[List.reverse_cons,List.reverse_nil,List.nil_append,jbp,hu]
  rfl
 | a::b::A,l,m,hA,h,hl=>by
  obtain⟨k,h1,h2⟩:=h
  have hk:=qvj (hA a (by simp)) h1
  have hu:=undo_do hW (by omega) h1
  rw[hl] at hu
  have ih:=back_of_go hW hr (b::A) k m (fun s hs=>hA s (by simp only[List.dropLast_cons_cons,List.mem_cons];exact .inr hs)) h2 (by omega)
  rw[List.reverse_cons,qzv,ih]
  exact hu
theorem steps_drop (n:Nat):∀ s∈(jjr n).dropLast,1≤s∧s≤5:=by
 unfold jjr
 split <;> decide
theorem keep_all (n:Nat) (h:keepB (jjr n)=true):∀ s∈jjr n,1≤s∧s≤5:=fun s hs=>by
 have h1:=qqr n s hs
 simp only[keepB,Bool.and_eq_true,Bool.not_eq_true',decide_eq_false_iff_not] at h
 rcases (show s≤5∨s=6∨s=7 by omega) with h2 | rfl | rfl
 ·exact⟨h1.1,h2⟩
 ·exact absurd hs h.1
 ·exact absurd hs h.2
theorem backC_go {W:Nat} (hW:IsW W) (n:Nat) (l m:List UInt8) (hl:l.length≤67108864) (h:goR W (jjr n) l m):backC W n l.length m=some l:=by
 unfold backC
 rw[if_neg (fun hc=>hc.2 (qvm (keep_all n hc.1) h))]
 exact back_of_go hW hl _ l m (steps_drop n) h rfl
theorem doR_few {W s:Nat} (hW:IsW W) (hs:1≤s∧s≤7) {l m:List UInt8} (h:doR W s l m):m.length≤3*l.length+64:=by
 by_cases h5:s≤5
 ·have:=qvj ⟨hs.1,h5⟩ h
  omega
 ·unfold doR at h
  rcases h with ⟨rfl,_⟩ | ⟨rfl,_⟩ | ⟨rfl,_⟩ | ⟨rfl,_⟩ | ⟨rfl,_⟩ | ⟨rfl,Q,hQ,rfl⟩ | ⟨rfl,rfl⟩
  ·omega
  ·omega
  ·omega
  ·omega
  ·omega
  ·have h1:=hQ.1
   have h2:=jvh W l
   have h3:=jzh W l
   have h4:(jzt W l).length<W:=qxt hW.pos.1 l
   have hp:=hW.pos
   rw[List.length_append]
   by_cases h0:jqs W l=[]
   ·rw[h0,packB_nil] at h1
    simp at h1
    rw[h1]
    simp
    omega
   ·have h5:=(packB_len W _ h0).2
    rcases hW with rfl | rfl | rfl | rfl <;> omega
  ·have:=packL_le l
   omega
theorem goR_few {W:Nat} (hW:IsW W):∀ (A:List Nat) (l m:List UInt8),(∀ s∈A,1≤s∧s≤7)→(∀ s∈A.dropLast,1≤s∧s≤5)→goR W A l m→m.length≤3*l.length+64
 | [],l,m,_,_,h=>by cases h;omega
 | [a],l,m,h7,_,h=>by
  obtain⟨k,h1,h2⟩:=h
  cases h2
  exact doR_few hW (h7 a (by simp)) h1
 | a::b::A,l,m,h7,hA,h=>by
  obtain⟨k,h1,h2⟩:=h
  rw[←qvj (hA a (by simp)) h1]
  exact goR_few hW (b::A) k m (fun s hs=>h7 s (by simp only[List.mem_cons] at hs ⊢;exact .inr hs)) (fun s hs=>hA s (by simp only[List.dropLast_cons_cons,List.mem_cons];exact .inr hs)) h2
end
end Go.Proofs.YtflcmmeoppdhdaaGreatDoor
