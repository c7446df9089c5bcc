/- Contracts of gorilla's told and take: what lay laid is told. · Contract of gorilla's take: a word that is not 0. · Contract of gorilla's taken: the words that bits tell. · Contracts of gorilla's told .. -/
import Derived.Test.YtflcmmeoppdhdaaGreatDoorQ31
import Derived.Deep.RegionHeld3
set_option maxHeartbeats 4000000
set_option maxRecDepth 100000
namespace Go.Proofs.YtflcmmeoppdhdaaGreatDoor
open Tryz
section
open Go.RowKit
theorem bits_take (v n:Nat) (R:List Bool):(bitsOf v n++R).take n=bitsOf v n:=by
 have h:(bitsOf v n).length=n:=jjy v n
 rw[List.take_append_of_le_length (by omega),List.take_of_length_le (by omega)]
theorem bits_drop (v n:Nat) (R:List Bool):(bitsOf v n++R).drop n=R:=by
 have h:(bitsOf v n).length=n:=jjy v n
 rw[List.drop_append_of_le_length (by omega),List.drop_of_length_le (by omega),List.nil_append]
theorem jjw.lt {w:World} {g:Nat} {L:List Bool} {e:Nat} (h:jjw w g L e):g<w.heap.size:=by
 obtain⟨_,_,_,_,hb,_⟩:=h
 exact hb.lt
theorem qkr {w':World} {p:Nat} {tmps:Array Value} {fn:Func} {q r u:Tmp} (hres:fn.results=#[.tmp r,.cell q 104,.tmp u]) {v0 v1 v2 x y:Value} (hp:tmps.getD q undef=.pointer (some ⟨p,0,none⟩)) (hk:Blk w' p 104 [v0,v1,v2]) (hx:tmps.getD r undef=x) (hy:tmps.getD u undef=y) :
  (results fn tmps).run prog w'=.ok (.tuple #[x,.agg #[v0,v1,v2],y]) w':=by
 have hp':tmps[q]?.getD undef=.pointer (some ⟨p,0,none⟩):=by simpa using hp
 have hx':tmps[r]?.getD undef=x:=by simpa using hx
 have hy':tmps[u]?.getD undef=y:=by simpa using hy
 simp[results,hres,hp',hx',hy',asAddr,run_loadVar_row w' p 104 104 _ (0,0) _ hk underlying104 rfl win_size]
theorem gorB_len {W:Nat} (hW:1≤W) (X:List Nat):X.length≤(gorB W X).length:=by
 cases X with
 | nil=>simp[gorB]
 | cons x t =>
  have:=gorL_len W none t
  simp only[gorB,List.length_append,jjy,List.length_cons]
  omega
def lenOfV:Value→Nat
 | .slice _ n _=>n
 | _=>0
theorem rd_new2G (w:World) (o:Obj) (cs:Array Value) (t:TypeId):Rd ((w.alloc o).alloc (.cells cs t)) ((w.alloc o).alloc (.cells cs t)).heap.size (some ⟨w.heap.size+1,0,none⟩) cs.toList:=by
 rw[←World.size_alloc w o]
 exact Rd.new (w.alloc o) cs t
theorem one1 (v:Value) (h:v.oneCell'=true):∀ u∈#[v].toList,u.oneCell'=true:=by
 intro u hu
 simp at hu
 subst hu
 exact h
theorem rdr_grown {w w':World} {g B e:Nat} {ts:List TypeId} {L:List Bool} {o:Obj} (h:jjw w g L e) (ho:jjj B ts (w.alloc o) w') (h1:170∉ts) (h2:5∉ts):jjw w' g L e :=
 (h.only (jjj.of_below (B:=0) (ts:=[]) ((Below.refl w.heap.size w).alloc jw o)) (by simp) (by simp)).only ho h1 h2
theorem rdr_grown2 {w w':World} {g B e:Nat} {ts:List TypeId} {L:List Bool} {o o':Obj} (h:jjw w g L e) (ho:jjj B ts ((w.alloc o).alloc o') w') (h1:170∉ts) (h2:5∉ts):jjw w' g L e :=
 rdr_grown (rdr_grown (B:=0) (ts:=[]) h (jjj.refl _ _ _) (by simp) (by simp)) ho h1 h2
theorem blk_grown2 {w w':World} {g B:Nat} {t:TypeId} {ts:List TypeId} {cs:List Value} {o o':Obj} (h:Blk w g t cs) (ho:jjj B ts ((w.alloc o).alloc o') w') (h1:t∉ts):Blk w' g t cs :=
 ((h.alloc_ o).alloc_ o').only ho h1
theorem blk_new2 {w w':World} {B:Nat} {t:TypeId} {ts:List TypeId} {cs:List Value} {o':Obj} (ho:jjj B ts ((w.alloc (.cells cs.toArray t)).alloc o') w') (h1:t∉ts):Blk w' w.heap.size t cs :=
 (Blk.alloc_ (show Blk (w.alloc (.cells cs.toArray t)) w.heap.size t cs from heap_alloc_new w _) o').only ho h1
def qks (W:Nat) (s:List Bool × Nat):Nat × Nat × Nat :=
 if getV s 6+(getV (getS s 6) 6+1)≤8*W then (getV s 6,getV (getS s 6) 6+1,8*W - getV s 6 - (getV (getS s 6) 6+1)) else (0,0,0)
def toldS (s:List Bool × Nat):List Bool × Nat:=getS (getS s 6) 6
def tri (t:Nat × Nat × Nat):Value:=triV t.1 t.2.1 t.2.2
theorem told_pos {W:Nat} (hW8:W≤8) (g:Nat) (s:List Bool × Nat) (w:World) (hc:getV s 6+(getV (getS s 6) 6+1)≤8*W) (h:jjw w g s.1 s.2) :
  Calls prog 181 #[.pointer (some ⟨g,0,none⟩),.int .i64 (W:Int)] w fun e w'=>e=.returned (tri (qks W s))∧jjw w' g (toldS s).1 (toldS s).2∧jjj g [170] w w':=by
 unfold qks toldS tri
 obtain⟨a,ha0⟩:∃ a,a=getV s 6:=⟨_,rfl⟩
 obtain⟨m,hm0⟩:∃ m,m=getV (getS s 6) 6:=⟨_,rfl⟩
 have ha64:=jws s 6
 have hm64:=jws (getS s 6) 6
 rw[←ha0] at hc ha64 ⊢
 rw[←hm0] at hc hm64 ⊢
 rw[if_pos hc]
 unfold triV
 have hb1:Below w.heap.size w (w.alloc (.cells #[.int .i64 0,.int .i64 0,.int .i64 0] 104)):=(Below.refl _ _).alloc jw _
 have hk1:Blk (w.alloc (.cells #[.int .i64 0,.int .i64 0,.int .i64 0] 104)) w.heap.size 104 [.int .i64 0,.int .i64 0,.int .i64 0]:=heap_alloc_new w _
 have c1:=jzf g 6 s _ (h.only (jjj.of_below (B:=0) (ts:=[]) hb1) (by decide) (by decide)) (by decide)
 rw[←ha0] at c1
 have C1:=jq c1
 have HA:=jq hm0
 have HO1:=jq (jjj.of_below (B:=g) (ts:=[170]) hb1)
 have HK1:=jq hk1
 have ha:(a:Int)<64:=by omega
 have hm:(m:Int)<64:=by omega
 have hWi:(W:Int)≤8:=by omega
 have hg:=h.lt
 have hnn:¬ (8*(W:Int) - (a:Int) - ((m:Int)+1)<0):=by omega
 have hbe:8*(W:Int) - (a:Int) - ((m:Int)+1)=((8*W - a - (m+1):Nat):Int):=by omega
 have hm1:((m+1:Nat):Int)=(m:Int)+1:=by omega
 have HBE:=jq hbe
 have HM1:=jq hm1
 clear hbe hm1
 clear h hb1 hk1 hc ha0 hm0 c1 ha64 hm64
 go_enter func181,ntmps181
 go_wp2_with fail
 refine C1.out.mono ?_
 rintro e w2 ⟨rfl,hr2,ho2⟩
 have c2:=jzf g 6 _ _ hr2 (by decide)
 rw[←HA.out] at c2
 have C2:=jq c2
 have HO2:=jq (HO1.out.trans ho2)
 have HK2:=jq (HK1.out.only ho2 (by decide))
 clear hr2 ho2 C1 HO1 HK1 c2
 go_wp2_with fail
 refine C2.out.mono ?_
 rintro e w3 ⟨rfl,hr3,ho3⟩
 have HR3:=jq hr3
 have HO3:=jq (HO2.out.trans ho3)
 have HK3:=jq (HK2.out.only ho3 (by decide))
 have hk3:=HK3.out
 have d0:=hk3.cell 0
 have d1:=hk3.cell 1
 have d2:=hk3.cell 2
 simp only[jy,jx] at d0 d1 d2
 have f0:=hk3.frozen 0
 have f1:=hk3.frozen 1
 have f2:=hk3.frozen 2
 clear hr3 ho3 C2 HO2 HK2 hk3
 go_wp2_with fail
 rw[HBE.out,←HM1.out]
 exact bodyPost_ret (win_end results181 rfl (set3 HK3.out (.int .i64 (a:Int)) (.int .i64 ((m+1:Nat):Int)) (.int .i64 ((8*W - a - (m+1):Nat):Int)))) rfl
  ⟨rfl,HR3.out.only (jzz HK3.out (B:=0) (Nat.zero_le _) _ _ _) (by decide) (by decide),HO3.out.late (jqg jw _ _ _)⟩
theorem told_none {W:Nat} (hW8:W≤8) (g:Nat) (s:List Bool × Nat) (w:World) (hc:¬ getV s 6+(getV (getS s 6) 6+1)≤8*W) (h:jjw w g s.1 s.2) :
  Calls prog 181 #[.pointer (some ⟨g,0,none⟩),.int .i64 (W:Int)] w fun e w'=>e=.returned (tri (qks W s))∧jjw w' g (toldS s).1 (toldS s).2∧jjj g [170] w w':=by
 unfold qks toldS tri
 obtain⟨a,ha0⟩:∃ a,a=getV s 6:=⟨_,rfl⟩
 obtain⟨m,hm0⟩:∃ m,m=getV (getS s 6) 6:=⟨_,rfl⟩
 have ha64:=jws s 6
 have hm64:=jws (getS s 6) 6
 rw[←ha0] at hc ha64 ⊢
 rw[←hm0] at hc hm64 ⊢
 rw[if_neg hc]
 unfold triV
 have hb1:Below w.heap.size w (w.alloc (.cells #[.int .i64 0,.int .i64 0,.int .i64 0] 104)):=(Below.refl _ _).alloc jw _
 have hk1:Blk (w.alloc (.cells #[.int .i64 0,.int .i64 0,.int .i64 0] 104)) w.heap.size 104 [.int .i64 0,.int .i64 0,.int .i64 0]:=heap_alloc_new w _
 have c1:=jzf g 6 s _ (h.only (jjj.of_below (B:=0) (ts:=[]) hb1) (by decide) (by decide)) (by decide)
 rw[←ha0] at c1
 have C1:=jq c1
 have HA:=jq hm0
 have HO1:=jq (jjj.of_below (B:=g) (ts:=[170]) hb1)
 have HK1:=jq hk1
 have ha:(a:Int)<64:=by omega
 have hm:(m:Int)<64:=by omega
 have hWi:(W:Int)≤8:=by omega
 have hg:=h.lt
 have hnn:8*(W:Int) - (a:Int) - ((m:Int)+1)<0:=by omega
 clear h hb1 hk1 hc ha0 hm0 c1 ha64 hm64
 go_enter func181,ntmps181
 go_wp2_with fail
 refine C1.out.mono ?_
 rintro e w2 ⟨rfl,hr2,ho2⟩
 have c2:=jzf g 6 _ _ hr2 (by decide)
 rw[←HA.out] at c2
 have C2:=jq c2
 have HO2:=jq (HO1.out.trans ho2)
 have HK2:=jq (HK1.out.only ho2 (by decide))
 clear hr2 ho2 C1 HO1 HK1 c2
 go_wp2_with fail
 refine C2.out.mono ?_
 rintro e w3 ⟨rfl,hr3,ho3⟩
 have HR3:=jq hr3
 have HO3:=jq (HO2.out.trans ho3)
 have HK3:=jq (HK2.out.only ho3 (by decide))
 have hk3:=HK3.out
 have d0:=hk3.cell 0
 have d1:=hk3.cell 1
 have d2:=hk3.cell 2
 simp only[jy,jx] at d0 d1 d2
 have f0:=hk3.frozen 0
 have f1:=hk3.frozen 1
 have f2:=hk3.frozen 2
 clear hr3 ho3 C2 HO2 HK2 hk3
 go_wp2_with fail
 exact bodyPost_ret (win_end results181 rfl (set3 HK3.out (.int .i64 0) (.int .i64 0) (.int .i64 0))) rfl
  ⟨rfl,HR3.out.only (jzz HK3.out (B:=0) (Nat.zero_le _) _ _ _) (by decide) (by decide),HO3.out.late (jqg jw _ _ _)⟩
theorem told_st {W:Nat} (hW8:W≤8) (g:Nat) (s:List Bool × Nat) (w:World) (h:jjw w g s.1 s.2) :
  Calls prog 181 #[.pointer (some ⟨g,0,none⟩),.int .i64 (W:Int)] w fun e w'=>e=.returned (tri (qks W s))∧jjw w' g (toldS s).1 (toldS s).2∧jjj g [170] w w':=by
 by_cases hc:getV s 6+(getV (getS s 6) 6+1)≤8*W
 ·exact told_pos hW8 g s w hc h
 ·exact told_none hW8 g s w hc h
theorem tkS_al {W:Nat} (a0 m0 b0:Nat) (g:Nat) (s s1:List Bool × Nat) (w:World) (h:jjw w g s.1 s.2) (h1:getS s 1=s1) (hv1:getV s 1=0) :
  Calls prog 119 #[.agg #[.int .i64 (a0:Int),.int .i64 (m0:Int),.int .i64 (b0:Int)],.pointer (some ⟨g,0,none⟩),.int .i64 (W:Int)] w fun e w'=>e=.returned (.tuple #[.int .u64 0,.agg #[.int .i64 (a0:Int),.int .i64 (m0:Int),.int .i64 (b0:Int)],.bool (decide (s1.2=0))])∧jjw w' g s1.1 s1.2∧jjj g [170] w w':=by
 have C1:=jq fun (w0:World) (hh:jjw w0 g s.1 s.2)=>(show Calls prog 118 #[.pointer (some ⟨g,0,none⟩),.int .i64 1] w0 fun e' w'=>e'=.returned (.int .u64 0)∧jjw w' g s1.1 s1.2∧jjj g [170] w0 w' from by
  have:=jzf g 1 s w0 hh (by decide)
  rw[h1,hv1] at this
  exact this)
 have hg:=h.lt
 have hb1:Below w.heap.size w ((w.alloc (.cells #[.int .i64 (a0:Int),.int .i64 (m0:Int),.int .i64 (b0:Int)] 104)).alloc (.cells #[.int .i64 0,.int .i64 0,.int .i64 0] 104)):=((Below.refl _ _).alloc jw _).alloc (by simp) _
 have hk1:Blk ((w.alloc (.cells #[.int .i64 (a0:Int),.int .i64 (m0:Int),.int .i64 (b0:Int)] 104)).alloc (.cells #[.int .i64 0,.int .i64 0,.int .i64 0] 104)) w.heap.size 104 [.int .i64 (a0:Int),.int .i64 (m0:Int),.int .i64 (b0:Int)]:=Blk.alloc_ (heap_alloc_new w _) _
 have hk2:Blk ((w.alloc (.cells #[.int .i64 (a0:Int),.int .i64 (m0:Int),.int .i64 (b0:Int)] 104)).alloc (.cells #[.int .i64 0,.int .i64 0,.int .i64 0] 104)) (w.heap.size+1) 104 [.int .i64 0,.int .i64 0,.int .i64 0]:=by
  have:=heap_alloc_new (w.alloc (.cells #[.int .i64 (a0:Int),.int .i64 (m0:Int),.int .i64 (b0:Int)] 104)) (.cells #[.int .i64 0,.int .i64 0,.int .i64 0] 104)
  simpa [Blk] using this
 have HR:=jq (h.only (jjj.of_below (B:=0) (ts:=[]) hb1) (by decide) (by decide))
 have HO:=jq (jjj.of_below (B:=g) (ts:=[170]) hb1)
 have L1:=jq hk1
 have L2:=jq hk2
 clear h hb1 hk1 hk2 h1 hv1
 go_enter func119,ntmps119
 go_wp2_with fail
 refine (C1.out _ HR.out).mono ?_
 rintro e w2 ⟨rfl,hrn,hon⟩
 have HRn:=jq hrn
 have HOn:=jq (HO.out.trans hon)
 have L1n:=jq (L1.out.only hon (by decide))
 have L2n:=jq (L2.out.only hon (by decide))
 clear hrn hon HR HO L1 L2
 have HR:=HRn
 have HO:=HOn
 have L1:=L1n
 have L2:=L2n
 clear HRn HOn L1n L2n
 have hk1:=L1.out
 have hk2:=L2.out
 have c0:=hk1.cell 0
 have c1:=hk1.cell 1
 have c2:=hk1.cell 2
 simp only[jy,jx] at c0 c1 c2
 have d0:=hk2.cell 0
 have d1:=hk2.cell 1
 have d2:=hk2.cell 2
 simp only[jy,jx] at d0 d1 d2
 have df0:=hk2.frozen 0
 have df1:=hk2.frozen 1
 have df2:=hk2.frozen 2
 clear hk1 hk2
 have hso:=jzz L2.out (B:=0) (Nat.zero_le _) (.int .i64 (a0:Int)) (.int .i64 (m0:Int)) (.int .i64 (b0:Int))
 have HK:=jq (set3 L2.out (.int .i64 (a0:Int)) (.int .i64 (m0:Int)) (.int .i64 (b0:Int))).drew_
 have HF:=jq ((HR.out.only hso (by decide) (by decide)).only (jjj.refl 0 [] _).drew (by simp) (by simp))
 have HOF:=jq (HO.out.late (jqg (B:=w.heap.size) (g:=w.heap.size+1) (by omega) (.int .i64 (a0:Int)) (.int .i64 (m0:Int)) (.int .i64 (b0:Int)))).drew
 clear hso
 have HRD:Hid (jjw w2.drew g s1.1 s1.2):=HR.out.only (jjj.refl 0 [] w2).drew (by simp) (by simp)
 obtain⟨E,hE⟩:∃ E,E=s1.2:=⟨_,rfl⟩
 have HE:=jq hE
 have ce:=qxs s1.2 HRD.out
 rw[←hE] at ce
 have CE:=jq ce
 clear hE ce
 obtain⟨ok,hok⟩:∃ ok,ok=decide (E=0):=⟨_,rfl⟩
 have hok1:((E:Int)==0)=ok:=by rw[hok];cases E <;> rfl
 have hok2:decide ((E:Int)=0)=ok:=by rw[hok];cases E <;> rfl
 have HOK:=jq hok
 clear hok
 go_wp2_with fail
 go_region_with (go_at_call 172;refine CE.out.mono ?_;rintro e w7 ⟨rfl,rfl⟩)
 all_goals
  go_wp2
  exact bodyPost_ret (qkr (x:=.int .u64 0) (y:=.bool ok) results119 rfl HK.out rfl rfl) rfl ⟨by rw[HOK.out,HE.out],HF.out,HOF.out⟩
theorem tkS_no {W:Nat} (g:Nat) (s s1 s2:List Bool × Nat) (w:World) (h:jjw w g s.1 s.2) (h1:getS s 1=s1) (hv1:getV s 1=1) (h2:getS s1 1=s2) (hv2:getV s1 1=0) :
  Calls prog 119 #[.agg #[.int .i64 0,.int .i64 0,.int .i64 0],.pointer (some ⟨g,0,none⟩),.int .i64 (W:Int)] w fun e w'=>e=.returned (.tuple #[.int .u64 0,.agg #[.int .i64 0,.int .i64 0,.int .i64 0],.bool false])∧jjw w' g s2.1 s2.2∧jjj g [170] w w':=by
 have C1:=jq fun (w0:World) (hh:jjw w0 g s.1 s.2)=>(show Calls prog 118 #[.pointer (some ⟨g,0,none⟩),.int .i64 1] w0 fun e' w'=>e'=.returned (.int .u64 1)∧jjw w' g s1.1 s1.2∧jjj g [170] w0 w' from by
  have:=jzf g 1 s w0 hh (by decide)
  rw[h1,hv1] at this
  exact this)
 have C2:=jq fun (w0:World) (hh:jjw w0 g s1.1 s1.2)=>(show Calls prog 118 #[.pointer (some ⟨g,0,none⟩),.int .i64 1] w0 fun e' w'=>e'=.returned (.int .u64 0)∧jjw w' g s2.1 s2.2∧jjj g [170] w0 w' from by
  have:=jzf g 1 s1 w0 hh (by decide)
  rw[h2,hv2] at this
  exact this)
 have hg:=h.lt
 have hb1:Below w.heap.size w ((w.alloc (.cells #[.int .i64 0,.int .i64 0,.int .i64 0] 104)).alloc (.cells #[.int .i64 0,.int .i64 0,.int .i64 0] 104)):=((Below.refl _ _).alloc jw _).alloc (by simp) _
 have hk1:Blk ((w.alloc (.cells #[.int .i64 0,.int .i64 0,.int .i64 0] 104)).alloc (.cells #[.int .i64 0,.int .i64 0,.int .i64 0] 104)) w.heap.size 104 [.int .i64 0,.int .i64 0,.int .i64 0]:=Blk.alloc_ (heap_alloc_new w _) _
 have hk2:Blk ((w.alloc (.cells #[.int .i64 0,.int .i64 0,.int .i64 0] 104)).alloc (.cells #[.int .i64 0,.int .i64 0,.int .i64 0] 104)) (w.heap.size+1) 104 [.int .i64 0,.int .i64 0,.int .i64 0]:=by
  have:=heap_alloc_new (w.alloc (.cells #[.int .i64 0,.int .i64 0,.int .i64 0] 104)) (.cells #[.int .i64 0,.int .i64 0,.int .i64 0] 104)
  simpa [Blk] using this
 have HR:=jq (h.only (jjj.of_below (B:=0) (ts:=[]) hb1) (by decide) (by decide))
 have HO:=jq (jjj.of_below (B:=g) (ts:=[170]) hb1)
 have L1:=jq hk1
 have L2:=jq hk2
 clear h hb1 hk1 hk2 h1 hv1 h2 hv2
 go_enter func119,ntmps119
 go_wp2_with fail
 refine (C1.out _ HR.out).mono ?_
 rintro e w2 ⟨rfl,hrn,hon⟩
 have HRn:=jq hrn
 have HOn:=jq (HO.out.trans hon)
 have L1n:=jq (L1.out.only hon (by decide))
 have L2n:=jq (L2.out.only hon (by decide))
 clear hrn hon HR HO L1 L2
 have HR:=HRn
 have HO:=HOn
 have L1:=L1n
 have L2:=L2n
 clear HRn HOn L1n L2n
 go_wp2_with fail
 refine (C2.out _ HR.out).mono ?_
 rintro e w3 ⟨rfl,hrn,hon⟩
 have HRn:=jq hrn
 have HOn:=jq (HO.out.trans hon)
 have L1n:=jq (L1.out.only hon (by decide))
 have L2n:=jq (L2.out.only hon (by decide))
 clear hrn hon HR HO L1 L2
 have HR:=HRn
 have HO:=HOn
 have L1:=L1n
 have L2:=L2n
 clear HRn HOn L1n L2n
 have hk1:=L1.out
 have hk2:=L2.out
 have c0:=hk1.cell 0
 have c1:=hk1.cell 1
 have c2:=hk1.cell 2
 simp only[jy,jx] at c0 c1 c2
 have d0:=hk2.cell 0
 have d1:=hk2.cell 1
 have d2:=hk2.cell 2
 simp only[jy,jx] at d0 d1 d2
 have df0:=hk2.frozen 0
 have df1:=hk2.frozen 1
 have df2:=hk2.frozen 2
 clear hk1 hk2
 have hso:=jzz L2.out (B:=0) (Nat.zero_le _) (.int .i64 0) (.int .i64 0) (.int .i64 0)
 have HK:=jq (set3 L2.out (.int .i64 0) (.int .i64 0) (.int .i64 0)).drew_
 have HF:=jq ((HR.out.only hso (by decide) (by decide)).only (jjj.refl 0 [] _).drew (by simp) (by simp))
 have HOF:=jq (HO.out.late (jqg (B:=w.heap.size) (g:=w.heap.size+1) (by omega) (.int .i64 0) (.int .i64 0) (.int .i64 0))).drew
 clear hso HR HO L1 L2
 go_wp2_with fail
 go_region_with fail
 all_goals
  go_wp2
  exact bodyPost_ret (qkr (x:=.int .u64 0) (y:=.bool false) results119 rfl HK.out rfl rfl) rfl ⟨rfl,HF.out,HOF.out⟩
theorem tkS_in {W:Nat} (a0 m0 b0:Nat) (g:Nat) (v:Nat) (s s1 s2 s3:List Bool × Nat) (w:World) (h:jjw w g s.1 s.2) (h1:getS s 1=s1) (hv1:getV s 1=1) (h2:getS s1 1=s2) (hv2:getV s1 1=0) (hm0:0<m0) (hmb:m0+b0≤64) (h3:getS s2 m0=s3) (hv3:getV s2 m0=v) :
  Calls prog 119 #[.agg #[.int .i64 (a0:Int),.int .i64 (m0:Int),.int .i64 (b0:Int)],.pointer (some ⟨g,0,none⟩),.int .i64 (W:Int)] w fun e w'=>e=.returned (.tuple #[.int .u64 ((v*2^b0:Nat):Int),.agg #[.int .i64 (a0:Int),.int .i64 (m0:Int),.int .i64 (b0:Int)],.bool (decide (s3.2=0))])∧jjw w' g s3.1 s3.2∧jjj g [170] w w':=by
 have C1:=jq fun (w0:World) (hh:jjw w0 g s.1 s.2)=>(show Calls prog 118 #[.pointer (some ⟨g,0,none⟩),.int .i64 1] w0 fun e' w'=>e'=.returned (.int .u64 1)∧jjw w' g s1.1 s1.2∧jjj g [170] w0 w' from by
  have:=jzf g 1 s w0 hh (by decide)
  rw[h1,hv1] at this
  exact this)
 have C2:=jq fun (w0:World) (hh:jjw w0 g s1.1 s1.2)=>(show Calls prog 118 #[.pointer (some ⟨g,0,none⟩),.int .i64 1] w0 fun e' w'=>e'=.returned (.int .u64 0)∧jjw w' g s2.1 s2.2∧jjj g [170] w0 w' from by
  have:=jzf g 1 s1 w0 hh (by decide)
  rw[h2,hv2] at this
  exact this)
 have hvlt:v<2^m0:=by rw[←hv3];exact jws _ _
 obtain⟨x,hx⟩:∃ x,x=v*2^b0:=⟨_,rfl⟩
 have hsh:IntKind.u64.wrap ((v:Int)*2^b0)=(x:Int):=by
  have e:(v:Int)*2^b0=((v*2^b0:Nat):Int):=by rw[Int.natCast_mul,Int.natCast_pow];rfl
  have e2:v*2^b0<2^m0*2^b0:=Nat.mul_lt_mul_of_pos_right hvlt (Nat.two_pow_pos _)
  have e3:2^m0*2^b0≤2^64:=by rw[←Nat.pow_add];exact Nat.pow_le_pow_right (by decide) hmb
  rw[e,←hx,IntKind.wrap_u64]
  omega
 rw[←hx]
 have hm64:m0≤64:=by omega
 have hb64:b0<64:=by omega
 have CV:=jq fun (w0:World) (hh:jjw w0 g s2.1 s2.2)=>(show Calls prog 118 #[.pointer (some ⟨g,0,none⟩),.int .i64 (m0:Int)] w0 fun e' w'=>e'=.returned (.int .u64 (v:Int))∧jjw w' g s3.1 s3.2∧jjj g [170] w0 w' from by
  have:=jzf g m0 s2 w0 hh hm64
  rw[hv3,h3] at this
  exact this)
 have HSH:=jq hsh
 clear hsh hx hvlt hmb
 have hg:=h.lt
 have hb1:Below w.heap.size w ((w.alloc (.cells #[.int .i64 (a0:Int),.int .i64 (m0:Int),.int .i64 (b0:Int)] 104)).alloc (.cells #[.int .i64 0,.int .i64 0,.int .i64 0] 104)):=((Below.refl _ _).alloc jw _).alloc (by simp) _
 have hk1:Blk ((w.alloc (.cells #[.int .i64 (a0:Int),.int .i64 (m0:Int),.int .i64 (b0:Int)] 104)).alloc (.cells #[.int .i64 0,.int .i64 0,.int .i64 0] 104)) w.heap.size 104 [.int .i64 (a0:Int),.int .i64 (m0:Int),.int .i64 (b0:Int)]:=Blk.alloc_ (heap_alloc_new w _) _
 have hk2:Blk ((w.alloc (.cells #[.int .i64 (a0:Int),.int .i64 (m0:Int),.int .i64 (b0:Int)] 104)).alloc (.cells #[.int .i64 0,.int .i64 0,.int .i64 0] 104)) (w.heap.size+1) 104 [.int .i64 0,.int .i64 0,.int .i64 0]:=by
  have:=heap_alloc_new (w.alloc (.cells #[.int .i64 (a0:Int),.int .i64 (m0:Int),.int .i64 (b0:Int)] 104)) (.cells #[.int .i64 0,.int .i64 0,.int .i64 0] 104)
  simpa [Blk] using this
 have HR:=jq (h.only (jjj.of_below (B:=0) (ts:=[]) hb1) (by decide) (by decide))
 have HO:=jq (jjj.of_below (B:=g) (ts:=[170]) hb1)
 have L1:=jq hk1
 have L2:=jq hk2
 clear h hb1 hk1 hk2 h1 hv1 h2 hv2 h3 hv3
 go_enter func119,ntmps119
 go_wp2_with fail
 refine (C1.out _ HR.out).mono ?_
 rintro e w2 ⟨rfl,hrn,hon⟩
 have HRn:=jq hrn
 have HOn:=jq (HO.out.trans hon)
 have L1n:=jq (L1.out.only hon (by decide))
 have L2n:=jq (L2.out.only hon (by decide))
 clear hrn hon HR HO L1 L2
 have HR:=HRn
 have HO:=HOn
 have L1:=L1n
 have L2:=L2n
 clear HRn HOn L1n L2n
 go_wp2_with fail
 refine (C2.out _ HR.out).mono ?_
 rintro e w3 ⟨rfl,hrn,hon⟩
 have HRn:=jq hrn
 have HOn:=jq (HO.out.trans hon)
 have L1n:=jq (L1.out.only hon (by decide))
 have L2n:=jq (L2.out.only hon (by decide))
 clear hrn hon HR HO L1 L2
 have HR:=HRn
 have HO:=HOn
 have L1:=L1n
 have L2:=L2n
 clear HRn HOn L1n L2n
 have hk1:=L1.out
 have c0:=hk1.cell 0
 have c1:=hk1.cell 1
 have c2:=hk1.cell 2
 simp only[jy,jx] at c0 c1 c2
 clear hk1
 go_wp2_with fail
 have S1:=jq c1
 have S2:=jq c2
 clear c0 c1 c2
 have HRA:Hid (jjw w3.drew g s2.1 s2.2):=HR.out.only (jjj.refl 0 [] w3).drew (by simp) (by simp)
 have C:=jq (CV.out _ HRA.out)
 clear HRA HR
 go_region_held3 (fun w'=>w'.cell? ⟨w.heap.size,1,none⟩=some (.int .i64 (m0:Int))∧w'.cell? ⟨w.heap.size,2,none⟩=some (.int .i64 (b0:Int))) (first | exact⟨S1.out,S2.out⟩ | exact⟨T1.out,T2.out⟩)
  (first
   | (go_at_call 118;refine C.out.mono ?_;rintro e w6 ⟨rfl,hr6,ho6⟩;have HR:=jq hr6;have HOx:=jq (HO.out.drew.trans ho6);have M1:=jq (L1.out.drew_.only ho6 (by decide));have M2:=jq (L2.out.drew_.only ho6 (by decide));have t1:=M1.out.cell 1;have t2:=M1.out.cell 2;simp only[jy,jx] at t1 t2;have T1:=jq t1;have T2:=jq t2;clear hr6 ho6 t1 t2))
 simp only[HSH.out]
 rename_i hHeld
 clear hHeld S1 S2 T1 T2 C L1 L2 HO
 have hk1:=M1.out
 have hk2:=M2.out
 have c0:=hk1.cell 0
 have c1:=hk1.cell 1
 have c2:=hk1.cell 2
 simp only[jy,jx] at c0 c1 c2
 have d0:=hk2.cell 0
 have d1:=hk2.cell 1
 have d2:=hk2.cell 2
 simp only[jy,jx] at d0 d1 d2
 have df0:=hk2.frozen 0
 have df1:=hk2.frozen 1
 have df2:=hk2.frozen 2
 clear hk1 hk2
 have hso:=jzz M2.out (B:=0) (Nat.zero_le _) (.int .i64 (a0:Int)) (.int .i64 (m0:Int)) (.int .i64 (b0:Int))
 have HK:=jq (set3 M2.out (.int .i64 (a0:Int)) (.int .i64 (m0:Int)) (.int .i64 (b0:Int))).drew_
 have HF:=jq ((HR.out.only hso (by decide) (by decide)).only (jjj.refl 0 [] _).drew (by simp) (by simp))
 have HOF:=jq (HOx.out.late (jqg (B:=w.heap.size) (g:=w.heap.size+1) (by omega) (.int .i64 (a0:Int)) (.int .i64 (m0:Int)) (.int .i64 (b0:Int)))).drew
 clear hso
 have HRD:Hid (jjw w6.drew g s3.1 s3.2):=HR.out.only (jjj.refl 0 [] w6).drew (by simp) (by simp)
 obtain⟨E,hE⟩:∃ E,E=s3.2:=⟨_,rfl⟩
 have HE:=jq hE
 have ce:=qxs s3.2 HRD.out
 rw[←hE] at ce
 have CE:=jq ce
 clear hE ce
 obtain⟨ok,hok⟩:∃ ok,ok=decide (E=0):=⟨_,rfl⟩
 have hok1:((E:Int)==0)=ok:=by rw[hok];cases E <;> rfl
 have hok2:decide ((E:Int)=0)=ok:=by rw[hok];cases E <;> rfl
 have HOK:=jq hok
 clear hok
 go_wp2_with fail
 go_region_with (go_at_call 172;refine CE.out.mono ?_;rintro e w7 ⟨rfl,rfl⟩)
 all_goals
  go_wp2
  exact bodyPost_ret (qkr (x:=.int .u64 (x:Int)) (y:=.bool ok) results119 rfl HK.out rfl rfl) rfl ⟨by rw[HOK.out,HE.out],HF.out,HOF.out⟩
theorem tkS_tn {W:Nat} (hW8:W≤8) (a0 m0 b0:Nat) (g:Nat) (s s1 s2 s3:List Bool × Nat) (w:World) (h:jjw w g s.1 s.2) (h1:getS s 1=s1) (hv1:getV s 1=1) (h2:getS s1 1=s2) (hv2:getV s1 1=1) (hT:qks W s2=(0,0,0)) (hs3:toldS s2=s3) :
  Calls prog 119 #[.agg #[.int .i64 (a0:Int),.int .i64 (m0:Int),.int .i64 (b0:Int)],.pointer (some ⟨g,0,none⟩),.int .i64 (W:Int)] w fun e w'=>e=.returned (.tuple #[.int .u64 0,.agg #[.int .i64 0,.int .i64 0,.int .i64 0],.bool false])∧jjw w' g s3.1 s3.2∧jjj g [170] w w':=by
 have C1:=jq fun (w0:World) (hh:jjw w0 g s.1 s.2)=>(show Calls prog 118 #[.pointer (some ⟨g,0,none⟩),.int .i64 1] w0 fun e' w'=>e'=.returned (.int .u64 1)∧jjw w' g s1.1 s1.2∧jjj g [170] w0 w' from by
  have:=jzf g 1 s w0 hh (by decide)
  rw[h1,hv1] at this
  exact this)
 have C2:=jq fun (w0:World) (hh:jjw w0 g s1.1 s1.2)=>(show Calls prog 118 #[.pointer (some ⟨g,0,none⟩),.int .i64 1] w0 fun e' w'=>e'=.returned (.int .u64 1)∧jjw w' g s2.1 s2.2∧jjj g [170] w0 w' from by
  have:=jzf g 1 s1 w0 hh (by decide)
  rw[h2,hv2] at this
  exact this)
 have CT:=jq fun (w0:World) (hh:jjw w0 g s2.1 s2.2)=>(show Calls prog 181 #[.pointer (some ⟨g,0,none⟩),.int .i64 (W:Int)] w0 fun e' w'=>e'=.returned (.agg #[.int .i64 0,.int .i64 0,.int .i64 0])∧jjw w' g s3.1 s3.2∧jjj g [170] w0 w' from by
  have:=told_st hW8 g s2 w0 hh
  rw[hT,hs3] at this
  exact this)
 have hg:=h.lt
 have hb1:Below w.heap.size w ((w.alloc (.cells #[.int .i64 (a0:Int),.int .i64 (m0:Int),.int .i64 (b0:Int)] 104)).alloc (.cells #[.int .i64 0,.int .i64 0,.int .i64 0] 104)):=((Below.refl _ _).alloc jw _).alloc (by simp) _
 have hk1:Blk ((w.alloc (.cells #[.int .i64 (a0:Int),.int .i64 (m0:Int),.int .i64 (b0:Int)] 104)).alloc (.cells #[.int .i64 0,.int .i64 0,.int .i64 0] 104)) w.heap.size 104 [.int .i64 (a0:Int),.int .i64 (m0:Int),.int .i64 (b0:Int)]:=Blk.alloc_ (heap_alloc_new w _) _
 have hk2:Blk ((w.alloc (.cells #[.int .i64 (a0:Int),.int .i64 (m0:Int),.int .i64 (b0:Int)] 104)).alloc (.cells #[.int .i64 0,.int .i64 0,.int .i64 0] 104)) (w.heap.size+1) 104 [.int .i64 0,.int .i64 0,.int .i64 0]:=by
  have:=heap_alloc_new (w.alloc (.cells #[.int .i64 (a0:Int),.int .i64 (m0:Int),.int .i64 (b0:Int)] 104)) (.cells #[.int .i64 0,.int .i64 0,.int .i64 0] 104)
  simpa [Blk] using this
 have HR:=jq (h.only (jjj.of_below (B:=0) (ts:=[]) hb1) (by decide) (by decide))
 have HO:=jq (jjj.of_below (B:=g) (ts:=[170]) hb1)
 have L1:=jq hk1
 have L2:=jq hk2
 clear h hb1 hk1 hk2 h1 hv1 h2 hv2 hT hs3 hW8
 go_enter func119,ntmps119
 go_wp2_with fail
 refine (C1.out _ HR.out).mono ?_
 rintro e w2 ⟨rfl,hrn,hon⟩
 have HRn:=jq hrn
 have HOn:=jq (HO.out.trans hon)
 have L1n:=jq (L1.out.only hon (by decide))
 have L2n:=jq (L2.out.only hon (by decide))
 clear hrn hon HR HO L1 L2
 have HR:=HRn
 have HO:=HOn
 have L1:=L1n
 have L2:=L2n
 clear HRn HOn L1n L2n
 go_wp2_with fail
 refine (C2.out _ HR.out).mono ?_
 rintro e w3 ⟨rfl,hrn,hon⟩
 have HRn:=jq hrn
 have HOn:=jq (HO.out.trans hon)
 have L1n:=jq (L1.out.only hon (by decide))
 have L2n:=jq (L2.out.only hon (by decide))
 clear hrn hon HR HO L1 L2
 have HR:=HRn
 have HO:=HOn
 have L1:=L1n
 have L2:=L2n
 clear HRn HOn L1n L2n
 go_wp2_with fail
 refine (CT.out _ HR.out).mono ?_
 rintro e w4 ⟨rfl,hrn,hon⟩
 have HRn:=jq hrn
 have HOn:=jq (HO.out.trans hon)
 have L1n:=jq (L1.out.only hon (by decide))
 have L2n:=jq (L2.out.only hon (by decide))
 clear hrn hon HR HO L1 L2
 have HR:=HRn
 have HO:=HOn
 have L1:=L1n
 have L2:=L2n
 clear HRn HOn L1n L2n
 have hk1:=L1.out
 have d0:=hk1.cell 0
 have d1:=hk1.cell 1
 have d2:=hk1.cell 2
 simp only[jy,jx] at d0 d1 d2
 have df0:=hk1.frozen 0
 have df1:=hk1.frozen 1
 have df2:=hk1.frozen 2
 clear hk1
 go_wp2_with fail
 clear d0 d1 d2 df0 df1 df2
 have HRn:=jq (HR.out.only (jzz L1.out (B:=0) (Nat.zero_le _) (.int .i64 0) (.int .i64 0) (.int .i64 0)) (by decide) (by decide))
 have HOn:=jq (HO.out.late (jqg (B:=w.heap.size) (g:=w.heap.size) jw (.int .i64 0) (.int .i64 0) (.int .i64 0)))
 have L1n:=jq (set3 L1.out (.int .i64 0) (.int .i64 0) (.int .i64 0))
 have L2n:=jq (qbs L2.out (g:=w.heap.size) (by omega) (.int .i64 0) (.int .i64 0) (.int .i64 0))
 clear HR HO L1 L2
 generalize ((w4.setCell ⟨w.heap.size,0,none⟩ (.int .i64 0)).setCell ⟨w.heap.size,1,none⟩ (.int .i64 0)).setCell ⟨w.heap.size,2,none⟩ (.int .i64 0)=w5 at *
 have HR:=HRn
 have HO:=HOn
 have L1:=L1n
 have L2:=L2n
 clear HRn HOn L1n L2n
 have hk1:=L1.out
 have hk2:=L2.out
 have c0:=hk1.cell 0
 have c1:=hk1.cell 1
 have c2:=hk1.cell 2
 simp only[jy,jx] at c0 c1 c2
 have d0:=hk2.cell 0
 have d1:=hk2.cell 1
 have d2:=hk2.cell 2
 simp only[jy,jx] at d0 d1 d2
 have df0:=hk2.frozen 0
 have df1:=hk2.frozen 1
 have df2:=hk2.frozen 2
 clear hk1 hk2
 have hso:=jzz L2.out (B:=0) (Nat.zero_le _) (.int .i64 0) (.int .i64 0) (.int .i64 0)
 have HK:=jq (set3 L2.out (.int .i64 0) (.int .i64 0) (.int .i64 0)).drew_
 have HF:=jq ((HR.out.only hso (by decide) (by decide)).only (jjj.refl 0 [] _).drew (by simp) (by simp))
 have HOF:=jq (HO.out.late (jqg (B:=w.heap.size) (g:=w.heap.size+1) (by omega) (.int .i64 0) (.int .i64 0) (.int .i64 0))).drew
 clear hso HR HO L1 L2
 go_wp2_with fail
 go_region_with fail
 all_goals
  go_wp2
  exact bodyPost_ret (qkr (x:=.int .u64 0) (y:=.bool false) results119 rfl HK.out rfl rfl) rfl ⟨rfl,HF.out,HOF.out⟩
theorem tkS_tw {W:Nat} (hW8:W≤8) (a0 m0 b0:Nat) (g:Nat) (a m b v:Nat) (s s1 s2 s3 s4:List Bool × Nat) (w:World) (h:jjw w g s.1 s.2) (h1:getS s 1=s1) (hv1:getV s 1=1) (h2:getS s1 1=s2) (hv2:getV s1 1=1) (hT:qks W s2=(a,m,b)) (hs3:toldS s2=s3) (hm0:0<m) (hmb:m+b≤64) (h3:getS s3 m=s4) (hv3:getV s3 m=v) :
  Calls prog 119 #[.agg #[.int .i64 (a0:Int),.int .i64 (m0:Int),.int .i64 (b0:Int)],.pointer (some ⟨g,0,none⟩),.int .i64 (W:Int)] w fun e w'=>e=.returned (.tuple #[.int .u64 ((v*2^b:Nat):Int),.agg #[.int .i64 (a:Int),.int .i64 (m:Int),.int .i64 (b:Int)],.bool (decide (s4.2=0))])∧jjw w' g s4.1 s4.2∧jjj g [170] w w':=by
 have C1:=jq fun (w0:World) (hh:jjw w0 g s.1 s.2)=>(show Calls prog 118 #[.pointer (some ⟨g,0,none⟩),.int .i64 1] w0 fun e' w'=>e'=.returned (.int .u64 1)∧jjw w' g s1.1 s1.2∧jjj g [170] w0 w' from by
  have:=jzf g 1 s w0 hh (by decide)
  rw[h1,hv1] at this
  exact this)
 have C2:=jq fun (w0:World) (hh:jjw w0 g s1.1 s1.2)=>(show Calls prog 118 #[.pointer (some ⟨g,0,none⟩),.int .i64 1] w0 fun e' w'=>e'=.returned (.int .u64 1)∧jjw w' g s2.1 s2.2∧jjj g [170] w0 w' from by
  have:=jzf g 1 s1 w0 hh (by decide)
  rw[h2,hv2] at this
  exact this)
 have CT:=jq fun (w0:World) (hh:jjw w0 g s2.1 s2.2)=>(show Calls prog 181 #[.pointer (some ⟨g,0,none⟩),.int .i64 (W:Int)] w0 fun e' w'=>e'=.returned (.agg #[.int .i64 (a:Int),.int .i64 (m:Int),.int .i64 (b:Int)])∧jjw w' g s3.1 s3.2∧jjj g [170] w0 w' from by
  have:=told_st hW8 g s2 w0 hh
  rw[hT,hs3] at this
  exact this)
 have hvlt:v<2^m:=by rw[←hv3];exact jws _ _
 obtain⟨x,hx⟩:∃ x,x=v*2^b:=⟨_,rfl⟩
 have hsh:IntKind.u64.wrap ((v:Int)*2^b)=(x:Int):=by
  have e:(v:Int)*2^b=((v*2^b:Nat):Int):=by rw[Int.natCast_mul,Int.natCast_pow];rfl
  have e2:v*2^b<2^m*2^b:=Nat.mul_lt_mul_of_pos_right hvlt (Nat.two_pow_pos _)
  have e3:2^m*2^b≤2^64:=by rw[←Nat.pow_add];exact Nat.pow_le_pow_right (by decide) hmb
  rw[e,←hx,IntKind.wrap_u64]
  omega
 rw[←hx]
 have hm64:m≤64:=by omega
 have hb64:b<64:=by omega
 have CV:=jq fun (w0:World) (hh:jjw w0 g s3.1 s3.2)=>(show Calls prog 118 #[.pointer (some ⟨g,0,none⟩),.int .i64 (m:Int)] w0 fun e' w'=>e'=.returned (.int .u64 (v:Int))∧jjw w' g s4.1 s4.2∧jjj g [170] w0 w' from by
  have:=jzf g m s3 w0 hh hm64
  rw[hv3,h3] at this
  exact this)
 have HSH:=jq hsh
 clear hsh hx hvlt hmb
 have hg:=h.lt
 have hb1:Below w.heap.size w ((w.alloc (.cells #[.int .i64 (a0:Int),.int .i64 (m0:Int),.int .i64 (b0:Int)] 104)).alloc (.cells #[.int .i64 0,.int .i64 0,.int .i64 0] 104)):=((Below.refl _ _).alloc jw _).alloc (by simp) _
 have hk1:Blk ((w.alloc (.cells #[.int .i64 (a0:Int),.int .i64 (m0:Int),.int .i64 (b0:Int)] 104)).alloc (.cells #[.int .i64 0,.int .i64 0,.int .i64 0] 104)) w.heap.size 104 [.int .i64 (a0:Int),.int .i64 (m0:Int),.int .i64 (b0:Int)]:=Blk.alloc_ (heap_alloc_new w _) _
 have hk2:Blk ((w.alloc (.cells #[.int .i64 (a0:Int),.int .i64 (m0:Int),.int .i64 (b0:Int)] 104)).alloc (.cells #[.int .i64 0,.int .i64 0,.int .i64 0] 104)) (w.heap.size+1) 104 [.int .i64 0,.int .i64 0,.int .i64 0]:=by
  have:=heap_alloc_new (w.alloc (.cells #[.int .i64 (a0:Int),.int .i64 (m0:Int),.int .i64 (b0:Int)] 104)) (.cells #[.int .i64 0,.int .i64 0,.int .i64 0] 104)
  simpa [Blk] using this
 have HR:=jq (h.only (jjj.of_below (B:=0) (ts:=[]) hb1) (by decide) (by decide))
 have HO:=jq (jjj.of_below (B:=g) (ts:=[170]) hb1)
 have L1:=jq hk1
 have L2:=jq hk2
 clear h hb1 hk1 hk2 h1 hv1 h2 hv2 h3 hv3 hT hs3 hW8
 go_enter func119,ntmps119
 go_wp2_with fail
 refine (C1.out _ HR.out).mono ?_
 rintro e w2 ⟨rfl,hrn,hon⟩
 have HRn:=jq hrn
 have HOn:=jq (HO.out.trans hon)
 have L1n:=jq (L1.out.only hon (by decide))
 have L2n:=jq (L2.out.only hon (by decide))
 clear hrn hon HR HO L1 L2
 have HR:=HRn
 have HO:=HOn
 have L1:=L1n
 have L2:=L2n
 clear HRn HOn L1n L2n
 go_wp2_with fail
 refine (C2.out _ HR.out).mono ?_
 rintro e w3 ⟨rfl,hrn,hon⟩
 have HRn:=jq hrn
 have HOn:=jq (HO.out.trans hon)
 have L1n:=jq (L1.out.only hon (by decide))
 have L2n:=jq (L2.out.only hon (by decide))
 clear hrn hon HR HO L1 L2
 have HR:=HRn
 have HO:=HOn
 have L1:=L1n
 have L2:=L2n
 clear HRn HOn L1n L2n
 go_wp2_with fail
 refine (CT.out _ HR.out).mono ?_
 rintro e w4 ⟨rfl,hrn,hon⟩
 have HRn:=jq hrn
 have HOn:=jq (HO.out.trans hon)
 have L1n:=jq (L1.out.only hon (by decide))
 have L2n:=jq (L2.out.only hon (by decide))
 clear hrn hon HR HO L1 L2
 have HR:=HRn
 have HO:=HOn
 have L1:=L1n
 have L2:=L2n
 clear HRn HOn L1n L2n
 have hk1:=L1.out
 have d0:=hk1.cell 0
 have d1:=hk1.cell 1
 have d2:=hk1.cell 2
 simp only[jy,jx] at d0 d1 d2
 have df0:=hk1.frozen 0
 have df1:=hk1.frozen 1
 have df2:=hk1.frozen 2
 clear hk1
 go_wp2_with fail
 clear d0 d1 d2 df0 df1 df2
 have HRn:=jq (HR.out.only (jzz L1.out (B:=0) (Nat.zero_le _) (.int .i64 (a:Int)) (.int .i64 (m:Int)) (.int .i64 (b:Int))) (by decide) (by decide))
 have HOn:=jq (HO.out.late (jqg (B:=w.heap.size) (g:=w.heap.size) jw (.int .i64 (a:Int)) (.int .i64 (m:Int)) (.int .i64 (b:Int))))
 have L1n:=jq (set3 L1.out (.int .i64 (a:Int)) (.int .i64 (m:Int)) (.int .i64 (b:Int)))
 have L2n:=jq (qbs L2.out (g:=w.heap.size) (by omega) (.int .i64 (a:Int)) (.int .i64 (m:Int)) (.int .i64 (b:Int)))
 clear HR HO L1 L2
 generalize ((w4.setCell ⟨w.heap.size,0,none⟩ (.int .i64 (a:Int))).setCell ⟨w.heap.size,1,none⟩ (.int .i64 (m:Int))).setCell ⟨w.heap.size,2,none⟩ (.int .i64 (b:Int))=w5 at *
 have HR:=HRn
 have HO:=HOn
 have L1:=L1n
 have L2:=L2n
 clear HRn HOn L1n L2n
 have hk1:=L1.out
 have c0:=hk1.cell 0
 have c1:=hk1.cell 1
 have c2:=hk1.cell 2
 simp only[jy,jx] at c0 c1 c2
 clear hk1
 go_wp2_with fail
 have S1:=jq c1
 have S2:=jq c2
 clear c0 c1 c2
 have HRA:Hid (jjw w5.drew g s3.1 s3.2):=HR.out.only (jjj.refl 0 [] w5).drew (by simp) (by simp)
 have C:=jq (CV.out _ HRA.out)
 clear HRA HR
 go_region_held3 (fun w'=>w'.cell? ⟨w.heap.size,1,none⟩=some (.int .i64 (m:Int))∧w'.cell? ⟨w.heap.size,2,none⟩=some (.int .i64 (b:Int))) (first | exact⟨S1.out,S2.out⟩ | exact⟨T1.out,T2.out⟩)
  (first
   | (go_at_call 118;refine C.out.mono ?_;rintro e w6 ⟨rfl,hr6,ho6⟩;have HR:=jq hr6;have HOx:=jq (HO.out.drew.trans ho6);have M1:=jq (L1.out.drew_.only ho6 (by decide));have M2:=jq (L2.out.drew_.only ho6 (by decide));have t1:=M1.out.cell 1;have t2:=M1.out.cell 2;simp only[jy,jx] at t1 t2;have T1:=jq t1;have T2:=jq t2;clear hr6 ho6 t1 t2))
 simp only[HSH.out]
 rename_i hHeld
 clear hHeld S1 S2 T1 T2 C L1 L2 HO
 have hk1:=M1.out
 have hk2:=M2.out
 have c0:=hk1.cell 0
 have c1:=hk1.cell 1
 have c2:=hk1.cell 2
 simp only[jy,jx] at c0 c1 c2
 have d0:=hk2.cell 0
 have d1:=hk2.cell 1
 have d2:=hk2.cell 2
 simp only[jy,jx] at d0 d1 d2
 have df0:=hk2.frozen 0
 have df1:=hk2.frozen 1
 have df2:=hk2.frozen 2
 clear hk1 hk2
 have hso:=jzz M2.out (B:=0) (Nat.zero_le _) (.int .i64 (a:Int)) (.int .i64 (m:Int)) (.int .i64 (b:Int))
 have HK:=jq (set3 M2.out (.int .i64 (a:Int)) (.int .i64 (m:Int)) (.int .i64 (b:Int))).drew_
 have HF:=jq ((HR.out.only hso (by decide) (by decide)).only (jjj.refl 0 [] _).drew (by simp) (by simp))
 have HOF:=jq (HOx.out.late (jqg (B:=w.heap.size) (g:=w.heap.size+1) (by omega) (.int .i64 (a:Int)) (.int .i64 (m:Int)) (.int .i64 (b:Int)))).drew
 clear hso
 have HRD:Hid (jjw w6.drew g s4.1 s4.2):=HR.out.only (jjj.refl 0 [] w6).drew (by simp) (by simp)
 obtain⟨E,hE⟩:∃ E,E=s4.2:=⟨_,rfl⟩
 have HE:=jq hE
 have ce:=qxs s4.2 HRD.out
 rw[←hE] at ce
 have CE:=jq ce
 clear hE ce
 obtain⟨ok,hok⟩:∃ ok,ok=decide (E=0):=⟨_,rfl⟩
 have hok1:((E:Int)==0)=ok:=by rw[hok];cases E <;> rfl
 have hok2:decide ((E:Int)=0)=ok:=by rw[hok];cases E <;> rfl
 have HOK:=jq hok
 clear hok
 go_wp2_with fail
 go_region_with (go_at_call 172;refine CE.out.mono ?_;rintro e w7 ⟨rfl,rfl⟩)
 all_goals
  go_wp2
  exact bodyPost_ret (qkr (x:=.int .u64 (x:Int)) (y:=.bool ok) results119 rfl HK.out rfl rfl) rfl ⟨by rw[HOK.out,HE.out],HF.out,HOF.out⟩
def WinT (W:Nat) (t:Nat × Nat × Nat):Prop:=t=(0,0,0)∨(0<t.2.1∧t.1+t.2.1+t.2.2=8*W)
def fromT (t:Nat × Nat × Nat) (s:List Bool × Nat):Nat × (Nat × Nat × Nat) × Bool × (List Bool × Nat) :=
 if t.2.1=0 then (0,t,false,s) else (getV s t.2.1*2^t.2.2,t,decide ((getS s t.2.1).2=0),getS s t.2.1)
def jmn (W:Nat) (t:Nat × Nat × Nat) (s:List Bool × Nat):Nat × (Nat × Nat × Nat) × Bool × (List Bool × Nat) :=
 if getV s 1=0 then (0,t,decide ((getS s 1).2=0),getS s 1)
 else if getV (getS s 1) 1=0 then fromT t (getS (getS s 1) 1)
 else fromT (qks W (getS (getS s 1) 1)) (toldS (getS (getS s 1) 1))
theorem bit1 (s:List Bool × Nat):getV s 1=0∨getV s 1=1:=by
 have:=jws s 1
 omega
theorem toldT_ok (W:Nat) (s:List Bool × Nat):WinT W (qks W s):=by
 unfold qks
 split
 ·exact .inr ⟨by simp,by simp;omega⟩
 ·exact .inl rfl
theorem takeR_ok {W:Nat} {t:Nat × Nat × Nat} (ht:WinT W t) (s:List Bool × Nat):WinT W (jmn W t s).2.1:=by
 unfold jmn fromT
 split
 ·exact ht
 ·split <;> split
  ·exact ht
  ·exact ht
  ·exact toldT_ok W _
  ·exact toldT_ok W _
theorem takeR_lt {W:Nat} {t:Nat × Nat × Nat} (ht:WinT W t) (s:List Bool × Nat):(jmn W t s).1<2^(8*W):=by
 have key:∀ (u:Nat × Nat × Nat) (q:List Bool × Nat),WinT W u→(fromT u q).1<2^(8*W):=by
  intro u q hu
  unfold fromT
  split
  ·exact Nat.two_pow_pos _
  ·next h0 =>
   rcases hu with rfl | ⟨h1,h2⟩
   ·exact absurd rfl h0
   ·refine Nat.lt_of_lt_of_le (Nat.mul_lt_mul_of_pos_right (jws q u.2.1) (Nat.two_pow_pos u.2.2)) ?_
    rw[←Nat.pow_add]
    exact Nat.pow_le_pow_right (by decide) (by omega)
 unfold jmn
 split
 ·exact Nat.two_pow_pos _
 ·split
  ·exact key _ _ ht
  ·exact key _ _ (toldT_ok W _)
theorem take_st {W:Nat} (hW8:W≤8) (t:Nat × Nat × Nat) (ht:WinT W t) (g:Nat) (s:List Bool × Nat) (w:World) (h:jjw w g s.1 s.2) :
  Calls prog 119 #[tri t,.pointer (some ⟨g,0,none⟩),.int .i64 (W:Int)] w fun e w'=>e=.returned (.tuple #[.int .u64 ((jmn W t s).1:Int),tri (jmn W t s).2.1,.bool (jmn W t s).2.2.1])∧jjw w' g (jmn W t s).2.2.2.1 (jmn W t s).2.2.2.2∧jjj g [170] w w':=by
 obtain⟨a0,m0,b0⟩:=t
 unfold jmn fromT
 rcases bit1 s with h1 | h1
 ·rw[if_pos h1]
  exact tkS_al (W:=W) a0 m0 b0 g s _ w h rfl h1
 ·rw[if_neg (by omega)]
  rcases bit1 (getS s 1) with h2 | h2
  ·rw[if_pos h2]
   rcases ht with ht | ⟨hm,hab⟩
   ·injection ht with e1 e2
    injection e2 with e2 e3
    subst e1 e2 e3
    exact tkS_no (W:=W) g s _ _ w h rfl h1 rfl h2
   ·simp only at hm hab
    rw[if_neg (show ¬ m0=0 by omega)]
    exact tkS_in (W:=W) a0 m0 b0 g _ s _ _ _ w h rfl h1 rfl h2 hm (by omega) rfl rfl
  ·rw[if_neg (by omega)]
   rcases toldT_ok W (getS (getS s 1) 1) with ht2 | ⟨hm,hab⟩
   ·rw[ht2]
    exact tkS_tn hW8 a0 m0 b0 g s _ _ _ w h rfl h1 rfl h2 ht2 rfl
   ·rw[if_neg (by omega)]
    exact tkS_tw hW8 a0 m0 b0 g (qks W (getS (getS s 1) 1)).1 (qks W (getS (getS s 1) 1)).2.1 (qks W (getS (getS s 1) 1)).2.2 _ s _ _ _ _ w h rfl h1 rfl h2 rfl rfl hm (by omega) rfl rfl
def qqk (W:Nat):Nat→(Nat × Nat × Nat)→(List Bool × Nat)→Option (List Nat × (List Bool × Nat))
 | 0,_,s=>some ([],s)
 | k+1,t,s=>if (jmn W t s).2.2.1=true then (qqk W k (jmn W t s).2.1 (jmn W t s).2.2.2).map (fun q=>((jmn W t s).1::q.1,q.2)) else none
def jkk (W n:Nat) (L:List Bool):Option (List Nat × (List Bool × Nat)) :=
 if L.length<n then none else if n=0 then some ([],(L,0)) else (qqk W (n - 1) (0,0,0) (getS (L,0) (8*W))).map (fun q=>(getV (L,0) (8*W)::q.1,q.2))
def qdh (Y:List Nat) (o:Option (List Nat × (List Bool × Nat))):Option (List Nat × (List Bool × Nat)):=o.map (fun q=>(Y++q.1,q.2))
theorem loopR_next {W k x:Nat} {t t1:Nat × Nat × Nat} {s s1:List Bool × Nat} (hR:jmn W t s=(x,t1,true,s1)) (Y:List Nat):qdh Y (qqk W (k+1) t s)=qdh (Y++[x]) (qqk W k t1 s1):=by
 unfold qdh
 rw[qqk,hR]
 simp[Function.comp_def]
theorem loopR_stop {W k x:Nat} {t t1:Nat × Nat × Nat} {s s1:List Bool × Nat} (hR:jmn W t s=(x,t1,false,s1)) (Y:List Nat):qdh Y (qqk W (k+1) t s)=none:=by
 unfold qdh
 rw[qqk,hR]
 simp
theorem jgk (s:List Bool × Nat) (n:Nat):(getS s n).1.length≤s.1.length:=by
 unfold getS
 split
 ·split
  ·simp
  ·exact Nat.le_refl _
 ·exact Nat.le_refl _
theorem takeR_len (W:Nat) (t:Nat × Nat × Nat) (s:List Bool × Nat):(jmn W t s).2.2.2.1.length≤s.1.length:=by
 have key:∀ (u:Nat × Nat × Nat) (q:List Bool × Nat),q.1.length≤s.1.length→(fromT u q).2.2.2.1.length≤s.1.length:=by
  intro u q hq
  unfold fromT
  split
  ·exact hq
  ·exact Nat.le_trans (jgk _ _) hq
 have h2:=Nat.le_trans (jgk (getS s 1) 1) (jgk s 1)
 unfold jmn
 split
 ·exact jgk s 1
 ·split
  ·exact key _ _ h2
  ·exact key _ _ (Nat.le_trans (jgk _ _) (Nat.le_trans (jgk _ _) h2))
def TellsR (w:World) (g:Nat) (o:Option (List Nat × (List Bool × Nat))) (e:Ending) (w':World):Prop :=
 jjj g [170] w w'∧∃ v ok,e=.returned (.tuple #[v,.bool ok])∧(∃ A n c,v=.slice A n c)∧match o with
  | none=>ok=false
  | some (X,s)=>ok=decide (jwn s=0)∧w'.ownsRow w.heap.size 64 1 v X.length (wvs X)
def TakenRR (w:World) (g W n B:Nat) (o:Option (List Nat × (List Bool × Nat))) (P:Nat) (v:Value) (wr:World):Prop :=
 ∃ (Y:List Nat) (a m b:Nat) (s:List Bool × Nat),Y.length≤n∧wr.ownsRow w.heap.size 64 1 v Y.length (wvs Y)∧WinT W (a,m,b)∧s.1.length≤B∧jjw wr g s.1 s.2∧qdh Y (qqk W (n - Y.length) (a,m,b) s)=o ∧
  Blk wr P 104 [.int .i64 (a:Int),.int .i64 (m:Int),.int .i64 (b:Int)]∧jjj g [170] w wr
theorem taken_st {W:Nat} (hW8:W≤8) (g n:Nat) (L:List Bool) (hL:L.length≤1000000) (hn26:n≤67108864) (w:World) (h:jjw w g L 0) :
  Calls prog 76 #[.pointer (some ⟨g,0,none⟩),.int .i64 (W:Int),.int .i64 (n:Int)] w (TellsR w g (jkk W n L)):=by
 obtain⟨i0,hi,hz0,hz1,hz2⟩:=info_parts jyy
 have hg:=h.lt
 have C1:=jq (qzp h)
 have HH:Hid (jjw w.drew g L 0):=h.only (jjj.refl 0 [] w).drew (by simp) (by simp)
 obtain⟨LL,hLL⟩:∃ LL,LL=L.length:=⟨_,rfl⟩
 have hc1:=C1.out
 rw[←hLL] at hc1 hL
 have C1:=jq hc1
 have hW8i:(W:Int)≤8:=by omega
 have HW:=jq hW8
 have HLL:=jq hLL
 clear h hc1 hLL hW8
 by_cases hlt0:LL<n
 ·have hli:(LL:Int)<(n:Int):=by omega
  have ho:jkk W n L=none:=by unfold jkk;rw[if_pos (by have:=HLL.out;omega)]
  rw[ho]
  clear ho hlt0 HH
  go_enter func76,ntmps76
  go_wp2_with fail
  refine C1.out.mono ?_
  rintro e w1 ⟨rfl,rfl⟩
  go_wp2
  go_ret2
  exact⟨(jjj.refl _ _ _).drew,_,_,rfl,⟨_,_,_,rfl⟩,rfl⟩
 have hli:(n:Int)≤(LL:Int):=by omega
 have ho:jkk W n L=if n=0 then some ([],(L,0)) else (qqk W (n - 1) (0,0,0) (getS (L,0) (8*W))).map (fun q=>(getV (L,0) (8*W)::q.1,q.2)):=by unfold jkk;rw[if_neg (by have:=HLL.out;omega)]
 obtain⟨o,hoo⟩:∃ o,o=jkk W n L:=⟨_,rfl⟩
 rw[←hoo]
 rw[ho] at hoo
 have HOO0:=jq hoo
 clear ho hoo hlt0
 have hnb:n≤1000000:=by omega
 have HNB:=jq hnb
 go_enter func76,ntmps76
 go_wp2_with fail
 refine C1.out.mono ?_
 rintro e w1 ⟨rfl,rfl⟩
 clear C1
 by_cases hn0:n=0
 ·have hn1:¬ (0:Int)<(n:Int):=by omega
  have hoo:=HOO0.out
  rw[if_pos hn0] at hoo
  have HOO:=jq hoo
  clear hoo HOO0
  have HN0:=jq hn0
  clear hn0
  go_wp2_with (at_make;go_must (refine jqp rfl (.const (.int .i64 0)) (.tmp 17) 63 rfl w.heap.size 64 i0 (.int .u64 0) 8 underlying63 hi hz0 rfl hz1 hz2 .i64 .i64 _ _ rfl rfl 0 n rfl rfl (Nat.zero_le _) (by omega) (by simp only[maxLen];omega) jw ?_;intro w2 hg2 hown2 hgr2))
  have hb2:Below w.heap.size w.drew w2:=(Below.refl w.heap.size w.drew).grown hgr2 jw (by simp)
  have hr2:=HH.out.only (jjj.of_below (B:=0) (ts:=[]) hb2) (by decide) (by decide)
  have hsz2:w.heap.size≤w2.heap.size:=hb2.size
  have HR4:=jq (hr2.only (jjj.of_below (B:=0) (ts:=[]) ((Below.refl w2.heap.size w2).alloc jw (.cells #[.int .i64 0,.int .i64 0,.int .i64 0] 104))) (by decide) (by decide))
  have HO4:=jq (((jjj.refl g [170] w).drew.trans (jjj.of_below hb2)).late ((Below.refl w.heap.size w2).alloc hsz2 (.cells #[.int .i64 0,.int .i64 0,.int .i64 0] 104)))
  have HW4:=jq (hown2.alloc (.cells #[.int .i64 0,.int .i64 0,.int .i64 0] 104))
  have hk4:Blk (w2.alloc (.cells #[.int .i64 0,.int .i64 0,.int .i64 0] 104)) w2.heap.size 104 [.int .i64 0,.int .i64 0,.int .i64 0]:=heap_alloc_new w2 _
  have HK4:=jq hk4
  clear hk4 hr2 hb2 hg2 hown2 hgr2 HH
  go_loopw [8,10,11,12] (fun v _ _ _ wr=>TakenRR w g W n LL o w2.heap.size v wr) (fun v _ _ _ _=>n - lenOfV v)
  case atStart=>exact⟨[],0,0,0,(L,0),by simp,HW4.out,.inl rfl,by have:=HLL.out;simp;omega,HR4.out,by rw[HOO.out,HN0.out];rfl,HK4.out,HO4.out⟩
  case round =>
   clear HR4 HO4 HW4 HK4 HOO
   obtain⟨Y,a,m,b,s,hk,hown,ht,hsl,hrd,hTot,hblk,ho⟩:=hrel
   have hlt:¬ Y.length<n:=by have:=HN0.out;omega
   have hkx:Y.length=n:=by omega
   have hT:o=some (Y,s):=by rw[←hTot,hkx,Nat.sub_self];simp[qdh,qqk]
   have HT:=jq hT
   have HOWN:=jq hown
   have HO:=jq ho
   obtain⟨A1,c1,rfl,hc1,hc2,-⟩:=jjk hown
   simp only[maxLen] at hc2
   have hki:¬ (Y.length:Int)<(n:Int):=by omega
   have c2:=rDone_st g s wr hrd (by have:=HLL.out;omega)
   obtain⟨E,hE⟩:∃ E,E=jwn s:=⟨_,rfl⟩
   rw[←hE] at c2
   have HE:=jq hE
   obtain⟨ok,hok⟩:∃ ok,ok=decide (E=0):=⟨_,rfl⟩
   have hok1:((E:Int)==0)=ok:=by rw[hok];cases E <;> rfl
   have hok2:decide ((E:Int)=0)=ok:=by rw[hok];cases E <;> rfl
   have HOK:=jq hok
   have C2:=jq c2
   clear hE hok c2 hrd hown ho hblk ht hkx hk hTot hT hsl
   go_wp2_with fail
   refine C2.out.mono ?_
   rintro e w9 ⟨rfl,ho9⟩
   have HW9:=jq (jxl HOWN.out ho9 (by decide))
   have HO9:=jq (HO.out.trans ho9)
   clear ho9
   go_wp2
   go_ret2
   refine⟨HO9.out,_,ok,rfl,⟨_,_,_,rfl⟩,?_⟩
   rw[HT.out]
   exact⟨by rw[HOK.out,HE.out],HW9.out⟩
 ·have hn1:(0:Int)<(n:Int):=by omega
  have hoo:=HOO0.out
  rw[if_neg hn0] at hoo
  have HOO1:=jq hoo
  clear hoo HOO0
  go_wp2_with (at_make;go_must (refine jqp rfl (.const (.int .i64 0)) (.tmp 17) 63 rfl w.heap.size 64 i0 (.int .u64 0) 8 underlying63 hi hz0 rfl hz1 hz2 .i64 .i64 _ _ rfl rfl 0 n rfl rfl (Nat.zero_le _) (by omega) (by simp only[maxLen];omega) jw ?_;intro w2 hg2 hown2 hgr2))
  have hb2:Below w.heap.size w.drew w2:=(Below.refl w.heap.size w.drew).grown hgr2 jw (by simp)
  have HR2:=jq (HH.out.only (jjj.of_below (B:=0) (ts:=[]) hb2) (by decide) (by decide))
  have HO2:=jq ((jjj.refl g [170] w).drew.trans (jjj.of_below hb2))
  have HW2:=jq hown2
  have hV:8*(W:Int)=((8*W:Nat):Int):=by omega
  have c2:=jzf g (8*W) (L,0) w2 HR2.out (by have:=HW.out;omega)
  obtain⟨x0,hx0⟩:∃ x0,x0=getV (L,0) (8*W):=⟨_,rfl⟩
  obtain⟨s0,hs0⟩:∃ s0,s0=getS (L,0) (8*W):=⟨_,rfl⟩
  have hs0l:s0.1.length≤LL:=by have:=HLL.out;rw[hs0,this];exact jgk _ _
  have hoo:=HOO1.out
  rw[←hx0,←hs0] at c2 hoo
  have HOO:=jq hoo
  clear hoo HOO1
  have HS0:=jq hs0l
  rw[←hV] at c2
  have C2:=jq c2
  clear hg2 hown2 hgr2 hb2 hV c2 HH HR2 hx0 hs0 hs0l
  refine C2.out.mono ?_
  rintro e w3 ⟨rfl,hr3,ho3⟩
  have HR3:=jq hr3
  have HO3:=jq (HO2.out.trans ho3)
  have HW3:=jq (jxl HW2.out ho3 (by decide))
  have hsz3:w.heap.size≤w3.heap.size:=HO3.out.size
  clear hr3 ho3 C2 HO2 HW2
  go_wp2_with ((with_reducible show wpList _ _ _ (({ dst:=some 27,op:=_,type:=_,pos:=_,after:=_,guard:=_ }:Oper)::_) _ _);go_must (refine jjd rfl (.tmp 21) (.tmp 26) 63 rfl w.heap.size 64 i0 (.int .u64 0) 1 8 underlying63 hi hz0 hz1 hz2 rfl (by decide) _ _ _ rfl (HW3.out.alloc _) _ _ 1 1 _ rfl (Rd.new _ _ _) rfl (by intro u hu;simp at hu;subst hu;rfl) (by simp only[maxLen];omega) (by omega) (by simp;omega) ?_;intro v4 w4 hown4 hg4;have hb4:Below w.heap.size w3 w4:=((Below.refl w.heap.size w3).alloc hsz3 _).grown hg4 (by simp;omega) (jjb HW3.out);have ho4:=jjj.grown (B:=w.heap.size) (ts:=[64]) hg4 (jzc (HW3.out.alloc _)) (by simp);have hr4:=rdr_grown HR3.out ho4 (by decide) (by decide);clear ho4 hg4))
  have hsz4:w.heap.size≤w4.heap.size:=Nat.le_trans hsz3 hb4.size
  have HR4:=jq (hr4.only (jjj.of_below (B:=0) (ts:=[]) ((Below.refl w4.heap.size w4).alloc jw (.cells #[.int .i64 0,.int .i64 0,.int .i64 0] 104))) (by decide) (by decide))
  have HO4:=jq (HO3.out.late (hb4.trans ((Below.refl w.heap.size w4).alloc hsz4 (.cells #[.int .i64 0,.int .i64 0,.int .i64 0] 104))))
  have HW4:=jq (hown4.alloc (.cells #[.int .i64 0,.int .i64 0,.int .i64 0] 104))
  have hk4:Blk (w4.alloc (.cells #[.int .i64 0,.int .i64 0,.int .i64 0] 104)) w4.heap.size 104 [.int .i64 0,.int .i64 0,.int .i64 0]:=heap_alloc_new w4 _
  have HK4:=jq hk4
  obtain⟨P,hP⟩:∃ P,P=w4.heap.size:=⟨_,rfl⟩
  rw[←hP] at HK4
  have HPP:=jq (show w.heap.size≤P by omega)
  simp only[←hP]
  generalize w4.alloc (.cells #[.int .i64 0,.int .i64 0,.int .i64 0] 104)=w6 at *
  clear hk4 hr4 hb4 hown4 hP HR3 HO3 HW3 hsz4 hsz3
  have HN0:=jq hn0
  clear hn0
  go_loopw [8,10,11,12] (fun v _ _ _ wr=>TakenRR w g W n LL o P v wr) (fun v _ _ _ _=>n - lenOfV v)
  case atStart=>exact⟨[x0],0,0,0,s0,by have:=HN0.out;simp;omega,HW4.out,.inl rfl,HS0.out,HR4.out,HOO.out.symm,HK4.out,HO4.out⟩
  case round =>
   clear HR4 HO4 HW4 HK4 HOO
   obtain⟨Y,a,m,b,s,hk,hown,ht,hsl,hrd,hTot,hblk,ho⟩:=hrel
   by_cases hlt:Y.length<n
   ·skip
    rcases hR:jmn W (a,m,b) s with ⟨x,⟨a1,m1,b1⟩,ok,s1⟩
    have c2:=take_st HW.out (a,m,b) ht g s wr hrd
    have ht1:=takeR_ok ht s
    have hsl1:=takeR_len W (a,m,b) s
    rw[hR] at c2 ht1 hsl1
    simp only at c2 ht1 hsl1
    unfold tri triV at c2
    simp only at c2
    obtain⟨k,hk1⟩:∃ k,n - Y.length=k+1:=⟨n - Y.length - 1,by omega⟩
    have hc:=hblk
    have c0:=hc.cell 0
    have c1:=hc.cell 1
    have c2':=hc.cell 2
    simp only[jy,jx] at c0 c1 c2'
    have C2:=jq c2
    have HOWN:=jq hown
    have HO:=jq ho
    have HBL:=jq hblk
    obtain⟨A1,cc1,rfl,hcc1,hcc2,-⟩:=jjk hown
    simp only[maxLen] at hcc2
    have hki:(Y.length:Int)<(n:Int):=by omega
    have HKN:=jq (show Y.length<n from hlt)
    cases ok with
    | false =>
     rw[hk1,loopR_stop hR] at hTot
     have HTOT:=jq hTot
     clear c2 hrd hown ho hblk ht ht1 hsl hsl1 hc hlt hk hk1 hR hTot
     go_wp2_with fail
     refine C2.out.mono ?_
     rintro e w4 ⟨rfl,hr4,ho4⟩
     have HO4:=jq (HO.out.trans ho4)
     have hp4:=HBL.out.only ho4 (by decide)
     have HK4:=jq hp4
     have d0:=hp4.cell 0
     have d1:=hp4.cell 1
     have d2:=hp4.cell 2
     simp only[jy,jx] at d0 d1 d2
     have f0:=hp4.frozen 0
     have f1:=hp4.frozen 1
     have f2:=hp4.frozen 2
     clear hr4 ho4 hp4 C2 c0 c1 c2'
     go_wp2
     go_ret2
     refine⟨HO4.out.late ((Below.refl w.heap.size w4).alloc HO4.out.size _),_,false,rfl,⟨_,_,_,rfl⟩,?_⟩
     rw[←HTOT.out]
    | true =>
     rw[hk1,loopR_next hR] at hTot
     have HTOT:=jq hTot
     have HS1:=jq (And.intro ht1 (And.intro (Nat.le_trans hsl1 hsl) hk1))
     clear c2 hrd hown ho hblk ht ht1 hsl hsl1 hc hlt hk hk1 hR hTot
     go_wp2_with fail
     refine C2.out.mono ?_
     rintro e w4 ⟨rfl,hr4,ho4⟩
     have HR4:=jq hr4
     have HO4:=jq (HO.out.trans ho4)
     have HK4:=jq (HBL.out.only ho4 (by decide))
     have HW4:=jq (jxl HOWN.out ho4 (by decide))
     have hsz4:w.heap.size≤w4.heap.size:=HO4.out.size
     have HPL:=jq HK4.out.lt
     have hA1:Y.length+1≤maxLen:=by have:=HKN.out;simp only[maxLen];omega
     have hA2:(Y.length+1)*8≤140737488355328:=by have:=HKN.out;omega
     clear hr4 ho4 C2 c0 c1 c2' HOWN HO HBL
     go_wp2_with ((with_reducible show wpList _ _ _ (({ dst:=some 45,op:=_,type:=_,pos:=_,after:=_,guard:=_ }:Oper)::_) _ _);go_must (refine jjd rfl (.tmp 42) (.tmp 44) 63 rfl w.heap.size 64 i0 (.int .u64 0) 1 8 underlying63 hi hz0 hz1 hz2 rfl (by decide) _ _ _ rfl ((HW4.out.alloc _).alloc _) _ _ 1 1 _ rfl (rd_new2G _ _ #[.int .u64 (x:Int)] _) rfl (one1 (.int .u64 (x:Int)) rfl) hA1 hA2 (by simp;omega) ?_;intro v5 w5 hown5 hg5;have hb5:Below w.heap.size w4 w5:=(((Below.refl w.heap.size w4).alloc hsz4 _).alloc (by simp;omega) _).grown hg5 (by simp;omega) (jjb HW4.out);have ho5:=jjj.grown (B:=w.heap.size) (ts:=[64]) hg5 (jzc ((HW4.out.alloc _).alloc _)) (by simp);have hq5:=blk_new2 (cs:=[.int .i64 (a1:Int),.int .i64 (m1:Int),.int .i64 (b1:Int)]) ho5 (by decide);have hp5:=blk_grown2 HK4.out ho5 (by decide);have hr5:=rdr_grown2 HR4.out ho5 (by decide) (by decide);clear ho5 hg5;have HQ5:=jq hq5;have HP5:=jq hp5;have HR5:=jq hr5;have HB5:=jq hb5;have HW5:=jq hown5;have e0:=hq5.cell 0;have e1:=hq5.cell 1;have e2:=hq5.cell 2;have d0:=hp5.cell 0;have d1:=hp5.cell 1;have d2:=hp5.cell 2;simp only[jy,jx] at e0 e1 e2 d0 d1 d2;have f0:=hp5.frozen 0;have f1:=hp5.frozen 1;have f2:=hp5.frozen 2;clear hq5 hp5 hr5 hb5 hown5))
     have hso:=jzz HP5.out (B:=w.heap.size) HPP.out (.int .i64 (a1:Int)) (.int .i64 (m1:Int)) (.int .i64 (b1:Int))
     obtain⟨A2,cc2,rfl,-,-,-⟩:=jjk HW5.out
     have hlt:=HKN.out
     refine⟨⟨Y++[x],a1,m1,b1,s1,by simp;omega,?_,HS1.out.1,HS1.out.2.1,HR5.out.only hso (by decide) (by decide),?_,set3 HP5.out _ _ _,(HO4.out.late HB5.out).late (jqg HPP.out _ _ _)⟩,?_⟩
     ·rw[qdx,List.length_append]
      exact jxl HW5.out hso (by decide)
     ·rw[List.length_append,List.length_singleton,←HTOT.out]
      have:n - (Y.length+1)=k:=by have:=HS1.out.2.2;omega
      rw[this]
     ·simp[lenOfV];omega
   ·skip
    have hkx:Y.length=n:=by omega
    have hT:o=some (Y,s):=by rw[←hTot,hkx,Nat.sub_self];simp[qdh,qqk]
    have HT:=jq hT
    have HOWN:=jq hown
    have HO:=jq ho
    obtain⟨A1,c1,rfl,hc1,hc2,-⟩:=jjk hown
    simp only[maxLen] at hc2
    have hki:¬ (Y.length:Int)<(n:Int):=by omega
    have c2:=rDone_st g s wr hrd (by have:=HLL.out;omega)
    obtain⟨E,hE⟩:∃ E,E=jwn s:=⟨_,rfl⟩
    rw[←hE] at c2
    have HE:=jq hE
    obtain⟨ok,hok⟩:∃ ok,ok=decide (E=0):=⟨_,rfl⟩
    have hok1:((E:Int)==0)=ok:=by rw[hok];cases E <;> rfl
    have hok2:decide ((E:Int)=0)=ok:=by rw[hok];cases E <;> rfl
    have HOK:=jq hok
    have C2:=jq c2
    clear hE hok c2 hrd hown ho hblk ht hkx hk hTot hT hsl
    go_wp2_with fail
    refine C2.out.mono ?_
    rintro e w9 ⟨rfl,ho9⟩
    have HW9:=jq (jxl HOWN.out ho9 (by decide))
    have HO9:=jq (HO.out.trans ho9)
    clear ho9
    go_wp2
    go_ret2
    refine⟨HO9.out,_,ok,rfl,⟨_,_,_,rfl⟩,?_⟩
    rw[HT.out]
    exact⟨by rw[HOK.out,HE.out],HW9.out⟩
def IsRow (l:List UInt8) (v:Value) (w:World):Prop:=∃ A c,v=.slice A l.length c∧l.length≤c∧Rd w w.heap.size A (bvs l)∧(A=none→c=0)
theorem IsRow.of_own {w:World} {base e:Nat} {v:Value} {l:List UInt8} (h:w.ownsRow base e 1 v l.length (bvs l)):IsRow l v w:=by
 obtain⟨A,c,rfl,hc,_⟩:=jjk h
 refine⟨A,c,rfl,hc,Rd.of_own h,fun hA=>?_⟩
 rcases h.2 with ⟨h0,_⟩ | ⟨g,cap,cur,h0,_⟩
 ·injection h0
 ·injection h0 with h1
  rw[hA] at h1
  cases h1
theorem IsRow.bytes {l:List UInt8} {v:Value} {w:World} (h:IsRow l v w):jjz l v w:=by
 obtain⟨A,c,rfl,hc,hr,-⟩:=h
 exact⟨A,c,rfl,hc,hr⟩
theorem loopR_some {W:Nat}:∀ (k:Nat) (t:Nat × Nat × Nat) (s:List Bool × Nat) (X:List Nat) (s':List Bool × Nat),WinT W t→qqk W k t s=some (X,s')→X.length=k∧∀ x∈X,x<2^(8*W)
 | 0,t,s,X,s',_,h=>by
  rw[qqk] at h
  injection h with h
  injection h with h1 h2
  subst h1
  exact⟨rfl,fun x hx=>by cases hx⟩
 | k+1,t,s,X,s',ht,h=>by
  rw[qqk] at h
  split at h
  ·rw[Option.map_eq_some_iff] at h
   obtain⟨⟨Y,q⟩,hY,he⟩:=h
   injection he with h1 h2
   subst h1
   obtain⟨e1,e2⟩:=loopR_some k _ _ _ _ (takeR_ok ht s) hY
   refine⟨by simp only[List.length_cons];omega,fun x hx=>?_⟩
   rcases List.mem_cons.1 hx with rfl | hx
   ·exact takeR_lt ht s
   ·exact e2 x hx
  ·cases h
theorem qwz {W n:Nat} {L:List Bool} {X:List Nat} {s:List Bool × Nat} (h:jkk W n L=some (X,s)):X.length=n∧n≤L.length∧∀ x∈X,x<2^(8*W):=by
 unfold jkk at h
 split at h
 ·cases h
 next hl =>
 split at h
 next h0 =>
  injection h with h
  injection h with h1 h2
  subst h1
  exact⟨h0.symm,by omega,fun x hx=>by cases hx⟩
 next h0 =>
  rw[Option.map_eq_some_iff] at h
  obtain⟨⟨Y,q⟩,hY,he⟩:=h
  injection he with h1 h2
  subst h1
  obtain⟨e1,e2⟩:=loopR_some _ _ _ _ _ (.inl rfl) hY
  refine⟨by simp only[List.length_cons];omega,by omega,fun x hx=>?_⟩
  rcases List.mem_cons.1 hx with rfl | hx
  ·exact jws _ _
  ·exact e2 x hx
def gorR (W:Int) (n:Int) (l:List UInt8):Nat × List Nat :=
 if jqj W=true∧0≤n∧n≤67108864 then
  match jkk W.toNat n.toNat (jjm l) with
  | none=>(16,[])
  | some (X,s)=>if jwn s=0 then (0,jbr W.toNat X) else (16,[])
 else (2,[])
def GUnpR (w:World) (o:Nat × List Nat) (e:Ending) (w':World):Prop :=
 ∃ v,e=.returned (.tuple #[v,.int .i64 (o.1:Int)])∧Below w.heap.size w w'∧jzm (wvs o.2) v w'
theorem jdz (w:World):jzm (wvs []) (.slice none 0 0) w:=⟨none,0,rfl,Nat.le_refl _,Rd.nil_ _ _ _⟩
theorem gorUnpack_arg (W n:Int) (v:Value) (w:World) (h:¬ (jqj W=true∧0≤n∧n≤67108864)) :
  Calls prog 52 #[v,.int .i64 W,.int .i64 n] w (GUnpR w (2,[])):=by
 by_cases hW:jqj W=true
 ·have C1:=jq (jjx W true hW.symm)
  by_cases h0:n<0
  ·clear h hW
   go_enter func52,ntmps52
   go_wp2_with fail
   refine (C1.out _).mono ?_
   rintro e w' ⟨rfl,rfl⟩
   go_wp2
   go_ret2
   exact⟨_,rfl,Below.refl _ _,jdz _⟩
  ·have h1:67108864<n:=by
    rcases Int.lt_or_le 67108864 n with g | g
    ·exact g
    ·exact absurd ⟨hW,by omega,g⟩ h
   have h2:¬ n<0:=h0
   clear h hW h0
   go_enter func52,ntmps52
   go_wp2_with fail
   refine (C1.out _).mono ?_
   rintro e w' ⟨rfl,rfl⟩
   go_wp2
   go_ret2
   exact⟨_,rfl,Below.refl _ _,jdz _⟩
 ·have C1:=jq (jjx W false (by simpa using hW))
  clear h hW
  go_enter func52,ntmps52
  go_wp2_with fail
  refine (C1.out _).mono ?_
  rintro e w' ⟨rfl,rfl⟩
  go_wp2
  go_ret2
  exact⟨_,rfl,Below.refl _ _,jdz _⟩
theorem gorUnpack_st {W:Nat} (hW:IsW W) (l:List UInt8) (v:Value) (n:Nat) (hn:n≤67108864) (w:World) (hv:jjz l v w) (hl:l.length≤125000) :
  Calls prog 52 #[v,.int .i64 (W:Int),.int .i64 (n:Int)] w (GUnpR w (match jkk W n (jjm l) with | none=>(16,[]) | some (X,s)=>if jwn s=0 then (0,jbr W X) else (16,[]))):=by
 obtain⟨A,c,rfl,hc,hr⟩:=hv
 have hp:=hW.pos
 have C1:=jq (jjx (W:Int) true hW.right)
 have C2:=jq (read_all A l.length c l w hr rfl (by omega))
 have C3:=jq (fun (g:Nat) (w':World) (h:jjw w' g (jjm l) 0)=>taken_st hp.2 g n (jjm l) (by rw[jjs];omega) hn w' h)
 have C4:=jq (fun (A':Option Addr) (X:List Nat) (c':Nat) (w':World) (h:Rd w' w'.heap.size A' (wvs X)) (hb:X.length≤1000000) (hx:∀ x∈X,x<2^(8*W))=>qyl W hW A' X.length c' X w' h rfl (by omega) (fun x hq=>Nat.lt_of_lt_of_le (hx x hq) (Nat.pow_le_pow_right (by decide) (show 8*W≤64 by omega))))
 have HS:=jq (fun (X:List Nat) (s:List Bool × Nat) (h:jkk W n (jjm l)=some (X,s))=>(qwz h))
 have HAL:=jq (show (jjm l).length≤1000000 by rw[jjs];omega)
 obtain⟨o,ho⟩:∃ o,o=jkk W n (jjm l):=⟨_,rfl⟩
 rw[←ho] at C3 HS ⊢
 have hni:(n:Int)≤67108864:=by omega
 clear hr hW hp ho
 go_enter func52,ntmps52
 go_wp2_with fail
 refine (C1.out _).mono ?_
 rintro e w' ⟨rfl,rfl⟩
 go_wp2_with fail
 refine C2.out.mono ?_
 rintro e w1 ⟨g,rfl,hg,hrd,hb1'⟩
 have HB1:=jq hb1'
 have HG:=jq hg
 have C5:=jq (C3.out g w1 hrd)
 clear hg hrd hb1' C2 C3
 go_wp2_with fail
 refine C5.out.mono ?_
 rintro e w2 ⟨ho,v2,ok,rfl,⟨A2,n2,c2,rfl⟩,hcase⟩
 have HB2:=jq (HB1.out.trans ((ho.base HG.out).below HB1.out.size))
 clear ho C5
 cases o with
 | none =>
  simp only at hcase
  subst hcase
  clear HS
  go_wp2
  go_ret2
  exact⟨_,rfl,HB2.out,jdz _⟩
 | some q =>
  obtain⟨X,s⟩:=q
  simp only at hcase ⊢
  obtain⟨hok,hown⟩:=hcase
  by_cases h0:jwn s=0
  ·have hok1:ok=true:=by rw[hok];simpa using h0
   subst hok1
   obtain⟨e1,e2,e3⟩:=HS.out X s rfl
   obtain⟨A3,c3,hv3,-,-,-⟩:=jjk hown
   injection hv3 with f1 f2 f3
   subst f1 f2 f3
   have C6:=jq (C4.out A2 X c2 w2 (Rd.of_own hown) (by have:=HAL.out;omega) e3)
   have H0:=jq h0
   clear hok hown e1 e2 e3 C4 HS h0
   go_wp2_with fail
   refine C6.out.mono ?_
   rintro e w3 ⟨v3,rfl,hv3,hb3⟩
   have HV:=jq hv3
   have HB3:=jq (HB2.out.trans (hb3.mono HB2.out.size))
   clear hv3 hb3 C6
   go_wp2
   go_ret2
   exact⟨_,rfl,HB3.out,HV.out⟩
  ·have hok1:ok=false:=by rw[hok];simpa using h0
   subst hok1
   have H0:=jq h0
   clear hok hown C4 HS h0
   go_wp2
   go_ret2
   exact⟨_,rfl,HB2.out,jdz _⟩
theorem gorUnpack_any (W n:Int) (l:List UInt8) (v:Value) (w:World) (hv:jjz l v w) (hl:l.length≤125000) :
  Calls prog 52 #[v,.int .i64 W,.int .i64 n] w (GUnpR w (gorR W n l)):=by
 by_cases h:jqj W=true∧0≤n∧n≤67108864
 ·obtain⟨h1,h2,h3⟩:=h
  obtain⟨V,rfl,hV⟩:=jdk h1
  obtain⟨m,rfl⟩:=Int.eq_ofNat_of_zero_le h2
  unfold gorR
  rw[if_pos ⟨h1,h2,h3⟩]
  exact gorUnpack_st hV l v m (by omega) w hv hl
 ·unfold gorR
  rw[if_neg h]
  exact gorUnpack_arg W n v w h
end
end Go.Proofs.YtflcmmeoppdhdaaGreatDoor
