/- A range over a function that keeps its place in a box of its own, and whose rounds all go on: the iterator turns that box between two rounds; a round keeps the blocks that the iterator names. · A .. -/
import Derived.Test.YtflcmmeoppdhdaaGreatDoorQ01
import Derived.RangeFuncNested
import Derived.RangeFuncBox
import Derived.Below
import Derived.Deep.Draws
set_option maxHeartbeats 1000000
set_option maxRecDepth 100000
namespace Go.Proofs.YtflcmmeoppdhdaaGreatDoor
section
open Go.RowKit
section
variable {α:Type} {P:Program}
def jyg (keep:Nat→Prop) (W W':World):Prop:=W.heap.size≤W'.heap.size∧∀ k,keep k→W'.heap[k]?=W.heap[k]?
theorem jyg.trans {keep:Nat→Prop} {A B C:World} (h:jyg keep A B) (k:jyg keep B C):jyg keep A C:=⟨Nat.le_trans h.1 k.1,fun i hi=>(k.2 i hi).trans (h.2 i hi)⟩
def HandsOn (n:Nat) (P:Program) (g:Nat) (lb:Array Value) (Bp:Nat) (keep:Nat→Prop) (encs:α→Array Value) (xs:List α) (w:World):Prop :=
 ∀ (l:Nat) (J:List α→World→Prop) (W:World),jyg keep w W→(∀ s A v,J s A→J s (A.setCell ⟨Bp,0,none⟩ v))→(∀ s A k,J s A→J s (A.drewN k)) →
  (∀ pre x rest W1,pre++x::rest=xs→J pre W1→YieldAt Fence.wide (n - 1) P l (encs x) W1 fun e W'=>e=.returned (.bool true)∧J (pre++[x]) W'∧jyg keep W1 W') →
  J [] W→CallsIn Fence.wide n P g (#[.func (.yield l) #[] #[]]++lb) W fun e W'=>(∃ v,e=.returned v)∧J xs W'
def goesOn (B:Nat) (keep:Nat→Prop) (I:World→Prop) (W:World):Exit→Act→World→Prop
 | .normal,_,W'=>KeepsFrom B W W'∧jyg keep W W'∧I W'
 | _,_,_=>False
theorem jvl {A:World} {b k:Nat} {v:Value} (h:k≠b):(A.setCell ⟨b,0,none⟩ v).heap[k]?=A.heap[k]?:=Below.heap_setCell _ _ _ k h
theorem jkw {n:Nat} {g:Operand} {ps:Array Tmp} {assign body:Code} {Q:Exit→Act→World→Prop} {a:Act} {w:World}
  (h1:1≤n) {gf:Nat} {lb:Array Value} (hg:a.eval g=.func (.func gf) #[] lb) (eg:∀ args w,(callFunc gf args).run P w=.ok (.enter gf args) w)
  {Bp:Nat} {keep:Nat→Prop} {encs:α→Array Value} {xs:List α} (hseq:HandsOn (n - 1) P gf lb Bp keep encs xs w) (hlt:∀ k,keep k→k<w.heap.size) (hBp:Bp<w.heap.size) (hps:∀ x,(encs x).size=ps.size)
  (I:List α→World→Prop)
  (hI:∀ s A B row,I s A→A.grownBy B row→(∀ r,row=some r→r=Bp∨(w.heap.size≤r∧∃ o:Obj,A.heap[r]?=some o∧o.isCells=false))→I s B) (hId:∀ s A k,I s A→I s (A.drewN k)) (h0:I [] w) (a₁:α→Act)
  (hassign:∀ (l:Nat) (x:α) (W:World) (K:Act→World→Prop),K (a₁ x) W →
   assign.wpIn (Fence.wide.inRound l) (n - 1 - 1) P (Exit.then K (fun _ _ _=>False)) { tmps:=(ps.zip (encs x)).foldl (fun t (p,v)=>t.setIfInBounds p v) a.tmps,defers:=[] } W)
  (hbody:∀ (l:Nat) (pre:List α) (x:α) (rest:List α) (W:World),pre++x::rest=xs→I pre W→w.heap.size≤W.heap.size→(∀ k,keep k→W.heap[k]?=w.heap[k]?∨k=Bp) →
   body.wpIn (Fence.wide.inRound l) (n - 1 - 1) P (goesOn w.heap.size keep (I (pre++[x])) W) (a₁ x) W)
  (hdone:∀ (D:Nat) (W:World),w.heap.size≤D→I xs W→W.heap[D]?=some (.deferred (some []))→Q .normal { a with defers:={ target:=.collected D,args:=#[] }::a.defers } W) :
  (Code.rangeFunc g ps assign body).wpIn Fence.wide n P Q a w:=by
 refine wpIn_rangeFunc ?_
 intro fn hfn
 obtain⟨rec,hrec⟩:∃ rec:LoopState→Loop,rec=fun st=>{ state:=st,pending:=none,fn,tmps:=a.tmps,params:=ps,assign,body,defers:=w.heap.size }:=⟨_,rfl⟩
 obtain⟨W1,hW1⟩:∃ W1,(w.alloc (.deferred (some []))).alloc (.loop (rec .ready))=W1:=⟨_,rfl⟩
 have hsz:W1.heap.size=w.heap.size+2:=by rw[←hW1];simp
 have hrow:W1.heap[w.heap.size+1]?=some (.loop (rec .ready)):=by
  rw[←hW1];have:=World.alloc_heap_new (w.alloc (.deferred (some []))) (.loop (rec .ready));rwa [World.size_alloc] at this
 have hdef:W1.heap[w.heap.size]?=some (.deferred (some [])):=by
  rw[←hW1];exact (Below.heap_alloc _ _ _ (by simp)).trans (World.alloc_heap_new w _)
 have hold:∀ k,k<w.heap.size→W1.heap[k]?=w.heap[k]?:=fun k hk=>by
  rw[←hW1,Below.heap_alloc _ _ _ (by simp;omega),Below.heap_alloc _ _ _ hk]
 have hI1:I [] W1:=by
  rw[←hW1]
  exact hI _ _ _ none (hI _ _ _ none h0 (World.grownBy_alloc _ _ none) (fun r e=>by cases e)) (World.grownBy_alloc _ _ none) (fun r e=>by cases e)
 have hput:∀ s (A:World) (o o':Obj),I s A→A.heap[w.heap.size+1]?=some o→o.isCells=false→I s (A.putObj (w.heap.size+1) o'):=fun s A o o' hs ho hc =>
  hI s A _ (some (w.heap.size+1)) hs (grownBy_putObj' A _ o') (fun r e=>by cases e;exact .inr ⟨by omega,o,ho,hc⟩)
 have kput:∀ (A:World) (o':Obj),jyg keep A (A.putObj (w.heap.size+1) o'):=fun A o' =>
  ⟨by simp,fun k hk=>World.putObj_heap_other (by have:=hlt k hk;omega)⟩
 refine⟨w.heap.size+1,[{ target:=.collected w.heap.size,args:=#[] }],W1,{ target:=.fn (.func gf) lb,args:=#[.func (.yield (w.heap.size+1)) #[] #[]] },W1,gf,
  #[.func (.yield (w.heap.size+1)) #[] #[]]++lb,W1,?_,?_,fun _ _=>trivial,?_,fun _=>h1,?_⟩
 ·rw[←hW1,hrec];exact run_enterLoop_outer _ _ _ _ _
 ·simp only[resolve,hg]
  simp[go_sem]
 ·simp[invoke,go_sem,eg]
 ·refine (hseq (w.heap.size+1)
   (fun pre W=>I pre W∧W.heap[w.heap.size+1]?=some (.loop (rec .ready))∧W.heap[w.heap.size]?=some (.deferred (some []))∧w.heap.size≤W.heap.size∧(∀ k,keep k→W.heap[k]?=w.heap[k]?∨k=Bp))
   W1 ⟨by omega,fun k hk=>hold k (hlt k hk)⟩ ?_ (fun s A k h=>⟨hId s A k h.1,h.2⟩) ?_ ⟨hI1,hrow,hdef,by omega,fun k hk=>.inl (hold k (hlt k hk))⟩).mono ?_
  ·rintro s A v ⟨x1,x2,x3,x4,x5⟩
   refine⟨hI s A _ (some Bp) x1 (grownBy_setCell' A Bp v) (fun r e=>by cases e;exact .inl rfl),(jvl (by omega)).trans x2,(jvl (by omega)).trans x3,Nat.le_trans x4 (grownBy_setCell' A Bp v).size,fun k hk=>?_⟩
   by_cases e:k=Bp
   ·exact .inr e
   ·rcases x5 k hk with h | h
    ·exact .inl ((jvl e).trans h)
    ·exact .inr h
  ·rintro pre x rest W hxs ⟨x1,x2,x3,x4,x5⟩
   have hlt2:w.heap.size+1<W.heap.size:=(Array.getElem?_eq_some_iff.1 x2).1
   have hy:=run_yield (P:=P) (args:=encs x) x2 (by rw[hrec];exact hps x)
   rw[hrec] at hy
   refine⟨fn,_,assign,body,hy,roundIn_of_wpIn hfn (hassign _ x W _ ⟨_,run_beginRound x2 (by rw[hrec]),?_⟩)⟩
   obtain⟨W2,hW2⟩:∃ W2,W.putObj (w.heap.size+1) (.loop { rec .ready with state:=.busy })=W2:=⟨_,rfl⟩
   have y2:W2.heap[w.heap.size+1]?=some (.loop { rec .ready with state:=.busy }):=by rw[←hW2];exact World.putObj_heap_same hlt2
   have y3:W2.heap[w.heap.size]?=some (.deferred (some [])):=by rw[←hW2];exact (World.putObj_heap_other (by omega)).trans x3
   have y1:I pre W2:=by rw[←hW2];exact hput _ _ _ _ x1 x2 rfl
   have y4:w.heap.size≤W2.heap.size:=by rw[←hW2];simpa using x4
   have yk:jyg keep W W2:=by rw[←hW2];exact kput _ _
   have y5:∀ k,keep k→W2.heap[k]?=w.heap[k]?∨k=Bp:=fun k hk=>(x5 k hk).imp_left fun h=>(yk.2 k hk).trans h
   rw[hW2]
   refine wpIn_mono (hbody _ pre x rest W2 hxs y1 y4 y5) ?_
   rintro e a3 W3 hp
   cases e with
   | normal =>
    obtain⟨hk3,hkp3,hi3⟩:=hp
    have z2:=hk3.same _ _ (by omega) y2 rfl
    have z3:=hk3.same _ _ jw y3 rfl
    have hend:=run_endRound (P:=P) none z2
    rw[hrec] at hend z2
    refine⟨_,_,hend,rfl,⟨hput _ _ _ _ hi3 z2 rfl,?_,(World.putObj_heap_other (by omega)).trans z3,?_,fun k hk=>?_⟩,yk.trans (hkp3.trans (kput _ _))⟩
    ·rw[hrec];exact World.putObj_heap_same (Array.getElem?_eq_some_iff.1 z2).1
    ·have:=hk3.size;simp;omega
    ·exact (y5 k hk).imp_left fun h=>((kput _ _).2 k hk).trans ((hkp3.2 k hk).trans h)
   | ret=>exact hp.elim
   | exit id=>exact hp.elim
   | goto t=>exact hp.elim
   | panic ch=>exact hp.elim
   | outgrown=>exact hp.elim
  ·rintro e W2 ⟨⟨v,rfl⟩,x1,x2,x3,x4,-⟩
   have hend:=run_endLoop (P:=P) x2 (by rw[hrec];simp)
   rw[hrec] at hend
   exact⟨none,_,hend,hdone _ _ jw (hput _ _ _ _ x1 x2 rfl) ((World.putObj_heap_other (by omega)).trans x3)⟩
end
section
variable {α:Type} {P:Program}
def HandsStill (n:Nat) (P:Program) (g:Nat) (lb:Array Value) (keep:Nat→Prop) (encs:α→Array Value) (xs:List α) (w:World):Prop :=
 ∀ (l:Nat) (J:List α→World→Prop) (W:World),jyg keep w W →
  (∀ pre x rest W1,pre++x::rest=xs→J pre W1→YieldAt Fence.wide (n - 1) P l (encs x) W1 fun e W'=>e=.returned (.bool true)∧J (pre++[x]) W'∧jyg keep W1 W') →
  J [] W→CallsIn Fence.wide n P g (#[.func (.yield l) #[] #[]]++lb) W fun e W'=>(∃ v,e=.returned v)∧J xs W'
theorem wpIn_range_still {n:Nat} {g:Operand} {ps:Array Tmp} {assign body:Code} {Q:Exit→Act→World→Prop} {a:Act} {w:World}
  (h1:1≤n) {gf:Nat} {lb:Array Value} (hg:a.eval g=.func (.func gf) #[] lb) (eg:∀ args w,(callFunc gf args).run P w=.ok (.enter gf args) w)
  {keep:Nat→Prop} {encs:α→Array Value} {xs:List α} (hseq:HandsStill (n - 1) P gf lb keep encs xs w) (hlt:∀ k,keep k→k<w.heap.size) (hps:∀ x,(encs x).size=ps.size)
  (I:List α→World→Prop)
  (hI:∀ s A B row,I s A→A.grownBy B row→(∀ r,row=some r→w.heap.size≤r∧∃ o:Obj,A.heap[r]?=some o∧o.isCells=false)→I s B) (h0:I [] w) (a₁:α→Act)
  (hassign:∀ (l:Nat) (x:α) (W:World) (K:Act→World→Prop),K (a₁ x) W →
   assign.wpIn (Fence.wide.inRound l) (n - 1 - 1) P (Exit.then K (fun _ _ _=>False)) { tmps:=(ps.zip (encs x)).foldl (fun t (p,v)=>t.setIfInBounds p v) a.tmps,defers:=[] } W)
  (hbody:∀ (l:Nat) (pre:List α) (x:α) (rest:List α) (W:World),pre++x::rest=xs→I pre W→w.heap.size≤W.heap.size→(∀ k,keep k→W.heap[k]?=w.heap[k]?) →
   body.wpIn (Fence.wide.inRound l) (n - 1 - 1) P (goesOn w.heap.size keep (I (pre++[x])) W) (a₁ x) W)
  (hdone:∀ (D:Nat) (W:World),w.heap.size≤D→I xs W→W.heap[D]?=some (.deferred (some []))→Q .normal { a with defers:={ target:=.collected D,args:=#[] }::a.defers } W) :
  (Code.rangeFunc g ps assign body).wpIn Fence.wide n P Q a w:=by
 refine wpIn_rangeFunc ?_
 intro fn hfn
 obtain⟨rec,hrec⟩:∃ rec:LoopState→Loop,rec=fun st=>{ state:=st,pending:=none,fn,tmps:=a.tmps,params:=ps,assign,body,defers:=w.heap.size }:=⟨_,rfl⟩
 obtain⟨W1,hW1⟩:∃ W1,(w.alloc (.deferred (some []))).alloc (.loop (rec .ready))=W1:=⟨_,rfl⟩
 have hsz:W1.heap.size=w.heap.size+2:=by rw[←hW1];simp
 have hrow:W1.heap[w.heap.size+1]?=some (.loop (rec .ready)):=by
  rw[←hW1];have:=World.alloc_heap_new (w.alloc (.deferred (some []))) (.loop (rec .ready));rwa [World.size_alloc] at this
 have hdef:W1.heap[w.heap.size]?=some (.deferred (some [])):=by
  rw[←hW1];exact (Below.heap_alloc _ _ _ (by simp)).trans (World.alloc_heap_new w _)
 have hold:∀ k,k<w.heap.size→W1.heap[k]?=w.heap[k]?:=fun k hk=>by
  rw[←hW1,Below.heap_alloc _ _ _ (by simp;omega),Below.heap_alloc _ _ _ hk]
 have hI1:I [] W1:=by
  rw[←hW1]
  exact hI _ _ _ none (hI _ _ _ none h0 (World.grownBy_alloc _ _ none) (fun r e=>by cases e)) (World.grownBy_alloc _ _ none) (fun r e=>by cases e)
 have hput:∀ s (A:World) (o o':Obj),I s A→A.heap[w.heap.size+1]?=some o→o.isCells=false→I s (A.putObj (w.heap.size+1) o'):=fun s A o o' hs ho hc =>
  hI s A _ (some (w.heap.size+1)) hs (grownBy_putObj' A _ o') (fun r e=>by cases e;exact⟨by omega,o,ho,hc⟩)
 have kput:∀ (A:World) (o':Obj),jyg keep A (A.putObj (w.heap.size+1) o'):=fun A o' =>
  ⟨by simp,fun k hk=>World.putObj_heap_other (by have:=hlt k hk;omega)⟩
 refine⟨w.heap.size+1,[{ target:=.collected w.heap.size,args:=#[] }],W1,{ target:=.fn (.func gf) lb,args:=#[.func (.yield (w.heap.size+1)) #[] #[]] },W1,gf,
  #[.func (.yield (w.heap.size+1)) #[] #[]]++lb,W1,?_,?_,fun _ _=>trivial,?_,fun _=>h1,?_⟩
 ·rw[←hW1,hrec];exact run_enterLoop_outer _ _ _ _ _
 ·simp only[resolve,hg]
  simp[go_sem]
 ·simp[invoke,go_sem,eg]
 ·refine (hseq (w.heap.size+1)
   (fun pre W=>I pre W∧W.heap[w.heap.size+1]?=some (.loop (rec .ready))∧W.heap[w.heap.size]?=some (.deferred (some []))∧w.heap.size≤W.heap.size∧(∀ k,keep k→W.heap[k]?=w.heap[k]?))
   W1 ⟨by omega,fun k hk=>hold k (hlt k hk)⟩ ?_ ⟨hI1,hrow,hdef,by omega,fun k hk=>hold k (hlt k hk)⟩).mono ?_
  ·rintro pre x rest W hxs ⟨x1,x2,x3,x4,x5⟩
   have hlt2:w.heap.size+1<W.heap.size:=(Array.getElem?_eq_some_iff.1 x2).1
   have hy:=run_yield (P:=P) (args:=encs x) x2 (by rw[hrec];exact hps x)
   rw[hrec] at hy
   refine⟨fn,_,assign,body,hy,roundIn_of_wpIn hfn (hassign _ x W _ ⟨_,run_beginRound x2 (by rw[hrec]),?_⟩)⟩
   obtain⟨W2,hW2⟩:∃ W2,W.putObj (w.heap.size+1) (.loop { rec .ready with state:=.busy })=W2:=⟨_,rfl⟩
   have y2:W2.heap[w.heap.size+1]?=some (.loop { rec .ready with state:=.busy }):=by rw[←hW2];exact World.putObj_heap_same hlt2
   have y3:W2.heap[w.heap.size]?=some (.deferred (some [])):=by rw[←hW2];exact (World.putObj_heap_other (by omega)).trans x3
   have y1:I pre W2:=by rw[←hW2];exact hput _ _ _ _ x1 x2 rfl
   have y4:w.heap.size≤W2.heap.size:=by rw[←hW2];simpa using x4
   have yk:jyg keep W W2:=by rw[←hW2];exact kput _ _
   have y5:∀ k,keep k→W2.heap[k]?=w.heap[k]?:=fun k hk=>(yk.2 k hk).trans (x5 k hk)
   rw[hW2]
   refine wpIn_mono (hbody _ pre x rest W2 hxs y1 y4 y5) ?_
   rintro e a3 W3 hp
   cases e with
   | normal =>
    obtain⟨hk3,hkp3,hi3⟩:=hp
    have z2:=hk3.same _ _ (by omega) y2 rfl
    have z3:=hk3.same _ _ jw y3 rfl
    have hend:=run_endRound (P:=P) none z2
    rw[hrec] at hend z2
    refine⟨_,_,hend,rfl,⟨hput _ _ _ _ hi3 z2 rfl,?_,(World.putObj_heap_other (by omega)).trans z3,?_,fun k hk=>?_⟩,yk.trans (hkp3.trans (kput _ _))⟩
    ·rw[hrec];exact World.putObj_heap_same (Array.getElem?_eq_some_iff.1 z2).1
    ·have:=hk3.size;simp;omega
    ·exact ((kput _ _).2 k hk).trans ((hkp3.2 k hk).trans (y5 k hk))
   | ret=>exact hp.elim
   | exit id=>exact hp.elim
   | goto t=>exact hp.elim
   | panic ch=>exact hp.elim
   | outgrown=>exact hp.elim
  ·rintro e W2 ⟨⟨v,rfl⟩,x1,x2,x3,x4,-⟩
   have hend:=run_endLoop (P:=P) x2 (by rw[hrec];simp)
   rw[hrec] at hend
   exact⟨none,_,hend,hdone _ _ jw (hput _ _ _ _ x1 x2 rfl) ((World.putObj_heap_other (by omega)).trans x3)⟩
end
end
end Go.Proofs.YtflcmmeoppdhdaaGreatDoor
