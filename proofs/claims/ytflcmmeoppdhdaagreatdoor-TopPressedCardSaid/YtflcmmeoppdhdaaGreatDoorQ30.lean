/- A range over a function that turns what is its own (blocks of S), and whose rounds all go on: a round keeps the blocks that the iterator names, the iterator keeps what the rounds lay. Out of RangeState's text. -/
import Derived.Test.YtflcmmeoppdhdaaGreatDoorQ04
import Derived.Test.YtflcmmeoppdhdaaGreatDoorQ19
set_option maxHeartbeats 1000000
set_option maxRecDepth 100000
namespace Go.Proofs.YtflcmmeoppdhdaaGreatDoor
section
open Go.RowKit
structure jwy (N:Nat) (S:List Nat) (w w':World):Prop where
 os:w'.os=w.os
 tape:w'.tape=w.tape
 output:w'.output=w.output
 size:w.heap.size≤w'.heap.size
 block:∀ k,k<w.heap.size→k∉S→(N≤k∧∃ o:Obj,w.heap[k]?=some o∧o.isCells=false)∨w'.heap[k]?=w.heap[k]?
section
variable {N:Nat} {S:List Nat} {w w':World}
theorem jwy.of_only (h:jqx S w w'):jwy N S w w':=⟨h.os,h.tape,h.output,h.size,fun k hk h1=>.inr (h.block k hk h1)⟩
theorem jwy.of_alloc (w:World) (o:Obj):jwy N S w (w.alloc o):=⟨rfl,rfl,rfl,by simp,fun k hk _=>.inr (Below.heap_alloc _ _ _ hk)⟩
theorem jwy.of_put {l:Nat} {o:Obj} (hl:N≤l) (h:w.heap[l]?=some o) (hc:o.isCells=false) (o':Obj):jwy N S w (w.putObj l o') :=
 ⟨rfl,rfl,rfl,by simp,fun k hk _=>by
  by_cases e:k=l
  ·subst e;exact .inl ⟨hl,o,h,hc⟩
  ·exact .inr (World.putObj_heap_other e)⟩
theorem jwy.blk {g:Nat} {t:TypeId} {cs:List Value} (h:jwy N S w w') (hb:Blk w g t cs) (h1:g∉S):Blk w' g t cs:=by
 rcases h.block g hb.lt h1 with ⟨-,o,ho,hc⟩ | e
 ·rw[show w.heap[g]?=_ from hb] at ho;cases ho;cases hc
 ·exact e.trans hb
theorem jwy.own {B n size:Nat} {t:TypeId} {v:Value} {xs:List Value} (h:jwy N S w w') (ho:w.ownsRow B t size v n xs) (h1:∀ k∈S,k<B):w'.ownsRow B t size v n xs:=by
 refine⟨ho.1,?_⟩
 rcases ho.2 with h0 | ⟨g,cap,cur,rfl,hbg,hg,rest⟩
 ·exact .inl h0
 ·refine .inr ⟨g,cap,cur,rfl,hbg,?_,rest⟩
  rcases h.block g (Array.getElem?_eq_some_iff.1 hg).1 (fun hk=>by have:=h1 g hk;omega) with ⟨-,o,hoo,hc⟩ | e
  ·rw[hg] at hoo;cases hoo;cases hc
  ·exact e.trans hg
theorem jwy.below {B:Nat} (h:jwy N S w w') (hS:∀ k∈S,B≤k) (hN:B≤N) (hB:B≤w.heap.size):Below B w w' :=
 ⟨h.os,h.tape,h.output,h.size,fun k hk=>by
  rcases h.block k (by omega) (fun h1=>by have:=hS k h1;omega) with ⟨h2,-⟩ | e
  ·omega
  ·exact e⟩
end
section
variable {α:Type} {P:Program}
def HandsBoth (n:Nat) (P:Program) (g:Nat) (lb:Array Value) (S:List Nat) (keep:Nat→Prop) (encs:α→Array Value) (xs:List α) (E:World→Prop) (w:World):Prop :=
 ∀ (l:Nat) (J:List α→World→Prop) (W:World),jyg keep w W→(∀ s A B,J s A→jqx S A B→J s B) →
  (∀ pre x rest W1,pre++x::rest=xs→J pre W1→YieldAt Fence.wide (n - 1) P l (encs x) W1 fun e W'=>e=.returned (.bool true)∧J (pre++[x]) W'∧jyg keep W1 W') →
  J [] W→CallsIn Fence.wide n P g (#[.func (.yield l) #[] #[]]++lb) W fun e W'=>(∃ v,e=.returned v)∧J xs W'∧E W'
theorem wpIn_range_both {n:Nat} {g:Operand} {ps:Array Tmp} {assign body:Code} {Q:Exit→Act→World→Prop} {a:Act} {w:World}
  (h1:1≤n) {gf:Nat} {lb:Array Value} (hg:a.eval g=.func (.func gf) #[] lb) (eg:∀ args w,(callFunc gf args).run P w=.ok (.enter gf args) w)
  {S:List Nat} {keep:Nat→Prop} {encs:α→Array Value} {xs:List α} {E:World→Prop} (hseq:HandsBoth (n - 1) P gf lb S keep encs xs E w) (hlt:∀ k,keep k→k<w.heap.size) (hS:∀ k∈S,k<w.heap.size) (hps:∀ x,(encs x).size=ps.size)
  (hE:∀ A B,E A→jwy w.heap.size [] A B→E B)
  (I:List α→World→Prop) (hI:∀ s A B,I s A→jwy w.heap.size S A B→I s B) (h0:I [] w) (a₁:α→Act)
  (hassign:∀ (l:Nat) (x:α) (W:World) (K:Act→World→Prop),K (a₁ x) W →
   assign.wpIn (Fence.wide.inRound l) (n - 1 - 1) P (Exit.then K (fun _ _ _=>False)) { tmps:=(ps.zip (encs x)).foldl (fun t (p,v)=>t.setIfInBounds p v) a.tmps,defers:=[] } W)
  (hbody:∀ (l:Nat) (pre:List α) (x:α) (rest:List α) (W:World),pre++x::rest=xs→I pre W→w.heap.size≤W.heap.size →
   body.wpIn (Fence.wide.inRound l) (n - 1 - 1) P (goesOn w.heap.size keep (I (pre++[x])) W) (a₁ x) W)
  (hdone:∀ (D:Nat) (W:World),w.heap.size≤D→I xs W→E W→W.heap[D]?=some (.deferred (some []))→Q .normal { a with defers:={ target:=.collected D,args:=#[] }::a.defers } W) :
  (Code.rangeFunc g ps assign body).wpIn Fence.wide n P Q a w:=by
 refine wpIn_rangeFunc ?_
 intro fn hfn
 obtain⟨rec,hrec⟩:∃ rec:LoopState→Loop,rec=fun st=>{ state:=st,pending:=none,fn,tmps:=a.tmps,params:=ps,assign,body,defers:=w.heap.size }:=⟨_,rfl⟩
 obtain⟨W1,hW1⟩:∃ W1,(w.alloc (.deferred (some []))).alloc (.loop (rec .ready))=W1:=⟨_,rfl⟩
 have hsz:W1.heap.size=w.heap.size+2:=by rw[←hW1];simp
 have hrow:W1.heap[w.heap.size+1]?=some (.loop (rec .ready)):=by
  rw[←hW1];have:=World.alloc_heap_new (w.alloc (.deferred (some []))) (.loop (rec .ready));rwa [World.size_alloc] at this
 have hdef:W1.heap[w.heap.size]?=some (.deferred (some [])):=by
  rw[←hW1];exact (Below.heap_alloc _ _ _ (by simp)).trans (World.alloc_heap_new w _)
 have hold:∀ k,k<w.heap.size→W1.heap[k]?=w.heap[k]?:=fun k hk=>by
  rw[←hW1,Below.heap_alloc _ _ _ (by simp;omega),Below.heap_alloc _ _ _ hk]
 have hI1:I [] W1:=by
  rw[←hW1]
  exact hI _ _ _ (hI _ _ _ h0 (jwy.of_alloc _ _)) (jwy.of_alloc _ _)
 have hput:∀ s (A:World) (o o':Obj),I s A→A.heap[w.heap.size+1]?=some o→o.isCells=false→I s (A.putObj (w.heap.size+1) o'):=fun s A o o' hs ho hc =>
  hI s A _ hs (jwy.of_put (by omega) ho hc o')
 have kput:∀ (A:World) (o':Obj),jyg keep A (A.putObj (w.heap.size+1) o'):=fun A o' =>
  ⟨by simp,fun k hk=>World.putObj_heap_other (by have:=hlt k hk;omega)⟩
 have hns:∀ k,w.heap.size≤k→k∉S:=fun k hk h=>by have:=hS k h;omega
 refine⟨w.heap.size+1,[{ target:=.collected w.heap.size,args:=#[] }],W1,{ target:=.fn (.func gf) lb,args:=#[.func (.yield (w.heap.size+1)) #[] #[]] },W1,gf,
  #[.func (.yield (w.heap.size+1)) #[] #[]]++lb,W1,?_,?_,fun _ _=>trivial,?_,fun _=>h1,?_⟩
 ·rw[←hW1,hrec];exact run_enterLoop_outer _ _ _ _ _
 ·simp only[resolve,hg]
  simp[go_sem]
 ·simp[invoke,go_sem,eg]
 ·refine (hseq (w.heap.size+1)
   (fun pre W=>I pre W∧W.heap[w.heap.size+1]?=some (.loop (rec .ready))∧W.heap[w.heap.size]?=some (.deferred (some []))∧w.heap.size≤W.heap.size)
   W1 ⟨by omega,fun k hk=>hold k (hlt k hk)⟩ ?_ ?_ ⟨hI1,hrow,hdef,by omega⟩).mono ?_
  ·rintro s A B ⟨x1,x2,x3,x4⟩ hu
   have l2:=(Array.getElem?_eq_some_iff.1 x2).1
   exact⟨hI s A B x1 (jwy.of_only hu),(hu.block _ l2 (hns _ (by omega))).trans x2,(hu.block _ (by omega) (hns _ jw)).trans x3,Nat.le_trans x4 hu.size⟩
  ·rintro pre x rest W hxs ⟨x1,x2,x3,x4⟩
   have hlt2:w.heap.size+1<W.heap.size:=(Array.getElem?_eq_some_iff.1 x2).1
   have hy:=run_yield (P:=P) (args:=encs x) x2 (by rw[hrec];exact hps x)
   rw[hrec] at hy
   refine⟨fn,_,assign,body,hy,roundIn_of_wpIn hfn (hassign _ x W _ ⟨_,run_beginRound x2 (by rw[hrec]),?_⟩)⟩
   obtain⟨W2,hW2⟩:∃ W2,W.putObj (w.heap.size+1) (.loop { rec .ready with state:=.busy })=W2:=⟨_,rfl⟩
   have y2:W2.heap[w.heap.size+1]?=some (.loop { rec .ready with state:=.busy }):=by rw[←hW2];exact World.putObj_heap_same hlt2
   have y3:W2.heap[w.heap.size]?=some (.deferred (some [])):=by rw[←hW2];exact (World.putObj_heap_other (by omega)).trans x3
   have y1:I pre W2:=by rw[←hW2];exact hput _ _ _ _ x1 x2 rfl
   have y4:w.heap.size≤W2.heap.size:=by rw[←hW2];simpa using x4
   have yk:jyg keep W W2:=by rw[←hW2];exact kput _ _
   rw[hW2]
   refine wpIn_mono (hbody _ pre x rest W2 hxs y1 y4) ?_
   rintro e a3 W3 hp
   cases e with
   | normal =>
    obtain⟨hk3,hkp3,hi3⟩:=hp
    have z2:=hk3.same _ _ (by omega) y2 rfl
    have z3:=hk3.same _ _ jw y3 rfl
    have hend:=run_endRound (P:=P) none z2
    rw[hrec] at hend z2
    refine⟨_,_,hend,rfl,⟨hput _ _ _ _ hi3 z2 rfl,?_,(World.putObj_heap_other (by omega)).trans z3,?_⟩,yk.trans (hkp3.trans (kput _ _))⟩
    ·rw[hrec];exact World.putObj_heap_same (Array.getElem?_eq_some_iff.1 z2).1
    ·have:=hk3.size;simp;omega
   | ret=>exact hp.elim
   | exit id=>exact hp.elim
   | goto t=>exact hp.elim
   | panic ch=>exact hp.elim
   | outgrown=>exact hp.elim
  ·rintro e W2 ⟨⟨v,rfl⟩,⟨x1,x2,x3,x4⟩,he⟩
   have hend:=run_endLoop (P:=P) x2 (by rw[hrec];simp)
   rw[hrec] at hend
   exact⟨none,_,hend,hdone _ _ jw (hput _ _ _ _ x1 x2 rfl) (hE _ _ he (jwy.of_put (by omega) x2 rfl _)) ((World.putObj_heap_other (by omega)).trans x3)⟩
end
end
end Go.Proofs.YtflcmmeoppdhdaaGreatDoor
