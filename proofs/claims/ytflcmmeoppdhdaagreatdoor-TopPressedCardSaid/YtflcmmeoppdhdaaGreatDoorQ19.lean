/- Layer 25: the program's model: where it is, its step. · Layer 25: the program's model: keys, chances, P, Seen, Where. · Layer 25: the program's model: P and Seen. · Layer 25: the program's new model. .. -/
import Derived.Test.YtflcmmeoppdhdaaGreatDoorQ18
import Derived.OwnWalk
set_option maxHeartbeats 4000000
set_option maxRecDepth 100000
namespace Go.Proofs.YtflcmmeoppdhdaaGreatDoor
open Tryz
section
open Go.RowKit Go.Sort
structure jqx (S:List Nat) (w w':World):Prop where
 os:w'.os=w.os
 tape:w'.tape=w.tape
 output:w'.output=w.output
 size:w.heap.size≤w'.heap.size
 block:∀ k,k<w.heap.size→k∉S→w'.heap[k]?=w.heap[k]?
section
variable {S T:List Nat} {w w' w'':World}
theorem jqx.refl (S:List Nat) (w:World):jqx S w w:=⟨rfl,rfl,rfl,Nat.le_refl _,fun _ _ _=>rfl⟩
theorem jqx.trans (h:jqx S w w') (k:jqx S w' w''):jqx S w w'' :=
 ⟨k.os.trans h.os,k.tape.trans h.tape,k.output.trans h.output,Nat.le_trans h.size k.size,fun i hi h1=>(k.block i (Nat.lt_of_lt_of_le hi h.size) h1).trans (h.block i hi h1)⟩
theorem jqx.mono (h:jqx S w w') (hs:∀ k∈S,k∈T):jqx T w w':=⟨h.os,h.tape,h.output,h.size,fun i hi h1=>h.block i hi fun h2=>h1 (hs i h2)⟩
theorem jqx.drew (h:jqx S w w'):jqx S w w'.drew:=⟨h.os,h.tape,h.output,h.size,h.block⟩
theorem jqx.of_below (h:Below w.heap.size w w'):jqx S w w':=⟨h.os,h.tape,h.output,h.size,fun k hk _=>h.block k hk⟩
theorem jqx.of_turns {g:Nat} (h:jjq g g w w') (hg:g∈S):jqx S w w' :=
 ⟨h.os,h.tape,h.output,h.size,fun k hk h1=>have e:k≠g:=fun e=>h1 (e ▸ hg);h.block k hk e e⟩
theorem jqx.set_ (h:jqx S w w') {p:Addr} (hp:p.block∈S) (v:Value):jqx S w (w'.setCell p v) :=
 ⟨h.os,h.tape,h.output,Nat.le_trans h.size (by simp[World.setCell]),fun k hk h1=>(Below.heap_setCell _ _ _ k (fun e=>h1 (e ▸ hp))).trans (h.block k hk h1)⟩
theorem jqx.blk {g:Nat} {t:TypeId} {cs:List Value} (h:jqx S w w') (hb:Blk w g t cs) (h1:g∉S):Blk w' g t cs:=(h.block g hb.lt h1).trans hb
end
structure ModA where
 M:Nat
 F1:Nat
 C1:Nat
 F2:Nat
 C2:Nat
 F3:Nat
 C3:Nat
 X:Nat
def ModA.all (a:ModA):List Nat:=[a.M,a.C1,a.C2,a.C3,a.X]
def ModA.every (a:ModA):List Nat:=[a.M,a.C1,a.C2,a.C3,a.X,a.F1,a.F2,a.F3]
theorem ModA.all_every {a:ModA}:∀ k∈a.all,k∈a.every:=fun k hk=>by
 simp only[ModA.all,ModA.every,List.mem_cons,List.not_mem_nil,or_false] at hk ⊢
 omega
def modC (a:ModA) (p:PosD):List Value:=[.pointer (some ⟨a.F1,0,none⟩),.pointer (some ⟨a.F2,0,none⟩),.pointer (some ⟨a.F3,0,none⟩),.pointer (some ⟨a.X,0,none⟩),.int .i64 (p.node:Int),.int .i64 (p.last:Int),.int .i64 (p.ahead:Int)]
section
variable {w w':World} {a:ModA} {p:PosD}
theorem modStep_any (bit:Int) (hb:Blk w a.M 207 (modC a p)) (ho:p.ok) :
  Calls prog 207 #[.pointer (some ⟨a.M,0,none⟩),.int .i64 bit] w fun e w'=>(∃ u,e=.returned u)∧Blk w' a.M 207 (modC a (p.step bit))∧jqx [a.M] w w':=by
 obtain⟨o1,o2,o3,o4⟩:=ho
 unfold PosD.step nodeD
 unfold modC at hb ⊢
 obtain⟨n,l,h⟩:=p
 simp only at *
 have HB:=jq hb
 have c4:=hb.cell 4
 have f4:=hb.frozen 4
 have c5:=hb.cell 5
 have f5:=hb.frozen 5
 have f6:=hb.frozen 6
 have c6:=hb.cell 6
 simp only[jy,jx] at c4 c5 c6
 by_cases h0:bit=0
 ·subst h0
  rw[if_pos rfl]
  by_cases h1:256≤2*n+0
  ·rw[if_pos h1]
   have h2:256≤(n:Int)*2:=by omega
   have HN:=jq (show (n:Int)*2 - 256=((2*n+0 - 256:Nat):Int) by omega)
   clear hb h1
   go_enter func207,ntmps207
   go_wp2
   go_region
   go_wp2
   go_end0
   refine⟨⟨_,rfl⟩,?_,?_⟩
   ·rw[HN.out];exact ((((HB.out.set_ 4 _).set_ 4 _).set_ 5 _).set_ 6 _).drew_
   ·exact (((((jqx.refl [a.M] w).set_ (List.mem_singleton.2 rfl) _).set_ (List.mem_singleton.2 rfl) _).set_ (List.mem_singleton.2 rfl) _).set_ (List.mem_singleton.2 rfl) _).drew
  ·rw[if_neg h1]
   have h2:¬ (256≤(n:Int)*2):=by omega
   have HN:=jq (show (n:Int)*2=((2*n+0:Nat):Int) by omega)
   clear hb h1
   go_enter func207,ntmps207
   go_wp2
   go_end0
   refine⟨⟨_,rfl⟩,?_,?_⟩
   ·rw[HN.out];exact (HB.out.set_ 4 _)
   ·exact ((jqx.refl [a.M] w).set_ (List.mem_singleton.2 rfl) _)
 ·rw[if_neg h0]
  have hbb:(bit != 0)=true:=by simp[h0]
  by_cases h1:256≤2*n+1
  ·rw[if_pos h1]
   have h2:256≤(n:Int)*2+1:=by omega
   have HN:=jq (show (n:Int)*2+1 - 256=((2*n+1 - 256:Nat):Int) by omega)
   clear hb h1
   go_enter func207,ntmps207
   go_wp2
   go_region
   go_wp2
   go_end0
   refine⟨⟨_,rfl⟩,?_,?_⟩
   ·rw[HN.out];exact (((((HB.out.set_ 4 _).set_ 4 _).set_ 4 _).set_ 5 _).set_ 6 _).drew_
   ·exact ((((((jqx.refl [a.M] w).set_ (List.mem_singleton.2 rfl) _).set_ (List.mem_singleton.2 rfl) _).set_ (List.mem_singleton.2 rfl) _).set_ (List.mem_singleton.2 rfl) _).set_ (List.mem_singleton.2 rfl) _).drew
  ·rw[if_neg h1]
   have h2:¬ (256≤(n:Int)*2+1):=by omega
   have HN:=jq (show (n:Int)*2+1=((2*n+1:Nat):Int) by omega)
   clear hb h1
   go_enter func207,ntmps207
   go_wp2
   go_end0
   refine⟨⟨_,rfl⟩,?_,?_⟩
   ·rw[HN.out];exact ((HB.out.set_ 4 _).set_ 4 _)
   ·exact (((jqx.refl [a.M] w).set_ (List.mem_singleton.2 rfl) _).set_ (List.mem_singleton.2 rfl) _)
end
structure jzg (w:World) (a:ModA) (s:ModD):Prop where
 mb:Blk w a.M 207 (modC a s.p)
 b1:jqb w a.F1 a.C1 9 512 s.A
 b2:jqb w a.F2 a.C2 11 2048 s.B
 b3:jqb w a.F3 a.C3 13 8192 s.C
 x:jkt w a.X 3 s.W
 ok:s.ok
 n12:a.C1≠a.C2
 n13:a.C1≠a.C3
 n23:a.C2≠a.C3
section
variable {w w':World} {a:ModA} {s:ModD}
theorem jzg.grow (h:jzg w a s) (hb:Below w.heap.size w w'):jzg w' a s :=
 ⟨h.mb.grow hb,h.b1.grow hb,h.b2.grow hb,h.b3.grow hb,h.x.grow hb,h.ok,h.n12,h.n13,h.n23⟩
def keysV (p:PosD):Value:=.agg #[.int .u32 (p.k1:Int),.int .u32 (p.k2:Int),.int .u32 (p.k3:Int)]
theorem size_keys:(prog.info? 247).map (·.size)=some 3:=by kernel_rfl
theorem modKeys_any {p:PosD} (hb:Blk w a.M 207 (modC a p)) (ho:p.ok) :
  Calls prog 203 #[.pointer (some ⟨a.M,0,none⟩)] w fun e w'=>e=.returned (keysV p)∧Below w.heap.size w w':=by
 obtain⟨o1,o2,o3,o4⟩:=ho
 unfold keysV PosD.k1 PosD.k2 PosD.k3
 unfold modC at hb
 obtain⟨n,l,h⟩:=p
 simp only at *
 obtain⟨w1,hw1⟩:∃ w1,w1=w.alloc (.cells #[.int .u32 0,.int .u32 0,.int .u32 0] 247):=⟨_,rfl⟩
 have hb1:=hb.alloc_ (.cells #[.int .u32 0,.int .u32 0,.int .u32 0] 247)
 have hr1:Blk (w.alloc (.cells #[.int .u32 0,.int .u32 0,.int .u32 0] 247)) w.heap.size 247 [.int .u32 0,.int .u32 0,.int .u32 0]:=heap_alloc_new w _
 have hbel:=(Below.refl w.heap.size w).alloc jw (.cells #[.int .u32 0,.int .u32 0,.int .u32 0] 247)
 rw[←hw1] at hb1 hr1 hbel
 have c4:=hb1.cell 4
 have c5:=hb1.cell 5
 have c6:=hb1.cell 6
 simp only[jy,jx] at c4 c5 c6
 obtain⟨g,hg⟩:∃ g,g=w.heap.size:=⟨_,rfl⟩
 have HR:=jq (show Blk w1 g 247 [.int .u32 0,.int .u32 0,.int .u32 0] by rw[hg];exact hr1)
 have HBL:=jq (And.intro hbel (Nat.le_of_eq hg.symm))
 have HW:=jq (And.intro hw1 hg)
 clear hb hb1 hr1 hbel hw1 hg
 go_enter func203,ntmps203
 go_wp2
 rw[←HW.out.1,←HW.out.2]
 have hr:=HR.out
 have d0:=hr.cell 0
 have d1:=hr.cell 1
 have d2:=hr.cell 2
 have f0:=hr.frozen 0
 have f1:=hr.frozen 1
 have f2:=hr.frozen 2
 simp only[jy,jx] at d0 d1 d2
 clear hr
 go_quiet (fail)
 go_wp2
 have hfin:=((((HR.out.same (show (w1.drewN nq).heap=w1.heap from rfl)).set_ 0 (.int .u32 (n:Int))).set_ 1 (.int .u32 (65536+(l:Int)*256+(n:Int)))).set_ 2 (.int .u32 (16777216+(h:Int)*65536+(l:Int)*256+(n:Int))))
 refine bodyPost_ret (v:=.agg #[.int .u32 (n:Int),.int .u32 (65536+(l:Int)*256+(n:Int)),.int .u32 (16777216+(h:Int)*65536+(l:Int)*256+(n:Int))]) (results_cell_row results203 _ _ g 247 _ (0,0) _ rfl hfin underlying247 rfl size_keys) rfl ⟨?_,?_⟩
 ·rw[show ((65536+256*l+n:Nat):Int)=65536+(l:Int)*256+(n:Int) by omega,show ((16777216+65536*h+256*l+n:Nat):Int)=16777216+(h:Int)*65536+(l:Int)*256+(n:Int) by omega]
 ·exact (((jvb HBL.out.1).setCell (p:=⟨g,0,none⟩) HBL.out.2 _).setCell (p:=⟨g,1,none⟩) HBL.out.2 _).setCell (p:=⟨g,2,none⟩) HBL.out.2 _
theorem idxB (x y z:Value) (w:World):(Instr.index 205 (.agg #[x,y,z]) (.int .i64 0)).run prog w=.ok x w∧(Instr.index 205 (.agg #[x,y,z]) (.int .i64 1)).run prog w=.ok y w∧(Instr.index 205 (.agg #[x,y,z]) (.int .i64 2)).run prog w=.ok z w :=
 ⟨by kernel_rfl,by kernel_rfl,by kernel_rfl⟩
def chV (s:ModD):Value:=.agg #[.int .i64 ((s.A.getD s.i1 0:Nat):Int),.int .i64 ((s.B.getD s.i2 0:Nat):Int),.int .i64 ((s.C.getD s.i3 0:Nat):Int)]
theorem size_ints3:(prog.info? 208).map (·.size)=some 3:=by kernel_rfl
theorem qys (h:jzg w a s) :
  Calls prog 202 #[.pointer (some ⟨a.M,0,none⟩),keysV s.p] w fun e w'=>e=.returned (chV s)∧Below w.heap.size w w':=by
 have CP1:=jq (fun (W:World) (hb:Below w.heap.size w W)=>ctxP_any s.p.k1 (h.grow hb).b1)
 have CP2:=jq (fun (W:World) (hb:Below w.heap.size w W)=>ctxP_any s.p.k2 (h.grow hb).b2)
 have CP3:=jq (fun (W:World) (hb:Below w.heap.size w W)=>ctxP_any s.p.k3 (h.grow hb).b3)
 unfold keysV chV ModD.i1 ModD.i2 ModD.i3
 obtain⟨c1,hc1⟩:∃ c,c=s.A.getD (jzl s.p.k1 9) 0:=⟨_,rfl⟩
 obtain⟨c2,hc2⟩:∃ c,c=s.B.getD (jzl s.p.k2 11) 0:=⟨_,rfl⟩
 obtain⟨c3,hc3⟩:∃ c,c=s.C.getD (jzl s.p.k3 13) 0:=⟨_,rfl⟩
 rw[←hc1] at CP1 ⊢
 rw[←hc2] at CP2 ⊢
 rw[←hc3] at CP3 ⊢
 obtain⟨k1,hk1⟩:∃ k,k=s.p.k1:=⟨_,rfl⟩
 obtain⟨k2,hk2⟩:∃ k,k=s.p.k2:=⟨_,rfl⟩
 obtain⟨k3,hk3⟩:∃ k,k=s.p.k3:=⟨_,rfl⟩
 rw[←hk1] at CP1 ⊢
 rw[←hk2] at CP2 ⊢
 rw[←hk3] at CP3 ⊢
 have hb:=h.mb
 unfold modC at hb
 obtain⟨n,hn⟩:∃ n:Int,n=(s.p.node:Int):=⟨_,rfl⟩
 obtain⟨l,hl⟩:∃ n:Int,n=(s.p.last:Int):=⟨_,rfl⟩
 obtain⟨hd,hh⟩:∃ n:Int,n=(s.p.ahead:Int):=⟨_,rfl⟩
 rw[←hn,←hl,←hh] at hb
 clear hc1 hc2 hc3 hk1 hk2 hk3 hn hl hh h
 have hb1:=((Below.refl w.heap.size w).alloc jw (.cells #[.int .u32 (k1:Int),.int .u32 (k2:Int),.int .u32 (k3:Int)] 247))
 have hk1:Blk (w.alloc (.cells #[.int .u32 (k1:Int),.int .u32 (k2:Int),.int .u32 (k3:Int)] 247)) w.heap.size 247 [.int .u32 (k1:Int),.int .u32 (k2:Int),.int .u32 (k3:Int)]:=heap_alloc_new w _
 obtain⟨w1,hw1⟩:∃ w1,w1=w.alloc (.cells #[.int .u32 (k1:Int),.int .u32 (k2:Int),.int .u32 (k3:Int)] 247):=⟨_,rfl⟩
 rw[←hw1] at hb1 hk1
 have hb2:=hb1.alloc hb1.size (.cells #[.int .i64 0,.int .i64 0,.int .i64 0] 208)
 have hk2:=hk1.alloc_ (.cells #[.int .i64 0,.int .i64 0,.int .i64 0] 208)
 have hr2:Blk (w1.alloc (.cells #[.int .i64 0,.int .i64 0,.int .i64 0] 208)) w1.heap.size 208 [.int .i64 0,.int .i64 0,.int .i64 0]:=heap_alloc_new w1 _
 obtain⟨w2,hw2⟩:∃ w2,w2=w1.alloc (.cells #[.int .i64 0,.int .i64 0,.int .i64 0] 208):=⟨_,rfl⟩
 rw[←hw2] at hb2 hk2 hr2
 have hb3:=hb2.alloc hb2.size (.cells #[.int .i64 0,.int .i64 0,.int .i64 0] 208)
 have hk3:=hk2.alloc_ (.cells #[.int .i64 0,.int .i64 0,.int .i64 0] 208)
 have hr3:=hr2.alloc_ (.cells #[.int .i64 0,.int .i64 0,.int .i64 0] 208)
 have hs3:Blk (w2.alloc (.cells #[.int .i64 0,.int .i64 0,.int .i64 0] 208)) w2.heap.size 208 [.int .i64 0,.int .i64 0,.int .i64 0]:=heap_alloc_new w2 _
 obtain⟨w3,hw3⟩:∃ w3,w3=w2.alloc (.cells #[.int .i64 0,.int .i64 0,.int .i64 0] 208):=⟨_,rfl⟩
 rw[←hw3] at hb3 hk3 hr3 hs3
 have hm3:=hb.grow hb3
 obtain⟨gk,hgk⟩:∃ g,g=w.heap.size:=⟨_,rfl⟩
 obtain⟨g4,hg4⟩:∃ g,g=w1.heap.size:=⟨_,rfl⟩
 obtain⟨g5,hg5⟩:∃ g,g=w2.heap.size:=⟨_,rfl⟩
 rw[←hg5] at hs3
 rw[←hg4] at hr3
 have HNE:=jq (show gk≠g5 by rw[hgk];exact jxy hk3 hs3 (by decide))
 have HNE4:=jq (show g4≠g5 by rw[hg4,hg5];exact Nat.ne_of_lt hr2.lt)
 have HG5:=jq (show w.heap.size≤g5 by rw[hg5];exact hb2.size)
 have HG4:=jq (show w.heap.size≤g4 by rw[hg4];exact hb1.size)
 have HS3:=jq (And.intro (show Blk w3 gk 247 _ by rw[hgk];exact hk3) (And.intro hr3 (And.intro hs3 hb3)))
 have c0:=hm3.cell 0
 have c1':=hm3.cell 1
 have c2':=hm3.cell 2
 simp only[jy,jx] at c0 c1' c2'
 have e4:w.heap.size+1=g4:=by rw[hg4,hw1];simp
 have e5:g4+1=g5:=by rw[hg5,hw2,hg4];simp
 have HW:=jq (And.intro hw1 (And.intro hw2 (And.intro hw3 (And.intro hgk (And.intro e4 e5)))))
 rw[hw3,hw2,hw1] at c0 c1' c2'
 clear hb hb1 hb2 hb3 hk1 hk2 hk3 hr2 hr3 hs3 hm3 hw1 hw2 hw3 hgk hg4 hg5 e4 e5
 go_enter func202,ntmps202
 go_wp2
 rw[←HW.out.1,←HW.out.2.1,←HW.out.2.2.1,HW.out.2.2.2.2.1,HW.out.2.2.2.2.2,←HW.out.2.2.2.1]
 clear c0 c1' c2'
 go_loopw [12] (fun ii wr =>
  (ii=.int .i64 0∧Blk wr g5 208 [.int .i64 0,.int .i64 0,.int .i64 0]∧Blk wr gk 247 [.int .u32 (k1:Int),.int .u32 (k2:Int),.int .u32 (k3:Int)]∧Blk wr g4 208 [.int .i64 0,.int .i64 0,.int .i64 0]∧Below w.heap.size w wr)
  ∨ (ii=.int .i64 1∧Blk wr g5 208 [.int .i64 (c1:Int),.int .i64 0,.int .i64 0]∧Blk wr gk 247 [.int .u32 (k1:Int),.int .u32 (k2:Int),.int .u32 (k3:Int)]∧Blk wr g4 208 [.int .i64 0,.int .i64 0,.int .i64 0]∧Below w.heap.size w wr)
  ∨ (ii=.int .i64 2∧Blk wr g5 208 [.int .i64 (c1:Int),.int .i64 (c2:Int),.int .i64 0]∧Blk wr gk 247 [.int .u32 (k1:Int),.int .u32 (k2:Int),.int .u32 (k3:Int)]∧Blk wr g4 208 [.int .i64 0,.int .i64 0,.int .i64 0]∧Below w.heap.size w wr)
  ∨ (ii=.int .i64 3∧Blk wr g5 208 [.int .i64 (c1:Int),.int .i64 (c2:Int),.int .i64 (c3:Int)]∧Blk wr gk 247 [.int .u32 (k1:Int),.int .u32 (k2:Int),.int .u32 (k3:Int)]∧Blk wr g4 208 [.int .i64 0,.int .i64 0,.int .i64 0]∧Below w.heap.size w wr)) (fun ii _=>3 - (intOf ii).toNat)
 case atStart=>exact .inl ⟨rfl,HS3.out.2.2.1,HS3.out.1,HS3.out.2.1,HS3.out.2.2.2⟩
 case round =>
  clear HS3 HW
  rcases hrel with ⟨rfl,hJ⟩ | ⟨rfl,hJ⟩ | ⟨rfl,hJ⟩ | ⟨rfl,hJ⟩
  ·obtain⟨hc,hk,h4,hl⟩:=hJ
   have ix:=(idxB (.pointer (some ⟨a.F1,0,none⟩)) (.pointer (some ⟨a.F2,0,none⟩)) (.pointer (some ⟨a.F3,0,none⟩)) wr).1
   have CP:=jq (CP1.out wr hl)
   have HC:=jq hc
   have HK:=jq hk
   have H4:=jq h4
   have HL:=jq hl
   have kk:=hk.cell 0
   simp only[jy] at kk
   clear hc hk hl h4
   go_wp2_with fail
   refine CP.out.mono ?_
   rintro e w4 ⟨rfl,j,hw⟩
   have hc4:=HC.out.same (w':=w4) (by rw[hw];rfl)
   have dd:=hc4.cell 0
   have ff:=hc4.frozen 0
   simp only[jy] at dd
   have hset:=hc4.set_ 0 (.int .i64 (c1:Int))
   simp only[List.set_cons_zero] at hset
   have HS:=jq hset
   have HK4:=jq ((HK.out.same (w':=w4) (by rw[hw];rfl)).setOther ⟨g5,0,none⟩ (.int .i64 (c1:Int)) HNE.out)
   have H44:=jq ((H4.out.same (w':=w4) (by rw[hw];rfl)).setOther ⟨g5,0,none⟩ (.int .i64 (c1:Int)) HNE4.out)
   have HL4:=jq ((show Below w.heap.size w w4 by rw[hw];exact jvb HL.out).setCell (p:=⟨g5,0,none⟩) HG5.out (.int .i64 (c1:Int)))
   clear hc4 hset hw
   go_wp2
   go_roundw
   case rel=>exact .inr (.inl ⟨rfl,HS.out,HK4.out,H44.out,HL4.out⟩)
   case measure=>simp[intOf]
  ·obtain⟨hc,hk,h4,hl⟩:=hJ
   have ix:=(idxB (.pointer (some ⟨a.F1,0,none⟩)) (.pointer (some ⟨a.F2,0,none⟩)) (.pointer (some ⟨a.F3,0,none⟩)) wr).2.1
   have CP:=jq (CP2.out wr hl)
   have HC:=jq hc
   have HK:=jq hk
   have H4:=jq h4
   have HL:=jq hl
   have kk:=hk.cell 1
   simp only[jy,jx] at kk
   clear hc hk hl h4
   go_wp2_with fail
   refine CP.out.mono ?_
   rintro e w4 ⟨rfl,j,hw⟩
   have hc4:=HC.out.same (w':=w4) (by rw[hw];rfl)
   have dd:=hc4.cell 1
   have ff:=hc4.frozen 1
   simp only[jy,jx] at dd
   have hset:=hc4.set_ 1 (.int .i64 (c2:Int))
   simp only[List.set_cons_zero,List.set_cons_succ] at hset
   have HS:=jq hset
   have HK4:=jq ((HK.out.same (w':=w4) (by rw[hw];rfl)).setOther ⟨g5,1,none⟩ (.int .i64 (c2:Int)) HNE.out)
   have H44:=jq ((H4.out.same (w':=w4) (by rw[hw];rfl)).setOther ⟨g5,1,none⟩ (.int .i64 (c2:Int)) HNE4.out)
   have HL4:=jq ((show Below w.heap.size w w4 by rw[hw];exact jvb HL.out).setCell (p:=⟨g5,1,none⟩) HG5.out (.int .i64 (c2:Int)))
   clear hc4 hset hw
   go_wp2
   go_roundw
   case rel=>exact .inr (.inr (.inl ⟨rfl,HS.out,HK4.out,H44.out,HL4.out⟩))
   case measure=>simp[intOf]
  ·obtain⟨hc,hk,h4,hl⟩:=hJ
   have ix:=(idxB (.pointer (some ⟨a.F1,0,none⟩)) (.pointer (some ⟨a.F2,0,none⟩)) (.pointer (some ⟨a.F3,0,none⟩)) wr).2.2
   have CP:=jq (CP3.out wr hl)
   have HC:=jq hc
   have HK:=jq hk
   have H4:=jq h4
   have HL:=jq hl
   have kk:=hk.cell 2
   simp only[jy,jx] at kk
   clear hc hk hl h4
   go_wp2_with fail
   refine CP.out.mono ?_
   rintro e w4 ⟨rfl,j,hw⟩
   have hc4:=HC.out.same (w':=w4) (by rw[hw];rfl)
   have dd:=hc4.cell 2
   have ff:=hc4.frozen 2
   simp only[jy,jx] at dd
   have hset:=hc4.set_ 2 (.int .i64 (c3:Int))
   simp only[List.set_cons_zero,List.set_cons_succ] at hset
   have HS:=jq hset
   have HK4:=jq ((HK.out.same (w':=w4) (by rw[hw];rfl)).setOther ⟨g5,2,none⟩ (.int .i64 (c3:Int)) HNE.out)
   have H44:=jq ((H4.out.same (w':=w4) (by rw[hw];rfl)).setOther ⟨g5,2,none⟩ (.int .i64 (c3:Int)) HNE4.out)
   have HL4:=jq ((show Below w.heap.size w w4 by rw[hw];exact jvb HL.out).setCell (p:=⟨g5,2,none⟩) HG5.out (.int .i64 (c3:Int)))
   clear hc4 hset hw
   go_wp2
   go_roundw
   case rel=>exact .inr (.inr (.inr (⟨rfl,HS.out,HK4.out,H44.out,HL4.out⟩)))
   case measure=>simp[intOf]
  ·obtain⟨hc,hk,h4,hl⟩:=hJ
   have c0:=hc.cell 0
   have c1':=hc.cell 1
   have c2':=hc.cell 2
   have d0:=h4.cell 0
   have d1:=h4.cell 1
   have d2:=h4.cell 2
   have f0:=h4.frozen 0
   have f1:=h4.frozen 1
   have f2:=h4.frozen 2
   simp only[jy,jx] at c0 c1' c2' d0 d1 d2
   have HFIN:=jq (((h4.set_ 0 (.int .i64 (c1:Int))).set_ 1 (.int .i64 (c2:Int))).set_ 2 (.int .i64 (c3:Int)))
   have HL:=jq (((hl.setCell (p:=⟨g4,0,none⟩) HG4.out (.int .i64 (c1:Int))).setCell (p:=⟨g4,1,none⟩) HG4.out (.int .i64 (c2:Int))).setCell (p:=⟨g4,2,none⟩) HG4.out (.int .i64 (c3:Int)))
   clear hc hk h4 hl
   go_wp2
   exact bodyPost_ret (v:=.agg #[.int .i64 (c1:Int),.int .i64 (c2:Int),.int .i64 (c3:Int)]) (results_cell_row results202 _ _ g4 208 _ (0,0) _ rfl HFIN.out underlying208 rfl size_ints3) rfl ⟨rfl,HL.out⟩
end
section
variable {w w':World} {a:ModA} {s:ModD} {S:List Nat}
theorem jqb.only {F C bits n:Nat} {R:List Nat} (h:jqb w F C bits n R) (hu:jqx S w w') (h1:F∉S) (h2:C∉S):jqb w' F C bits n R:=⟨hu.blk h.fb h1,hu.blk h.cb h2,h.row,h.pow,h.lo⟩
theorem jkt.only {F n:Nat} {W:List Int} (h:jkt w F n W) (hu:jqx S w w') (h1:F∉S):jkt w' F n W:=⟨hu.blk h.fb h1,h.wts,h.lo⟩
theorem jzg.lt (h:jzg w a s):∀ k∈a.every,k<w.heap.size:=fun k hk=>by
 have h1:=h.mb.lt
 have h2:=h.b1.cb.lt
 have h3:=h.b2.cb.lt
 have h4:=h.b3.cb.lt
 have h5:=h.x.fb.lt
 have h6:=h.b1.fb.lt
 have h7:=h.b2.fb.lt
 have h8:=h.b3.fb.lt
 simp only[ModA.every,List.mem_cons,List.not_mem_nil,or_false] at hk
 omega
theorem ne_one {x y:Nat} (h:x≠y):x∉[y]:=fun e=>h (List.mem_singleton.1 e)
theorem row3 (t:TypeId) (v1 v2 v3:Value) (w:World):∃ w3,w3=w.alloc (.cells #[v1,v2,v3] t)∧Blk w3 w.heap.size t [v1,v2,v3]∧Below w.heap.size w w3 :=
 ⟨_,rfl,heap_alloc_new w _,(Below.refl w.heap.size w).alloc jw (.cells #[v1,v2,v3] t)⟩
theorem modP_any (h:jzg w a s) :
  Calls prog 156 #[.pointer (some ⟨a.M,0,none⟩)] w fun e w'=>e=.returned (.int .i64 s.chance)∧Below w.heap.size w w':=by
 have CK:=jq (modKeys_any h.mb h.ok.pos)
 have CC:=jq (fun (W:World) (hb:Below w.heap.size w W)=>qys (h.grow hb))
 have H:=jq h
 obtain⟨p,hp⟩:∃ p,p=s.chance:=⟨_,rfl⟩
 have HP:=jq hp
 rw[←hp]
 clear h hp
 go_enter func156,ntmps156
 go_wp2_with fail
 refine CK.out.mono ?_
 rintro e w1 ⟨rfl,hb1⟩
 have CC1:=jq (CC.out w1 hb1)
 have HB1:=jq hb1
 clear hb1
 go_wp2_with fail
 refine CC1.out.mono ?_
 rintro e w2 ⟨rfl,hb2⟩
 have HB2:=jq (HB1.out.trans (hb2.mono HB1.out.size))
 clear hb2
 have hch:zvs s.ch=[.int .i64 ((s.A.getD s.i1 0:Nat):Int),.int .i64 ((s.B.getD s.i2 0:Nat):Int),.int .i64 ((s.C.getD s.i3 0:Nat):Int)]:=rfl
 unfold chV
 obtain⟨c1,hc1⟩:∃ c,c=s.A.getD s.i1 0:=⟨_,rfl⟩
 obtain⟨c2,hc2⟩:∃ c,c=s.B.getD s.i2 0:=⟨_,rfl⟩
 obtain⟨c3,hc3⟩:∃ c,c=s.C.getD s.i3 0:=⟨_,rfl⟩
 rw[←hc1,←hc2,←hc3] at hch ⊢
 obtain⟨w3,hw3,hr3,hb3⟩:=row3 208 (.int .i64 (c1:Int)) (.int .i64 (c2:Int)) (.int .i64 (c3:Int)) w2
 have hm3:=(H.out.grow HB2.out).grow hb3
 have CP:=jq (fun (W:World) (e:W.heap=w3.heap)=>mixP_any (w:=W) (m:=3) (hm3.x.same e) (rd_same (Rd.of_blk (by rw[hch];exact hr3)) e) s.ch_len)
 have cx:=hm3.mb.cell 3
 simp only[modC,jy,jx] at cx
 have HB3:=jq (HB2.out.trans (hb3.mono HB2.out.size))
 have HW3:=jq hw3
 clear hch hc1 hc2 hc3 hw3 hr3 hb3 hm3
 go_wp2
 rw[←HW3.out]
 go_quiet ((go_at_call 204;exact quietD CP.out))
 go_wp2
 go_ret
 exact⟨by rw[HP.out];rfl,jvb HB3.out⟩
structure qyy (w wr:World) (a:ModA) (s:ModD) (W:List Int) (gk:Nat) (A B C:List Nat):Prop where
 mb:Blk wr a.M 207 (modC a s.p)
 b1:jqb wr a.F1 a.C1 9 512 A
 b2:jqb wr a.F2 a.C2 11 2048 B
 b3:jqb wr a.F3 a.C3 13 8192 C
 x:jkt wr a.X 3 W
 kb:Blk wr gk 247 [.int .u32 (s.p.k1:Int),.int .u32 (s.p.k2:Int),.int .u32 (s.p.k3:Int)]
 on:jqx a.all w wr
section
variable {wr:World} {W:List Int} {gk:Nat} {A B C R:List Nat}
theorem jqb.turned {F C F' C' bits bits' n n':Nat} {R R':List Nat} (h:jqb w F C bits n R) (h':jqb w F' C' bits' n' R') (hu:jjq C' C' w w') (hne:C≠C'):jqb w' F C bits n R :=
 ⟨hu.blk h.fb (jxy h.fb h'.cb (by decide)) (jxy h.fb h'.cb (by decide)),hu.blk h.cb hne hne,h.row,h.pow,h.lo⟩
theorem qyy.rest (h:qyy w wr a s W gk A B C) {F C' bits n:Nat} (hb:jqb wr F C' bits n R) (hu:jjq C' C' wr w') (hC:C'∈a.all) :
  Blk w' a.M 207 (modC a s.p)∧jkt w' a.X 3 W∧Blk w' gk 247 [.int .u32 (s.p.k1:Int),.int .u32 (s.p.k2:Int),.int .u32 (s.p.k3:Int)]∧jqx a.all w w' :=
 ⟨hu.blk h.mb (jxy h.mb hb.cb (by decide)) (jxy h.mb hb.cb (by decide)),⟨hu.blk h.x.fb (jxy h.x.fb hb.cb (by decide)) (jxy h.x.fb hb.cb (by decide)),h.x.wts,h.x.lo⟩,
  hu.blk h.kb (jxy h.kb hb.cb (by decide)) (jxy h.kb hb.cb (by decide)),h.on.trans (jqx.of_turns hu hC)⟩
theorem qyy.one (h:qyy w wr a s W gk A B C) (h12:a.C1≠a.C2) (h13:a.C1≠a.C3) (hb:jqb w' a.F1 a.C1 9 512 R) (hu:jjq a.C1 a.C1 wr w'):qyy w w' a s W gk R B C :=
 have r:=h.rest h.b1 hu (by simp[ModA.all])
 ⟨r.1,hb,h.b2.turned h.b1 hu h12.symm,h.b3.turned h.b1 hu h13.symm,r.2.1,r.2.2.1,r.2.2.2⟩
theorem qyy.two (h:qyy w wr a s W gk A B C) (h12:a.C1≠a.C2) (h23:a.C2≠a.C3) (hb:jqb w' a.F2 a.C2 11 2048 R) (hu:jjq a.C2 a.C2 wr w'):qyy w w' a s W gk A R C :=
 have r:=h.rest h.b2 hu (by simp[ModA.all])
 ⟨r.1,h.b1.turned h.b2 hu h12,hb,h.b3.turned h.b2 hu h23.symm,r.2.1,r.2.2.1,r.2.2.2⟩
theorem qyy.three (h:qyy w wr a s W gk A B C) (h13:a.C1≠a.C3) (h23:a.C2≠a.C3) (hb:jqb w' a.F3 a.C3 13 8192 R) (hu:jjq a.C3 a.C3 wr w'):qyy w w' a s W gk A B R :=
 have r:=h.rest h.b3 hu (by simp[ModA.all])
 ⟨r.1,h.b1.turned h.b3 hu h13,h.b2.turned h.b3 hu h23,hb,r.2.1,r.2.2.1,r.2.2.2⟩
end
theorem qxl (bit:Int) (h:jzg w a s) :
  Calls prog 157 #[.pointer (some ⟨a.M,0,none⟩),.int .i64 bit] w fun e w'=>(∃ u,e=.returned u)∧jzg w' a (s.seen bit)∧jqx a.all w w':=by
 have CK:=jq (modKeys_any h.mb h.ok.pos)
 have CC:=jq (fun (W:World) (hb:Below w.heap.size w W)=>qys (h.grow hb))
 have H:=jq h
 clear h
 go_enter func157,ntmps157
 go_wp2_with fail
 refine CK.out.mono ?_
 rintro e w1 ⟨rfl,hb1⟩
 unfold keysV
 obtain⟨w2,hw2,hk2,hb2⟩:=row3 247 (.int .u32 (s.p.k1:Int)) (.int .u32 (s.p.k2:Int)) (.int .u32 (s.p.k3:Int)) w1
 have hb12:=hb1.trans (hb2.mono hb1.size)
 have CC1:=CC.out w2 hb12
 unfold keysV at CC1
 have CC2:=jq CC1
 obtain⟨k1,hk1⟩:∃ k,k=s.p.k1:=⟨_,rfl⟩
 obtain⟨k2,hk2'⟩:∃ k,k=s.p.k2:=⟨_,rfl⟩
 obtain⟨k3,hk3⟩:∃ k,k=s.p.k3:=⟨_,rfl⟩
 rw[←hk1,←hk2',←hk3] at hk2 hw2 CC2 ⊢
 have q0:=hk2.cell 0
 have q1:=hk2.cell 1
 have q2:=hk2.cell 2
 simp only[jy,jx] at q0 q1 q2
 have HB12:=jq hb12
 have HW2:=jq hw2
 have HK2:=jq hk2
 have HKS:=jq (And.intro hk1 (And.intro hk2' hk3))
 clear hb1 hb2 hb12 CC1 hk2 hw2 hk1 hk2' hk3
 go_wp2_with fail
 rw[←HW2.out]
 refine CC2.out.mono ?_
 rintro e w3 ⟨rfl,hb3⟩
 have hb13:=HB12.out.trans (hb3.mono HB12.out.size)
 have hk3:=HK2.out.grow hb3
 have hch:zvs s.ch=[.int .i64 ((s.A.getD s.i1 0:Nat):Int),.int .i64 ((s.B.getD s.i2 0:Nat):Int),.int .i64 ((s.C.getD s.i3 0:Nat):Int)]:=rfl
 unfold chV
 obtain⟨c1,hc1⟩:∃ c,c=s.A.getD s.i1 0:=⟨_,rfl⟩
 obtain⟨c2,hc2⟩:∃ c,c=s.B.getD s.i2 0:=⟨_,rfl⟩
 obtain⟨c3,hc3⟩:∃ c,c=s.C.getD s.i3 0:=⟨_,rfl⟩
 rw[←hc1,←hc2,←hc3] at hch ⊢
 obtain⟨w4,hw4,hr4,hb4⟩:=row3 208 (.int .i64 (c1:Int)) (.int .i64 (c2:Int)) (.int .i64 (c3:Int)) w3
 have hb14:=hb13.trans (hb4.mono hb13.size)
 have hm4:=H.out.grow hb14
 have hk4:=hk3.grow hb4
 have cx:=hm4.mb.cell 3
 simp only[modC,jy,jx] at cx
 have CS:=jq (mixSeen_any (w:=w4.drew) (m:=3) bit (hm4.x.same rfl) (rd_turns2 (t:=208) (cs:=zvs s.ch) (by rw[hch];exact hr4.drew_) (jxy hr4 hm4.x.fb (by decide)) rfl) s.ch_len)
 have HM4:=jq (And.intro hm4 (And.intro hk4 hb14))
 have HW4:=jq hw4
 obtain⟨gk,hgk⟩:∃ g,g=w1.heap.size:=⟨_,rfl⟩
 have HGK:=jq hgk
 clear hch hc1 hc2 hc3 hw4 hr4 hb4 hm4 hk4 hk3 hb13 hb14 hb3 q0 q1 q2 hgk
 go_wp2
 rw[←HW4.out,←HGK.out]
 refine wp_region_still_tail 6 (by kernel_rfl) (by kernel_rfl) ?_
 simp only[List.take_succ_cons,List.take_zero,List.drop_succ_cons,List.drop_zero]
 repeat still_step
 refine wpStill_nil ?_
 change wpList _ _ _ _ _ w4.drew
 go_wp2_with fail
 refine CS.out.mono ?_
 rintro e w5 ⟨⟨u,rfl⟩,hx5,hu5⟩
 have hj5:qyy w w5 a s (qqp s.W s.ch bit) gk s.A s.B s.C:=by
  obtain⟨hm,hk,hb⟩:=HM4.out
  rw[←HGK.out,HKS.out.1,HKS.out.2.1,HKS.out.2.2] at hk
  have e1:=fun {g:Nat} {t:TypeId} {cs:List Value} (h:Blk w4 g t cs) (hne:t≠253)=>hu5.blk (h.same rfl:Blk w4.drew g t cs) (jxy h hm.x.fb hne) (jxy h hm.x.fb hne)
  exact⟨e1 hm.mb (by decide),⟨e1 hm.b1.fb (by decide),e1 hm.b1.cb (by decide),hm.b1.row,hm.b1.pow,hm.b1.lo⟩,⟨e1 hm.b2.fb (by decide),e1 hm.b2.cb (by decide),hm.b2.row,hm.b2.pow,hm.b2.lo⟩,⟨e1 hm.b3.fb (by decide),e1 hm.b3.cb (by decide),hm.b3.row,hm.b3.pow,hm.b3.lo⟩,hx5,e1 hk (by decide),
   ((jqx.of_below hb).drew).trans (jqx.of_turns hu5 (by simp[ModA.all]))⟩
 have HJ5:=jq hj5
 have N:=jq (And.intro H.out.n12 (And.intro H.out.n13 H.out.n23))
 have cb0:=hj5.mb.cell 0
 have cb1:=hj5.mb.cell 1
 have cb2:=hj5.mb.cell 2
 simp only[modC,jy,jx] at cb0 cb1 cb2
 clear hj5 hx5 hu5 cx
 go_wp2
 clear cb0 cb1 cb2
 go_loopw [26] (fun ii wr =>
  (ii=.int .i64 0∧qyy w wr a s (qqp s.W s.ch bit) gk s.A s.B s.C)
  ∨ (ii=.int .i64 1∧qyy w wr a s (qqp s.W s.ch bit) gk (qwj s.A (jzl k1 9) bit) s.B s.C)
  ∨ (ii=.int .i64 2∧qyy w wr a s (qqp s.W s.ch bit) gk (qwj s.A (jzl k1 9) bit) (qwj s.B (jzl k2 11) bit) s.C)
  ∨ (ii=.int .i64 3∧qyy w wr a s (qqp s.W s.ch bit) gk (qwj s.A (jzl k1 9) bit) (qwj s.B (jzl k2 11) bit) (qwj s.C (jzl k3 13) bit))) (fun ii _=>3 - (intOf ii).toNat)
 case atStart=>exact .inl ⟨rfl,HJ5.out⟩
 case round =>
  clear HJ5 HM4 HW4 HW2 HK2 HB12
  rcases hrel with ⟨rfl,hJ⟩ | ⟨rfl,hJ⟩ | ⟨rfl,hJ⟩ | ⟨rfl,hJ⟩
  ·have HJ:=jq hJ
   have CS:=jq (qxk k1 bit hJ.b1)
   have ix:=(idxB (.pointer (some ⟨a.F1,0,none⟩)) (.pointer (some ⟨a.F2,0,none⟩)) (.pointer (some ⟨a.F3,0,none⟩)) wr).1
   have kk:=hJ.kb.cell 0
   simp only[jy] at kk
   rw[←HKS.out.1] at kk
   clear hJ
   go_wp2_with fail
   refine CS.out.mono ?_
   rintro e w6 ⟨⟨u,rfl⟩,hb,hu⟩
   have HJ6:=jq (HJ.out.one N.out.1 N.out.2.1 hb hu)
   clear hb hu
   go_wp2
   go_roundw
   case rel=>exact .inr (.inl ⟨rfl,HJ6.out⟩)
   case measure=>simp[intOf]
  ·have HJ:=jq hJ
   have CS:=jq (qxk k2 bit hJ.b2)
   have ix:=(idxB (.pointer (some ⟨a.F1,0,none⟩)) (.pointer (some ⟨a.F2,0,none⟩)) (.pointer (some ⟨a.F3,0,none⟩)) wr).2.1
   have kk:=hJ.kb.cell 1
   simp only[jy,jx] at kk
   rw[←HKS.out.2.1] at kk
   clear hJ
   go_wp2_with fail
   refine CS.out.mono ?_
   rintro e w6 ⟨⟨u,rfl⟩,hb,hu⟩
   have HJ6:=jq (HJ.out.two N.out.1 N.out.2.2 hb hu)
   clear hb hu
   go_wp2
   go_roundw
   case rel=>exact .inr (.inr (.inl ⟨rfl,HJ6.out⟩))
   case measure=>simp[intOf]
  ·have HJ:=jq hJ
   have CS:=jq (qxk k3 bit hJ.b3)
   have ix:=(idxB (.pointer (some ⟨a.F1,0,none⟩)) (.pointer (some ⟨a.F2,0,none⟩)) (.pointer (some ⟨a.F3,0,none⟩)) wr).2.2
   have kk:=hJ.kb.cell 2
   simp only[jy,jx] at kk
   rw[←HKS.out.2.2] at kk
   clear hJ
   go_wp2_with fail
   refine CS.out.mono ?_
   rintro e w6 ⟨⟨u,rfl⟩,hb,hu⟩
   have HJ6:=jq (HJ.out.three N.out.2.1 N.out.2.2 hb hu)
   clear hb hu
   go_wp2
   go_roundw
   case rel=>exact .inr (.inr (.inr (⟨rfl,HJ6.out⟩)))
   case measure=>simp[intOf]
  ·have HJ:=jq hJ
   have CT:=jq (modStep_any bit hJ.mb H.out.ok.pos)
   clear hJ
   go_wp2_with fail
   refine CT.out.mono ?_
   rintro e w6 ⟨⟨u,rfl⟩,hm6,hu6⟩
   have hj:=HJ.out
   have hs:s.seen bit=⟨s.p.step bit,qwj s.A (jzl k1 9) bit,qwj s.B (jzl k2 11) bit,qwj s.C (jzl k3 13) bit,qqp s.W s.ch bit⟩:=by
    rw[HKS.out.1,HKS.out.2.1,HKS.out.2.2];rfl
   have hok:=H.out.ok.seen bit
   have hfin:jzg w6 a (s.seen bit):=by
    have ne:=fun {g:Nat} {t:TypeId} {cs:List Value} (h:Blk wr g t cs) (hne:t≠207)=>ne_one (jxy h hj.mb hne)
    rw[hs] at hok ⊢
    exact⟨hm6,hj.b1.only hu6 (ne hj.b1.fb (by decide)) (ne hj.b1.cb (by decide)),hj.b2.only hu6 (ne hj.b2.fb (by decide)) (ne hj.b2.cb (by decide)),hj.b3.only hu6 (ne hj.b3.fb (by decide)) (ne hj.b3.cb (by decide)),hj.x.only hu6 (ne hj.x.fb (by decide)),hok,N.out.1,N.out.2.1,N.out.2.2⟩
   have HFIN:=jq (And.intro hfin (hj.on.trans (hu6.mono (T:=a.all) fun k hk=>by rw[List.mem_singleton.1 hk];simp[ModA.all])))
   clear hj hs hok hfin hm6 hu6
   go_wp2
   go_end0
   exact⟨⟨_,rfl⟩,HFIN.out.1,HFIN.out.2⟩
end
structure qmb (w wr:World) (M X:Nat) (f1 f2 f3:Value):Prop where
 mb:Blk wr M 207 [f1,f2,f3,.pointer (some ⟨X,0,none⟩),.int .i64 1,.int .i64 0,.int .i64 0]
 x:jkt wr X 3 (List.replicate 3 64)
 below:Below w.heap.size w wr
structure NewK (w wr:World) (F C bits n:Nat):Prop where
 b:jqb wr F C bits n (List.replicate n 32768)
 lo:w.heap.size≤F∧w.heap.size≤C
section
variable {w wr w6:World} {M X F C bits n F' C' bits' n':Nat} {f1 f2 f3:Value}
theorem NewK.next (h:NewK w wr F C bits n) (hb:Below wr.heap.size wr w6) {g:Nat} {cs:List Value} (hm:Blk w6 g 207 cs) (k:Nat) (v:Value):NewK w (w6.setCell ⟨g,k,none⟩ v) F C bits n:=by
 have h1:=h.b.grow hb
 exact⟨⟨h1.fb.setOther _ v (jxy h1.fb hm (by decide)),h1.cb.setOther _ v (jxy h1.cb hm (by decide)),h1.row,h1.pow,h1.lo⟩,h.lo⟩
theorem NewK.made (h:jqb w6 F C bits n (List.replicate n 32768)) (hlo:wr.heap.size≤F∧wr.heap.size≤C) (hs:w.heap.size≤wr.heap.size) {g:Nat} {cs:List Value} (hm:Blk w6 g 207 cs) (k:Nat) (v:Value):NewK w (w6.setCell ⟨g,k,none⟩ v) F C bits n :=
 ⟨⟨h.fb.setOther _ v (jxy h.fb hm (by decide)),h.cb.setOther _ v (jxy h.cb hm (by decide)),h.row,h.pow,h.lo⟩,by omega,by omega⟩
theorem qmb.next (h:qmb w wr M X f1 f2 f3) (hM:w.heap.size≤M) (hb:Below wr.heap.size wr w6) (v:Value) :
  qmb w (w6.setCell ⟨M,0,none⟩ v) M X v f2 f3∧qmb w (w6.setCell ⟨M,1,none⟩ v) M X f1 v f3∧qmb w (w6.setCell ⟨M,2,none⟩ v) M X f1 f2 v:=by
 have hm:=h.mb.grow hb
 have hx:=h.x.grow hb
 have hl:=h.below.trans (hb.mono h.below.size)
 have x2:=fun k=>(⟨hx.fb.setOther ⟨M,k,none⟩ v (jxy hx.fb hm (by decide)),hx.wts,hx.lo⟩:jkt (w6.setCell ⟨M,k,none⟩ v) X 3 (List.replicate 3 64))
 exact⟨⟨hm.set_ 0 v,x2 0,hl.setCell (p:=⟨M,0,none⟩) hM v⟩,⟨hm.set_ 1 v,x2 1,hl.setCell (p:=⟨M,1,none⟩) hM v⟩,⟨hm.set_ 2 v,x2 2,hl.setCell (p:=⟨M,2,none⟩) hM v⟩⟩
theorem qmb.drew (h:qmb w wr M X f1 f2 f3):qmb w wr.drew M X f1 f2 f3:=⟨h.mb.same rfl,h.x.same rfl,h.below.drew⟩
theorem NewK.drew (h:NewK w wr F C bits n):NewK w wr.drew F C bits n:=⟨h.b.same rfl,h.lo⟩
theorem idxI (w:World):(Instr.index 208 (.agg #[.int .i64 9,.int .i64 11,.int .i64 13]) (.int .i64 0)).run prog w=.ok (.int .i64 9) w∧(Instr.index 208 (.agg #[.int .i64 9,.int .i64 11,.int .i64 13]) (.int .i64 1)).run prog w=.ok (.int .i64 11) w∧(Instr.index 208 (.agg #[.int .i64 9,.int .i64 11,.int .i64 13]) (.int .i64 2)).run prog w=.ok (.int .i64 13) w :=
 ⟨by kernel_rfl,by kernel_rfl,by kernel_rfl⟩
theorem modNew_any (w:World):Calls prog 100 #[] w fun e w'=>∃ a:ModA,e=.returned (.pointer (some ⟨a.M,0,none⟩))∧jzg w' a newD∧(∀ k∈a.every,w.heap.size≤k)∧Below w.heap.size w w':=by
 have CX:=jq (mixNew_any 3 w (by decide))
 have C1c:=jq (fun W=>qmt 9 512 W (by decide) (by decide))
 have C2c:=jq (fun W=>qmt 11 2048 W (by decide) (by decide))
 have C3c:=jq (fun W=>qmt 13 8192 W (by decide) (by decide))
 go_enter func100,ntmps100
 go_wp2_with fail
 refine CX.out.mono ?_
 rintro e w1 ⟨X,rfl,hx1,hX,hb1⟩
 obtain⟨w2,hw2⟩:∃ w2,w2=w1.alloc (.cells #[.pointer none,.pointer none,.pointer none,.pointer (some ⟨X,0,none⟩),.int .i64 1,.int .i64 0,.int .i64 0] 207):=⟨_,rfl⟩
 have hm2:Blk w2 w1.heap.size 207 [.pointer none,.pointer none,.pointer none,.pointer (some ⟨X,0,none⟩),.int .i64 1,.int .i64 0,.int .i64 0]:=by rw[hw2];exact heap_alloc_new w1 _
 have hb2:Below w1.heap.size w1 w2:=by rw[hw2];exact (Below.refl w1.heap.size w1).alloc jw _
 obtain⟨M,hM⟩:∃ M,M=w1.heap.size:=⟨_,rfl⟩
 rw[←hM] at hm2
 have HM:=jq (show w.heap.size≤M by rw[hM];exact hb1.size)
 have HN:=jq (⟨hm2,hx1.grow hb2,hb1.trans (hb2.mono hb1.size)⟩:qmb w w2 M X (.pointer none) (.pointer none) (.pointer none))
 have HX:=jq hX
 have HW:=jq (And.intro hw2 hM)
 clear hx1 hX hb1 hw2 hm2 hb2 hM
 go_wp2
 rw[←HW.out.1,←HW.out.2]
 go_loopw [8] (fun ii wr =>
  (ii=.int .i64 0∧qmb w wr M X (.pointer none) (.pointer none) (.pointer none))
  ∨ (ii=.int .i64 1∧∃ F1 C1:Nat,qmb w wr M X (.pointer (some ⟨F1,0,none⟩)) (.pointer none) (.pointer none)∧NewK w wr F1 C1 9 512)
  ∨ (ii=.int .i64 2∧∃ F1 C1 F2 C2:Nat,qmb w wr M X (.pointer (some ⟨F1,0,none⟩)) (.pointer (some ⟨F2,0,none⟩)) (.pointer none)∧NewK w wr F1 C1 9 512∧NewK w wr F2 C2 11 2048∧C1≠C2)
  ∨ (ii=.int .i64 3∧∃ F1 C1 F2 C2 F3 C3:Nat,qmb w wr M X (.pointer (some ⟨F1,0,none⟩)) (.pointer (some ⟨F2,0,none⟩)) (.pointer (some ⟨F3,0,none⟩))∧NewK w wr F1 C1 9 512∧NewK w wr F2 C2 11 2048∧NewK w wr F3 C3 13 8192∧C1≠C2∧C1≠C3∧C2≠C3)) (fun ii _=>3 - (intOf ii).toNat)
 case atStart=>exact .inl ⟨rfl,HN.out⟩
 case round =>
  clear HN HW
  rcases hrel with ⟨rfl,hJ⟩ | ⟨rfl,hJ⟩ | ⟨rfl,hJ⟩ | ⟨rfl,hJ⟩
  ·have hN:=hJ
   have ix:=(idxI wr).1
   have HND:=jq hN.drew
   clear hN hJ
   go_wp2
   go_region_with (go_at_call 159;refine (C1c.out _).mono ?_;rintro _ w6 ⟨F1,rfl,C1,hbk,hlo,hb6⟩;have d0:=(HND.out.mb.grow hb6).cell 0;have f0:=(HND.out.mb.grow hb6).frozen 0;simp only[jy] at d0;have HR:=jq (And.intro hbk (And.intro hlo hb6));clear hbk hlo hb6)
   have hm6:=HND.out.mb.grow HR.out.2.2
   have HX1:=jq (NewK.made HR.out.1 HR.out.2.1 HND.out.below.size hm6 0 (.pointer (some ⟨F1,0,none⟩)))
   have HNN:=jq (HND.out.next HM.out HR.out.2.2 (.pointer (some ⟨F1,0,none⟩))).1
   clear hm6 d0 f0
   go_wp2
   go_roundw
   case rel=>exact .inr (.inl ⟨rfl,F1,C1,HNN.out,HX1.out⟩)
   case measure=>simp[intOf]
  ·obtain⟨F1,C1,hN,hk1⟩:=hJ
   have ix:=(idxI wr).2.1
   have HND:=jq hN.drew
   have HK1:=jq hk1.drew
   clear hN hk1
   go_wp2
   go_region_with (go_at_call 159;refine (C2c.out _).mono ?_;rintro _ w6 ⟨F2,rfl,C2,hbk,hlo,hb6⟩;have d0:=(HND.out.mb.grow hb6).cell 1;have f0:=(HND.out.mb.grow hb6).frozen 1;simp only[jy,jx] at d0;have HR:=jq (And.intro hbk (And.intro hlo hb6));clear hbk hlo hb6)
   have hm6:=HND.out.mb.grow HR.out.2.2
   have HX1:=jq (HK1.out.next HR.out.2.2 hm6 1 (.pointer (some ⟨F2,0,none⟩)))
   have HX2:=jq (NewK.made HR.out.1 HR.out.2.1 HND.out.below.size hm6 1 (.pointer (some ⟨F2,0,none⟩)))
   have HNN:=jq (HND.out.next HM.out HR.out.2.2 (.pointer (some ⟨F2,0,none⟩))).2.1
   have HNE1:=jq (show C1≠C2 from Nat.ne_of_lt (Nat.lt_of_lt_of_le HK1.out.b.cb.lt HR.out.2.1.2))
   clear hm6 d0 f0
   go_wp2
   go_roundw
   case rel=>exact .inr (.inr (.inl ⟨rfl,F1,C1,F2,C2,HNN.out,HX1.out,HX2.out,HNE1.out⟩))
   case measure=>simp[intOf]
  ·obtain⟨F1,C1,F2,C2,hN,hk1,hk2,h12⟩:=hJ
   have ix:=(idxI wr).2.2
   have HND:=jq hN.drew
   have HK1:=jq hk1.drew
   have HK2:=jq hk2.drew
   have H12:=jq h12
   clear hN hk1 hk2 h12
   go_wp2
   go_region_with (go_at_call 159;refine (C3c.out _).mono ?_;rintro _ w6 ⟨F3,rfl,C3,hbk,hlo,hb6⟩;have d0:=(HND.out.mb.grow hb6).cell 2;have f0:=(HND.out.mb.grow hb6).frozen 2;simp only[jy,jx] at d0;have HR:=jq (And.intro hbk (And.intro hlo hb6));clear hbk hlo hb6)
   have hm6:=HND.out.mb.grow HR.out.2.2
   have HX1:=jq (HK1.out.next HR.out.2.2 hm6 2 (.pointer (some ⟨F3,0,none⟩)))
   have HX2:=jq (HK2.out.next HR.out.2.2 hm6 2 (.pointer (some ⟨F3,0,none⟩)))
   have HX3:=jq (NewK.made HR.out.1 HR.out.2.1 HND.out.below.size hm6 2 (.pointer (some ⟨F3,0,none⟩)))
   have HNN:=jq (HND.out.next HM.out HR.out.2.2 (.pointer (some ⟨F3,0,none⟩))).2.2
   have HNE1:=jq (show C1≠C3 from Nat.ne_of_lt (Nat.lt_of_lt_of_le HK1.out.b.cb.lt HR.out.2.1.2))
   have HNE2:=jq (show C2≠C3 from Nat.ne_of_lt (Nat.lt_of_lt_of_le HK2.out.b.cb.lt HR.out.2.1.2))
   clear hm6 d0 f0
   go_wp2
   go_roundw
   case rel=>exact .inr (.inr (.inr (⟨rfl,F1,C1,F2,C2,F3,C3,HNN.out,HX1.out,HX2.out,HX3.out,H12.out,HNE1.out,HNE2.out⟩)))
   case measure=>simp[intOf]
  ·obtain⟨F1,C1,F2,C2,F3,C3,hN,hk1,hk2,hk3,h12,h13,h23⟩:=hJ
   have HFIN:=jq (⟨hN.mb,hk1.b,hk2.b,hk3.b,hN.x,newD_ok,h12,h13,h23⟩:jzg wr ⟨M,F1,C1,F2,C2,F3,C3,X⟩ newD)
   have HLO:=jq (And.intro hk1.lo (And.intro hk2.lo (And.intro hk3.lo hN.below)))
   clear hN hk1 hk2 hk3 h12 h13 h23
   go_wp2
   go_ret
   refine⟨⟨M,F1,C1,F2,C2,F3,C3,X⟩,rfl,HFIN.out,fun k hk=>?_,HLO.out.2.2.2⟩
   simp only[ModA.every,List.mem_cons,List.not_mem_nil,or_false] at hk
   have h1:=HLO.out
   have h2:=HM.out
   have h3:=HX.out
   omega
end
def fnV (K:Nat):Value:=.func (.func K) #[] #[]
def wayT:Nat→Nat
 | 0=>85
 | 1=>86
 | 2=>88
 | 3=>88
 | 4=>88
 | _=>90
def wayX:Nat→Value
 | 0=>.agg #[]
 | 1=>.agg #[]
 | 2=>.agg #[fnV 56,fnV 57]
 | 3=>.agg #[fnV 58,fnV 59]
 | 4=>.agg #[fnV 60,fnV 61]
 | _=>.agg #[fnV 62,fnV 63]
abbrev wayV (k:Nat):Value:=.iface (wayT k) (wayX k)
def waysL:List Value:=[wayV 0,wayV 1,wayV 2,wayV 3,wayV 4,wayV 5]
theorem size_ways:(prog.info? 54).map (·.size)=some 6:=by kernel_rfl
theorem allWays_any (w:World):Calls prog 35 #[] w fun e w'=>e=.returned (.agg #[.iface (wayT 0) (wayX 0),.iface (wayT 1) (wayX 1),.iface (wayT 2) (wayX 2),.iface (wayT 3) (wayX 3),.iface (wayT 4) (wayX 4),.iface (wayT 5) (wayX 5)])∧Below w.heap.size w w':=by
 go_enter func35,ntmps35
 go_wp2
 exact bodyPost_ret (v:=.agg #[.iface (wayT 0) (wayX 0),.iface (wayT 1) (wayX 1),.iface (wayT 2) (wayX 2),.iface (wayT 3) (wayX 3),.iface (wayT 4) (wayX 4),.iface (wayT 5) (wayX 5)]) (results_cell_row results35 _ _ w.heap.size 54 _ (0,0) _ rfl (heap_alloc_new w _) underlying54 rfl size_ways) rfl ⟨rfl,(Below.refl _ _).alloc jw _⟩
theorem ways_at (k:Nat) (hk:k≤5):waysL[k]?=some (wayV k):=by
 match k,hk with
 | 0,_=>rfl
 | 1,_=>rfl
 | 2,_=>rfl
 | 3,_=>rfl
 | 4,_=>rfl
 | 5,_=>rfl
theorem ways_row (w:World):Blk (w.alloc (.cells #[.iface (wayT 0) (wayX 0),.iface (wayT 1) (wayX 1),.iface (wayT 2) (wayX 2),.iface (wayT 3) (wayX 3),.iface (wayT 4) (wayX 4),.iface (wayT 5) (wayX 5)] 54)) w.heap.size 54 waysL∧Below w.heap.size w (w.alloc (.cells #[.iface (wayT 0) (wayX 0),.iface (wayT 1) (wayX 1),.iface (wayT 2) (wayX 2),.iface (wayT 3) (wayX 3),.iface (wayT 4) (wayX 4),.iface (wayT 5) (wayX 5)] 54)) :=
 ⟨heap_alloc_new w _,(Below.refl _ _).alloc jw _⟩
theorem wayOf_any {k:Nat} (hk:k≤5) (w:World):Calls prog 13 #[.int .i64 (k:Int)] w fun e w'=>e=.returned (.tuple #[wayV k,.bool true])∧Below w.heap.size w w':=by
 have ha:=ways_at k hk
 have h0:¬ (k:Int)<0:=by omega
 have h1:(k:Int)<6:=by omega
 have h2:decide ((k:Int)<0)=false:=by simp
 have h3:decide (6≤(k:Int))=false:=by simp;omega
 obtain⟨V,hV⟩:∃ V,V=wayV k:=⟨_,rfl⟩
 rw[←hV] at ha ⊢
 have HA:=jq ha
 clear hV hk ha
 go_enter func13,ntmps13
 go_wp2_with fail
 refine (allWays_any _).mono ?_
 rintro e w1 ⟨rfl,hb⟩
 obtain⟨hr2,hb2⟩:=ways_row w1
 have hc:=hr2.cell k
 rw[HA.out] at hc
 have HB2:=jq (hb.trans (hb2.mono hb.size))
 clear hr2 hb2 hb
 go_wp2
 go_ret2
 exact⟨rfl,HB2.out⟩
def codeK:Nat→Nat
 | 0=>281
 | 1=>284
 | _=>299
def decK:Nat→Nat
 | 0=>282
 | 1=>285
 | _=>300
theorem meth_code {k:Nat} (hk:k≤5) (w:World):Sem.run prog (method (prog.types.size+100) (wayT k) (wayX k) "winepress/modes.code") w=.ok (codeK k,wayX k) w:=by
 rcases (show k=0∨k=1∨k=2∨k=3∨k=4∨k=5 by omega) with rfl | rfl | rfl | rfl | rfl | rfl
 all_goals kernel_rfl
theorem meth_dec {k:Nat} (hk:k≤5) (w:World):Sem.run prog (method (prog.types.size+100) (wayT k) (wayX k) "winepress/modes.decode") w=.ok (decK k,wayX k) w:=by
 rcases (show k=0∨k=1∨k=2∨k=3∨k=4∨k=5 by omega) with rfl | rfl | rfl | rfl | rfl | rfl
 all_goals kernel_rfl
def leaK:Nat→Nat
 | 0=>283
 | 1=>286
 | _=>301
theorem meth_least {k:Nat} (hk:k=0∨k=1∨k=5) (w:World):Sem.run prog (method (prog.types.size+100) (wayT k) (wayX k) "winepress/modes.least") w=.ok (leaK k,wayX k) w:=by
 rcases hk with rfl | rfl | rfl
 all_goals kernel_rfl
theorem asserts_yes {k:Nat} (hk:k=0∨k=1∨k=5) (w:World):(Instr.typeAssert (wayV k) 41 57 true).run prog w=.ok (.tuple #[wayV k,.bool true]) w:=by
 rcases hk with rfl | rfl | rfl
 all_goals kernel_rfl
theorem least_one (p : String → Bool) (f : String → String) (s : String) : ∃ m, (Instr.least ([s].partition p).2 <|> Instr.least (([s].partition p).1.map f)) = some m := by
  cases h : p s with
  | true => exact ⟨f s, by simp [List.partition, List.partition.loop, h, Instr.least]⟩
  | false => exact ⟨s, by simp [List.partition, List.partition.loop, h, Instr.least]⟩
theorem missing_one {want:Array (String × Nat)} {got:Array Method} {s:String} (h:(want.toList.filter fun x => !got.any fun m=>m.name==x.1&&m.sig==x.2).map (·.1)=[s]):∃ m,Instr.missingMethod want got=some m:=by
 unfold Instr.missingMethod
 simp only
 rw[h]
 exact least_one _ _ s
def lackOf (d:Option TypeDesc) (i:Option TypeInfo):Option (List String) :=
 match d,i with
 | some (.interface want),some ti=>some ((want.toList.filter fun x => !ti.methods.any fun m=>m.name==x.1&&m.sig==x.2).map (·.1))
 | _,_=>none
theorem lack_one:lackOf (prog.underlying 57) (prog.info? 88)=some ["winepress/modes.least"]:=by kernel_rfl
theorem lack_of {d:Option TypeDesc} {i:Option TypeInfo} {l:List String} (h:lackOf d i=some l):∃ want ti,d=some (.interface want)∧i=some ti∧(want.toList.filter fun x => !ti.methods.any fun m=>m.name==x.1&&m.sig==x.2).map (·.1)=l:=by
 unfold lackOf at h
 split at h
 ·next want ti=>exact⟨want,ti,rfl,rfl,Option.some.inj h⟩
 ·cases h
theorem asserts_not {k:Nat} (hk:k=2∨k=3∨k=4) (w:World):(Instr.typeAssert (wayV k) 41 57 true).run prog w=.ok (.tuple #[.nilIface,.bool false]) w:=by
 obtain⟨want,ti,h1,h2,h3⟩:=lack_of lack_one
 obtain⟨m,hm⟩:=missing_one h3
 have h4:=run_typeInfo (P:=prog) w h2
 have hz:(zeroValue 57).run prog w=.ok .nilIface w:=by kernel_rfl
 have ht:wayT k=88:=by rcases hk with rfl | rfl | rfl <;> rfl
 unfold Instr.typeAssert wayV
 rw[ht]
 simp[run_underlying h1,h4,hm,hz,go_sem]
theorem filled_any (n:Nat) (hn:n≤1000000000) (w:World):Calls prog 289 #[.int .i64 (n:Int)] w fun e w'=>e=.returned (.int .i64 (((n+7)/8:Nat):Int))∧w'=w:=by
 have h:((n:Int)+8 - 1)/8=(((n+7)/8:Nat):Int):=by omega
 rw[←h]
 clear h
 go_enter func289,ntmps289
 go_wp2
 go_ret
 exact⟨rfl,rfl⟩
theorem theyLeast_any (V n:Int) (w:World):Calls prog 283 #[.agg #[],.int .i64 V,.int .i64 n] w fun e w'=>e=.returned (.int .i64 n)∧Below w.heap.size w w':=by
 go_enter func283,ntmps283
 go_wp2
 go_ret
 exact⟨rfl,(Below.refl _ _).alloc jw _⟩
theorem codesLeast_any (V:Int) (n:Nat) (hn:n≤100000000) (x:Array Value) (w:World):Calls prog 301 #[.agg x,.int .i64 V,.int .i64 (n:Int)] w fun e w'=>e=.returned (.int .i64 ((if n=0 then 0 else (260+n+7)/8:Nat):Int))∧Below w.heap.size w w':=by
 by_cases h0:n=0
 ·subst h0
  rw[if_pos rfl]
  go_enter func301,ntmps301
  go_wp2
  go_ret
  exact⟨rfl,(Below.refl _ _).alloc jw _⟩
 ·rw[if_neg h0]
  have h1:((n:Int)==0)=false:=by rw[beq_eq_false_iff_ne];omega
  have C:=filled_any (260+n) (by omega)
  obtain⟨N,hN⟩:∃ N:Int,N=((260+n:Nat):Int):=⟨_,rfl⟩
  obtain⟨M,hM⟩:∃ M:Int,M=(((260+n+7)/8:Nat):Int):=⟨_,rfl⟩
  have hN2:260+(n:Int)=N:=by omega
  rw[←hN,←hM] at C
  rw[←hM]
  have CF:=jq C
  have HN:=jq hN2
  have h2:(n:Int)≤100000000:=by omega
  clear h0 C hN hM hn hN2
  go_enter func301,ntmps301
  go_wp2_with fail
  rw[HN.out]
  refine (CF.out _).mono ?_
  rintro e w1 ⟨rfl,rfl⟩
  go_wp2
  go_ret
  exact⟨rfl,(Below.refl _ _).alloc jw _⟩
theorem words_vals {V n:Nat} (hn:n≤100000000) (hV:1≤V∧V≤8):∃ q m m8 s:Nat,(n:Int)/(V:Int)=(q:Int)∧(n:Int).tdiv (V:Int)=(q:Int)∧(n:Int)%(V:Int)=(m:Int)∧(n:Int).tmod (V:Int)=(m:Int)∧IntKind.i64.wrap (q:Int)=(q:Int)∧IntKind.i64.wrap (m:Int)=(m:Int)∧IntKind.i64.wrap ((m:Int)*8)=(m8:Int)∧IntKind.i64.wrap ((q:Int)+(m8:Int))=(s:Int)∧s=n/V+n%V*8∧s≤1000000000:=by
 have h1:n/V≤n:=Nat.div_le_self _ _
 have h2:n%V<V:=Nat.mod_lt _ (by omega)
 have e1:(n:Int)/(V:Int)=((n/V:Nat):Int):=(Int.natCast_ediv _ _).symm
 have e2:(n:Int)%(V:Int)=((n%V:Nat):Int):=(Int.natCast_emod _ _).symm
 obtain⟨q,hq⟩:∃ q,q=n/V:=⟨_,rfl⟩
 obtain⟨m,hm⟩:∃ m,m=n%V:=⟨_,rfl⟩
 rw[←hq] at h1 e1 ⊢
 rw[←hm] at h2 e2 ⊢
 refine⟨q,m,m*8,q+m*8,e1,?_,e2,?_,?_,?_,?_,?_,rfl,by omega⟩
 ·rw[Int.tdiv_eq_ediv_of_nonneg (by omega)];exact e1
 ·rw[Int.tmod_eq_emod_of_nonneg (by omega)];exact e2
 ·rw[IntKind.wrap_i64];omega
 ·rw[IntKind.wrap_i64];omega
 ·rw[IntKind.wrap_i64];omega
 ·rw[IntKind.wrap_i64];omega
theorem wordsLeast_any {V:Nat} (hV:IsW V) (n:Nat) (hn:n≤100000000) (w:World):Calls prog 286 #[.agg #[],.int .i64 (V:Int),.int .i64 (n:Int)] w fun e w'=>e=.returned (.int .i64 (((n/V+n%V*8+7)/8:Nat):Int))∧Below w.heap.size w w':=by
 have hp:=hV.pos
 obtain⟨q,m,m8,s,d1,d2,d3,d4,d5,d6,d7,d8,d9,d10⟩:=words_vals hn hp
 have CF:=jq (filled_any s d10)
 obtain⟨M,hM⟩:∃ M:Int,M=(((s+7)/8:Nat):Int):=⟨_,rfl⟩
 rw[←d9,←hM]
 rw[←hM] at CF
 have hV0:¬ ((V:Int)=0):=by omega
 have HD:=jq (And.intro d1 (And.intro d2 (And.intro d3 (And.intro d4 (And.intro d5 (And.intro d6 (And.intro d7 d8)))))))
 clear hV hp d9 d10 hM d1 d2 d3 d4 d5 d6 d7 d8 hn
 go_enter func286,ntmps286
 go_wp2
 obtain⟨d1,d2,d3,d4,d5,d6,d7,d8⟩:=HD.out
 go_quiet ((go_at_call 289;exact jbc fun W _=>CF.out W))
 go_wp2
 go_ret
 exact⟨rfl,jvb ((Below.refl _ _).alloc jw _)⟩
end
section
open Go.RowKit Go.Sort Go.Shelf
def NewM (w:World) (Q:List UInt8) (e:Ending) (w':World):Prop:=∃ v,e=.returned v∧jjz Q v w'∧Below w.heap.size w w'
def SaysM (w:World) (l:List UInt8) (E:Int) (e:Ending) (w':World):Prop:=∃ v,e=.returned (.tuple #[v,.int .i64 E])∧jjz l v w'∧Below w.heap.size w w'
theorem clone_m {l:List UInt8} {v:Value} {W:World} (h:jjz l v W) (hl:l.length≤1000000):Calls prog 11 #[v] W (NewM W l):=by
 obtain⟨A,c,rfl,hc,hr⟩:=h
 refine (bcloneB_any A l.length c l W hr rfl (by omega)).mono ?_
 rintro e w' ⟨v,rfl,hown,hb⟩
 exact⟨v,rfl,jjz.of_own hown,hb⟩
theorem theyCode_any {l:List UInt8} {v:Value} {W:World} (V:Int) (h:jjz l v W) (hl:l.length≤1000000):Calls prog 281 #[.agg #[],v,.int .i64 V] W (NewM W l):=by
 have C:=jq (fun W' (hb:Below W.heap.size W W')=>clone_m (h.grow hb) hl)
 have hb1:=(Below.refl W.heap.size W).alloc jw (.cells #[] 85)
 have C1:=jq (C.out _ hb1)
 have HB:=jq hb1
 clear h hl C hb1
 go_enter func281,ntmps281
 go_wp2_with fail
 refine C1.out.mono ?_
 rintro e w1 ⟨v',rfl,hv,hb⟩
 have HV:=jq (And.intro hv (HB.out.trans (hb.mono HB.out.size)))
 clear hv hb
 go_wp2
 go_ret
 exact⟨v',rfl,HV.out⟩
theorem wordsCode_any {Q:List UInt8} {v:Value} {W:World} {V:Int} (C:∀ W',Below W.heap.size W W'→Calls prog 287 #[v,.int .i64 V] W' (NewM W' Q)):Calls prog 284 #[.agg #[],v,.int .i64 V] W (NewM W Q):=by
 have hb1:=(Below.refl W.heap.size W).alloc jw (.cells #[] 86)
 have C1:=jq (C _ hb1)
 have HB:=jq hb1
 clear C hb1
 go_enter func284,ntmps284
 go_wp2_with fail
 refine C1.out.mono ?_
 rintro e w1 ⟨v',rfl,hv,hb⟩
 have HV:=jq (And.intro hv (HB.out.trans (hb.mono HB.out.size)))
 clear hv hb
 go_wp2
 go_ret
 exact⟨v',rfl,HV.out⟩
theorem jvj {Q:List UInt8} {v u:Value} {W:World} {V:Int} {K:Nat} (hE:Enters prog K) (C:∀ W',Below W.heap.size W W'→Calls prog K #[v] W' (NewM W' Q)):Calls prog 299 #[.agg #[.func (.func K) #[] #[],u],v,.int .i64 V] W (NewM W Q):=by
 have hb1:=(Below.refl W.heap.size W).alloc jw (.cells #[.func (.func K) #[] #[],u] 88)
 have hk:Blk (W.alloc (.cells #[.func (.func K) #[] #[],u] 88)) W.heap.size 88 [.func (.func K) #[] #[],u]:=heap_alloc_new W _
 have c0:=hk.cell 0
 simp only[jy] at c0
 have C1:=jq (C _ hb1)
 have HB:=jq hb1
 have HE:=jq hE
 clear C hb1 hE hk
 go_enter func299,ntmps299
 go_wp2_with fail
 rw[HE.out]
 refine C1.out.mono ?_
 rintro e w1 ⟨v',rfl,hv,hb⟩
 have HV:=jq (And.intro hv (HB.out.trans (hb.mono HB.out.size)))
 clear hv hb
 go_wp2
 go_ret
 exact⟨v',rfl,HV.out⟩
theorem theyDec_any {l:List UInt8} {v:Value} {W:World} (V:Int) (h:jjz l v W) (hl:l.length≤1000000):Calls prog 282 #[.agg #[],v,.int .i64 V,.int .i64 (l.length:Int)] W (SaysM W l 0):=by
 have hb1:=(Below.refl W.heap.size W).alloc jw (.cells #[] 85)
 have C1:=jq (clone_m (h.grow hb1) hl)
 have HB:=jq hb1
 obtain⟨A,c,rfl,hc,hr⟩:=h
 obtain⟨N,hN⟩:∃ N:Nat,N=l.length:=⟨_,rfl⟩
 rw[←hN] at C1 ⊢
 have hne:((N:Int) != (N:Int))=false:=by simp
 clear hb1 hr hc hN hl
 go_enter func282,ntmps282
 go_wp2_with fail
 refine C1.out.mono ?_
 rintro e w1 ⟨v',rfl,hv,hb⟩
 have HV:=jq (And.intro hv (HB.out.trans (hb.mono HB.out.size)))
 clear hv hb
 go_wp2
 go_ret2
 exact⟨v',rfl,HV.out⟩
theorem wordsDec_any {l:List UInt8} {v:Value} {W:World} {V n E:Int} (C:∀ W',Below W.heap.size W W'→Calls prog 288 #[v,.int .i64 V,.int .i64 n] W' (SaysM W' l E)):Calls prog 285 #[.agg #[],v,.int .i64 V,.int .i64 n] W (SaysM W l E):=by
 have hb1:=(Below.refl W.heap.size W).alloc jw (.cells #[] 86)
 have C1:=jq (C _ hb1)
 have HB:=jq hb1
 clear C hb1
 go_enter func285,ntmps285
 go_wp2_with fail
 refine C1.out.mono ?_
 rintro e w1 ⟨v',rfl,hv,hb⟩
 have HV:=jq (And.intro hv (HB.out.trans (hb.mono HB.out.size)))
 clear hv hb
 go_wp2
 go_ret2
 exact⟨v',rfl,HV.out⟩
theorem jvp {l:List UInt8} {v u:Value} {W:World} {V n E:Int} {K:Nat} (hE:Enters prog K) (C:∀ W',Below W.heap.size W W'→Calls prog K #[v,.int .i64 n] W' (SaysM W' l E)):Calls prog 300 #[.agg #[u,.func (.func K) #[] #[]],v,.int .i64 V,.int .i64 n] W (SaysM W l E):=by
 have hb1:=(Below.refl W.heap.size W).alloc jw (.cells #[u,.func (.func K) #[] #[]] 88)
 have hk:Blk (W.alloc (.cells #[u,.func (.func K) #[] #[]] 88)) W.heap.size 88 [u,.func (.func K) #[] #[]]:=heap_alloc_new W _
 have c0:=hk.cell 1
 simp only[jy,jx] at c0
 have C1:=jq (C _ hb1)
 have HB:=jq hb1
 have HE:=jq hE
 clear C hb1 hE hk
 go_enter func300,ntmps300
 go_wp2_with fail
 rw[HE.out]
 refine C1.out.mono ?_
 rintro e w1 ⟨v',rfl,hv,hb⟩
 have HV:=jq (And.intro hv (HB.out.trans (hb.mono HB.out.size)))
 clear hv hb
 go_wp2
 go_ret2
 exact⟨v',rfl,HV.out⟩
theorem enters_code {k:Nat} (hk:k≤5):Enters prog (codeK k):=by
 rcases (show k=0∨k=1∨k=2∨k=3∨k=4∨k=5 by omega) with rfl | rfl | rfl | rfl | rfl | rfl
 ·exact enters_of func281 (by kernel_rfl) rfl
 ·exact enters_of func284 (by kernel_rfl) rfl
 all_goals exact enters_of func299 (by kernel_rfl) rfl
theorem enters_dec {k:Nat} (hk:k≤5):Enters prog (decK k):=by
 rcases (show k=0∨k=1∨k=2∨k=3∨k=4∨k=5 by omega) with rfl | rfl | rfl | rfl | rfl | rfl
 ·exact enters_of func282 (by kernel_rfl) rfl
 ·exact enters_of func285 (by kernel_rfl) rfl
 all_goals exact enters_of func300 (by kernel_rfl) rfl
theorem mdsCode_any {k:Nat} (hk:k≤5) {V:Nat} (hV:IsW V) {Q:List UInt8} {v:Value} {w:World} (C:∀ W',Below w.heap.size w W'→Calls prog (codeK k) #[wayX k,v,.int .i64 (V:Int)] W' (NewM W' Q)):Calls prog 6 #[.int .i64 (k:Int),v,.int .i64 (V:Int)] w (SaysM w Q 0):=by
 have CW:=jq (wayOf_any hk)
 have CR:=jq (jjx (V:Int) true hV.right)
 have HE:=jq (enters_code hk)
 have hm:=fun W=>meth_code hk W
 simp only[Tryz.types_size,Nat.reduceAdd] at hm
 obtain⟨T,hT⟩:∃ T,T=wayT k:=⟨_,rfl⟩
 obtain⟨X,hX⟩:∃ X,X=wayX k:=⟨_,rfl⟩
 obtain⟨K,hK⟩:∃ K,K=codeK k:=⟨_,rfl⟩
 have CC:=jq C
 rw[←hT,←hX,←hK] at hm
 unfold wayV at CW
 rw[←hT,←hX] at CW
 rw[←hX,←hK] at CC
 rw[←hK] at HE
 clear C hT hX hK hk hV
 go_enter func6,ntmps6
 go_wp2_with fail
 refine (CW.out _).mono ?_
 rintro e w1 ⟨rfl,hb1⟩
 have C1:=jq (CC.out _ hb1)
 have HB:=jq hb1
 clear hb1
 go_wp2_with fail
 refine (CR.out _).mono ?_
 rintro e w2 ⟨rfl,hw⟩
 subst hw
 have hm1:=hm w1
 go_wp2_with fail
 rw[HE.out]
 refine C1.out.mono ?_
 rintro e w2 ⟨v',rfl,hv,hb⟩
 have HV:=jq (And.intro hv (HB.out.trans (hb.mono HB.out.size)))
 clear hv hb
 go_wp2
 go_ret2
 exact⟨v',rfl,HV.out⟩
theorem none_bytes (w:World):jjz [] (.slice none 0 0) w:=⟨none,0,rfl,Nat.le_refl _,Rd.nil_ _ _ _⟩
def leastM (k V n:Nat):Nat :=
 match k with
 | 0=>n
 | 1=>(n/V+n%V*8+7)/8
 | 2=>0
 | 3=>0
 | 4=>0
 | _=>if n=0 then 0 else (260+n+7)/8
theorem enters_lea {k:Nat} (hk:k=0∨k=1∨k=5):Enters prog (leaK k):=by
 rcases hk with rfl | rfl | rfl
 ·exact enters_of func283 (by kernel_rfl) rfl
 ·exact enters_of func286 (by kernel_rfl) rfl
 ·exact enters_of func301 (by kernel_rfl) rfl
def IntM (w:World) (n:Nat) (e:Ending) (w':World):Prop:=e=.returned (.int .i64 (n:Int))∧Below w.heap.size w w'
theorem wayLea_any {k:Nat} (hk:k=0∨k=1∨k=5) {V:Nat} (hV:IsW V) {n:Nat} (hn:n≤100000000) (W:World):Calls prog (leaK k) #[wayX k,.int .i64 (V:Int),.int .i64 (n:Int)] W (IntM W (leastM k V n)):=by
 rcases hk with rfl | rfl | rfl
 ·exact theyLeast_any _ _ _
 ·exact wordsLeast_any hV n hn _
 ·exact codesLeast_any _ n hn _ _
theorem least_any {k:Nat} (hk:k≤5) {V:Nat} (hV:IsW V) {n:Nat} (hn:n≤100000000) (w:World):Calls prog 15 #[wayV k,.int .i64 (V:Int),.int .i64 (n:Int)] w (IntM w (leastM k V n)):=by
 by_cases h:k=0∨k=1∨k=5
 ·have ha:=asserts_yes h
  have hm:=meth_least h
  simp only[Tryz.types_size,Nat.reduceAdd] at hm
  have HE:=jq (enters_lea h)
  have CL:=jq (wayLea_any h hV hn)
  obtain⟨T,hT⟩:∃ T,T=wayT k:=⟨_,rfl⟩
  obtain⟨X,hX⟩:∃ X,X=wayX k:=⟨_,rfl⟩
  obtain⟨K,hK⟩:∃ K,K=leaK k:=⟨_,rfl⟩
  obtain⟨M,hM⟩:∃ M,M=leastM k V n:=⟨_,rfl⟩
  unfold wayV at *
  rw[←hT,←hX] at ha ⊢
  rw[←hT,←hX,←hK] at hm
  rw[←hK] at HE
  rw[←hK,←hX,←hM] at CL
  rw[←hM]
  clear hT hX hK hM h hk hV hn
  go_enter func15,ntmps15
  go_wp2_with fail
  rw[HE.out]
  refine (CL.out _).mono ?_
  rintro e w2 ⟨rfl,hb⟩
  go_wp2
  go_ret
  exact⟨rfl,hb⟩
 ·have ha:=asserts_not (show k=2∨k=3∨k=4 by omega)
  have hz:leastM k V n=0:=by
   rcases (show k=2∨k=3∨k=4 by omega) with rfl | rfl | rfl <;> rfl
  rw[hz]
  obtain⟨T,hT⟩:∃ T,T=wayT k:=⟨_,rfl⟩
  obtain⟨X,hX⟩:∃ X,X=wayX k:=⟨_,rfl⟩
  unfold wayV at *
  rw[←hT,←hX] at ha ⊢
  clear hT hX h hk hV hn hz
  go_enter func15,ntmps15
  go_wp2
  go_ret
  exact⟨rfl,Below.refl _ _⟩
theorem mdsDecode_any {k:Nat} (hk:k≤5) {V:Nat} (hV:IsW V) {n M c:Nat} (hn:n≤67108864) (hM:leastM k V n≤M) {A:Option Addr} {l:List UInt8} {E:Int} {w:World} (C:∀ W',Below w.heap.size w W'→Calls prog (decK k) #[wayX k,.slice A M c,.int .i64 (V:Int),.int .i64 (n:Int)] W' (SaysM W' l E)):Calls prog 7 #[.int .i64 (k:Int),.slice A M c,.int .i64 (V:Int),.int .i64 (n:Int)] w (SaysM w l E):=by
 have CW:=jq (wayOf_any hk)
 have CR:=jq (jjx (V:Int) true hV.right)
 have CL:=jq (least_any hk hV (n:=n) (by omega))
 have HE:=jq (enters_dec hk)
 have hm:=fun W=>meth_dec hk W
 simp only[Tryz.types_size,Nat.reduceAdd] at hm
 obtain⟨L,hL⟩:∃ L,L=leastM k V n:=⟨_,rfl⟩
 have h1:¬ ((M:Int)<(L:Int)):=by omega
 have h2:¬ ((n:Int)<0):=by omega
 have h3:¬ ((67108864:Int)<(n:Int)):=by omega
 obtain⟨T,hT⟩:∃ T,T=wayT k:=⟨_,rfl⟩
 obtain⟨X,hX⟩:∃ X,X=wayX k:=⟨_,rfl⟩
 obtain⟨K,hK⟩:∃ K,K=decK k:=⟨_,rfl⟩
 have CC:=jq C
 rw[←hT,←hX,←hK] at hm
 unfold wayV at CW CL
 rw[←hT,←hX] at CW
 rw[←hT,←hX,←hL] at CL
 rw[←hX,←hK] at CC
 rw[←hK] at HE
 obtain⟨m,hmN⟩:∃ m:Int,m=(n:Int):=⟨_,rfl⟩
 rw[←hmN] at CL CC h2 h3 ⊢
 clear C hT hX hK hk hV hL hM hn hmN
 go_enter func7,ntmps7
 go_wp2_with fail
 refine (CW.out _).mono ?_
 rintro e w1 ⟨rfl,hb1⟩
 have HB:=jq hb1
 clear hb1
 go_wp2_with fail
 refine (CR.out _).mono ?_
 rintro e w2 ⟨rfl,hw⟩
 subst hw
 go_wp2_with fail
 refine (CL.out _).mono ?_
 rintro e w2 ⟨rfl,hb2⟩
 have C1:=jq (CC.out _ (HB.out.trans (hb2.mono HB.out.size)))
 have HB2:=jq (HB.out.trans (hb2.mono HB.out.size))
 clear hb2
 have hm1:=hm w2
 go_wp2_with fail
 rw[HE.out]
 refine C1.out.mono ?_
 rintro e w3 ⟨v',rfl,hv,hb⟩
 have HV:=jq (And.intro hv (HB2.out.trans (hb.mono HB2.out.size)))
 clear hv hb
 go_wp2
 go_ret2
 exact⟨v',rfl,HV.out⟩
end
end Go.Proofs.YtflcmmeoppdhdaaGreatDoor
