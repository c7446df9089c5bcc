/- A region that draws its order, with calls that turn the world one behind the other (RegionSeq), within a round of a range over a function. General: no code of the project. -/
import Derived.Test.YtflcmmeoppdhdaaGreatDoorQ08
import Derived.OrdersIn
import Derived.RangeFuncCalls
set_option maxHeartbeats 1000000
set_option maxRecDepth 100000
namespace Go.Proofs.YtflcmmeoppdhdaaGreatDoor
section
open Go.RowKit
section
variable {P:Program} {o:Oper} {a:Act} {w:World} {K:Act→World→Prop} {Q:Exit→Act→World→Prop} {l n:Nat}
theorem oper_round (hd:∀ c,o.op ≠ .defer c) (h:o.wp P a w K Q):o.wpIn (Fence.wide.inRound l) n P a w K Q:=by
 refine⟨fun _ _=>trivial,?_⟩
 rw[Oper.semAt_eq _ _ _ hd]
 unfold Oper.wp at h
 generalize (execOp a.eval o).run P w=r at *
 cases r with
 | ok x w' =>
  cases x with
  | value v=>exact h
  | skip=>exact h
  | defer d=>exact h
  | enter f args=>exact⟨(fun h=>by cases h),CallsIn.inRound l (callsIn_wide.2 h)⟩
  | row row args=>exact⟨(fun h=>by cases h),fun c cs _=>let ⟨v,w',r,s⟩:=h c cs;⟨v,w',r,stepsIn_wide.2 s⟩⟩
  | _=>exact h.elim
 | halt x w'=>cases x <;> exact h
def noDefer (ops:Array Oper):Bool:=ops.toList.all fun o=>match o.op with
 | .defer _=>false
 | _=>true
theorem jgt {md:Region.Mode} {ops:Array Oper} (hd:noDefer ops=true) (hQ:¬ LetsOut Q):∀ (fuel:Nat) (listed:Array Bool) (a:Act) (w:World),wpAny P md ops Q fuel listed a w→wpAnyIn (Fence.wide.inRound l) n P md ops Q fuel listed a w
 | 0,_,_,_,h=>h
 | fuel+1,listed,a,w,h=>by
  refine⟨h.1,fun i hi=>?_⟩
  have h2:=h.2 i hi
  unfold wpOp at h2
  unfold wpOpIn
  cases ho:ops[i]? with
  | none =>
   rw[ho] at h2
   exact jgt hd hQ fuel _ _ _ h2
  | some o =>
   rw[ho] at h2
   have hno:∀ c,o.op ≠ .defer c:=fun c e=>by
    have hm:o∈ops.toList:=Array.mem_def.1 (Array.mem_of_getElem? ho)
    have:=List.all_eq_true.1 hd o hm
    rw[e] at this
    cases this
   simp only at h2 ⊢
   by_cases hw:Region.wanted o (yielded ops a.tmps)=true
   ·rw[if_pos hw] at h2 ⊢
    rcases h2 with h2 | ⟨-,h2⟩
    ·exact Oper.wpIn_mono (fun a' w' h3=>jgt hd hQ fuel _ a' w' h3) (oper_round hno h2)
    ·exact absurd h2 hQ
   ·rw[if_neg hw] at h2 ⊢
    exact⟨fun _ _=>trivial,jgt hd hQ fuel _ _ _ h2⟩
end
section
variable {P:Program} {ops:Array Oper} {a0:Act} {Q:Exit→Act→World→Prop} {l n:Nat}
theorem wp_region_round {id:Nat} {w0:World} (hd:noDefer ops=true) (hQ:¬ LetsOut Q) (rows:List RowS) (r:Nat) (G:Nat→World→Prop) (outs:List (Nat × Value)) (h0:G 0 w0.drew) (hm:P.follows .mixedOrders=true) (hok:qjr ops a0.tmps.size=true) (hac:acyc ops=true) (hrows:qxc ops rows r=true) (hlast:lastCall rows r=true) (hout:qgx ops outs=true) (houts:jyk a0.eval outs)
  (hobl:jvk P G rows outs rows ops.toList)
  (hend:∀ w:World,G r w→Q .normal ⟨layAll ops (fun k=>(rowS rows k).val) 0 ops.toList a0.tmps,a0.defers⟩ w) :
  (Code.region id ops true).wpIn (Fence.wide.inRound l) n P Q a0 w0:=by
 refine wpIn_region_any hm (jgt hd hQ _ _ _ _ (wpAny_seq hok hac hrows hlast hout houts hobl hend ops.size _ a0 _ 0 ?_ ?_))
 ·simp[jbl]
 ·refine⟨by simp,rfl,rfl,fun _ _=>rfl,fun k o ho hk=>?_,fun k hk=>?_,fun k hk=>?_,fun k hk hkf=>Nat.zero_le _,Nat.zero_le _,h0⟩
  ·have g:k<ops.size:=(Array.getElem?_eq_some_iff.1 ho).1
   simp[Array.getD_eq_getD_getElem?,g] at hk
  all_goals
   exfalso
   rcases Nat.lt_or_ge k ops.size with g | g
   ·simp[Array.getD_eq_getD_getElem?,g] at hk
   ·simp[Array.getD_eq_getD_getElem?,Nat.not_lt.2 g] at hk
end
end
end Go.Proofs.YtflcmmeoppdhdaaGreatDoor
