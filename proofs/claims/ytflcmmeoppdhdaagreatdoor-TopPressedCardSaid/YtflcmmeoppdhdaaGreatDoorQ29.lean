/- Window, over all words: the library's LeadingZeros64, TrailingZeros64 and its table. -/
import Derived.Test.YtflcmmeoppdhdaaGreatDoorQ10
import Derived.Test.YtflcmmeoppdhdaaGreatDoorQ13
import Derived.Test.YtflcmmeoppdhdaaGreatDoorQ28
set_option maxHeartbeats 1000000
set_option maxRecDepth 100000
namespace Go.Proofs.YtflcmmeoppdhdaaGreatDoor
open Tryz
section
open Go.RowKit
def TabA (w:World):Prop:=∀ j,j<64→w.cell? ⟨0,j,none⟩=some (.int .u8 ((Lib.deBruijn64tab.getD j 0:Nat):Int))
theorem TabA.grow {w w':World} (h:TabA w) (hb:Below w.heap.size w w'):TabA w':=by
 intro j hj
 have hc:=h j hj
 obtain⟨o,ho,_⟩:=cells_of_cell hc
 exact (hb.cell (p:=⟨0,j,none⟩) (Array.getElem?_eq_some_iff.1 ho).1).trans hc
theorem TabA.below {w w':World} {B:Nat} (h:TabA w) (hb:Below B w w') (hB:0<B):TabA w':=by
 intro j hj
 exact (hb.cell (p:=⟨0,j,none⟩) (by simpa using hB)).trans (h j hj)
theorem tz_key (x a:Nat) (hx:x<18446744073709551616) (hx0:x≠0) (hlow:x &&& (18446744073709551616 - x)=a) :
  IntKind.u64.wrap (bits BinOp.and IntKind.u64 (x:Int) (IntKind.u64.wrap (-(x:Int)))*285870213051353865)/288230376151711744=((a*285870213051353865%18446744073709551616/288230376151711744:Nat):Int):=by
 have e1:IntKind.u64.wrap (-(x:Int))=((18446744073709551616 - x:Nat):Int):=by rw[IntKind.wrap_u64];omega
 rw[e1,u64_and _ _ (by omega) (by omega) (by omega) (by omega),Int.toNat_natCast,Int.toNat_natCast,hlow,IntKind.wrap_u64]
 omega
theorem tz64_any (x:Nat) (hx:x<18446744073709551616) (hx0:x≠0) (w:World) (ht:TabA w) :
  Calls prog 216 #[.int .u64 (x:Int)] w fun e w'=>e=.returned (.int .i64 (jjf x:Nat))∧w'=w:=by
 obtain⟨hlow,hk⟩:=Lib.lowest_bit 64 x hx0 hx
 obtain⟨hi,htab⟩:=Lib.deBruijn64_at _ hk
 have key:=tz_key x _ hx hx0 hlow
 obtain⟨idx,hidx⟩:∃ idx,idx=2^Lib.ctz 64 x*285870213051353865%18446744073709551616/288230376151711744:=⟨_,rfl⟩
 rw[←hidx] at key hi htab
 have hcell:=ht idx hi
 rw[htab] at hcell
 have hb:jjf x=Lib.ctz 64 x:=rfl
 rw[←hb] at hcell hk
 have hx1:((x:Int)==0)=false:=by rw[beq_eq_false_iff_ne];omega
 have hk1:(jjf x:Int)<64:=by omega
 have hi1:(idx:Int)<64:=by omega
 clear hidx hlow htab ht hb hx0
 generalize jjf x=B at *
 go_enter func216,ntmps216
 go_wp2_with (simp only[key])
 go_ret
 exact⟨rfl,rfl⟩
theorem lead64_any (x:Nat) (hx:x<18446744073709551616) (w:World) :
  Calls prog 215 #[.int .u64 (x:Int)] w fun e w'=>e=.returned (.int .i64 ((64 - Lib.bitLen x:Nat):Int))∧w=w':=by
 have hb:Lib.bitLen x≤64:=Lib.bitLen_le x 64 (by omega) hx
 have C:=jq (len64_any (x:Int) w (by omega) (by omega))
 have hc:=C.out
 rw[Int.toNat_natCast] at hc
 have C:=jq hc
 clear hc hx
 generalize Lib.bitLen x=L at *
 go_enter func215,ntmps215
 go_wp2_with fail
 refine C.out.mono ?_
 rintro e w' ⟨rfl,rfl⟩
 go_wp2
 go_ret
 exact⟨jyr (by omega),rfl⟩
theorem bitLen_mask {W:Nat} (hW:IsW W):Lib.bitLen (256^W - 1)=8*W:=by
 rcases hW with rfl | rfl | rfl | rfl <;> decide
theorem and_maskW {W x:Nat} (hW:IsW W) (hx:x<256^W):bits .and .u64 (x:Int) ((256^W - 1:Nat):Int)=(x:Int):=by
 have h8:256^W≤18446744073709551616:=by rcases hW with rfl | rfl | rfl | rfl <;> decide
 rw[u64_and _ _ (by omega) (by omega) (by omega) (by omega),Int.toNat_natCast,Int.toNat_natCast,pow_256 W,Nat.and_two_pow_sub_one_eq_mod,Nat.mod_eq_of_lt (by rw[←pow_256];exact hx)]
theorem maskW {W:Nat} (hW:IsW W):maskN (W:Int)=256^W - 1:=by
 unfold maskN
 rw[hW.right.symm]
 simp
theorem window_any {W:Nat} (hW:IsW W) (x:Nat) (h0:x≠0) (hx:x<256^W) (w:World) (ht:TabA w) :
  Calls prog 178 #[.int .u64 (x:Int),.int .i64 (W:Int)] w fun e w'=>e=.returned (.tuple #[.int .i64 (jjp W x:Nat),.int .i64 (jjf x:Nat)])∧w'=w:=by
 have hp:=hW.pos
 obtain⟨h1,h2,h3,h4,h5,h6,h7,h8⟩:=jmg hp.2 h0 hx
 have h8':256^W≤18446744073709551616:=by rcases hW with rfl | rfl | rfl | rfl <;> decide
 have c1:=jyc (W:Int) w
 rw[maskW hW] at c1
 have ha:=and_maskW hW hx
 have c3:=lead64_any (256^W - 1) (by omega) w
 rw[bitLen_mask hW] at c3
 obtain⟨M,hM⟩:∃ M,M=256^W - 1:=⟨_,rfl⟩
 rw[←hM] at c1 c3 ha
 have C1:=jq c1
 have C2:=jq (lead64_any x (by omega) w)
 have C3:=jq c3
 have C4:=jq (tz64_any x (by omega) h0 w ht)
 have hx1:((x:Int)==0)=false:=by rw[beq_eq_false_iff_ne];omega
 have H:=jq (And.intro h2 (And.intro h3 hp))
 have hL:(Lib.bitLen x:Int)≤64:=by omega
 clear c1 c3 hM h1 h2 h3 h4 h5 h6 h7 h8 h8' hx h0 ht hp hW
 go_enter func178,ntmps178
 go_wp2_with fail
 refine C1.out.mono ?_
 rintro e w' ⟨rfl,rfl⟩
 go_wp2_with fail
 refine C2.out.mono ?_
 rintro e w' ⟨rfl,rfl⟩
 go_wp2_with fail
 refine C3.out.mono ?_
 rintro e w' ⟨rfl,rfl⟩
 go_wp2_with fail
 refine C4.out.mono ?_
 rintro e w' ⟨rfl,rfl⟩
 go_wp2
 go_ret2
 refine⟨?_,rfl⟩
 have h:=H.out
 rw[show ((64 - Lib.bitLen x:Nat):Int) - ((64 - 8*W:Nat):Int)=(jjp W x:Int) by omega]
 rfl
end
end Go.Proofs.YtflcmmeoppdhdaaGreatDoor
