/- Texts one behind the other: LJ KE. -/
import Derived.Test.YtkekkbciiohbkaaGreatDoorZ25
import Derived.Test.YtkekkbciiohbkaaGreatDoorZ23
import Derived.Laws.EntriesVeiled
set_option maxRecDepth 100000
set_option maxHeartbeats 16000000
set_option linter.unusedVariables false
set_option linter.unnecessarySimpa false
namespace Go.Proofs.YtkekkbciiohbkaaGreatDoor.L
open Go.RowKit
theorem FD:∀ k:Fin 8,∀ s:Fin 128,s.val<2 ^ k.val→bits .or .u16 (s.val:Int) (2 ^ k.val)=(s.val:Int)+2 ^ k.val:=by decide +kernel
theorem oX:∀(l:List Bool) (i:Nat) (b:Bool),sm i (l++[b])=sm i l+bt b (2 ^ (i+l.length))
 | [],i,b=>by simp[sm]
 | a::l,i,b=>by
  rw[List.cons_append,sm,sm,oX l (i+1) b,List.length_cons,show i+1+l.length=i+(l.length+1) by omega];omega
theorem Qs.below{W W':World}{g Bl Bh Bf Bz:Nat}{v:Value}{hy:Bool}{x y:Int}(h:Qs W g Bl Bh Bf Bz v hy x y)(hB:Below W.heap.size W W'):Qs W' g Bl Bh Bf Bz v hy x y :=
 ⟨(hB.block g (Array.getElem?_eq_some_iff.1 h.row).1).trans h.row,(hB.block _ h.l.lt).trans h.l,(hB.block _ h.h.lt).trans h.h,(hB.block _ h.f.lt).trans h.f,(hB.block _ h.z.lt).trans h.z⟩
theorem Qs.alloc{W:World}{g Bl Bh Bf Bz:Nat}{v:Value}{hy:Bool}{x y:Int}(h:Qs W g Bl Bh Bf Bz v hy x y)(o:Obj):Qs (W.alloc o) g Bl Bh Bf Bz v hy x y:=h.below ((Below.refl _ W).alloc (Nat.le_refl _) o)
theorem Qs.cell{W:World}{g Bl Bh Bf Bz:Nat}{v:Value}{hy:Bool}{x y:Int}(h:Qs W g Bl Bh Bf Bz v hy x y)(i:Nat)(z:Value)(hz:(l5 Bl Bh Bf Bz)[i]? = some z):W.cell? ⟨g,i,none⟩=some z:=by
 simp[World.cell?,h.row,hz]
structure Sm(Q:List Bool)(k:Nat)(s:Int):Prop where
 eq:s=sm 0 (Q.take k)
 lo:0≤s
 hi:s<2 ^ k
theorem Sm.yes{Q:List Bool}{k:Nat}{s:Int}(h:Sm Q k s)(hk:k<8)(hq:Q[k]? = some true):Sm Q (k+1) (bits .or .u16 s (2 ^ k)):=by
 have hkl:k<Q.length:=(List.getElem?_eq_some_iff.1 hq).1
 have hlt:s<128:=by
  have h1:=h.hi
  have h2:(2:Int) ^ k≤2 ^ 7:=by
   have:=Nat.pow_le_pow_right (show 0<2 by omega) (show k≤7 by omega)
   exact_mod_cast this
  have e7:(2:Int) ^ 7=128:=by decide
  omega
 obtain⟨m,rfl⟩:∃ m:Nat,s=m:=⟨s.toNat,by have:=h.lo;omega⟩;have hm:m<2 ^ k:=by have:=h.hi;exact_mod_cast this
 have e:=FD ⟨k,hk⟩ ⟨m,by omega⟩ hm;simp only at e
 have ep:(2:Int) ^ (k+1)=2 ^ k+2 ^ k:=by rw[Int.pow_succ];omega
 have hq':Q[k]=true:=(List.getElem?_eq_some_iff.1 hq).2;refine⟨?_,?_,?_⟩
 ·rw[e,h.eq,List.take_succ_eq_append_getElem hkl,oX,List.length_take,hq',Nat.min_eq_left (by omega),Nat.zero_add];rfl
 ·rw[e]
  have:(0:Int)<2 ^ k:=Int.pow_pos (by omega);omega
 ·rw[e,ep]
  have:=h.hi;omega
theorem Sm.no{Q:List Bool}{k:Nat}{s:Int}(h:Sm Q k s)(hq:Q[k]? = some false):Sm Q (k+1) s:=by
 have hkl:k<Q.length:=(List.getElem?_eq_some_iff.1 hq).1;have hq':Q[k]=false:=(List.getElem?_eq_some_iff.1 hq).2;have ep:(2:Int) ^ (k+1)=2 ^ k+2 ^ k:=by rw[Int.pow_succ];omega
 refine⟨?_,h.lo,?_⟩
 ·rw[List.take_succ_eq_append_getElem hkl,oX,hq',←h.eq];simp[bt]
 ·have:=h.hi
  have:(0:Int)<2 ^ k:=Int.pow_pos (by omega);omega
structure Ip(w:World)(L:List Int)(hy:Bool)(v:Value)(g Bl Bh Bf Bz:Nat):Prop where
 a1:∀ W,Qs W g Bl Bh Bf Bz v hy (L[0]?.getD 0) (L[L.length - 1]?.getD 0)→Below w.heap.size w W→Calls Tryz.prog 260 #[.pointer (some ⟨Bl,0,none⟩)] W fun e W'=>e=.returned (.bool ((qs L hy)[0]?.getD false))∧Below W.heap.size W W'
 a2:∀ W,Qs W g Bl Bh Bf Bz v hy (L[0]?.getD 0) (L[L.length - 1]?.getD 0)→Below w.heap.size w W→Calls Tryz.prog 262 #[.pointer (some ⟨Bh,0,none⟩),.pointer (some ⟨Bl,0,none⟩)] W fun e W'=>e=.returned (.bool ((qs L hy)[1]?.getD false))∧Below W.heap.size W W'
 a3:∀ W,Qs W g Bl Bh Bf Bz v hy (L[0]?.getD 0) (L[L.length - 1]?.getD 0)→Below w.heap.size w W→Calls Tryz.prog 263 #[.pointer (some ⟨Bh,0,none⟩),.pointer (some ⟨Bf,0,none⟩),.pointer (some ⟨Bz,0,none⟩)] W fun e W'=>e=.returned (.bool ((qs L hy)[2]?.getD false))∧Below W.heap.size W W'
 a4:∀ W,Qs W g Bl Bh Bf Bz v hy (L[0]?.getD 0) (L[L.length - 1]?.getD 0)→Below w.heap.size w W→Calls Tryz.prog 264 #[.pointer (some ⟨Bl,0,none⟩)] W fun e W'=>e=.returned (.bool ((qs L hy)[3]?.getD false))∧Below W.heap.size W W'
 a5:∀ W,Qs W g Bl Bh Bf Bz v hy (L[0]?.getD 0) (L[L.length - 1]?.getD 0)→Below w.heap.size w W→Calls Tryz.prog 265 #[.pointer (some ⟨Bl,0,none⟩)] W fun e W'=>e=.returned (.bool ((qs L hy)[4]?.getD false))∧Below W.heap.size W W'
 a6:∀ W,Qs W g Bl Bh Bf Bz v hy (L[0]?.getD 0) (L[L.length - 1]?.getD 0)→Below w.heap.size w W→Calls Tryz.prog 267 #[.pointer (some ⟨Bf,0,none⟩)] W fun e W'=>e=.returned (.bool ((qs L hy)[5]?.getD false))∧Below W.heap.size W W'
 a7:∀ W,Qs W g Bl Bh Bf Bz v hy (L[0]?.getD 0) (L[L.length - 1]?.getD 0)→Below w.heap.size w W→Calls Tryz.prog 269 #[.pointer (some ⟨Bl,0,none⟩)] W fun e W'=>e=.returned (.bool ((qs L hy)[6]?.getD false))∧Below W.heap.size W W'
 a8:∀ W,Qs W g Bl Bh Bf Bz v hy (L[0]?.getD 0) (L[L.length - 1]?.getD 0)→Below w.heap.size w W→Calls Tryz.prog 271 #[.pointer (some ⟨Bl,0,none⟩)] W fun e W'=>e=.returned (.bool ((qs L hy)[7]?.getD false))∧Below W.heap.size W W'
theorem asks(w:World)(L:List Int)(hy:Bool)(v:Value)(g Bl Bh Bf Bz:Nat)(hlen:L.length≤10000)(hv:N.bA w v L)(hcap:∀ a n c,v=.slice a n c→n≤c):Ip w L hy v g Bl Bh Bf Bz:=by
 have hI:U.au w v L:=N.sx hv;exact⟨fun W hQ hB=>Fs Bl v L W hlen hQ.l (hv.below hB),fun W hQ hB=>Fq Bl Bh v hy L W hlen hQ.l hQ.h (hI.below hB (Nat.le_refl _)),fun W hQ hB=>Fp Bh Bf Bz hy _ _ W hQ.h hQ.f hQ.z,fun W hQ hB=>Fo Bl v L W hlen hQ.l (hI.below hB (Nat.le_refl _)) hcap,fun W hQ hB=>Fm Bl v L W hlen hQ.l (hI.below hB (Nat.le_refl _)),fun W hQ hB=>Fl Bf _ W hQ.f,fun W hQ hB=>Fk Bl v L W hlen hQ.l (hI.below hB (Nat.le_refl _)),fun W hQ hB=>Fj Bl v L W hlen hQ.l (hI.below hB (Nat.le_refl _))⟩
theorem rN(v:Value)(hy:Bool)(L:List Int)(w:World)(hp:0<L.length)(hlen:L.length≤10000)(hv:N.bA w v L)(hcap:∀ a n c,v=.slice a n c→n≤c):
  Calls Tryz.prog 159 #[v,.bool hy] w fun e W'=>e=.returned (.int .u16 (sm 0 (qs L hy)))∧Below w.heap.size w W':=by
 have hI:U.au w v L:=N.sx hv;have HQ:=hid (nB v hy L w hp hlen hI);have HA:=hid (fun g Bl Bh Bf Bz=>asks w L hy v g Bl Bh Bf Bz hlen hv hcap);obtain⟨a,c,rfl,-⟩:=aF hI;obtain⟨x,hx⟩:∃ x,L[0]?.getD 0=x:=⟨_,rfl⟩;obtain⟨y,hyy⟩:∃ y,L[L.length - 1]?.getD 0=y:=⟨_,rfl⟩;have HA2:Hid (∀ g Bl Bh Bf Bz,Ip w L hy (.slice a L.length c) g Bl Bh Bf Bz):=HA.out;obtain⟨Q,hQ⟩:∃ Q,qs L hy=Q:=⟨_,rfl⟩;have HL:Hid (Q.length=8):=by show _=_;rw[←hQ];rfl
 have HQQ:=hid hQ;have HX:=hid hx;have HY:=hid hyy;rw[hx,hyy]at HQ;rw[hQ];obtain⟨n,hn⟩:∃ n,L.length=n:=⟨_,rfl⟩;have HN:=hid hn;rw[hn]at HQ hp hlen ⊢;have h0:((n:Int)==0)=false:=by simp;omega
 have h0z:¬ ((n:Int)=0):=by omega
 clear hx hyy hQ hv hI hcap hn HA;go_enter Tryz.func159,Tryz.ntmps159
 go_wp2_with fail;refine HQ.out.mono ?_;rintro e w1 ⟨⟨g,Bl,Bh,Bf,Bz,rfl,hqs⟩,B1⟩
 have HS:=hid hqs;have HB1:=hid B1;clear hqs B1 HQ
 go_wp2_with fail
 go_loopw [5,15] (fun v5 v15 wr=>∃(k:Nat) (s:Int),k≤8∧v5=.int .u16 s∧v15=.int .i64 k∧Hid (Sm Q k s)∧Hid (Qs wr g Bl Bh Bf Bz (.slice a n c) hy x y)∧Hid (Below w.heap.size w wr)) (fun _ v15 _=>8 - (intOf v15).toNat)
 case atStart=>exact⟨0,0,Nat.zero_le _,rfl,rfl,⟨rfl,Int.le_refl _,by decide⟩,HS,HB1⟩
 case round =>
  clear HS HB1;obtain⟨k,s,hk,rfl,rfl,HM,HS,HB⟩:=hrel
  have HNO:Hid (∀ i,i<8→Q[i]? = some (Q[i]?.getD false)):=fun i hi=>by
   have:=HL.out;rw[List.getElem?_eq_getElem (show i<Q.length by omega)];rfl
  by_cases hlt:k<8
  ·have hcase:k=0∨k=1∨k=2∨k=3∨k=4∨k=5∨k=6∨k=7:=by omega
   clear hlt hk;rcases hcase with rfl | rfl | rfl | rfl | rfl | rfl | rfl | rfl
   ·have hb:=HS.out.cell 0 (.int .u16 1) rfl
    have hfn:=HS.out.cell 1 (.func (.func 260) #[] #[.pointer (some ⟨Bl,0,none⟩)]) rfl
    have hcall:Calls Tryz.prog 260 #[.pointer (some ⟨Bl,0,none⟩)] (wr.alloc (.cells #[.int .u16 1,.func (.func 260) #[] #[.pointer (some ⟨Bl,0,none⟩)]] 210)) fun e W'=>e=.returned (.bool (Q[0]?.getD false))∧Below (wr.alloc (.cells #[.int .u16 1,.func (.func 260) #[] #[.pointer (some ⟨Bl,0,none⟩)]] 210)).heap.size (wr.alloc (.cells #[.int .u16 1,.func (.func 260) #[] #[.pointer (some ⟨Bl,0,none⟩)]] 210)) W':=by
     have h1:=HS.out.alloc (.cells #[.int .u16 1,.func (.func 260) #[] #[.pointer (some ⟨Bl,0,none⟩)]] 210);have h2:=(HA2.out g Bl Bh Bf Bz).a1 (wr.alloc (.cells #[.int .u16 1,.func (.func 260) #[] #[.pointer (some ⟨Bl,0,none⟩)]] 210));rw[HX.out,HY.out,HN.out,HQQ.out]at h2;exact h2 h1 (HB.out.alloc HB.out.size _)
    have HCall:=hid hcall;have HNX:=hid (HNO.out 0 (by omega));obtain⟨t,ht⟩:∃ t,Q[0]?.getD false=t:=⟨_,rfl⟩;rw[ht]at HCall HNX;clear hcall ht
    have HFIN:Hid (∀ W',Below (wr.alloc (.cells #[.int .u16 1,.func (.func 260) #[] #[.pointer (some ⟨Bl,0,none⟩)]] 210)).heap.size (wr.alloc (.cells #[.int .u16 1,.func (.func 260) #[] #[.pointer (some ⟨Bl,0,none⟩)]] 210)) W'→Qs W' g Bl Bh Bf Bz (.slice a n c) hy x y∧Below w.heap.size w W'∧W'.cell? ⟨wr.heap.size,0,none⟩=some (.int .u16 1)):=fun W' B=>by
     have bb:=HB.out.alloc HB.out.size (.cells #[.int .u16 1,.func (.func 260) #[] #[.pointer (some ⟨Bl,0,none⟩)]] 210);refine⟨(HS.out.alloc _).below B,bb.trans (B.mono bb.size),?_⟩;rw[B.cell (p:=⟨wr.heap.size,0,none⟩) (by simp)];simp only[World.cell?,World.alloc_heap_new];rfl
    cases t with
    | true =>
     have HM2:=hid (HM.out.yes (by omega) HNX.out)
     go_wp2_with(go_at_call 260;refine HCall.out.mono ?_;rintro e w4 ⟨rfl,B4⟩;obtain⟨hS4,hB4,hc4⟩:=HFIN.out _ B4;have HS4:=hid hS4;have HB4:=hid hB4;clear hS4 hB4 B4)
     go_roundw
     case rel=>exact⟨1,_,by omega,rfl,by first | rfl | go_num,HM2,HS4,HB4⟩
     case measure=>simp[intOf]
    | false =>
     have HM2:=hid (HM.out.no HNX.out)
     go_wp2_with(go_at_call 260;refine HCall.out.mono ?_;rintro e w4 ⟨rfl,B4⟩;obtain⟨hS4,hB4,hc4⟩:=HFIN.out _ B4;have HS4:=hid hS4;have HB4:=hid hB4;clear hS4 hB4 B4)
     go_roundw
     case rel=>exact⟨1,_,by omega,rfl,by first | rfl | go_num,HM2,HS4,HB4⟩
     case measure=>simp[intOf]
   ·have hb:=HS.out.cell 2 (.int .u16 2) rfl
    have hfn:=HS.out.cell 3 (.func (.func 262) #[] #[.pointer (some ⟨Bh,0,none⟩),.pointer (some ⟨Bl,0,none⟩)]) rfl
    have hcall:Calls Tryz.prog 262 #[.pointer (some ⟨Bh,0,none⟩),.pointer (some ⟨Bl,0,none⟩)] (wr.alloc (.cells #[.int .u16 2,.func (.func 262) #[] #[.pointer (some ⟨Bh,0,none⟩),.pointer (some ⟨Bl,0,none⟩)]] 210)) fun e W'=>e=.returned (.bool (Q[1]?.getD false))∧Below (wr.alloc (.cells #[.int .u16 2,.func (.func 262) #[] #[.pointer (some ⟨Bh,0,none⟩),.pointer (some ⟨Bl,0,none⟩)]] 210)).heap.size (wr.alloc (.cells #[.int .u16 2,.func (.func 262) #[] #[.pointer (some ⟨Bh,0,none⟩),.pointer (some ⟨Bl,0,none⟩)]] 210)) W':=by
     have h1:=HS.out.alloc (.cells #[.int .u16 2,.func (.func 262) #[] #[.pointer (some ⟨Bh,0,none⟩),.pointer (some ⟨Bl,0,none⟩)]] 210);have h2:=(HA2.out g Bl Bh Bf Bz).a2 (wr.alloc (.cells #[.int .u16 2,.func (.func 262) #[] #[.pointer (some ⟨Bh,0,none⟩),.pointer (some ⟨Bl,0,none⟩)]] 210));rw[HX.out,HY.out,HN.out,HQQ.out]at h2;exact h2 h1 (HB.out.alloc HB.out.size _)
    have HCall:=hid hcall;have HNX:=hid (HNO.out 1 (by omega));obtain⟨t,ht⟩:∃ t,Q[1]?.getD false=t:=⟨_,rfl⟩;rw[ht]at HCall HNX;clear hcall ht
    have HFIN:Hid (∀ W',Below (wr.alloc (.cells #[.int .u16 2,.func (.func 262) #[] #[.pointer (some ⟨Bh,0,none⟩),.pointer (some ⟨Bl,0,none⟩)]] 210)).heap.size (wr.alloc (.cells #[.int .u16 2,.func (.func 262) #[] #[.pointer (some ⟨Bh,0,none⟩),.pointer (some ⟨Bl,0,none⟩)]] 210)) W'→Qs W' g Bl Bh Bf Bz (.slice a n c) hy x y∧Below w.heap.size w W'∧W'.cell? ⟨wr.heap.size,0,none⟩=some (.int .u16 2)):=fun W' B=>by
     have bb:=HB.out.alloc HB.out.size (.cells #[.int .u16 2,.func (.func 262) #[] #[.pointer (some ⟨Bh,0,none⟩),.pointer (some ⟨Bl,0,none⟩)]] 210);refine⟨(HS.out.alloc _).below B,bb.trans (B.mono bb.size),?_⟩;rw[B.cell (p:=⟨wr.heap.size,0,none⟩) (by simp)];simp only[World.cell?,World.alloc_heap_new];rfl
    cases t with
    | true =>
     have HM2:=hid (HM.out.yes (by omega) HNX.out)
     go_wp2_with(go_at_call 262;refine HCall.out.mono ?_;rintro e w4 ⟨rfl,B4⟩;obtain⟨hS4,hB4,hc4⟩:=HFIN.out _ B4;have HS4:=hid hS4;have HB4:=hid hB4;clear hS4 hB4 B4)
     go_roundw
     case rel=>exact⟨2,_,by omega,rfl,by first | rfl | go_num,HM2,HS4,HB4⟩
     case measure=>simp[intOf]
    | false =>
     have HM2:=hid (HM.out.no HNX.out)
     go_wp2_with(go_at_call 262;refine HCall.out.mono ?_;rintro e w4 ⟨rfl,B4⟩;obtain⟨hS4,hB4,hc4⟩:=HFIN.out _ B4;have HS4:=hid hS4;have HB4:=hid hB4;clear hS4 hB4 B4)
     go_roundw
     case rel=>exact⟨2,_,by omega,rfl,by first | rfl | go_num,HM2,HS4,HB4⟩
     case measure=>simp[intOf]
   ·have hb:=HS.out.cell 4 (.int .u16 4) rfl
    have hfn:=HS.out.cell 5 (.func (.func 263) #[] #[.pointer (some ⟨Bh,0,none⟩),.pointer (some ⟨Bf,0,none⟩),.pointer (some ⟨Bz,0,none⟩)]) rfl
    have hcall:Calls Tryz.prog 263 #[.pointer (some ⟨Bh,0,none⟩),.pointer (some ⟨Bf,0,none⟩),.pointer (some ⟨Bz,0,none⟩)] (wr.alloc (.cells #[.int .u16 4,.func (.func 263) #[] #[.pointer (some ⟨Bh,0,none⟩),.pointer (some ⟨Bf,0,none⟩),.pointer (some ⟨Bz,0,none⟩)]] 210)) fun e W'=>e=.returned (.bool (Q[2]?.getD false))∧Below (wr.alloc (.cells #[.int .u16 4,.func (.func 263) #[] #[.pointer (some ⟨Bh,0,none⟩),.pointer (some ⟨Bf,0,none⟩),.pointer (some ⟨Bz,0,none⟩)]] 210)).heap.size (wr.alloc (.cells #[.int .u16 4,.func (.func 263) #[] #[.pointer (some ⟨Bh,0,none⟩),.pointer (some ⟨Bf,0,none⟩),.pointer (some ⟨Bz,0,none⟩)]] 210)) W':=by
     have h1:=HS.out.alloc (.cells #[.int .u16 4,.func (.func 263) #[] #[.pointer (some ⟨Bh,0,none⟩),.pointer (some ⟨Bf,0,none⟩),.pointer (some ⟨Bz,0,none⟩)]] 210);have h2:=(HA2.out g Bl Bh Bf Bz).a3 (wr.alloc (.cells #[.int .u16 4,.func (.func 263) #[] #[.pointer (some ⟨Bh,0,none⟩),.pointer (some ⟨Bf,0,none⟩),.pointer (some ⟨Bz,0,none⟩)]] 210));rw[HX.out,HY.out,HN.out,HQQ.out]at h2;exact h2 h1 (HB.out.alloc HB.out.size _)
    have HCall:=hid hcall;have HNX:=hid (HNO.out 2 (by omega));obtain⟨t,ht⟩:∃ t,Q[2]?.getD false=t:=⟨_,rfl⟩;rw[ht]at HCall HNX;clear hcall ht
    have HFIN:Hid (∀ W',Below (wr.alloc (.cells #[.int .u16 4,.func (.func 263) #[] #[.pointer (some ⟨Bh,0,none⟩),.pointer (some ⟨Bf,0,none⟩),.pointer (some ⟨Bz,0,none⟩)]] 210)).heap.size (wr.alloc (.cells #[.int .u16 4,.func (.func 263) #[] #[.pointer (some ⟨Bh,0,none⟩),.pointer (some ⟨Bf,0,none⟩),.pointer (some ⟨Bz,0,none⟩)]] 210)) W'→Qs W' g Bl Bh Bf Bz (.slice a n c) hy x y∧Below w.heap.size w W'∧W'.cell? ⟨wr.heap.size,0,none⟩=some (.int .u16 4)):=fun W' B=>by
     have bb:=HB.out.alloc HB.out.size (.cells #[.int .u16 4,.func (.func 263) #[] #[.pointer (some ⟨Bh,0,none⟩),.pointer (some ⟨Bf,0,none⟩),.pointer (some ⟨Bz,0,none⟩)]] 210);refine⟨(HS.out.alloc _).below B,bb.trans (B.mono bb.size),?_⟩;rw[B.cell (p:=⟨wr.heap.size,0,none⟩) (by simp)];simp only[World.cell?,World.alloc_heap_new];rfl
    cases t with
    | true =>
     have HM2:=hid (HM.out.yes (by omega) HNX.out)
     go_wp2_with(go_at_call 263;refine HCall.out.mono ?_;rintro e w4 ⟨rfl,B4⟩;obtain⟨hS4,hB4,hc4⟩:=HFIN.out _ B4;have HS4:=hid hS4;have HB4:=hid hB4;clear hS4 hB4 B4)
     go_roundw
     case rel=>exact⟨3,_,by omega,rfl,by first | rfl | go_num,HM2,HS4,HB4⟩
     case measure=>simp[intOf]
    | false =>
     have HM2:=hid (HM.out.no HNX.out)
     go_wp2_with(go_at_call 263;refine HCall.out.mono ?_;rintro e w4 ⟨rfl,B4⟩;obtain⟨hS4,hB4,hc4⟩:=HFIN.out _ B4;have HS4:=hid hS4;have HB4:=hid hB4;clear hS4 hB4 B4)
     go_roundw
     case rel=>exact⟨3,_,by omega,rfl,by first | rfl | go_num,HM2,HS4,HB4⟩
     case measure=>simp[intOf]
   ·have hb:=HS.out.cell 6 (.int .u16 8) rfl
    have hfn:=HS.out.cell 7 (.func (.func 264) #[] #[.pointer (some ⟨Bl,0,none⟩)]) rfl
    have hcall:Calls Tryz.prog 264 #[.pointer (some ⟨Bl,0,none⟩)] (wr.alloc (.cells #[.int .u16 8,.func (.func 264) #[] #[.pointer (some ⟨Bl,0,none⟩)]] 210)) fun e W'=>e=.returned (.bool (Q[3]?.getD false))∧Below (wr.alloc (.cells #[.int .u16 8,.func (.func 264) #[] #[.pointer (some ⟨Bl,0,none⟩)]] 210)).heap.size (wr.alloc (.cells #[.int .u16 8,.func (.func 264) #[] #[.pointer (some ⟨Bl,0,none⟩)]] 210)) W':=by
     have h1:=HS.out.alloc (.cells #[.int .u16 8,.func (.func 264) #[] #[.pointer (some ⟨Bl,0,none⟩)]] 210);have h2:=(HA2.out g Bl Bh Bf Bz).a4 (wr.alloc (.cells #[.int .u16 8,.func (.func 264) #[] #[.pointer (some ⟨Bl,0,none⟩)]] 210));rw[HX.out,HY.out,HN.out,HQQ.out]at h2;exact h2 h1 (HB.out.alloc HB.out.size _)
    have HCall:=hid hcall;have HNX:=hid (HNO.out 3 (by omega));obtain⟨t,ht⟩:∃ t,Q[3]?.getD false=t:=⟨_,rfl⟩;rw[ht]at HCall HNX;clear hcall ht
    have HFIN:Hid (∀ W',Below (wr.alloc (.cells #[.int .u16 8,.func (.func 264) #[] #[.pointer (some ⟨Bl,0,none⟩)]] 210)).heap.size (wr.alloc (.cells #[.int .u16 8,.func (.func 264) #[] #[.pointer (some ⟨Bl,0,none⟩)]] 210)) W'→Qs W' g Bl Bh Bf Bz (.slice a n c) hy x y∧Below w.heap.size w W'∧W'.cell? ⟨wr.heap.size,0,none⟩=some (.int .u16 8)):=fun W' B=>by
     have bb:=HB.out.alloc HB.out.size (.cells #[.int .u16 8,.func (.func 264) #[] #[.pointer (some ⟨Bl,0,none⟩)]] 210);refine⟨(HS.out.alloc _).below B,bb.trans (B.mono bb.size),?_⟩;rw[B.cell (p:=⟨wr.heap.size,0,none⟩) (by simp)];simp only[World.cell?,World.alloc_heap_new];rfl
    cases t with
    | true =>
     have HM2:=hid (HM.out.yes (by omega) HNX.out)
     go_wp2_with(go_at_call 264;refine HCall.out.mono ?_;rintro e w4 ⟨rfl,B4⟩;obtain⟨hS4,hB4,hc4⟩:=HFIN.out _ B4;have HS4:=hid hS4;have HB4:=hid hB4;clear hS4 hB4 B4)
     go_roundw
     case rel=>exact⟨4,_,by omega,rfl,by first | rfl | go_num,HM2,HS4,HB4⟩
     case measure=>simp[intOf]
    | false =>
     have HM2:=hid (HM.out.no HNX.out)
     go_wp2_with(go_at_call 264;refine HCall.out.mono ?_;rintro e w4 ⟨rfl,B4⟩;obtain⟨hS4,hB4,hc4⟩:=HFIN.out _ B4;have HS4:=hid hS4;have HB4:=hid hB4;clear hS4 hB4 B4)
     go_roundw
     case rel=>exact⟨4,_,by omega,rfl,by first | rfl | go_num,HM2,HS4,HB4⟩
     case measure=>simp[intOf]
   ·have hb:=HS.out.cell 8 (.int .u16 16) rfl
    have hfn:=HS.out.cell 9 (.func (.func 265) #[] #[.pointer (some ⟨Bl,0,none⟩)]) rfl
    have hcall:Calls Tryz.prog 265 #[.pointer (some ⟨Bl,0,none⟩)] (wr.alloc (.cells #[.int .u16 16,.func (.func 265) #[] #[.pointer (some ⟨Bl,0,none⟩)]] 210)) fun e W'=>e=.returned (.bool (Q[4]?.getD false))∧Below (wr.alloc (.cells #[.int .u16 16,.func (.func 265) #[] #[.pointer (some ⟨Bl,0,none⟩)]] 210)).heap.size (wr.alloc (.cells #[.int .u16 16,.func (.func 265) #[] #[.pointer (some ⟨Bl,0,none⟩)]] 210)) W':=by
     have h1:=HS.out.alloc (.cells #[.int .u16 16,.func (.func 265) #[] #[.pointer (some ⟨Bl,0,none⟩)]] 210);have h2:=(HA2.out g Bl Bh Bf Bz).a5 (wr.alloc (.cells #[.int .u16 16,.func (.func 265) #[] #[.pointer (some ⟨Bl,0,none⟩)]] 210));rw[HX.out,HY.out,HN.out,HQQ.out]at h2;exact h2 h1 (HB.out.alloc HB.out.size _)
    have HCall:=hid hcall;have HNX:=hid (HNO.out 4 (by omega));obtain⟨t,ht⟩:∃ t,Q[4]?.getD false=t:=⟨_,rfl⟩;rw[ht]at HCall HNX;clear hcall ht
    have HFIN:Hid (∀ W',Below (wr.alloc (.cells #[.int .u16 16,.func (.func 265) #[] #[.pointer (some ⟨Bl,0,none⟩)]] 210)).heap.size (wr.alloc (.cells #[.int .u16 16,.func (.func 265) #[] #[.pointer (some ⟨Bl,0,none⟩)]] 210)) W'→Qs W' g Bl Bh Bf Bz (.slice a n c) hy x y∧Below w.heap.size w W'∧W'.cell? ⟨wr.heap.size,0,none⟩=some (.int .u16 16)):=fun W' B=>by
     have bb:=HB.out.alloc HB.out.size (.cells #[.int .u16 16,.func (.func 265) #[] #[.pointer (some ⟨Bl,0,none⟩)]] 210);refine⟨(HS.out.alloc _).below B,bb.trans (B.mono bb.size),?_⟩;rw[B.cell (p:=⟨wr.heap.size,0,none⟩) (by simp)];simp only[World.cell?,World.alloc_heap_new];rfl
    cases t with
    | true =>
     have HM2:=hid (HM.out.yes (by omega) HNX.out)
     go_wp2_with(go_at_call 265;refine HCall.out.mono ?_;rintro e w4 ⟨rfl,B4⟩;obtain⟨hS4,hB4,hc4⟩:=HFIN.out _ B4;have HS4:=hid hS4;have HB4:=hid hB4;clear hS4 hB4 B4)
     go_roundw
     case rel=>exact⟨5,_,by omega,rfl,by first | rfl | go_num,HM2,HS4,HB4⟩
     case measure=>simp[intOf]
    | false =>
     have HM2:=hid (HM.out.no HNX.out)
     go_wp2_with(go_at_call 265;refine HCall.out.mono ?_;rintro e w4 ⟨rfl,B4⟩;obtain⟨hS4,hB4,hc4⟩:=HFIN.out _ B4;have HS4:=hid hS4;have HB4:=hid hB4;clear hS4 hB4 B4)
     go_roundw
     case rel=>exact⟨5,_,by omega,rfl,by first | rfl | go_num,HM2,HS4,HB4⟩
     case measure=>simp[intOf]
   ·have hb:=HS.out.cell 10 (.int .u16 32) rfl
    have hfn:=HS.out.cell 11 (.func (.func 267) #[] #[.pointer (some ⟨Bf,0,none⟩)]) rfl
    have hcall:Calls Tryz.prog 267 #[.pointer (some ⟨Bf,0,none⟩)] (wr.alloc (.cells #[.int .u16 32,.func (.func 267) #[] #[.pointer (some ⟨Bf,0,none⟩)]] 210)) fun e W'=>e=.returned (.bool (Q[5]?.getD false))∧Below (wr.alloc (.cells #[.int .u16 32,.func (.func 267) #[] #[.pointer (some ⟨Bf,0,none⟩)]] 210)).heap.size (wr.alloc (.cells #[.int .u16 32,.func (.func 267) #[] #[.pointer (some ⟨Bf,0,none⟩)]] 210)) W':=by
     have h1:=HS.out.alloc (.cells #[.int .u16 32,.func (.func 267) #[] #[.pointer (some ⟨Bf,0,none⟩)]] 210);have h2:=(HA2.out g Bl Bh Bf Bz).a6 (wr.alloc (.cells #[.int .u16 32,.func (.func 267) #[] #[.pointer (some ⟨Bf,0,none⟩)]] 210));rw[HX.out,HY.out,HN.out,HQQ.out]at h2;exact h2 h1 (HB.out.alloc HB.out.size _)
    have HCall:=hid hcall;have HNX:=hid (HNO.out 5 (by omega));obtain⟨t,ht⟩:∃ t,Q[5]?.getD false=t:=⟨_,rfl⟩;rw[ht]at HCall HNX;clear hcall ht
    have HFIN:Hid (∀ W',Below (wr.alloc (.cells #[.int .u16 32,.func (.func 267) #[] #[.pointer (some ⟨Bf,0,none⟩)]] 210)).heap.size (wr.alloc (.cells #[.int .u16 32,.func (.func 267) #[] #[.pointer (some ⟨Bf,0,none⟩)]] 210)) W'→Qs W' g Bl Bh Bf Bz (.slice a n c) hy x y∧Below w.heap.size w W'∧W'.cell? ⟨wr.heap.size,0,none⟩=some (.int .u16 32)):=fun W' B=>by
     have bb:=HB.out.alloc HB.out.size (.cells #[.int .u16 32,.func (.func 267) #[] #[.pointer (some ⟨Bf,0,none⟩)]] 210);refine⟨(HS.out.alloc _).below B,bb.trans (B.mono bb.size),?_⟩;rw[B.cell (p:=⟨wr.heap.size,0,none⟩) (by simp)];simp only[World.cell?,World.alloc_heap_new];rfl
    cases t with
    | true =>
     have HM2:=hid (HM.out.yes (by omega) HNX.out)
     go_wp2_with(go_at_call 267;refine HCall.out.mono ?_;rintro e w4 ⟨rfl,B4⟩;obtain⟨hS4,hB4,hc4⟩:=HFIN.out _ B4;have HS4:=hid hS4;have HB4:=hid hB4;clear hS4 hB4 B4)
     go_roundw
     case rel=>exact⟨6,_,by omega,rfl,by first | rfl | go_num,HM2,HS4,HB4⟩
     case measure=>simp[intOf]
    | false =>
     have HM2:=hid (HM.out.no HNX.out)
     go_wp2_with(go_at_call 267;refine HCall.out.mono ?_;rintro e w4 ⟨rfl,B4⟩;obtain⟨hS4,hB4,hc4⟩:=HFIN.out _ B4;have HS4:=hid hS4;have HB4:=hid hB4;clear hS4 hB4 B4)
     go_roundw
     case rel=>exact⟨6,_,by omega,rfl,by first | rfl | go_num,HM2,HS4,HB4⟩
     case measure=>simp[intOf]
   ·have hb:=HS.out.cell 12 (.int .u16 64) rfl
    have hfn:=HS.out.cell 13 (.func (.func 269) #[] #[.pointer (some ⟨Bl,0,none⟩)]) rfl
    have hcall:Calls Tryz.prog 269 #[.pointer (some ⟨Bl,0,none⟩)] (wr.alloc (.cells #[.int .u16 64,.func (.func 269) #[] #[.pointer (some ⟨Bl,0,none⟩)]] 210)) fun e W'=>e=.returned (.bool (Q[6]?.getD false))∧Below (wr.alloc (.cells #[.int .u16 64,.func (.func 269) #[] #[.pointer (some ⟨Bl,0,none⟩)]] 210)).heap.size (wr.alloc (.cells #[.int .u16 64,.func (.func 269) #[] #[.pointer (some ⟨Bl,0,none⟩)]] 210)) W':=by
     have h1:=HS.out.alloc (.cells #[.int .u16 64,.func (.func 269) #[] #[.pointer (some ⟨Bl,0,none⟩)]] 210);have h2:=(HA2.out g Bl Bh Bf Bz).a7 (wr.alloc (.cells #[.int .u16 64,.func (.func 269) #[] #[.pointer (some ⟨Bl,0,none⟩)]] 210));rw[HX.out,HY.out,HN.out,HQQ.out]at h2;exact h2 h1 (HB.out.alloc HB.out.size _)
    have HCall:=hid hcall;have HNX:=hid (HNO.out 6 (by omega));obtain⟨t,ht⟩:∃ t,Q[6]?.getD false=t:=⟨_,rfl⟩;rw[ht]at HCall HNX;clear hcall ht
    have HFIN:Hid (∀ W',Below (wr.alloc (.cells #[.int .u16 64,.func (.func 269) #[] #[.pointer (some ⟨Bl,0,none⟩)]] 210)).heap.size (wr.alloc (.cells #[.int .u16 64,.func (.func 269) #[] #[.pointer (some ⟨Bl,0,none⟩)]] 210)) W'→Qs W' g Bl Bh Bf Bz (.slice a n c) hy x y∧Below w.heap.size w W'∧W'.cell? ⟨wr.heap.size,0,none⟩=some (.int .u16 64)):=fun W' B=>by
     have bb:=HB.out.alloc HB.out.size (.cells #[.int .u16 64,.func (.func 269) #[] #[.pointer (some ⟨Bl,0,none⟩)]] 210);refine⟨(HS.out.alloc _).below B,bb.trans (B.mono bb.size),?_⟩;rw[B.cell (p:=⟨wr.heap.size,0,none⟩) (by simp)];simp only[World.cell?,World.alloc_heap_new];rfl
    cases t with
    | true =>
     have HM2:=hid (HM.out.yes (by omega) HNX.out)
     go_wp2_with(go_at_call 269;refine HCall.out.mono ?_;rintro e w4 ⟨rfl,B4⟩;obtain⟨hS4,hB4,hc4⟩:=HFIN.out _ B4;have HS4:=hid hS4;have HB4:=hid hB4;clear hS4 hB4 B4)
     go_roundw
     case rel=>exact⟨7,_,by omega,rfl,by first | rfl | go_num,HM2,HS4,HB4⟩
     case measure=>simp[intOf]
    | false =>
     have HM2:=hid (HM.out.no HNX.out)
     go_wp2_with(go_at_call 269;refine HCall.out.mono ?_;rintro e w4 ⟨rfl,B4⟩;obtain⟨hS4,hB4,hc4⟩:=HFIN.out _ B4;have HS4:=hid hS4;have HB4:=hid hB4;clear hS4 hB4 B4)
     go_roundw
     case rel=>exact⟨7,_,by omega,rfl,by first | rfl | go_num,HM2,HS4,HB4⟩
     case measure=>simp[intOf]
   ·have hb:=HS.out.cell 14 (.int .u16 128) rfl
    have hfn:=HS.out.cell 15 (.func (.func 271) #[] #[.pointer (some ⟨Bl,0,none⟩)]) rfl
    have hcall:Calls Tryz.prog 271 #[.pointer (some ⟨Bl,0,none⟩)] (wr.alloc (.cells #[.int .u16 128,.func (.func 271) #[] #[.pointer (some ⟨Bl,0,none⟩)]] 210)) fun e W'=>e=.returned (.bool (Q[7]?.getD false))∧Below (wr.alloc (.cells #[.int .u16 128,.func (.func 271) #[] #[.pointer (some ⟨Bl,0,none⟩)]] 210)).heap.size (wr.alloc (.cells #[.int .u16 128,.func (.func 271) #[] #[.pointer (some ⟨Bl,0,none⟩)]] 210)) W':=by
     have h1:=HS.out.alloc (.cells #[.int .u16 128,.func (.func 271) #[] #[.pointer (some ⟨Bl,0,none⟩)]] 210);have h2:=(HA2.out g Bl Bh Bf Bz).a8 (wr.alloc (.cells #[.int .u16 128,.func (.func 271) #[] #[.pointer (some ⟨Bl,0,none⟩)]] 210));rw[HX.out,HY.out,HN.out,HQQ.out]at h2;exact h2 h1 (HB.out.alloc HB.out.size _)
    have HCall:=hid hcall;have HNX:=hid (HNO.out 7 (by omega));obtain⟨t,ht⟩:∃ t,Q[7]?.getD false=t:=⟨_,rfl⟩;rw[ht]at HCall HNX;clear hcall ht
    have HFIN:Hid (∀ W',Below (wr.alloc (.cells #[.int .u16 128,.func (.func 271) #[] #[.pointer (some ⟨Bl,0,none⟩)]] 210)).heap.size (wr.alloc (.cells #[.int .u16 128,.func (.func 271) #[] #[.pointer (some ⟨Bl,0,none⟩)]] 210)) W'→Qs W' g Bl Bh Bf Bz (.slice a n c) hy x y∧Below w.heap.size w W'∧W'.cell? ⟨wr.heap.size,0,none⟩=some (.int .u16 128)):=fun W' B=>by
     have bb:=HB.out.alloc HB.out.size (.cells #[.int .u16 128,.func (.func 271) #[] #[.pointer (some ⟨Bl,0,none⟩)]] 210);refine⟨(HS.out.alloc _).below B,bb.trans (B.mono bb.size),?_⟩;rw[B.cell (p:=⟨wr.heap.size,0,none⟩) (by simp)];simp only[World.cell?,World.alloc_heap_new];rfl
    cases t with
    | true =>
     have HM2:=hid (HM.out.yes (by omega) HNX.out)
     go_wp2_with(go_at_call 271;refine HCall.out.mono ?_;rintro e w4 ⟨rfl,B4⟩;obtain⟨hS4,hB4,hc4⟩:=HFIN.out _ B4;have HS4:=hid hS4;have HB4:=hid hB4;clear hS4 hB4 B4)
     go_roundw
     case rel=>exact⟨8,_,by omega,rfl,by first | rfl | go_num,HM2,HS4,HB4⟩
     case measure=>simp[intOf]
    | false =>
     have HM2:=hid (HM.out.no HNX.out)
     go_wp2_with(go_at_call 271;refine HCall.out.mono ?_;rintro e w4 ⟨rfl,B4⟩;obtain⟨hS4,hB4,hc4⟩:=HFIN.out _ B4;have HS4:=hid hS4;have HB4:=hid hB4;clear hS4 hB4 B4)
     go_roundw
     case rel=>exact⟨8,_,by omega,rfl,by first | rfl | go_num,HM2,HS4,HB4⟩
     case measure=>simp[intOf]
  ·obtain rfl:k=8:=by omega
   have HE:Hid (sm 0 Q=s):=by
    show _=_
    rw[HM.out.eq,List.take_of_length_le (by rw[HL.out];exact Nat.le_refl _)]
   go_wp2;go_ret;exact⟨by rw[HE.out];rfl,HB.out⟩
theorem mN(v:Value)(hy:Bool)(L:List Int)(w:World)(hlen:L.length≤10000)(hv:N.bA w v L)(hcap:∀ a n c,v=.slice a n c→n≤c):
  Calls Tryz.prog 159 #[v,.bool hy] w fun e W'=>e=.returned (.int .u16 (flt L hy))∧Below w.heap.size w W':=by
 by_cases h0:L.length=0
 ·obtain⟨a,c,rfl,-⟩:=hv
  unfold flt;rw[if_pos h0,h0];clear hcap hlen h0;go_enter Tryz.func159,Tryz.ntmps159
  go_wp2;go_ret;exact⟨rfl,Below.refl _ _⟩
 ·unfold flt
  rw[if_neg h0];exact rN v hy L w (by omega) hlen hv hcap
end Go.Proofs.YtkekkbciiohbkaaGreatDoor.L
namespace Go.Proofs.YtkekkbciiohbkaaGreatDoor.I
open Go.RowKit
theorem El.cap{W:World}{u:Value}{l:List Int}(h:El W u l):∀ a n c,u=.slice a n c→n≤c:=fun a n c e=>(h.2 a n c e).1
theorem vD(v:Value)(l:List Int)(hy:Bool)(w:World)(hlen:l.length≤10000)(hs:Scs l)(hv:El w v l):
  Calls Tryz.prog 110 #[v,.bool hy] w fun e W'=>xu l hy w e W':=by
 have HV:=hid hv;have HENC:=hid (U.fW v l (by omega) w hv.ints);have HSC:=hid hs;obtain⟨a,c,e0,-⟩:=hv.1;have HCO:Hid (∀ W,Below w.heap.size w W→Calls Tryz.prog 158 #[v] W fun e W'=>N.nk l W e W'):=fun W h=>tt v l W (by omega) (hv.below h)
 have HFL:Hid (∀ W,Below w.heap.size w W→Calls Tryz.prog 159 #[v,.bool hy] W fun e W'=>e=.returned (.int .u16 (L.flt l hy))∧Below W.heap.size W W'):=fun W h=>L.mN v hy l W hlen (hv.below h).1 (hv.below h).cap
 obtain⟨n,hn⟩:∃ n,l.length=n:=⟨_,rfl⟩;rw[hn]at e0 hlen;have HN:=hid hn;subst e0;clear hv hn hs;go_enter Tryz.func110,Tryz.ntmps110
 go_upto_if 23 with(first
   | (go_at_call 19;refine(jL s1 _ (by have:=HZ1.out;omega)).mono ?_;rintro e w2 ⟨⟨t2,b2,rfl,hc⟩,hw2⟩;obtain rfl:=hw2.symm;have HC:=hid hc;clear hc)
   | (go_at_call 151;refine HENC.out.mono ?_;rintro e w1 ⟨⟨s1,r1,rfl,hE⟩,B1⟩;have HE:=hid hE;have HB1:=hid B1;have HZ1:Hid (s1.size≤40000):=(by show _≤_;rcases hE with⟨_,_,h⟩ | ⟨_,_,h⟩ <;> first | (have h2:=U.jF l;rw[←h,U.aa]at h2;have:=HN.out;omega) | (rw[h];exact Nat.zero_le _));clear hE B1))
 have hbn:U.bn s1=U.aL l:=by
  rcases HE.out with⟨_,_,h⟩ | ⟨h,_,_⟩
  ·exact h
  ·rw[jl.1 HSC.out]at h;cases h
 have HBN:=hid hbn;clear hbn;cases b2 with
 | false =>
  have hp:L.dh l=false:=by
   rcases HC.out with⟨h,_⟩ | ⟨_,h⟩
   ·cases h
   ·rw[HBN.out,←nX]at h
    simpa using h
  have HO:=hid (Ht (hy:=hy) hp);have HC1:=hid (HCO.out w1 HB1.out);obtain⟨F,hF⟩:∃ F,L.flt l hy=F:=⟨_,rfl⟩;rw[hF]at HFL HO;clear hp hF
  go_wp2_with(first
    | (go_at_call 159;refine(HFL.out _ HB3.out).mono ?_;rintro e w4 ⟨rfl,B4⟩;have HB4:=hid B4;clear B4)
    | (go_at_call 158;refine HC1.out.mono ?_;rintro e w3 ⟨v3,rfl,r3,B3⟩;have R3:=hid r3;have HB3:=hid (HB1.out.trans (B3.mono HB1.out.size));obtain⟨a3,c3,rfl⟩:=bG r3;clear r3 B3))
  go_ret2;unfold xu;rw[HO.out];exact⟨_,rfl,(El.own rfl R3.out).below HB4.out,HB3.out.trans (HB4.out.mono HB3.out.size)⟩
 | true =>
  have hp:L.dh l=true∧U.bn t2=U.aL (l.drop 4):=by
   rcases HC.out with⟨_,h⟩ | ⟨h,_⟩
   ·rw[HBN.out]at h
    have hq:=(nX l).2 ⟨_,h⟩;have h4:=tg hq;rw[h]at h4;exact⟨hq,by rw[←h4];rfl⟩
   ·cases h
  have HO:=hid (vT (hy:=hy) HSC.out hp.1);have HSM:=hid (wX (T:=U.aL (l.drop 4)) (by rw[←hp.2];exact U.aM t2));have HDD:=hid (P.gF t2 w1);rw[hp.2]at HDD;have HBT:Hid (U.Bytes (U.aL (l.drop 4))):=by show U.Bytes _;rw[←hp.2];exact U.aM t2
  obtain⟨T,hT⟩:∃ T,U.aL (l.drop 4)=T:=⟨_,rfl⟩;rw[hT]at HO HSM HDD HBT;clear hp hT HC HBN
  go_upto_region 6 with(go_at_call 160;refine HDD.out.mono ?_;rintro e w3 ⟨⟨v3,r3,rfl,hD⟩,B3⟩;have HD:=hid hD;have HB3:=hid (HB1.out.trans (B3.mono HB1.out.size));obtain⟨a3,c3,he3,_⟩:=L.aF (Aw hD).ints;have HE3:=hid he3;clear hD B3 he3;obtain⟨q,hq⟩:∃ q,(P.gu T).1.length=q:=⟨_,rfl⟩;rw[hq]at HE3;obtain rfl:=HE3.out;have HQ:=hid hq;clear hq)
  obtain⟨h1,h2,h3⟩:=HD.out.one HBT.out;have hel:=Aw HD.out;have HEL:=hid hel;rw[HQ.out]at h3;have HAS:=hid (kB _ (P.gu T).1 w3 (by rw[HQ.out];omega) HSM.out h1);have HFM:=hid (L.mN _ hy (P.gu T).1 w3 (by rw[HQ.out];omega) hel.1 hel.cap);have HC3:=hid (HCO.out w3 HB3.out);rw[←h2]at HO;obtain⟨m,hm⟩:∃ m,(P.gu T).1=m:=⟨_,rfl⟩;rw[hm]at HO HAS HFM HEL;obtain⟨F,hF⟩:∃ F,L.flt m hy=F:=⟨_,rfl⟩;rw[hF]at HO HFM;obtain⟨pm,hpm⟩:∃ pm,plain m=pm:=⟨_,rfl⟩;rw[hpm]at HO HAS;clear h1 h2 hel hm hF hpm HD HQ HE3 HDD HFL HCO;by_cases hr:r3=0
  ·subst hr
   cases pm with
   | true =>
    have HO2:Hid (one l hy=(l,512)):=by show _=_;rw[HO.out,if_neg (by decide)]
    go_wp2_with(first
      | (go_at_call 158;refine HC3.out.mono ?_;rintro e w4 ⟨v4,rfl,r4,B4⟩;have R4:=hid r4;have HB4:=hid (HB3.out.trans (B4.mono HB3.out.size));obtain⟨a4,c4,rfl⟩:=bG r4;clear r4 B4)
      | (go_at_call 150;refine HAS.out.mono ?_;rintro e wb ⟨rfl,hwb⟩;obtain rfl:=hwb.symm))
    go_ret2;unfold xu;rw[HO2.out];exact⟨_,rfl,El.own rfl R4.out,HB4.out⟩
   | false =>
    have HO2:Hid (one l hy=(m,F)):=by show _=_;rw[HO.out,if_pos ⟨rfl,rfl⟩]
    go_wp2_with(first
      | (go_at_call 150;refine HAS.out.mono ?_;rintro e wb ⟨rfl,hwb⟩;obtain rfl:=hwb.symm)
      | (go_at_call 159;refine HFM.out.mono ?_;rintro e w4 ⟨rfl,B4⟩))
    go_ret2;unfold xu;rw[HO2.out];exact⟨_,rfl,HEL.out.below B4,HB3.out.trans (B4.mono HB3.out.size)⟩
  ·have hrb:(r3 != 0)=true:=by simpa using hr
   have hrc:(r3==0)=false:=by simpa using hr
   have HO2:Hid (one l hy=(l,512)):=by show _=_;rw[HO.out,if_neg (fun h=>hr h.1)]
   go_wp2_with(go_at_call 158;refine HC3.out.mono ?_;rintro e w4 ⟨v4,rfl,r4,B4⟩;have R4:=hid r4;have HB4:=hid (HB3.out.trans (B4.mono HB3.out.size));obtain⟨a4,c4,rfl⟩:=bG r4;clear r4 B4)
   go_ret2;unfold xu;rw[HO2.out];exact⟨_,rfl,El.own rfl R4.out,HB4.out⟩
end Go.Proofs.YtkekkbciiohbkaaGreatDoor.I
