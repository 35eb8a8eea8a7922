/- Contracts and plain facts. -/
import Derived.Test.YtmkompnhefhngaaGreatDoorZ4
import Derived.Laws.Slices
import Derived.Recover
import Derived.Defers
set_option maxRecDepth 100000
set_option maxHeartbeats 16000000
set_option linter.unusedVariables false
set_option linter.unnecessarySimpa false
open Nat (le_refl zero_le le_trans sub_self mod_eq_of_lt le_succ zero_add)
open List (getElem?_eq_getElem length_map length_cons cons_append map_append nil_append length_take length_nil getElem?_append_right getElem?_map push_toArray append_toArray getElem_mem map_cons length_append size_toArray map_map take_of_length_le append_assoc getElem_map length_drop all_eq_true)
open Go.World (size_alloc ownsRow_nil)
open Array (replicate_succ replicate_zero)
open Option (getD_some)
namespace Go.Proofs.YtmkompnhefhngaaGreatDoor
open Tryz Go.RowKit
namespace L
open Go.RowKit Go.Shelf
attribute [local go_sem] Oper.semAt_some
theorem wF{p:Int->Bool}{f:Int->Int}{pre t:List Int}{x:Int}{z:Int}(h:pre.all (fun r=>!p r)=true)(hx:p x=true):(((pre++[x]++t).find? p).map f).getD z=f x:=by
 have:pre.find? p=none:=by rw[List.find?_eq_none];intro r hr;have:=List.all_eq_true.1 h r hr;simpa using this
 rw[append_assoc,List.find?_append,this];simp[hx]
theorem rD{p:Int->Bool}{f:Int->Int}{ys:List Int}{z:Int}(h:ys.all (fun r=>!p r)=true):((ys.find? p).map f).getD z=z:=by
 have:ys.find? p=none:=by rw[List.find?_eq_none];intro r hr;have:=List.all_eq_true.1 h r hr;simpa using this
 rw[this];rfl
def pJ(r:Int):Bool:=decide (joi r≠4)
def pB(r:Int):Bool:=decide (bid r≠8)
theorem NS(L:List Int)(i st:Int):nb L i st=(((rem L st (i+st)).find? pJ).map joi).getD 0:=rfl
theorem MV(r:Int):(dir r=256)↔bid r=8:=by
 have h:=qh r;constructor
 ·intro e;have:=lh r 8;rw[e]at this;have h2:Nat.testBit 256 8=true:=by decide
  rw[h2]at this;simpa using this.symm
 ·intro e;unfold dir;rw[e];rfl
theorem jy(v:Value)(L:List Int)(i st:Int)(w:World)(hs:st=1\/st=-1)(hi0:0<=i)(hi1:i<L.length)(hlen:L.length<=100000)(hv:U.aB w v L):
  Calls prog 310 #[v,.int .i64 i,.int .i64 st] w fun e W'=>e=.returned (.int .u8 (nb L i st))/\Below w.heap.size w W':=by
 have hsh:∃ a m c,v=.slice a m c:=by obtain⟨a,c,e,_⟩:=aJ hv;exact⟨a,_,c,e⟩
 have hln:∃ a c,v=.slice a L.length c:=by obtain⟨a,c,e,_⟩:=aJ hv;exact⟨a,c,e⟩
 obtain⟨va,vc,hve⟩:=hln;refine(callsIn_wide (n:=3)).1 ?_;refine callsIn_of_wp_marks func310 rfl trivial ?_ rfl;simp only[ntmps310,size_toArray,length_cons,length_nil,Nat.reduceAdd,Nat.reduceSub,replicate_succ,replicate_zero,push_toArray,append_toArray,nil_append,cons_append];have hst:=hs;have hii:i+st<=L.length/\i<=L.length/\(0:Int)<=i:=by omega
 have hval:=(fun x=>(⟨fun h=>decide_eq_true h,fun h=>decide_eq_false (fun h2=>h2 h)⟩:(joi x≠4->pJ x=true)/\(joi x=4->pJ x=false)));clear hst;subst hve;gi_wp2_with fail;refine⟨trivial,?_⟩;refine(ri _ _ i st _ hsh).mono ?_;rintro e w' ⟨rfl,rfl⟩;gi_wp2_with fail;obtain⟨w1,hw1⟩:=Ex' (w.alloc (.cells #[.int .u8 0] 5));have hs1:w1.heap.size=w.heap.size+1:=by rw[<-hw1,size_alloc]
 have bO:Boxed w1 w.heap.size 5 (.int .u8 0):=by rw[<-hw1];exact Boxed.new w 5 (.int .u8 0)
 have hB1:Below w.heap.size w w1:=by rw[<-hw1];exact(Below.refl _ w).alloc (le_refl _) _
 have hFN:=Frm.new w1 (.slice va L.length vc) i st;rw[hw1];rw[hs1]at hFN;obtain⟨w4,hw4⟩:=Ex' (((w1.alloc (.cells #[.slice va L.length vc] 37)).alloc (.cells #[.int .i64 i] 3)).alloc (.cells #[.int .i64 st] 3));have hs4:w4.heap.size=w.heap.size+4:=by rw[<-hw4];simp only[size_alloc];omega
 have hB4:Below w.heap.size w w4:=by rw[<-hw4];exact((hB1.alloc (by omega) _).alloc (by simp;omega) _).alloc (by simp;omega) _
 have bO4:Boxed w4 w.heap.size 5 (.int .u8 0):=by rw[<-hw4];exact((bO.alloc _).alloc _).alloc _
 rw[hw4]at hFN ⊢
 refine wpIn_rangeFunc_ownF rfl (by omega) (gf:=305) (lb:=#[.pointer (some ⟨w.heap.size+1+1,0,none⟩),.pointer (some ⟨w.heap.size+1+2,0,none⟩),.pointer (some ⟨w.heap.size+1,0,none⟩)]) rfl trivial (enters_of func305 (by kernel_rfl) rfl)
  (pK w 2 (by omega) _ _ _ i st _ L (hs) hii.2.2 hii.1 hii.2.1 hlen w4 hFN hv (Old.below hB4) (by omega)) vS (vT (by omega) (by omega) (by omega) (by omega)) (Below.refl _ _) (fun _=>rfl)
  (fun pre W=>((pre.all (fun r=>!pJ r)=true/\Boxed W w.heap.size 5 (.int .u8 0))/\Frm (w.heap.size+1+1) (w.heap.size+1+2) (w.heap.size+1) i st (.slice va L.length vc) W)/\Below w.heap.size w W)
  (fun c pre W=>(∃ q x,pre=q++[x]/\c=.ret/\q.all (fun r=>!pJ r)=true/\pJ x=true/\Boxed W w.heap.size 5 (.int .u8 (joi x)))/\Below w.heap.size w W)
  (OwnFrom.and (OwnFrom.and (OwnFrom.and (ownFrom_pure _ _) (Own.from (boxed_own _ _ _) _)) (Own.from (Ap _ _ _ _ _ _) _)) (ownFrom_below (le_refl _) (by omega)))
  (fun c=>OwnFrom.and (fun s X Y row hs hg hr=>by
    obtain⟨q,x,h1,h2,h3,h4,h5⟩:=hs
    exact⟨q,x,h1,h2,h3,h4,Own.from (boxed_own w.heap.size 5 (fun(_:List Int)=>.int .u8 (joi x))) _ s X Y row h5 hg hr⟩) (ownFrom_below (le_refl _) (by omega)))
  ⟨⟨⟨rfl,bO4⟩,hFN⟩,hB4⟩
  (fun x=>{ tmps:=#[.slice va L.length vc,.int .i64 i,.int .i64 st,undef,undef,undef,.pointer (some ⟨w.heap.size,0,none⟩),.int .i32 x,undef,.slice va L.length vc,.int .i64 i,.int .i64 st,.func (.func 305) #[] #[.pointer (some ⟨w.heap.size+1+1,0,none⟩),.pointer (some ⟨w.heap.size+1+2,0,none⟩),.pointer (some ⟨w.heap.size+1,0,none⟩)],.int .i32 x,undef,undef,undef,undef,undef],defers:=[] }) ?assign ?body ?done ?stop
 case assign =>
  intro l x W K hK;gi_wp2;exact hK
 case body =>
  rintro l pre x W ⟨⟨⟨hp,hv1⟩,hF⟩,hB⟩ _;have hcall:Calls prog 314 #[.int .i32 x] W fun e W'=>e=.returned (.int .u8 (joi x))/\Below W.heap.size W W':=D.vU x W;have HX:=hid (hval x);obtain⟨y,hy⟩:=Ex' (joi x:Int);rw[hy]at hcall HX;have HY:=hid hy;clear hy;gi_wp2_with fail;refine⟨trivial,?_⟩;refine(callsIn_wide.2 hcall).mono ?_;rintro e W1 ⟨rfl,B1⟩;have hv2:Boxed W1 w.heap.size 5 (.int .u8 0):=(B1.block _ hv1.lt).trans hv1;have hc:=hv2.cell;have hf:=hv2.frozen;have hB2:=hB.trans (B1.mono hB.size);by_cases hq:y=4
  ·subst hq;gi_wp2;refine⟨cd B1,fun h=>⟨jc B1 h.1,Old.below hB2⟩,⟨⟨?_,hv2⟩,jc B1 hF⟩,hB2⟩;rw[List.all_append,hp,List.all_cons,List.all_nil,HX.out.2 trivial];rfl
  ·have hq2:(y != 4)=true:=by simpa using hq
   have hq3:(y==4)=false:=by simpa using hq
   gi_wp2;refine⟨(cd B1).trans (KeepsOthers.setCell _ _ _),⟨pre,x,rfl,rfl,hp,HX.out.1 hq,?_⟩,hB2.setCell (p:=⟨w.heap.size,0,none⟩) (by simp) _⟩;rw[HY.out];exact hv2.set _
 case done =>
  rintro D ys W hD rfl ⟨⟨⟨hp,hv1⟩,hF⟩,hB⟩ hK;have hc:=hv1.cell;have hf:=hv1.frozen;gi_wp2;have hK':=(KeepsOthers.setCell W ⟨w.heap.size,0,none⟩ (.int .u8 0)).same D _ hK rfl;refine⟨by simp,.inl ⟨_,_,rfl,run_takeDeferred hK',?_⟩⟩;have hc5:=cell_kept (World.cell?_setCell_same' W ⟨w.heap.size,0,none⟩ (.int .u8 0) (by rw[hc];rfl)) (grownBy_putObj' _ D (.deferred none)) (fun r e=>by cases e;exact⟨_,hK',rfl⟩);refine⟨.int .u8 0,?_,?_,(hB.setCell (p:=⟨w.heap.size,0,none⟩) (by simp) _).trans (belowK_b (w:=w) (le_refl _) _ D _ _ (by omega) hK' rfl rfl)⟩
  ·simp[results,Tryz.f310,go_sem,hc5]
  ·rw[NS,rD hp]
 case stop =>
  rintro D c pre W hD hpre ⟨⟨q,x,rfl,rfl,hq,hx,hv1⟩,hB⟩ hK;have hc:=hv1.cell;gi_wp2;refine⟨by simp,.inl ⟨_,_,rfl,run_takeDeferred hK,?_⟩⟩;have hc5:=cell_kept hc (grownBy_putObj' _ D (.deferred none)) (fun r e=>by cases e;exact⟨_,hK,rfl⟩);refine⟨.int .u8 (joi x),?_,?_,hB.trans (belowK_b (w:=w) (le_refl _) W D _ _ (by omega) hK rfl rfl)⟩
  ·simp[results,Tryz.f310,go_sem,hc5]
  ·obtain⟨t,ht⟩:=hpre;rw[NS,<-ht,wF hq hx]
theorem vR(L:List Int):(ic L:Int)=(((rem L (-1) ((L.length:Int)+-1)).find? pB).map (fun r=>(dir r:Int))).getD 0:=by unfold ic vO rem;rw[if_neg (by omega),show((L.length:Int)+-1+1).toNat=L.length by omega,List.take_length];show _=Option.getD (Option.map _ (List.find? (fun r=>decide (bid r≠8)) L.reverse)) 0;cases List.find? (fun r=>decide (bid r≠8)) L.reverse <;> rfl
def tv(r:Int):Int:=dir r
theorem wV(r:Int)(w:World):Calls prog 242 #[.int .i32 r] w fun e W'=>e=.returned (.int .u16 (tv r))/\Below w.heap.size w W':=fR r w
theorem Pb(x:Int):(tv x≠256->pB x=true)/\(tv x=256->pB x=false):=by
 have h:=MV x;unfold tv pB;constructor
 ·intro h1;exact decide_eq_true (fun h2=>h1 (by rw[h.2 h2];rfl))
 ·intro h1;exact decide_eq_false (fun h2=>h2 (h.1 (by omega)))
theorem vP(v:Value)(L:List Int)(w:World)(hlen:L.length<=100000)(hv:U.aB w v L):
  Calls prog 243 #[v] w fun e W'=>e=.returned (.int .u16 (ic L))/\Below w.heap.size w W':=by
 have hsh:∃ a m c,v=.slice a m c:=by obtain⟨a,c,e,_⟩:=aJ hv;exact⟨a,_,c,e⟩
 have hln:∃ a c,v=.slice a L.length c:=by obtain⟨a,c,e,_⟩:=aJ hv;exact⟨a,c,e⟩
 obtain⟨va,vc,hve⟩:=hln;refine(callsIn_wide (n:=3)).1 ?_;refine callsIn_of_wp_marks func243 rfl trivial ?_ rfl;simp only[ntmps243,size_toArray,length_cons,length_nil,Nat.reduceAdd,Nat.reduceSub,replicate_succ,replicate_zero,push_toArray,append_toArray,nil_append,cons_append];have hst:=(show(-1:Int)=1\/(-1:Int)=-1 from .inr rfl);have hii:(L.length:Int)+(-1)<=L.length/\(L.length:Int)<=L.length/\(0:Int)<=(L.length:Int):=by omega
 have hval:=Pb;clear hst;subst hve;gi_wp2_with fail;refine⟨trivial,?_⟩;refine(ri _ _ (L.length:Int) (-1) _ hsh).mono ?_;rintro e w' ⟨rfl,rfl⟩;gi_wp2_with fail;obtain⟨w1,hw1⟩:=Ex' (w.alloc (.cells #[.int .u16 0] 22));have hs1:w1.heap.size=w.heap.size+1:=by rw[<-hw1,size_alloc]
 have bO:Boxed w1 w.heap.size 22 (.int .u16 0):=by rw[<-hw1];exact Boxed.new w 22 (.int .u16 0)
 have hB1:Below w.heap.size w w1:=by rw[<-hw1];exact(Below.refl _ w).alloc (le_refl _) _
 have hFN:=Frm.new w1 (.slice va L.length vc) (L.length:Int) (-1);rw[hw1];rw[hs1]at hFN;obtain⟨w4,hw4⟩:=Ex' (((w1.alloc (.cells #[.slice va L.length vc] 37)).alloc (.cells #[.int .i64 (L.length:Int)] 3)).alloc (.cells #[.int .i64 (-1)] 3));have hs4:w4.heap.size=w.heap.size+4:=by rw[<-hw4];simp only[size_alloc];omega
 have hB4:Below w.heap.size w w4:=by rw[<-hw4];exact((hB1.alloc (by omega) _).alloc (by simp;omega) _).alloc (by simp;omega) _
 have bO4:Boxed w4 w.heap.size 22 (.int .u16 0):=by rw[<-hw4];exact((bO.alloc _).alloc _).alloc _
 rw[hw4]at hFN ⊢
 refine wpIn_rangeFunc_ownF rfl (by omega) (gf:=305) (lb:=#[.pointer (some ⟨w.heap.size+1+1,0,none⟩),.pointer (some ⟨w.heap.size+1+2,0,none⟩),.pointer (some ⟨w.heap.size+1,0,none⟩)]) rfl trivial (enters_of func305 (by kernel_rfl) rfl)
  (pK w 2 (by omega) _ _ _ (L.length:Int) (-1) _ L ((show(-1:Int)=1\/(-1:Int)=-1 from .inr rfl)) hii.2.2 hii.1 hii.2.1 hlen w4 hFN hv (Old.below hB4) (by omega)) vS (vT (by omega) (by omega) (by omega) (by omega)) (Below.refl _ _) (fun _=>rfl)
  (fun pre W=>((pre.all (fun r=>!pB r)=true/\Boxed W w.heap.size 22 (.int .u16 0))/\Frm (w.heap.size+1+1) (w.heap.size+1+2) (w.heap.size+1) (L.length:Int) (-1) (.slice va L.length vc) W)/\Below w.heap.size w W)
  (fun c pre W=>(∃ q x,pre=q++[x]/\c=.ret/\q.all (fun r=>!pB r)=true/\pB x=true/\Boxed W w.heap.size 22 (.int .u16 (tv x)))/\Below w.heap.size w W)
  (OwnFrom.and (OwnFrom.and (OwnFrom.and (ownFrom_pure _ _) (Own.from (boxed_own _ _ _) _)) (Own.from (Ap _ _ _ _ _ _) _)) (ownFrom_below (le_refl _) (by omega)))
  (fun c=>OwnFrom.and (fun s X Y row hs hg hr=>by
    obtain⟨q,x,h1,h2,h3,h4,h5⟩:=hs
    exact⟨q,x,h1,h2,h3,h4,Own.from (boxed_own w.heap.size 22 (fun(_:List Int)=>.int .u16 (tv x))) _ s X Y row h5 hg hr⟩) (ownFrom_below (le_refl _) (by omega)))
  ⟨⟨⟨rfl,bO4⟩,hFN⟩,hB4⟩
  (fun x=>{ tmps:=#[.slice va L.length vc,undef,.pointer (some ⟨w.heap.size,0,none⟩),.int .i32 x,undef,.slice va L.length vc,.slice va L.length vc,.int .i64 L.length,.func (.func 305) #[] #[.pointer (some ⟨w.heap.size+1+1,0,none⟩),.pointer (some ⟨w.heap.size+1+2,0,none⟩),.pointer (some ⟨w.heap.size+1,0,none⟩)],.int .i32 x,undef,undef,undef,undef,undef],defers:=[] }) ?assign ?body ?done ?stop
 case assign =>
  intro l x W K hK;gi_wp2;exact hK
 case body =>
  rintro l pre x W ⟨⟨⟨hp,hv1⟩,hF⟩,hB⟩ _;have hcall:Calls prog 242 #[.int .i32 x] W fun e W'=>e=.returned (.int .u16 (tv x))/\Below W.heap.size W W':=wV x W;have HX:=hid (hval x);obtain⟨y,hy⟩:=Ex' (tv x:Int);rw[hy]at hcall HX;have HY:=hid hy;clear hy;gi_wp2_with fail;refine⟨trivial,?_⟩;refine(callsIn_wide.2 hcall).mono ?_;rintro e W1 ⟨rfl,B1⟩;have hv2:Boxed W1 w.heap.size 22 (.int .u16 0):=(B1.block _ hv1.lt).trans hv1;have hc:=hv2.cell;have hf:=hv2.frozen;have hB2:=hB.trans (B1.mono hB.size);by_cases hq:y=256
  ·subst hq;gi_wp2;refine⟨cd B1,fun h=>⟨jc B1 h.1,Old.below hB2⟩,⟨⟨?_,hv2⟩,jc B1 hF⟩,hB2⟩;rw[List.all_append,hp,List.all_cons,List.all_nil,HX.out.2 trivial];rfl
  ·have hq2:(y != 256)=true:=by simpa using hq
   have hq3:(y==256)=false:=by simpa using hq
   gi_wp2;refine⟨(cd B1).trans (KeepsOthers.setCell _ _ _),⟨pre,x,rfl,rfl,hp,HX.out.1 hq,?_⟩,hB2.setCell (p:=⟨w.heap.size,0,none⟩) (by simp) _⟩;rw[HY.out];exact hv2.set _
 case done =>
  rintro D ys W hD rfl ⟨⟨⟨hp,hv1⟩,hF⟩,hB⟩ hK;have hc:=hv1.cell;have hf:=hv1.frozen;gi_wp2;have hK':=(KeepsOthers.setCell W ⟨w.heap.size,0,none⟩ (.int .u16 0)).same D _ hK rfl;refine⟨by simp,.inl ⟨_,_,rfl,run_takeDeferred hK',?_⟩⟩;have hc5:=cell_kept (World.cell?_setCell_same' W ⟨w.heap.size,0,none⟩ (.int .u16 0) (by rw[hc];rfl)) (grownBy_putObj' _ D (.deferred none)) (fun r e=>by cases e;exact⟨_,hK',rfl⟩);refine⟨.int .u16 0,?_,?_,(hB.setCell (p:=⟨w.heap.size,0,none⟩) (by simp) _).trans (belowK_b (w:=w) (le_refl _) _ D _ _ (by omega) hK' rfl rfl)⟩
  ·simp[results,Tryz.f243,go_sem,hc5]
  ·rw[vR,rD hp]
 case stop =>
  rintro D c pre W hD hpre ⟨⟨q,x,rfl,rfl,hq,hx,hv1⟩,hB⟩ hK;have hc:=hv1.cell;gi_wp2;refine⟨by simp,.inl ⟨_,_,rfl,run_takeDeferred hK,?_⟩⟩;have hc5:=cell_kept hc (grownBy_putObj' _ D (.deferred none)) (fun r e=>by cases e;exact⟨_,hK,rfl⟩);refine⟨.int .u16 (tv x),?_,?_,hB.trans (belowK_b (w:=w) (le_refl _) W D _ _ (by omega) hK rfl rfl)⟩
  ·simp[results,Tryz.f243,go_sem,hc5]
  ·obtain⟨t,ht⟩:=hpre;rw[vR,<-ht,wF hq hx];rfl
theorem Ng(r:Int)(w:World):Calls prog 262 #[.int .i32 r] w fun e W'=>e=.returned (.int .u8 (cls r))/\Below w.heap.size w W':=D.rP r w
def vG(x p q:Int):Bool:=decide (x=8204)&&((decide (p=1)||decide (p=3))&&(decide (q=2)||decide (q=3)))
theorem Hb(L:List Int)(b off c n i:Nat)(w w1:World)(x:Int)(hi:i<n)(hn:L.length=n)(hlen:n<=100000)(hB:Below w.heap.size w w1)(hv:U.aB w1 (.slice (some ⟨b,off,none⟩) n c) L)(hc:w1.cell? ⟨b,off+i,none⟩=some (.int .i32 x)):
  ∀ w2,w2=w1->∃ p q:Int,p=nb L i (-1)/\q=nb L i 1/\(Calls prog 310 #[.slice (some ⟨b,off,none⟩) n c,.int .i64 i,.int .i64 (-1)] w1 fun e W'=>e=.returned (.int .u8 p)/\Below w1.heap.size w1 W') /\
   (∀ w3,Below w1.heap.size w1 w3->Calls prog 310 #[.slice (some ⟨b,off,none⟩) n c,.int .i64 i,.int .i64 1] w3 fun e W'=>e=.returned (.int .u8 q)/\Below w3.heap.size w3 W'):=by
 rintro w2 rfl;refine⟨_,_,rfl,rfl,jy _ L i (-1) _ (.inr rfl) (by omega) (by omega) (by omega) hv,fun w3 h3=>?_⟩;exact jy _ L i 1 w3 (.inl rfl) (by omega) (by omega) (by omega) (hv.below h3 (le_refl _))
theorem sV(v:Value)(L:List Int)(i:Nat)(w:World)(hi:i<L.length)(hlen:L.length<=100000)(hv:U.aB w v L):
  Calls prog 299 #[v,.int .i64 i] w fun e W'=>e=.returned (.bool (may L i))/\Below w.heap.size w W':=by
 have HV:=hid hv;obtain⟨a,c,rfl,hf⟩:=aJ hv;obtain⟨b,off,rfl,hc⟩:=hf (by omega);obtain⟨n,hn⟩:=Ex' L.length;rw[hn]at HV hc hi hlen ⊢;have HN:=hid hn;have HC:=hid hc;have HM:Hid (may L i=((decide (0<i)&&decide (cls (L[i - 1]?.getD 0)=9))||vG (L[i]?.getD 0) (nb L i (-1)) (nb L i 1))):=rfl;obtain⟨R,hR⟩:=Ex' (may L i);rw[hR]at HM ⊢;clear hv hf hc hn hR
 have HK:∀ w1,Below w.heap.size w w1->∃ x p q:Int,x=L[i]?.getD 0/\p=nb L i (-1)/\q=nb L i 1/\w1.cell? ⟨b,off+i,none⟩=some (.int .i32 x)/\(Calls prog 310 #[.slice (some ⟨b,off,none⟩) n c,.int .i64 i,.int .i64 (-1)] w1 fun e W'=>e=.returned (.int .u8 p)/\Below w1.heap.size w1 W') /\
   (∀ w3,Below w1.heap.size w1 w3->Calls prog 310 #[.slice (some ⟨b,off,none⟩) n c,.int .i64 i,.int .i64 1] w3 fun e W'=>e=.returned (.int .u8 q)/\Below w3.heap.size w3 W'):=by
  intro w1 B1;have hcc:w1.cell? ⟨b,off+i,none⟩=some (.int .i32 (L[i]?.getD 0)):=(B1.cell (p:=⟨b,off+i,none⟩) (U.lt_of_cell (HC.out i hi))).trans (HC.out i hi);obtain⟨p,q,h1,h2,h3,h4⟩:=Hb L b off c n i w w1 _ hi HN.out hlen B1 (HV.out.below B1 (le_refl _)) hcc w1 rfl;exact⟨_,p,q,rfl,h1,h2,hcc,h3,h4⟩
 have HKK:=hid HK;clear HK;by_cases h0:0<i
 ·obtain⟨k,hk1⟩:∃ k,i=k+1:=⟨i - 1,by omega⟩;have ek:(i:Int) - 1=(k:Int):=by omega
  have h0z:(0:Int)<(i:Int):=by omega
  have hk:k<n:=by omega
  have hck:=HC.out k hk;have HCL:=hid (Ng (L[k]?.getD 0) w);have hcb:=Qq (L[k]?.getD 0);obtain⟨z,hz⟩:=Ex' (cls (L[k]?.getD 0));have HZM:Hid (R=(decide (z=9)||vG (L[i]?.getD 0) (nb L i (-1)) (nb L i 1))):=by show _=_;rw[HM.out,show i - 1=k by omega,hz,decide_eq_true h0,Bool.true_and]
  rw[hz]at HCL hcb;obtain⟨y,hy⟩:=Ex' (L[k]?.getD 0);rw[hy]at HCL hck;clear hy HM hz hk1 h0;go_enter func299,ntmps299;by_cases hz9:z=9
  ·subst hz9;go_wp2_with(go_at_call 262;refine HCL.out.mono ?_;rintro e w1 ⟨rfl,B1⟩);go_ret;refine⟨?_,B1⟩;rw[HZM.out];simp
  ·have hz1:(z==9)=false:=by simpa using hz9
   go_upto_if 17 with(go_at_call 262;refine HCL.out.mono ?_;rintro e w1 ⟨rfl,B1⟩)
   obtain⟨x,p,q,hx,hp,hq,hcx,h1,h2⟩:=HKK.out w1 B1;have H1:=hid h1;have H2:=hid h2;have HMM:Hid (R=vG x p q):=by show _=_;rw[HZM.out,<-hx,<-hp,<-hq,decide_eq_false hz9,Bool.false_or]
   clear hx hp hq h1 h2 HZM HKK;by_cases hx1:x=8204
   ·subst hx1
    go_wp2_with(first
      | (go_at_call 310;refine(H2.out _ B2).mono ?_;rintro e w3 ⟨rfl,B3⟩)
      | (go_at_call 310;refine H1.out.mono ?_;rintro e w2 ⟨rfl,B2⟩))
    all_goals (go_ret;refine⟨?_,(B1.trans (B2.mono B1.size)).trans (B3.mono (B1.trans (B2.mono B1.size)).size)⟩;rw[HMM.out];unfold vG;first | (simp_all;done) | (simp_all;rw[Bool.eq_iff_iff];simp;omega))
   ·have hx2:(x != 8204)=true:=by simpa using hx1
    have hx3:(x==8204)=false:=by simpa using hx1
    go_wp2;go_ret;refine⟨?_,B1⟩;rw[HMM.out];unfold vG;rw[decide_eq_false hx1];rfl
 ·obtain⟨x,p,q,hx,hp,hq,hcx,h1,h2⟩:=HKK.out w (Below.refl _ _);have H1:=hid h1;have H2:=hid h2;have HMM:Hid (R=vG x p q):=by show _=_;rw[HM.out,<-hx,<-hp,<-hq,decide_eq_false h0];simp
  have h0z:¬ (0:Int)<(i:Int):=by omega
  clear hx hp hq h1 h2 HM HKK;go_enter func299,ntmps299;by_cases hx1:x=8204
  ·subst hx1
   go_wp2_with(first
     | (go_at_call 310;refine(H2.out _ B2).mono ?_;rintro e w3 ⟨rfl,B3⟩)
     | (go_at_call 310;refine H1.out.mono ?_;rintro e w2 ⟨rfl,B2⟩))
   all_goals (go_ret;refine⟨?_,B2.trans (B3.mono B2.size)⟩;rw[HMM.out];unfold vG;first | (simp_all;done) | (simp_all;rw[Bool.eq_iff_iff];simp;omega))
  ·have hx2:(x != 8204)=true:=by simpa using hx1
   have hx3:(x==8204)=false:=by simpa using hx1
   go_wp2;go_ret;refine⟨?_,Below.refl _ _⟩;rw[HMM.out];unfold vG;rw[decide_eq_false hx1];rfl
theorem Ck(v:Value)(L:List Int)(w:World)(hlen:L.length<=100000)(hv:U.aB w v L):
  Calls prog 278 #[v] w fun e W'=>e=.returned (.bool (jok L))/\Below w.heap.size w W':=by
 have HV:=hid hv;obtain⟨a,c,rfl,hf⟩:=aJ hv;have HF:=hid hf;obtain⟨n,hn⟩:=Ex' L.length;rw[hn]at HV HF hlen ⊢;have HN:=hid hn;have HNO:=hid (fun i h1 h2=>PK L i h1 h2);have HYES:=hid (Mj L);rw[hn]at HNO HYES;obtain⟨R,hR⟩:=Ex' (jok L);rw[hR]at HNO HYES ⊢;clear hv hf hn hR;go_enter func278,ntmps278;go_wp2_with fail
 go_loopw [7] (fun v7 wr=>∃ k:Nat,k<=n/\v7=.int .i64 k/\Hid (∀ j,j<k->jat L j=true)/\Hid (Below w.heap.size w wr)) (fun v7 _=>n - (intOf v7).toNat)
 case atStart=>exact⟨0,zero_le _,rfl,(fun j hj=>by omega),Below.refl _ _⟩
 case round =>
  obtain⟨k,hk,rfl,HA,HB⟩:=hrel;by_cases hlt:k<n
  ·obtain⟨b,off,rfl,hck⟩:=jk HF.out HB.out k hlt;have HJ:Hid (jat L k=(!(decide (L[k]?.getD 0=8204)||decide (L[k]?.getD 0=8205))||may L k)):=rfl;have HM:=hid (sV _ L k wr (by rw[HN.out];exact hlt) (by rw[HN.out];exact hlen) (HV.out.below HB.out (le_refl _)))
   have HS:Hid (jat L k=true->∀ j,j<k+1->jat L j=true):=fun h j hj=>by
    by_cases e:j=k
    ·rw[e];exact h
    ·exact HA.out j (by omega)
   have HX:=hid (HNO.out k hlt);obtain⟨x,hx⟩:=Ex' (L[k]?.getD 0);rw[hx]at hck HJ;obtain⟨m,hm⟩:=Ex' (may L k);rw[hm]at HM HJ;clear hx hm;by_cases hq:x=8204\/x=8205
   ·have HJ2:Hid (jat L k=m):=by show _=_;rw[HJ.out];rcases hq with h | h <;> simp[h]
    have hq2:((x==8204)||(x==8205))=true:=by simpa using hq
    cases m with
    | true =>
     rcases hq with rfl | rfl
     ·go_wp2_with(go_at_call 299;refine HM.out.mono ?_;rintro e w1 ⟨rfl,B1⟩)
      go_roundw
      case rel=>exact⟨k+1,by omega,by go_num,HS.out HJ2.out,HB.out.trans (B1.mono HB.out.size)⟩
      case measure=>simp[intOf];omega
     ·go_wp2_with(go_at_call 299;refine HM.out.mono ?_;rintro e w1 ⟨rfl,B1⟩)
      go_roundw
      case rel=>exact⟨k+1,by omega,by go_num,HS.out HJ2.out,HB.out.trans (B1.mono HB.out.size)⟩
      case measure=>simp[intOf];omega
    | false =>
     have HR:=hid (HX.out HJ2.out);rcases hq with rfl | rfl
     ·go_wp2_with(go_at_call 299;refine HM.out.mono ?_;rintro e w1 ⟨rfl,B1⟩);go_ret;exact⟨by rw[HR.out];rfl,HB.out.trans (B1.mono HB.out.size)⟩
     ·go_wp2_with(go_at_call 299;refine HM.out.mono ?_;rintro e w1 ⟨rfl,B1⟩);go_ret;exact⟨by rw[HR.out];rfl,HB.out.trans (B1.mono HB.out.size)⟩
   ·have HJ2:Hid (jat L k=true):=by show _=_;rw[HJ.out,decide_eq_false (fun h=>hq (.inl h)),decide_eq_false (fun h=>hq (.inr h))];rfl
    have h1:(x==8204)=false:=by simp;omega
    have h2:(x==8205)=false:=by simp;omega
    have h3:¬ x=8204:=fun h=>hq (.inl h);have h4:¬ x=8205:=fun h=>hq (.inr h);clear hq;go_wp2
    go_roundw
    case rel=>exact⟨k+1,by omega,by go_num,HS.out HJ2.out,HB⟩
    case measure=>simp[intOf];omega
  ·have HR:=hid (HYES.out (fun j hj=>HA.out j (by omega)));go_wp2;go_ret;exact⟨by rw[HR.out];rfl,HB.out⟩
def AE(A F G:Nat):Bool :=
 if (bits .and .u16 (F:Int) 12 != 0)=true then ((bits .andNot .u16 (A:Int) 1021==0)&&(bits .and .u16 (G:Int) 156 != 0))&&(bits .and .u16 (A:Int) 144 != 144)
 else if (F:Int)=2 then (bits .andNot .u16 (A:Int) 883==0)&&(bits .and .u16 (G:Int) 18 != 0) else false
theorem RR(r:Int):((dir r:Int)=2)↔bid r=1:=by
 have h:=qh r;constructor
 ·intro e;replace e:dir r=2:=by omega
  have:=lh r 1;rw[e]at this;have h2:Nat.testBit 2 1=true:=by decide
  rw[h2]at this;simpa using this.symm
 ·intro e;unfold dir;rw[e];rfl
theorem Jg(r:Int)(t:List Int):AE (gW (r::t)) (dir r) (ic (r::t))=dU (r::t):=by
 unfold AE;rw[Nn ⟨dir r,pV r⟩,Nr ⟨gW (r::t),lf _⟩,Np ⟨ic (r::t),vQ _⟩,No ⟨gW (r::t),lf _⟩,Ns ⟨gW (r::t),lf _⟩,Nq ⟨ic (r::t),vQ _⟩];simp only[wU,lh,RR];rw[gh _ 1 (by omega),gh _ 2 (by omega),gh _ 3 (by omega),gh _ 4 (by omega),gh _ 7 (by omega)];simp only[dU,Bool.or_eq_true,decide_eq_true_eq];show(if bid r=2\/bid r=3 then _ else _)=_;split
 ·cases has (r::t) 1 <;> cases has (r::t) 4 <;> cases has (r::t) 7 <;> simp
 ·show(if bid r=1 then _ else _)=_;rfl
theorem qg(v:Value)(L:List Int)(w:World)(hlen:L.length<=100000)(hv:U.aB w v L):
  Calls prog 214 #[v] w fun e W'=>e=.returned (.bool (dU L))/\Below w.heap.size w W':=by
 have HV:=hid hv;obtain⟨a,c,rfl,hf⟩:=aJ hv;by_cases h0:L.length=0
 ·have e:L=[]:=List.length_eq_zero_iff.1 h0;subst e;clear hf hv HV hlen;go_enter func214,ntmps214;go_wp2;go_ret;exact⟨rfl,Below.refl _ _⟩
 ·obtain⟨b,off,rfl,hc⟩:=hf (by omega);have hc0:=hc 0 (by omega)
  have HE:Hid (dU L=AE (gW L) (dir (L[0]?.getD 0)) (ic L)):=by
   show _=_;cases L with
   | nil=>exact absurd rfl h0
   | cons r t=>exact(Jg r t).symm
  have HD:=hid (fun W (h:Below w.heap.size w W)=>iN _ L W hlen (HV.out.below h (le_refl _)));have HG:=hid (fun W (h:Below w.heap.size w W)=>vP _ L W hlen (HV.out.below h (le_refl _)));have HF:=hid (fR (L[0]?.getD 0));obtain⟨R,hR⟩:=Ex' (dU L);obtain⟨A,hA⟩:=Ex' (gW L);obtain⟨F,hF⟩:=Ex' (dir (L[0]?.getD 0));obtain⟨G,hG⟩:=Ex' (ic L);rw[hR,hA,hF,hG]at HE;rw[hA]at HD;rw[hG]at HG;rw[hF]at HF;rw[hR];obtain⟨x,hx⟩:=Ex' (L[0]?.getD 0);rw[hx]at hc0 HF;obtain⟨n,hn⟩:=Ex' L.length;rw[hn]at HD HG h0 hlen ⊢;have h0z:¬ ((n:Int)=0):=by omega
  have h0b:((n:Int)==0)=false:=by simpa using h0z
  have hpos:(0:Int)<(n:Int):=by omega
  rw[Nat.add_zero]at hc0;have hx0:∀ y:N.aI w,y.W.cell? ⟨b,off,none⟩=some (.int .i32 x):=fun y=>(y.h.cell (p:=⟨b,off,none⟩) (U.lt_of_cell hc0)).trans hc0;have hne:Nonempty (N.aI w):=⟨⟨w,Below.refl _ _⟩⟩;clear hR hA hF hG hx hn hf hc hv HV;go_enter func214,ntmps214;go_wp2_with fail;refine N.az (by kernel_rfl) (by kernel_rfl) ?_
  repeat (go_big_quiet_step ((first
    | (go_at_call 213;exact N.aI.call _ (HD.out _ (N.aI.h _)))
    | (go_at_call 242;exact N.aI.call _ (HF.out _))
    | (go_at_call 243;exact N.aI.call _ (HG.out _ (N.aI.h _))))))
  refine wpQuiet_nil ?_;rintro _ ⟨y,rfl⟩;have hBy:=hid y.h;generalize y.W=wy at *;clear hx0 hne;go_wp2;all_goals (go_ret;refine⟨?_,hBy.out⟩;rw[HE.out];unfold AE;simp_all)
theorem dW{p:Int->Bool}{L:List Int}(h:∀ j,j<L.length->p (L[j]?.getD 0)=false):L.any p=false:=by rw[Bool.eq_false_iff];intro hc;obtain⟨x,hx,hp⟩:=List.any_eq_true.1 hc;obtain⟨j,hj,rfl⟩:=List.mem_iff_getElem.1 hx;have:=h j hj;rw[getElem?_eq_getElem hj]at this;exact absurd hp (by simpa using this)
theorem lu{p:Int->Bool}{L:List Int}(j:Nat)(hj:j<L.length)(h:p (L[j]?.getD 0)=true):L.any p=true:=by rw[getElem?_eq_getElem hj]at h;exact List.any_eq_true.2 ⟨_,getElem_mem hj,h⟩
def QL(b:Bool)(e:Ending):Prop:=∃ k:Int,e=.returned (.int .i64 k)/\-1<=k/\k<=100000/\decide (0<=k)=b
theorem Cm(v:Value)(L:List Int)(x:Int)(w:World)(hlen:L.length<=100000)(hv:U.aB w v L):
  Calls prog 298 #[v,.int .i32 x] w fun e W'=>QL (L.any fun r=>decide (r=x)) e/\Below w.heap.size w W':=by
 obtain⟨a,c,rfl,hf⟩:=aJ hv;have HF:=hid hf;have HNO:=hid (dW (p:=fun r=>decide (r=x)) (L:=L));have HYES:=hid (lu (p:=fun r=>decide (r=x)) (L:=L));obtain⟨n,hn⟩:=Ex' L.length;rw[hn]at hlen HF HNO HYES ⊢;obtain⟨R,hR⟩:=Ex' ((L.any fun r=>decide (r=x)));rw[hR]at HNO HYES ⊢;clear hv hf hn hR;go_enter func298,ntmps298;go_wp2_with fail
 go_loopw [8] (fun v8 wr=>∃ k:Nat,k<=n/\v8=.int .i64 k/\Hid (∀ j,j<k->decide (L[j]?.getD 0=x)=false)/\Hid (Below w.heap.size w wr)) (fun v8 _=>n - (intOf v8).toNat)
 case atStart=>exact⟨0,zero_le _,rfl,(fun j hj=>by omega),Below.refl _ _⟩
 case round =>
  obtain⟨k,hk,rfl,HA,HB⟩:=hrel;by_cases hlt:k<n
  ·obtain⟨b,off,rfl,hck⟩:=jk HF.out HB.out k hlt;have HX:=hid (HYES.out k hlt)
   have HS:Hid (decide (L[k]?.getD 0=x)=false->∀ j,j<k+1->decide (L[j]?.getD 0=x)=false):=fun h j hj=>by
    by_cases e:j=k
    ·rw[e];exact h
    ·exact HA.out j (by omega)
   obtain⟨y,hy⟩:=Ex' (L[k]?.getD 0);rw[hy]at hck HX HS;clear hy;by_cases hq:x=y
   ·subst hq;have HR:=hid (HX.out (decide_eq_true rfl));go_wp2;go_ret;exact⟨⟨k,rfl,by omega,by omega,by rw[HR.out];exact decide_eq_true (by omega)⟩,HB.out⟩
   ·have hq1:(x==y)=false:=by simpa using hq
    have HR:=hid (HS.out (decide_eq_false (fun h=>hq h.symm)));go_wp2
    go_roundw
    case rel=>exact⟨k+1,by omega,by go_num,HR,HB⟩
    case measure=>simp[intOf];omega
  ·have HR:=hid (HNO.out (fun j hj=>HA.out j (by omega)));go_wp2;go_ret;exact⟨⟨-1,rfl,by omega,by omega,by rw[HR.out];rfl⟩,HB.out⟩
theorem bP(v:Value)(L:List Int)(x:Int)(w:World)(hlen:L.length<=100000)(hv:U.aB w v L):
  Calls prog 272 #[v,.int .i32 x] w fun e W'=>e=.returned (.bool (L.any fun r=>decide (r=x)))/\Below w.heap.size w W':=by
 have HC:=hid (Cm v L x w hlen hv);obtain⟨a,c,rfl,-⟩:=aJ hv;obtain⟨n,hn⟩:=Ex' L.length;rw[hn]at HC ⊢;clear hv hn;go_enter func272,ntmps272;go_wp2_with fail;refine HC.out.mono ?_;rintro e w1 ⟨⟨k,rfl,h1,h2,h3⟩,B1⟩;have H3:=hid h3;clear h3;go_wp2;go_ret;exact⟨by rw[<-H3.out];rfl,B1⟩
theorem EM(r:Int)(w:World):Calls prog 207 #[.int .i32 r] w fun e W'=>e=.returned (.int .u8 (sts r))/\Below w.heap.size w W':=D.nZ r w
theorem PE(r:Int)(w:World):Calls prog 274 #[.int .i32 r] w fun e W'=>e=.returned (.bool (mrk r))/\Below w.heap.size w W':=D.He r w
theorem sQ(r:Int)(w:World):
  Calls prog 276 #[.int .i32 r] w fun e W'=>e=.returned (.bool (eP r))/\Below w.heap.size w W':=by
 have HC:=hid (EM r w);have HN:Hid (eP r=(decide (sts r≠1)&&decide (sts r≠4))):=rfl;obtain⟨s,hs⟩:=Ex' (sts r);obtain⟨R,hR⟩:=Ex' (eP r);rw[hs]at HC HN;rw[hR]at HN ⊢;clear hs hR;go_enter func276,ntmps276;go_wp2_with fail;refine HC.out.mono ?_;rintro e w1 ⟨rfl,B1⟩;go_wp2;all_goals (go_ret;refine⟨?_,B1⟩;rw[HN.out];first | (simp_all;done) | (simp_all;rw[Bool.eq_iff_iff];simp;done) | (simp_all;rw[Bool.eq_iff_iff];simp;intros;omega))
theorem fO(v:Value)(L:List Int)(w:World)(hlen:L.length<=100000)(hv:U.aB w v L):
  Calls prog 249 #[v,.func (.func 276) #[] #[]] w fun e W'=>QL (L.any eP) e/\Below w.heap.size w W':=by
 obtain⟨a,c,rfl,hf⟩:=aJ hv;have HF:=hid hf;have HNO:=hid (dW (p:=eP) (L:=L));have HYES:=hid (lu (p:=eP) (L:=L));obtain⟨n,hn⟩:=Ex' L.length;rw[hn]at hlen HF HNO HYES ⊢;obtain⟨R,hR⟩:=Ex' (L.any eP);rw[hR]at HNO HYES ⊢;clear hv hf hn hR;go_enter func249,ntmps249;go_wp2_with fail
 go_loopw [8] (fun v8 wr=>∃ k:Nat,k<=n/\v8=.int .i64 k/\Hid (∀ j,j<k->eP (L[j]?.getD 0)=false)/\Hid (Below w.heap.size w wr)) (fun v8 _=>n - (intOf v8).toNat)
 case atStart=>exact⟨0,zero_le _,rfl,(fun j hj=>by omega),Below.refl _ _⟩
 case round =>
  obtain⟨k,hk,rfl,HA,HB⟩:=hrel;by_cases hlt:k<n
  ·obtain⟨b,off,rfl,hck⟩:=jk HF.out HB.out k hlt;have HX:=hid (HYES.out k hlt)
   have HS:Hid (eP (L[k]?.getD 0)=false->∀ j,j<k+1->eP (L[j]?.getD 0)=false):=fun h j hj=>by
    by_cases e:j=k
    ·rw[e];exact h
    ·exact HA.out j (by omega)
   have HC:=hid (sQ (L[k]?.getD 0) wr);obtain⟨t,ht⟩:=Ex' (eP (L[k]?.getD 0));rw[ht]at HX HS HC;obtain⟨y,hy⟩:=Ex' (L[k]?.getD 0);rw[hy]at hck HC;clear hy ht;cases t with
   | true =>
    have HR:=hid (HX.out rfl);go_wp2_with(go_at_call 276;refine HC.out.mono ?_;rintro e w1 ⟨rfl,B1⟩);go_ret;exact⟨⟨k,rfl,by omega,by omega,by rw[HR.out];exact decide_eq_true (by omega)⟩,HB.out.trans (B1.mono HB.out.size)⟩
   | false =>
    have HR:=hid (HS.out rfl);go_wp2_with(go_at_call 276;refine HC.out.mono ?_;rintro e w1 ⟨rfl,B1⟩)
    go_roundw
    case rel=>exact⟨k+1,by omega,by go_num,HR,HB.out.trans (B1.mono HB.out.size)⟩
    case measure=>simp[intOf];omega
  ·have HR:=hid (HNO.out (fun j hj=>HA.out j (by omega)));go_wp2;go_ret;exact⟨⟨-1,rfl,by omega,by omega,by rw[HR.out];rfl⟩,HB.out⟩
theorem dA(v:Value)(L:List Int)(w:World)(hlen:L.length<=100000)(hv:U.aB w v L):
  Calls prog 228 #[v,.func (.func 276) #[] #[]] w fun e W'=>e=.returned (.bool (L.any eP))/\Below w.heap.size w W':=by
 have HC:=hid (fO v L w hlen hv);obtain⟨a,c,rfl,-⟩:=aJ hv;obtain⟨n,hn⟩:=Ex' L.length;rw[hn]at HC ⊢;clear hv hn;go_enter func228,ntmps228;go_wp2_with fail;refine HC.out.mono ?_;rintro e w1 ⟨⟨k,rfl,h1,h2,h3⟩,B1⟩;have H3:=hid h3;clear h3;go_wp2;go_ret;exact⟨by rw[<-H3.out];rfl,B1⟩
theorem OP(B:Nat)(v:Value)(L:List Int)(w:World)(hlen:L.length<=10000)(hb:Boxed w B 37 v)(hv:N.bR w v L):
  Calls prog 266 #[.pointer (some ⟨B,0,none⟩)] w fun e W'=>e=.returned (.bool (!decide (N.cI L=L)))/\Below w.heap.size w W':=by
 have HC:=hid (N.PM v L w hlen hv);obtain⟨a,c,rfl,-⟩:=hv;have hc:=hb.cell;obtain⟨R,hR⟩:=Ex' (decide (N.cI L=L));rw[hR]at HC ⊢;obtain⟨n,hn⟩:=Ex' L.length;rw[hn]at HC hc;clear hR hn hb;go_enter func266,ntmps266;go_wp2_with fail;refine HC.out.mono ?_;rintro e w1 ⟨rfl,B1⟩;go_wp2;go_ret;exact⟨rfl,B1⟩
theorem OO(B Bh:Nat)(v:Value)(hy:Bool)(L:List Int)(w:World)(hlen:L.length<=10000)(hb:Boxed w B 37 v)(hh:Boxed w Bh 4 (.bool hy))(hv:U.aB w v L):
  Calls prog 268 #[.pointer (some ⟨Bh,0,none⟩),.pointer (some ⟨B,0,none⟩)] w fun e W'=>e=.returned (.bool (hy&&decide (4<=L.length)&&decide (L[2]?.getD 0=45)&&decide (L[3]?.getD 0=45)))/\Below w.heap.size w W':=by
 obtain⟨a,c,rfl,hf⟩:=aJ hv;have hc:=hb.cell;have hch:=hh.cell;have HF:=hid hf;obtain⟨x,hx⟩:=Ex' (L[2]?.getD 0);obtain⟨y,hyy⟩:=Ex' (L[3]?.getD 0);rw[hx,hyy];by_cases h4:4<=L.length
 ·obtain⟨b,off,rfl,hcc⟩:=HF.out (by omega);have h2:=hcc 2 (by omega);have h3:=hcc 3 (by omega);rw[hx]at h2;rw[hyy]at h3;rw[decide_eq_true h4];obtain⟨n,hn⟩:=Ex' L.length;rw[hn]at hc h4 hlen;have h4z:(4:Int)<=(n:Int):=by omega
  clear hx hyy hn hb hh hv hf HF hcc;cases hy
  ·go_enter func268,ntmps268;go_wp2;go_ret;exact⟨rfl,Below.refl _ _⟩
  ·go_enter func268,ntmps268;go_wp2;all_goals (go_ret;refine⟨?_,Below.refl _ _⟩;first | (simp_all;done) | (simp_all;rw[Bool.eq_iff_iff];simp;done) | (simp_all;rw[Bool.eq_iff_iff];simp;intros;omega))
 ·rw[decide_eq_false h4];obtain⟨n,hn⟩:=Ex' L.length;rw[hn]at hc h4 hlen;have h4z:¬ (4:Int)<=(n:Int):=by omega
  clear hx hyy hn hb hh hv hf HF;cases hy
  ·go_enter func268,ntmps268;go_wp2;go_ret;exact⟨rfl,Below.refl _ _⟩
  ·go_enter func268,ntmps268;go_wp2;go_ret;exact⟨rfl,Below.refl _ _⟩
theorem ON(Bh Bf Bz:Nat)(hy:Bool)(x y:Int)(w:World)(hh:Boxed w Bh 4 (.bool hy))(hf:Boxed w Bf 21 (.int .i32 x))(hz:Boxed w Bz 21 (.int .i32 y)):
  Calls prog 269 #[.pointer (some ⟨Bh,0,none⟩),.pointer (some ⟨Bf,0,none⟩),.pointer (some ⟨Bz,0,none⟩)] w fun e W'=>e=.returned (.bool (hy&&(decide (x=45)||decide (y=45))))/\Below w.heap.size w W':=by
 have hch:=hh.cell;have hcf:=hf.cell;have hcz:=hz.cell;clear hh hf hz;cases hy
 ·go_enter func269,ntmps269;go_wp2;go_ret;exact⟨rfl,Below.refl _ _⟩
 ·go_enter func269,ntmps269;go_wp2;all_goals (go_ret;refine⟨?_,Below.refl _ _⟩;first | (simp_all;done) | (simp_all;rw[Bool.eq_iff_iff];simp;done) | (simp_all;rw[Bool.eq_iff_iff];simp;intros;omega))
theorem OL(B:Nat)(v:Value)(L:List Int)(w:World)(hlen:L.length<=10000)(hb:Boxed w B 37 v)(hv:U.aB w v L):
  Calls prog 271 #[.pointer (some ⟨B,0,none⟩)] w fun e W'=>e=.returned (.bool (L.any fun r=>decide (r=46)))/\Below w.heap.size w W':=by
 have HC:=hid (bP v L 46 w (by omega) hv);obtain⟨a,c,rfl,-⟩:=aJ hv;have hc:=hb.cell;obtain⟨R,hR⟩:=Ex' ((L.any fun r=>decide (r=46)));rw[hR]at HC ⊢;obtain⟨n,hn⟩:=Ex' L.length;rw[hn]at HC hc;clear hR hn hb hv;go_enter func271,ntmps271;go_wp2_with fail;refine HC.out.mono ?_;rintro e w1 ⟨rfl,B1⟩;go_wp2;go_ret;exact⟨rfl,B1⟩
theorem OK(B:Nat)(x:Int)(w:World)(hb:Boxed w B 21 (.int .i32 x)):
  Calls prog 273 #[.pointer (some ⟨B,0,none⟩)] w fun e W'=>e=.returned (.bool (mrk x))/\Below w.heap.size w W':=by
 have HC:=hid (PE x w);have hc:=hb.cell;clear hb;go_enter func273,ntmps273;go_wp2_with fail;refine HC.out.mono ?_;rintro e w1 ⟨rfl,B1⟩;go_wp2;go_ret;exact⟨rfl,B1⟩
theorem OJ(B:Nat)(v:Value)(L:List Int)(w:World)(hlen:L.length<=10000)(hb:Boxed w B 37 v)(hv:U.aB w v L):
  Calls prog 275 #[.pointer (some ⟨B,0,none⟩)] w fun e W'=>e=.returned (.bool (L.any eP))/\Below w.heap.size w W':=by
 have HC:=hid (dA v L w (by omega) hv);obtain⟨a,c,rfl,-⟩:=aJ hv;have hc:=hb.cell;obtain⟨R,hR⟩:=Ex' (L.any eP);rw[hR]at HC ⊢;obtain⟨n,hn⟩:=Ex' L.length;rw[hn]at HC hc;clear hR hn hb hv;go_enter func275,ntmps275;go_wp2_with fail;refine HC.out.mono ?_;rintro e w1 ⟨rfl,B1⟩;go_wp2;go_ret;exact⟨rfl,B1⟩
theorem OI(B:Nat)(v:Value)(L:List Int)(w:World)(hlen:L.length<=10000)(hb:Boxed w B 37 v)(hv:U.aB w v L):
  Calls prog 277 #[.pointer (some ⟨B,0,none⟩)] w fun e W'=>e=.returned (.bool (!jok L))/\Below w.heap.size w W':=by
 have HC:=hid (Ck v L w (by omega) hv);obtain⟨a,c,rfl,-⟩:=aJ hv;have hc:=hb.cell;obtain⟨R,hR⟩:=Ex' (jok L);rw[hR]at HC ⊢;obtain⟨n,hn⟩:=Ex' L.length;rw[hn]at HC hc;clear hR hn hb hv;go_enter func277,ntmps277;go_wp2_with fail;refine HC.out.mono ?_;rintro e w1 ⟨rfl,B1⟩;go_wp2;go_ret;exact⟨rfl,B1⟩
section
variable (x0 x1 x2 x3 x4 x5 x6 x7 x8 x10 : Int) (x9 : Bool) (W : World)
end
end L
namespace D
open Go.RowKit Go.Lib Go.Sort Go.Shelf
end D
namespace N
theorem oG{W:World}{a b:Nat}{v:Value}{n:Nat}{X:List Value}(h:W.ownsRow b 21 1 v n X)(hab:a<=b):W.ownsRow a 21 1 v n X:=by
 rcases h with⟨h1,⟨rfl,h2⟩ | ⟨g,cap,cur,rfl,hbg,h3⟩⟩
 ·exact⟨h1,.inl ⟨rfl,h2⟩⟩
 ·exact⟨h1,.inr ⟨g,cap,cur,rfl,by omega,h3⟩⟩
end N
namespace U
end U
namespace I
theorem hid{p:Prop}(h:p):Hid p:=h
theorem bU{base n:Nat}{v:Value}{X:List Value}{W:World}(h:W.ownsRow base 21 1 v n X):∃ a cap,v=.slice a n cap:=by
 rcases h.2 with⟨rfl,h0⟩ | ⟨g,cap,cur,rfl,_⟩
 ·exact⟨none,0,by rw[h0]⟩
 ·exact⟨_,cap,rfl⟩
theorem NB{W:World}{v:Value}{zs:List Int}(h:D.aB W v zs):U.nt W v zs:=by
 obtain⟨a,cap,rfl,⟨h1,h2⟩,h3⟩:=h;cases a with
 | none =>
  have h0:zs.length=0:=Nat.eq_zero_of_not_pos (fun hp=>by obtain⟨b,e,_⟩:=h3 hp;cases e);have e1:=h1 rfl;exact .inl ⟨by rw[h0,e1],List.length_eq_zero_iff.1 h0⟩
 | some ad =>
  refine .inr ⟨ad,cap,rfl,fun j hj=>?_⟩;obtain⟨b,e,hg⟩:=h3 (by omega);cases e;rw[U.gy];simp[World.cell?,hg,getElem?_eq_getElem hj]
theorem GY(l:List Int)(k:Nat)(hk:k<l.length):(l.take (k+1)).flatMap mpx=(l.take k).flatMap mpx++mpx (l[k]?.getD 0):=by rw[L.take_one l k hk,List.flatMap_append];simp
theorem LS(r:Int):(mpx r).length<=8:=by
 by_cases h:L.sts r=0
 ·unfold mpx;rw[if_pos h];simp
 ·unfold mpx D.mp;rw[if_neg h];split
  ·simp
  ·split
   ·unfold D.mpd;split
    ·simp
    ·unfold D.inst;cases h:D.mC.lookup r with
     | none=>simp
     | some v =>
      have:∀ p∈D.mC,p.2.length<=8:=by decide
      exact this _ (D.eU h)
   ·simp
end I
namespace L
end L
namespace I
def El(W:World)(u:Value)(l:List Int):Prop:=N.bR W u l/\∀ a n c,u=.slice a n c->n<=c/\(a=none->c=0)
theorem El.below{W W':World}{u:Value}{l:List Int}(h:El W u l)(hb:Below W.heap.size W W'):El W' u l:=⟨h.1.below hb,h.2⟩
theorem El.ints{W:World}{u:Value}{l:List Int}(h:El W u l):U.aB W u l:=N.xx h.1
theorem El.own{W:World}{base n:Nat}{v:Value}{zs:List Int}(hn:n=zs.length)(h:W.ownsRow base 21 1 v n (zs.map (Value.int .i32))):El W v zs:=by
 refine⟨N.bR.of_own hn h,?_⟩;rcases h.2 with⟨rfl,h0⟩ | ⟨g,cap,cur,rfl,_,_,hnc,_⟩
 ·rintro a n c e;cases e;exact⟨le_refl _,fun _=>rfl⟩
 ·rintro a n c e;cases e;exact⟨hnc,fun h=>by cases h⟩
theorem Ku(W:World):(sizeOf (prog.elem 37)).run prog W=.ok 1 W:=by kernel_rfl
theorem Ry{l:List Int}{hy:Bool}(h:L.dr l=false):one l hy=(l,L.flt l hy):=by unfold one;rw[if_pos h]
theorem El.nil(W:World):El W (.slice none 0 0) []:=⟨⟨none,0,rfl,fun hp=>absurd hp (by simp)⟩,fun a n c e=>by cases e;exact⟨le_refl _,fun _=>rfl⟩⟩
theorem IP{l:List Int}{W:World}{base:Nat}{v:Value}{e:Int}(h:P.zn l W base v e):El W v (P.ik l).1:=by
 unfold P.ik;rcases h with⟨h1,rfl,rfl⟩ | ⟨h1,h2,rfl,rfl⟩ | ⟨h1,h2,pts,h3,rfl,h4⟩
 ·rw[if_pos h1];exact El.nil W
 ·rw[if_neg (by omega)];split
  ·exact El.nil W
  ·rename_i h3;rcases h2 with h2 | h2
   ·exact absurd h2 h3
   ·rw[h2];exact El.nil W
 ·rw[if_neg (by omega),if_neg (by rw[h2];exact Bool.noConfusion),h3];exact El.own rfl h4
def DK(l:List Int)(hy:Bool)(w:World)(e:Ending)(W':World):Prop:=∃ u,e=.returned (.tuple #[u,.int .u16 (one l hy).2])/\El W' u (one l hy).1/\Below w.heap.size w W'
theorem RH:(prog.info? 37).map (fun i=>(i.zero,i.size,i.bytes))=some (some (.slice none 0 0),1,24):=by kernel_rfl
theorem eN{base n:Nat}{v:Value}{X:List Value}{W:World}(h:W.ownsRow base 37 1 v n X):∃ a cap,v=.slice a n cap:=by
 rcases h.2 with⟨rfl,h0⟩ | ⟨g,cap,cur,rfl,_⟩
 ·exact⟨none,0,by rw[h0]⟩
 ·exact⟨_,cap,rfl⟩
def Els(W:World)(vs:List Value)(ls:List (List Int)):Prop:=vs.length=ls.length/\∀ i,i<ls.length->El W (vs[i]?.getD undef) (ls[i]?.getD [])
theorem Els.nil(W:World):Els W [] []:=⟨rfl,fun i hi=>by simp at hi⟩
theorem Els.snoc{W:World}{vs:List Value}{ls:List (List Int)}{u:Value}{l:List Int}(h:Els W vs ls)(hu:El W u l):Els W (vs++[u]) (ls++[l]):=by
 refine⟨by simp[h.1],fun i hi=>?_⟩;by_cases e:i<ls.length
 ·rw[List.getElem?_append_left (by rw[h.1];exact e),List.getElem?_append_left e];exact h.2 i e
 ·have e2:i=ls.length:=by simp at hi;omega
  subst e2;rw[getElem?_append_right (by rw[h.1];exact le_refl _),getElem?_append_right (le_refl _),h.1,sub_self];exact hu
theorem Els.below{W W':World}{vs:List Value}{ls:List (List Int)}(h:Els W vs ls)(hb:Below W.heap.size W W'):Els W' vs ls:=⟨h.1,fun i hi=>(h.2 i hi).below hb⟩
theorem El.kept{W W':World}{u:Value}{l:List Int}{base e size n:Nat}{v:Value}{X:List Value}(h:El W u l)(hown:W.ownsRow base e size v n X)(he:e≠21)(hg:W.grownBy W' v.ownBlock):El W' u l:=by
 refine⟨?_,h.2⟩;obtain⟨a,cap,e1,f⟩:=h.1;refine⟨a,cap,e1,fun hp=>?_⟩;obtain⟨b,off,cur,e2,g,hc⟩:=f hp;refine⟨b,off,cur,e2,(hg.block b (Array.getElem?_eq_some_iff.1 g).1 (fun e'=>?_)).trans g,hc⟩;rcases hown.2 with⟨rfl,_⟩ | ⟨g2,cap2,cur2,rfl,_,hg2,_⟩
 ·simp[Value.ownBlock]at e'
 ·have e3:g2=b:=by simpa[Value.ownBlock]using e'.symm
  subst e3;rw[g]at hg2;cases hg2;exact he rfl
theorem Els.kept{W W':World}{vs:List Value}{ls:List (List Int)}{base e size n:Nat}{v:Value}{X:List Value}(h:Els W vs ls)(hown:W.ownsRow base e size v n X)(he:e≠21)(hg:W.grownBy W' v.ownBlock):Els W' vs ls:=⟨h.1,fun i hi=>(h.2 i hi).kept hown he hg⟩
def uN(cur:List Int):List (List Int)->List (List Int)
 | []=>[cur]
 | a::t=>(cur++a)::t
theorem uM(l:List Int):uN [] (spl l)=spl l:=by obtain⟨a,t,h⟩:=aV l;rw[h];rfl
theorem Fs(cur l:List Int):uN cur (spl (46::l))=cur::spl l:=by rw[spl,if_pos rfl];simp[uN]
theorem Bw(cur l:List Int)(c:Int)(h:¬ c=46):uN cur (spl (c::l))=uN (cur++[c]) (spl l):=by obtain⟨a,t,hs⟩:=aV l;rw[spl,if_neg h,hs];simp[uN]
theorem drop_at(l:List Int)(k:Nat)(h:k<l.length):l.drop k=l[k]?.getD 0::l.drop (k+1):=by rw[List.drop_eq_getElem_cons h,getElem?_eq_getElem h];rfl
open Go.RowKit Go.Shelf
attribute [local go_sem] Oper.semAt_some
abbrev Pc(n:Nat):={ p:Nat×Nat // p.1<=p.2/\p.2<=n }
def uq(n:Nat)(p:Nat×Nat):Pc n:=if h:p.1<=p.2/\p.2<=n then ⟨p,h⟩ else ⟨(0,0),by simp⟩
theorem se{n f t:Nat}(h:f<=t/\t<=n):uq n (f,t)=⟨(f,t),h⟩:=by unfold uq;rw[dif_pos h]
def js:Nat->Nat->List Int->List (Nat×Nat)
 | f,k,[]=>[(f,k)]
 | f,k,c::r=>if c=46 then (f,k)::js (k+1) (k+1) r else js f (k+1) r
def jX(n:Nat)(l:List Int):List (Pc n):=(js 0 0 l).map (uq n)
def lab(l:List Int)(p:Nat×Nat):List Int:=(l.drop p.1).take (p.2 - p.1)
def pcv(a:Option Addr)(p:Nat×Nat):Value:=.slice (if p.2=p.1 then a else a.map (·.add p.1)) (p.2 - p.1) (p.2 - p.1)
theorem Hr(l:List Int)(f k:Nat)(hf:f<=k)(hk:k<l.length):lab l (f,k+1)=lab l (f,k)++[l[k]?.getD 0]:=by unfold lab;show(l.drop f).take (k+1 - f)=(l.drop f).take (k - f)++_;rw[show k+1 - f=k - f+1 by omega,List.take_succ_eq_append_getElem (by rw[length_drop];omega),List.getElem_drop,getElem?_eq_getElem hk];congr 2;simp only[getD_some];congr 1;omega
theorem tE(l:List Int):∀(r:List Int) (f k:Nat),f<=k->k+r.length=l.length->l.drop k=r->(js f k r).map (lab l)=uN (lab l (f,k)) (spl r)
 | [],f,k,hf,hk,hr=>by simp[js,spl,uN]
 | c::r,f,k,hf,hk,hr=>by
  simp only[length_cons]at hk;have hkl:k<l.length:=by omega
  have hd:=drop_at l k hkl;rw[hr]at hd;obtain⟨e1,e2⟩:=List.cons.inj hd;rw[js];split
  ·rename_i h;have ih:=tE l r (k+1) (k+1) (le_refl _) (by omega) e2.symm;have e0:lab l (k+1,k+1)=[]:=by unfold lab;simp
   rw[e0,uM]at ih;rw[map_cons,ih,h,Fs]
  ·rename_i h;have ih:=tE l r f (k+1) (by omega) (by omega) e2.symm;rw[Hr l f k hf hkl,<-e1]at ih;rw[ih,Bw _ _ _ h]
theorem yU:∀(r:List Int) (f k n:Nat),f<=k->k+r.length=n->∀ p∈js f k r,p.1<=p.2/\p.2<=n
 | [],f,k,n,hf,hk,p,hp=>by simp[js]at hp;subst hp;exact⟨hf,by simp at hk;omega⟩
 | c::r,f,k,n,hf,hk,p,hp=>by
  simp only[length_cons]at hk;rw[js]at hp;split at hp
  ·rcases List.mem_cons.1 hp with rfl | hp
   ·exact⟨hf,by simp only;omega⟩
   ·exact yU r (k+1) (k+1) n (le_refl _) (by omega) p hp
  ·exact yU r f (k+1) n (by omega) (by omega) p hp
theorem IT(n:Nat)(l:List Int)(h:l.length=n):(jX n l).map (fun p=>lab l p.1)=spl l:=by
 have h1:=tE l l 0 0 (le_refl _) (by omega) rfl;have e0:lab l (0,0)=[]:=by unfold lab;simp
 rw[e0,uM]at h1;rw[<-h1];unfold jX;rw[map_map];apply List.map_congr_left;intro p hp;have:=yU l 0 0 n (le_refl _) (by omega) p hp;obtain⟨f,t⟩:=p;show lab l (uq n (f,t)).1=_;rw[se this]
theorem El.piece{W:World}{a:Option Addr}{n c:Nat}{l:List Int}(h:El W (.slice a n c) l)(hn:l.length=n)(p:Pc n):El W (pcv a p.1) (lab l p.1):=by
 obtain⟨⟨f,t⟩,h1,h2⟩:=p;simp only at h1 h2;have hl:(lab l (f,t)).length=t - f:=by unfold lab;simp only[length_take,length_drop];omega
 by_cases he:t=f
 ·subst he;have e0:lab l (t,t)=[]:=by unfold lab;simp
  show El W (pcv a (t,t)) (lab l (t,t));rw[e0];unfold pcv;simp only[if_true,sub_self];refine⟨⟨a,0,rfl,fun hp=>absurd hp (by simp)⟩,fun a' n' c' e=>by cases e;exact⟨le_refl _,fun _=>rfl⟩⟩
 ·obtain⟨a',c',e',hf⟩:=h.1;rw[hn]at e';cases e';obtain⟨b,off,cur,rfl,hg,hc⟩:=hf (by omega);show El W (pcv (some ⟨b,off,none⟩) (f,t)) (lab l (f,t));unfold pcv;rw[if_neg he];refine⟨⟨_,t - f,by rw[hl],fun hp=>⟨b,off+f,cur,by simp[Addr.add],hg,fun j hj=>?_⟩⟩,fun a' n' c' e=>by cases e;exact⟨le_refl _,fun h=>by cases h⟩⟩;rw[hl]at hj;have:=hc (f+j) (by omega);rw[Nat.add_assoc,this];unfold lab;rw[List.getElem?_take_of_lt (by simp only;omega),List.getElem?_drop]
theorem qR(a:Option Addr)(n c f k:Nat)(h1:f<=k)(h2:k<=c)(W:World):
  (Instr.slice 37 (.slice a n c) (some (.int .i64 (f:Int))) (some (.int .i64 (k:Int))) (some (.int .i64 (k:Int)))).run prog W=.ok (pcv a (f,k)) W:=by
 rw[run_slice_lhm W 37 a n c (by kernel_rfl) .i64 .i64 .i64 (f:Int) (k:Int) (k:Int) (by omega) (by omega) (by omega) (by omega),Ku W];simp only[Result.andThen,sliced,Int.toNat_natCast,Nat.mul_one];rfl
abbrev MP(a:Option Addr)(n:Nat)(p:Pc n):Array Value:=#[pcv a p.1]
structure Bx(Bl:Nat)(v:Value)(l:List Int)(W:World):Prop where
 box:Boxed W Bl 37 v
 el:El W v l
def mf(Bl:Nat)(v:Value)(l:List Int)(W W':World):Prop:=Bx Bl v l W->Bx Bl v l W'
theorem MS(m:Nat)(hm:1<=m)(lp Bl:Nat)(a:Option Addr)(n c:Nat)(l:List Int)(hn:l.length=n)(hlen:n<=100000)(J Jx:List (Pc n)->World->Prop)
  (hY:∀ pre x W,J pre W->pre.length<n+1->YieldAt Fence.wide (m - 1) prog lp (MP a n x) W fun e W' =>
    (e=.returned (.bool true)/\J (pre++[x]) W'/\mf Bl (.slice a n c) l W W')\/(e=.returned (.bool false)/\Jx (pre++[x]) W'))
  (W:World) (hF:Bx Bl (.slice a n c) l W) (h0:J [] W) :
  CallsIn Fence.wide m prog 205 #[.func (.yield lp) #[] #[],.pointer (some ⟨Bl,0,none⟩)] W fun e W'=>(∃ v,e=.returned v) /\
   ((∃ ys,ys=jX n l/\J ys W')\/(∃ pre,pre <+: jX n l/\Jx pre W')):=by
 have hcl:=hF.box.cell;have hnc:=(hF.el.2 _ _ _ rfl).1;have HN:=hid hn;have HS0:Hid (jX n l=[]++(js 0 0 (l.drop 0)).map (uq n)):=by show _=_;rw[List.drop_zero];rfl
 refine callsIn_of_wp func205 rfl trivial ?_ rfl;simp only[ntmps205,size_toArray,length_cons,length_nil,Nat.reduceAdd,Nat.reduceSub,replicate_succ,replicate_zero,push_toArray,append_toArray,nil_append,cons_append];obtain⟨C,hC⟩:=Ex' (jX n l);rw[hC]at HS0 ⊢;clear hC hn;gi_wp2_with fail
 gi_loopw [3,8] (fun v3 v8 wr=>∃(f k:Nat) (pre:List (Pc n)),f<=k/\k<=n/\pre.length<=k/\v3=.int .i64 f/\v8=.int .i64 k/\Bx Bl (.slice a n c) l wr/\J pre wr/\Hid (C=pre++(js f k (l.drop k)).map (uq n)))
  (fun _ v8 _=>n - (intOf v8).toNat)
 case atStart=>exact⟨0,0,[],le_refl _,zero_le _,le_refl _,rfl,rfl,hF,h0,HS0⟩
 case round =>
  obtain⟨f,k,pre,hfk,hk,hpk,rfl,rfl,hBx,hJ,HE⟩:=hrel;have hcl:=hBx.box.cell;by_cases hlt:k<n
  ·obtain⟨b,off,he,hb,hcell⟩:=N.bR.cell hBx.el.1 HN.out.symm (by rw[HN.out];omega);subst he;have hck:=hcell k (by rw[HN.out];exact hlt);have HDR:=hid (drop_at l k (by rw[HN.out];exact hlt));obtain⟨x,hx⟩:=Ex' (l[k]?.getD 0);rw[hx]at hck HDR;clear hx hcell hb;by_cases h46:x=46
   ·have hsl:=fun W=>qR (some ⟨b,off,none⟩) n c f k hfk (by omega) W;have HST:Hid (C=(pre++[⟨(f,k),hfk,by omega⟩])++(js (k+1) (k+1) (l.drop (k+1))).map (uq n)):=by show _=_;rw[HE.out,HDR.out,h46,js,if_pos rfl,map_cons,se ⟨hfk,by omega⟩];simp
    subst h46;have hyy:=hY pre ⟨(f,k),hfk,by omega⟩ wr hJ (by omega);obtain⟨fn,tmps,assign,body,hy,hR⟩:=hyy;dsimp only[MP]at hy;obtain⟨u,hu⟩:=Ex' (pcv (some ⟨b,off,none⟩) (f,k));rw[hu]at hsl hy;clear hu;gi_wp2;refine hR.mono ?_;rintro e W3 (⟨rfl,hJ3,hk3⟩ | ⟨rfl,hJx3⟩)
    ·have hB3:=hk3 hBx;gi_wp2
     go_roundw
     case rel=>exact⟨k+1,k+1,_,le_refl _,by omega,by simp;omega,by go_num,by go_num,hB3,hJ3,HST⟩
     case measure=>simp[intOf];omega
    ·gi_wp2;refine bodyPost_ret (results_none rfl _ _ _) rfl ?_;exact⟨⟨_,rfl⟩,.inr ⟨_,⟨_,HST.out.symm⟩,hJx3⟩⟩
   ·have h46b:(x != 46)=true:=by simpa using h46
    have h46c:(x==46)=false:=by simpa using h46
    have HST:Hid (C=pre++(js f (k+1) (l.drop (k+1))).map (uq n)):=by show _=_;rw[HE.out,HDR.out,js,if_neg h46]
    gi_wp2
    go_roundw
    case rel=>exact⟨f,k+1,pre,by omega,by omega,by omega,by go_num,by go_num,hBx,hJ,HST⟩
    case measure=>simp[intOf];omega
  ·obtain rfl:k=n:=by omega
   have hsl:=fun W=>qR a k c f k hfk hnc W;have HST:Hid (C=pre++[⟨(f,k),hfk,le_refl _⟩]):=by show _=_;rw[HE.out,List.drop_of_length_le (by rw[HN.out];exact le_refl _),js,map_cons,se ⟨hfk,le_refl _⟩];rfl
   have hyy:=hY pre ⟨(f,k),hfk,le_refl _⟩ wr hJ (by omega);obtain⟨fn,tmps,assign,body,hy,hR⟩:=hyy;dsimp only[MP]at hy;obtain⟨u,hu⟩:=Ex' (pcv a (f,k));rw[hu]at hsl hy;clear hu;gi_wp2;refine hR.mono ?_;rintro e W3 (⟨rfl,hJ3,hk3⟩ | ⟨rfl,hJx3⟩)
   ·gi_wp2
    go_end0
    exact⟨⟨_,rfl⟩,.inl ⟨_,HST.out.symm,hJ3⟩⟩
   ·gi_wp2
    go_end0
    exact⟨⟨_,rfl⟩,.inr ⟨_,⟨[],by rw[HST.out,List.append_nil]⟩,hJx3⟩⟩
theorem Dg(m:Nat)(v:Value)(w:World)(hv:∃ a k c,v=.slice a k c):
  CallsIn Fence.wide m prog 168 #[v] w fun e w'=>e=.returned (.func (.func 205) #[] #[.pointer (some ⟨w.heap.size,0,none⟩)])/\w'=w.alloc (.cells #[v] 37):=by
 obtain⟨a,k,c,rfl⟩:=hv;refine callsIn_of_wp func168 rfl trivial ?_ rfl;simp only[ntmps168,size_toArray,length_cons,length_nil,Nat.reduceAdd,Nat.reduceSub,replicate_succ,replicate_zero,push_toArray,append_toArray,nil_append,cons_append];gi_wp2;go_ret;exact⟨rfl,rfl⟩
theorem El.grown{W W':World}{u:Value}{l:List Int}{row:Option Nat}(h:El W u l)(hg:W.grownBy W' row)(hr:∀ k,row=some k->∀ cur,W.heap[k]? ≠ some (.cells cur 21 (0,0))):El W' u l:=by refine⟨?_,h.2⟩;obtain⟨a,cap,e1,f⟩:=h.1;refine⟨a,cap,e1,fun hp=>?_⟩;obtain⟨b,off,cur,e2,g,hc⟩:=f hp;exact⟨b,off,cur,e2,(hg.block b (Array.getElem?_eq_some_iff.1 g).1 (fun e'=>hr b e'.symm cur g)).trans g,hc⟩
theorem El.other{W W':World}{u:Value}{l:List Int}{row:Option Nat}(h:El W u l)(hg:W.grownBy W' row)(hr:∀ r,row=some r->∃ o:Obj,W.heap[r]? = some o/\o.isCells=false):El W' u l :=
 h.grown hg (fun k e cur hc=>by obtain⟨o,ho,hn⟩:=hr k e;rw[hc]at ho;cases ho;cases hn)
theorem El.set{W:World}{u:Value}{l:List Int}{B:Nat}{t:TypeId}{x:Value}(h:El W u l)(hb:Boxed W B t x)(ht:t≠21)(v':Value):El (W.setCell ⟨B,0,none⟩ v') u l :=
 h.grown (grownBy_setCell' W B v') (fun k e cur hc=>by cases e;rw[show W.heap[B]? = _ from hb]at hc;cases hc;exact ht rfl)
theorem cE{W W':World}{B:Nat}{t:TypeId}{v:Value}{row:Option Nat}(h:Boxed W B t v)(hg:W.grownBy W' row)(hr:∀ r,row=some r->∃ o:Obj,W.heap[r]? = some o/\o.isCells=false):Boxed W' B t v :=
 boxed_own (β:=Unit) B t (fun _=>v) () W W' row h hg hr
theorem Bx.other{W W':World}{Bl:Nat}{v:Value}{l:List Int}{row:Option Nat}(h:Bx Bl v l W)(hg:W.grownBy W' row)(hr:∀ r,row=some r->∃ o:Obj,W.heap[r]? = some o/\o.isCells=false):Bx Bl v l W' :=
 ⟨cE h.box hg hr,h.el.other hg hr⟩
theorem Bx.below{W W':World}{Bl:Nat}{v:Value}{l:List Int}(h:Bx Bl v l W)(hb:Below W.heap.size W W'):Bx Bl v l W':=⟨(hb.block Bl h.box.lt).trans h.box,h.el.below hb⟩
theorem yM(m:Nat)(hm:1<=m)(Bl:Nat)(a:Option Addr)(n c:Nat)(l:List Int)(hn:l.length=n)(hlen:n<=100000)(w:World)(hF:Bx Bl (.slice a n c) l w):
  SeqStopsK Fence.wide m prog 205 #[.pointer (some ⟨Bl,0,none⟩)] (MP a n) (mf Bl (.slice a n c) l) (fun ys=>ys=jX n l) (fun pre=>pre <+: jX n l) (n+1) w:=fun lp J Jx W hW hJ _ hY h0 =>
 MS m hm lp Bl a n c l hn hlen J Jx hY W (hF.below hW) h0
theorem Ht{Bl:Nat}{v:Value}{l:List Int}{A B C:World}(h:mf Bl v l A B)(k:mf Bl v l B C):mf Bl v l A C:=fun x=>k (h x)
theorem Hu{Bl:Nat}{v:Value}{l:List Int}{w:World}(W:World)(k:Nat)(o o':Obj)(_:w.heap.size<=k)(h1:W.heap[k]? = some o)(h2:o.isCells=false)(_:o.isWalk=false):mf Bl v l W (W.putObj k o') :=
 fun x=>x.other (grownBy_putObj' W k o') (fun r e=>by cases e;exact⟨o,h1,h2⟩)
theorem El.srcK{W:World}{u:Value}{l:List Int}(h:El W u l):U.nt W u l:=by
 obtain⟨a,cap,rfl,hf⟩:=id h.1;have h2:=h.2 _ _ _ rfl;cases a with
 | none =>
  have h0:l.length=0:=Nat.eq_zero_of_not_pos (fun hp=>by obtain⟨b,off,cur,e,_⟩:=hf hp;cases e);have e1:=h2.2 rfl;exact .inl ⟨by rw[h0,e1],List.length_eq_zero_iff.1 h0⟩
 | some ad =>
  refine .inr ⟨ad,cap,rfl,fun j hj=>?_⟩;obtain⟨b,off,cur,e,hg,hc⟩:=hf (by omega);cases e;rw[Addr.add_lit];simp[World.cell?,hg,hc j hj]
theorem yW(u:Value)(l:List Int)(w:World)(hlen:l.length<=100000)(hu:El w u l):
  Calls prog 210 #[u] w fun e W'=>N.qx l w e W':=by
 have HU:=hid hu.srcK;obtain⟨a,c,e,-⟩:=hu.1;subst e;obtain⟨n,hn⟩:=Ex' l.length;have HN:=hid hn;unfold N.qx;rw[hn]at hlen HU ⊢;clear hn hu;go_enter func210,ntmps210;go_wp2_with(at_builtin;refine U.bH rfl _ _ rfl w.heap.size _ 0 [] rfl (ownsRow_nil _ _ _ _) _ l rfl HU.out (by have:=HN.out;omega) (le_refl _) ?_;intro v4 w4 r4 g4;rw[HN.out,zero_add,nil_append]at r4;obtain⟨a4,c4,rfl⟩:=bU r4;have R4:=hid r4;have HB4:=hid (U.below_grow (e:=21) (size:=1) (n:=0) (xs:=[]) (Below.refl _ _) (le_refl _) (ownsRow_nil _ _ _ _) g4);clear r4 g4);go_ret;exact⟨_,rfl,R4.out,HB4.out⟩
def hi8(r:Int):Bool:=decide (128<=r)
theorem FJ{l:List Int}(h:Scs l):plain l=!(l.any hi8):=by
 cases hp:plain l with
 | true =>
  have:l.any hi8=false:=by rw[List.any_eq_false];intro r hr;have:=cH.1 hp r hr;simp[hi8];omega
  rw[this];rfl
 | false =>
  cases ha:l.any hi8 with
  | true=>rfl
  | false =>
   have:plain l=true:=cH.2 (fun c hc=>by
     have h1:=List.any_eq_false.1 ha c hc
     have h2:=zL (h c hc)
     simp[hi8]at h1
     omega)
   rw[hp]at this;cases this
theorem PU(r:Int)(w:World):Calls prog 229 #[.int .i32 r] w fun e W'=>e=.returned (.bool (hi8 r))/\W'=w:=by go_enter func229,ntmps229;go_wp2;go_ret;exact⟨rfl,rfl⟩
theorem wj(v:Value)(l:List Int)(w:World)(hlen:l.length<=100000)(hv:U.aB w v l):
  Calls prog 249 #[v,.func (.func 229) #[] #[]] w fun e W'=>L.QL (l.any hi8) e/\W'=w:=by
 obtain⟨a,c,rfl,hf⟩:=L.aJ hv;have HF:=hid hf;have HNO:=hid (L.dW (p:=hi8) (L:=l));have HYES:=hid (L.lu (p:=hi8) (L:=l));obtain⟨n,hn⟩:=Ex' l.length;rw[hn]at hlen HF HNO HYES ⊢;obtain⟨R,hR⟩:=Ex' (l.any hi8);rw[hR]at HNO HYES ⊢;clear hv hf hn hR;go_enter func249,ntmps249;go_wp2_with fail
 go_loop [8] (fun v8=>∃ k:Nat,k<=n/\v8=.int .i64 k/\Hid (∀ j,j<k->hi8 (l[j]?.getD 0)=false)) (fun v8=>n - (intOf v8).toNat)
 case atStart=>exact⟨0,zero_le _,rfl,(fun j hj=>by omega)⟩
 case round =>
  obtain⟨k,hk,rfl,HA⟩:=hrel;by_cases hlt:k<n
  ·obtain⟨b,off,rfl,hck⟩:=L.jk HF.out (Below.refl _ _) k hlt;have HX:=hid (HYES.out k hlt)
   have HS:Hid (hi8 (l[k]?.getD 0)=false->∀ j,j<k+1->hi8 (l[j]?.getD 0)=false):=fun h j hj=>by
    by_cases e:j=k
    ·rw[e];exact h
    ·exact HA.out j (by omega)
   have HC:=hid (PU (l[k]?.getD 0) w);obtain⟨t,ht⟩:=Ex' (hi8 (l[k]?.getD 0));rw[ht]at HX HS HC;obtain⟨y,hy⟩:=Ex' (l[k]?.getD 0);rw[hy]at hck HC;clear hy ht;cases t with
   | true =>
    have HR:=hid (HX.out rfl);go_wp2_with(go_at_call 229;refine HC.out.mono ?_;rintro e w1 ⟨rfl,hw1⟩;obtain rfl:=hw1.symm);go_ret;exact⟨⟨k,rfl,by omega,by omega,by rw[HR.out];exact decide_eq_true (by omega)⟩,rfl⟩
   | false =>
    have HR:=hid (HS.out rfl);go_wp2_with(go_at_call 229;refine HC.out.mono ?_;rintro e w1 ⟨rfl,hw1⟩;obtain rfl:=hw1.symm);exact⟨⟨k+1,by omega,by go_num,HR⟩,by simp[intOf];omega⟩
  ·have HR:=hid (HNO.out (fun j hj=>HA.out j (by omega)));go_wp2;go_ret;exact⟨⟨-1,rfl,by omega,by omega,by rw[HR.out];rfl⟩,rfl⟩
theorem mA(v:Value)(l:List Int)(w:World)(hlen:l.length<=100000)(hs:Scs l)(hv:U.aB w v l):
  Calls prog 202 #[v] w fun e W'=>e=.returned (.bool (plain l))/\W'=w:=by
 have HC:=hid (wj v l w hlen hv);have HP:=hid (FJ hs);obtain⟨a,c,rfl,-⟩:=L.aJ hv;obtain⟨n,hn⟩:=Ex' l.length;rw[hn]at HC ⊢;obtain⟨R,hR⟩:=Ex' (plain l);rw[hR]at HP ⊢;obtain⟨A,hA⟩:=Ex' (l.any hi8);rw[hA]at HP HC;clear hv hn hR hA;have HCF:Hid (Calls prog 228 #[.slice a n c,.func (.func 229) #[] #[]] w fun e W'=>e=.returned (.bool A)/\W'=w):=by show Calls _ _ _ _ _;go_enter func228,ntmps228;go_wp2_with fail;refine HC.out.mono ?_;rintro e w1 ⟨⟨k,rfl,h1,h2,h3⟩,rfl⟩;have H3:=hid h3;clear h3;go_wp2;go_ret;exact⟨by rw[<-H3.out];rfl,rfl⟩
 go_enter func202,ntmps202;go_wp2_with(go_at_call 228;refine HCF.out.mono ?_;rintro e w1 ⟨rfl,hw1⟩;obtain rfl:=hw1.symm);go_ret;exact⟨by rw[HP.out];rfl,rfl⟩
def tX(s t:ByteArray)(b:Bool):Prop:=(b=true/\U.bn s=120::110::45::45::U.bn t)\/(b=false/\¬ ∃ r,U.bn s=120::110::45::45::r)
def zo(s:ByteArray)(e:Ending):Prop:=∃ t b,e=.returned (.tuple #[.string t,.bool b])/\tX s t b
theorem fA(s:ByteArray)(k:Nat):U.bn (s.extract 0 k)=(U.bn s).take k:=by unfold U.bn;rw[<-List.map_take];congr 1;simp[ByteArray.data_extract]
theorem Nb(s:ByteArray)(h:((s.extract 0 4).toList==[120,110,45,45])=true):U.bn s=120::110::45::45::U.bn (s.extract 4 s.size):=by have h1:(s.extract 0 4).toList=[120,110,45,45]:=eq_of_beq h;have h2:=fA s 4;unfold U.bn at h2;rw[<-Go.ByteArray.toList_eq,h1]at h2;have h3:=List.take_append_drop 4 (U.bn s);rw[U.aw,<-h3];show(U.bn s).take 4++_=_;rw[show(U.bn s).take 4=[120,110,45,45] from h2.symm];simp
theorem Qp(s:ByteArray)(h:((s.extract 0 4).toList==[120,110,45,45])=false):¬ ∃ r,U.bn s=120::110::45::45::r:=by
 rintro⟨r,hr⟩;have h2:=fA s 4;rw[hr]at h2;have h3:U.bn (s.extract 0 4)=[120,110,45,45]:=h2
 have h4:(s.extract 0 4).toList=[120,110,45,45]:=by
  rw[Go.ByteArray.toList_eq];unfold U.bn at h3
  have inj:∀(x y:List UInt8),x.map (fun c=>(c.toNat:Int))=y.map (fun c=>(c.toNat:Int))->x=y:=by
   intro x
   induction x with
   | nil=>intro y h;cases y with
    | nil=>rfl
    | cons _ _=>simp at h
   | cons a x ih=>intro y h;cases y with
    | nil=>simp at h
    | cons b y =>
     simp only[map_cons,List.cons.injEq]at h;have e1:a=b:=UInt8.toNat_inj.1 (by omega);rw[e1,ih y h.2]
  exact inj _ [120,110,45,45] h3
 rw[h4]at h;exact absurd h (by decide)
theorem dp(s:ByteArray)(w:World)(hs:s.size<=1000000):
  Calls prog 31 #[.string s,.string ⟨#[120,110,45,45]⟩] w fun e W'=>zo s e/\W'=w:=by
 by_cases h4:4<=s.size
 ·have HY:=hid (Nb s);have HNO:=hid (Qp s);have h4z:(4:Int)<=(s.size:Int):=by omega
  obtain⟨q,hq⟩:=Ex' (((s.extract 0 4).toList==[120,110,45,45]));rw[hq]at HY HNO;cases q with
  | true =>
   go_enter func31,ntmps31;go_wp2;go_ret2;exact⟨⟨_,_,rfl,.inl ⟨rfl,HY.out trivial⟩⟩,rfl⟩
  | false =>
   go_enter func31,ntmps31;go_wp2;go_ret2;exact⟨⟨_,_,rfl,.inr ⟨rfl,HNO.out trivial⟩⟩,rfl⟩
 ·have HNO:Hid (¬ ∃ r,U.bn s=120::110::45::45::r):=by rintro⟨r,hr⟩;have:=congrArg List.length hr;rw[U.aa]at this;simp at this;omega
  have h4z:¬ (4:Int)<=(s.size:Int):=by omega
  go_enter func31,ntmps31;go_wp2;go_ret2;exact⟨⟨_,_,rfl,.inr ⟨rfl,HNO.out⟩⟩,rfl⟩
theorem Mr:(prog.info? 22).map (fun i=>(i.zero,i.size,i.bytes))=some (some (.int .u16 0),1,2):=by kernel_rfl
theorem eO{base n:Nat}{v:Value}{X:List Value}{W:World}(h:W.ownsRow base 22 1 v n X):∃ a cap,v=.slice a n cap:=by
 rcases h.2 with⟨rfl,h0⟩ | ⟨g,cap,cur,rfl,_⟩
 ·exact⟨none,0,by rw[h0]⟩
 ·exact⟨_,cap,rfl⟩
theorem oF{W W':World}{base base' e e' size size' n n':Nat}{v v':Value}{X X':List Value}(h:W.ownsRow base e size v n X)(h':W.ownsRow base' e' size' v' n' X')(he:e≠e')(hg:W.grownBy W' v'.ownBlock):W'.ownsRow base e size v n X:=by
 rcases id h with⟨h1,⟨rfl,h2⟩ | ⟨g,cap,cur,rfl,hbg,hgg,h3⟩⟩
 ·exact⟨h1,.inl ⟨rfl,h2⟩⟩
 ·refine⟨h1,.inr ⟨g,cap,cur,rfl,hbg,(hg.block g (Array.getElem?_eq_some_iff.1 hgg).1 (fun e2=>?_)).trans hgg,h3⟩⟩;rcases h'.2 with⟨rfl,_⟩ | ⟨g2,cap2,cur2,rfl,_,hg2,_⟩
  ·simp[Value.ownBlock]at e2
  ·have e3:g2=g:=by simpa[Value.ownBlock]using e2.symm
   subst e3;rw[hgg]at hg2;cases hg2;exact he rfl
theorem tk(l:List Int)(hy:Bool):L.flt l hy<=255:=by
 by_cases h:l.length=0
 ·unfold L.flt;rw[if_pos h];omega
 ·rw[nd l hy h];have k:∀(b:Bool) (v:Int),0<=v->L.bt b v<=v:=fun b v hv=>by unfold L.bt;split <;> omega
  have h1:=k (!decide (N.cI l=l)) 1 (by omega);have h2:=k (hy&&decide (4<=l.length)&&decide (l[2]?.getD 0=45)&&decide (l[3]?.getD 0=45)) 2 (by omega);have h3:=k (hy&&(decide (l[0]?.getD 0=45)||decide (l[l.length - 1]?.getD 0=45))) 4 (by omega);have h4:=k (L.dr l) 8 (by omega);have h5:=k (l.any (fun r=>decide (r=46))) 16 (by omega);have h6:=k (L.mrk (l[0]?.getD 0)) 32 (by omega);have h7:=k (l.any L.eP) 64 (by omega);have h8:=k (!L.jok l) 128 (by omega);omega
theorem one_le(l:List Int)(hy:Bool):(one l hy).2<=512:=by
 have h:=tk l hy;unfold one;split
 ·show L.flt l hy<=512;omega
 ·split
  ·exact Int.le_refl _
  ·split
   ·exact Int.le_refl _
   ·rename_i m _;split
    ·exact Int.le_refl _
    ·have:=tk m hy;show L.flt m hy<=512;omega
theorem sJ(l:List Int)(hy:Bool)(h:l.length<=10000):(one l hy).1.length<=10000:=by
 unfold one;split
 ·exact h
 ·split
  ·exact h
  ·rename_i h2;cases hr:rdx (l.drop 4) with
   | none=>exact h
   | some m =>
    simp only;split
    ·exact h
    ·unfold rdx at hr;split at hr
     ·cases hr
     ·split at hr
      ·cases hr
      ·rename_i h3 h4;have hp:=cH.1 (show plain l=true by simpa using h2);have hB:U.Bytes (l.drop 4):=fun c hc=>by have:=hp c (List.mem_of_mem_drop hc);omega
       have:=(P.nf hr (by simpa using h4) hB (by omega)).2.2;show m.length<=10000;omega
structure Pr(w1 wr:World)(vo vf:Value)(m:Nat)(vs:List Value)(ys:List (List Int×Int)):Prop where
 out:wr.ownsRow w1.heap.size 37 1 vo m vs
 els:Els wr vs (ys.map (·.1))
 flt:wr.ownsRow w1.heap.size 22 1 vf m (ys.map fun y=>Value.int .u16 y.2)
 be:Below w1.heap.size w1 wr
 len:m=ys.length
theorem Pr.below{w1 wr w2:World}{vo vf:Value}{m:Nat}{vs:List Value}{ys:List (List Int×Int)}(h:Pr w1 wr vo vf m vs ys)(hb:Below wr.heap.size wr w2):Pr w1 w2 vo vf m vs ys :=
 ⟨U.ax h.out hb (le_refl _),h.els.below hb,U.ax h.flt hb (le_refl _),h.be.trans (hb.mono h.be.size),h.len⟩
theorem iP(W:World)(o:Obj):Below W.heap.size W (W.alloc o):=(Below.refl _ W).alloc (le_refl _) o
theorem uB:∀ l:List Int,∀ a∈spl l,a.length<=l.length
 | [],a,h=>by simp[spl]at h;simp[h]
 | c::l,a,h=>by
  obtain⟨b,t,hb⟩:=aV l;have ih:=uB l;by_cases hc:c=46
  ·rw[spl,if_pos hc]at h;rcases List.mem_cons.1 h with rfl | h
   ·simp
   ·have:=ih a h;simp;omega
  ·rw[spl,if_neg hc,hb]at h;rw[hb]at ih;rcases List.mem_cons.1 h with rfl | h
   ·have:=ih b (by simp);simp;omega
   ·have:=ih a (by simp[h]);simp;omega
theorem own_base'{W:World}{a b e size:Nat}{v:Value}{n:Nat}{X:List Value}(h:W.ownsRow b e size v n X)(hab:a<=b):W.ownsRow a e size v n X:=by
 rcases h with⟨h1,h2 | ⟨g,cap,cur,rfl,hbg,h3⟩⟩
 ·exact⟨h1,.inl h2⟩
 ·exact⟨h1,.inr ⟨g,cap,cur,rfl,le_trans hab hbg,h3⟩⟩
theorem fX{W:World}{base e n cap:Nat}{a:Option Addr}{X:List Value}(h:W.ownsRow base e 1 (.slice a n cap) n X)(k:Nat)(hk:k<n):∃ g,a=some ⟨g,0,none⟩/\W.cell? ⟨g,k,none⟩=some (X[k]?.getD undef)/\W.frozen? ⟨g,k,none⟩=false:=by
 rcases id h.2 with⟨e1,h0⟩ | ⟨g,cap',cur,e1,_,hg,_⟩
 ·omega
 ·cases e1;refine⟨g,rfl,?_,by simp[World.frozen?,hg]⟩;have hl:=h.1;rw[h.cellAt k (by omega),getElem?_eq_getElem (by omega)];rfl
theorem pU{W:World}{u:Value}{l:List Int}(h:El W u l):∃ a c,u=.slice a l.length c:=by obtain⟨a,c,e,_⟩:=h.1;exact⟨a,c,e⟩
theorem Dz(ys:List (List Int×Int))(y:List Int×Int):il (ys++[y])=(il ys||L.kR y.1):=by simp[il]
def jB(ys:List (List Int×Int))(k:Nat):List (List Int×Int):=(ys.take k).map dV++ys.drop k
theorem nB(ys:List (List Int×Int))(k:Nat):(jB ys k).map (·.1)=ys.map (·.1):=by unfold jB;rw[map_append,map_map];have:((·.1)∘dV:List Int×Int->List Int)=(·.1):=rfl;rw[this,<-map_append,List.take_append_drop]
theorem nA(ys:List (List Int×Int))(k:Nat)(h:k<ys.length):jB ys k=(ys.take k).map dV++ys[k]::ys.drop (k+1)/\jB ys (k+1)=(ys.take k).map dV++dV ys[k]::ys.drop (k+1):=by unfold jB;refine⟨by rw[List.drop_eq_getElem_cons h],?_⟩;rw[List.take_succ_eq_append_getElem h,map_append,append_assoc];rfl
theorem QO(ys:List (List Int×Int))(k:Nat)(h:k<ys.length)(hb:L.dU ys[k].1=true):jB ys (k+1)=jB ys k:=by
 obtain⟨e1,e2⟩:=nA ys k h;rw[e1,e2];have:dV ys[k]=ys[k]:=by unfold dV;rw[hb];rfl
 rw[this]
theorem Of(ys:List (List Int×Int))(k:Nat)(h:k<ys.length)(hb:L.dU ys[k].1=false):(jB ys (k+1)).map (fun y=>Value.int .u16 y.2)=((jB ys k).map (fun y=>Value.int .u16 y.2)).set k (.int .u16 (ys[k].2+256)):=by
 obtain⟨e1,e2⟩:=nA ys k h;rw[e1,e2];have hl:((ys.take k).map dV).length=k:=by rw[length_map,length_take];omega
 have:dV ys[k]=(ys[k].1,ys[k].2+256):=by unfold dV;rw[hb];rfl
 rw[this,map_append,map_append,map_cons,map_cons,List.set_append_right _ _ (by simp;omega)];simp only[length_map];rw[show k - (ys.take k).length=0 by rw[length_take];omega];rfl
theorem Oe(ys:List (List Int×Int))(k:Nat)(h:k<ys.length):(jB ys k)[k]? = some ys[k]:=by
 obtain⟨e1,_⟩:=nA ys k h;have hl:((ys.take k).map dV).length=k:=by rw[length_map,length_take];omega
 rw[e1,getElem?_append_right (by omega),hl,sub_self];rfl
theorem Od(ys:List (List Int×Int))(k:Nat):(jB ys k).length=ys.length:=by have:=congrArg List.length (nB ys k);simpa using this
def JL(xs:List (List Int×Int))(w:World)(e:Ending)(W':World):Prop:=∃ v f vs,e=.returned (.tuple #[v,f])/\Pr w W' v f xs.length vs xs
theorem Ou(xs:List (List Int×Int))(k:Nat)(h:k<xs.length):xs.take (k+1)=xs.take k++[xs[k]]:=List.take_succ_eq_append_getElem h
theorem mT(X:List Int)(hy:Bool):(prc X hy).length=(spl X).length:=by unfold prc;split <;> simp
theorem cU:∀(ls:List (List Int)) (B:Nat),(∀ l∈ls,l.length<=B)->(join ls).length<=ls.length * (B+1)
 | [],B,_=>by simp[join]
 | [a],B,h=>by
  have:=h a (by simp);simp[join];omega
 | a::b::l,B,h=>by have h1:=cU (b::l) B (fun x hx=>h x (by simp at hx ⊢;exact .inr hx));have h2:=h a (by simp);rw[join,length_append,length_cons,length_cons,Nat.add_mul];omega
theorem RG:(prog.info? 9).map (fun i=>(i.zero,i.size,i.bytes))=some (some (.string ⟨#[]⟩),1,16):=by kernel_rfl
theorem IE{l:List Int}{t:ByteArray}{r:Int}(h:P.JO l t r)(hp:plain l=false):(r=0/\Part l ([120,110,45,45]++U.bn t)/\t.size<=63)\/(r≠0/\¬ ∃ p,Part l p):=by
 rcases h with⟨h1,rfl,rfl⟩ | ⟨h1,h2,rfl,rfl⟩ | ⟨h1,h2,T,h3,⟨h4,rfl,rfl⟩ | ⟨h4,h5,rfl⟩⟩
 ·refine .inr ⟨by decide,?_⟩;rintro⟨p,⟨k,_⟩ | ⟨_,T,_,_,hl,_⟩⟩
  ·rw[hp]at k;cases k
  ·omega
 ·refine .inr ⟨by decide,?_⟩;rintro⟨p,⟨k,_⟩ | ⟨_,T,_,_,_,hs,_⟩⟩
  ·rw[hp]at k;cases k
  ·rw[h2]at hs;cases hs
 ·refine .inr ⟨by decide,?_⟩;rintro⟨p,⟨k,_⟩ | ⟨_,T',hE,hT,_,_,_⟩⟩
  ·rw[hp]at k;cases k
  ·rw[h3.one hE]at h4;omega
 ·refine .inl ⟨rfl,.inr ⟨hp,T,h3,h4,h1,h2,by rw[h5]⟩,?_⟩;rw[<-U.aa,h5];exact h4
def bS(xs:List (List Int×Int))(ts:List ByteArray):Prop:=ts.length=xs.length/\∀ i,i<xs.length->(xs[i]?.getD ([],0)).2=0/\Part (xs[i]?.getD ([],0)).1 (U.bn (ts[i]?.getD ⟨#[]⟩))
def tY(xs:List (List Int×Int)):Prop:=∃ x∈xs,x.2≠0\/¬ ∃ p,Part x.1 p
theorem bS.nil:bS [] []:=⟨rfl,fun i hi=>by simp at hi⟩
theorem bS.snoc{xs:List (List Int×Int)}{ts:List ByteArray}{x:List Int×Int}{t:ByteArray}(h:bS xs ts)(h0:x.2=0)(hp:Part x.1 (U.bn t)):bS (xs++[x]) (ts++[t]):=by
 refine⟨by simp[h.1],fun i hi=>?_⟩;by_cases e:i<xs.length
 ·rw[List.getElem?_append_left e,List.getElem?_append_left (by rw[h.1];exact e)];exact h.2 i e
 ·have e2:i=xs.length:=by simp at hi;omega
  subst e2;rw[getElem?_append_right (le_refl _),getElem?_append_right (by rw[h.1];exact le_refl _),h.1,sub_self];exact⟨h0,hp⟩
theorem Gj{l p:List Int}(h:Part l p):p.length<=l.length+67:=by
 rcases h with⟨_,rfl⟩ | ⟨_,T,_,hT,_,_,rfl⟩
 ·omega
 ·simp;omega
def okl(p:List Int):Prop:=p≠[]/\p.length<=63
abbrev rm(ps:List (List Int)):Prop:=1<ps.length/\ps[ps.length - 1]?.getD []=[]
def cps(ps:List (List Int)):List (List Int):=if rm ps then ps.take (ps.length - 1) else ps
def me(ps:List (List Int)):Prop:=(∃ p∈cps ps,¬ okl p)\/253<(join (cps ps)).length
def QN(xs:List (List Int×Int))(long:Bool)(w:World)(e:Ending)(W':World):Prop :=
 (∃ t r,e=.returned (.tuple #[.string t,.int .i64 r])/\((tY xs/\t=⟨#[]⟩/\r=70)\/(∃ ts,bS xs ts/\((long=true/\me (ts.map U.bn)/\t=⟨#[]⟩/\r=4)\/(¬ (long=true/\me (ts.map U.bn))/\U.bn t=join (ts.map U.bn)/\r=0)))))/\Below w.heap.size w W'
theorem gV(t:ByteArray):(t.toList==[])=decide (t.size=0):=by rw[Bool.eq_iff_iff,beq_iff_eq,decide_eq_true_eq,Go.ByteArray.toList_eq];rw[<-U.aa];unfold U.bn;rw[length_map,List.length_eq_zero_iff]
theorem Hn{ps:List (List Int)}{n:Nat}(hn:ps.length=n):rm ps↔1<n/\ps[n - 1]?.getD []=[]:=by unfold rm;rw[hn]
def gA(r:Int):List PanicEntry:=[{ v:=.iface 134 (.agg #[.int .i64 r]),recovered:=false }]
theorem oC{l:List Int}(h:plain l=true)(p:List Int):Part l p↔p=l:=by
 constructor
 ·rintro(⟨_,e⟩ | ⟨h2,_⟩)
  ·exact e
  ·rw[h]at h2;cases h2
 ·rintro rfl;exact .inl ⟨h,rfl⟩
def WrR(l:List Int)(e:Ending):Prop:=(∃ t,e=.returned (.string t)/\Part l (U.bn t))\/(e=.panicked (gA 70)/\¬ ∃ p,Part l p)
theorem fi(v:Value)(l:List Int)(w:World)(hlen:l.length<=10000)(hs:Scs l)(hv:El w v l):
  Calls prog 167 #[v] w fun e W'=>WrR l e/\Below w.heap.size w W':=by
 have HAS:=hid (mA v l w (by omega) hs hv.ints);have HENC:=hid (U.gU v l (by omega) w hv.ints);have HPE:=hid (P.bM v l (by omega) w hv.ints);have HS:=hid hs;obtain⟨a,c,e0,-⟩:=hv.1;obtain⟨n,hn⟩:=Ex' l.length;rw[hn]at e0;subst e0;clear hv hn hs;cases hp:plain l with
 | true =>
  have HP:=hid (oC hp);have HEL:Hid (U.aj l=l):=bI (fun c hc=>(cH.1 hp c hc).2);rw[hp]at HAS;clear hp;go_enter func167,ntmps167
  go_wp2_with(first
    | (go_at_call 202;refine HAS.out.mono ?_;rintro e wb ⟨rfl,hwb⟩;obtain rfl:=hwb.symm)
    | (go_at_call 203;refine HENC.out.mono ?_;rintro e w1 ⟨⟨s1,r1,rfl,hE⟩,B1⟩;have HE:=hid hE;have HB1:=hid B1;clear hE B1))
  go_ret;refine⟨.inl ⟨s1,rfl,(HP.out _).2 ?_⟩,HB1.out⟩;rcases HE.out with⟨_,_,h⟩ | ⟨h,_⟩
  ·rw[h,HEL.out]
  ·rw[kr.1 HS.out]at h;cases h
 | false =>
  rw[hp]at HAS;have HP:=hid hp;clear hp;go_enter func167,ntmps167
  go_upto_if 21 with(first
    | (go_at_call 202;refine HAS.out.mono ?_;rintro e wb ⟨rfl,hwb⟩;obtain rfl:=hwb.symm)
    | (go_at_call 204;refine HPE.out.mono ?_;rintro e w1 ⟨⟨s1,r1,rfl,hE⟩,B1⟩;have HE:=hid (IE hE HP.out);have HB1:=hid B1;clear hE B1))
  by_cases hr:r1=0
  ·subst hr
   have h1:Part l ([120,110,45,45]++U.bn s1)/\s1.size<=63:=by
    rcases HE.out with⟨_,h,h2⟩ | ⟨h,_⟩
    ·exact⟨h,h2⟩
    ·exact absurd rfl h
   have HPT:=hid h1.1;have hs1:=h1.2;clear h1 HE;go_wp2;go_ret;refine⟨.inl ⟨_,rfl,?_⟩,HB1.out⟩;have e:U.bn (⟨#[120,110,45,45]⟩++s1)=[120,110,45,45]++U.bn s1:=by rw[U.aO];rfl
   rw[e];exact HPT.out
  ·have hrb:(r1 != 0)=true:=by simpa using hr
   have hrc:(r1==0)=false:=by simpa using hr
   have HNO:Hid (¬ ∃ p,Part l p):=by
    rcases HE.out with⟨h,_⟩ | ⟨_,h⟩
    ·exact absurd h hr
    ·exact h
   clear HE;go_wp2;exact⟨rfl,.inr ⟨rfl,HNO.out⟩,HB1.out⟩
theorem ub(v:Value)(l:List Int)(w:World)(hlen:l.length<=10000)(hs:Scs l)(hv:El w v l)(hp:∃ p,Part l p):
  Calls prog 167 #[v] w fun e W'=>(∃ t,e=.returned (.string t)/\Part l (U.bn t))/\Below w.heap.size w W' :=
 (fi v l w hlen hs hv).mono (by
   rintro e W' ⟨h | ⟨_,h⟩,hB⟩
   · exact⟨h,hB⟩
   · exact absurd hp h)
theorem xw(v:Value)(l:List Int)(w:World)(hlen:l.length<=10000)(hs:Scs l)(hv:El w v l)(hp:¬ ∃ p,Part l p):
  Calls prog 167 #[v] w fun e W'=>e=.panicked (gA 70)/\Below w.heap.size w W' :=
 (fi v l w hlen hs hv).mono (by
   rintro e W' ⟨⟨t,_,h⟩ | ⟨h,_⟩,hB⟩
   · exact absurd ⟨_,h⟩ hp
   · exact⟨h,hB⟩)
theorem Hf(n:Nat):(madeCells #[.string ⟨#[]⟩] n).toList=List.replicate n (Value.string ⟨#[]⟩):=by unfold madeCells;simp[Nat.mod_one,List.map_const']
def pad(ts:List ByteArray)(n:Nat):List Value:=(ts++List.replicate (n - ts.length) (⟨#[]⟩:ByteArray)).map Value.string
theorem Lk(ts:List ByteArray)(n k:Nat)(hk:ts.length=k)(hn:k<n)(t:ByteArray):(pad ts n).set k (.string t)=pad (ts++[t]) n:=by unfold pad;rw[<-List.map_set,List.set_append_right _ _ (by omega),hk,sub_self,show n - k=(n - (k+1))+1 by omega,List.replicate_succ,List.set_cons_zero];congr 1;rw[append_assoc,length_append,hk];rfl
theorem Gl(ts:List ByteArray)(n:Nat)(h:ts.length=n):pad ts n=ts.map Value.string:=by unfold pad;rw[h,sub_self];simp
theorem Ll(ts:List ByteArray)(n k:Nat)(hk:ts.length=k)(hn:k<n):(pad ts n)[k]? = some (.string ⟨#[]⟩):=by unfold pad;rw[getElem?_map,getElem?_append_right (by omega),hk,sub_self,show n - k=(n - (k+1))+1 by omega,List.replicate_succ];rfl
def AwR(xs:List (List Int×Int))(n:Nat)(w:World)(e:Ending)(W':World):Prop :=
 (∃ ts cap,bS xs ts/\e=.returned (.slice (some ⟨w.heap.size,0,none⟩) n cap)/\W'.ownsRow w.heap.size 9 1 (.slice (some ⟨w.heap.size,0,none⟩) n cap) n (ts.map Value.string))\/(tY xs/\e=.panicked (gA 70))
theorem iQ(w0 w:World)(vo vf:Value)(n:Nat)(vs:List Value)(xs:List (List Int×Int))(hn:n<=10000)(hp:0<n)(hb:∀ x∈xs,(0<=x.2/\x.2<=768)/\x.1.length<=10000/\Scs x.1)(hP:Pr w0 w vo vf n vs xs):
  Calls prog 112 #[vo,vf] w fun e W'=>AwR xs n w e W'/\Below w.heap.size w W':=by
 have HB:=hid hb;have HP:=hid hP;have HL:=hid hP.len;obtain⟨ao,co,rfl⟩:=eN hP.out;obtain⟨af,cf,rfl⟩:=eO hP.flt;have hmk:=fun W=>run_make_row' (P:=prog) 40 9 (.string ⟨#[]⟩) 16 underlying40 RG rfl .i64 .i64 n (by omega) (by omega) W;have h0:(w.alloc (.cells (madeCells #[.string ⟨#[]⟩] n) 9)).ownsRow w.heap.size 9 1 (.slice (some ⟨w.heap.size,0,none⟩) n n) n (pad [] n):=by refine⟨by simp[pad],.inr ⟨w.heap.size,n,_,rfl,le_refl _,heap_alloc_last w _,le_refl _,by unfold maxLen;omega,by rw[size_madeCells];simp,?_⟩⟩;rw[Hf];simp[pad]
 have H0:=hid h0;clear h0 hP hb;go_enter func112,ntmps112;go_wp2_with fail
 go_loopw [13] (fun v13 wr=>∃(k:Nat) (ts:List ByteArray),k<=n/\v13=.int .i64 k/\Hid (ts.length=k)/\Hid (bS (xs.take k) ts)/\Hid (wr.ownsRow w.heap.size 9 1 (.slice (some ⟨w.heap.size,0,none⟩) n n) n (pad ts n))/\Hid (Below w.heap.size w wr)) (fun v13 _=>n - (intOf v13).toNat)
 case atStart=>exact⟨0,[],zero_le _,rfl,rfl,bS.nil,H0,(Below.refl _ w).alloc (le_refl _) _⟩
 case round =>
  obtain⟨k,ts,hk,rfl,HTL,HPT,HR,HBE⟩:=hrel;by_cases hlt:k<n
  ·have hkx:k<xs.length:=by rw[<-HL.out];exact hlt
   have HT:=hid (Ou xs k hkx);have hb:=HB.out _ (getElem_mem hkx);have HMEM:=hid (getElem_mem hkx);obtain⟨g1,rfl,hc1,-⟩:=fX HP.out.out k hlt;obtain⟨g2,rfl,hc2,-⟩:=fX HP.out.flt k hlt;have hel:=HP.out.els.2 k (by rw[length_map];exact hkx);rw[getElem?_map,getElem?_eq_getElem hkx]at hel hc2;replace hel:El w (vs[k]?.getD undef) xs[k].1:=hel;replace hc2:w.cell? ⟨g2,k,none⟩=some (.int .u16 xs[k].2):=hc2;obtain⟨ae,ce,hue⟩:=pU hel;rw[hue]at hc1 hel;obtain⟨⟨lk,fk⟩,hlf⟩:∃ y,xs[k]=y:=⟨_,rfl⟩;rw[hlf]at hc2 hel hc1 hb HT HMEM;simp only at hc2 hel hc1 hb;obtain⟨q,hq⟩:=Ex' lk.length;have HQ:=hid hq;rw[hq]at hc1 hel hb;obtain⟨⟨hb0,hb1⟩,hb2,hb3⟩:=hb;have HEL:=hid (hel.below HBE.out);have HSC:=hid hb3;have d1:wr.cell? ⟨g1,k,none⟩=some (.slice ae q ce):=(HBE.out.cell (p:=⟨g1,k,none⟩) (U.lt_of_cell hc1)).trans hc1;have d2:wr.cell? ⟨g2,k,none⟩=some (.int .u16 fk):=(HBE.out.cell (p:=⟨g2,k,none⟩) (U.lt_of_cell hc2)).trans hc2;have z1:=HBE.out.size;clear hel hue hlf hq hc1 hc2 hb3;by_cases hf0:fk=0
   ·subst hf0;by_cases hpp:∃ p,Part lk p
    ·have HW:=hid (ub _ lk wr (by rw[HQ.out];omega) HSC.out HEL.out hpp);clear hpp
     go_upto_region 7 with fail
     go_wp2_with(go_at_call 167;refine HW.out.mono ?_;rintro e w2 ⟨⟨t,rfl,hpt⟩,B2⟩;have HPT2:=hid hpt;have HB2:=Bt' HBE B2;have HR2:=hid (U.ax HR.out B2 (le_refl _));have hcw:=(HR2.out.cellAt k (by omega));rw[Ll ts n k HTL.out hlt]at hcw;obtain⟨gw,ew,-,hfw⟩:=fX HR2.out k hlt;cases ew;clear hpt B2);have hst:=HR2.out.stored k (.string t);rw[Lk ts n k HTL.out hlt]at hst;have HST:=hid hst;clear hst
     go_roundw
     case rel =>
      refine⟨k+1,ts++[t],by omega,by go_num,by show _=_;rw[length_append,HTL.out];rfl,?_,HST.out.1,HB2.out.setCell (p:=⟨w.heap.size,k,none⟩) (le_refl _) _⟩;show bS _ _;rw[HT.out];exact HPT.out.snoc rfl HPT2.out
     case measure=>simp[intOf];omega
    ·have HW:=hid (xw _ lk wr (by rw[HQ.out];omega) HSC.out HEL.out hpp);have HNO:=hid hpp;clear hpp;go_wp2_with(go_at_call 167;refine HW.out.mono ?_;rintro e w2 ⟨rfl,B2⟩);exact⟨rfl,.inr ⟨⟨_,HMEM.out,.inr HNO.out⟩,rfl⟩,HBE.out.trans (B2.mono HBE.out.size)⟩
   ·have hfb:(fk != 0)=true:=by simpa using hf0
    have hfc:(fk==0)=false:=by simpa using hf0
    go_wp2;exact⟨rfl,.inr ⟨⟨_,HMEM.out,.inl hf0⟩,rfl⟩,HBE.out⟩
  ·obtain rfl:k=n:=by omega
   have hkk:xs.take k=xs:=take_of_length_le (by rw[<-HL.out];exact le_refl _);rw[hkk]at HPT;rw[Gl ts k HTL.out]at HR;go_wp2;go_ret;exact⟨.inl ⟨ts,k,HPT.out,rfl,HR.out⟩,HBE.out⟩
theorem bz{W:World}{B B':Nat}{t t':TypeId}{v x:Value}(h:Boxed W B t v)(h':Boxed W B' t' x)(ht:t≠t')(u:Value):Boxed (W.setCell ⟨B',0,none⟩ u) B t v :=
 h.other (fun e=>by subst e;have h1:W.heap[B]? = _:=h;have h2:W.heap[B]? = _:=h';rw[h1]at h2;cases h2;exact ht rfl) u
theorem mJ(B Bn Be:Nat)(b1:B<=Bn)(b2:B<=Be)(x:ByteArray)(y r:Int)(w:World)(hn:Boxed w Bn 9 (.string x))(he:Boxed w Be 30 (.int .i64 y)):
  CallsD prog 111 #[.pointer (some ⟨Bn,0,none⟩),.pointer (some ⟨Be,0,none⟩)] (.panicking (gA r)) w fun e u' w' =>
   e=.returned (.tuple #[])/\u'=.panicking [{ v:=.iface 134 (.agg #[.int .i64 r]),recovered:=true }]/\Boxed w' Bn 9 (.string ⟨#[]⟩)/\Boxed w' Be 30 (.int .i64 r)/\Below B w w':=by
 have c1:=hn.cell;have f1:=hn.frozen;have c2:=he.cell;have f2:=he.frozen;unfold gA;refine callsD_of_wpS func111 rfl fun c₀ cs hu=>?_;apply wpS_seq;apply wpS_region;simp[wpOpsS,go_sem,recoverD,hu,ntmps111,Exit.thenS];refine wpS_of_wp ?_;have hta:∀ W,(Instr.typeAssert (.iface 134 (.agg #[.int .i64 r])) 20 134 false).run prog W=.ok (.agg #[.int .i64 r]) W:=fun W=>by kernel_rfl
 have hfd:∀ W,(Instr.field 134 (.agg #[.int .i64 r]) 0).run prog W=.ok (.int .i64 r) W:=fun W=>by kernel_rfl
 simp only[replicate_succ,replicate_zero,push_toArray,append_toArray,nil_append,cons_append,List.setIfInBounds_toArray,List.set_cons_zero,List.set_cons_succ];have h5:=(bz he hn (by decide) (.string ⟨#[]⟩)).cell;have h6:=(bz he hn (by decide) (.string ⟨#[]⟩)).frozen;have HN:=hid (bz (hn.set (.string ⟨#[]⟩)) (bz he hn (by decide) (.string ⟨#[]⟩)) (by decide) (.int .i64 r));have HE:=hid ((bz he hn (by decide) (.string ⟨#[]⟩)).set (.int .i64 r));have HB:Hid (Below B w ((w.setCell ⟨Bn,0,none⟩ (.string ⟨#[]⟩)).setCell ⟨Be,0,none⟩ (.int .i64 r))):=((Below.refl B w).setCell (p:=⟨Bn,0,none⟩) b1 _).setCell (p:=⟨Be,0,none⟩) b2 _;go_wp2
 go_region
 have e1:Boxed ((w.setCell ⟨Bn,0,none⟩ (.string ⟨#[]⟩)).setCell ⟨Be,0,none⟩ (.int .i64 r)).drew Bn 9 (.string ⟨#[]⟩):=HN.out;have e2:Boxed ((w.setCell ⟨Bn,0,none⟩ (.string ⟨#[]⟩)).setCell ⟨Be,0,none⟩ (.int .i64 r)).drew Be 30 (.int .i64 r):=HE.out;have e3:=HB.out.drew;obtain⟨V,hV⟩:=Ex' (((w.setCell ⟨Bn,0,none⟩ (.string ⟨#[]⟩)).setCell ⟨Be,0,none⟩ (.int .i64 r)).drew);rw[hV]at e1 e2 e3 ⊢;show bodyPostS prog Tryz.f111 c₀ cs _ Exit.normal _ _ _;simp[bodyPostS,results,results111];exact⟨e1,e2,e3⟩
theorem yZ(Bn Be:Nat)(w:World):
  CallsD prog 111 #[.pointer (some ⟨Bn,0,none⟩),.pointer (some ⟨Be,0,none⟩)] .returning w fun e u' w'=>e=.returned (.tuple #[])/\u'=.returning/\w'=w:=by
 refine callsD_of_wpS func111 rfl fun c₀ cs hu=>?_;apply wpS_seq;apply wpS_region;simp[wpOpsS,go_sem,recoverD,hu,ntmps111,Exit.thenS];refine wpS_of_wp ?_;simp only[replicate_succ,replicate_zero,push_toArray,append_toArray,nil_append,cons_append,List.setIfInBounds_toArray,List.set_cons_zero,List.set_cons_succ];go_wp2;cases c₀;simp_all [bodyPostS,results,results111]
theorem Kt(W:World):(sizeOf (prog.elem 40)).run prog W=.ok 1 W:=by kernel_rfl
theorem Km(g n c m:Nat)(h:m<=c)(W:World):(Instr.slice 40 (.slice (some ⟨g,0,none⟩) n c) none (some (.int .i64 (m:Int))) none).run prog W=.ok (.slice (some ⟨g,0,none⟩) m c) W:=by rw[run_slice_h W 40 (some ⟨g,0,none⟩) n c (by kernel_rfl) .i64 (m:Int) (by omega) (by omega),Kt W];simp only[Result.andThen,sliced,Int.toNat_natCast];congr 1;simp[Addr.add]
def MfR(ps:List (List Int))(e:Ending):Prop:=(¬ me ps/\e=.returned (.tuple #[]))\/(me ps/\e=.panicked (gA 4))
theorem join_len':∀(ls:List (List Int)) (B:Nat),(∀ l∈ls,l.length<=B)->(join ls).length<=ls.length * (B+1):=cU
theorem yd{t:ByteArray}:okl (U.bn t)↔¬ t.size=0/\t.size<=63:=by
 unfold okl;rw[U.aa];constructor
 ·rintro⟨h1,h2⟩;exact⟨fun h=>h1 (List.length_eq_zero_iff.1 (by rw[U.aa];exact h)),h2⟩
 ·rintro⟨h1,h2⟩;exact⟨fun h=>h1 (by rw[<-U.aa,h];rfl),h2⟩
theorem Ex{ps:List (List Int)}{m:Nat}{ts:List ByteArray}(hps:ps=ts.map U.bn)(hm:m<=ts.length):(∀ j,j<m->okl (U.bn (ts[j]?.getD ⟨#[]⟩)))->∀ p∈ps.take m,okl p:=by intro h p hp;obtain⟨j,hj,e⟩:=List.mem_take_iff_getElem.1 hp;subst hps;rw[length_map]at hj;have:=h j (by omega);rw[getElem?_eq_getElem (by omega)]at this;rw[<-e,getElem_map];exact this
theorem vF{ps:List (List Int)}{m:Nat}{ts:List ByteArray}(hps:ps=ts.map U.bn)(hm:m<=ts.length)(k:Nat)(hk:k<m):U.bn (ts[k]?.getD ⟨#[]⟩)∈ps.take m:=by subst hps;rw[getElem?_eq_getElem (by omega)];exact List.mem_take_iff_getElem.2 ⟨k,by rw[length_map];omega,by rw[getElem_map];rfl⟩
theorem mv(g n c:Nat)(ts:List ByteArray)(w:World)(hn:ts.length=n)(hp:0<n)(hnc:n<=c)(hnb:n<=10000)(hb:∀ t∈ts,t.size<=20000)(hc:∀ j,j<n->w.cell? ⟨g,j,none⟩=some (.string (ts[j]?.getD ⟨#[]⟩))):
  Calls prog 114 #[.slice (some ⟨g,0,none⟩) n c] w fun e W'=>MfR (ts.map U.bn) e/\Below w.heap.size w W':=by
 obtain⟨ps,hps⟩:=Ex' (ts.map U.bn);have hpl:ps.length=n:=by rw[<-hps,length_map];exact hn
 have HC:=hid hc;have HTS:=hid hn;have HPS:=hid hps.symm;have HSZ:Hid (∀ j,j<n->(ts[j]?.getD ⟨#[]⟩).size<=20000):=fun j hj=>by rw[getElem?_eq_getElem (show j<ts.length by omega)];exact hb _ (getElem_mem _)
 have HLE:=hid (Hn hpl);have HPN:Hid (ps[n - 1]?.getD []=U.bn (ts[n - 1]?.getD ⟨#[]⟩)):=by show _=_;rw[<-hps,getElem?_map,getElem?_eq_getElem (show n - 1<ts.length by omega)];rfl
 have HJL:Hid (∀ m,m<=n->(join ((ts.take m).map U.bn)).length<=1000000000):=fun m hm=>by
  have h1:=cU ((ts.take m).map U.bn) 20000 (fun l hl=>by
    obtain⟨t,ht,rfl⟩:=List.mem_map.1 hl
    rw[U.aa]
    exact hb t (List.mem_of_mem_take ht))
  rw[length_map,length_take]at h1;have h2:min m ts.length * (20000+1)<=10000 * 20001:=Nat.mul_le_mul (by omega) (by omega);omega
 have HTM:Hid (∀ m,(ts.take m).map U.bn=ps.take m):=fun m=>by rw[<-hps,List.map_take]
 rw[hps];have hcl:=HC.out (n - 1) (by omega);have hszl:=HSZ.out (n - 1) (by omega);obtain⟨tl,htl⟩:=Ex' (ts[n - 1]?.getD ⟨#[]⟩);rw[htl]at hcl HPN hszl;clear hn hps hc hb htl hpl;obtain⟨n1,hn1⟩:=Ex' (n - 1);rw[hn1]at hcl HPN HLE;have HNN:Hid (n=n1+1):=by show _=_;omega
 have hz:(n:Int) - 1=(n1:Int):=by omega
 have hw:IntKind.i64.wrap (n1:Int)=(n1:Int):=by simp[IntKind.wrap,IntKind.bits,IntKind.signed];omega
 have hn1n:n1<n:=by omega
 clear hn1;by_cases hl:rm ps
 focus
  have h1:=HLE.out.1 hl;have HCP:Hid (cps ps=ps.take n1):=by show _=_;unfold cps;rw[if_pos hl];congr 1;have:=congrArg List.length HPS.out;rw[length_map,HTS.out]at this;have:=HNN.out;omega
  have htz:tl.size=0:=by have h2:=h1.2;rw[HPN.out]at h2;rw[<-U.aa,h2];rfl
  have e0:(tl.toList==[])=true:=by rw[gV];exact decide_eq_true htz
  have hn1z:(0:Int)<(n1:Int):=by omega
  have hsl:=fun W=>Km g n c n1 (by omega) W;have HMM:Hid (n1<=n):=Nat.le_of_lt hn1n;have HM0:Hid (0<n1):=by show 0<n1;omega
  clear h1 hl htz HLE HPN hszl;obtain⟨M,rfl⟩:∃ M,M=n1:=⟨_,rfl⟩
 rotate_left
 focus
  have HCP:Hid (cps ps=ps.take n):=by show _=_;unfold cps;rw[if_neg hl,take_of_length_le];have:=congrArg List.length HPS.out;rw[length_map,HTS.out]at this;omega
  have HMM:Hid (n<=n):=le_refl _;have HM0:Hid (0<n):=hp;by_cases hn1:n1=0
  focus
   have hn1z:¬ (0:Int)<(n1:Int):=by omega
   clear hl HLE HPN hszl hn1
  rotate_left
  focus
   have htz:¬ tl.size=0:=fun h=>hl (HLE.out.2 ⟨by omega,by rw[HPN.out];exact List.length_eq_zero_iff.1 (by rw[U.aa];exact h)⟩);have e0:(tl.toList==[])=false:=by rw[gV];exact decide_eq_false htz
   have hn1z:(0:Int)<(n1:Int):=by omega
   clear hl HLE HPN hszl
  all_goals obtain⟨M,rfl⟩:∃ M,M=n:=⟨_,rfl⟩
 all_goals
  go_enter func114,ntmps114;go_wp2_with fail
  go_loop [22] (fun v22=>∃ k:Nat,k<=M/\v22=.int .i64 k/\Hid (∀ j,j<k->okl (U.bn (ts[j]?.getD ⟨#[]⟩)))) (fun v22=>M - (intOf v22).toNat)
  case atStart=>exact⟨0,zero_le _,rfl,(fun j hj=>by omega)⟩
  case round =>
   obtain⟨k,hk,rfl,HA⟩:=hrel;by_cases hlt:k<M
   ·have hck:=HC.out k (by have:=HMM.out;omega);have hsz:=HSZ.out k (by have:=HMM.out;omega);have HIN:=hid (vF HPS.out (m:=M) (by rw[HTS.out];exact HMM.out) k hlt)
    have HS:Hid (okl (U.bn (ts[k]?.getD ⟨#[]⟩))->∀ j,j<k+1->okl (U.bn (ts[j]?.getD ⟨#[]⟩))):=fun h j hj=>by
     by_cases e:j=k
     ·rw[e];exact h
     ·exact HA.out j (by omega)
    obtain⟨t,ht⟩:=Ex' (ts[k]?.getD ⟨#[]⟩);rw[ht]at hck hsz HIN HS;clear ht;by_cases hz:t.size=0
    ·have e1:(t.toList==[])=true:=by rw[gV];exact decide_eq_true hz
     have HBAD:Hid (me ps):=.inl ⟨_,by rw[HCP.out];exact HIN.out,fun h=>(yd.1 h).1 hz⟩;have HZ:=hid hz;clear hz;go_wp2;all_goals exact⟨rfl,.inr ⟨HBAD.out,rfl⟩,Below.refl _ _⟩
    ·have e1:(t.toList==[])=false:=by rw[gV];exact decide_eq_false hz
     by_cases h63:63<t.size
     ·have HBAD:Hid (me ps):=.inl ⟨_,by rw[HCP.out];exact HIN.out,fun h=>by have:=(yd.1 h).2;omega⟩;go_wp2;exact⟨rfl,.inr ⟨HBAD.out,rfl⟩,Below.refl _ _⟩
     ·have HN:=hid (HS.out (yd.2 ⟨hz,by omega⟩));go_wp2;exact⟨⟨k+1,by omega,by go_num,HN⟩,by simp[intOf];omega⟩
   ·have hkM:¬ (k:Int)<(M:Int):=by omega
    have HALL:=hid (Ex HPS.out (m:=M) (by rw[HTS.out];exact HMM.out) (fun j hj=>HA.out j (by omega)));have HJ:=hid (oX g c M (ts.take M) (by rw[length_take,HTS.out];have:=HMM.out;omega) w (fun j hj=>by rw[List.getElem?_take_of_lt hj];exact HC.out j (by have:=HMM.out;omega)) HM0.out (by have:=HMM.out;omega) (by have:=HMM.out;omega) (HJL.out _ HMM.out));rw[HTM.out]at HJ;have hjl:=HJL.out M HMM.out;rw[HTM.out]at hjl;obtain⟨Jn,hJn⟩:=Ex' (join (ps.take M));rw[hJn]at HJ hjl;have HJN:=hid hJn;clear hJn
    go_upto_if 39 with(go_at_call 115;refine HJ.out.mono ?_;rintro e w2 ⟨⟨t,rfl,ht⟩,B2⟩;have hts:t.size=Jn.length:=(by rw[<-ht,U.aa]);have HTS2:=hid hts;have HB2:=hid B2;clear ht B2 hts)
    by_cases h253:253<t.size
    ·have HBAD:Hid (me ps):=.inr (by rw[HCP.out,HJN.out];have:=HTS2.out;omega);go_wp2;exact⟨rfl,.inr ⟨HBAD.out,rfl⟩,HB2.out⟩
    ·have HGOOD:Hid (¬ me ps):=by
      rintro(⟨p,hp,hno⟩ | h)
      ·rw[HCP.out]at hp;exact hno (HALL.out p hp)
      ·rw[HCP.out,HJN.out]at h;have:=HTS2.out;omega
     go_wp2
     go_end0
     exact⟨.inl ⟨HGOOD.out,rfl⟩,HB2.out⟩
attribute [local go_sem] Oper.semAt_some
structure So(w W:World)(B0 Bl Bo:Nat)(v:Value)(l:List Int)(vo:Value)(vs:List Value)(ls:List (List Int)):Prop where
 bx:Bx Bl v l W
 bo:Boxed W Bo 136 vo
 out:W.ownsRow B0 37 1 vo ls.length vs
 els:Els W vs ls
 be:Below w.heap.size w W
 b1:Bl<B0
 b2:w.heap.size<=Bo
 b3:w.heap.size<=B0
 b4:B0<=W.heap.size
theorem iW{W W':World}{base e size n:Nat}{v:Value}{X:List Value}{row:Option Nat}(h:W.ownsRow base e size v n X)(hg:W.grownBy W' row)(hr:∀ r,row=some r->∃ o:Obj,W.heap[r]? = some o/\o.isCells=false):W'.ownsRow base e size v n X:=by
 refine h.kept hg ?_;rcases h.2 with⟨rfl,_⟩ | ⟨g,cap,cur,rfl,_,hgb,_⟩
 ·exact .inl rfl
 ·refine .inr fun e'=>?_;obtain⟨o,ho,hc⟩:=hr g (by simpa[Value.ownBlock]using e'.symm);rw[hgb]at ho;cases ho;cases hc
theorem dH{W:World}{base e size n:Nat}{v:Value}{X:List Value}{B:Nat}{t:TypeId}{x:Value}(h:W.ownsRow base e size v n X)(hb:Boxed W B t x)(ht:t≠e)(v':Value):(W.setCell ⟨B,0,none⟩ v').ownsRow base e size v n X:=by refine h.kept (grownBy_setCell' W B v') ?_;exact .inr fun e'=>hb.not_row ht h (by first | exact e' | exact e'.symm)
theorem Els.other{W W':World}{vs:List Value}{ls:List (List Int)}{row:Option Nat}(h:Els W vs ls)(hg:W.grownBy W' row)(hr:∀ r,row=some r->∃ o:Obj,W.heap[r]? = some o/\o.isCells=false):Els W' vs ls:=⟨h.1,fun i hi=>(h.2 i hi).other hg hr⟩
theorem Els.set{W:World}{vs:List Value}{ls:List (List Int)}{B:Nat}{t:TypeId}{x:Value}(h:Els W vs ls)(hb:Boxed W B t x)(ht:t≠21)(v':Value):Els (W.setCell ⟨B,0,none⟩ v') vs ls:=⟨h.1,fun i hi=>(h.2 i hi).set hb ht v'⟩
theorem So.below{w W W':World}{B0 Bl Bo:Nat}{v vo:Value}{l:List Int}{vs:List Value}{ls:List (List Int)}(h:So w W B0 Bl Bo v l vo vs ls)(hb:Below W.heap.size W W'):So w W' B0 Bl Bo v l vo vs ls :=
 ⟨h.bx.below hb,(hb.block Bo h.bo.lt).trans h.bo,U.ax h.out hb (le_refl _),h.els.below hb,h.be.trans (hb.mono h.be.size),h.b1,h.b2,h.b3,le_trans h.b4 hb.size⟩
theorem So.from_other{w W W':World}{B0 Bl Bo:Nat}{v vo:Value}{l:List Int}{vs:List Value}{ls:List (List Int)}{row:Option Nat}(h:So w W B0 Bl Bo v l vo vs ls)(hg:W.grownBy W' row)(hr:∀ r,row=some r->B0<=r/\∃ o:Obj,W.heap[r]? = some o/\o.isCells=false):So w W' B0 Bl Bo v l vo vs ls :=
 ⟨h.bx.other hg (fun r e=>(hr r e).2),cE h.bo hg (fun r e=>(hr r e).2),iW h.out hg (fun r e=>(hr r e).2),h.els.other hg (fun r e=>(hr r e).2),h.be.grown hg h.be.size (fun k e=>le_trans h.b3 (hr k e).1),h.b1,h.b2,h.b3,le_trans h.b4 hg.size⟩
theorem So.push{w W w1:World}{B0 Bl Bo:Nat}{v vo vo':Value}{l:List Int}{vs:List Value}{ls:List (List Int)}{u:Value}{l':List Int}(h:So w W B0 Bl Bo v l vo vs ls)(hu:El W u l')
  (hown:w1.ownsRow B0 37 1 vo' (ls.length+1) (vs++[u])) (hg:(W.alloc (.cells #[u] 37)).grownBy w1 vo.ownBlock) :
  Boxed w1 Bo 136 vo/\So w (w1.setCell ⟨Bo,0,none⟩ vo') B0 Bl Bo v l vo' (vs++[u]) (ls++[l']):=by
 have ba:=iP W (.cells #[u] 37);have ho:=h.out.alloc (.cells #[u] 37);have hbo:=(h.bo.alloc (.cells #[u] 37)).kept hg ((h.bo.alloc _).not_row (by decide) ho);have hbl:=(h.bx.box.alloc (.cells #[u] 37)).kept hg (fun e=>by have:=(ho.lt Bl e.symm).1;have:=h.b1;omega);have hel:=(h.bx.el.below ba).kept ho (by decide) hg;have hels:=(h.els.below ba).kept ho (by decide) hg;have hu1:=(hu.below ba).kept ho (by decide) hg;have hbe:Below w.heap.size w w1:=(h.be.alloc h.be.size _).grown hg (le_trans h.be.size (by simp)) (fun k e=>le_trans h.b3 (ho.lt k e).1);have hne:Bl≠Bo:=fun e=>by subst e;have h1:w1.heap[Bl]? = _:=hbo;have h2:w1.heap[Bl]? = _:=hbl;rw[h1]at h2;cases h2
 refine⟨hbo,⟨hbl.other hne _,hel.set hbo (by decide) _⟩,hbo.set _,?_,(hels.snoc hu1).set hbo (by decide) _,?_,h.b1,h.b2,h.b3,?_⟩
 ·rw[length_append];exact dH hown hbo (by decide) _
 ·exact hbe.setCell (p:=⟨Bo,0,none⟩) h.b2 _
 ·have h1:=hg.size;have h2:=h.b4;simp at h1 ⊢;omega
theorem An(l:List Int)(n:Nat)(p:Pc n):(lab l p.1).length<=n:=by unfold lab;have:=p.2;simp only[length_take,length_drop];omega
theorem Gc(a:Option Addr)(p:Nat×Nat):∃ a' k c,pcv a p=.slice a' k c:=⟨_,_,_,rfl⟩
theorem mz{W W':World}{base e size n:Nat}{v:Value}{X:List Value}(h:W.ownsRow base e size v n X)(hg:W.grownBy W' v.ownBlock):KeepsOthers W W' :=
 KeepsOthers.of_grownBy hg (fun j o e' ho=>by
   rcases h.2 with⟨rfl,_⟩ | ⟨g,cap,cur,rfl,_,hgb,_⟩
   · simp[Value.ownBlock]at e'
   · have e3:g=j:=by simpa[Value.ownBlock]using e'
     subst e3
     rw[hgb]at ho;cases ho;rfl)
end I
namespace L
theorem rG(r:Int):(0<=r/\r<128/\U.bn (Utf8.encode r)=[r])\/(∃ h t,U.bn (Utf8.encode r)=h::t/\192<=h):=by
 unfold Utf8.encode;simp only;generalize hc:(if Utf8.valid r=true then r.toNat else Utf8.runeError)=c
 have hle:c<=1114111:=by
  rw[<-hc];split
  ·rename_i h;simp[Utf8.valid]at h;omega
  ·decide
 by_cases h1:c<128
 ·left
  have hv:Utf8.valid r=true:=by
   by_cases hv:Utf8.valid r=true
   ·exact hv
   ·rw[if_neg hv]at hc;have:Utf8.runeError=65533:=rfl;omega
  rw[if_pos hv]at hc;have h0:0<=r:=by simp[Utf8.valid]at hv;omega
  refine⟨h0,by omega,?_⟩;rw[if_pos h1];show [((UInt8.ofNat c).toNat:Int)]=[r];rw[UInt8.toNat_ofNat',mod_eq_of_lt (by omega)];congr 1;omega
 ·right;rw[if_neg h1];split
  ·exact⟨((UInt8.ofNat (192+c / 64)).toNat:Int),_,rfl,by rw[UInt8.toNat_ofNat',mod_eq_of_lt (by omega)];omega⟩
  ·split
   ·exact⟨((UInt8.ofNat (224+c / 4096)).toNat:Int),_,rfl,by rw[UInt8.toNat_ofNat',mod_eq_of_lt (by omega)];omega⟩
   ·exact⟨((UInt8.ofNat (240+c / 262144)).toNat:Int),_,rfl,by rw[UInt8.toNat_ofNat',mod_eq_of_lt (by omega)];omega⟩
theorem Aq:∀(ns:List Int) (s:ByteArray),U.bn (ns.foldl (fun r n=>r++Utf8.encode n) s)=U.bn s++ns.flatMap fun r=>U.bn (Utf8.encode r)
 | [],s=>by simp
 | a::l,s=>by rw[List.foldl_cons,Aq l,U.aO,List.flatMap_cons,append_assoc]
theorem uI(ns:List Int):U.bn (runesBytes ns)=ns.flatMap fun r=>U.bn (Utf8.encode r):=by unfold runesBytes;rw[Aq];rfl
theorem pM:∀(ns T:List Int),(∀ c∈T,c<128)->(ns.flatMap fun r=>U.bn (Utf8.encode r))=T->ns=T
 | [],T,_,h=>by simpa using h
 | a::l,T,hT,h=>by
  rw[List.flatMap_cons]at h;rcases rG a with⟨h0,h1,h2⟩ | ⟨x,t,h2,h3⟩
  ·rw[h2]at h;cases T with
   | nil=>simp at h
   | cons y T =>
    simp only[cons_append,nil_append,List.cons.injEq]at h;rw[h.1,pM l T (fun c hc=>hT c (by simp[hc])) h.2]
  ·rw[h2]at h;cases T with
   | nil=>simp at h
   | cons y T =>
    simp only[cons_append,List.cons.injEq]at h;have:=hT y (by simp);omega
theorem qj:∀(ns:List Int),(∀ c∈ns,0<=c/\c<128)->(ns.flatMap fun r=>U.bn (Utf8.encode r))=ns
 | [],_=>rfl
 | a::l,h=>by
  rw[List.flatMap_cons,qj l (fun c hc=>h c (by simp[hc]))];rcases rG a with⟨h0,h1,h2⟩ | ⟨x,t,h2,h3⟩
  ·rw[h2];rfl
  ·have h1:=h a (by simp);exfalso;have hv:Utf8.valid a=true:=by simp[Utf8.valid];omega
   unfold Utf8.encode at h2;simp only[hv,if_true,if_pos (show a.toNat<128 by omega)]at h2;have e:U.bn ⟨#[UInt8.ofNat a.toNat]⟩=[((UInt8.ofNat a.toNat).toNat:Int)]:=rfl;rw[e,UInt8.toNat_ofNat',mod_eq_of_lt (by omega)]at h2;simp only[List.cons.injEq]at h2;omega
def xn:ByteArray:=⟨#[120,110,45,45]⟩
theorem NZ:U.bn xn=[120,110,45,45]:=rfl
theorem Oi(ns:List Int):(runesBytes ns=xn)↔ns=[120,110,45,45]:=by
 constructor
 ·intro h;have h2:=congrArg U.bn h;rw[uI,NZ]at h2;exact pM ns _ (by decide) h2
 ·rintro rfl;apply U.bC;rw[uI,NZ];exact qj _ (by decide)
theorem Kv(W:World):(sizeOf (prog.elem 37)).run prog W=.ok 1 W:=by kernel_rfl
theorem Ld(L:List Int)(h:¬ 4<=L.length):dr L=false:=by unfold dr;apply decide_eq_false;intro e;have:=congrArg List.length e;rw[length_take]at this;simp at this;omega
theorem JR(t:ByteArray):(t.toList==[120,110,45,45])=decide (t=xn):=by
 rw[Bool.eq_iff_iff,beq_iff_eq,decide_eq_true_eq,Go.ByteArray.toList_eq];constructor
 ·intro h;exact Go.WideShapes.bytes_inj h
 ·rintro rfl;rfl
theorem OM(B:Nat)(v:Value)(L:List Int)(w:World)(hlen:L.length<=10000)(hb:Boxed w B 37 v)(hv:U.aB w v L)(hcap:∀ a n c,v=.slice a n c->n<=c):
  Calls prog 270 #[.pointer (some ⟨B,0,none⟩)] w fun e W'=>e=.returned (.bool (dr L))/\Below w.heap.size w W':=by
 obtain⟨a,c,rfl,hf⟩:=aJ hv;have hc:=hb.cell;have hcp:=hcap _ _ _ rfl;by_cases h4:4<=L.length
 ·obtain⟨b,off,rfl,hcc⟩:=hf (by omega);have hsl:∀ W,(Instr.slice 37 (.slice (some ⟨b,off,none⟩) L.length c) none (some (.int .i64 4)) none).run prog W=.ok (.slice (some ⟨b,off,none⟩) 4 c) W:=fun W=>by rw[run_slice_h W 37 (some ⟨b,off,none⟩) L.length c (by kernel_rfl) .i64 4 (by omega) (by omega),Kv W];simp only[Result.andThen,sliced];split <;> simp[Addr.add]
  have hcv:(convert 37 9 (.slice (some ⟨b,off,none⟩) 4 c)).run prog w=.ok (.string (runesBytes (L.take 4))) w :=
   run_convert_runes w 37 9 21 ⟨b,off,none⟩ 4 c L h4 underlying37 underlying21 underlying9 (fun j hj=>by
     rw[Addr.add_lit,hcc j hj,List.getD_eq_getElem?_getD])
  have HP:Hid (dr L=decide (runesBytes (L.take 4)=xn)):=by show _=_;unfold dr;exact decide_eq_decide.2 (Oi _).symm
  obtain⟨t,ht⟩:=Ex' (runesBytes (L.take 4));rw[ht]at hcv HP;obtain⟨R,hR⟩:=Ex' (dr L);rw[hR]at HP ⊢;obtain⟨n,hn⟩:=Ex' L.length;rw[hn]at hc h4 hlen hsl hcp;have h4z:(4:Int)<=(n:Int):=by omega
  clear ht hR hn hb hv hf hcc hcap;go_enter func270,ntmps270;go_wp2;go_ret;refine⟨?_,Below.refl _ _⟩;rw[HP.out,<-JR t];rfl
 ·have hcn:∃ z,L.length=z:=⟨_,rfl⟩;rw[Ld L h4];obtain⟨n,hn⟩:=hcn;rw[hn]at hc h4 hlen;have h4z:¬ (4:Int)<=(n:Int):=by omega
  clear hn hb hv hf hcap hcp;go_enter func270,ntmps270;go_wp2;go_ret;exact⟨rfl,Below.refl _ _⟩
def pt(b:Nat):Value:=.pointer (some ⟨b,0,none⟩)
def ox(Bl Bh Bf Bz:Nat):Array Value :=
 #[.int .u16 1,.func (.func 266) #[] #[pt Bl],.int .u16 2,.func (.func 268) #[] #[pt Bh,pt Bl],.int .u16 4,.func (.func 269) #[] #[pt Bh,pt Bf,pt Bz],
   .int .u16 8,.func (.func 270) #[] #[pt Bl],.int .u16 16,.func (.func 271) #[] #[pt Bl],.int .u16 32,.func (.func 273) #[] #[pt Bf],
   .int .u16 64,.func (.func 275) #[] #[pt Bl],.int .u16 128,.func (.func 277) #[] #[pt Bl]]
structure Qs(W:World)(g Bl Bh Bf Bz:Nat)(v:Value)(hy:Bool)(x y:Int):Prop where
 row:W.heap[g]? = some (.cells (ox Bl Bh Bf Bz) 251 (0,0))
 l:Boxed W Bl 37 v
 h:Boxed W Bh 4 (.bool hy)
 f:Boxed W Bf 21 (.int .i32 x)
 z:Boxed W Bz 21 (.int .i32 y)
structure qv(w W:World)(Bl Bh Bf Bz:Nat)(v:Value)(hy:Bool)(x y:Int):Prop where
 l:Boxed W Bl 37 v
 h:Boxed W Bh 4 (.bool hy)
 f:Boxed W Bf 21 (.int .i32 x)
 z:Boxed W Bz 21 (.int .i32 y)
 be:Below w.heap.size w W
theorem gX{W:World}{B:Nat}{t:TypeId}{v:Value}(h:Boxed W B t v):Boxed W.drew B t v:=h
theorem zd{w W:World}{n:Nat}(h:Below n w W):Below n w W.drew:=⟨h.os,h.tape,h.output,h.size,h.block⟩
theorem qv.new1{w W:World}{Bl Bh:Nat}{v:Value}{hy:Bool}{x y:Int}(hl:Boxed W Bl 37 v)(hh:Boxed W Bh 4 (.bool hy))(hB:Below w.heap.size w W):
  qv w ((W.alloc (.cells #[.int .i32 x] 21)).alloc (.cells #[.int .i32 y] 21)).drew Bl Bh W.heap.size (W.heap.size+1) v hy x y:=by
 have b1:=Boxed.new W 21 (.int .i32 x);have b2:=Boxed.new (W.alloc (.cells #[.int .i32 x] 21)) 21 (.int .i32 y);rw[size_alloc]at b2;exact⟨gX ((hl.alloc _).alloc _),gX ((hh.alloc _).alloc _),gX (b1.alloc _),gX b2,zd ((hB.alloc hB.size _).alloc (le_trans hB.size (by simp)) _)⟩
theorem qv.new2{w W:World}{Bl Bh:Nat}{v:Value}{hy:Bool}{x y:Int}(hl:Boxed W Bl 37 v)(hh:Boxed W Bh 4 (.bool hy))(hB:Below w.heap.size w W):
  qv w ((W.alloc (.cells #[.int .i32 y] 21)).alloc (.cells #[.int .i32 x] 21)).drew Bl Bh (W.heap.size+1) W.heap.size v hy x y :=
 let h:=qv.new1 (x:=y) (y:=x) hl hh hB
 ⟨h.l,h.h,h.z,h.f,h.be⟩
theorem qv.qs{w W:World}{Bl Bh Bf Bz:Nat}{v:Value}{hy:Bool}{x y:Int}(h:qv w W Bl Bh Bf Bz v hy x y):
  Qs (W.alloc (.cells (ox Bl Bh Bf Bz) 251)) W.heap.size Bl Bh Bf Bz v hy x y :=
 ⟨World.alloc_heap_new W _,h.l.alloc _,h.h.alloc _,h.f.alloc _,h.z.alloc _⟩
theorem qB(v:Value)(hy:Bool)(L:List Int)(w:World)(hp:0<L.length)(hlen:L.length<=10000)(hv:U.aB w v L):
  Calls prog 238 #[v,.bool hy] w fun e W'=>(∃ g Bl Bh Bf Bz,e=.returned (.slice (some ⟨g,0,none⟩) 8 8)/\Qs W' g Bl Bh Bf Bz v hy (L[0]?.getD 0) (L[L.length - 1]?.getD 0))/\Below w.heap.size w W':=by
 obtain⟨a,c,rfl,hf⟩:=aJ hv;obtain⟨b,off,rfl,hcc⟩:=hf hp;have h0:=hcc 0 hp;have h1:=hcc (L.length - 1) (by omega);obtain⟨x,hx⟩:=Ex' (L[0]?.getD 0);obtain⟨y,hyy⟩:=Ex' (L[L.length - 1]?.getD 0);rw[hx]at h0;rw[hyy]at h1;rw[hx,hyy];obtain⟨m,hm⟩:=Ex' (L.length - 1);obtain⟨n,hn⟩:=Ex' L.length;have em:(n:Int) - 1=(m:Int):=by omega
 rw[hm]at h1;rw[hn]at hp hlen ⊢;have hlb:b<w.heap.size:=U.lt_of_cell h0;have hm1:m<n:=by omega
 rw[Nat.add_zero]at h0;clear hx hyy hm hn hv hf hcc;go_enter func238,ntmps238;go_wp2_with fail;have hsz:((w.alloc (.cells #[.slice (some ⟨b,off,none⟩) n c] 37)).alloc (.cells #[.bool hy] 4)).heap.size=w.heap.size+2:=by simp only[size_alloc]
 have bl:Boxed ((w.alloc (.cells #[.slice (some ⟨b,off,none⟩) n c] 37)).alloc (.cells #[.bool hy] 4)) w.heap.size 37 (.slice (some ⟨b,off,none⟩) n c):=(Boxed.new w _ _).alloc _
 have bh:Boxed ((w.alloc (.cells #[.slice (some ⟨b,off,none⟩) n c] 37)).alloc (.cells #[.bool hy] 4)) (w.heap.size+1) 4 (.bool hy):=by
  have:=Boxed.new (w.alloc (.cells #[.slice (some ⟨b,off,none⟩) n c] 37)) 4 (.bool hy)
  rwa [size_alloc]at this
 have hB2:Below w.heap.size w ((w.alloc (.cells #[.slice (some ⟨b,off,none⟩) n c] 37)).alloc (.cells #[.bool hy] 4)):=((Below.refl _ w).alloc (le_refl _) _).alloc (by simp) _;obtain⟨w2,hw2⟩:=Ex' (((w.alloc (.cells #[.slice (some ⟨b,off,none⟩) n c] 37)).alloc (.cells #[.bool hy] 4)));rw[hw2]at hsz bl bh hB2 ⊢;have d0:w2.cell? ⟨b,off,none⟩=some (.int .i32 x):=(hB2.cell (p:=⟨b,off,none⟩) hlb).trans h0;have d1:w2.cell? ⟨b,off+m,none⟩=some (.int .i32 y):=(hB2.cell (p:=⟨b,off+m,none⟩) hlb).trans h1;have dl:=bl.cell;clear h0 h1 hw2;have HSZ:=hid hsz;clear hsz;have hnz:(0:Int)<(n:Int):=by omega
 have hwm:IntKind.i64.wrap (m:Int)=(m:Int):=by rw[IntKind.wrap_i64];omega
 have hll:w.heap.size<w2.heap.size:=by have:=HSZ.out;omega
 have hlb2:b<w2.heap.size:=by have:=HSZ.out;omega
 have ca:∀(o:Obj) (p:Addr) (z:Value),p.block<w2.heap.size->w2.cell? p=some z->(w2.alloc o).cell? p=some z:=fun o p z h1 h2=>(((Below.refl w2.heap.size w2).alloc (le_refl _) o).cell (p:=p) h1).trans h2;have cb:∀(o o':Obj) (p:Addr) (z:Value),p.block<w2.heap.size->w2.cell? p=some z->((w2.alloc o).alloc o').cell? p=some z:=fun o o' p z h1 h2=>((((Below.refl w2.heap.size w2).alloc (le_refl _) o).alloc (by simp) o').cell (p:=p) h1).trans h2;have la:∀ o,(w2.alloc o).cell? ⟨w.heap.size,0,none⟩=some (.slice (some ⟨b,off,none⟩) n c):=fun o=>ca o _ _ hll dl;have lb:∀ o o',((w2.alloc o).alloc o').cell? ⟨w.heap.size,0,none⟩=some (.slice (some ⟨b,off,none⟩) n c):=fun o o'=>cb o o' _ _ hll dl;have xa:∀ o,(w2.alloc o).cell? ⟨b,off,none⟩=some (.int .i32 x):=fun o=>ca o _ _ hlb2 d0;have xb:∀ o o',((w2.alloc o).alloc o').cell? ⟨b,off,none⟩=some (.int .i32 x):=fun o o'=>cb o o' _ _ hlb2 d0;have ya:∀ o,(w2.alloc o).cell? ⟨b,off+m,none⟩=some (.int .i32 y):=fun o=>ca o _ _ hlb2 d1;have yb:∀ o o',((w2.alloc o).alloc o').cell? ⟨b,off+m,none⟩=some (.int .i32 y):=fun o o'=>cb o o' _ _ hlb2 d1;have BL:=hid bl;have BH:=hid bh;have HB2:=hid hB2;clear ca cb bl bh hB2 hll hlb2
 go_region
 ·obtain⟨w3,hw3⟩:=Ex' (((w2.alloc (.cells #[.int .i32 x] 21)).alloc (.cells #[.int .i32 y] 21)).drew);have hq:qv w w3 w.heap.size (w.heap.size+1) (w2.heap.size) (w2.heap.size+1) (.slice (some ⟨b,off,none⟩) n c) hy x y:=by rw[<-hw3];exact qv.new1 BL.out BH.out HB2.out
  have HQ:=hid hq;rw[hw3];generalize w2.heap.size=Bf at HQ ⊢;generalize w2.heap.size+1=Bz at HQ ⊢;clear hw3 hq la lb xa xb ya yb d0 d1 dl;go_wp2_with((refine D.wpList_buildSlice rfl 248 8 _ rfl 251 underlying248 2 sizeOfQ _ zeroOfQ (by omega) (by omega) (ox w.heap.size (w.heap.size+1) Bf Bz) (by rfl) ?_));go_ret;exact⟨⟨w3.heap.size,_,_,_,_,rfl,HQ.out.qs⟩,HQ.out.be.alloc HQ.out.be.size _⟩
 ·obtain⟨w3,hw3⟩:=Ex' (((w2.alloc (.cells #[.int .i32 y] 21)).alloc (.cells #[.int .i32 x] 21)).drew);have hq:qv w w3 w.heap.size (w.heap.size+1) (w2.heap.size+1) (w2.heap.size) (.slice (some ⟨b,off,none⟩) n c) hy x y:=by rw[<-hw3];exact qv.new2 BL.out BH.out HB2.out
  have HQ:=hid hq;rw[hw3];generalize w2.heap.size+1=Bf at HQ ⊢;generalize w2.heap.size=Bz at HQ ⊢;clear hw3 hq la lb xa xb ya yb d0 d1 dl;go_wp2_with((refine D.wpList_buildSlice rfl 248 8 _ rfl 251 underlying248 2 sizeOfQ _ zeroOfQ (by omega) (by omega) (ox w.heap.size (w.heap.size+1) Bf Bz) (by rfl) ?_));go_ret;exact⟨⟨w3.heap.size,_,_,_,_,rfl,HQ.out.qs⟩,HQ.out.be.alloc HQ.out.be.size _⟩
theorem Ph:∀ k:Fin 8,∀ s:Fin 128,s.val<2 ^ k.val->bits .or .u16 (s.val:Int) (2 ^ k.val)=(s.val:Int)+2 ^ k.val:=by decide +kernel
theorem sj:∀(l:List Bool) (i:Nat) (b:Bool),sm i (l++[b])=sm i l+bt b (2 ^ (i+l.length))
 | [],i,b=>by simp[sm]
 | a::l,i,b=>by rw[cons_append,sm,sm,sj l (i+1) b,length_cons,show i+1+l.length=i+(l.length+1) by omega];omega
theorem Qs.below{W W':World}{g Bl Bh Bf Bz:Nat}{v:Value}{hy:Bool}{x y:Int}(h:Qs W g Bl Bh Bf Bz v hy x y)(hB:Below W.heap.size W W'):Qs W' g Bl Bh Bf Bz v hy x y :=
 ⟨(hB.block g (Array.getElem?_eq_some_iff.1 h.row).1).trans h.row,(hB.block _ h.l.lt).trans h.l,(hB.block _ h.h.lt).trans h.h,(hB.block _ h.f.lt).trans h.f,(hB.block _ h.z.lt).trans h.z⟩
theorem Qs.alloc{W:World}{g Bl Bh Bf Bz:Nat}{v:Value}{hy:Bool}{x y:Int}(h:Qs W g Bl Bh Bf Bz v hy x y)(o:Obj):Qs (W.alloc o) g Bl Bh Bf Bz v hy x y:=h.below ((Below.refl _ W).alloc (le_refl _) o)
theorem Qs.cell{W:World}{g Bl Bh Bf Bz:Nat}{v:Value}{hy:Bool}{x y:Int}(h:Qs W g Bl Bh Bf Bz v hy x y)(i:Nat)(z:Value)(hz:(ox Bl Bh Bf Bz)[i]? = some z):W.cell? ⟨g,i,none⟩=some z:=by simp[World.cell?,h.row,hz]
structure Sm(Q:List Bool)(k:Nat)(s:Int):Prop where
 eq:s=sm 0 (Q.take k)
 lo:0<=s
 hi:s<2 ^ k
theorem Sm.yes{Q:List Bool}{k:Nat}{s:Int}(h:Sm Q k s)(hk:k<8)(hq:Q[k]? = some true):Sm Q (k+1) (bits .or .u16 s (2 ^ k)):=by
 have hkl:k<Q.length:=(List.getElem?_eq_some_iff.1 hq).1
 have hlt:s<128:=by
  have h1:=h.hi
  have h2:(2:Int) ^ k<=2 ^ 7:=by
   have:=Nat.pow_le_pow_right (show 0<2 by omega) (show k<=7 by omega)
   exact_mod_cast this
  have e7:(2:Int) ^ 7=128:=by decide
  omega
 obtain⟨m,rfl⟩:∃ m:Nat,s=m:=⟨s.toNat,by have:=h.lo;omega⟩;have hm:m<2 ^ k:=by have:=h.hi;exact_mod_cast this
 have e:=Ph ⟨k,hk⟩ ⟨m,by omega⟩ hm;simp only at e;have ep:(2:Int) ^ (k+1)=2 ^ k+2 ^ k:=by rw[Int.pow_succ];omega
 have hq':Q[k]=true:=(List.getElem?_eq_some_iff.1 hq).2;refine⟨?_,?_,?_⟩
 ·rw[e,h.eq,List.take_succ_eq_append_getElem hkl,sj,length_take,hq',Nat.min_eq_left (by omega),zero_add];rfl
 ·rw[e];have:(0:Int)<2 ^ k:=Int.pow_pos (by omega);omega
 ·rw[e,ep];have:=h.hi;omega
theorem Sm.no{Q:List Bool}{k:Nat}{s:Int}(h:Sm Q k s)(hq:Q[k]? = some false):Sm Q (k+1) s:=by
 have hkl:k<Q.length:=(List.getElem?_eq_some_iff.1 hq).1;have hq':Q[k]=false:=(List.getElem?_eq_some_iff.1 hq).2;have ep:(2:Int) ^ (k+1)=2 ^ k+2 ^ k:=by rw[Int.pow_succ];omega
 refine⟨?_,h.lo,?_⟩
 ·rw[List.take_succ_eq_append_getElem hkl,sj,hq',<-h.eq];simp[bt]
 ·have:=h.hi;have:(0:Int)<2 ^ k:=Int.pow_pos (by omega);omega
structure Sb(w:World)(L:List Int)(hy:Bool)(v:Value)(g Bl Bh Bf Bz:Nat):Prop where
 a1:∀ W,Qs W g Bl Bh Bf Bz v hy (L[0]?.getD 0) (L[L.length - 1]?.getD 0)->Below w.heap.size w W->Calls prog 266 #[.pointer (some ⟨Bl,0,none⟩)] W fun e W'=>e=.returned (.bool ((qs L hy)[0]?.getD false))/\Below W.heap.size W W'
 a2:∀ W,Qs W g Bl Bh Bf Bz v hy (L[0]?.getD 0) (L[L.length - 1]?.getD 0)->Below w.heap.size w W->Calls prog 268 #[.pointer (some ⟨Bh,0,none⟩),.pointer (some ⟨Bl,0,none⟩)] W fun e W'=>e=.returned (.bool ((qs L hy)[1]?.getD false))/\Below W.heap.size W W'
 a3:∀ W,Qs W g Bl Bh Bf Bz v hy (L[0]?.getD 0) (L[L.length - 1]?.getD 0)->Below w.heap.size w W->Calls prog 269 #[.pointer (some ⟨Bh,0,none⟩),.pointer (some ⟨Bf,0,none⟩),.pointer (some ⟨Bz,0,none⟩)] W fun e W'=>e=.returned (.bool ((qs L hy)[2]?.getD false))/\Below W.heap.size W W'
 a4:∀ W,Qs W g Bl Bh Bf Bz v hy (L[0]?.getD 0) (L[L.length - 1]?.getD 0)->Below w.heap.size w W->Calls prog 270 #[.pointer (some ⟨Bl,0,none⟩)] W fun e W'=>e=.returned (.bool ((qs L hy)[3]?.getD false))/\Below W.heap.size W W'
 a5:∀ W,Qs W g Bl Bh Bf Bz v hy (L[0]?.getD 0) (L[L.length - 1]?.getD 0)->Below w.heap.size w W->Calls prog 271 #[.pointer (some ⟨Bl,0,none⟩)] W fun e W'=>e=.returned (.bool ((qs L hy)[4]?.getD false))/\Below W.heap.size W W'
 a6:∀ W,Qs W g Bl Bh Bf Bz v hy (L[0]?.getD 0) (L[L.length - 1]?.getD 0)->Below w.heap.size w W->Calls prog 273 #[.pointer (some ⟨Bf,0,none⟩)] W fun e W'=>e=.returned (.bool ((qs L hy)[5]?.getD false))/\Below W.heap.size W W'
 a7:∀ W,Qs W g Bl Bh Bf Bz v hy (L[0]?.getD 0) (L[L.length - 1]?.getD 0)->Below w.heap.size w W->Calls prog 275 #[.pointer (some ⟨Bl,0,none⟩)] W fun e W'=>e=.returned (.bool ((qs L hy)[6]?.getD false))/\Below W.heap.size W W'
 a8:∀ W,Qs W g Bl Bh Bf Bz v hy (L[0]?.getD 0) (L[L.length - 1]?.getD 0)->Below w.heap.size w W->Calls prog 277 #[.pointer (some ⟨Bl,0,none⟩)] W fun e W'=>e=.returned (.bool ((qs L hy)[7]?.getD false))/\Below W.heap.size W W'
theorem asks(w:World)(L:List Int)(hy:Bool)(v:Value)(g Bl Bh Bf Bz:Nat)(hlen:L.length<=10000)(hv:N.bR w v L)(hcap:∀ a n c,v=.slice a n c->n<=c):Sb w L hy v g Bl Bh Bf Bz:=by have hI:U.aB w v L:=N.xx hv;exact⟨fun W hQ hB=>OP Bl v L W hlen hQ.l (hv.below hB),fun W hQ hB=>OO Bl Bh v hy L W hlen hQ.l hQ.h (hI.below hB (le_refl _)),fun W hQ hB=>ON Bh Bf Bz hy _ _ W hQ.h hQ.f hQ.z,fun W hQ hB=>OM Bl v L W hlen hQ.l (hI.below hB (le_refl _)) hcap,fun W hQ hB=>OL Bl v L W hlen hQ.l (hI.below hB (le_refl _)),fun W hQ hB=>OK Bf _ W hQ.f,fun W hQ hB=>OJ Bl v L W hlen hQ.l (hI.below hB (le_refl _)),fun W hQ hB=>OI Bl v L W hlen hQ.l (hI.below hB (le_refl _))⟩
theorem wI(v:Value)(hy:Bool)(L:List Int)(w:World)(hp:0<L.length)(hlen:L.length<=10000)(hv:N.bR w v L)(hcap:∀ a n c,v=.slice a n c->n<=c):
  Calls prog 211 #[v,.bool hy] w fun e W'=>e=.returned (.int .u16 (sm 0 (qs L hy)))/\Below w.heap.size w W':=by
 have hI:U.aB w v L:=N.xx hv;have HQ:=hid (qB v hy L w hp hlen hI);have HA:=hid (fun g Bl Bh Bf Bz=>asks w L hy v g Bl Bh Bf Bz hlen hv hcap);obtain⟨a,c,rfl,-⟩:=aJ hI;obtain⟨x,hx⟩:=Ex' (L[0]?.getD 0);obtain⟨y,hyy⟩:=Ex' (L[L.length - 1]?.getD 0);have HA2:Hid (∀ g Bl Bh Bf Bz,Sb w L hy (.slice a L.length c) g Bl Bh Bf Bz):=HA.out;obtain⟨Q,hQ⟩:=Ex' (qs L hy);have HL:Hid (Q.length=8):=by show _=_;rw[<-hQ];rfl
 have HQQ:=hid hQ;have HX:=hid hx;have HY:=hid hyy;rw[hx,hyy]at HQ;rw[hQ];obtain⟨n,hn⟩:=Ex' L.length;have HN:=hid hn;rw[hn]at HQ hp hlen ⊢;have h0:((n:Int)==0)=false:=by simp;omega
 have h0z:¬ ((n:Int)=0):=by omega
 clear hx hyy hQ hv hI hcap hn HA;go_enter func211,ntmps211;go_wp2_with fail;refine HQ.out.mono ?_;rintro e w1 ⟨⟨g,Bl,Bh,Bf,Bz,rfl,hqs⟩,B1⟩;have HS:=hid hqs;have HB1:=hid B1;clear hqs B1 HQ;go_wp2_with fail
 go_loopw [5,15] (fun v5 v15 wr=>∃(k:Nat) (s:Int),k<=8/\v5=.int .u16 s/\v15=.int .i64 k/\Hid (Sm Q k s)/\Hid (Qs wr g Bl Bh Bf Bz (.slice a n c) hy x y)/\Hid (Below w.heap.size w wr)) (fun _ v15 _=>8 - (intOf v15).toNat)
 case atStart=>exact⟨0,0,zero_le _,rfl,rfl,⟨rfl,Int.le_refl _,by decide⟩,HS,HB1⟩
 case round =>
  clear HS HB1;obtain⟨k,s,hk,rfl,rfl,HM,HS,HB⟩:=hrel;have HNO:Hid (∀ i,i<8->Q[i]? = some (Q[i]?.getD false)):=fun i hi=>by have:=HL.out;rw[getElem?_eq_getElem (show i<Q.length by omega)];rfl
  by_cases hlt:k<8
  ·have HMY:Hid (Q[k]? = some true->Sm Q (k+1) (bits .or .u16 s (2 ^ k))):=HM.out.yes hlt;have HMN:Hid (Q[k]? = some false->Sm Q (k+1) s):=HM.out.no;have HNX:=hid (HNO.out k hlt);obtain⟨t,ht⟩:=Ex' (Q[k]?.getD false);rw[ht]at HNX;have HFIN:Hid (∀(cs:Array Value) (z:Value),cs[0]? = some z->∀ W',Below (wr.alloc (.cells cs 251)).heap.size (wr.alloc (.cells cs 251)) W'->Qs W' g Bl Bh Bf Bz (.slice a n c) hy x y/\Below w.heap.size w W'/\W'.cell? ⟨wr.heap.size,0,none⟩=some z):=fun cs z hz W' B=>by have bb:=HB.out.alloc HB.out.size (.cells cs 251);refine⟨(HS.out.alloc _).below B,bb.trans (B.mono bb.size),?_⟩;rw[B.cell (p:=⟨wr.heap.size,0,none⟩) (by simp)];simp only[World.cell?,World.alloc_heap_new];exact hz
   have hcase:k=0\/k=1\/k=2\/k=3\/k=4\/k=5\/k=6\/k=7:=by omega
   clear hlt hk HM;rcases hcase with rfl | rfl | rfl | rfl | rfl | rfl | rfl | rfl
   focus
    obtain⟨fv,hfv⟩:∃ fv:Value,fv=.func (.func 266) #[] #[.pointer (some ⟨Bl,0,none⟩)]:=⟨_,rfl⟩;have hf:=HFIN.out #[.int .u16 1,fv] _ rfl;have h2:=(HA2.out g Bl Bh Bf Bz).a1 (wr.alloc (.cells #[.int .u16 1,fv] 251));have hb:=HS.out.cell 0 (.int .u16 1) rfl;have hfn:=HS.out.cell 1 fv (by rw[hfv];rfl);subst hfv
   rotate_left
   focus
    obtain⟨fv,hfv⟩:∃ fv:Value,fv=.func (.func 268) #[] #[.pointer (some ⟨Bh,0,none⟩),.pointer (some ⟨Bl,0,none⟩)]:=⟨_,rfl⟩;have hf:=HFIN.out #[.int .u16 2,fv] _ rfl;have h2:=(HA2.out g Bl Bh Bf Bz).a2 (wr.alloc (.cells #[.int .u16 2,fv] 251));have hb:=HS.out.cell 2 (.int .u16 2) rfl;have hfn:=HS.out.cell 3 fv (by rw[hfv];rfl);subst hfv
   rotate_left
   focus
    obtain⟨fv,hfv⟩:∃ fv:Value,fv=.func (.func 269) #[] #[.pointer (some ⟨Bh,0,none⟩),.pointer (some ⟨Bf,0,none⟩),.pointer (some ⟨Bz,0,none⟩)]:=⟨_,rfl⟩;have hf:=HFIN.out #[.int .u16 4,fv] _ rfl;have h2:=(HA2.out g Bl Bh Bf Bz).a3 (wr.alloc (.cells #[.int .u16 4,fv] 251));have hb:=HS.out.cell 4 (.int .u16 4) rfl;have hfn:=HS.out.cell 5 fv (by rw[hfv];rfl);subst hfv
   rotate_left
   focus
    obtain⟨fv,hfv⟩:∃ fv:Value,fv=.func (.func 270) #[] #[.pointer (some ⟨Bl,0,none⟩)]:=⟨_,rfl⟩;have hf:=HFIN.out #[.int .u16 8,fv] _ rfl;have h2:=(HA2.out g Bl Bh Bf Bz).a4 (wr.alloc (.cells #[.int .u16 8,fv] 251));have hb:=HS.out.cell 6 (.int .u16 8) rfl;have hfn:=HS.out.cell 7 fv (by rw[hfv];rfl);subst hfv
   rotate_left
   focus
    obtain⟨fv,hfv⟩:∃ fv:Value,fv=.func (.func 271) #[] #[.pointer (some ⟨Bl,0,none⟩)]:=⟨_,rfl⟩;have hf:=HFIN.out #[.int .u16 16,fv] _ rfl;have h2:=(HA2.out g Bl Bh Bf Bz).a5 (wr.alloc (.cells #[.int .u16 16,fv] 251));have hb:=HS.out.cell 8 (.int .u16 16) rfl;have hfn:=HS.out.cell 9 fv (by rw[hfv];rfl);subst hfv
   rotate_left
   focus
    obtain⟨fv,hfv⟩:∃ fv:Value,fv=.func (.func 273) #[] #[.pointer (some ⟨Bf,0,none⟩)]:=⟨_,rfl⟩;have hf:=HFIN.out #[.int .u16 32,fv] _ rfl;have h2:=(HA2.out g Bl Bh Bf Bz).a6 (wr.alloc (.cells #[.int .u16 32,fv] 251));have hb:=HS.out.cell 10 (.int .u16 32) rfl;have hfn:=HS.out.cell 11 fv (by rw[hfv];rfl);subst hfv
   rotate_left
   focus
    obtain⟨fv,hfv⟩:∃ fv:Value,fv=.func (.func 275) #[] #[.pointer (some ⟨Bl,0,none⟩)]:=⟨_,rfl⟩;have hf:=HFIN.out #[.int .u16 64,fv] _ rfl;have h2:=(HA2.out g Bl Bh Bf Bz).a7 (wr.alloc (.cells #[.int .u16 64,fv] 251));have hb:=HS.out.cell 12 (.int .u16 64) rfl;have hfn:=HS.out.cell 13 fv (by rw[hfv];rfl);subst hfv
   rotate_left
   focus
    obtain⟨fv,hfv⟩:∃ fv:Value,fv=.func (.func 277) #[] #[.pointer (some ⟨Bl,0,none⟩)]:=⟨_,rfl⟩;have hf:=HFIN.out #[.int .u16 128,fv] _ rfl;have h2:=(HA2.out g Bl Bh Bf Bz).a8 (wr.alloc (.cells #[.int .u16 128,fv] 251));have hb:=HS.out.cell 14 (.int .u16 128) rfl;have hfn:=HS.out.cell 15 fv (by rw[hfv];rfl);subst hfv
   rotate_left
   all_goals
    rw[HX.out,HY.out,HN.out,HQQ.out,ht]at h2;have HCall:=hid (h2 (HS.out.alloc _) (HB.out.alloc HB.out.size _));have HF:=hid hf;clear h2 ht hf HFIN;cases t
    all_goals
     first
      | have HM2:=hid (HMN.out HNX.out)
      | have HM2:=hid (HMY.out HNX.out)
     clear HMN HMY HNX;go_wp2_with((first | go_at_call 266 | go_at_call 268 | go_at_call 269 | go_at_call 270 | go_at_call 271 | go_at_call 273 | go_at_call 275 | go_at_call 277);refine HCall.out.mono ?_;rintro e w4 ⟨rfl,B4⟩;obtain⟨hS4,hB4,hc4⟩:=HF.out _ B4;have HS4:=hid hS4;have HB4:=hid hB4;clear hS4 hB4 B4)
     go_roundw
     case rel=>exact⟨_,_,by omega,rfl,by first | rfl | go_num,HM2,HS4,HB4⟩
     case measure=>simp[intOf]
  ·obtain rfl:k=8:=by omega
   have HE:Hid (sm 0 Q=s):=by show _=_;rw[HM.out.eq,take_of_length_le (by rw[HL.out];exact le_refl _)]
   go_wp2;go_ret;exact⟨by rw[HE.out];rfl,HB.out⟩
theorem pP(v:Value)(hy:Bool)(L:List Int)(w:World)(hlen:L.length<=10000)(hv:N.bR w v L)(hcap:∀ a n c,v=.slice a n c->n<=c):
  Calls prog 211 #[v,.bool hy] w fun e W'=>e=.returned (.int .u16 (flt L hy))/\Below w.heap.size w W':=by
 by_cases h0:L.length=0
 ·obtain⟨a,c,rfl,-⟩:=hv;unfold flt;rw[if_pos h0,h0];clear hcap hlen h0;go_enter func211,ntmps211;go_wp2;go_ret;exact⟨rfl,Below.refl _ _⟩
 ·unfold flt;rw[if_neg h0];exact wI v hy L w (by omega) hlen hv hcap
end L
namespace I
theorem El.cap{W:World}{u:Value}{l:List Int}(h:El W u l):∀ a n c,u=.slice a n c->n<=c:=fun a n c e=>(h.2 a n c e).1
theorem AV(v:Value)(l:List Int)(hy:Bool)(w:World)(hlen:l.length<=10000)(hs:Scs l)(hv:El w v l):
  Calls prog 170 #[v,.bool hy] w fun e W'=>DK l hy w e W':=by
 have HV:=hid hv;have HENC:=hid (U.gU v l (by omega) w hv.ints);have HSC:=hid hs;obtain⟨a,c,e0,-⟩:=hv.1;have HCO:Hid (∀ W,Below w.heap.size w W->Calls prog 210 #[v] W fun e W'=>N.qx l W e W'):=fun W h=>yW v l W (by omega) (hv.below h);have HFL:Hid (∀ W,Below w.heap.size w W->Calls prog 211 #[v,.bool hy] W fun e W'=>e=.returned (.int .u16 (L.flt l hy))/\Below W.heap.size W W'):=fun W h=>L.pP v hy l W hlen (hv.below h).1 (hv.below h).cap;obtain⟨n,hn⟩:=Ex' l.length;rw[hn]at e0 hlen;have HN:=hid hn;subst e0;clear hv hn hs;go_enter func170,ntmps170
 go_upto_if 23 with(first
   | (go_at_call 31;refine(dp s1 _ (by have:=HZ1.out;omega)).mono ?_;rintro e w2 ⟨⟨t2,b2,rfl,hc⟩,hw2⟩;obtain rfl:=hw2.symm;have HC:=hid hc;clear hc)
   | (go_at_call 203;refine HENC.out.mono ?_;rintro e w1 ⟨⟨s1,r1,rfl,hE⟩,B1⟩;have HE:=hid hE;have HB1:=hid B1;have HZ1:Hid (s1.size<=40000):=(by show _<=_;rcases hE with⟨_,_,h⟩ | ⟨_,_,h⟩ <;> first | (have h2:=U.dQ l;rw[<-h,U.aa]at h2;have:=HN.out;omega) | (rw[h];exact zero_le _));clear hE B1))
 have hbn:U.bn s1=U.aj l:=by
  rcases HE.out with⟨_,_,h⟩ | ⟨h,_,_⟩
  ·exact h
  ·rw[kr.1 HSC.out]at h;cases h
 have HBN:=hid hbn;clear hbn;cases b2 with
 | false =>
  have hp:L.dr l=false:=by
   rcases HC.out with⟨h,_⟩ | ⟨_,h⟩
   ·cases h
   ·rw[HBN.out,<-qU]at h;simpa using h
  have HO:=hid (Ry (hy:=hy) hp);have HC1:=hid (HCO.out w1 HB1.out);obtain⟨F,hF⟩:=Ex' (L.flt l hy);rw[hF]at HFL HO;clear hp hF
  go_wp2_with(first
    | (go_at_call 211;refine(HFL.out _ HB3.out).mono ?_;rintro e w4 ⟨rfl,B4⟩;have HB4:=hid B4;clear B4)
    | (go_at_call 210;refine HC1.out.mono ?_;rintro e w3 ⟨v3,rfl,r3,B3⟩;have R3:=hid r3;have HB3:=Bt' HB1 B3;obtain⟨a3,c3,rfl⟩:=bU r3;clear r3 B3))
  go_ret2;unfold DK;rw[HO.out];exact⟨_,rfl,(El.own rfl R3.out).below HB4.out,HB3.out.trans (HB4.out.mono HB3.out.size)⟩
 | true =>
  have hp:L.dr l=true/\U.bn t2=U.aj (l.drop 4):=by
   rcases HC.out with⟨_,h⟩ | ⟨h,_⟩
   ·rw[HBN.out]at h;have hq:=(qU l).2 ⟨_,h⟩;have h4:=yI hq;rw[h]at h4;exact⟨hq,by rw[<-h4];rfl⟩
   ·cases h
  have HO:=hid (BJ (hy:=hy) HSC.out hp.1);have HSM:=hid (Dj (T:=U.aj (l.drop 4)) (by rw[<-hp.2];exact U.aL t2));have HDD:=hid (P.iA t2 w1);rw[hp.2]at HDD;have HBT:Hid (U.Bytes (U.aj (l.drop 4))):=by show U.Bytes _;rw[<-hp.2];exact U.aL t2
  obtain⟨T,hT⟩:=Ex' (U.aj (l.drop 4));rw[hT]at HO HSM HDD HBT;clear hp hT HC HBN
  go_upto_region 6 with(go_at_call 212;refine HDD.out.mono ?_;rintro e w3 ⟨⟨v3,r3,rfl,hD⟩,B3⟩;have HD:=hid hD;have HB3:=Bt' HB1 B3;obtain⟨a3,c3,he3,_⟩:=L.aJ (IP hD).ints;have HE3:=hid he3;clear hD B3 he3;obtain⟨q,hq⟩:=Ex' ((P.ik T).1.length);rw[hq]at HE3;obtain rfl:=HE3.out;have HQ:=hid hq;clear hq)
  obtain⟨h1,h2,h3⟩:=HD.out.one HBT.out;have hel:=IP HD.out;have HEL:=hid hel;rw[HQ.out]at h3;have HAS:=hid (mA _ (P.ik T).1 w3 (by rw[HQ.out];omega) HSM.out h1);have HFM:=hid (L.pP _ hy (P.ik T).1 w3 (by rw[HQ.out];omega) hel.1 hel.cap);have HC3:=hid (HCO.out w3 HB3.out);rw[<-h2]at HO;obtain⟨m,hm⟩:=Ex' ((P.ik T).1);rw[hm]at HO HAS HFM HEL;obtain⟨F,hF⟩:=Ex' (L.flt m hy);rw[hF]at HO HFM;obtain⟨pm,hpm⟩:=Ex' (plain m);rw[hpm]at HO HAS;clear h1 h2 hel hm hF hpm HD HQ HE3 HDD HFL HCO;by_cases hr:r3=0
  ·subst hr;cases pm with
   | true =>
    have HO2:Hid (one l hy=(l,512)):=by show _=_;rw[HO.out,if_neg (by decide)]
    go_wp2_with(first
      | (go_at_call 210;refine HC3.out.mono ?_;rintro e w4 ⟨v4,rfl,r4,B4⟩;have R4:=hid r4;have HB4:=Bt' HB3 B4;obtain⟨a4,c4,rfl⟩:=bU r4;clear r4 B4)
      | (go_at_call 202;refine HAS.out.mono ?_;rintro e wb ⟨rfl,hwb⟩;obtain rfl:=hwb.symm))
    go_ret2;unfold DK;rw[HO2.out];exact⟨_,rfl,El.own rfl R4.out,HB4.out⟩
   | false =>
    have HO2:Hid (one l hy=(m,F)):=by show _=_;rw[HO.out,if_pos ⟨rfl,rfl⟩]
    go_wp2_with(first
      | (go_at_call 202;refine HAS.out.mono ?_;rintro e wb ⟨rfl,hwb⟩;obtain rfl:=hwb.symm)
      | (go_at_call 211;refine HFM.out.mono ?_;rintro e w4 ⟨rfl,B4⟩))
    go_ret2;unfold DK;rw[HO2.out];exact⟨_,rfl,HEL.out.below B4,HB3.out.trans (B4.mono HB3.out.size)⟩
  ·have hrb:(r3 != 0)=true:=by simpa using hr
   have hrc:(r3==0)=false:=by simpa using hr
   have HO2:Hid (one l hy=(l,512)):=by show _=_;rw[HO.out,if_neg (fun h=>hr h.1)]
   go_wp2_with(go_at_call 210;refine HC3.out.mono ?_;rintro e w4 ⟨v4,rfl,r4,B4⟩;have R4:=hid r4;have HB4:=Bt' HB3 B4;obtain⟨a4,c4,rfl⟩:=bU r4;clear r4 B4);go_ret2;unfold DK;rw[HO2.out];exact⟨_,rfl,El.own rfl R4.out,HB4.out⟩
theorem kE(s:ByteArray)(w:World)(hs:s.size<=4096):
  Calls prog 169 #[.string s] w fun e W'=>N.qx (Mp (U.dec (U.bn s))) w e W':=by
 have hdl:=U.dK (U.bn s).length (U.bn s) (le_refl _) (U.aL s);have hml:=LU (U.bn s) (U.aL s);rw[U.aa]at hdl hml;have HDEC:=hid (U.pX s (by omega) w);have HMP:Hid (Mp (U.dec (U.bn s))=N.cI ((U.dec (U.bn s)).flatMap mpx)):=rfl;obtain⟨l,hl⟩:=Ex' (U.dec (U.bn s));rw[hl]at HDEC HMP hdl hml ⊢;obtain⟨M,hM⟩:=Ex' (Mp l);rw[hM]at HMP ⊢;obtain⟨n,hn⟩:=Ex' l.length;have HN:=hid hn;have HML:=hid hml;rw[hn]at HDEC hdl;clear hl hM hn hml;go_enter func169,ntmps169;go_wp2_with fail;refine HDEC.out.mono ?_;rintro e w1 ⟨v1,rfl,r1,B1⟩;obtain⟨a1,c1,rfl⟩:=bU r1;have HI:=hid (U.aB.own HN.out.symm r1);obtain⟨a,c,he,hf⟩:=L.aJ HI.out;rw[HN.out]at he hf;cases he;have HF:=hid hf;have HB1:=hid B1;clear r1 B1 HDEC hf;go_wp2_with fail
 go_loopw [3,9] (fun v4 v5 wr=>∃(k m c:Nat) (a:Option Addr),k<=n/\m<=8 * k/\v4=.slice a m c/\v5=.int .i64 k/\Hid (m=((l.take k).flatMap mpx).length)/\Hid (wr.ownsRow w1.heap.size 21 1 (.slice a m c) m (((l.take k).flatMap mpx).map (Value.int .i32)))/\Hid (Below w1.heap.size w1 wr)) (fun _ v5 _=>n - (intOf v5).toNat)
 case atStart=>exact⟨0,0,0,none,zero_le _,le_refl _,rfl,rfl,rfl,ownsRow_nil _ _ _ _,Below.refl _ _⟩
 case round =>
  obtain⟨k,m,c,a,hk,hmk,rfl,rfl,HM,HR,HB⟩:=hrel;by_cases hlt:k<n
  ·obtain⟨b,off,rfl,hck⟩:=L.jk HF.out HB.out k hlt;have HT:=hid (GY l k (by rw[HN.out];exact hlt));have hml:=LS (l[k]?.getD 0);have HST:=hid (fun W=>D.nZ (l[k]?.getD 0) W);have HRM:=hid (fun W=>D.kE (l[k]?.getD 0) W);have HMX:Hid (mpx (l[k]?.getD 0)=if (D.fnd (l[k]?.getD 0)).2.2.1=0 then [l[k]?.getD 0] else D.mp (l[k]?.getD 0)):=rfl;obtain⟨y2,h2⟩:=Ex' ((D.fnd (l[k]?.getD 0)).2.2.1);rw[h2]at HMX HST;obtain⟨Z,hZ⟩:=Ex' (mpx (l[k]?.getD 0));rw[hZ]at HT HMX hml;obtain⟨x,hx⟩:=Ex' (l[k]?.getD 0);rw[hx]at hck HRM HMX HST;obtain⟨Y,hY⟩:=Ex' ((l.take k).flatMap mpx);rw[hY]at HT HM HR;clear h2 hx hZ hY;have z1:=HB.out.size;by_cases h0:y2=0
   ·subst h0;have HZ:Hid (Z=[x]):=by show _=_;rw[HMX.out,if_pos rfl]
    clear HMX
    go_wp2_with(first
      | (at_builtin;refine U.bH rfl _ _ rfl w1.heap.size _ m Y rfl (R2.out.alloc _) _ [x] rfl (.inr ⟨⟨w2.heap.size,0,none⟩,1,rfl,fun j hj=>by(have hj0:j=0:=by(simp only[length_cons,length_nil]at hj;omega));subst hj0;rw[U.gy];exact(Boxed.new w2 21 (.int .i32 x)).cell⟩) (by simp only[length_cons,length_nil];omega) (by simp;omega) ?_;intro v3 w3 r3 g3;simp only[length_cons,length_nil,zero_add]at r3;obtain⟨a3,c3,rfl⟩:=bU r3)
      | (go_at_call 207;refine(HST.out _).mono ?_;rintro e w2 ⟨rfl,B2⟩;have R2:=hid (U.ax HR.out B2 (le_refl _));have HB2:=Bt' HB B2;have z2:=HB2.out.size;clear B2))
    go_roundw
    case rel =>
     refine⟨k+1,m+1,c3,a3,by omega,by omega,rfl,by go_num,by show _=_;rw[HT.out,HZ.out,length_append,<-HM.out];rfl,?_,U.below_grow (w1:=w2.alloc (.cells #[.int .i32 x] 21)) (HB2.out.alloc HB2.out.size _) (le_trans HB2.out.size (by simp)) (R2.out.alloc _) g3⟩;show World.ownsRow _ _ _ _ _ _ _;rw[HT.out,HZ.out];exact r3
    case measure=>simp[intOf];omega
   ·have h0b:(y2==0)=false:=by simpa using h0
    have hZ:Z=D.mp x:=by rw[HMX.out,if_neg h0]
    rw[<-hZ]at HRM;obtain⟨q,hq⟩:=Ex' Z.length;have HQ:=hid hq;rw[hq]at hml;clear HMX hZ hq
    go_wp2_with(first
      | (at_builtin;refine U.bH rfl _ _ rfl w1.heap.size _ m Y rfl R3.out _ Z rfl S3.out (by have:=HQ.out;omega) HB3.out.size ?_;intro v4 w4 r4 g4;rw[HQ.out]at r4;obtain⟨a4,c4,rfl⟩:=bU r4)
      | (go_at_call 208;refine(HRM.out _).mono ?_;rintro e w3 ⟨⟨v3,rfl,hI3⟩,B3⟩;have R3:=hid (U.ax R2.out B3 (le_refl _));have HB3:=Bt' HB2 B3;have S3:=hid (NB hI3);obtain⟨a3,c3,hv3,_,_⟩:=id hI3;rw[HQ.out]at hv3;subst hv3;clear hI3 B3)
      | (go_at_call 207;refine(HST.out _).mono ?_;rintro e w2 ⟨rfl,B2⟩;have R2:=hid (U.ax HR.out B2 (le_refl _));have HB2:=Bt' HB B2;have z2:=HB2.out.size;clear B2))
    go_roundw
    case rel =>
     refine⟨k+1,m+q,c4,a4,by omega,by omega,rfl,by go_num,by show _=_;rw[HT.out,length_append,<-HM.out,HQ.out],?_,U.below_grow HB3.out HB3.out.size R3.out g4⟩;show World.ownsRow _ _ _ _ _ _ _;rw[HT.out];exact r4
    case measure=>simp[intOf];omega
  ·have hkk:l.take k=l:=take_of_length_le (by rw[HN.out];omega);rw[hkk]at HM HR;have hl8:=HML.out;have HC:=hid (N.Ag _ (l.flatMap mpx) wr (by omega) (N.bR.of_own HM.out HR.out));clear hkk;go_wp2_with fail;refine HC.out.mono ?_;rintro e w2 ⟨v2,rfl,r2,B2⟩;rw[<-HMP.out]at r2;obtain⟨a2,c2,rfl⟩:=bU r2;have R2:=hid r2;have BB:=hid (HB1.out.trans (((HB.out.trans (B2.mono HB.out.size))).mono HB1.out.size));have z1:=HB1.out.size;have z2:=HB.out.size;clear r2 B2;go_wp2;go_ret;exact⟨_,rfl,N.oG R2.out (by omega),BB.out⟩
open Go.RowKit Go.Shelf
theorem aE{W:World}{B B':Nat}{t t':TypeId}{v x:Value}(h:Boxed W B t v)(h':Boxed W B' t' x)(ht:t≠t')(u:Value):Boxed (W.setCell ⟨B',0,none⟩ u) B t v :=
 h.other (fun e=>by subst e;have h1:W.heap[B]? = _:=h;have h2:W.heap[B]? = _:=h';rw[h1]at h2;cases h2;exact ht rfl) u
structure Pf(w W:World)(B0 Bh Bf Br:Nat)(hy rt:Bool)(vf:Value)(fs:List Int):Prop where
 bh:Boxed W Bh 4 (.bool hy)
 bf:Boxed W Bf 137 vf
 br:Boxed W Br 4 (.bool rt)
 flt:W.ownsRow B0 22 1 vf fs.length (fs.map (Value.int .u16))
 n1:Bh≠Br
 n2:w.heap.size<=Bf
 n3:w.heap.size<=Br
theorem Pf.below{w W W':World}{B0 Bh Bf Br:Nat}{hy rt:Bool}{vf:Value}{fs:List Int}(h:Pf w W B0 Bh Bf Br hy rt vf fs)(hb:Below W.heap.size W W'):Pf w W' B0 Bh Bf Br hy rt vf fs :=
 ⟨(hb.block _ h.bh.lt).trans h.bh,(hb.block _ h.bf.lt).trans h.bf,(hb.block _ h.br.lt).trans h.br,U.ax h.flt hb (le_refl _),h.n1,h.n2,h.n3⟩
theorem Pf.from_other{w W W':World}{B0 Bh Bf Br:Nat}{hy rt:Bool}{vf:Value}{fs:List Int}{row:Option Nat}(h:Pf w W B0 Bh Bf Br hy rt vf fs)(hg:W.grownBy W' row)(hr:∀ r,row=some r->∃ o:Obj,W.heap[r]? = some o/\o.isCells=false):Pf w W' B0 Bh Bf Br hy rt vf fs :=
 ⟨cE h.bh hg hr,cE h.bf hg hr,cE h.br hg hr,iW h.flt hg hr,h.n1,h.n2,h.n3⟩
theorem Pf.pushO{w W w1:World}{B0 Bh Bf Br Bo m:Nat}{hy rt:Bool}{vf vo:Value}{fs:List Int}{vs:List Value}{u:Value}(h:Pf w W B0 Bh Bf Br hy rt vf fs)(ho:W.ownsRow B0 37 1 vo m vs)
  (hg:(W.alloc (.cells #[u] 37)).grownBy w1 vo.ownBlock) (hbo:Boxed w1 Bo 136 vo) (x:Value):Pf w (w1.setCell ⟨Bo,0,none⟩ x) B0 Bh Bf Br hy rt vf fs:=by
 have ho':=ho.alloc (.cells #[u] 37);have k:∀ {B:Nat} {t:TypeId} {v:Value},Boxed W B t v->t≠37->Boxed w1 B t v:=fun hb ht=>(hb.alloc _).kept hg ((hb.alloc _).not_row ht ho');have hf:=oF (h.flt.alloc (.cells #[u] 37)) ho' (by decide) hg;exact⟨aE (k h.bh (by decide)) hbo (by decide) _,aE (k h.bf (by decide)) hbo (by decide) _,aE (k h.br (by decide)) hbo (by decide) _,dH hf hbo (by decide) _,h.n1,h.n2,h.n3⟩
theorem Rk{w W w1:World}{B0 Bl Bo Bh Bf Br:Nat}{v vo vf vf':Value}{l:List Int}{vs:List Value}{ls:List (List Int)}{hy rt:Bool}{fs:List Int}{f:Int}(hs:So w W B0 Bl Bo v l vo vs ls)(h:Pf w W B0 Bh Bf Br hy rt vf fs)
  (hown:w1.ownsRow B0 22 1 vf' (fs.length+1) (fs.map (Value.int .u16)++[.int .u16 f])) (hg:(W.alloc (.cells #[.int .u16 f] 22)).grownBy w1 vf.ownBlock) :
  Boxed w1 Bf 137 vf/\So w (w1.setCell ⟨Bf,0,none⟩ vf') B0 Bl Bo v l vo vs ls/\Pf w (w1.setCell ⟨Bf,0,none⟩ vf') B0 Bh Bf Br hy rt vf' (fs++[f]):=by
 have ba:=iP W (.cells #[.int .u16 f] 22);have ho:=h.flt.alloc (.cells #[.int .u16 f] 22);have k:∀ {B:Nat} {t:TypeId} {v:Value},Boxed W B t v->t≠22->Boxed w1 B t v:=fun hb ht=>(hb.alloc _).kept hg ((hb.alloc _).not_row ht ho);have kbf:=k h.bf (by decide);have hbe:Below w.heap.size w w1:=(hs.be.alloc hs.be.size _).grown hg (le_trans hs.be.size (by simp)) (fun k e=>le_trans hs.b3 (ho.lt k e).1);have hels:=(hs.els.below ba).kept ho (by decide) hg;have hel:=(hs.bx.el.below ba).kept ho (by decide) hg;have hout:=oF (hs.out.alloc (.cells #[.int .u16 f] 22)) ho (by decide) hg
 refine⟨kbf,⟨⟨aE (k hs.bx.box (by decide)) kbf (by decide) _,hel.set kbf (by decide) _⟩,aE (k hs.bo (by decide)) kbf (by decide) _,dH hout kbf (by decide) _,hels.set kbf (by decide) _,hbe.setCell (p:=⟨Bf,0,none⟩) h.n2 _,hs.b1,hs.b2,hs.b3,?_⟩,
   ⟨aE (k h.bh (by decide)) kbf (by decide) _,kbf.set _,aE (k h.br (by decide)) kbf (by decide) _,?_,h.n1,h.n2,h.n3⟩⟩
 ·have h1:=hg.size;have h2:=hs.b4;simp at h1 ⊢;omega
 ·rw[length_append,map_append];exact dH hown kbf (by decide) _
theorem Rf{w W:World}{B0 Bl Bo Bh Bf Br:Nat}{v vo vf:Value}{l:List Int}{vs:List Value}{ls:List (List Int)}{hy rt:Bool}{fs:List Int}(hs:So w W B0 Bl Bo v l vo vs ls)(h:Pf w W B0 Bh Bf Br hy rt vf fs)(b:Bool):
  So w (W.setCell ⟨Br,0,none⟩ (.bool b)) B0 Bl Bo v l vo vs ls/\Pf w (W.setCell ⟨Br,0,none⟩ (.bool b)) B0 Bh Bf Br hy b vf fs :=
 ⟨⟨⟨aE hs.bx.box h.br (by decide) _,hs.bx.el.set h.br (by decide) _⟩,aE hs.bo h.br (by decide) _,dH hs.out h.br (by decide) _,hs.els.set h.br (by decide) _,hs.be.setCell (p:=⟨Br,0,none⟩) h.n3 _,hs.b1,hs.b2,hs.b3,by have:=hs.b4;simp;omega⟩,
   ⟨h.bh.other h.n1 _,aE h.bf h.br (by decide) _,h.br.set _,dH h.flt h.br (by decide) _,h.n1,h.n2,h.n3⟩⟩
structure Qr(B0:Nat)(W:World)(vo vf:Value)(m:Nat)(vs:List Value)(ys:List (List Int×Int)):Prop where
 out:W.ownsRow B0 37 1 vo m vs
 els:Els W vs (ys.map (·.1))
 flt:W.ownsRow B0 22 1 vf m (ys.map fun y=>Value.int .u16 y.2)
 len:m=ys.length
theorem Qr.below{B0:Nat}{W W':World}{vo vf:Value}{m:Nat}{vs:List Value}{ys:List (List Int×Int)}(h:Qr B0 W vo vf m vs ys)(hb:Below W.heap.size W W'):Qr B0 W' vo vf m vs ys :=
 ⟨U.ax h.out hb (le_refl _),h.els.below hb,U.ax h.flt hb (le_refl _),h.len⟩
theorem Rv:∀ x:Fin 256,bits .or .u16 (x.val:Int) 256=(x.val:Int)+256:=by decide +kernel
theorem Pj(x:Int)(h:0<=x/\x<=255\/x=512):bits .or .u16 x 256=x+256:=by
 rcases h with h | rfl
 ·obtain⟨k,rfl⟩:∃ k:Nat,x=k:=⟨x.toNat,by omega⟩;exact Rv ⟨k,by omega⟩
 ·decide +kernel
theorem Rx(l:List Int)(hy:Bool):0<=(one l hy).2/\(one l hy).2<=255\/(one l hy).2=512:=by
 have h:=tk l hy;have h0:=gS l hy;unfold one;split
 ·exact .inl ⟨h0,h⟩
 ·split
  ·exact .inr rfl
  ·split
   ·exact .inr rfl
   ·rename_i m _;split
    ·exact .inr rfl
    ·exact .inl ⟨gS m hy,tk m hy⟩
theorem xt(B0:Nat)(vo vf:Value)(m:Nat)(vs:List Value)(ys:List (List Int×Int))(w:World)(hm:m<=100000)(hB:B0<=w.heap.size)(hf:∀ y∈ys,(0<=y.2/\y.2<=255\/y.2=512)/\y.1.length<=10000)(hq:Qr B0 w vo vf m vs ys):
  Calls prog 172 #[vo,vf] w fun e W'=>e=.returned (.tuple #[])/\Qr B0 W' vo vf m vs (ys.map dV)/\Below B0 w W'/\KeepsOthers w W':=by
 have HYB:=hid hf;have HYL:=hid hq.len;have HQ0:Hid (Qr B0 w vo vf m vs (jB ys 0)):=hq;have HEND:Hid (jB ys m=ys.map dV):=by show _=_;unfold jB;rw[take_of_length_le (by rw[hq.len];exact le_refl _),List.drop_of_length_le (by rw[hq.len];exact le_refl _),List.append_nil]
 obtain⟨ao,co,rfl⟩:=eN hq.out;obtain⟨af,cf,rfl⟩:=eO hq.flt;clear hq hf;go_enter func172,ntmps172;go_wp2_with fail
 go_loopw [8] (fun v8 wq=>∃ k2:Nat,k2<=m/\v8=.int .i64 k2/\Hid (Below B0 w wq)/\Hid (KeepsOthers w wq)/\Hid (Qr B0 wq (.slice ao m co) (.slice af m cf) m vs (jB ys k2))) (fun v8 _=>m - (intOf v8).toNat)
 case atStart=>exact⟨0,zero_le _,rfl,Below.refl _ _,KeepsOthers.refl _,HQ0⟩
 case round =>
  clear HQ0;obtain⟨k2,hk2,rfl,HB,HKO,HQ2⟩:=hrel;by_cases hlt2:k2<m
  ·have hky:k2<ys.length:=by rw[<-HYL.out];exact hlt2
   have hb:=HYB.out ys[k2] (getElem_mem hky);obtain⟨go,rfl,hco,-⟩:=fX HQ2.out.out k2 hlt2;obtain⟨gf,rfl,hcf,hff⟩:=fX HQ2.out.flt k2 hlt2;have hel:=HQ2.out.els.2 k2 (by rw[nB,length_map];exact hky);rw[nB,getElem?_map,getElem?_eq_getElem hky]at hel;replace hel:El wr (vs[k2]?.getD undef) ys[k2].1:=hel;rw[getElem?_map,Oe ys k2 hky]at hcf;replace hcf:wr.cell? ⟨gf,k2,none⟩=some (.int .u16 ys[k2].2):=hcf;obtain⟨ae,ce,hue⟩:=pU hel;rw[hue]at hco hel;have HBD:=hid (L.qg _ ys[k2].1 wr (by omega) hel.ints);have HZO:=hid (QO ys k2 hky);have HZB:=hid (Of ys k2 hky);have HOR:=hid (Pj ys[k2].2 hb.1);obtain⟨bo,hbo⟩:=Ex' (L.dU ys[k2].1);rw[hbo]at HBD HZO HZB;obtain⟨f2,hf2⟩:=Ex' (ys[k2].2);rw[hf2]at HZB hcf hb HOR;obtain⟨p2,hp2⟩:=Ex' (ys[k2].1.length);rw[hp2]at hco HBD;have hb0:0<=f2:=by omega
   have hb1:f2<=512:=by omega
   clear hel hue hbo hf2 hp2 hb;have z1:=HB.out.size;cases bo with
   | true =>
    have HZ:=hid (HZO.out rfl);go_wp2_with(go_at_call 214;refine HBD.out.mono ?_;rintro e w5 ⟨rfl,B5⟩)
    go_roundw
    case rel=>exact⟨k2+1,by omega,by go_num,HB.out.trans (B5.mono (by omega)),HKO.out.trans (L.cd B5),by show Qr _ _ _ _ _ _ _;rw[HZ.out];exact HQ2.out.below B5⟩
    case measure=>simp[intOf];omega
   | false =>
    have HZ:=hid (HZB.out rfl)
    go_upto_if 15 with(go_at_call 214;refine HBD.out.mono ?_;rintro e w5 ⟨rfl,B5⟩)
    have HQ5:=hid (HQ2.out.below B5);have HB5:=hid (HB.out.trans (B5.mono (by omega)));have hcf5:w5.cell? ⟨gf,k2,none⟩=some (.int .u16 f2):=(B5.cell (p:=⟨gf,k2,none⟩) (U.lt_of_cell hcf)).trans hcf;obtain⟨g',e',-,hff5⟩:=fX HQ5.out.flt k2 hlt2;cases e';have hst:=HQ5.out.flt.stored k2 (.int .u16 (f2+256));have HST:=hid hst;have hor:=HOR.out;have HKB:=hid (HKO.out.trans (L.cd B5));clear B5 hcf hff hco hst;go_wp2
    go_roundw
    case rel =>
     refine⟨k2+1,by omega,by go_num,HB5.out.setCell (p:=⟨gf,k2,none⟩) (by have:=(HQ5.out.flt.lt gf rfl).1;exact this) _,HKB.out.trans (KeepsOthers.setCell _ _ _),?_⟩;show Qr _ _ _ _ _ _ _;refine⟨oF HQ5.out.out HQ5.out.flt (by decide) HST.out.2,?_,by rw[HZ.out];exact HST.out.1,by rw[Od];exact HYL.out⟩;rw[nB,<-nB ys k2];exact HQ5.out.els.kept HQ5.out.flt (by decide) HST.out.2
    case measure=>simp[intOf];omega
  ·obtain rfl:k2=m:=by omega
   rw[HEND.out]at HQ2;go_wp2
   go_end0
   exact⟨rfl,HQ2.out,HB.out,HKO.out⟩
theorem rE{w W:World}{B0 Bo Bf D:Nat}{vo vf:Value}{m:Nat}{vs:List Value}{xs:List (List Int×Int)}(hq:Qr B0 W vo vf m vs xs)(hbo:Boxed W Bo 136 vo)(hbf:Boxed W Bf 137 vf)(hbe:Below w.heap.size w W)
  (h1:w.heap.size<=Bo) (h2:w.heap.size<=Bf) (h3:w.heap.size<=B0) (hD:w.heap.size<=D) (hK:W.heap[D]? = some (.deferred (some []))) :
  ((W.setCell ⟨Bo,0,none⟩ vo).setCell ⟨Bf,0,none⟩ vf).heap[D]? = some (.deferred (some [])) /\
  Boxed (((W.setCell ⟨Bo,0,none⟩ vo).setCell ⟨Bf,0,none⟩ vf).putObj D (.deferred none)) Bo 136 vo/\Boxed (((W.setCell ⟨Bo,0,none⟩ vo).setCell ⟨Bf,0,none⟩ vf).putObj D (.deferred none)) Bf 137 vf /\
  Pr w (((W.setCell ⟨Bo,0,none⟩ vo).setCell ⟨Bf,0,none⟩ vf).putObj D (.deferred none)) vo vf m vs xs:=by
 have k1:=(KeepsOthers.setCell W ⟨Bo,0,none⟩ vo).same D _ hK rfl;have k2:=(KeepsOthers.setCell (W.setCell ⟨Bo,0,none⟩ vo) ⟨Bf,0,none⟩ vf).same D _ k1 rfl;have o1:=hbo.set vo;have f1:=aE hbf hbo (by decide) vo;have o2:=aE o1 f1 (by decide) vf;have f2:=f1.set vf;have e1:=dH (dH hq.out hbo (by decide) vo) f1 (by decide) vf;have e2:=dH (dH hq.flt hbo (by decide) vo) f1 (by decide) vf;have e3:=(hq.els.set hbo (by decide) vo).set f1 (by decide) vf;have e4:Below w.heap.size w ((W.setCell ⟨Bo,0,none⟩ vo).setCell ⟨Bf,0,none⟩ vf):=(hbe.setCell (p:=⟨Bo,0,none⟩) h1 _).setCell (p:=⟨Bf,0,none⟩) h2 _;have hg:=grownBy_putObj' ((W.setCell ⟨Bo,0,none⟩ vo).setCell ⟨Bf,0,none⟩ vf) D (.deferred none);have hr:∀ r,some D=some r->∃ o:Obj,((W.setCell ⟨Bo,0,none⟩ vo).setCell ⟨Bf,0,none⟩ vf).heap[r]? = some o/\o.isCells=false:=fun r e=>by cases e;exact⟨_,k2,rfl⟩
 exact⟨k2,cE o2 hg hr,cE f2 hg hr,own_base' (iW e1 hg hr) h3,e3.other hg hr,own_base' (iW e2 hg hr) h3,e4.grown hg e4.size (fun k e=>by cases e;exact hD),hq.len⟩
attribute [local go_sem] Oper.semAt_some
theorem fK{fn:Func}{p u:Tmp}{ty tz:TypeId}(h:fn.results=#[.cell p ty,.cell u tz])(tmps:Array Value)(P:Program)(w:World):
  (results fn tmps).run P w =
   ((asAddr (tmps.getD p undef)).run P w).andThen fun a w₁=>((loadVar ty a).run P w₁).andThen fun v w₂=>((asAddr (tmps.getD u undef)).run P w₂).andThen fun b w₃=>((loadVar tz b).run P w₃).andThen fun x w₄=>.ok (.tuple #[v,x]) w₄:=by
 simp only[results,h];simp[Sem.run_bind,Result.andThen]
theorem Els.rm{W:World}{vs:List Value}{ls:List (List Int)}{u:Value}{l:List Int}{m:Nat}(h:Els W (vs++[u]) (ls++[l]))(hm:ls.length=m):El W u l:=by
 have hv:vs.length=ls.length:=by have:=h.1;simpa using this
 have:=h.2 ls.length (by simp);rw[getElem?_append_right (by rw[hv];exact le_refl _),getElem?_append_right (le_refl _),hv,sub_self]at this;exact this
def ysP(n:Nat)(X:List Int)(hy:Bool)(pre:List (Pc n)):List (List Int×Int):=pre.map fun p=>one (lab X p.1) hy
theorem DP(n:Nat)(X:List Int)(hy:Bool)(pre:List (Pc n))(x:Pc n):ysP n X hy (pre++[x])=ysP n X hy pre++[one (lab X x.1) hy]:=by simp[ysP]
theorem Hq{X:List Int}(h:Scs X)(p:Nat×Nat):Scs (lab X p):=fun c hc=>h c (List.mem_of_mem_drop (List.mem_of_mem_take hc))
theorem Qr.of{w W:World}{B0 Bl Bo Bh Bf Br:Nat}{v vo vf:Value}{l:List Int}{vs:List Value}{hy rt:Bool}{ys:List (List Int×Int)}(hs:So w W B0 Bl Bo v l vo vs (ys.map (·.1)))(h:Pf w W B0 Bh Bf Br hy rt vf (ys.map (·.2))):Qr B0 W vo vf ys.length vs ys :=
 ⟨by have:=hs.out;rwa [length_map]at this,hs.els,by have:=h.flt;rw[length_map,map_map]at this;exact this,rfl⟩
theorem mn(s:ByteArray)(hy:Bool)(w:World)(hs:s.size<=4096):
  Calls prog 113 #[.string s,.bool hy] w fun e W'=>JL (prc (Mp (U.dec (U.bn s))) hy) w e W':=by
 obtain⟨i0,hi,hz0,hz1,hz2⟩:=info_parts RH;obtain⟨i1,hj,hy0,hy1,hy2⟩:=info_parts Mr;have HMP:=hid (fun W=>kE s W hs);have hml:=ny (U.bn s) (U.aL s);have HSX:=hid (nw _ (jh _ (U.aL s)));rw[U.aa]at hml;obtain⟨X,hX⟩:=Ex' (Mp (U.dec (U.bn s)));rw[hX]at HMP hml HSX ⊢;obtain⟨n,hn⟩:=Ex' X.length;have HN:=hid hn;have HCUT:=hid (IT n X hn);unfold N.qx at HMP;rw[hn]at hml HMP;have hnb:n<=8192:=by omega
 clear hX hn hml;refine(callsIn_wide (n:=3)).1 ?_;refine callsIn_of_wp_marks func113 rfl trivial ?_ rfl;simp only[ntmps113,size_toArray,length_cons,length_nil,Nat.reduceAdd,Nat.reduceSub,replicate_succ,replicate_zero,push_toArray,append_toArray,nil_append,cons_append];gi_wp2_with fail;refine⟨trivial,?_⟩;refine(callsIn_wide.2 (HMP.out _)).mono ?_;rintro e w5 ⟨v5,rfl,r5,B5⟩;obtain⟨a,c,rfl⟩:=bU r5;gi_wp2_with fail;refine⟨trivial,?_⟩;refine(Dg _ _ _ ⟨_,_,_,rfl⟩).mono ?_;rintro e w' ⟨rfl,rfl⟩;gi_wp2_with fail;have b0:=Boxed.new w 4 (.bool hy);have b1:=Boxed.new (w.alloc (.cells #[.bool hy] 4)) 136 (.slice none 0 0);have b2:=Boxed.new ((w.alloc (.cells #[.bool hy] 4)).alloc (.cells #[.slice none 0 0] 136)) 137 (.slice none 0 0);have b3:=Boxed.new (((w.alloc (.cells #[.bool hy] 4)).alloc (.cells #[.slice none 0 0] 136)).alloc (.cells #[.slice none 0 0] 137)) 4 (.bool false);simp only[size_alloc]at b1 b2 b3;replace b0:=((b0.alloc (.cells #[.slice none 0 0] 136)).alloc (.cells #[.slice none 0 0] 137)).alloc (.cells #[.bool false] 4);replace b1:=(b1.alloc (.cells #[.slice none 0 0] 137)).alloc (.cells #[.bool false] 4);replace b2:=b2.alloc (.cells #[.bool false] 4)
 have bb:Below w.heap.size w ((((w.alloc (.cells #[.bool hy] 4)).alloc (.cells #[.slice none 0 0] 136)).alloc (.cells #[.slice none 0 0] 137)).alloc (.cells #[.bool false] 4)) :=
  ((((Below.refl _ w).alloc (le_refl _) _).alloc (by simp) _).alloc (by simp;omega) _).alloc (by simp;omega) _
 have hw4:((((w.alloc (.cells #[.bool hy] 4)).alloc (.cells #[.slice none 0 0] 136)).alloc (.cells #[.slice none 0 0] 137)).alloc (.cells #[.bool false] 4)).heap.size=w.heap.size+4:=by simp
 obtain⟨w4,hw⟩:=Ex' ((((w.alloc (.cells #[.bool hy] 4)).alloc (.cells #[.slice none 0 0] 136)).alloc (.cells #[.slice none 0 0] 137)).alloc (.cells #[.bool false] 4));rw[hw]at b0 b1 b2 b3 bb hw4 r5 B5;have hz5:=B5.size;have c0:=(B5.block _ b0.lt).trans b0;have c1:=(B5.block _ b1.lt).trans b1;have c2:=(B5.block _ b2.lt).trans b2;have c3:=(B5.block _ b3.lt).trans b3;have bl:=Boxed.new w5 37 (.slice a n c);have b5:=bb.trans (B5.mono (by omega));have el5:=El.own HN.out.symm r5;have ba:=iP w5 (.cells #[.slice a n c] 37);obtain⟨W0,hW0⟩:=Ex' (w5.alloc (.cells #[.slice a n c] 37));have hs0:W0.heap.size=w5.heap.size+1:=by rw[<-hW0];simp
 rw[hW0]at bl ba ⊢;have d0:Boxed W0 _ _ _:=(ba.block _ (Array.getElem?_eq_some_iff.1 c0).1).trans c0;have d1:Boxed W0 _ _ _:=(ba.block _ (Array.getElem?_eq_some_iff.1 c1).1).trans c1;have d2:Boxed W0 _ _ _:=(ba.block _ (Array.getElem?_eq_some_iff.1 c2).1).trans c2;have d3:Boxed W0 _ _ _:=(ba.block _ (Array.getElem?_eq_some_iff.1 c3).1).trans c3;have hB0:=b5.trans (ba.mono (by omega));have hbx:Bx w5.heap.size (.slice a n c) X W0:=⟨bl,el5.below ba⟩
 have hSo:So w W0 W0.heap.size w5.heap.size (w.heap.size+1) (.slice a n c) X (.slice none 0 0) [] ((ysP n X hy []).map (·.1)) :=
  ⟨hbx,d1,ownsRow_nil _ _ _ _,Els.nil _,hB0,by omega,by omega,by omega,le_refl _⟩
 have hPf:Pf w W0 W0.heap.size w.heap.size (w.heap.size+1+1) (w.heap.size+1+1+1) hy (il (ysP n X hy [])) (.slice none 0 0) ((ysP n X hy []).map (·.2)) :=
  ⟨d0,d2,d3,ownsRow_nil _ _ _ _,by omega,by omega,by omega⟩
 have hzz:w.heap.size+4<=w5.heap.size:=by omega
 have HB0:=hid hB0;clear b0 b1 b2 b3 bb hw4 hw r5 B5 c0 c1 c2 c3 bl b5 el5 ba hW0 d0 d1 d2 d3 hB0 HMP hz5
 refine wpIn_rangeFunc_ownG rfl (by omega) (gf:=205) (lb:=#[.pointer (some ⟨w5.heap.size,0,none⟩)]) rfl trivial (enters_of func205 (by kernel_rfl) rfl)
  (yM 2 (by omega) w5.heap.size a n c X HN.out (by omega) W0 hbx) Ht (Hu (w:=W0)) (Below.refl _ _) (fun _=>rfl)
  (fun pre W=>∃ vo vf vs,So w W W0.heap.size w5.heap.size (w.heap.size+1) (.slice a n c) X vo vs ((ysP n X hy pre).map (·.1))/\Pf w W W0.heap.size w.heap.size (w.heap.size+1+1) (w.heap.size+1+1+1) hy (il (ysP n X hy pre)) vf ((ysP n X hy pre).map (·.2)))
  (fun _ _ _=>False)
  (fun s X Y row hs hg hr=>by obtain⟨vo,vf,vs,h,h'⟩:=hs;exact⟨vo,vf,vs,h.from_other hg hr,h'.from_other hg (fun r e=>(hr r e).2)⟩)
  (fun _ _ _ _ _ hs _ _=>hs)
  ⟨_,_,_,hSo,hPf⟩
  (fun x=>{ tmps:=#[.string s,.bool hy,undef,.pointer (some ⟨w.heap.size,0,none⟩),.pointer (some ⟨w.heap.size+1,0,none⟩),.pointer (some ⟨w.heap.size+1+1,0,none⟩),.pointer (some ⟨w.heap.size+1+1+1,0,none⟩),pcv a x.1,undef,undef,.string s,.slice a n c,.func (.func 205) #[] #[.pointer (some ⟨w5.heap.size,0,none⟩)],pcv a x.1,undef,undef,undef,undef,undef,undef,undef,undef,undef,undef,undef,undef,undef,undef,undef,undef,undef,undef,undef,undef,undef,undef,undef,undef,undef],defers:=[] }) ?assign ?body ?done ?stop
 case assign =>
  intro lp x W K hK;obtain⟨a',k',c',hu⟩:=Gc a x.1;rw[hu]at hK;gi_wp2;first | exact hK | (rw[hu];exact hK)
 case body =>
  rintro lp pre x W ⟨vo,vf,vs,hS,hP⟩ hlt;have hel:=hS.bx.el.piece HN.out x;have hll:=An X n x;have HONE:=hid (AV _ _ hy W (by omega) (Hq HSX.out x.1) hel);have HYS:=hid (DP n X hy pre x);have HAS:=hid (Dz (ysP n X hy pre) (one (lab X x.1) hy));have hpl:(ysP n X hy pre).length=pre.length:=by simp[ysP]
  have hol:=sJ (lab X x.1) hy (by omega);have ho0:=one_nonneg (lab X x.1) hy;have ho1:=one_le (lab X x.1) hy;obtain⟨a',k',c',hu⟩:=Gc a x.1;rw[hu]at HONE ⊢;unfold DK at HONE;obtain⟨⟨l',f⟩,hlf⟩:∃ y,one (lab X x.1) hy=y:=⟨_,rfl⟩;rw[hlf]at HONE HYS HAS hol ho0 ho1;simp only at HONE hol ho0 ho1 HAS;obtain⟨q,hq⟩:=Ex' l'.length;have HQ:=hid hq;rw[hq]at hol;obtain⟨Ys,hYs⟩:=Ex' (ysP n X hy pre);rw[hYs]at hS hP HYS HAS hpl;obtain⟨Y1,hY1⟩:=Ex' (Ys.map (·.1));obtain⟨Y2,hY2⟩:=Ex' (Ys.map (·.2));have HY1:=hid hY1;have HY2:=hid hY2;rw[hY1]at hS;rw[hY2]at hP;obtain⟨m,hm⟩:=Ex' Ys.length;have HM1:Hid (Y1.length=m):=by show _=_;rw[<-hY1,length_map];exact hm
  have HM2:Hid (Y2.length=m):=by show _=_;rw[<-hY2,length_map];exact hm
  have hmb:m<=8193:=by omega
  have HS:=hid hS;have HP:=hid hP;obtain⟨ao,co,hvo⟩:=eN HS.out.out;rw[HM1.out]at hvo;subst hvo;obtain⟨af,cf,hvf⟩:=eO HP.out.flt;rw[HM2.out]at hvf;subst hvf;have hch:=HP.out.bh.cell;obtain⟨rt,hrt⟩:=Ex' (il Ys);rw[hrt]at HP HAS;clear hu hlf hq hYs hY1 hY2 hm hel hS hP hpl hll hrt hSo hPf hbx;obtain⟨gr,hgr⟩:=Ex' (L.kR l');have HGR:=hid hgr;rw[hgr]at HAS;have HAS':Hid (il (ysP n X hy (pre++[x]))=(rt||gr)):=by show _=_;rw[HYS.out];exact HAS.out
  clear hgr;cases rt
  all_goals
   gi_wp2_with (first
   | (gi_at_builtin;refine wpListIn_append_own _ rfl _ _ 137 rfl W0.heap.size 22 i1 (.int .u16 0) 1 2 underlying137 hj hy0 hy1 hy2 rfl (by decide) _ m (Y2.map (Value.int .u16)) rfl (by have h:=HP1.out.flt.alloc (.cells #[.int .u16 f] 22);rw[HM2.out]at h;exact h) ⟨w3.heap.size,0,none⟩ 1 1 [.int .u16 f] rfl rfl (by have h:=cell_one_new (w3.setCell ⟨w.heap.size+1,0,none⟩ (.slice a3 (m+1) c3)) (.int .u16 f) 22;rw[show(w3.setCell ⟨w.heap.size+1,0,none⟩ (.slice a3 (m+1) c3)).heap.size=w3.heap.size by simp]at h;exact h) (by simp[Value.oneCell']) (by unfold maxLen;omega) (by omega) (by have:=HS1.out.b4;simp at this ⊢;omega) ?_;intro v4 w4 r4 g4 _;obtain⟨a4,c4,rfl⟩:=eO r4;have HPU2:=hid (Rk HS1.out HP1.out (by rw[HM2.out];exact r4) g4);have HK2:=hid (((HK1.out.trans (KeepsOthers.alloc _ _)).trans (mz (HP1.out.flt.alloc (.cells #[.int .u16 f] 22)) (by first | exact g4 | (rw[HM2.out];exact g4)))).trans (KeepsOthers.setCell _ ⟨w.heap.size+1+1,0,none⟩ (.slice a4 (m+1) c4)));have hc4:=HPU2.out.1.cell;have hf4:=HPU2.out.1.frozen;have hcr:=HPU2.out.2.2.br.cell;have hfr:=HPU2.out.2.2.br.frozen;have HE4:=hid (HPU2.out.2.1.els.rm HM1.out);clear r4 g4)
   | (gi_at_builtin;refine wpListIn_append_own _ rfl _ _ 136 rfl W0.heap.size 37 i0 (.slice none 0 0) 1 24 underlying136 hi hz0 hz1 hz2 rfl (by decide) _ m vs rfl (by have h:=HS2.out.out.alloc (.cells #[.slice a2 q c2] 37);rw[HM1.out]at h;exact h) ⟨w2.heap.size,0,none⟩ 1 1 [.slice a2 q c2] rfl rfl (cell_one_new _ _ _) (by simp[Value.oneCell']) (by unfold maxLen;omega) (by omega) (by have:=HS2.out.b4;simp;omega) ?_;intro v3 w3 r3 g3 _;obtain⟨a3,c3,rfl⟩:=eN r3;have HPU:=hid (HS2.out.push HE2.out (by rw[HM1.out];exact r3) g3);have HS1:=hid HPU.out.2;have HP1:=hid (HP2.out.pushO HS2.out.out g3 HPU.out.1 (.slice a3 (m+1) c3));have HK1:=hid (((HK0.out.trans (KeepsOthers.alloc _ _)).trans (mz (HS2.out.out.alloc (.cells #[.slice a2 q c2] 37)) (by first | exact g3 | (rw[HM1.out];exact g3)))).trans (KeepsOthers.setCell _ ⟨w.heap.size+1,0,none⟩ (.slice a3 (m+1) c3)));have hc3:=HPU.out.1.cell;have hf3:=HPU.out.1.frozen;have hcf:=HP1.out.bf.cell;clear r3 g3)
   | (refine⟨trivial,?_⟩;gi_at_call 171;refine(CallsIn.inRound lp (callsIn_wide.2 (L.Bk _ l' _ (by have:=HQ.out;omega) (HE4.out.ints)))).mono ?_;rw[HGR.out];rintro e w7 ⟨rfl,B7⟩;have HB7:=hid B7;have hcr7:=(HPU2.out.2.2.below B7).br.cell;have hfr7:=(HPU2.out.2.2.below B7).br.frozen;clear B7)
   | (refine⟨trivial,?_⟩;gi_at_call 170;refine(CallsIn.inRound lp (callsIn_wide.2 HONE.out)).mono ?_;rintro e w2 ⟨u,rfl,hu,B2⟩;obtain⟨a2,c2,hue⟩:=pU hu;rw[HQ.out]at hue;subst hue;have HE2:=hid hu;have HS2:=hid (HS.out.below B2);have HP2:=hid (HP.out.below B2);have HK0:=hid (L.cd B2);have hc2:=HS2.out.bo.cell;clear hu B2))
  ·have HR:=hid (Rf (HPU2.out.2.1.below HB7.out) (HPU2.out.2.2.below HB7.out) gr);exact⟨((HK2.out.trans (L.cd HB7.out)).trans (KeepsOthers.setCell _ _ _)).from _,fun _=>HR.out.1.bx,_,_,_,by rw[HYS.out,map_append,HY1.out];exact HR.out.1,by rw[HAS'.out];rw[HYS.out,map_append,HY2.out];exact HR.out.2⟩
  ·refine⟨trivial,?_⟩;gi_wp2;have HR:=hid (Rf HPU2.out.2.1 HPU2.out.2.2 true);exact⟨(HK2.out.trans (KeepsOthers.setCell _ _ _)).from _,fun _=>HR.out.1.bx,_,_,_,by rw[HYS.out,map_append,HY1.out];exact HR.out.1,by rw[HAS'.out];rw[HYS.out,map_append,HY2.out];exact HR.out.2⟩
 case done =>
  rintro D ys W hD rfl ⟨vo,vf,vs,hS,hP⟩ hK;have HYS:Hid (ysP n X hy (jX n X)=(spl X).map fun l=>one l hy):=by show _=_;rw[<-HCUT.out,map_map];rfl
  have HPRC:Hid (prc X hy=if il (ysP n X hy (jX n X))=true then (ysP n X hy (jX n X)).map dV else ysP n X hy (jX n X)):=by show _=_;rw[HYS.out];rfl
  have HYB:Hid (∀ y∈ysP n X hy (jX n X),(0<=y.2/\y.2<=255\/y.2=512)/\y.1.length<=10000):=fun y hy'=>by obtain⟨p,hp,rfl⟩:=List.mem_map.1 hy';exact⟨Rx _ hy,sJ _ hy (by have:=An X n p;omega)⟩
  have HYN:Hid ((ysP n X hy (jX n X)).length<=8193):=by show _<=_;rw[HYS.out,length_map];have:=eK X;rw[HN.out]at this;omega
  obtain⟨Ys,hYs⟩:=Ex' (ysP n X hy (jX n X));rw[hYs]at hS hP HPRC HYB HYN;have HQ:=hid (Qr.of hS hP);obtain⟨m,hm⟩:=Ex' Ys.length;rw[hm]at HQ HYN;have HM:=hid hm;obtain⟨ao,co,hvo⟩:=eN HQ.out.out;subst hvo;obtain⟨af,cf,hvf⟩:=eO HQ.out.flt;subst hvf;have HBO:=hid hS.bo;have HBF:=hid hP.bf;have HBE:=hid hS.be;have hb4:=hS.b4;have hcr:=hP.br.cell;have hco:=hS.bo.cell;have hcf:=hP.bf.cell;obtain⟨rt,hrt⟩:=Ex' (il Ys);rw[hrt]at HPRC hcr;have HK:=hid hK;clear hYs hm hrt hS hP HYS hSo hPf hbx;cases rt with
  | true =>
   have HPX:Hid (prc X hy=Ys.map dV):=HPRC.out;have hmz:m<=100000:=by have:=HYN.out;omega
   gi_wp2_with (refine⟨trivial,?_⟩;gi_at_call 172;refine(callsIn_wide.2 (xt W0.heap.size _ _ m vs Ys W hmz hb4 HYB.out HQ.out)).mono ?_;rintro e w7 ⟨rfl,hq7,B7,K7⟩;have HQ7:=hid hq7;have HB7:=hid B7;have HK7:=hid K7;clear hq7 B7 K7);have HBO7:=hid ((HB7.out.block _ (by omega)).trans HBO.out);have HBF7:=hid ((HB7.out.block _ (by omega)).trans HBF.out);have HBE7:=hid (HBE.out.trans (HB7.out.mono (by omega)));have hK7:=hid (HK7.out.same D _ HK.out rfl);have h1:w7.cell? ⟨w.heap.size+1,0,none⟩=some (.slice ao m co):=Boxed.cell HBO7.out;have h2:w7.cell? ⟨w.heap.size+1+1,0,none⟩=some (.slice af m cf):=Boxed.cell HBF7.out;have h3:w7.frozen? ⟨w.heap.size+1,0,none⟩=false:=Boxed.frozen HBO7.out;have h4:w7.frozen? ⟨w.heap.size+1+1,0,none⟩=false:=Boxed.frozen HBF7.out;have h5:=(aE (t:=137) (t':=136) HBF7.out HBO7.out (by decide) (.slice ao m co)).cell;have h6:=(aE (t:=137) (t':=136) HBF7.out HBO7.out (by decide) (.slice ao m co)).frozen;have HFW:=hid (rE HQ7.out HBO7.out HBF7.out HBE7.out (by omega) (by omega) (by omega) (by omega) hK7.out)
   gi_region
   all_goals gi_wp2
   obtain⟨z1,z2,z3,z4⟩:=HFW.out;refine⟨by simp,.inl ⟨_,_,rfl,run_takeDeferred (by exact z1),?_⟩⟩;have y4:=z4.below ((Below.refl _ _).drew);obtain⟨V,hV⟩:=Ex' (((w7.setCell ⟨w.heap.size+1,0,none⟩ (.slice ao m co)).setCell ⟨w.heap.size+1+1,0,none⟩ (.slice af m cf)).drew.putObj D (.deferred none));have y2:V.cell? ⟨w.heap.size+1,0,none⟩=some (.slice ao m co):=by rw[<-hV];exact z2.cell
   have y3:V.cell? ⟨w.heap.size+1+1,0,none⟩=some (.slice af m cf):=by rw[<-hV];exact z3.cell
   have y5:Pr w V (.slice ao m co) (.slice af m cf) m vs (Ys.map dV):=by rw[<-hV];exact y4
   rw[hV];clear hV z1 z2 z3 z4 y4;refine⟨.tuple #[.slice ao m co,.slice af m cf],?_,⟨_,_,vs,rfl,?_⟩⟩
   ·rw[fK (p:=4) (u:=5) (ty:=136) (tz:=137) rfl];have hl1:(loadVar 136 ⟨w.heap.size+1,0,none⟩).run prog V=.ok (.slice ao m co) V:=by go_simp
    have hl2:(loadVar 137 ⟨w.heap.size+1+1,0,none⟩).run prog V=.ok (.slice af m cf) V:=by go_simp
    simp[asAddr,Result.andThen,hl1,hl2]
   ·rw[HPX.out,length_map,HM.out];exact y5
  | false =>
   have HPX:Hid (prc X hy=Ys):=by show _=_;rw[HPRC.out];rfl
   gi_wp2_with fail;have h1:W.cell? ⟨w.heap.size+1,0,none⟩=some (.slice ao m co):=Boxed.cell HBO.out;have h2:W.cell? ⟨w.heap.size+1+1,0,none⟩=some (.slice af m cf):=Boxed.cell HBF.out;have h3:W.frozen? ⟨w.heap.size+1,0,none⟩=false:=Boxed.frozen HBO.out;have h4:W.frozen? ⟨w.heap.size+1+1,0,none⟩=false:=Boxed.frozen HBF.out;have h5:=(aE (t:=137) (t':=136) HBF.out HBO.out (by decide) (.slice ao m co)).cell;have h6:=(aE (t:=137) (t':=136) HBF.out HBO.out (by decide) (.slice ao m co)).frozen;have HFW:=hid (rE HQ.out HBO.out HBF.out HBE.out (by omega) (by omega) (by omega) (by omega) HK.out)
   gi_region
   all_goals gi_wp2
   obtain⟨z1,z2,z3,z4⟩:=HFW.out;refine⟨by simp,.inl ⟨_,_,rfl,run_takeDeferred (by exact z1),?_⟩⟩;have y4:=z4.below ((Below.refl _ _).drew);obtain⟨V,hV⟩:=Ex' (((W.setCell ⟨w.heap.size+1,0,none⟩ (.slice ao m co)).setCell ⟨w.heap.size+1+1,0,none⟩ (.slice af m cf)).drew.putObj D (.deferred none));have y2:V.cell? ⟨w.heap.size+1,0,none⟩=some (.slice ao m co):=by rw[<-hV];exact z2.cell
   have y3:V.cell? ⟨w.heap.size+1+1,0,none⟩=some (.slice af m cf):=by rw[<-hV];exact z3.cell
   have y5:Pr w V (.slice ao m co) (.slice af m cf) m vs Ys:=by rw[<-hV];exact y4
   rw[hV];clear hV z1 z2 z3 z4 y4;refine⟨.tuple #[.slice ao m co,.slice af m cf],?_,⟨_,_,vs,rfl,?_⟩⟩
   ·rw[fK (p:=4) (u:=5) (ty:=136) (tz:=137) rfl];have hl1:(loadVar 136 ⟨w.heap.size+1,0,none⟩).run prog V=.ok (.slice ao m co) V:=by go_simp
    have hl2:(loadVar 137 ⟨w.heap.size+1+1,0,none⟩).run prog V=.ok (.slice af m cf) V:=by go_simp
    simp[asAddr,Result.andThen,hl1,hl2]
   ·rw[HPX.out,HM.out];exact y5
 case stop =>
  rintro D c pre W _ _ h _;exact h.elim
theorem lL{xs:List (List Int×Int)}{ts:List ByteArray}(h:bS xs ts):¬ tY xs:=by
 rintro⟨x,hx,hb⟩;obtain⟨i,hi,rfl⟩:=List.mem_iff_getElem.1 hx;have h1:=h.2 i hi;rw[getElem?_eq_getElem hi]at h1;rcases hb with hb | hb
 ·exact hb h1.1
 ·exact hb ⟨_,h1.2⟩
theorem lK(X:List Int)(hy:Bool)(hX:X.length<=10000)(hs:Scs X):∀ x∈prc X hy,(0<=x.2/\x.2<=768)/\x.1.length<=10000/\Scs x.1:=by
 have k:∀ x∈(spl X).map (fun l=>one l hy),0<=x.2/\x.2<=512/\x.1.length<=10000:=fun x hx=>by obtain⟨l,hl,rfl⟩:=List.mem_map.1 hx;exact⟨one_nonneg l hy,one_le l hy,sJ l hy (by have:=uB X l hl;omega)⟩
 intro x hx;have hsc:=Ft hy hs x hx;unfold prc at hx;split at hx
 ·obtain⟨y,hy',rfl⟩:=List.mem_map.1 hx;have:=k y hy';refine⟨⟨?_,?_⟩,this.2.2,hsc⟩
  ·unfold dV;simp only;split <;> omega
  ·unfold dV;simp only;split <;> omega
 ·have:=k x hx;exact⟨⟨this.1,by omega⟩,this.2.2,hsc⟩
theorem zW(X:List Int)(hy:Bool):0<(prc X hy).length:=by rw[mT];obtain⟨a,t,h⟩:=aV X;rw[h];simp
theorem gI{xs:List (List Int×Int)}{ts:List ByteArray}(h:bS xs ts)(hx:∀ x∈xs,x.1.length<=10000):∀ t∈ts,t.size<=20000:=by
 intro t ht;obtain⟨i,hi,rfl⟩:=List.mem_iff_getElem.1 ht;have hi':i<xs.length:=by rw[<-h.1];exact hi
 have h1:=(h.2 i hi').2;rw[getElem?_eq_getElem hi',getElem?_eq_getElem hi]at h1;have h2:=Gj h1;have h3:=hx _ (getElem_mem hi');rw[<-U.aa];simp only[getD_some]at h2;omega
theorem RW{w0 w:World}{vo vf:Value}{n:Nat}{vs:List Value}{xs:List (List Int×Int)}(hn:n<=10000)(hp:0<n)(hb:∀ x∈xs,(0<=x.2/\x.2<=768)/\x.1.length<=10000/\Scs x.1)(hP:Pr w0 w vo vf n vs xs)(hbad:tY xs):
  Calls prog 112 #[vo,vf] w fun e W'=>e=.panicked (gA 70)/\Below w.heap.size w W' :=
 (iQ w0 w vo vf n vs xs hn hp hb hP).mono (by
   rintro e W' ⟨⟨ts,cap,h,_⟩ | ⟨_,h⟩,hB⟩
   · exact absurd hbad (lL h)
   · exact⟨h,hB⟩)
theorem QD{w0 w:World}{vo vf:Value}{n:Nat}{vs:List Value}{xs:List (List Int×Int)}(hn:n<=10000)(hp:0<n)(hb:∀ x∈xs,(0<=x.2/\x.2<=768)/\x.1.length<=10000/\Scs x.1)(hP:Pr w0 w vo vf n vs xs)(hbad:¬ tY xs):
  Calls prog 112 #[vo,vf] w fun e W'=>(∃ ts cap,bS xs ts/\e=.returned (.slice (some ⟨w.heap.size,0,none⟩) n cap)/\W'.ownsRow w.heap.size 9 1 (.slice (some ⟨w.heap.size,0,none⟩) n cap) n (ts.map Value.string))/\Below w.heap.size w W' :=
 (iQ w0 w vo vf n vs xs hn hp hb hP).mono (by
   rintro e W' ⟨h | ⟨h,_⟩,hB⟩
   · exact⟨h,hB⟩
   · exact absurd h hbad)
theorem AF{W:World}{Bn Be:Nat}{t:ByteArray}{r:Int}(hn:Boxed W Bn 9 (.string t))(he:Boxed W Be 30 (.int .i64 r))(tmps:Array Value)(h6:tmps.getD 6 undef=.pointer (some ⟨Bn,0,none⟩))(h7:tmps.getD 7 undef=.pointer (some ⟨Be,0,none⟩)):
  (results Tryz.f62 tmps).run prog W=.ok (.tuple #[.string t,.int .i64 r]) W:=by
 have c1:=hn.cell;have c2:=he.cell;rw[fK (p:=6) (u:=7) (ty:=9) (tz:=30) rfl,h6,h7];have hl1:(loadVar 9 ⟨Bn,0,none⟩).run prog W=.ok (.string t) W:=by go_simp
 have hl2:(loadVar 30 ⟨Be,0,none⟩).run prog W=.ok (.int .i64 r) W:=by go_simp
 simp[asAddr,Result.andThen,hl1,hl2]
theorem ql{R:Ending->World->Prop}{Bn Be B:Nat}{x:ByteArray}{y r:Int}{w:World}(tmps:Array Value)(h6:tmps.getD 6 undef=.pointer (some ⟨Bn,0,none⟩))(h7:tmps.getD 7 undef=.pointer (some ⟨Be,0,none⟩))(b1:B<=Bn)(b2:B<=Be)(hn:Boxed w Bn 9 (.string x))(he:Boxed w Be 30 (.int .i64 y))
  (h:∀ w',Below B w w'->R (.returned (.tuple #[.string ⟨#[]⟩,.int .i64 r])) w') :
  Leaves prog Tryz.f62 tmps R [{ target:=.fn (.func 111) #[.pointer (some ⟨Bn,0,none⟩),.pointer (some ⟨Be,0,none⟩)],args:=#[] }] (.panicking (gA r)) w:=by
 refine leaves_cons (f:=111) (args:=#[.pointer (some ⟨Bn,0,none⟩),.pointer (some ⟨Be,0,none⟩)]) (by simp) (by simp[go_sem]) ?_;refine(mJ B Bn Be b1 b2 x y r w hn he).mono ?_;rintro e u' w' ⟨rfl,rfl,h1,h2,hB⟩;show Leaves _ _ _ _ [] (settle _) w';simp only[settle];exact⟨_,AF h1 h2 tmps h6 h7,h w' hB⟩
theorem xm{R:Ending->World->Prop}{Bn Be:Nat}{t:ByteArray}{r:Int}{w:World}(tmps:Array Value)(h6:tmps.getD 6 undef=.pointer (some ⟨Bn,0,none⟩))(h7:tmps.getD 7 undef=.pointer (some ⟨Be,0,none⟩))(hn:Boxed w Bn 9 (.string t))(he:Boxed w Be 30 (.int .i64 r))
  (h:R (.returned (.tuple #[.string t,.int .i64 r])) w) :
  Leaves prog Tryz.f62 tmps R [{ target:=.fn (.func 111) #[.pointer (some ⟨Bn,0,none⟩),.pointer (some ⟨Be,0,none⟩)],args:=#[] }] .returning w:=by
 refine leaves_cons (f:=111) (args:=#[.pointer (some ⟨Bn,0,none⟩),.pointer (some ⟨Be,0,none⟩)]) (by simp) (by simp[go_sem]) ?_;refine(yZ Bn Be w).mono ?_;rintro e u' w' ⟨rfl,rfl,rfl⟩;show Leaves _ _ _ _ [] (settle _) w';simp only[settle];exact⟨_,AF hn he tmps h6 h7,h⟩
theorem RC{g n c:Nat}{ts:List ByteArray}{w:World}(hn:ts.length=n)(hp:0<n)(hnc:n<=c)(hnb:n<=10000)(hb:∀ t∈ts,t.size<=20000)(hc:∀ j,j<n->w.cell? ⟨g,j,none⟩=some (.string (ts[j]?.getD ⟨#[]⟩)))(hbad:me (ts.map U.bn)):
  Calls prog 114 #[.slice (some ⟨g,0,none⟩) n c] w fun e W'=>e=.panicked (gA 4)/\Below w.heap.size w W' :=
 (mv g n c ts w hn hp hnc hnb hb hc).mono (by
   rintro e W' ⟨⟨h,_⟩ | ⟨_,h⟩,hB⟩
   · exact absurd hbad h
   · exact⟨h,hB⟩)
theorem PD{g n c:Nat}{ts:List ByteArray}{w:World}(hn:ts.length=n)(hp:0<n)(hnc:n<=c)(hnb:n<=10000)(hb:∀ t∈ts,t.size<=20000)(hc:∀ j,j<n->w.cell? ⟨g,j,none⟩=some (.string (ts[j]?.getD ⟨#[]⟩)))(hbad:¬ me (ts.map U.bn)):
  Calls prog 114 #[.slice (some ⟨g,0,none⟩) n c] w fun e W'=>e=.returned (.tuple #[])/\Below w.heap.size w W' :=
 (mv g n c ts w hn hp hnc hnb hb hc).mono (by
   rintro e W' ⟨⟨_,h⟩ | ⟨h,_⟩,hB⟩
   · exact⟨h,hB⟩
   · exact absurd h hbad)
theorem Du(s:ByteArray)(hy long:Bool)(w:World)(hs:s.size<=4096)(hbad:tY (prc (Mp (U.dec (U.bn s))) hy)):
  Calls prog 62 #[.string s,.bool hy,.bool long] w fun e W'=>QN (prc (Mp (U.dec (U.bn s))) hy) long w e W':=by
 have hmf:∀(fn:Fn) (first cap:Array Value) (w:World),(Instr.makeFunc fn first cap).run prog w=.ok (.func fn first cap) w:=fun _ _ _ _=>rfl;have HPR:=hid (fun W=>mn s hy W hs);have hml:=ny (U.bn s) (U.aL s);rw[U.aa]at hml;have HSX:=nw _ (jh _ (U.aL s));have HEA:=hid (lK _ hy (by omega) HSX);have hpos:=zW (Mp (U.dec (U.bn s))) hy;have hxl:=mT (Mp (U.dec (U.bn s))) hy;have hsl:=eK (Mp (U.dec (U.bn s)));have HBAD:=hid hbad;obtain⟨xs,hxs⟩:=Ex' (prc (Mp (U.dec (U.bn s))) hy);rw[hxs]at HPR HEA hpos hxl HBAD ⊢;obtain⟨n,hn⟩:=Ex' xs.length;unfold JL at HPR;rw[hn]at HPR hpos hxl;have hnb:n<=8193:=by omega
 clear hxs hn hxl hsl hml hbad HSX
 go_enter_defers func62,ntmps62
 go_wp2_with(first
   | (go_at_call 112;refine(RW (by omega) hpos HEA.out HP.out HBAD.out).mono ?_;rintro e w4 ⟨rfl,B4⟩;have HB4:=hid B4;clear B4)
   | (go_at_call 113;refine(HPR.out _).mono ?_;rintro e w3 ⟨v3,f3,vs,rfl,hP⟩;have HP:=hid hP;obtain⟨a1,c1,rfl⟩:=eN hP.out;obtain⟨a2,c2,rfl⟩:=eO hP.flt;clear hP))
 have bN:=(Boxed.new w 9 (.string ⟨#[]⟩)).alloc (.cells #[.int .i64 0] 30);have bE:=Boxed.new (w.alloc (.cells #[.string ⟨#[]⟩] 9)) 30 (.int .i64 0);rw[size_alloc]at bE;have hb0:Below w.heap.size w ((w.alloc (.cells #[.string ⟨#[]⟩] 9)).alloc (.cells #[.int .i64 0] 30)):=((Below.refl _ w).alloc (le_refl _) _).alloc (by simp) _;have hB3:=HP.out.be;have hB4:=hB3.trans (HB4.out.mono hB3.size);have bN4:Boxed w4 _ _ _:=(hB4.block _ bN.lt).trans bN;have bE4:Boxed w4 _ _ _:=(hB4.block _ bE.lt).trans bE;have hB:=hb0.trans (hB4.mono (by simp;omega));refine ql _ rfl rfl (le_refl _) (le_succ _) bN4 bE4 (fun w' hw'=>?_);exact⟨⟨_,_,rfl,.inl ⟨HBAD.out,rfl,rfl⟩⟩,hB.trans hw'⟩
theorem zf(s:ByteArray)(hy long:Bool)(w:World)(hs:s.size<=4096)(hbad:¬ tY (prc (Mp (U.dec (U.bn s))) hy)):
  Calls prog 62 #[.string s,.bool hy,.bool long] w fun e W'=>QN (prc (Mp (U.dec (U.bn s))) hy) long w e W':=by
 have hmf:∀(fn:Fn) (first cap:Array Value) (w:World),(Instr.makeFunc fn first cap).run prog w=.ok (.func fn first cap) w:=fun _ _ _ _=>rfl;have HPR:=hid (fun W=>mn s hy W hs);have hml:=ny (U.bn s) (U.aL s);rw[U.aa]at hml;have HSX:=nw _ (jh _ (U.aL s));have HEA:=hid (lK _ hy (by omega) HSX);have hpos:=zW (Mp (U.dec (U.bn s))) hy;have hxl:=mT (Mp (U.dec (U.bn s))) hy;have hsl:=eK (Mp (U.dec (U.bn s)));have HBAD:=hid hbad;obtain⟨xs,hxs⟩:=Ex' (prc (Mp (U.dec (U.bn s))) hy);rw[hxs]at HPR HEA hpos hxl HBAD ⊢;obtain⟨n,hn⟩:=Ex' xs.length;have HN:=hid hn;unfold JL at HPR;rw[hn]at HPR hpos hxl;have hnb:n<=8193:=by omega
 clear hxs hn hxl hsl hml hbad HSX
 go_enter_defers func62,ntmps62
 go_upto_if 19 with(first
   | (go_at_call 112;refine(QD (by omega) hpos HEA.out HP.out HBAD.out).mono ?_;rintro e w4 ⟨⟨ts,cap,hpt,rfl,hr⟩,B4⟩;have HB4:=hid B4;have HPT:=hid hpt;have HR:=hid hr;clear B4 hpt hr)
   | (go_at_call 113;refine(HPR.out _).mono ?_;rintro e w3 ⟨v3,f3,vs,rfl,hP⟩;have HP:=hid hP;obtain⟨a1,c1,rfl⟩:=eN hP.out;obtain⟨a2,c2,rfl⟩:=eO hP.flt;clear hP))
 have bN:=(Boxed.new w 9 (.string ⟨#[]⟩)).alloc (.cells #[.int .i64 0] 30);have bE:=Boxed.new (w.alloc (.cells #[.string ⟨#[]⟩] 9)) 30 (.int .i64 0);rw[size_alloc]at bE;have hb0:Below w.heap.size w ((w.alloc (.cells #[.string ⟨#[]⟩] 9)).alloc (.cells #[.int .i64 0] 30)):=((Below.refl _ w).alloc (le_refl _) _).alloc (by simp) _;have hB3:=HP.out.be;have hB4:=hB3.trans (HB4.out.mono hB3.size);have HBN:=hid (show Boxed w4 _ _ _ from(hB4.block _ bN.lt).trans bN);have HBE:=hid (show Boxed w4 _ _ _ from(hB4.block _ bE.lt).trans bE);have HBB:=hid (hb0.trans (hB4.mono (by simp;omega)));have HTL:Hid (ts.length=n):=by show _=_;have h1:=HPT.out.1;have h2:=HN.out;omega
 have HSZ:=hid (gI HPT.out (fun x hx=>(HEA.out x hx).2.1));have HCC:Hid (∀ j,j<n->w4.cell? ⟨w3.heap.size,j,none⟩=some (.string (ts[j]?.getD ⟨#[]⟩))):=fun j hj=>by have h1:=HR.out.cellAt j (by omega);rw[getElem?_map,getElem?_eq_getElem (show j<ts.length by have:=HTL.out;omega)]at h1;rw[getElem?_eq_getElem (show j<ts.length by have:=HTL.out;omega)];exact h1
 have hcapp:n<=cap:=by
  rcases HR.out.2 with⟨h,_⟩ | ⟨g,cap',cur,h,_,_,hnc,_⟩
  ·cases h
  ·cases h;exact hnc
 have HJL:Hid ((join (ts.map U.bn)).length<=1000000000):=by
  show _<=_
  have h1:=cU (ts.map U.bn) 20000 (fun l hl=>by
    obtain⟨t,ht,rfl⟩:=List.mem_map.1 hl
    rw[U.aa]
    exact HSZ.out t ht)
  rw[length_map,HTL.out]at h1;have h2:n * (20000+1)<=10000 * 20001:=Nat.mul_le_mul (by omega) (by omega);omega
 clear bN bE hb0 hB3 hB4 HR HP HB4 HEA HPR;cases long with
 | false =>
  have HJ:=hid (oX w3.heap.size cap n ts HTL.out w4 HCC.out hpos hcapp (by omega) HJL.out);go_wp2_with(go_at_call 115;refine HJ.out.mono ?_;rintro e w6 ⟨⟨t,rfl,ht⟩,B6⟩;have HT:=hid ht;have bN6:Boxed w6 _ _ _:=((B6.block _ HBN.out.lt).trans HBN.out);have bE6:Boxed w6 _ _ _:=((B6.block _ HBE.out.lt).trans HBE.out);have cn6:=bN6.cell;have fn6:=bN6.frozen;have ce6:=bE6.cell;have fe6:=bE6.frozen;have ce7:=(bz bE6 bN6 (by decide) (.string t)).cell;have fe7:=(bz bE6 bN6 (by decide) (.string t)).frozen;have HN6:=hid bN6;have HE6:=hid bE6;have HB6:=Bt' HBB B6;clear ht B6 bN6 bE6);have xE:=bz HE6.out HN6.out (by decide) (.string t);have xN:=HN6.out.set (.string t);refine xm _ rfl rfl (bz xN xE (by decide) (.int .i64 0)) (xE.set (.int .i64 0)) ?_;exact⟨⟨_,_,rfl,.inr ⟨ts,HPT.out,.inr ⟨fun h=>absurd h.1 (by decide),HT.out,rfl⟩⟩⟩,(HB6.out.setCell (p:=⟨w.heap.size,0,none⟩) (le_refl _) _).setCell (p:=⟨w.heap.size+1,0,none⟩) (le_succ _) _⟩
 | true =>
  by_cases hbl:me (ts.map U.bn)
  ·have HM:=hid (RC HTL.out hpos hcapp (by omega) HSZ.out HCC.out hbl);have HBL:=hid hbl;clear hbl;go_wp2_with(go_at_call 114;refine HM.out.mono ?_;rintro e w5 ⟨rfl,B5⟩;have HB5:=hid B5;clear B5);have bN5:Boxed w5 _ _ _:=(HB5.out.block _ HBN.out.lt).trans HBN.out;have bE5:Boxed w5 _ _ _:=(HB5.out.block _ HBE.out.lt).trans HBE.out;refine ql _ rfl rfl (le_refl _) (le_succ _) bN5 bE5 (fun w' hw'=>?_);exact⟨⟨_,_,rfl,.inr ⟨ts,HPT.out,.inl ⟨rfl,HBL.out,rfl,rfl⟩⟩⟩,(HBB.out.trans (HB5.out.mono HBB.out.size)).trans hw'⟩
  ·have HM:=hid (PD HTL.out hpos hcapp (by omega) HSZ.out HCC.out hbl);have HBL:=hid hbl;clear hbl
   have HJW:Hid (∀ W,Below w4.heap.size w4 W->Calls prog 115 #[.slice (some ⟨w3.heap.size,0,none⟩) n cap,.string ⟨#[46]⟩] W fun e W'=>(∃ t,e=.returned (.string t)/\U.bn t=join (ts.map U.bn))/\Below W.heap.size W W'):=fun W hW =>
    oX w3.heap.size cap n ts HTL.out W (fun j hj=>(hW.cell (p:=⟨w3.heap.size,j,none⟩) (U.lt_of_cell (HCC.out j hj))).trans (HCC.out j hj)) hpos hcapp (by omega) HJL.out
   go_upto_region 7 with(go_at_call 114;refine HM.out.mono ?_;rintro e w5 ⟨rfl,B5⟩;have HB5:=hid B5;clear B5)
   have HJ:=hid (HJW.out w5 HB5.out);replace HBN:=hid (show Boxed w5 _ _ _ from(HB5.out.block _ HBN.out.lt).trans HBN.out);replace HBE:=hid (show Boxed w5 _ _ _ from(HB5.out.block _ HBE.out.lt).trans HBE.out);replace HBB:=hid (HBB.out.trans (HB5.out.mono HBB.out.size));go_wp2_with(go_at_call 115;refine HJ.out.mono ?_;rintro e w6 ⟨⟨t,rfl,ht⟩,B6⟩;have HT:=hid ht;have bN6:Boxed w6 _ _ _:=((B6.block _ HBN.out.lt).trans HBN.out);have bE6:Boxed w6 _ _ _:=((B6.block _ HBE.out.lt).trans HBE.out);have cn6:=bN6.cell;have fn6:=bN6.frozen;have ce6:=bE6.cell;have fe6:=bE6.frozen;have ce7:=(bz bE6 bN6 (by decide) (.string t)).cell;have fe7:=(bz bE6 bN6 (by decide) (.string t)).frozen;have HN6:=hid bN6;have HE6:=hid bE6;have HB6:=Bt' HBB B6;clear ht B6 bN6 bE6);have xE:=bz HE6.out HN6.out (by decide) (.string t);have xN:=HN6.out.set (.string t);refine xm _ rfl rfl (bz xN xE (by decide) (.int .i64 0)) (xE.set (.int .i64 0)) ?_;exact⟨⟨_,_,rfl,.inr ⟨ts,HPT.out,.inr ⟨fun h=>HBL.out h.2,HT.out,rfl⟩⟩⟩,(HB6.out.setCell (p:=⟨w.heap.size,0,none⟩) (le_refl _) _).setCell (p:=⟨w.heap.size+1,0,none⟩) (le_succ _) _⟩
theorem Dv(s:ByteArray)(hy long:Bool)(w:World)(hs:s.size<=4096):
  Calls prog 62 #[.string s,.bool hy,.bool long] w fun e W'=>QN (prc (Mp (U.dec (U.bn s))) hy) long w e W':=by
 by_cases h:tY (prc (Mp (U.dec (U.bn s))) hy)
 ·exact Du s hy long w hs h
 ·exact zf s hy long w hs h
theorem gJ{l p q:List Int}(h:Part l p)(k:Part l q):p=q:=by
 rcases h with⟨h1,rfl⟩ | ⟨h1,T,hE,_,_,_,rfl⟩
 ·exact((oC h1 q).1 k).symm
 ·rcases k with⟨k1,_⟩ | ⟨_,T',hE',_,_,_,rfl⟩
  ·rw[h1]at k1;cases k1
  ·rw[hE.one hE']
theorem qC{xs:List (List Int×Int)}{ts us:List ByteArray}(h:bS xs ts)(k:bS xs us):ts.map U.bn=us.map U.bn:=by
 apply List.ext_getElem
 ·simp[h.1,k.1]
 ·intro i h1 h2;rw[length_map]at h1 h2;have hi:i<xs.length:=by rw[<-h.1];exact h1
  have a:=(h.2 i hi).2;have b:=(k.2 i hi).2;rw[getElem?_eq_getElem hi,getElem?_eq_getElem h1]at a;rw[getElem?_eq_getElem hi,getElem?_eq_getElem h2]at b;simp only[getElem_map];exact gJ a b
def zp(xs:List (List Int×Int))(long:Bool)(t:ByteArray)(r:Int):Prop :=
 (tY xs/\t=⟨#[]⟩/\r=70)\/(∃ ts,bS xs ts/\((long=true/\me (ts.map U.bn)/\t=⟨#[]⟩/\r=4)\/(¬ (long=true/\me (ts.map U.bn))/\U.bn t=join (ts.map U.bn)/\r=0)))
theorem xl{xs:List (List Int×Int)}{long:Bool}{t u:ByteArray}{r q:Int}(h:zp xs long t r)(k:zp xs long u q):t=u/\r=q:=by
 rcases h with⟨h1,rfl,rfl⟩ | ⟨ts,h1,h2⟩
 ·rcases k with⟨k1,rfl,rfl⟩ | ⟨us,k1,_⟩
  ·exact⟨rfl,rfl⟩
  ·exact absurd h1 (lL k1)
 ·rcases k with⟨k1,_⟩ | ⟨us,k1,k2⟩
  ·exact absurd k1 (lL h1)
  ·rw[qC h1 k1]at h2;rcases h2 with⟨a,b,rfl,rfl⟩ | ⟨a,b,rfl⟩
   ·rcases k2 with⟨_,_,rfl,rfl⟩ | ⟨c,_⟩
    ·exact⟨rfl,rfl⟩
    ·exact absurd ⟨a,b⟩ c
   ·rcases k2 with⟨c,d,_⟩ | ⟨c,d,rfl⟩
    ·exact absurd ⟨c,d⟩ a
    ·exact⟨P.bC (b.trans d.symm),rfl⟩
theorem ze(s:ByteArray)(hy long:Bool)(w:World)(hs:s.size<=4096):
  Calls prog 62 #[.string s,.bool hy,.bool long] w fun e W'=>(∃ t r,e=.returned (.tuple #[.string t,.int .i64 r])/\zp (prc (Mp (U.dec (U.bn s))) hy) long t r)/\Below w.heap.size w W':=Dv s hy long w hs
theorem qZ{xs:List (List Int×Int)}{ts:List ByteArray}(h:bS xs ts):noF xs=true:=by unfold noF;rw[all_eq_true];intro x hx;obtain⟨i,hi,rfl⟩:=List.mem_iff_getElem.1 hx;have h1:=(h.2 i hi).1;rw[getElem?_eq_getElem hi]at h1;exact decide_eq_true h1
theorem Qg:∃ f:List Int->List Int,∀ l p,Part l p->f l=p:=by
 classical
 refine⟨fun l=>if h:∃ p,Part l p then h.choose else [],fun l p h=>?_⟩;have hex:∃ p,Part l p:=⟨p,h⟩;show(if h:∃ p,Part l p then h.choose else [])=p;rw[dif_pos hex];exact gJ hex.choose_spec h
theorem BF{prt:List Int->List Int}(prt_is:∀ l p,Part l p->prt l=p){xs:List (List Int×Int)}{ts:List ByteArray}(h:bS xs ts):(xs.map (·.1)).map prt=ts.map U.bn/\∀ l∈xs.map (·.1),Part l (prt l):=by
 have key:∀ i (hi:i<xs.length),Part xs[i].1 (U.bn (ts[i]'(by rw[h.1];exact hi))):=fun i hi=>by have h1:=(h.2 i hi).2;rw[getElem?_eq_getElem hi,getElem?_eq_getElem (show i<ts.length by rw[h.1];exact hi)]at h1;exact h1
 constructor
 ·apply List.ext_getElem
  ·simp[h.1]
  ·intro i h1 h2;simp only[length_map]at h1 h2;simp only[getElem_map];exact prt_is _ _ (key i h1)
 ·intro l hl;obtain⟨x,hx,rfl⟩:=List.mem_map.1 hl;obtain⟨i,hi,rfl⟩:=List.mem_iff_getElem.1 hx;rw[prt_is _ _ (key i hi)];exact key i hi
theorem uK{l:List Int}{hy:Bool}{ts:List ByteArray}(h:bS (prc (Mp (U.dec l)) hy) ts):
  prc (Mp (U.dec (join (ts.map U.bn)))) hy=prc (Mp (U.dec l)) hy/\∀ c∈join (ts.map U.bn),0<=c/\c<128:=by
 obtain⟨hok,hxs⟩:=OT (qZ h);obtain⟨prt,hprt⟩:=Qg;obtain⟨e1,hp⟩:=BF hprt h;have hch:∀ c∈join (ts.map U.bn),0<=c/\c<128:=by rw[<-e1];refine oY (p:=fun c=>0<=c/\c<128) ⟨by omega,by omega⟩ _ (fun a ha=>?_);obtain⟨y,hy',rfl⟩:=List.mem_map.1 ha;intro c hc;exact((aR (hok.flt y hy') (hp y hy')).2.2 c hc).1
 constructor
 ·have hd:U.dec (join (ts.map U.bn))=join (ts.map U.bn):=P.nh _ (fun c hc=>by have:=hch c hc;omega) (by
    unfold P.asc
    rw[all_eq_true]
    intro c hc
    exact decide_eq_true (hch c hc).2)
  rw[hd,<-e1,OF hok prt hp];exact hxs.symm
 ·exact hch
theorem zR{l:List Int}{a:ByteArray}{hy long:Bool}(h:zp (prc (Mp (U.dec l)) hy) long a 0):zp (prc (Mp (U.dec (U.bn a))) hy) long a 0/\∀ c∈U.bn a,0<=c/\c<128:=by
 rcases h with⟨_,_,h⟩ | ⟨ts,hp,⟨_,_,_,h⟩ | ⟨hnb,hj,_⟩⟩
 ·cases h
 ·cases h
 ·have hr:=uK hp;refine⟨?_,?_⟩
  ·rw[hj,hr.1];exact .inr ⟨ts,hp,.inr ⟨hnb,hj,rfl⟩⟩
  ·rw[hj];exact hr.2
theorem wJ(l:List Int)(h:U.Bytes l):∃ t:ByteArray,U.bn t=l:=by
 refine⟨⟨(l.map fun c=>UInt8.ofNat c.toNat).toArray⟩,?_⟩;unfold U.bn;rw[List.toList_toArray,map_map]
 conv=>rhs;rw[<-List.map_id l]
 apply List.map_congr_left;intro c hc;have:=h c hc;show(((UInt8.ofNat c.toNat).toNat:Nat):Int)=c;rw[UInt8.toNat_ofNat',mod_eq_of_lt (by omega)];omega
theorem Ix:∀(ls:List (List Int)),(∀ l∈ls,U.Bytes l)->∃ ts:List ByteArray,ts.map U.bn=ls
 | [],_=>⟨[],rfl⟩
 | l::ls,h=>by obtain⟨t,ht⟩:=wJ l (h l (by simp));obtain⟨ts,hts⟩:=Ix ls (fun x hx=>h x (by simp[hx]));exact⟨t::ts,by rw[map_cons,ht,hts]⟩
def ldd(c:Int):Prop:=ld c\/c=46
theorem Md{l:List Int}(h:∀ c∈l,ldd c)(hy:Bool):prc (Mp (U.dec l)) hy=(spl l).map fun x=>(x,0):=by
 have hasc:∀ c∈l,0<=c/\c<128:=fun c hc=>by have:=h c hc;unfold ldd ld at this;omega
 have hd:U.dec l=l:=P.nh _ (fun c hc=>by have:=hasc c hc;omega) (by
   unfold P.asc
   rw[all_eq_true]
   intro c hc
   exact decide_eq_true (hasc c hc).2)
 have hM:Mp l=l:=by unfold Mp;rw[lS _ (fun r hr=>.inl (eG r (by have:=h r hr;unfold ldd ld at this;omega)))];exact(jn l hasc).1
 have hl:∀ x∈spl l,∀ c∈x,ld c:=fun x hx c hc=>by
  have h1:=uC l x hx
  have key:∀(ls:List (List Int)),x∈ls->c∈join ls:=by
   intro ls
   induction ls with
   | nil=>intro h;simp at h
   | cons b t ih =>
    intro hm;cases t with
    | nil=>simp at hm;rw[<-hm];exact hc
    | cons d t =>
     rw[join];rcases List.mem_cons.1 hm with rfl | hm
     ·simp[hc]
     ·have:=ih hm;simp[this]
  have h2:=h c (by rw[<-iC l];exact key _ hx);rcases h2 with h2 | rfl
  ·exact h2
  ·exact absurd hc h1
 have hm:(spl l).map (fun x=>one x hy)=(spl l).map fun x=>(x,0):=List.map_congr_left (fun x hx=>vq (PJ x hy (hl x hx)));rw[hd,hM];unfold prc;rw[hm];have hr:il ((spl l).map fun x=>(x,(0:Int)))=false:=by unfold il;rw[any_map,List.any_eq_false];intro x hx;have:=Hj x (hl x hx);simp[this]
 rw[if_neg (by rw[hr];decide)]
theorem vN{t:ByteArray}(h:∀ c∈U.bn t,ldd c)(hy:Bool):zp (prc (Mp (U.dec (U.bn t))) hy) false t 0:=by
 rw[Md h hy]
 have hpl:∀ x∈spl (U.bn t),∀ c∈x,0<=c/\c<128:=fun x hx c hc=>by
  have key:∀(ls:List (List Int)),x∈ls->c∈join ls:=by
   intro ls
   induction ls with
   | nil=>intro h;simp at h
   | cons b t ih =>
    intro hm;cases t with
    | nil=>simp at hm;rw[<-hm];exact hc
    | cons d t =>
     rw[join];rcases List.mem_cons.1 hm with rfl | hm
     ·simp[hc]
     ·have:=ih hm;simp[this]
  have h2:=h c (by rw[<-iC (U.bn t)];exact key _ hx);unfold ldd ld at h2;omega
 ·obtain⟨ts,hts⟩:=Ix (spl (U.bn t)) (fun x hx c hc=>by have:=hpl x hx c hc;omega);refine .inr ⟨ts,⟨?_,fun i hi=>?_⟩,.inr ⟨fun h=>absurd h.1 (by decide),by rw[hts,iC],rfl⟩⟩
  ·rw[length_map,<-hts,length_map]
  ·rw[length_map]at hi;have hit:i<ts.length:=by have:=congrArg List.length hts;rw[length_map]at this;omega
   rw[getElem?_map,getElem?_eq_getElem hi,getElem?_eq_getElem hit];refine⟨rfl,.inl ⟨cH.2 (hpl _ (getElem_mem hi)),?_⟩⟩;have:(ts.map U.bn)[i]? = (spl (U.bn t))[i]? := by rw[hts]
   rw[getElem?_map,getElem?_eq_getElem hit,getElem?_eq_getElem hi]at this;exact Option.some.inj this
end I
end Go.Proofs.YtmkompnhefhngaaGreatDoor
