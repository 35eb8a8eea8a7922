/- Texts one behind the other: LD LE LF. -/
import Derived.Test.YtkekkbciiohbkaaGreatDoorZ20
set_option maxRecDepth 100000
set_option maxHeartbeats 16000000
set_option linter.unusedVariables false
set_option linter.unnecessarySimpa false
namespace Go.Proofs.YtkekkbciiohbkaaGreatDoor.L
open Go.RowKit Go.Shelf
attribute [local go_sem] Oper.semAt_some
theorem rK{p:Int→Bool}{f:Int→Int}{pre t:List Int}{x:Int}{z:Int}(h:pre.all (fun r=>!p r)=true)(hx:p x=true):(((pre++[x]++t).find? p).map f).getD z=f x:=by
 have:pre.find? p=none:=by
  rw[List.find?_eq_none];intro r hr
  have:=List.all_eq_true.1 h r hr
  simpa using this
 rw[List.append_assoc,List.find?_append,this];simp[hx]
theorem oz{p:Int→Bool}{f:Int→Int}{ys:List Int}{z:Int}(h:ys.all (fun r=>!p r)=true):((ys.find? p).map f).getD z=z:=by
 have:ys.find? p=none:=by
  rw[List.find?_eq_none];intro r hr
  have:=List.all_eq_true.1 h r hr
  simpa using this
 rw[this];rfl
def pJ(r:Int):Bool:=decide (joi r≠4)
def pB(r:Int):Bool:=decide (bid r≠8)
theorem EJ(L:List Int)(i st:Int):nb L i st=(((rem L st (i+st)).find? pJ).map joi).getD 0:=rfl
theorem Dv(r:Int):(dir r=256)↔bid r=8:=by
 have h:=mX r
 constructor
 ·intro e
  have:=jK r 8;rw[e]at this;have h2:Nat.testBit 256 8=true:=by decide
  rw[h2]at this
  simpa using this.symm
 ·intro e
  unfold dir;rw[e];rfl
theorem iK(v:Value)(L:List Int)(i st:Int)(w:World)(hs:st=1∨st=-1)(hi0:0≤i)(hi1:i<L.length)(hlen:L.length≤100000)(hv:U.au w v L):
  Calls Tryz.prog 310 #[v,.int .i64 i,.int .i64 st] w fun e W'=>e=.returned (.int .u8 (nb L i st))∧Below w.heap.size w W':=by
 have hsh:∃ a m c,v=.slice a m c:=by
  obtain⟨a,c,e,_⟩:=aF hv;exact⟨a,_,c,e⟩
 have hln:∃ a c,v=.slice a L.length c:=by
  obtain⟨a,c,e,_⟩:=aF hv;exact⟨a,c,e⟩
 obtain⟨va,vc,hve⟩:=hln;refine(callsIn_wide (n:=3)).1 ?_;refine callsIn_of_wp_marks Tryz.func310 rfl trivial ?_ rfl;simp only[Tryz.ntmps310,List.size_toArray,List.length_cons,List.length_nil,Nat.reduceAdd,Nat.reduceSub,Array.replicate_succ,Array.replicate_zero,List.push_toArray,List.append_toArray,List.nil_append,List.cons_append];have hst:=hs;have hii:i+st≤L.length∧i≤L.length∧(0:Int)≤i:=by omega
 have hval:=(fun x=>(⟨fun h=>decide_eq_true h,fun h=>decide_eq_false (fun h2=>h2 h)⟩:(joi x≠4→pJ x=true)∧(joi x=4→pJ x=false)));clear hst;subst hve
 gi_wp2_with fail
 refine⟨trivial,?_⟩;refine(og _ _ i st _ hsh).mono ?_;rintro e w' ⟨rfl,rfl⟩
 gi_wp2_with fail
 obtain⟨w1,hw1⟩:∃ w1,w.alloc (.cells #[.int .u8 0] 5)=w1:=⟨_,rfl⟩;have hs1:w1.heap.size=w.heap.size+1:=by rw[←hw1,World.size_alloc]
 have bO:Boxed w1 w.heap.size 5 (.int .u8 0):=by rw[←hw1];exact Boxed.new w 5 (.int .u8 0)
 have hB1:Below w.heap.size w w1:=by rw[←hw1];exact(Below.refl _ w).alloc (Nat.le_refl _) _
 have hFN:=Frm.new w1 (.slice va L.length vc) i st;rw[hw1];rw[hs1]at hFN;obtain⟨w4,hw4⟩:∃ w4,((w1.alloc (.cells #[.slice va L.length vc] 58)).alloc (.cells #[.int .i64 i] 3)).alloc (.cells #[.int .i64 st] 3)=w4:=⟨_,rfl⟩;have hs4:w4.heap.size=w.heap.size+4:=by rw[←hw4];simp only[World.size_alloc];omega
 have hB4:Below w.heap.size w w4:=by rw[←hw4];exact((hB1.alloc (by omega) _).alloc (by simp;omega) _).alloc (by simp;omega) _
 have bO4:Boxed w4 w.heap.size 5 (.int .u8 0):=by rw[←hw4];exact((bO.alloc _).alloc _).alloc _
 rw[hw4]at hFN ⊢
 refine wpIn_rangeFunc_ownF rfl (by omega) (gf:=305) (lb:=#[.pointer (some ⟨w.heap.size+1+1,0,none⟩),.pointer (some ⟨w.heap.size+1+2,0,none⟩),.pointer (some ⟨w.heap.size+1,0,none⟩)]) rfl trivial (enters_of Tryz.func305 (by kernel_rfl) rfl)
  (mK w 2 (by omega) _ _ _ i st _ L (hs) hii.2.2 hii.1 hii.2.1 hlen w4 hFN hv (Old.below hB4) (by omega)) rl (rm (by omega) (by omega) (by omega) (by omega)) (Below.refl _ _) (fun _=>rfl)
  (fun pre W=>((pre.all (fun r=>!pJ r)=true∧Boxed W w.heap.size 5 (.int .u8 0))∧Frm (w.heap.size+1+1) (w.heap.size+1+2) (w.heap.size+1) i st (.slice va L.length vc) W)∧Below w.heap.size w W)
  (fun c pre W=>(∃ q x,pre=q++[x]∧c=.ret∧q.all (fun r=>!pJ r)=true∧pJ x=true∧Boxed W w.heap.size 5 (.int .u8 (joi x)))∧Below w.heap.size w W)
  (OwnFrom.and (OwnFrom.and (OwnFrom.and (ownFrom_pure _ _) (Own.from (boxed_own _ _ _) _)) (Own.from (uK _ _ _ _ _ _) _)) (ownFrom_below (Nat.le_refl _) (by omega)))
  (fun c=>OwnFrom.and (fun s X Y row hs hg hr=>by
    obtain⟨q,x,h1,h2,h3,h4,h5⟩:=hs
    exact⟨q,x,h1,h2,h3,h4,Own.from (boxed_own w.heap.size 5 (fun(_:List Int)=>.int .u8 (joi x))) _ s X Y row h5 hg hr⟩) (ownFrom_below (Nat.le_refl _) (by omega)))
  ⟨⟨⟨rfl,bO4⟩,hFN⟩,hB4⟩
  (fun x=>{ tmps:=#[.slice va L.length vc,.int .i64 i,.int .i64 st,undef,undef,undef,.pointer (some ⟨w.heap.size,0,none⟩),.int .i32 x,undef,.slice va L.length vc,.int .i64 i,.int .i64 st,.func (.func 305) #[] #[.pointer (some ⟨w.heap.size+1+1,0,none⟩),.pointer (some ⟨w.heap.size+1+2,0,none⟩),.pointer (some ⟨w.heap.size+1,0,none⟩)],.int .i32 x,undef,undef,undef,undef,undef],defers:=[] }) ?assign ?body ?done ?stop
 case assign =>
  intro l x W K hK
  gi_wp2
  exact hK
 case body =>
  rintro l pre x W ⟨⟨⟨hp,hv1⟩,hF⟩,hB⟩ _
  have hcall:Calls Tryz.prog 314 #[.int .i32 x] W fun e W'=>e=.returned (.int .u8 (joi x))∧Below W.heap.size W W':=D.rq x W
  have HX:=hid (hval x);obtain⟨y,hy⟩:∃ y:Int,joi x=y:=⟨_,rfl⟩;rw[hy]at hcall HX;have HY:=hid hy;clear hy
  gi_wp2_with fail
  refine⟨trivial,?_⟩;refine(callsIn_wide.2 hcall).mono ?_;rintro e W1 ⟨rfl,B1⟩
  have hv2:Boxed W1 w.heap.size 5 (.int .u8 0):=(B1.block _ hv1.lt).trans hv1;have hc:=hv2.cell;have hf:=hv2.frozen;have hB2:=hB.trans (B1.mono hB.size);by_cases hq:y=4
  ·subst hq
   gi_wp2
   refine⟨bJ B1,fun h=>⟨iv B1 h.1,Old.below hB2⟩,⟨⟨?_,hv2⟩,iv B1 hF⟩,hB2⟩;rw[List.all_append,hp,List.all_cons,List.all_nil,HX.out.2 trivial];rfl
  ·have hq2:(y != 4)=true:=by simpa using hq
   have hq3:(y==4)=false:=by simpa using hq
   gi_wp2
   refine⟨(bJ B1).trans (KeepsOthers.setCell _ _ _),⟨pre,x,rfl,rfl,hp,HX.out.1 hq,?_⟩,hB2.setCell (p:=⟨w.heap.size,0,none⟩) (by simp) _⟩;rw[HY.out];exact hv2.set _
 case done =>
  rintro D ys W hD rfl ⟨⟨⟨hp,hv1⟩,hF⟩,hB⟩ hK
  have hc:=hv1.cell;have hf:=hv1.frozen
  gi_wp2
  have hK':=(KeepsOthers.setCell W ⟨w.heap.size,0,none⟩ (.int .u8 0)).same D _ hK rfl;refine⟨by simp,.inl ⟨_,_,rfl,run_takeDeferred hK',?_⟩⟩;have hc5:=cell_kept (World.cell?_setCell_same' W ⟨w.heap.size,0,none⟩ (.int .u8 0) (by rw[hc];rfl)) (grownBy_putObj' _ D (.deferred none)) (fun r e=>by cases e;exact⟨_,hK',rfl⟩);refine⟨.int .u8 0,?_,?_,(hB.setCell (p:=⟨w.heap.size,0,none⟩) (by simp) _).trans (belowK_b (w:=w) (Nat.le_refl _) _ D _ _ (by omega) hK' rfl rfl)⟩
  ·simp[results,Tryz.f310,go_sem,hc5]
  ·rw[EJ,oz hp]
 case stop =>
  rintro D c pre W hD hpre ⟨⟨q,x,rfl,rfl,hq,hx,hv1⟩,hB⟩ hK
  have hc:=hv1.cell
  gi_wp2
  refine⟨by simp,.inl ⟨_,_,rfl,run_takeDeferred hK,?_⟩⟩;have hc5:=cell_kept hc (grownBy_putObj' _ D (.deferred none)) (fun r e=>by cases e;exact⟨_,hK,rfl⟩);refine⟨.int .u8 (joi x),?_,?_,hB.trans (belowK_b (w:=w) (Nat.le_refl _) W D _ _ (by omega) hK rfl rfl)⟩
  ·simp[results,Tryz.f310,go_sem,hc5]
  ·obtain⟨t,ht⟩:=hpre
   rw[EJ,←ht,rK hq hx]
theorem rk(L:List Int):(gn L:Int)=(((rem L (-1) ((L.length:Int)+-1)).find? pB).map (fun r=>(dir r:Int))).getD 0:=by
 unfold gn rh rem;rw[if_neg (by omega),show((L.length:Int)+-1+1).toNat=L.length by omega,List.take_length];show _=Option.getD (Option.map _ (List.find? (fun r=>decide (bid r≠8)) L.reverse)) 0
 cases List.find? (fun r=>decide (bid r≠8)) L.reverse <;> rfl
def pM(r:Int):Int:=dir r
theorem rW(r:Int)(w:World):Calls Tryz.prog 215 #[.int .i32 r] w fun e W'=>e=.returned (.int .u16 (pM r))∧Below w.heap.size w W':=fe r w
theorem FA(x:Int):(pM x≠256→pB x=true)∧(pM x=256→pB x=false):=by
 have h:=Dv x;unfold pM pB
 constructor
 ·intro h1
  exact decide_eq_true (fun h2=>h1 (by rw[h.2 h2];rfl))
 ·intro h1
  exact decide_eq_false (fun h2=>h2 (h.1 (by omega)))
theorem ri(v:Value)(L:List Int)(w:World)(hlen:L.length≤100000)(hv:U.au w v L):
  Calls Tryz.prog 216 #[v] w fun e W'=>e=.returned (.int .u16 (gn L))∧Below w.heap.size w W':=by
 have hsh:∃ a m c,v=.slice a m c:=by
  obtain⟨a,c,e,_⟩:=aF hv;exact⟨a,_,c,e⟩
 have hln:∃ a c,v=.slice a L.length c:=by
  obtain⟨a,c,e,_⟩:=aF hv;exact⟨a,c,e⟩
 obtain⟨va,vc,hve⟩:=hln;refine(callsIn_wide (n:=3)).1 ?_;refine callsIn_of_wp_marks Tryz.func216 rfl trivial ?_ rfl;simp only[Tryz.ntmps216,List.size_toArray,List.length_cons,List.length_nil,Nat.reduceAdd,Nat.reduceSub,Array.replicate_succ,Array.replicate_zero,List.push_toArray,List.append_toArray,List.nil_append,List.cons_append];have hst:=(show(-1:Int)=1∨(-1:Int)=-1 from .inr rfl);have hii:(L.length:Int)+(-1)≤L.length∧(L.length:Int)≤L.length∧(0:Int)≤(L.length:Int):=by omega
 have hval:=FA;clear hst;subst hve
 gi_wp2_with fail
 refine⟨trivial,?_⟩;refine(og _ _ (L.length:Int) (-1) _ hsh).mono ?_;rintro e w' ⟨rfl,rfl⟩
 gi_wp2_with fail
 obtain⟨w1,hw1⟩:∃ w1,w.alloc (.cells #[.int .u16 0] 23)=w1:=⟨_,rfl⟩;have hs1:w1.heap.size=w.heap.size+1:=by rw[←hw1,World.size_alloc]
 have bO:Boxed w1 w.heap.size 23 (.int .u16 0):=by rw[←hw1];exact Boxed.new w 23 (.int .u16 0)
 have hB1:Below w.heap.size w w1:=by rw[←hw1];exact(Below.refl _ w).alloc (Nat.le_refl _) _
 have hFN:=Frm.new w1 (.slice va L.length vc) (L.length:Int) (-1);rw[hw1];rw[hs1]at hFN;obtain⟨w4,hw4⟩:∃ w4,((w1.alloc (.cells #[.slice va L.length vc] 58)).alloc (.cells #[.int .i64 (L.length:Int)] 3)).alloc (.cells #[.int .i64 (-1)] 3)=w4:=⟨_,rfl⟩;have hs4:w4.heap.size=w.heap.size+4:=by rw[←hw4];simp only[World.size_alloc];omega
 have hB4:Below w.heap.size w w4:=by rw[←hw4];exact((hB1.alloc (by omega) _).alloc (by simp;omega) _).alloc (by simp;omega) _
 have bO4:Boxed w4 w.heap.size 23 (.int .u16 0):=by rw[←hw4];exact((bO.alloc _).alloc _).alloc _
 rw[hw4]at hFN ⊢
 refine wpIn_rangeFunc_ownF rfl (by omega) (gf:=305) (lb:=#[.pointer (some ⟨w.heap.size+1+1,0,none⟩),.pointer (some ⟨w.heap.size+1+2,0,none⟩),.pointer (some ⟨w.heap.size+1,0,none⟩)]) rfl trivial (enters_of Tryz.func305 (by kernel_rfl) rfl)
  (mK w 2 (by omega) _ _ _ (L.length:Int) (-1) _ L ((show(-1:Int)=1∨(-1:Int)=-1 from .inr rfl)) hii.2.2 hii.1 hii.2.1 hlen w4 hFN hv (Old.below hB4) (by omega)) rl (rm (by omega) (by omega) (by omega) (by omega)) (Below.refl _ _) (fun _=>rfl)
  (fun pre W=>((pre.all (fun r=>!pB r)=true∧Boxed W w.heap.size 23 (.int .u16 0))∧Frm (w.heap.size+1+1) (w.heap.size+1+2) (w.heap.size+1) (L.length:Int) (-1) (.slice va L.length vc) W)∧Below w.heap.size w W)
  (fun c pre W=>(∃ q x,pre=q++[x]∧c=.ret∧q.all (fun r=>!pB r)=true∧pB x=true∧Boxed W w.heap.size 23 (.int .u16 (pM x)))∧Below w.heap.size w W)
  (OwnFrom.and (OwnFrom.and (OwnFrom.and (ownFrom_pure _ _) (Own.from (boxed_own _ _ _) _)) (Own.from (uK _ _ _ _ _ _) _)) (ownFrom_below (Nat.le_refl _) (by omega)))
  (fun c=>OwnFrom.and (fun s X Y row hs hg hr=>by
    obtain⟨q,x,h1,h2,h3,h4,h5⟩:=hs
    exact⟨q,x,h1,h2,h3,h4,Own.from (boxed_own w.heap.size 23 (fun(_:List Int)=>.int .u16 (pM x))) _ s X Y row h5 hg hr⟩) (ownFrom_below (Nat.le_refl _) (by omega)))
  ⟨⟨⟨rfl,bO4⟩,hFN⟩,hB4⟩
  (fun x=>{ tmps:=#[.slice va L.length vc,undef,.pointer (some ⟨w.heap.size,0,none⟩),.int .i32 x,undef,.slice va L.length vc,.slice va L.length vc,.int .i64 L.length,.func (.func 305) #[] #[.pointer (some ⟨w.heap.size+1+1,0,none⟩),.pointer (some ⟨w.heap.size+1+2,0,none⟩),.pointer (some ⟨w.heap.size+1,0,none⟩)],.int .i32 x,undef,undef,undef,undef,undef],defers:=[] }) ?assign ?body ?done ?stop
 case assign =>
  intro l x W K hK
  gi_wp2
  exact hK
 case body =>
  rintro l pre x W ⟨⟨⟨hp,hv1⟩,hF⟩,hB⟩ _
  have hcall:Calls Tryz.prog 215 #[.int .i32 x] W fun e W'=>e=.returned (.int .u16 (pM x))∧Below W.heap.size W W':=rW x W
  have HX:=hid (hval x);obtain⟨y,hy⟩:∃ y:Int,pM x=y:=⟨_,rfl⟩;rw[hy]at hcall HX;have HY:=hid hy;clear hy
  gi_wp2_with fail
  refine⟨trivial,?_⟩;refine(callsIn_wide.2 hcall).mono ?_;rintro e W1 ⟨rfl,B1⟩
  have hv2:Boxed W1 w.heap.size 23 (.int .u16 0):=(B1.block _ hv1.lt).trans hv1;have hc:=hv2.cell;have hf:=hv2.frozen;have hB2:=hB.trans (B1.mono hB.size);by_cases hq:y=256
  ·subst hq
   gi_wp2
   refine⟨bJ B1,fun h=>⟨iv B1 h.1,Old.below hB2⟩,⟨⟨?_,hv2⟩,iv B1 hF⟩,hB2⟩;rw[List.all_append,hp,List.all_cons,List.all_nil,HX.out.2 trivial];rfl
  ·have hq2:(y != 256)=true:=by simpa using hq
   have hq3:(y==256)=false:=by simpa using hq
   gi_wp2
   refine⟨(bJ B1).trans (KeepsOthers.setCell _ _ _),⟨pre,x,rfl,rfl,hp,HX.out.1 hq,?_⟩,hB2.setCell (p:=⟨w.heap.size,0,none⟩) (by simp) _⟩;rw[HY.out];exact hv2.set _
 case done =>
  rintro D ys W hD rfl ⟨⟨⟨hp,hv1⟩,hF⟩,hB⟩ hK
  have hc:=hv1.cell;have hf:=hv1.frozen
  gi_wp2
  have hK':=(KeepsOthers.setCell W ⟨w.heap.size,0,none⟩ (.int .u16 0)).same D _ hK rfl;refine⟨by simp,.inl ⟨_,_,rfl,run_takeDeferred hK',?_⟩⟩;have hc5:=cell_kept (World.cell?_setCell_same' W ⟨w.heap.size,0,none⟩ (.int .u16 0) (by rw[hc];rfl)) (grownBy_putObj' _ D (.deferred none)) (fun r e=>by cases e;exact⟨_,hK',rfl⟩);refine⟨.int .u16 0,?_,?_,(hB.setCell (p:=⟨w.heap.size,0,none⟩) (by simp) _).trans (belowK_b (w:=w) (Nat.le_refl _) _ D _ _ (by omega) hK' rfl rfl)⟩
  ·simp[results,Tryz.f216,go_sem,hc5]
  ·rw[rk,oz hp]
 case stop =>
  rintro D c pre W hD hpre ⟨⟨q,x,rfl,rfl,hq,hx,hv1⟩,hB⟩ hK
  have hc:=hv1.cell
  gi_wp2
  refine⟨by simp,.inl ⟨_,_,rfl,run_takeDeferred hK,?_⟩⟩;have hc5:=cell_kept hc (grownBy_putObj' _ D (.deferred none)) (fun r e=>by cases e;exact⟨_,hK,rfl⟩);refine⟨.int .u16 (pM x),?_,?_,hB.trans (belowK_b (w:=w) (Nat.le_refl _) W D _ _ (by omega) hK rfl rfl)⟩
  ·simp[results,Tryz.f216,go_sem,hc5]
  ·obtain⟨t,ht⟩:=hpre
   rw[rk,←ht,rK hq hx];rfl
open Go.RowKit
theorem DM(r:Int)(w:World):Calls Tryz.prog 256 #[.int .i32 r] w fun e W'=>e=.returned (.int .u8 (cls r))∧Below w.heap.size w W':=D.oG r w
def qX(x p q:Int):Bool:=decide (x=8204)&&((decide (p=1)||decide (p=3))&&(decide (q=2)||decide (q=3)))
theorem zw(L:List Int)(b off c n i:Nat)(w w1:World)(x:Int)(hi:i<n)(hn:L.length=n)(hlen:n≤100000)(hB:Below w.heap.size w w1)(hv:U.au w1 (.slice (some ⟨b,off,none⟩) n c) L)(hc:w1.cell? ⟨b,off+i,none⟩=some (.int .i32 x)):
  ∀ w2,w2=w1→∃ p q:Int,p=nb L i (-1)∧q=nb L i 1∧(Calls Tryz.prog 310 #[.slice (some ⟨b,off,none⟩) n c,.int .i64 i,.int .i64 (-1)] w1 fun e W'=>e=.returned (.int .u8 p)∧Below w1.heap.size w1 W') ∧
   (∀ w3,Below w1.heap.size w1 w3→Calls Tryz.prog 310 #[.slice (some ⟨b,off,none⟩) n c,.int .i64 i,.int .i64 1] w3 fun e W'=>e=.returned (.int .u8 q)∧Below w3.heap.size w3 W'):=by
 rintro w2 rfl
 refine⟨_,_,rfl,rfl,iK _ L i (-1) _ (.inr rfl) (by omega) (by omega) (by omega) hv,fun w3 h3=>?_⟩;exact iK _ L i 1 w3 (.inl rfl) (by omega) (by omega) (by omega) (hv.below h3 (Nat.le_refl _))
theorem CO(v:Value)(L:List Int)(i:Nat)(w:World)(hi:i<L.length)(hlen:L.length≤100000)(hv:U.au w v L):
  Calls Tryz.prog 299 #[v,.int .i64 i] w fun e W'=>e=.returned (.bool (may L i))∧Below w.heap.size w W':=by
 have HV:=hid hv;obtain⟨a,c,rfl,hf⟩:=aF hv;obtain⟨b,off,rfl,hc⟩:=hf (by omega);obtain⟨n,hn⟩:∃ n,L.length=n:=⟨_,rfl⟩;rw[hn]at HV hc hi hlen ⊢;have HN:=hid hn;have HC:=hid hc;have HM:Hid (may L i=((decide (0<i)&&decide (cls (L[i - 1]?.getD 0)=9))||qX (L[i]?.getD 0) (nb L i (-1)) (nb L i 1))):=rfl;obtain⟨R,hR⟩:∃ R,may L i=R:=⟨_,rfl⟩;rw[hR]at HM ⊢;clear hv hf hc hn hR
 have HK:∀ w1,Below w.heap.size w w1→∃ x p q:Int,x=L[i]?.getD 0∧p=nb L i (-1)∧q=nb L i 1∧w1.cell? ⟨b,off+i,none⟩=some (.int .i32 x)∧(Calls Tryz.prog 310 #[.slice (some ⟨b,off,none⟩) n c,.int .i64 i,.int .i64 (-1)] w1 fun e W'=>e=.returned (.int .u8 p)∧Below w1.heap.size w1 W') ∧
   (∀ w3,Below w1.heap.size w1 w3→Calls Tryz.prog 310 #[.slice (some ⟨b,off,none⟩) n c,.int .i64 i,.int .i64 1] w3 fun e W'=>e=.returned (.int .u8 q)∧Below w3.heap.size w3 W'):=by
  intro w1 B1
  have hcc:w1.cell? ⟨b,off+i,none⟩=some (.int .i32 (L[i]?.getD 0)):=(B1.cell (p:=⟨b,off+i,none⟩) (U.lt_of_cell (HC.out i hi))).trans (HC.out i hi);obtain⟨p,q,h1,h2,h3,h4⟩:=zw L b off c n i w w1 _ hi HN.out hlen B1 (HV.out.below B1 (Nat.le_refl _)) hcc w1 rfl;exact⟨_,p,q,rfl,h1,h2,hcc,h3,h4⟩
 have HKK:=hid HK;clear HK;by_cases h0:0<i
 ·obtain⟨k,hk1⟩:∃ k,i=k+1:=⟨i - 1,by omega⟩
  have ek:(i:Int) - 1=(k:Int):=by omega
  have h0z:(0:Int)<(i:Int):=by omega
  have hk:k<n:=by omega
  have hck:=HC.out k hk;have HCL:=hid (DM (L[k]?.getD 0) w);have hcb:=GK (L[k]?.getD 0);obtain⟨z,hz⟩:∃ z,cls (L[k]?.getD 0)=z:=⟨_,rfl⟩
  have HZM:Hid (R=(decide (z=9)||qX (L[i]?.getD 0) (nb L i (-1)) (nb L i 1))):=by
   show _=_
   rw[HM.out,show i - 1=k by omega,hz,decide_eq_true h0,Bool.true_and]
  rw[hz]at HCL hcb;obtain⟨y,hy⟩:∃ y,L[k]?.getD 0=y:=⟨_,rfl⟩;rw[hy]at HCL hck;clear hy HM hz hk1 h0;go_enter Tryz.func299,Tryz.ntmps299
  by_cases hz9:z=9
  ·subst hz9
   go_wp2_with(go_at_call 256;refine HCL.out.mono ?_;rintro e w1 ⟨rfl,B1⟩)
   go_ret;refine⟨?_,B1⟩;rw[HZM.out];simp
  ·have hz1:(z==9)=false:=by simpa using hz9
   go_upto_if 17 with(go_at_call 256;refine HCL.out.mono ?_;rintro e w1 ⟨rfl,B1⟩)
   obtain⟨x,p,q,hx,hp,hq,hcx,h1,h2⟩:=HKK.out w1 B1;have H1:=hid h1;have H2:=hid h2;have HMM:Hid (R=qX x p q):=by show _=_;rw[HZM.out,←hx,←hp,←hq,decide_eq_false hz9,Bool.false_or]
   clear hx hp hq h1 h2 HZM HKK;by_cases hx1:x=8204
   ·subst hx1
    go_wp2_with(first
      | (go_at_call 310;refine(H2.out _ B2).mono ?_;rintro e w3 ⟨rfl,B3⟩)
      | (go_at_call 310;refine H1.out.mono ?_;rintro e w2 ⟨rfl,B2⟩))
    all_goals (go_ret;refine⟨?_,(B1.trans (B2.mono B1.size)).trans (B3.mono (B1.trans (B2.mono B1.size)).size)⟩;rw[HMM.out];unfold qX;first | (simp_all;done) | (simp_all;rw[Bool.eq_iff_iff];simp;omega))
   ·have hx2:(x != 8204)=true:=by simpa using hx1
    have hx3:(x==8204)=false:=by simpa using hx1
    go_wp2;go_ret;refine⟨?_,B1⟩;rw[HMM.out];unfold qX;rw[decide_eq_false hx1];rfl
 ·obtain⟨x,p,q,hx,hp,hq,hcx,h1,h2⟩:=HKK.out w (Below.refl _ _)
  have H1:=hid h1;have H2:=hid h2;have HMM:Hid (R=qX x p q):=by show _=_;rw[HM.out,←hx,←hp,←hq,decide_eq_false h0];simp
  have h0z:¬ (0:Int)<(i:Int):=by omega
  clear hx hp hq h1 h2 HM HKK;go_enter Tryz.func299,Tryz.ntmps299
  by_cases hx1:x=8204
  ·subst hx1
   go_wp2_with(first
     | (go_at_call 310;refine(H2.out _ B2).mono ?_;rintro e w3 ⟨rfl,B3⟩)
     | (go_at_call 310;refine H1.out.mono ?_;rintro e w2 ⟨rfl,B2⟩))
   all_goals (go_ret;refine⟨?_,B2.trans (B3.mono B2.size)⟩;rw[HMM.out];unfold qX;first | (simp_all;done) | (simp_all;rw[Bool.eq_iff_iff];simp;omega))
  ·have hx2:(x != 8204)=true:=by simpa using hx1
   have hx3:(x==8204)=false:=by simpa using hx1
   go_wp2;go_ret;refine⟨?_,Below.refl _ _⟩;rw[HMM.out];unfold qX;rw[decide_eq_false hx1];rfl
theorem wD(v:Value)(L:List Int)(w:World)(hlen:L.length≤100000)(hv:U.au w v L):
  Calls Tryz.prog 272 #[v] w fun e W'=>e=.returned (.bool (jok L))∧Below w.heap.size w W':=by
 have HV:=hid hv;obtain⟨a,c,rfl,hf⟩:=aF hv;have HF:=hid hf;obtain⟨n,hn⟩:∃ n,L.length=n:=⟨_,rfl⟩;rw[hn]at HV HF hlen ⊢;have HN:=hid hn;have HNO:=hid (fun i h1 h2=>Gg L i h1 h2);have HYES:=hid (CZ L);rw[hn]at HNO HYES;obtain⟨R,hR⟩:∃ R,jok L=R:=⟨_,rfl⟩;rw[hR]at HNO HYES ⊢;clear hv hf hn hR;go_enter Tryz.func272,Tryz.ntmps272
 go_wp2_with fail
 go_loopw [7] (fun v7 wr=>∃ k:Nat,k≤n∧v7=.int .i64 k∧Hid (∀ j,j<k→jat L j=true)∧Hid (Below w.heap.size w wr)) (fun v7 _=>n - (intOf v7).toNat)
 case atStart=>exact⟨0,Nat.zero_le _,rfl,(fun j hj=>by omega),Below.refl _ _⟩
 case round =>
  obtain⟨k,hk,rfl,HA,HB⟩:=hrel;by_cases hlt:k<n
  ·obtain⟨b,off,rfl,hck⟩:=dS HF.out HB.out k hlt
   have HJ:Hid (jat L k=(!(decide (L[k]?.getD 0=8204)||decide (L[k]?.getD 0=8205))||may L k)):=rfl;have HM:=hid (CO _ L k wr (by rw[HN.out];exact hlt) (by rw[HN.out];exact hlen) (HV.out.below HB.out (Nat.le_refl _)))
   have HS:Hid (jat L k=true→∀ j,j<k+1→jat L j=true):=fun h j hj=>by
    by_cases e:j=k
    ·rw[e];exact h
    ·exact HA.out j (by omega)
   have HX:=hid (HNO.out k hlt);obtain⟨x,hx⟩:∃ x,L[k]?.getD 0=x:=⟨_,rfl⟩;rw[hx]at hck HJ;obtain⟨m,hm⟩:∃ m,may L k=m:=⟨_,rfl⟩;rw[hm]at HM HJ;clear hx hm;by_cases hq:x=8204∨x=8205
   ·have HJ2:Hid (jat L k=m):=by
     show _=_
     rw[HJ.out];rcases hq with h | h <;> simp[h]
    have hq2:((x==8204)||(x==8205))=true:=by simpa using hq
    cases m with
    | true =>
     rcases hq with rfl | rfl
     ·go_wp2_with(go_at_call 299;refine HM.out.mono ?_;rintro e w1 ⟨rfl,B1⟩)
      go_roundw
      case rel=>exact⟨k+1,by omega,by go_num,HS.out HJ2.out,HB.out.trans (B1.mono HB.out.size)⟩
      case measure=>simp[intOf];omega
     ·go_wp2_with(go_at_call 299;refine HM.out.mono ?_;rintro e w1 ⟨rfl,B1⟩)
      go_roundw
      case rel=>exact⟨k+1,by omega,by go_num,HS.out HJ2.out,HB.out.trans (B1.mono HB.out.size)⟩
      case measure=>simp[intOf];omega
    | false =>
     have HR:=hid (HX.out HJ2.out);rcases hq with rfl | rfl
     ·go_wp2_with(go_at_call 299;refine HM.out.mono ?_;rintro e w1 ⟨rfl,B1⟩)
      go_ret;exact⟨by rw[HR.out];rfl,HB.out.trans (B1.mono HB.out.size)⟩
     ·go_wp2_with(go_at_call 299;refine HM.out.mono ?_;rintro e w1 ⟨rfl,B1⟩)
      go_ret;exact⟨by rw[HR.out];rfl,HB.out.trans (B1.mono HB.out.size)⟩
   ·have HJ2:Hid (jat L k=true):=by
     show _=_
     rw[HJ.out,decide_eq_false (fun h=>hq (.inl h)),decide_eq_false (fun h=>hq (.inr h))];rfl
    have h1:(x==8204)=false:=by simp;omega
    have h2:(x==8205)=false:=by simp;omega
    have h3:¬ x=8204:=fun h=>hq (.inl h)
    have h4:¬ x=8205:=fun h=>hq (.inr h)
    clear hq;go_wp2
    go_roundw
    case rel=>exact⟨k+1,by omega,by go_num,HS.out HJ2.out,HB⟩
    case measure=>simp[intOf];omega
  ·have HR:=hid (HYES.out (fun j hj=>HA.out j (by omega)))
   go_wp2;go_ret;exact⟨by rw[HR.out];rfl,HB.out⟩
def uX(A F G:Nat):Bool :=
 if (bits .and .u16 (F:Int) 12 != 0)=true then ((bits .andNot .u16 (A:Int) 1021==0)&&(bits .and .u16 (G:Int) 156 != 0))&&(bits .and .u16 (A:Int) 144 != 144)
 else if (F:Int)=2 then (bits .andNot .u16 (A:Int) 883==0)&&(bits .and .u16 (G:Int) 18 != 0) else false
theorem Ih(r:Int):((dir r:Int)=2)↔bid r=1:=by
 have h:=mX r
 constructor
 ·intro e
  replace e:dir r=2:=by omega
  have:=jK r 1;rw[e]at this;have h2:Nat.testBit 2 1=true:=by decide
  rw[h2]at this
  simpa using this.symm
 ·intro e
  unfold dir;rw[e];rfl
theorem AM(r:Int)(t:List Int):uX (fY (r::t)) (dir r) (gn (r::t))=dJ (r::t):=by
 unfold uX;rw[Ea ⟨dir r,mR r⟩,Ee ⟨fY (r::t),jJ _⟩,Ec ⟨gn (r::t),rj _⟩,Eb ⟨fY (r::t),jJ _⟩,Ef ⟨fY (r::t),jJ _⟩,Ed ⟨gn (r::t),rj _⟩];simp only[rV,jK,Ih];rw[fm _ 1 (by omega),fm _ 2 (by omega),fm _ 3 (by omega),fm _ 4 (by omega),fm _ 7 (by omega)];simp only[dJ,Bool.or_eq_true,decide_eq_true_eq];show(if bid r=2∨bid r=3 then _ else _)=_
 split
 ·cases has (r::t) 1 <;> cases has (r::t) 4 <;> cases has (r::t) 7 <;> simp
 ·show(if bid r=1 then _ else _)=_
  rfl
theorem mW(v:Value)(L:List Int)(w:World)(hlen:L.length≤100000)(hv:U.au w v L):
  Calls Tryz.prog 162 #[v] w fun e W'=>e=.returned (.bool (dJ L))∧Below w.heap.size w W':=by
 have HV:=hid hv;obtain⟨a,c,rfl,hf⟩:=aF hv;by_cases h0:L.length=0
 ·have e:L=[]:=List.length_eq_zero_iff.1 h0
  subst e;clear hf hv HV hlen;go_enter Tryz.func162,Tryz.ntmps162
  go_wp2;go_ret;exact⟨rfl,Below.refl _ _⟩
 ·obtain⟨b,off,rfl,hc⟩:=hf (by omega)
  have hc0:=hc 0 (by omega)
  have HE:Hid (dJ L=uX (fY L) (dir (L[0]?.getD 0)) (gn L)):=by
   show _=_
   cases L with
   | nil=>exact absurd rfl h0
   | cons r t=>exact(AM r t).symm
  have HD:=hid (fun W (h:Below w.heap.size w W)=>gS _ L W hlen (HV.out.below h (Nat.le_refl _)));have HG:=hid (fun W (h:Below w.heap.size w W)=>ri _ L W hlen (HV.out.below h (Nat.le_refl _)));have HF:=hid (fe (L[0]?.getD 0));obtain⟨R,hR⟩:∃ R,dJ L=R:=⟨_,rfl⟩;obtain⟨A,hA⟩:∃ A,fY L=A:=⟨_,rfl⟩;obtain⟨F,hF⟩:∃ F,dir (L[0]?.getD 0)=F:=⟨_,rfl⟩;obtain⟨G,hG⟩:∃ G,gn L=G:=⟨_,rfl⟩;rw[hR,hA,hF,hG]at HE;rw[hA]at HD;rw[hG]at HG;rw[hF]at HF;rw[hR];obtain⟨x,hx⟩:∃ x,L[0]?.getD 0=x:=⟨_,rfl⟩;rw[hx]at hc0 HF;obtain⟨n,hn⟩:∃ n,L.length=n:=⟨_,rfl⟩;rw[hn]at HD HG h0 hlen ⊢;have h0z:¬ ((n:Int)=0):=by omega
  have h0b:((n:Int)==0)=false:=by simpa using h0z
  have hpos:(0:Int)<(n:Int):=by omega
  rw[Nat.add_zero]at hc0;have hx0:∀ y:N.aE w,y.W.cell? ⟨b,off,none⟩=some (.int .i32 x):=fun y=>(y.h.cell (p:=⟨b,off,none⟩) (U.lt_of_cell hc0)).trans hc0
  have hne:Nonempty (N.aE w):=⟨⟨w,Below.refl _ _⟩⟩;clear hR hA hF hG hx hn hf hc hv HV;go_enter Tryz.func162,Tryz.ntmps162
  go_wp2_with fail;refine N.ay (by kernel_rfl) (by kernel_rfl) ?_
  repeat (go_big_quiet_step ((first
    | (go_at_call 161;exact N.aE.call _ (HD.out _ (N.aE.h _)))
    | (go_at_call 215;exact N.aE.call _ (HF.out _))
    | (go_at_call 216;exact N.aE.call _ (HG.out _ (N.aE.h _))))))
  refine wpQuiet_nil ?_;rintro _ ⟨y,rfl⟩
  have hBy:=hid y.h
  generalize y.W=wy at *
  clear hx0 hne;go_wp2
  all_goals (go_ret;refine⟨?_,hBy.out⟩;rw[HE.out];unfold uX;simp_all)
end Go.Proofs.YtkekkbciiohbkaaGreatDoor.L
