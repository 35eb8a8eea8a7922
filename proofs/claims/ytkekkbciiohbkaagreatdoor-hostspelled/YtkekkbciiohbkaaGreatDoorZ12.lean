/- Texts one behind the other: NOB NCA. -/
import Derived.Test.YtkekkbciiohbkaaGreatDoorZ11
import Derived.Deep.OwnRows
set_option maxRecDepth 100000
set_option maxHeartbeats 16000000
set_option linter.unusedVariables false
set_option linter.unnecessarySimpa false
namespace Go.Proofs.YtkekkbciiohbkaaGreatDoor.N
open Go.RowKit Go.Shelf
attribute [local go_sem] Oper.semAt_some
theorem iM.later{g:Nat}{lb:Array Value}{xs:List Int}{w V:World}(h:iM g lb xs w)(hb:Below w.heap.size w V):iM g lb xs V :=
 fun l J W hW hJ hY h0 n=>h l J W (hb.trans (hW.mono hb.size)) hJ hY h0 n
theorem Tryz.info252:(Tryz.prog.info? 252).map (fun i=>(i.zero,i.size,i.bytes))=some (some (.agg #[.int .i32 0,.int .u8 0]),2,8):=by kernel_rfl
theorem ax{base B:Nat}{e:TypeId}{size:Nat}{v:Value}{n:Nat}{xs:List Value}{w w':World}(h:w.ownsRow base e size v n xs)(hb:Below B w w')(hB:w.heap.size≤B):w'.ownsRow base e size v n xs:=by
 rcases h with⟨h1,⟨rfl,h2⟩ | ⟨g,cap,cur,rfl,hbg,hg,h3⟩⟩
 ·exact⟨h1,.inl ⟨rfl,h2⟩⟩
 ·have hlt:g<w.heap.size:=(Array.getElem?_eq_some_iff.1 hg).1
  exact⟨h1,.inr ⟨g,cap,cur,rfl,hbg,(hb.block g (by omega)).trans hg,h3⟩⟩
def Ev(n0 B1 B2:Nat)(pre:List Int)(W:World):Prop :=
 ∃ v,Boxed W B1 201 v∧Boxed W B2 3 (.int .i64 ((st (pre.map pt)).1.length:Nat))∧W.ownsRow n0 252 2 v pre.length (aY ((st (pre.map pt)).1++(st (pre.map pt)).2))
theorem Ev.own(n0 B1 B2:Nat):Own (Ev n0 B1 B2):=by
 rintro s X Y row ⟨v,h1,h2,h3⟩ hg hr
 refine⟨v,boxed_own B1 201 (fun _=>v) s X Y row h1 hg hr,boxed_own B2 3 (fun _=>.int .i64 ((st (s.map pt)).1.length:Nat)) s X Y row h2 hg hr,h3.kept hg ?_⟩;rcases h3.2 with⟨rfl,_⟩ | ⟨g,cap,cur,rfl,_,hgb,_⟩
 ·exact .inl rfl
 ·refine .inr fun e'=>?_
  obtain⟨o,ho,hc⟩:=hr g (by simpa[Value.ownBlock]using e'.symm);rw[hgb]at ho;cases ho;cases hc
theorem Tryz.sizeOf252'(W:World):(sizeOf (Tryz.prog.elem 201)).run Tryz.prog W=.ok 2 W:=by kernel_rfl
theorem cQ{base n k:Nat}{v:Value}{O S:List Pt}{W:World}(hrow:W.ownsRow base 252 2 v n (aY (O++S)))(hk:O.length=k)(hn:n≤100000):
  ∃ v',(∀ W2,(Instr.slice 201 v (some (.int .i64 (k:Nat))) none none).run Tryz.prog W2=.ok v' W2) ∧
   Calls Tryz.prog 257 #[v'] W fun r W'=>r=.returned (.tuple #[])∧W'.ownsRow base 252 2 v n (aY (O++cP S))∧W.grownBy W' v.ownBlock:=by
 have hl:k+S.length=n:=by have:=hrow.1;rw[cw,List.length_append]at this;omega
 rcases id hrow.2 with⟨rfl,h0⟩ | ⟨g,cap,cur,rfl,hb,hg,hnc,_⟩
 ·have hS:S=[]:=List.length_eq_zero_iff.1 (by omega)
  have hk0:k=0:=by omega
  subst hS hk0;refine⟨.slice none 0 0,fun W2=>?_,(mq none 0 W).mono ?_⟩
  ·rw[run_slice_l W2 201 none 0 0 (by kernel_rfl) .i64 ((0:Nat):Int) (by omega) (by omega),Tryz.sizeOf252' W2]
   rfl
  ·rintro r W' ⟨rfl,rfl⟩
   exact⟨rfl,hrow,⟨rfl,rfl,rfl,Nat.le_refl _,fun _ _ _=>rfl⟩⟩
 ·by_cases hS:S=[]
  ·subst hS
   refine⟨.slice (if cap=k then some ⟨g,0,none⟩ else some ((⟨g,0,none⟩:Addr).add (k * 2))) 0 (cap - k),fun W2=>?_,(mq _ _ W).mono ?_⟩
   ·rw[run_slice_l W2 201 (some ⟨g,0,none⟩) n cap (by kernel_rfl) .i64 (k:Int) (by omega) (by simp at hl;omega),Tryz.sizeOf252' W2]
    simp only[Result.andThen,sliced,Int.toNat_natCast];have:n - k=0:=by simp at hl;omega
    rw[this];split <;> rfl
   ·rintro r W' ⟨rfl,rfl⟩
    exact⟨rfl,hrow,⟨rfl,rfl,rfl,Nat.le_refl _,fun _ _ _=>rfl⟩⟩
  ·have hSl:0<S.length:=List.length_pos_iff.2 hS
   refine⟨.slice (some ⟨g,k * 2,none⟩) (n - k) (cap - k),fun W2=>?_,?_⟩
   ·rw[run_slice_l W2 201 (some ⟨g,0,none⟩) n cap (by kernel_rfl) .i64 (k:Int) (by omega) (by omega),Tryz.sizeOf252' W2]
    simp only[Result.andThen,sliced,Int.toNat_natCast];rw[if_neg (by omega)];simp[Addr.add];omega
   ·have hp:Pts W g (k * 2) S:=by rw[←hk];exact eI hrow
    refine(vZ g (k * 2) (cap - k) (n - k) S W (by omega) (by omega) hp).mono ?_;rintro r W' ⟨rfl,h1,h2⟩
    have e:n - k=S.length:=by omega
    rw[e,←hk]at h2;rw[←hk]at h1;exact⟨rfl,qM hrow h2 h1 (cu S).len,h2.g⟩
theorem uF{base n:Nat}{v:Value}{X:List Value}{W:World}(hrow:W.ownsRow base 252 2 v n X)(W2:World):(Builtin.len_ #[201] 3 #[v]).run Tryz.prog W2=.ok (.int .i64 n) W2:=by
 rcases hrow.2 with⟨rfl,h0⟩ | ⟨g,cap,cur,rfl,_⟩
 ·subst h0;kernel_rfl
 ·rw[run_len_slice W2 201 3 _ _ _ (by kernel_rfl)];rfl
theorem fM{base n:Nat}{v:Value}{X:List Value}{W:World}(hrow:W.ownsRow base 252 2 v n X):∀ k,v.ownBlock=some k→∃ o:Obj,W.heap[k]? = some o∧o.isCells=true∧stays o=false:=by
 rcases hrow.2 with⟨rfl,h0⟩ | ⟨g,cap,cur,rfl,_,hg,_⟩
 ·intro k hk;simp[Value.ownBlock]at hk
 ·intro k hk
  obtain rfl:g=k:=by simpa[Value.ownBlock]using hk
  exact⟨_,hg,rfl,rfl⟩
theorem oH{W:World}{b:Nat}{t:TypeId}{v:Value}(h:Boxed W b t v)(ht:t=201∨t=3):∀ k,some b=some k→∃ o:Obj,W.heap[k]? = some o∧o.isCells=true∧stays o=false:=by
 intro k hk
 cases hk
 refine⟨_,h,rfl,?_⟩;rcases ht with rfl | rfl <;> rfl
theorem dD{base n:Nat}{v:Value}{X:List Value}{W:World}(hrow:W.ownsRow base 252 2 v n X)(k:Nat)(h:v.ownBlock=some k):base≤k∧k<W.heap.size:=hrow.lt k h
theorem zq(W:World)(x y:Value)(b:Nat)(hb:b=W.heap.size):∀ j z,([x,y]:List Value)[j]? = some z→(W.alloc (.cells #[x,y] 252)).cell? ((⟨b,0,none⟩:Addr).add j)=some z:=by
 intro j z hj
 subst hb;have hg:(W.alloc (.cells #[x,y] 252)).heap[W.heap.size]? = some (.cells #[x,y] 252 (0,0)):=heap_alloc_last W _;rcases j with _ | _ | j
 ·simp at hj;subst hj;show World.cell? _ ⟨W.heap.size,0,none⟩=_;unfold World.cell?;rw[hg];rfl
 ·simp at hj;subst hj;show World.cell? _ ⟨W.heap.size,1,none⟩=_;unfold World.cell?;rw[hg];rfl
 ·simp at hj
theorem lK{C B n:Nat}{w W Wx w5:World}{o:Obj}{v v5 rv:Value}{X Y:List Value}(hv:Boxed Wx B 201 v)(hr:Boxed Wx (B+1) 3 rv)(hrow:Wx.ownsRow B 252 2 v n X)(hgrow:(Wx.alloc o).grownBy w5 v.ownBlock)
  (hown:w5.ownsRow B 252 2 v5 (n+1) Y) (hk:Kp C W Wx) (hB:Below B w Wx) (hw:B≤w.heap.size) :
  Kp C W (w5.setCell ⟨B,0,none⟩ v5)∧(Boxed (w5.setCell ⟨B,0,none⟩ v5) B 201 v5∧Boxed (w5.setCell ⟨B,0,none⟩ v5) (B+1) 3 rv∧(w5.setCell ⟨B,0,none⟩ v5).ownsRow B 252 2 v5 (n+1) Y)∧Below B w (w5.setCell ⟨B,0,none⟩ v5):=by
 have hrowa:=hrow.alloc o;have hv5:Boxed w5 B 201 v:=(hv.alloc o).kept hgrow ((hv.alloc o).not_row (by decide) hrowa);have hr5:Boxed w5 (B+1) 3 rv:=(hr.alloc o).kept hgrow ((hr.alloc o).not_row (by decide) hrowa);have hg6:=grownBy_setCell' w5 B v5;refine⟨?_,⟨hv5.set v5,hr5.other (by omega) v5,hown.kept hg6 (.inr (fun e=>hv5.not_row (by decide) hown e.symm))⟩,?_⟩
 ·exact hk.trans ((Kp.below ((Below.refl _ Wx).alloc (Nat.le_refl _) o)).trans ((Kp.grown hgrow (fM hrowa)).trans (Kp.grown hg6 (oH hv5 (.inl rfl)))))
 ·have hBa:Below B w (Wx.alloc o):=hB.alloc (by have:=hB.size;omega) o
  have hBg:Below B w w5:=hBa.grown hgrow (by have:=hBa.size;omega) (fun k e=>(dD hrowa k e).1);exact hBg.grown hg6 (by have:=hBg.size;omega) (fun k e=>by cases e;exact Nat.le_refl _)
theorem fV(l:List Pt)(x c:Int):aY (l++[(x,c)])=aY l++[.int .i32 x,.int .u8 c]:=by simp[aY,c2]
theorem qP(gf:Nat)(lb:Array Value)(xs:List Int)(w:World)(hlen:xs.length≤100000)(eg:∀ args w,(callFunc gf args).run Tryz.prog w=.ok (.enter gf args) w)(hseq:iM gf lb xs w):
  Calls Tryz.prog 209 #[.func (.func gf) #[] lb] w fun e W'=>∃ v,e=.returned v∧W'.ownsRow w.heap.size 252 2 v xs.length (aY (ord (xs.map pt)))∧Below w.heap.size w W':=by
 refine(callsIn_wide (n:=3)).1 ?_;obtain⟨i0,hi,hz0,hz1,hz2⟩:=info_parts Tryz.info252;obtain⟨B,hB⟩:∃ B,B=w.heap.size:=⟨_,rfl⟩;obtain⟨V,hV⟩:∃ V,V=(w.alloc (.cells #[.slice none 0 0] 201)).alloc (.cells #[.int .i64 0] 3):=⟨_,rfl⟩;have b1:Boxed V B 201 (.slice none 0 0):=by rw[hV,hB];exact(Boxed.new w 201 _).alloc _
 have b2:Boxed V (B+1) 3 (.int .i64 0):=by rw[hV,hB];have:=Boxed.new (w.alloc (.cells #[.slice none 0 0] 201)) 3 (.int .i64 0);rwa [World.size_alloc]at this
 have hVb:Below B w V:=by rw[hV,hB];exact((Below.refl _ w).alloc (Nat.le_refl _) _).alloc (by simp) _
 have hVs:V.heap.size=B+2:=by rw[hV,hB];simp
 have hf:iM gf lb xs V:=hseq.later (by rw[←hB];exact hVb);refine callsIn_of_wp_marks Tryz.func209 rfl trivial ?_ rfl;simp only[Tryz.ntmps209,List.size_toArray,List.length_cons,List.length_nil,Nat.reduceAdd,Nat.reduceSub,Array.replicate_succ,Array.replicate_zero,List.push_toArray,List.append_toArray,List.nil_append,List.cons_append]
 gi_wp2_with fail
 rw[←hV,←hB];clear hV;have HB:=hid hB;clear hB
 refine gB (gf:=gf) (lb:=lb) (xs:=xs) rfl eg hf rfl (fun pre W=>Ev B B (B+1) pre W∧Below B w W)
  (OwnFrom.and (Own.from (Ev.own B B (B+1)) _) (ownFrom_below (Nat.le_of_eq HB.out) (by omega)))
  ⟨⟨_,b1,b2,World.ownsRow_nil _ _ _ _⟩,hVb⟩
  (fun x=>{ tmps:=#[.func (.func gf) #[] lb,undef,.slice none 0 0,.pointer (some ⟨B,0,none⟩),.pointer (some ⟨B+1,0,none⟩),.int .i32 x,undef,.func (.func gf) #[] lb,.int .i32 x,undef,undef,undef,undef,undef,undef,undef,undef,undef,undef,undef,undef,undef,undef,undef,undef,undef,undef,undef,undef,undef,undef,undef],defers:=[] }) ?assign ?body ?done
 case assign =>
  intro l' x W' m K hK
  gi_wp2
  exact hK
 case body =>
  rintro l' pre x W m ⟨⟨v,hv,hrw,hrow⟩,hB⟩ hpx
  have hpl:pre.length+1≤xs.length:=by have:=hpx.length_le;simpa using this
  gi_wp2_with fail
  refine⟨trivial,(fun h=>by cases h),?_⟩;refine(CallsIn.inRound l' (callsIn_wide.2 (D.oG x _))).mono ?_;rintro e W1 ⟨rfl,hB1⟩
  have HPX:=hid hpx;clear hpx;have hst:st ((pre++[x]).map pt)=stp (st (pre.map pt)) (x,cl x):=by rw[List.map_append,List.map_cons,List.map_nil,oV];rfl
  have hlO:(st (pre.map pt)).1.length+(st (pre.map pt)).2.length=pre.length:=by rw[yj,List.length_map]
  have hx2:(pt x).2=cl x:=rfl
  generalize hcl:(D.fnd x).2.2.2.2.2.1=c
  replace hcl:cl x=c:=hcl
  rw[hcl]at hst;obtain⟨O,hO⟩:∃ O,O=(st (pre.map pt)).1:=⟨_,rfl⟩;obtain⟨S,hS⟩:∃ S,S=(st (pre.map pt)).2:=⟨_,rfl⟩;have est:st (pre.map pt)=(O,S):=by rw[hO,hS]
  rw[est]at hst;rw[←hO]at hrw hlO;rw[←hS]at hlO;rw[←hO,←hS]at hrow;have HST:=hid hst;have HEST:=hid est;have HlO:=hid hlO;clear hst est hO hS hlO hcl hx2;obtain⟨W2,hW2⟩:∃ W2,W2=W1.alloc (.cells #[.int .i32 x,.int .u8 c] 252):=⟨_,rfl⟩;have hb2:Below W.heap.size W W2:=by rw[hW2];exact hB1.alloc hB1.size _
  have hv2:Boxed W2 B 201 v:=(hb2.block B hv.lt).trans hv;have hr2:Boxed W2 (B+1) 3 (.int .i64 (O.length:Nat)):=(hb2.block _ hrw.lt).trans hrw;have hrow2:W2.ownsRow B 252 2 v pre.length (aY (O++S)):=ax hrow hb2 (Nat.le_refl _);have hp2:W2.heap[W1.heap.size]? = some (.cells #[.int .i32 x,.int .u8 c] 252 (0,0)):=by rw[hW2];exact heap_alloc_last W1 _
  have hgl:∀ k,v.ownBlock=some k→k<W1.heap.size:=fun k hk=>Nat.lt_of_lt_of_le (dD hrow k hk).2 hB1.size
  have hBw2:Below B w W2:=hB.trans (hb2.mono (by have:=hB.size;have:=HB.out;omega));have hk2:Kp V.heap.size W W2:=Kp.below hb2;have hs1:B+1<W1.heap.size:=Nat.lt_of_lt_of_le hrw.lt hB1.size;have hws:W2.heap.size=W1.heap.size+1:=by rw[hW2];simp
  have HB1:=hid hB1;clear hB1 hrow hrw hv hB hb2;by_cases hc0:c=0
  ·subst hc0
   obtain⟨v',hsl,hcall⟩:=cQ hrow2 rfl (by omega);have hln:=uF hrow2;have HC:=hid hcall;have cv:=hv2.cell;have crw:=hr2.cell;rw[hW2]at cv crw;clear hcall
   gi_wp2_with fail
   rw[←hW2];refine⟨trivial,(fun h=>by cases h),?_⟩;refine(CallsIn.inRound l' (callsIn_wide.2 HC.out)).mono ?_;rintro e W3 ⟨rfl,hrow3,hg3⟩
   have hbad:=fM hrow2;have hv3:Boxed W3 B 201 v:=hv2.kept hg3 (hv2.not_row (by decide) hrow2);have hr3:Boxed W3 (B+1) 3 (.int .i64 (O.length:Nat)):=hr2.kept hg3 (hr2.not_row (by decide) hrow2);have hp3:W3.heap[W1.heap.size]? = some (.cells #[.int .i32 x,.int .u8 0] 252 (0,0)):=(hg3.block _ (by omega) (fun e=>by have:=hgl _ e.symm;omega)).trans hp2;have hB3:Below B w W3:=hBw2.grown hg3 (by have:=hBw2.size;have:=HB.out;omega) (fun k e=>(dD hrow2 k e).1);have hk3:Kp V.heap.size W W3:=hk2.trans (Kp.grown hg3 hbad);have hgl3:=hgl;have hs3:W1.heap.size+1≤W3.heap.size:=by have:=hg3.size;omega
   have cv3:=hv3.cell;have fr3:=hr3.frozen;have crw3:=hr3.cell;have hbl3:Hid (∀ k,v.ownBlock=some k→B≤k∧k<W1.heap.size):=fun k hk=>⟨(dD hrow2 k hk).1,hgl k hk⟩
   clear hv2 hr2 hp2 hrow2 hBw2 hk2 hgl cv crw hsl HC hbad hg3 hws hW2;obtain⟨W4,hW4⟩:∃ W4,W4=W3.setCell ⟨B+1,0,none⟩ (.int .i64 ((pre.length:Int)+1)):=⟨_,rfl⟩;have hv4:Boxed W4 B 201 v:=by rw[hW4];exact hv3.other (by omega) _
   have hr4:Boxed W4 (B+1) 3 (.int .i64 ((pre.length:Int)+1)):=by rw[hW4];exact hr3.set _
   have hg4:W3.grownBy W4 (some (B+1)):=by rw[hW4];exact grownBy_setCell' W3 (B+1) _
   have hp4:W4.heap[W1.heap.size]? = some (.cells #[.int .i32 x,.int .u8 0] 252 (0,0)):=(hg4.block _ (by omega) (fun e=>by have:=Option.some.inj e;omega)).trans hp3;have hrow4:W4.ownsRow B 252 2 v pre.length (aY (O++cP S)):=hrow3.kept hg4 (.inr (fun e=>hr3.not_row (by decide) hrow3 e.symm));have hB4:Below B w W4:=hB3.grown hg4 (by have:=hB3.size;have:=HB.out;omega) (fun k e=>by cases e;omega);have hk4:Kp V.heap.size W W4:=hk3.trans (Kp.grown hg4 (oH hr3 (.inr rfl)));have hs4:W1.heap.size+1≤W4.heap.size:=by have:=hg4.size;omega
   have hwr:wrap64 ((pre.length:Int)+1)=((pre.length+1:Nat):Int):=jT _ (by omega);have cv4:=hv4.cell;have cp0:W4.cell? ⟨W1.heap.size,0,none⟩=some (.int .i32 x):=by simp[World.cell?,hp4]
   have cp1:W4.cell? ⟨W1.heap.size,1,none⟩=some (.int .u8 0):=by simp[World.cell?,hp4]
   rw[hW4]at cv4 cp0 cp1;have hrowA:=hrow4;have hvA:=hv4;rw[hW4]at hrowA hvA;have hB3s:B+2≤W3.heap.size:=by omega
   have hrow5:((W3.setCell ⟨B+1,0,none⟩ (.int .i64 ((pre.length:Int)+1))).alloc (.cells #[.int .i32 x,.int .u8 0] 252)).ownsRow B 252 2 v pre.length (aY (O++cP S)):=hrowA.alloc _;have hnews:=zq (W3.setCell ⟨B+1,0,none⟩ (.int .i64 ((pre.length:Int)+1))) (.int .i32 x) (.int .u8 0) W3.heap.size (size_setCell' _ _ _).symm
   gi_wp2_with (gi_at_builtin;refine wpListIn_append_own _ rfl _ _ 201 rfl B 252 i0 (.agg #[.int .i32 0,.int .u8 0]) 2 8 Tryz.underlying201 hi hz0 hz1 hz2 rfl (by decide) _ _ _ rfl hrow5 _ 1 1 [.int .i32 x,.int .u8 0] rfl rfl hnews (by simp[Value.oneCell']) (by unfold maxLen;omega) (by omega) (by simp;omega) ?_;intro v2 w5 hown5 hgrow5 _;obtain⟨g5,cap5,rfl⟩:=ownsRow_succ hown5;have hv5:Boxed w5 B 201 v:=(hvA.alloc _).kept hgrow5 ((hvA.alloc _).not_row (by decide) hrow5);have cv5:=hv5.cell;have fv5:=hv5.frozen)
   rw[←hW4]at hgrow5;obtain⟨k6,g6,b6⟩:=lK hv4 hr4 hrow4 hgrow5 hown5 hk4 hB4 (Nat.le_of_eq HB.out);refine⟨k6,⟨_,g6.1,?_,?_⟩,b6⟩
   ·rw[HST.out]
    have:(stp (O,S) (x,0)).1.length=pre.length+1:=by
     have:=HlO.out;have:=(cu S).len;simp[stp];omega
    rw[this];exact g6.2.1
   ·rw[HST.out]
    have e1:(stp (O,S) (x,0)).1++(stp (O,S) (x,0)).2=(O++cP S)++[(x,0)]:=by simp[stp]
    rw[e1,fV];have e2:(pre++[x]).length=pre.length+1:=by simp
    rw[e2];exact g6.2.2
  ·have hcb:(c==0)=false:=by simpa using hc0
   have cv:=hv2.cell;have cp0:W2.cell? ⟨W1.heap.size,0,none⟩=some (.int .i32 x):=by simp[World.cell?,hp2]
   have cp1:W2.cell? ⟨W1.heap.size,1,none⟩=some (.int .u8 c):=by simp[World.cell?,hp2]
   have hrowA:=hrow2;have hvA:=hv2;rw[hW2]at hrowA hvA cv cp0 cp1;have hB3s:B+2≤W1.heap.size:=by omega
   have hrow5:((W1.alloc (.cells #[.int .i32 x,.int .u8 c] 252)).alloc (.cells #[.int .i32 x,.int .u8 c] 252)).ownsRow B 252 2 v pre.length (aY (O++S)):=hrowA.alloc _;have hnews:=zq (W1.alloc (.cells #[.int .i32 x,.int .u8 c] 252)) (.int .i32 x) (.int .u8 c) (W1.heap.size+1) (by simp)
   gi_wp2_with (gi_at_builtin;refine wpListIn_append_own _ rfl _ _ 201 rfl B 252 i0 (.agg #[.int .i32 0,.int .u8 0]) 2 8 Tryz.underlying201 hi hz0 hz1 hz2 rfl (by decide) _ _ _ rfl hrow5 _ 1 1 [.int .i32 x,.int .u8 c] rfl rfl hnews (by simp[Value.oneCell']) (by unfold maxLen;omega) (by omega) (by simp;omega) ?_;intro v2 w5 hown5 hgrow5 _;obtain⟨g5,cap5,rfl⟩:=ownsRow_succ hown5;have hv5:Boxed w5 B 201 v:=(hvA.alloc _).kept hgrow5 ((hvA.alloc _).not_row (by decide) hrow5);have cv5:=hv5.cell;have fv5:=hv5.frozen)
   rw[←hW2]at hgrow5;obtain⟨k6,g6,b6⟩:=lK hv2 hr2 hrow2 hgrow5 hown5 hk2 hBw2 (Nat.le_of_eq HB.out);refine⟨k6,⟨_,g6.1,?_,?_⟩,b6⟩
   ·rw[HST.out]
    have:(stp (O,S) (x,c)).1.length=O.length:=by simp[stp,hc0]
    rw[this];exact g6.2.1
   ·rw[HST.out]
    have e1:(stp (O,S) (x,c)).1++(stp (O,S) (x,c)).2=(O++S)++[(x,c)]:=by simp[stp,hc0]
    rw[e1,fV];have e2:(pre++[x]).length=pre.length+1:=by simp
    rw[e2];exact g6.2.2
 case done =>
  rintro D W hD ⟨⟨v,hv,hrw,hrow⟩,hB⟩ hdf
  have hc1:=hv.cell;have hc2:=hrw.cell;have hrow':W.ownsRow B 252 2 v xs.length (aY ((st (xs.map pt)).1++(st (xs.map pt)).2)):=hrow;obtain⟨v',hsl,hcall⟩:=cQ hrow' rfl (by omega);have HC:=hid hcall;clear hcall hrow
  gi_wp2_with fail
  refine⟨trivial,?_⟩;refine(callsIn_wide.2 HC.out).mono ?_;rintro e W3 ⟨rfl,hrow3,hg3⟩
  have hv3:Boxed W3 B 201 v:=hv.kept hg3 (hv.not_row (by decide) hrow')
  have hdf3:W3.heap[D]? = some (.deferred (some [])):=by
   refine(hg3.block D (Array.getElem?_eq_some_iff.1 hdf).1 (fun e=>?_)).trans hdf;obtain⟨o,h1,h2,h3⟩:=fM hrow' D e.symm;rw[hdf]at h1;cases h1;cases h2
  have hB3:Below B w W3:=hB.grown hg3 (by have:=hB.size;have:=HB.out;omega) (fun k e=>(dD hrow' k e).1);have cv3:=hv3.cell
  gi_wp2
  refine⟨by simp,.inl ⟨_,_,rfl,run_takeDeferred hdf3,?_⟩⟩;refine⟨_,results_tmp rfl _ _ _,v,rfl,?_,?_⟩
  ·rw[←HB.out]
   exact ownsRow_putObj hrow3 _ hdf3 rfl
  ·rw[←HB.out]
   exact hB3.trans (belowK_b (w:=w) (Nat.le_of_eq HB.out) W3 D _ _ (by have:=HB.out;omega) hdf3 rfl rfl)
open Go.RowKit
def xt(W:World)(v:Value)(l:List Pt):Prop:=∃ a cap,v=.slice a l.length cap∧(0<l.length→∃ g,a=some ⟨g,0,none⟩∧Pts W g 0 l)
theorem xt.of_own{W:World}{base n:Nat}{v:Value}{l:List Pt}(h:W.ownsRow base 252 2 v n (aY l)):xt W v l:=by
 have hl:l.length=n:=by have:=h.1;rw[cw]at this;omega
 rcases id h.2 with⟨rfl,h0⟩ | ⟨g,cap,cur,rfl,_⟩
 ·exact⟨none,0,by rw[hl,h0],fun hp=>by omega⟩
 ·refine⟨_,cap,by rw[hl],fun _=>⟨g,rfl,?_⟩⟩
  have:=eI (O:=[]) (S:=l) (by simpa using h)
  simpa using this
theorem iX:(Tryz.prog.info? 21).map (fun i=>(i.zero,i.size,i.bytes))=some (some (.int .i32 0),1,4):=by kernel_rfl
theorem sX(n:Nat):(madeCells #[Value.int .i32 0] n).toList=List.replicate n (.int .i32 0):=by
 unfold madeCells;simp[Nat.mod_one,List.map_const']
def part(l:List Pt)(k:Nat):List Int:=(l.take k).map (·.1)++List.replicate (l.length - k) 0
theorem yX(l:List Pt)(k:Nat)(hk:k<l.length):(part l k).set k (l[k]?.getD z2).1=part l (k+1):=by
 unfold part;have h1:((l.take k).map (·.1)).length=k:=by rw[List.length_map,List.length_take];omega
 rw[show l.length - k=(l.length - (k+1))+1 by omega,List.replicate_succ,List.take_succ_eq_append_getElem hk,List.getElem?_eq_getElem hk];rw[List.set_append_right _ _ (by omega),h1,Nat.sub_self];simp only[List.set_cons_zero,List.map_append,List.map_cons,List.map_nil,List.append_assoc,List.cons_append,List.nil_append,Option.getD_some]
theorem vI(v:Value)(l:List Pt)(w:World)(hlen:l.length≤100000)(hr:xt w v l):
  Calls Tryz.prog 207 #[v] w fun e W'=>∃ v',e=.returned v'∧W'.ownsRow w.heap.size 21 1 v' l.length ((l.map (·.1)).map (Value.int .i32))∧Below w.heap.size w W':=by
 obtain⟨a,cap,rfl,hf⟩:=hr;obtain⟨n,hn⟩:∃ n,l.length=n:=⟨_,rfl⟩;have hmk:=fun W=>run_make_row' (P:=Tryz.prog) 58 21 (.int .i32 0) 4 Tryz.underlying58 iX rfl .i64 .i64 n (by omega) (by omega) W
 have hz:∀ W,(zeroValue 252).run Tryz.prog W=.ok (.agg #[.int .i32 0,.int .u8 0]) W:=(zero_of_info (P:=Tryz.prog) (t:=252) (n:=2) (by kernel_rfl)).1
 have h0:(w.alloc (.cells (madeCells #[.int .i32 0] n) 21)).ownsRow w.heap.size 21 1 (.slice (some ⟨w.heap.size,0,none⟩) n n) n ((part l 0).map (Value.int .i32)):=by
  refine⟨by simp[part,hn],.inr ⟨w.heap.size,n,_,rfl,Nat.le_refl _,heap_alloc_last w _,Nat.le_refl _,by unfold maxLen;omega,by rw[size_madeCells];omega,?_⟩⟩;rw[sX];simp[part,hn]
 have H0:=hid h0;have HF:=hid hf;rw[hn]at hlen ⊢;have HN:=hid hn;clear h0 hf hn;go_enter Tryz.func207,Tryz.ntmps207
 go_wp2_with fail
 go_loopw [11] (fun i wr=>∃ k:Nat,k≤n∧i=.int .i64 k∧wr.ownsRow w.heap.size 21 1 (.slice (some ⟨w.heap.size,0,none⟩) n n) n ((part l k).map (Value.int .i32))∧Below w.heap.size w wr) (fun i _=>n - (intOf i).toNat)
 case atStart=>exact⟨0,Nat.zero_le _,rfl,H0.out,(Below.refl _ w).alloc (Nat.le_refl _) _⟩
 case round =>
  obtain⟨k,hk,rfl,hrow,hB⟩:=hrel;by_cases hlt:k<n
  ·obtain⟨g,rfl,hp⟩:=HF.out (by have:=HN.out;omega)
   have hp':=hp.below hB hp.lt;have hkl:k<l.length:=by have:=HN.out;omega
   have e0:=hp'.c0 k hkl;have e1:=hp'.c1 k hkl;have HPS:=hid (yX l k hkl);obtain⟨p,hpe⟩:∃ p,l[k]?.getD z2=p:=⟨_,rfl⟩;rw[hpe]at e0 e1 HPS;simp only[Nat.zero_add]at e0 e1;have hltz:(k:Int)<(n:Int):=by omega
   have hsz:w.heap.size<wr.heap.size:=(hrow.lt _ rfl).2;have hra:=hrow.alloc (.cells #[.int .i32 p.1,.int .u8 p.2] 252)
   have hck:(wr.alloc (.cells #[.int .i32 p.1,.int .u8 p.2] 252)).cell? ⟨w.heap.size,k,none⟩=some (.int .i32 ((part l k)[k]?.getD 0)):=by
    have h3:=hra.cellAt k (by omega);have h4:k<(part l k).length:=by unfold part;simp;omega
    rw[h3,List.getElem?_map,List.getElem?_eq_getElem h4];rfl
   have hfk:(wr.alloc (.cells #[.int .i32 p.1,.int .u8 p.2] 252)).frozen? ⟨w.heap.size,k,none⟩=false:=by
    rcases hra.2 with⟨h,_⟩ | ⟨g',cap',cur,h,_,hg,_⟩
    ·cases h
    ·cases h;simp[World.frozen?,hg]
   generalize (part l k)[k]?.getD 0=y at hck
   clear hp hp' hpe;go_wp2;have hst:=hrow.stored k (.int .i32 p.1);have hB1:=hB.setCell (p:=⟨w.heap.size,k,none⟩) (Nat.le_refl _) (.int .i32 p.1);have hB2:=hB1.alloc hB1.size (.cells #[.int .i32 p.1,.int .u8 p.2] 252)
   go_roundw
   case rel=>exact⟨k+1,by omega,by go_num,by have:=hst.1;rw[←List.map_set,HPS.out]at this;exact this.alloc _,hB2⟩
   case measure=>simp[intOf];omega
  ·have hltz:¬ (k:Int)<(n:Int):=by omega
   have HE:Hid (part l k=l.map (·.1)):=by
    show _=_
    unfold part;have h1:l.length - k=0:=by have:=HN.out;omega
    rw[h1,List.take_of_length_le (by omega)];simp
   go_wp2;go_ret;exact⟨_,rfl,by have h:=hrow;rw[HE.out]at h;simpa using h,hB⟩
theorem wP(u v:Value)(a b:List Int)(w:World)(ha:a.length≤100000)(hu:bA w u a)(hv:bA w v b):
  Calls Tryz.prog 297 #[u,v] w fun e W'=>e=.returned (.bool (decide (a=b)))∧Below w.heap.size w W':=by
 obtain⟨ua,uc,rfl,huf⟩:=hu;obtain⟨va,vc,rfl,hvf⟩:=hv;by_cases hl:a.length=b.length
 ·have HR:Hid (∀ k,k≤a.length→(∀ j,j<k→a[j]?.getD 0=b[j]?.getD 0)→k=a.length→a=b):=by
   intro k hk h e
   apply List.ext_getElem hl;intro i h1 h2
   have:=h i (by omega);rw[List.getElem?_eq_getElem h1,List.getElem?_eq_getElem h2]at this;exact this
  have HNE:Hid (∀ k,k<a.length→a[k]?.getD 0≠b[k]?.getD 0→a≠b):=fun k hk h e=>h (by rw[e])
  obtain⟨n,hn⟩:∃ n,a.length=n:=⟨_,rfl⟩;rw[hn]at ha huf HR HNE;rw[←hl,hn]at hvf;rw[←hl,hn];have HUF:=hid huf;have HVF:=hid hvf;obtain⟨R,hR⟩:∃ R:Prop,R=(a=b):=⟨_,rfl⟩
  have hdec:∀ t:Bool,(t=true↔a=b)→Ending.returned (.bool t)=.returned (.bool (decide (a=b))):=fun t h=>by
   congr 2
   cases t with
   | true=>exact(decide_eq_true (h.1 rfl)).symm
   | false=>exact(decide_eq_false (fun e=>by have:=h.2 e;cases this)).symm
  have HD:=hid hdec;obtain⟨db,hdb⟩:∃ db,db=decide (a=b):=⟨_,rfl⟩;rw[←hdb]at HD ⊢;clear huf hvf hl hn hR hdec hdb;go_enter Tryz.func297,Tryz.ntmps297
  go_wp2_with fail
  go_loopw [13] (fun i wr=>∃ k:Nat,k≤n∧i=.int .i64 k∧Below w.heap.size w wr∧Hid (∀ j,j<k→a[j]?.getD 0=b[j]?.getD 0)) (fun i _=>n - (intOf i).toNat)
  case atStart=>exact⟨0,Nat.zero_le _,rfl,Below.refl _ _,(fun j hj=>by omega)⟩
  case round =>
   obtain⟨k,hk,rfl,hB,HS⟩:=hrel;by_cases hlt:k<n
   ·obtain⟨b1,o1,cur1,rfl,hg1,hc1⟩:=HUF.out (by omega)
    obtain⟨b2,o2,cur2,rfl,hg2,hc2⟩:=HVF.out (by omega)
    have d1:wr.cell? ⟨b1,o1+k,none⟩=some (.int .i32 (a[k]?.getD 0)):=by
     simp[World.cell?,(hB.block b1 (Array.getElem?_eq_some_iff.1 hg1).1).trans hg1,hc1 k hlt]
    have d2:wr.cell? ⟨b2,o2+k,none⟩=some (.int .i32 (b[k]?.getD 0)):=by
     simp[World.cell?,(hB.block b2 (Array.getElem?_eq_some_iff.1 hg2).1).trans hg2,hc2 k hlt]
    have hltz:(k:Int)<(n:Int):=by omega
    by_cases he:a[k]?.getD 0=b[k]?.getD 0
    ·have HS2:Hid (∀ j,j<k+1→a[j]?.getD 0=b[j]?.getD 0):=fun j hj=>by
      by_cases hjk:j=k
      ·subst hjk;exact he
      ·exact HS.out j (by omega)
     rw[←he]at d2
     generalize a[k]?.getD 0=y at d1 d2
     clear hc1 hc2 he
     go_wp2_with fail
     go_quiet (fail)
     go_wp2
     go_roundw
     case rel=>exact⟨k+1,by omega,by go_num,⟨hB.os,hB.tape,hB.output,hB.size,hB.block⟩,HS2⟩
     case measure=>simp[intOf];omega
    ·have HF:=hid (HNE.out k hlt he)
     generalize a[k]?.getD 0=y at d1 he
     generalize b[k]?.getD 0=z at d2 he
     have hb:(y != z)=true:=by simpa using he
     have hb2:(y==z)=false:=by simpa using he
     clear hc1 hc2 he
     go_wp2_with fail
     go_quiet (fail)
     go_wp2;go_ret;exact⟨HD.out false ⟨fun h=>(by cases h),fun h=>absurd h HF.out⟩,⟨hB.os,hB.tape,hB.output,hB.size,hB.block⟩⟩
   ·have hltz:¬ (k:Int)<(n:Int):=by omega
    have HE:=hid (HR.out k hk HS.out (by omega));go_wp2;go_ret;exact⟨HD.out true ⟨fun _=>HE.out,fun _=>rfl⟩,hB⟩
 ·have hd:decide (a=b)=false:=decide_eq_false (fun e=>hl (by rw[e]))
  rw[hd];have hb:((a.length:Int) != (b.length:Int))=true:=by simp;omega
  have hb2:((a.length:Int)==(b.length:Int))=false:=by simp;omega
  clear huf hvf;go_enter Tryz.func297,Tryz.ntmps297
  go_wp2;go_ret;exact⟨rfl,Below.refl _ _⟩
def rch(B:List Pt)(c:Pt):Bool:=match B.getLast? with
 | none=>true
 | some b=>decide (b.2<c.2)
theorem pg(a:Option Addr)(cap:Nat)(c:Pt)(w:World):Calls Tryz.prog 254 #[.slice a 0 cap,.agg #[.int .i32 c.1,.int .u8 c.2]] w fun e W'=>e=.returned (.bool true)∧Below w.heap.size w W':=by
 go_enter Tryz.func254,Tryz.ntmps254
 go_wp2_with fail
 go_quiet (fail)
 go_wp2;go_ret;exact⟨rfl,D.below_drewN ((Below.refl _ w).alloc (Nat.le_refl _) _) _⟩
theorem o9(g o n cap:Nat)(X:List Pt)(b c:Pt)(w:World)(hn:n=X.length)(hnl:n≤100000)(hp:Pts w g o (X++[b])):
  Calls Tryz.prog 254 #[.slice (some ⟨g,o,none⟩) (n+1) cap,.agg #[.int .i32 c.1,.int .u8 c.2]] w fun e W'=>e=.returned (.bool (decide (b.2<c.2)))∧Below w.heap.size w W':=by
 have e1:=hp.c1 n (by simp;omega);rw[hn,dQ X b [] X.length rfl,←hn]at e1;have hlt:=hp.lt
 have e2:(w.alloc (.cells #[.int .i32 c.1,.int .u8 c.2] 252)).cell? ⟨g,o+n * 2+1,none⟩=some (.int .u8 b.2):=by
  rw[World.cell?_of_block (Below.heap_alloc w _ g hlt)];exact e1
 have h0:((n:Int)+1==0)=false:=by simp;omega
 have hnz:(n:Int)<(n:Int)+1:=by omega
 clear hp e1 hn;go_enter Tryz.func254,Tryz.ntmps254
 go_wp2_with fail
 go_quiet (fail)
 go_wp2;go_ret;exact⟨rfl,D.below_drewN ((Below.refl _ w).alloc (Nat.le_refl _) _) _⟩
end Go.Proofs.YtkekkbciiohbkaaGreatDoor.N
