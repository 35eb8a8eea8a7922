/- Texts one behind the other: PBB PPC PBC PBD. -/
import Derived.Test.YtkekkbciiohbkaaGreatDoorZ15
import Derived.Deep.AppendLies
import Derived.Deep.Cut
import Derived.Deep.CutRange
import Derived.Deep.RegionLaw
import Derived.RangeFuncBox
set_option maxRecDepth 100000
set_option maxHeartbeats 16000000
set_option linter.unusedVariables false
set_option linter.unnecessarySimpa false
namespace Go.Proofs.YtkekkbciiohbkaaGreatDoor.P
open Go.RowKit U
structure Pen(base:Nat)(w:World)(Bb Bp Bn Bf Bo:Nat)(bias pts:Nat)(first:Bool)(v:Value)(k:Nat)(xs:List Value):Prop where
 b:Boxed w Bb 3 (.int .i64 bias)
 p:Boxed w Bp 238 (.pointer (some ⟨Bo,0,none⟩))
 n:Boxed w Bn 3 (.int .i64 pts)
 f:Boxed w Bf 4 (.bool first)
 o:Boxed w Bo 36 v
 row:w.ownsRow base 5 1 v k xs
 ne:Bb≠Bn
 hb:base≤Bb
 hn:base≤Bn
 hf:base≤Bf
 ho:base≤Bo
 sz:base≤w.heap.size
theorem bS{W:World}{B C:Nat}{t u:TypeId}{x y:Value}(h:Boxed W B t x)(k:Boxed W C u y)(hne:t≠u):B≠C:=by
 intro e
 unfold Boxed at h k
 rw[e,k]at h;simp at h
 exact hne h.2.symm
theorem aB{W:World}{B C:Nat}{t:TypeId}{x:Value}(h:Boxed W B t x)(hne:B≠C)(y:Value):Boxed (W.setCell ⟨C,0,none⟩ y) B t x :=
 h.kept (grownBy_setCell' W C y) (by simpa using hne)
theorem Pen.drew{base:Nat}{w:World}{Bb Bp Bn Bf Bo bias pts:Nat}{first:Bool}{v:Value}{k:Nat}{xs:List Value}(h:Pen base w Bb Bp Bn Bf Bo bias pts first v k xs):Pen base w.drew Bb Bp Bn Bf Bo bias pts first v k xs :=
 ⟨h.b,h.p,h.n,h.f,h.o,h.row.drew,h.ne,h.hb,h.hn,h.hf,h.ho,h.sz⟩
theorem Pen.add{base:Nat}{w w0 w1:World}{Bb Bp Bn Bf Bo bias pts:Nat}{first:Bool}{v v':Value}{k:Nat}{xs ys:List Value}(h:Pen base w Bb Bp Bn Bf Bo bias pts first v k xs)(ob:Obj)(hw0:w0=(w.alloc ob).drew)
  (hown:w1.ownsRow base 5 1 v' (k+1) ys) (hg:w0.grownBy w1 v.ownBlock) :
  Pen base (w1.setCell ⟨Bo,0,none⟩ v') Bb Bp Bn Bf Bo bias pts first v' (k+1) ys∧Below base w (w1.setCell ⟨Bo,0,none⟩ v'):=by
 have g:w.grownBy w1 v.ownBlock:=by
  subst hw0;have g0:=World.grownBy_alloc w ob none;exact dE (⟨g0.os,g0.tape,g0.output,g0.size,g0.block⟩:w.grownBy (w.alloc ob).drew none) hg
 have ho:=gj (t:=36) (e:=5) (n₀:=base) h.o (by decide) h.row h.sz h.ho hown g
 have kb:∀ {B:Nat} {t:TypeId} {x:Value},Boxed w B t x→t≠5→t≠36→Boxed (w1.setCell ⟨Bo,0,none⟩ v') B t x:=fun hx h5 h34 =>
  aB (hx.kept g (hx.not_row h5 h.row)) (bS hx h.o h34) v'
 exact⟨⟨kb h.b (by decide) (by decide),kb h.p (by decide) (by decide),kb h.n (by decide) (by decide),kb h.f (by decide) (by decide),ho.2.1,ho.2.2.1,h.ne,h.hb,h.hn,h.hf,h.ho,Nat.le_trans h.sz ho.2.2.2.2.size⟩,ho.2.2.2.2⟩
theorem o5{w:World}{base C:Nat}{t:TypeId}{x v:Value}{k:Nat}{xs:List Value}(h:w.ownsRow base 5 1 v k xs)(hx:Boxed w C t x)(hte:t≠5)(y:Value):(w.setCell ⟨C,0,none⟩ y).ownsRow base 5 1 v k xs :=
 h.kept (grownBy_setCell' w C y) (.inr (hx.not_row hte h).symm)
theorem Pen.fin{base:Nat}{w:World}{Bb Bp Bn Bf Bo bias pts:Nat}{first:Bool}{v:Value}{k:Nat}{xs:List Value}(h:Pen base w Bb Bp Bn Bf Bo bias pts first v k xs)(A:Nat):
  Pen base (((w.setCell ⟨Bn,0,none⟩ (.int .i64 ((pts:Int)+1))).setCell ⟨Bb,0,none⟩ (.int .i64 A)).setCell ⟨Bf,0,none⟩ (.bool false)) Bb Bp Bn Bf Bo A (pts+1) false v k xs ∧
   Below base w (((w.setCell ⟨Bn,0,none⟩ (.int .i64 ((pts:Int)+1))).setCell ⟨Bb,0,none⟩ (.int .i64 A)).setCell ⟨Bf,0,none⟩ (.bool false)):=by
 have fb:=bS h.f h.b (by decide);have fn:=bS h.f h.n (by decide);have pb:=bS h.p h.b (by decide);have pn:=bS h.p h.n (by decide);have pf:=bS h.p h.f (by decide);have ob:=bS h.o h.b (by decide);have on:=bS h.o h.n (by decide);have of:=bS h.o h.f (by decide);have b1:=aB h.b h.ne (.int .i64 ((pts:Int)+1));have n1:=h.n.set (.int .i64 ((pts:Int)+1));have f1:=aB h.f fn (.int .i64 ((pts:Int)+1));have r1:=o5 h.row h.n (by decide) (.int .i64 ((pts:Int)+1));have f2:=aB f1 fb (.int .i64 A);have r2:=o5 r1 b1 (by decide) (.int .i64 A);have r3:=o5 r2 f2 (by decide) (.bool false);refine⟨⟨aB (b1.set _) (fun e=>fb e.symm) _,aB (aB (aB h.p pn _) pb _) pf _,aB (aB n1 (fun e=>h.ne e.symm) _) (fun e=>fn e.symm) _,f2.set _,aB (aB (aB h.o on _) ob _) of _,r3,h.ne,h.hb,h.hn,h.hf,h.ho,?_⟩,?_⟩
 ·simpa using h.sz
 ·exact(((Below.refl base w).setCell (p:=⟨Bn,0,none⟩) h.hn _).setCell (p:=⟨Bb,0,none⟩) h.hb _).setCell (p:=⟨Bf,0,none⟩) h.hf _
theorem Bu(b k q:Nat)(h:q<thr k b):wn b k q=[sgn q]:=by rw[jc,if_pos h]
theorem Bt(b k q:Nat)(h:¬ q<thr k b):wn b k q=sgn (thr k b+(q - thr k b) % (36 - thr k b))::wn b (k+36) ((q - thr k b) / (36 - thr k b)):=by rw[jc,if_neg h]
theorem nO{P:Program}{ops:Array Oper}{o:Oper}{a:Act}{w:World}{K:Act→World→Prop}{Q:Exit→Act→World→Prop}{E:Prop}
  (hg:o.guard=none) (f:Nat) (s:Operand) (t:TypeId) (hop:o.op=Op.call { callee:=Callee.value (Operand.func f),args:=#[s],argTypes:=#[t] })
  (v r:Value) (hs:a.eval s=v) (hen:(callFunc f #[v]).run P w=.ok (.enter f #[v]) w) (hc:Calls P f #[v] w fun e w'=>e=.returned r∧w'=w) (hK:K (a.put o.dst r) w) :
  if Region.wanted o (yielded ops a.tmps)=true then Oper.wp P o a w K Q else E:=by
 have hw:Region.wanted o (yielded ops a.tmps)=true:=by simp[Region.wanted,hg]
 rw[if_pos hw];unfold Oper.wp
 have e:(execOp a.eval o).run P w=.ok (.enter f #[v]) w:=by
  have hf:a.eval (Operand.func f)=.func (.func f) #[] #[]:=rfl;simp[execOp,hop,resolve,invoke,hs,hf,Deferred.ofValue];exact hen
 rw[e,Oper.upon_enter];refine hc.mono ?_;rintro e w' ⟨rfl,rfl⟩
 exact hK
theorem Cb(base Bb Bp Bn Bf Bo bias pts:Nat)(first:Bool)(v:Value)(k:Nat)(xs:List Int)(D:Nat)(hD:D≤71303231)(hbias:bias≤1000000000)(hpts:pts≤1000000)(hk:k≤10000000000000)(w:World)
  (h:Pen base w Bb Bp Bn Bf Bo bias pts first v k (xs.map (Value.int .u8))) :
  Calls Tryz.prog 286 #[.int .i64 D,.pointer (some ⟨Bb,0,none⟩),.pointer (some ⟨Bp,0,none⟩),.pointer (some ⟨Bn,0,none⟩),.pointer (some ⟨Bf,0,none⟩)] w
   fun e W'=>e=.returned (.tuple #[])∧(∃ v',Pen base W' Bb Bp Bn Bf Bo (adapt D (pts+1) first) (pts+1) false v' (k+(wn bias 36 D).length) ((xs++wn bias 36 D).map (Value.int .u8)))∧Below base w W':=by
 obtain⟨i0,hi0,hz0,hz1,hz2⟩:=info_parts Tryz.info5;have cb:=h.b.cell;have HH:=hid h;clear h;go_enter Tryz.func286,Tryz.ntmps286
 go_wp2_with(go_at_call 287;refine(jf 36 bias (by omega) (by omega) _).mono ?_;rintro e w' ⟨rfl,hw'⟩;obtain rfl:=hw'.symm)
 go_loopw [6,7,8] (fun q kk t wr=>∃(Q K:Nat) (v:Value) (acc:List Int),q=.int .i64 Q∧kk=.int .i64 K∧t=.int .i64 (thr K bias)∧Q≤71303231∧K+Q≤71303267+36 * acc.length∧acc.length+Q≤71303231∧Hid (acc++wn bias K Q=wn bias 36 D) ∧
     Pen base wr Bb Bp Bn Bf Bo bias pts first v (k+acc.length) ((xs++acc).map (Value.int .u8))∧Below base w wr)
  (fun q _ _ _=>(intOf q).toNat)
 case atStart=>exact⟨D,36,v,[],rfl,rfl,rfl,hD,by simp;omega,by simp;omega,rfl,by simpa using HH.out,Below.refl _ _⟩
 case round =>
  obtain⟨Q,K,v,acc,rfl,rfl,htt,h1,h2,h3,h4,h5,hB⟩:=hrel;have t1:=eU K bias;have t2:=iO K bias;obtain⟨t,ht⟩:∃ t,thr K bias=t:=⟨_,rfl⟩;rw[ht]at htt t1 t2;have HT:=hid ht;clear ht;subst htt;have cb:=h5.b.cell;have cp:=h5.p.cell;have co:=h5.o.cell;have fo:=h5.o.frozen;have hrow:=h5.row;have hsz:=h5.sz;have np:=h5.p.not_row (by decide) h5.row;have no:=h5.o.not_row (by decide) h5.row;have lp:=h5.p.lt
  have hpo:Bp≠Bo:=by
   intro e
   have h1:=h5.p;have h2:=h5.o;unfold Boxed at h1 h2
   rw[e,h2]at h1;simp at h1
  have hop:Bo≠Bp:=fun e=>hpo e.symm
  have lo:=h5.o.lt;have H5:=hid h5;clear h5;by_cases hq:Q<t
  ·have hqz:¬ ((t:Int)≤(Q:Int)):=by omega
   have hs1:=o4 Q (by omega);obtain⟨y,hy⟩:∃ y,y=sgn Q:=⟨_,rfl⟩;rw[←hy]at hs1;have HY:=hid hy;clear hy
   go_upto_region 7 with fail
   go_cut [] from 43 (fun wc=>∃ v',Pen base wc Bb Bp Bn Bf Bo bias pts first v' (k+acc.length+1) ((xs++acc).map (Value.int .u8)++[.int .u8 y])∧Below base wr wc)
   case first =>
    go_region_law (first
      | (refine nO rfl 288 (.tmp 47) 2 rfl (.int .i64 Q) (.int .u8 y) (by simp[Act.eval,Act.put]) (enters_of Tryz.func288 (by kernel_rfl) rfl _ _) (by rw[HY.out];exact qz Q (by omega) _) ?_)
      | (refine step_append_lies _ (by rfl) _ _ _ (by rfl) base 5 i0 _ 1 1 Tryz.underlying36 hi0 hz0 hz1 hz2 rfl (by omega) _ (k+acc.length) ((xs++acc).map (Value.int .u8)) (by rfl) ((hrow.alloc _).drew)
          ⟨wr.heap.size,0,none⟩ 1 1 [.int .u8 y] (by rfl) (by rfl) (World.news_of_block (cs:=#[.int .u8 y]) (t:=5) (fr:=(0,0)) (heap_alloc_new wr _)) (by simp[Value.oneCell'])
          (by omega) (by unfold maxLen;omega) (by omega) (by simp;omega) (wr.heap.size+1) (by simp) ?_;intro gg cap' w1 hown1 hgrow hat hlt1
         have cp1:w1.cell? ⟨Bp,0,none⟩=some (.pointer (some ⟨Bo,0,none⟩)):=by rw[hgrow.cell_far ⟨Bp,0,none⟩ (by simp;omega) np];simpa using((H5.out.p.alloc _).cell:(wr.alloc (.cells #[.int .u8 y] 5)).cell? ⟨Bp,0,none⟩=some _)
         have c1:w1.cell? ⟨Bo,0,none⟩=some v:=by rw[hgrow.cell_far ⟨Bo,0,none⟩ (by simp;omega) no];simpa using((H5.out.o.alloc _).cell:(wr.alloc (.cells #[.int .u8 y] 5)).cell? ⟨Bo,0,none⟩=some v)
         have f1:w1.frozen? ⟨Bo,0,none⟩=false:=by rw[hgrow.frozen_far ⟨Bo,0,none⟩ (by simp;omega) no];simpa using((H5.out.o.alloc _).frozen:(wr.alloc (.cells #[.int .u8 y] 5)).frozen? ⟨Bo,0,none⟩=false)))
    all_goals (go_wp2_with fail;go_meet;case rel=>exact⟨_,H5.out.add _ rfl hown1 hgrow⟩)
   case rest =>
    obtain⟨v',hP,hB'⟩:=hcut;have HP:=hid hP;have cB:=hP.b.cell;have cN:=hP.n.cell;have cF:=hP.f.cell;have fB:=hP.b.frozen;have fN:=hP.n.frozen;have fF:=hP.f.frozen;have n1:=hP.ne;have n2:Bn≠Bb:=fun e=>n1 e.symm
    have n3:=bS hP.f hP.n (by decide);have n4:=bS hP.n hP.f (by decide);have n5:=bS hP.f hP.b (by decide);have n6:=bS hP.b hP.f (by decide);clear hP hrow co cp fo np no lp lo cb
    go_wp2_with(go_at_call 275;refine(show Calls Tryz.prog 275 #[.int .i64 D,.int .i64 ((pts:Int)+1),.bool first] _ _ from oJ D (pts+1) first (by omega) (by omega) (by omega) _).mono ?_;rintro e w' ⟨rfl,rfl⟩)
    go_end0
    have e:wn bias 36 D=acc++[y]:=by rw[←h4.out,Bu bias K Q (by rw[HT.out];exact hq),HY.out]
    obtain⟨P1,P2⟩:=HP.out.fin (adapt D (pts+1) first);refine⟨rfl,⟨v',?_⟩,(hB.trans (hB'.mono (Nat.le_refl _))).trans P2⟩;rw[e,List.length_append,←Nat.add_assoc,←List.append_assoc,List.map_append];exact P1
  ·have hqz:(t:Int)≤(Q:Int):=by omega
   have m0:0≤((Q:Int) - t) % (36 - t):=Int.emod_nonneg _ (by omega);have m1:((Q:Int) - t) % (36 - t)<36 - t:=Int.emod_lt_of_pos _ (by omega);obtain⟨x,hx⟩:∃ x:Nat,(x:Int)=(t:Int)+((Q:Int) - t) % (36 - t):=⟨((t:Int)+((Q:Int) - t) % (36 - t)).toNat,by omega⟩;have hx36:x<36:=by omega
   have hxe:Hid ((t:Int)+((Q:Int) - t) % (36 - t)=(x:Int)):=hx.symm;clear hx;have hs1:=o4 x hx36;obtain⟨y,hy⟩:∃ y,y=sgn x:=⟨_,rfl⟩;rw[←hy]at hs1;have HY:=hid hy;clear hy;have r1:IntKind.i64.wrap ((Q:Int) - t)=(Q:Int) - t:=by simp[IntKind.wrap,IntKind.bits,IntKind.signed];omega
   have r2:IntKind.i64.wrap (36 - (t:Int))=36 - (t:Int):=by simp[IntKind.wrap,IntKind.bits,IntKind.signed];omega
   have r3:¬ (36 - (t:Int)=0):=by omega
   have r5:Int.tmod ((Q:Int) - t) (36 - t)=((Q:Int) - t) % (36 - t):=Int.tmod_eq_emod_of_nonneg (by omega);have r7:IntKind.i64.wrap ((t:Int)+((Q:Int) - t) % (36 - t))=(x:Int):=by rw[hxe.out];simp[IntKind.wrap,IntKind.bits,IntKind.signed];omega
   go_upto_region 3 with fail
   go_cut [] from 13 to 42 (fun wc=>∃ v',Pen base wc Bb Bp Bn Bf Bo bias pts first v' (k+acc.length+1) ((xs++acc).map (Value.int .u8)++[.int .u8 y])∧Below base wr wc)
   case first =>
    go_region_law (first
      | (refine nO rfl 288 (.tmp 27) 2 rfl (.int .i64 x) (.int .u8 y) (by simp[Act.eval,Act.put]) (enters_of Tryz.func288 (by kernel_rfl) rfl _ _) (by rw[HY.out];exact qz x hx36 _) ?_)
      | (refine step_append_lies _ (by rfl) _ _ _ (by rfl) base 5 i0 _ 1 1 Tryz.underlying36 hi0 hz0 hz1 hz2 rfl (by omega) _ (k+acc.length) ((xs++acc).map (Value.int .u8)) (by rfl) ((hrow.alloc _).drew)
          ⟨wr.heap.size,0,none⟩ 1 1 [.int .u8 y] (by rfl) (by rfl) (World.news_of_block (cs:=#[.int .u8 y]) (t:=5) (fr:=(0,0)) (heap_alloc_new wr _)) (by simp[Value.oneCell'])
          (by omega) (by unfold maxLen;omega) (by omega) (by simp;omega) (wr.heap.size+1) (by simp) ?_;intro gg cap' w1 hown1 hgrow hat hlt1
         have cp1:w1.cell? ⟨Bp,0,none⟩=some (.pointer (some ⟨Bo,0,none⟩)):=by rw[hgrow.cell_far ⟨Bp,0,none⟩ (by simp;omega) np];simpa using((H5.out.p.alloc _).cell:(wr.alloc (.cells #[.int .u8 y] 5)).cell? ⟨Bp,0,none⟩=some _)
         have c1:w1.cell? ⟨Bo,0,none⟩=some v:=by rw[hgrow.cell_far ⟨Bo,0,none⟩ (by simp;omega) no];simpa using((H5.out.o.alloc _).cell:(wr.alloc (.cells #[.int .u8 y] 5)).cell? ⟨Bo,0,none⟩=some v)
         have f1:w1.frozen? ⟨Bo,0,none⟩=false:=by rw[hgrow.frozen_far ⟨Bo,0,none⟩ (by simp;omega) no];simpa using((H5.out.o.alloc _).frozen:(wr.alloc (.cells #[.int .u8 y] 5)).frozen? ⟨Bo,0,none⟩=false)))
    all_goals (go_wp2_with fail;go_meet;case rel=>exact⟨_,H5.out.add _ rfl hown1 hgrow⟩)
   case rest =>
    obtain⟨v',hP,hB'⟩:=hcut;have HP:=hid hP;have cB:=hP.b.cell;clear hP hrow co cp fo np no lp lo cb r1 r2 r3 r5 r7
    go_wp2_with(go_at_call 287;refine(show Calls Tryz.prog 287 #[.int .i64 ((K:Int)+36),.int .i64 bias] _ _ from jf (K+36) bias (by omega) (by omega) _).mono ?_;rintro e w' ⟨rfl,rfl⟩)
    have q1:(Q - t) / (36 - t)≤Q - t:=Nat.div_le_self _ _
    have q2:((Q:Int) - t) / (36 - t)=(((Q - t) / (36 - t):Nat):Int):=by
     rw[Int.natCast_ediv,Int.ofNat_sub (by omega),Int.ofNat_sub (by omega)];rfl
    go_roundw
    case rel =>
     refine⟨(Q - t) / (36 - t),K+36,v',acc++[y],by rw[q2],by go_num,by go_num,by omega,by rw[List.length_append];simp only[List.length_cons,List.length_nil];omega,by rw[List.length_append];simp only[List.length_cons,List.length_nil];omega,?_,?_,(hB.trans (hB'.mono (Nat.le_refl _)))⟩
     ·have e:x=t+(Q - t) % (36 - t):=by
       have:=hxe.out
       have q3:((Q:Int) - t) % (36 - t)=(((Q - t) % (36 - t):Nat):Int):=by
        rw[Int.natCast_emod,Int.ofNat_sub (by omega),Int.ofNat_sub (by omega)];rfl
       omega
      show acc++[y]++wn bias (K+36) ((Q - t) / (36 - t))=wn bias 36 D
      rw[←h4.out,Bt bias K Q (by rw[HT.out];exact hq),HT.out,←e,HY.out,List.append_assoc];rfl
     ·have:=HP.out
      rw[List.length_append,←Nat.add_assoc,←List.append_assoc,List.map_append];exact this
    case measure=>simp[intOf];rw[q2];omega
theorem zA(A K:Nat):gK A K≤K+A+36:=by
 induction A using Nat.strongRecOn generalizing K with
 | ind A ih =>
  by_cases h:455<A
  ·rw[iV A K h]
   have:=ih (A / 35) (by omega) (K+36);omega
  ·rw[iW A K h]
   have:36 * A / (A+38)≤36:=by
    apply Nat.le_of_lt_succ;rw[Nat.div_lt_iff_lt_mul (by omega)];omega
   omega
theorem su(d p:Nat)(f:Bool)(hd:d≤100000000000):adapt d p f≤2 * d+36:=by
 unfold adapt;have h1:(if f=true then d / 700 else d / 2)≤d:=by split <;> omega
 have h2:=Nat.div_le_self (if f=true then d / 700 else d / 2) p;have:=zA ((if f=true then d / 700 else d / 2)+(if f=true then d / 700 else d / 2) / p) 0;omega
theorem Ex(b k q:Nat):(wn b k q).length≤q+1:=by
 induction q using Nat.strongRecOn generalizing k with
 | ind q ih =>
  rw[jc];split
  ·simp
  ·rename_i h
   have h1:=eU k b;have h2:=Nat.div_le_self (q - thr k b) (36 - thr k b);have:=ih ((q - thr k b) / (36 - thr k b)) (by omega) (k+36);rw[List.length_cons];omega
def ups(l:List Int)(n:Int):Nat:=(l.filter fun x=>decide (n≤x)).length
theorem xC(l:List Int)(n m:Int)(h:lh l n m):ups l (m+1)<ups l n:=by
 obtain⟨h1,h2,_⟩:=h;unfold ups
 have sub:(l.filter fun x=>decide (m+1≤x))=(l.filter fun x=>decide (n≤x)).filter fun x=>decide (m+1≤x):=by
  rw[List.filter_filter];apply List.filter_congr;intro x _
  by_cases hx:m+1≤x
  ·simp[hx];omega
  ·simp[hx]
 rw[sub];have hle:=List.length_filter_le (fun x=>decide (m+1≤x)) (l.filter fun x=>decide (n≤x));rcases Nat.lt_or_ge (List.filter (fun x=>decide (m+1≤x)) (l.filter fun x=>decide (n≤x))).length (l.filter fun x=>decide (n≤x)).length with h | h
 ·exact h
 ·exfalso
  have e:=(List.filter_sublist (p:=fun x=>decide (m+1≤x)) (l:=l.filter fun x=>decide (n≤x))).eq_of_length (by omega);have hm:m∈l.filter fun x=>decide (n≤x):=List.mem_filter.mpr ⟨h1,by simpa using h2⟩
  rw[←e]at hm;have:=(List.mem_filter.mp hm).2;simp at this
  omega
theorem Gp(p:List Int):(hd p).length≤p.length+1:=by unfold hd;split <;> simp
theorem zX(l:List Int)(h0:∀ x∈l,0≤x):∀ c∈hd (plain l),0≤c∧c<128:=by
 intro c hc
 unfold hd at hc
 split at hc
 ·cases hc
 ·rcases List.mem_append.mp hc with hc | hc
  ·exact⟨h0 c (List.mem_filter.mp hc).1,ma l c hc⟩
  ·simp at hc;omega
theorem Enc.ascii{l T:List Int}(h:Enc l T)(h0:∀ x∈l,0≤x):∀ c∈T,0≤c∧c<128:=by
 obtain⟨ds,rfl,_⟩:=h;intro c hc
 rcases List.mem_append.mp hc with hc | hc
 ·exact zX l h0 c hc
 ·have:=lD _ ds c hc;omega
theorem Cv{base:Nat}{w:World}{Bo:Nat}{v:Value}{k:Nat}{xs:List Value}(ho:Boxed w Bo 36 v)(hrow:w.ownsRow base 5 1 v k xs)(hb:base≤Bo)(hsz:base≤w.heap.size)(h:Nat):
  Pen base ((((w.alloc (.cells #[.pointer (some ⟨Bo,0,none⟩)] 238)).alloc (.cells #[.int .i64 h] 3)).alloc (.cells #[.int .i64 72] 3)).alloc (.cells #[.bool true] 4)) (w.heap.size+2) w.heap.size (w.heap.size+1) (w.heap.size+3) Bo 72 h true v k xs ∧
  Below base w ((((w.alloc (.cells #[.pointer (some ⟨Bo,0,none⟩)] 238)).alloc (.cells #[.int .i64 h] 3)).alloc (.cells #[.int .i64 72] 3)).alloc (.cells #[.bool true] 4)):=by
 have s1:(w.alloc (.cells #[.pointer (some ⟨Bo,0,none⟩)] 238)).heap.size=w.heap.size+1:=by simp
 have s2:((w.alloc (.cells #[.pointer (some ⟨Bo,0,none⟩)] 238)).alloc (.cells #[.int .i64 h] 3)).heap.size=w.heap.size+2:=by simp
 have s3:(((w.alloc (.cells #[.pointer (some ⟨Bo,0,none⟩)] 238)).alloc (.cells #[.int .i64 h] 3)).alloc (.cells #[.int .i64 72] 3)).heap.size=w.heap.size+3:=by simp
 have b0:=Boxed.new w 238 (.pointer (some ⟨Bo,0,none⟩));have b1:=Boxed.new (w.alloc (.cells #[.pointer (some ⟨Bo,0,none⟩)] 238)) 3 (.int .i64 h);have b2:=Boxed.new ((w.alloc (.cells #[.pointer (some ⟨Bo,0,none⟩)] 238)).alloc (.cells #[.int .i64 h] 3)) 3 (.int .i64 72);have b3:=Boxed.new (((w.alloc (.cells #[.pointer (some ⟨Bo,0,none⟩)] 238)).alloc (.cells #[.int .i64 h] 3)).alloc (.cells #[.int .i64 72] 3)) 4 (.bool true);rw[s1]at b1;rw[s2]at b2;rw[s3]at b3
 exact⟨⟨b2.alloc _,((b0.alloc _).alloc _).alloc _,(b1.alloc _).alloc _,b3,(((ho.alloc _).alloc _).alloc _).alloc _,(((hrow.alloc _).alloc _).alloc _).alloc _,by omega,by omega,by omega,by omega,hb,by simp;omega⟩,
   ((((Below.refl base w).alloc hsz _).alloc (by simp;omega) _).alloc (by simp;omega) _).alloc (by simp;omega) _⟩
theorem lr(base Bo:Nat)(v:Value)(k h:Nat)(xs:List Value)(w:World)(ho:Boxed w Bo 36 v)(hrow:w.ownsRow base 5 1 v k xs)(hb:base≤Bo)(hsz:base≤w.heap.size):
  Calls Tryz.prog 245 #[.pointer (some ⟨Bo,0,none⟩),.int .i64 h] w fun e W'=>∃ Bb Bp Bn Bf,e=.returned (.func (.func 286) #[] #[.pointer (some ⟨Bb,0,none⟩),.pointer (some ⟨Bp,0,none⟩),.pointer (some ⟨Bn,0,none⟩),.pointer (some ⟨Bf,0,none⟩)]) ∧
   Pen base W' Bb Bp Bn Bf Bo 72 h true v k xs∧Below base w W':=by
 have P:=Cv ho hrow hb hsz h;go_enter Tryz.func245,Tryz.ntmps245
 go_wp2;go_ret;exact⟨_,_,_,_,rfl,P⟩
theorem cq{base n:Nat}{v:Value}{X:List Value}{W:World}(h:W.ownsRow base 5 1 v n X):∃ a cap,v=.slice a n cap:=by
 rcases h.2 with⟨rfl,h0⟩ | ⟨g,cap,cur,rfl,_⟩
 ·exact⟨none,0,by rw[h0]⟩
 ·exact⟨_,cap,rfl⟩
theorem C9(p:List Int)(h:0<p.length):hd p=p++[45]:=by unfold hd;rw[if_neg (by omega)]
theorem Da(p:List Int)(h:p.length=0):hd p=[]:=by unfold hd;rw[if_pos h]
structure Wr(l:List Int)(base:Nat)(w wr:World)(Bb Bp Bn Bf Bo:Nat)(h dl:Nat)(n:Int)(j:Nat):Prop where
 n0:128≤n
 n1:n≤1114112
 ex:∃(ds:List Nat) (v:Value) (k:Nat),EI l n j dl ds∧(∀ d∈ds,d≤71303231)∧h=(plain l).length+ds.length∧k≤100+71303232 * ds.length∧k=(hd (plain l)++tx (plain l).length ds).length ∧
  Pen base wr Bb Bp Bn Bf Bo (bia (plain l).length ds) h ds.isEmpty v k ((hd (plain l)++tx (plain l).length ds).map (Value.int .u8))
 be:Below base w wr
theorem Wr.h_le{l:List Int}{base:Nat}{w wr:World}{Bb Bp Bn Bf Bo h dl:Nat}{n:Int}{j:Nat}(s:Wr l base w wr Bb Bp Bn Bf Bo h dl n j):h≤l.length∧h=(had l n j).length:=by
 obtain⟨ds,v,k,e,_,hh,_⟩:=s.ex;have:=e.len;have:=ta l n j;omega
theorem GW(p:Nat)(ds:List Nat)(hd:∀ d∈ds,d≤71303231):bia p ds≤1000000000:=by
 cases ds with
 | nil=>simp[bia]
 | cons d ds =>
  have h1:=hd d (by simp);have:=su d (p+ds.length+1) ds.isEmpty (by omega);rw[bia];omega
section
variable {l : List Int} {base : Nat} {w wr : World} {Bb Bp Bn Bf Bo h dl : Nat} {n : Int} {j : Nat}
theorem Wr.dl_le(s:Wr l base w wr Bb Bp Bn Bf Bo h dl n j)(hl:l.length≤63):dl≤71303231:=by
 obtain⟨ds,v,k,e,_⟩:=s.ex;exact e.bound s.n1 hl
theorem Wr.less(s:Wr l base w wr Bb Bp Bn Bf Bo h dl n j)(hj:j<l.length)(hx:l[j]?.getD 0<n):Wr l base w wr Bb Bp Bn Bf Bo h (dl+1) n (j+1):=by
 obtain⟨ds,v,k,e,r⟩:=s.ex;exact⟨s.n0,s.n1,⟨ds,v,k,e.less hj hx,r⟩,s.be⟩
theorem Wr.more(s:Wr l base w wr Bb Bp Bn Bf Bo h dl n j)(hj:j<l.length)(hx:n<l[j]?.getD 0):Wr l base w wr Bb Bp Bn Bf Bo h dl n (j+1):=by
 obtain⟨ds,v,k,e,r⟩:=s.ex;exact⟨s.n0,s.n1,⟨ds,v,k,e.more hj hx,r⟩,s.be⟩
theorem Wr.pass(s:Wr l base w wr Bb Bp Bn Bf Bo h dl n l.length)(hn:n≤1114111):Wr l base w wr Bb Bp Bn Bf Bo h (dl+1) (n+1) 0:=by
 obtain⟨ds,v,k,e,r⟩:=s.ex;exact⟨by have:=s.n0;omega,by omega,⟨ds,v,k,e.pass,r⟩,s.be⟩
theorem Wr.jump(s:Wr l base w wr Bb Bp Bn Bf Bo h dl n 0)(m:Int)(hm:lh l n m)(hl:∀ x∈l,x≤1114111)(D:Nat)(hD:(D:Int)=dl+(m - n) * ((h:Int)+1)):Wr l base w wr Bb Bp Bn Bf Bo h D m 0:=by
 obtain⟨-,hh⟩:=s.h_le;obtain⟨ds,v,k,e,r⟩:=s.ex;have:=hl m hm.1;exact⟨by have:=s.n0;have:=hm.2.1;omega,by omega,⟨ds,v,k,e.jump hm.2.1 hm.2.2 D (by rw[←hh];exact hD),r⟩,s.be⟩
theorem Wr.left(s:Wr l base w wr Bb Bp Bn Bf Bo h dl n 0)(hl:h<l.length):∃ x∈l,n≤x:=by
 obtain⟨-,hh⟩:=s.h_le;exact EI.left (dl:=dl) (ds:=[]) (by omega)
theorem Wr.put(s:Wr l base w wr Bb Bp Bn Bf Bo h dl n j)(hlen:l.length≤63)(hj:j<l.length)(hx:l[j]?.getD 0=n):
  Calls Tryz.prog 286 #[.int .i64 dl,.pointer (some ⟨Bb,0,none⟩),.pointer (some ⟨Bp,0,none⟩),.pointer (some ⟨Bn,0,none⟩),.pointer (some ⟨Bf,0,none⟩)] wr
   fun e W'=>e=.returned (.tuple #[])∧Wr l base w W' Bb Bp Bn Bf Bo (h+1) 0 n (j+1):=by
 have hh:=s.h_le;have hdl:=s.dl_le hlen;obtain⟨ds,v,k,e,hds,hh2,hk,hkl,P⟩:=s.ex;refine(Cb base Bb Bp Bn Bf Bo _ h ds.isEmpty v k _ dl hdl (GW _ _ hds) (by omega) (by omega) wr P).mono ?_;rintro e W' ⟨rfl,⟨v',P'⟩,B'⟩
 have hw:=Ex (bia (plain l).length ds) 36 dl;refine⟨rfl,s.n0,s.n1,⟨dl::ds,v',k+(wn (bia (plain l).length ds) 36 dl).length,e.put hj hx,?_,by rw[List.length_cons];omega,?_,?_,?_⟩,s.be.trans B'⟩
 ·intro d hd
  rcases List.mem_cons.mp hd with rfl | hd
  ·exact hdl
  ·exact hds d hd
 ·rw[List.length_cons];omega
 ·rw[hkl,tx,←List.append_assoc,List.length_append (bs:=wn _ _ _)]
 ·have e1:bia (plain l).length (dl::ds)=adapt dl (h+1) ds.isEmpty:=by rw[bia,hh2]
  rw[e1,tx,←List.append_assoc];exact P'
theorem Wr.fin(s:Wr l base w wr Bb Bp Bn Bf Bo h dl n 0)(hl:l.length≤h)(h0:∀ x∈l,0≤x):∃ v k T,Boxed wr Bo 36 v∧(∃ a c,v=.slice a k c)∧(convert 36 9 v).run Tryz.prog wr=.ok (.string T) wr∧Enc l (bn T):=by
 obtain⟨-,hh⟩:=s.h_le;obtain⟨ds,v,k,e,_,hh2,hk,hkl,P⟩:=s.ex;have E:Enc l (hd (plain l)++tx (plain l).length ds):=⟨ds,rfl,e.fin (by omega)⟩;obtain⟨T,h1,h2⟩:=aO wr base v k (hd (plain l)++tx (plain l).length ds) hkl (fun c hc=>by have:=E.ascii h0 c hc;omega) P.row;obtain⟨a,c,rfl⟩:=cq P.row;exact⟨_,k,T,P.o,⟨a,c,rfl⟩,h1,by rw[h2];exact E⟩
end
theorem oL(b off cap:Nat)(l:List Int)(hlen:l.length≤63)(hall:l.all az=true)(w:World)(hp:0<l.length)(hc:∀ j,j<l.length→w.cell? ⟨b,off+j,none⟩=some (.int .i32 (l[j]?.getD 0))):
  Calls Tryz.prog 204 #[.slice (some ⟨b,off,none⟩) l.length cap] w fun e W'=>∃ T,e=.returned (.string T)∧Enc l (bn T)∧Below w.heap.size w W':=by
 obtain⟨i0,hi0,hz0,hz1,hz2⟩:=info_parts Tryz.info5;have hb:b<w.heap.size:=lt_of_cell (hc 0 hp);have hbd:=AY hall;have HP:=hid (kt (.slice (some ⟨b,off,none⟩) l.length cap) l (by omega) (fun x hx=>(hbd x hx).1) w (.inr ⟨hp,b,off,cap,rfl,hc⟩));have hpl:=nY l;obtain⟨p,hpp⟩:∃ p,(plain l).length=p:=⟨_,rfl⟩;have HPP:=hid hpp;rw[hpp]at HP hpl;clear hpp;obtain⟨N,hN⟩:∃ N,l.length=N:=⟨_,rfl⟩;have HN:=hid hN;rw[hN]at HP hlen hp hpl ⊢;have hc':∀ j,j<N→w.cell? ⟨b,off+j,none⟩=some (.int .i32 (l[j]?.getD 0)):=by rw[←hN];exact hc
 clear hN hc;go_enter Tryz.func204,Tryz.ntmps204
 go_wp2_with fail;refine HP.out.mono ?_;rintro e w1 ⟨v1,rfl,r1,B1⟩
 obtain⟨a1,c1,rfl⟩:=cq r1;have bo:=Boxed.new w1 36 (.slice a1 p c1);have R1:=hid (r1.alloc (.cells #[.slice a1 p c1] 36));have s1:=B1.size
 go_upto_if 16 with fail
 go_cut [] from 16 (fun wc=>∃ v k,Hid (Boxed wc w1.heap.size 36 v)∧Hid (wc.ownsRow w.heap.size 5 1 v k ((hd (plain l)).map (Value.int .u8)))∧k=(hd (plain l)).length∧Hid (Below w.heap.size w wc))
 case first =>
  by_cases hp0:p=0
  ·go_wp2_with fail
   go_meet
   case rel =>
    have e:hd (plain l)=[]:=Da _ (HPP.out.trans hp0);refine⟨_,p,bo,?_,by rw[e,hp0];rfl,(B1.alloc B1.size _)⟩;show World.ownsRow _ _ _ _ _ _ _
    have e2:plain l=[]:=List.eq_nil_of_length_eq_zero (HPP.out.trans hp0);have:=R1.out;rw[e2]at this;rw[e];exact this
  ·have hpz:(0:Int)<(p:Int):=by omega
   have BO:=hid bo;have cb:=bo.cell;clear bo r1
   go_wp2_with(at_builtin;refine wpList_append_own _ rfl _ _ 36 rfl w.heap.size 5 i0 (.int .u8 0) 1 1 Tryz.underlying36 hi0 hz0 hz1 hz2 rfl (by decide) _ _ _ rfl (R1.out.alloc _) ⟨w1.heap.size+1,0,none⟩ 1 1 [.int .u8 45] rfl rfl (by have:=bZ (w1.alloc (.cells #[.slice a1 p c1] 36)) 5 [.int .u8 45];simpa using this) (by simp[Value.oneCell']) (by unfold maxLen;omega) (by omega) (by simp;omega) ?_;intro v2 w3 hown hgrow _;obtain⟨a2,c2,rfl⟩:=cq hown;have c3:=gj (t:=36) (e:=5) (n₀:=w.heap.size) (BO.out.alloc _) (by decide) (R1.out.alloc _) (by simp;omega) (by omega) hown hgrow;have c4:=c3.1.cell;have c5:=c3.1.frozen)
   go_meet
   case rel =>
    have e:hd (plain l)=plain l++[45]:=C9 _ (by rw[HPP.out];omega);refine⟨_,p+1,c3.2.1,?_,by rw[e,List.length_append,HPP.out];rfl,?_⟩
    ·show World.ownsRow _ _ _ _ _ _ _
     rw[e,List.map_append];exact c3.2.2.1
    ·show Below _ _ _
     exact((B1.alloc B1.size _).alloc (by simp;omega) _).trans c3.2.2.2.2
 case rest =>
  obtain⟨v,k,h1,h2,hk,h3⟩:=hcut;have hkl:=Gp (plain l);have HK:=hid hk;have hk2:k≤100:=by rw[HPP.out]at hkl;omega
  clear hk hkl
  go_wp2_with(go_at_call 245;refine(lr w.heap.size w1.heap.size v k p _ _ h1.out h2.out s1 h3.out.size).mono ?_;rintro e w4 ⟨Bb,Bp,Bn,Bf,rfl,PN,B4⟩)
  go_loopw [4,6,7] (fun vh vn vd wr=>∃(h dl:Nat) (n:Int),vh=.int .i64 h∧vn=.int .i32 n∧vd=.int .i64 dl∧Hid (Wr l w.heap.size w wr Bb Bp Bn Bf w1.heap.size h dl n 0))
   (fun _ vn _ _=>ups l (intOf vn))
  case atStart =>
   refine⟨p,0,128,rfl,rfl,rfl,by omega,by omega,⟨[],v,k,EI.start l,(fun d hd=>by cases hd),by rw[HPP.out];rfl,by omega,by rw[HK.out];simp[tx],?_⟩,h3.out.trans B4⟩
   simpa[tx,bia]using PN
  case round =>
   obtain⟨h,dl,n,rfl,rfl,rfl,HW⟩:=hrel;by_cases hlt:h<N
   ·have n0:=HW.out.n0
    have n1:=HW.out.n1;have d1:=HW.out.dl_le (by rw[HN.out];exact hlen);have HM:=hid (wg l n (fun x hx=>(hbd x hx).2) (HW.out.left (by rw[HN.out];exact hlt)));have m1:=(hbd _ HM.out.1).2;have m0:=HM.out.2.1;have hcr:∀ j,j<N→wr.cell? ⟨b,off+j,none⟩=some (.int .i32 (l[j]?.getD 0)):=fun j hj=>(HW.out.be.cell (p:=⟨b,off+j,none⟩) hb).trans (hc' j hj)
    have HL:=hid (wk b off cap l n (by rw[HN.out];omega) (by rw[HN.out];exact hp) wr (by rw[HN.out];exact hcr));rw[HN.out]at HL;obtain⟨m,hm⟩:∃ m,lst l n=m:=⟨_,rfl⟩;rw[hm]at HM m0 m1 HL;clear hm;obtain⟨X,hX⟩:∃ X:Nat,(m - n) * ((h:Int)+1)=(X:Int):=⟨((m - n) * ((h:Int)+1)).toNat,by have:=Int.mul_nonneg (show 0≤m - n by omega) (show 0≤(h:Int)+1 by omega);omega⟩
    have hX1:X≤1114112 * 63:=by
     have a1:(m - n) * ((h:Int)+1)≤1114112 * ((h:Int)+1):=Int.mul_le_mul_of_nonneg_right (by omega) (by omega);omega
    have HW2:=hid (HW.out.jump m HM.out (fun x hx=>(hbd x hx).2) (dl+X) (by rw[hX];push_cast;rfl));clear hcr;have HBD:=hid hbd
    go_wp2_with(go_at_call 246;refine HL.out.mono ?_;rintro e w' ⟨rfl,hw'⟩;obtain rfl:=hw'.symm)
    go_loopw [4,7,41] (fun vh vd vj wi=>∃(h dl j:Nat),vh=.int .i64 h∧vd=.int .i64 dl∧vj=.int .i64 j∧j≤N∧Hid (Wr l w.heap.size w wi Bb Bp Bn Bf w1.heap.size h dl m j))
     (fun _ _ vj _=>N - (intOf vj).toNat)
    case atStart=>exact⟨h,dl+X,0,rfl,by first | rfl | go_num,rfl,Nat.zero_le _,HW2⟩
    case round =>
     obtain⟨h',dl',j,rfl,rfl,rfl,hj,HV⟩:=hrel;have e1:=HV.out.dl_le (by rw[HN.out];exact hlen);have e2:=HV.out.h_le.1;rw[HN.out]at e2;by_cases hjn:j<N
     ·have hck:wr.cell? ⟨b,off+j,none⟩=some (.int .i32 (l[j]?.getD 0)):=(HV.out.be.cell (p:=⟨b,off+j,none⟩) hb).trans (hc' j hjn)
      have HLs:=hid (fun h=>HV.out.less (by rw[HN.out];exact hjn) h);have HMo:=hid (fun h=>HV.out.more (by rw[HN.out];exact hjn) h);have HPu:=hid (fun h=>HV.out.put (by rw[HN.out];exact hlen) (by rw[HN.out];exact hjn) h);obtain⟨c,hcc⟩:∃ c,l[j]?.getD 0=c:=⟨_,rfl⟩;rw[hcc]at hck HLs HMo HPu;clear hcc;rcases Int.lt_trichotomy c m with hcm | hcm | hcm
      ·go_wp2
       go_roundw
       case rel=>exact⟨h',dl'+1,j+1,rfl,by go_num,by go_num,by omega,HLs.out hcm⟩
       case measure=>simp[intOf];omega
      ·subst hcm
       go_wp2_with(go_at_call 286;refine(HPu.out rfl).mono ?_;rintro e w' ⟨rfl,HW'⟩)
       go_roundw
       case rel=>exact⟨h'+1,0,j+1,by go_num,rfl,by go_num,by omega,HW'⟩
       case measure=>simp[intOf];omega
      ·go_wp2
       go_roundw
       case rel=>exact⟨h',dl',j+1,rfl,rfl,by go_num,by omega,HMo.out hcm⟩
       case measure=>simp[intOf];omega
     ·obtain rfl:j=N:=by omega
      go_wp2
      go_roundw
      case rel=>exact⟨h',dl'+1,m+1,rfl,by go_num,by go_num,Wr.pass (by rw[HN.out];exact HV.out) m1⟩
      case measure=>exact xC l n m HM.out
   ·obtain⟨v,k,T,hbx,⟨a,c,rfl⟩,hcv,HE⟩:=HW.out.fin (by rw[HN.out];omega) (fun x hx=>(hbd x hx).1)
    have cc:=hbx.cell;have HE':=hid HE;clear HE;go_wp2;go_ret;exact⟨T,rfl,HE'.out,HW.out.be⟩
theorem oM(a:Option Addr)(cap:Nat)(w:World):
  Calls Tryz.prog 204 #[.slice a 0 cap] w fun e W'=>∃ T,e=.returned (.string T)∧Enc [] (bn T)∧Below w.heap.size w W':=by
 have HP:=hid (kt (.slice a 0 cap) [] (by simp) (by simp) w (.inl ⟨rfl,a,cap,rfl⟩));go_enter Tryz.func204,Tryz.ntmps204
 go_wp2_with fail;refine HP.out.mono ?_;rintro e w1 ⟨v1,rfl,r1,B1⟩
 obtain⟨a1,c1,rfl⟩:=cq r1;have bo:=Boxed.new w1 36 (.slice a1 0 c1);have R1:=hid (r1.alloc (.cells #[.slice a1 0 c1] 36));have s1:=B1.size;have e0:(plain []).length=0:=rfl
 go_wp2_with(go_at_call 245;refine(lr w.heap.size w1.heap.size (.slice a1 0 c1) 0 0 [] _ bo R1.out s1 (by simp;omega)).mono ?_;rintro e w4 ⟨Bb,Bp,Bn,Bf,rfl,PN,B4⟩)
 refine wp_loop_rounds 1 ?_;rw[rounds_succ];obtain⟨T,hcv,hT⟩:=aO w4 w.heap.size (.slice a1 0 c1) 0 [] rfl (fun b hb=>by cases hb) PN.row;have HT:=hid hT;have cc:=PN.o.cell;clear hT;go_wp2;go_ret;exact⟨T,rfl,⟨[],by rw[HT.out];rfl,rfl⟩,(B1.alloc B1.size _).trans B4⟩
theorem eE(v:Value)(l:List Int)(hlen:l.length≤63)(hall:l.all az=true)(w:World)(hv:au w v l):
  Calls Tryz.prog 204 #[v] w fun e W'=>∃ T,e=.returned (.string T)∧Enc l (bn T)∧Below w.heap.size w W':=by
 rcases hv with⟨rfl,a,cap,rfl⟩ | ⟨hp,b,off,cap,rfl,hc⟩
 ·exact oM a cap w
 ·exact oL b off cap l hlen hall w hp hc
def kN(l:List Int)(t:ByteArray)(e:Int):Prop :=
 (63<l.length∧t=⟨#[]⟩∧e=4)∨(l.length≤63∧l.all az=false∧t=⟨#[]⟩∧e=2) ∨
  (l.length≤63∧l.all az=true∧∃ T,Enc l T∧((63<T.length∧t=⟨#[]⟩∧e=4)∨(T.length≤63∧bn t=T∧e=0)))
theorem C3{w:World}{v:Value}{l:List Int}(h:au w v l):∃ a cap,v=.slice a l.length cap:=by
 rcases h with⟨rfl,a,cap,rfl⟩ | ⟨hp,b,off,cap,rfl,hc⟩
 ·exact⟨a,cap,rfl⟩
 ·exact⟨_,cap,rfl⟩
theorem gE(v:Value)(l:List Int)(hlen:l.length≤17179869184)(w:World)(hv:au w v l):
  Calls Tryz.prog 152 #[v] w fun e W'=>(∃ t r,e=.returned (.tuple #[.string t,.int .i64 r])∧kN l t r)∧Below w.heap.size w W':=by
 obtain⟨a,cap,rfl⟩:=C3 hv;have HU:=hid (fW _ l hlen w hv);have HV:=hid hv;have HW:=hid (fun(h1:l.length≤63) (h2:l.all az=true) (w:World) (hv:au w (.slice a l.length cap) l)=>eE _ l h1 h2 w hv);clear hv;obtain⟨N,hN⟩:∃ N,l.length=N:=⟨_,rfl⟩;have HN:=hid hN;rw[hN]at HU HV HW hlen ⊢;clear hN;go_enter Tryz.func152,Tryz.ntmps152
 by_cases h1:63<N
 ·go_wp2
  go_ret2;exact⟨⟨_,_,rfl,.inl ⟨by rw[HN.out];exact h1,rfl,rfl⟩⟩,Below.refl _ _⟩
 ·go_wp2_with fail
  refine HU.out.mono ?_;rintro e w1 ⟨⟨t,r,rfl,hr⟩,B1⟩
  rcases hr with⟨q1,rfl,q3⟩ | ⟨q1,rfl,q3⟩
  ·have HQ:=hid q1
   have HQ3:=hid q3;clear q1 q3;have HI:=hid (HV.out.below B1 (Nat.le_refl _))
   go_wp2_with fail;refine(HW.out (by omega) HQ.out w1 HI.out).mono ?_;rintro e w2 ⟨T,rfl,HT,B2⟩
   have HT':=hid HT;clear HT;have B12:=B1.trans (B2.mono B1.size);by_cases h2:63<T.size
   ·go_wp2
    go_ret2;exact⟨⟨_,_,rfl,.inr (.inr ⟨by rw[HN.out];omega,HQ.out,_,HT'.out,.inl ⟨by rw[aa];exact h2,rfl,rfl⟩⟩)⟩,B12⟩
   ·go_wp2
    go_ret2;exact⟨⟨_,_,rfl,.inr (.inr ⟨by rw[HN.out];omega,HQ.out,_,HT'.out,.inr ⟨by rw[aa];omega,rfl,rfl⟩⟩)⟩,B12⟩
  ·have HQ:=hid q1
   clear q1;go_wp2
   go_ret2;exact⟨⟨_,_,rfl,.inr (.inl ⟨by rw[HN.out];omega,HQ.out,rfl,rfl⟩)⟩,B1⟩
end Go.Proofs.YtkekkbciiohbkaaGreatDoor.P
