/- Texts one behind the other: DN DO DQ DR NSB NSA NSC NSD. -/
import Derived.Test.YtkekkbciiohbkaaGreatDoorZ7
import Derived.Test.YtkekkbciiohbkaaGreatDoorProg
import Derived.Deep.MidRow
import Derived.WalkKit
import Derived.WalkSpells
import Derived.WalkLawsBesides
import Derived.OwnWalk
import Derived.Maps.AppendAt
import Derived.Laws.AppendOwnNone
import Derived.Laws.Concat
import Derived.Laws.OwnMore
import Derived.Deep.QuietTactic
import Derived.BigQuiet
import Derived.RegionTactic
import Derived.BigRegion
import Derived.Laws.Tables
import Derived.Laws.Rows
import Derived.KernelRfl
set_option maxRecDepth 100000
set_option maxHeartbeats 16000000
set_option linter.unusedVariables false
set_option linter.unnecessarySimpa false
namespace Go.Proofs.YtkekkbciiohbkaaGreatDoor.D
open Go.RowKit Go.Lib Go.Sort Go.Shelf
theorem eF{P:Program}{ops:Array Oper}{Q:Exit→Act→World→Prop}{a:Act}{w:World}{rest:List Oper}{o:Oper}(hg:o.guard=none)(t:TypeId)(len:Nat)(parts:Array (Nat×Operand))(ho:o.op=.buildSlice t len parts)
  (e:TypeId) (hu:P.underlying t=some (.slice e)) (size:Nat) (hs:∀ w,(sizeOf e).run P w=.ok size w) (z:Array Value) (hz:∀ w,(zeroValue e).run P w=.ok (.agg z) w)
  (hn:len * size≤16777216) (h0:¬ len * size=0) (cells:Array Value)
  (hf:Instr.fill (fun i=>some (i * size,size)) ((Array.range (len * size)).map (z[· % z.size]!)) (parts.map fun(i,x)=>(i,a.eval x)).toList=some cells)
  (h:wpList P ops Q rest (a.put o.dst (.slice (some ⟨w.heap.size,0,none⟩) len len)) (w.alloc (.cells cells e))):wpList P ops Q (o::rest) a w:=by
 refine wpList_plain hg fun K hK=>?_
 unfold Oper.wp execOp
 have hr:(Instr.buildSlice t len (parts.map fun(i,x)=>(i,a.eval x))).run P w=.ok (.slice (some ⟨w.heap.size,0,none⟩) len len) (w.alloc (.cells cells e)):=by
  have hn':¬ len * size > 2 ^ 24:=by omega
  simp only[Instr.buildSlice,Sem.run_bind,run_underlying hu,hs,Result.andThen_ok,if_neg hn',if_neg h0,hz,Value.cells];simp only[Sem.run_pure,Result.andThen_ok,hf];simp[newRow]
 simp only[ho,Sem.run_bind,hr,Result.andThen_ok];exact hK _ _ h
def tab:List Rw:=eK++eA++cL++later
theorem iu{d:List Rw}{m r:Int}(h:∀ x∈d,m≤x.1)(hr:r<m):d.find? (fq r)=none:=by
 rw[List.find?_eq_none];intro x hx
 have:=h x hx;simp[fq];omega
theorem py{d:List Rw}{m r:Int}(h:∀ x∈d,x.2.1<m)(hr:m≤r):d.find? (fq r)=none:=by
 rw[List.find?_eq_none];intro x hx
 have:=h x hx;simp[fq];omega
theorem Dh(r:Int):fnd r=bM tab r:=by
 have g0:∀ x∈eA,(768:Int)≤x.1:=by decide
 have g1:∀ x∈cL,(1424:Int)≤x.1:=by decide
 have g2:∀ x∈later,(7680:Int)≤x.1:=by decide
 have k0:∀ x∈eK,x.2.1<(768:Int):=by decide
 have k1:∀ x∈eA,x.2.1<(1424:Int):=by decide
 have k2:∀ x∈cL,x.2.1<(7680:Int):=by decide
 unfold fnd bM tab;simp only[List.find?_append];by_cases h1:r<768
 ·rw[if_pos h1,iu g0 h1,iu (m:=1424) g1 (by omega),iu (m:=7680) g2 (by omega)]
  simp
 ·rw[if_neg h1,py k0 (by omega)]
  by_cases h2:r<1424
  ·rw[if_pos h2,iu g1 h2,iu (m:=7680) g2 (by omega)]
   simp
  ·rw[if_neg h2,py k1 (by omega)]
   by_cases h3:r<7680
   ·rw[if_pos h3,iu g2 h3]
    simp
   ·rw[if_neg h3,py k2 (by omega)]
    simp
end Go.Proofs.YtkekkbciiohbkaaGreatDoor.D
namespace Go.Proofs.YtkekkbciiohbkaaGreatDoor.N
open Go.RowKit
abbrev Pt:=Int×Int
def z2:Pt:=(0,0)
theorem hid{p:Prop}(h:p):Hid p:=h
def Pts(W:World)(b o:Nat)(l:List Pt):Prop:=∃ cur t,W.heap[b]? = some (.cells cur t (0,0)) ∧
 ∀ j,j<l.length→cur[o+j * 2]? = some (.int .i32 (l[j]?.getD z2).1)∧cur[o+j * 2+1]? = some (.int .u8 (l[j]?.getD z2).2)
structure Chg(b o n:Nat)(W W':World):Prop where
 g:W.grownBy W' (some b)
 blk:∃ cur cur' t,W.heap[b]? = some (.cells cur t (0,0))∧W'.heap[b]? = some (.cells cur' t (0,0))∧cur'.size=cur.size∧∀ k,k<o∨o+n * 2≤k→cur'[k]? = cur[k]?
theorem Pts.lt{W:World}{b o:Nat}{l:List Pt}(h:Pts W b o l):b<W.heap.size:=by
 obtain⟨cur,t,h,_⟩:=h;exact(Array.getElem?_eq_some_iff.1 h).1
theorem Pts.c0{W:World}{b o:Nat}{l:List Pt}(h:Pts W b o l)(j:Nat)(hj:j<l.length):W.cell? ⟨b,o+j * 2,none⟩=some (.int .i32 (l[j]?.getD z2).1):=by
 obtain⟨cur,t,h,hc⟩:=h;simp[World.cell?,h,(hc j hj).1]
theorem Pts.c1{W:World}{b o:Nat}{l:List Pt}(h:Pts W b o l)(j:Nat)(hj:j<l.length):W.cell? ⟨b,o+j * 2+1,none⟩=some (.int .u8 (l[j]?.getD z2).2):=by
 obtain⟨cur,t,h,hc⟩:=h;simp[World.cell?,h,(hc j hj).2]
theorem Pts.fr{W:World}{b o:Nat}{l:List Pt}(h:Pts W b o l)(k:Nat):W.frozen? ⟨b,k,none⟩=false:=by
 obtain⟨cur,t,h,hc⟩:=h;simp[World.frozen?,h]
theorem Pts.block{W W':World}{b o:Nat}{l:List Pt}(h:Pts W b o l)(e:W'.heap[b]? = W.heap[b]?):Pts W' b o l:=by
 obtain⟨cur,t,h,hc⟩:=h;exact⟨cur,t,e.trans h,hc⟩
theorem Pts.below{W W':World}{b o n:Nat}{l:List Pt}(h:Pts W b o l)(hB:Below n W W')(hn:b<n):Pts W' b o l:=h.block (hB.block b hn)
theorem Pts.drew{W:World}{b o:Nat}{l:List Pt}(h:Pts W b o l):Pts W.drew b o l:=h
theorem Chg.refl{W:World}{b o:Nat}{l:List Pt}(h:Pts W b o l)(n:Nat):Chg b o n W W:=by
 obtain⟨cur,t,h,_⟩:=h;exact⟨⟨rfl,rfl,rfl,Nat.le_refl _,fun _ _ _=>rfl⟩,cur,cur,t,h,h,rfl,fun _ _=>rfl⟩
theorem Chg.trans{A B C:World}{b o n:Nat}(h:Chg b o n A B)(k:Chg b o n B C):Chg b o n A C:=by
 obtain⟨c1,c2,t,e1,e2,s1,f1⟩:=h.blk;obtain⟨d1,d2,t',e3,e4,s2,f2⟩:=k.blk;rw[e2]at e3;cases e3
 exact⟨⟨k.g.os.trans h.g.os,k.g.tape.trans h.g.tape,k.g.output.trans h.g.output,Nat.le_trans h.g.size k.g.size,fun i hi hne=>(k.g.block i (Nat.lt_of_lt_of_le hi h.g.size) hne).trans (h.g.block i hi hne)⟩,
   c1,d2,t,e1,e4,s2.trans s1,fun i hi=>(f2 i hi).trans (f1 i hi)⟩
theorem Chg.below{A B C:World}{b o n:Nat}(h:Chg b o n A B)(hB:Below B.heap.size B C):Chg b o n A C:=by
 obtain⟨c1,c2,t,e1,e2,s1,f1⟩:=h.blk;have hb:b<B.heap.size:=(Array.getElem?_eq_some_iff.1 e2).1
 exact⟨⟨hB.os.trans h.g.os,hB.tape.trans h.g.tape,hB.output.trans h.g.output,Nat.le_trans h.g.size hB.size,fun i hi hne=>(hB.block i (Nat.lt_of_lt_of_le hi h.g.size)).trans (h.g.block i hi hne)⟩,
   c1,c2,t,e1,(hB.block b hb).trans e2,s1,f1⟩
theorem Chg.drew{A B:World}{b o n:Nat}(h:Chg b o n A B):Chg b o n A B.drew:=⟨⟨h.g.os,h.g.tape,h.g.output,h.g.size,h.g.block⟩,h.blk⟩
theorem Chg.lt{A B:World}{b o n:Nat}(h:Chg b o n A B):b<A.heap.size:=by
 obtain⟨c1,c2,t,e1,_⟩:=h.blk;exact(Array.getElem?_eq_some_iff.1 e1).1
theorem heap_setCell_same(W:World)(b k:Nat)(v:Value)(cur:Array Value)(t:TypeId)(h:W.heap[b]? = some (.cells cur t (0,0))):(W.setCell ⟨b,k,none⟩ v).heap[b]? = some (.cells (cur.setIfInBounds k v) t (0,0)):=by
 rw[setCell_eq_setRow W b k cur t (0,0) v h];exact setRow_heap W b cur _ t (0,0) h
theorem size_setCell'(W:World)(a:Addr)(v:Value):(W.setCell a v).heap.size=W.heap.size:=by simp[World.setCell]
theorem Chg.set{A B:World}{b o n:Nat}(h:Chg b o n A B)(k:Nat)(v:Value)(h1:o≤k)(h2:k<o+n * 2):Chg b o n A (B.setCell ⟨b,k,none⟩ v):=by
 obtain⟨c1,c2,t,e1,e2,s1,f1⟩:=h.blk;refine⟨⟨h.g.os,h.g.tape,h.g.output,by rw[size_setCell'];exact h.g.size,fun i hi hne=>?_⟩,c1,c2.setIfInBounds k v,t,e1,heap_setCell_same B b k v c2 t e2,by simpa using s1,fun i hi=>?_⟩
 ·rw[Below.heap_setCell B ⟨b,k,none⟩ v i (fun e=>hne (by rw[e]))];exact h.g.block i hi hne
 ·rw[Array.getElem?_setIfInBounds_ne (by omega)];exact f1 i hi
theorem Pts.set{W:World}{b o:Nat}{l:List Pt}(h:Pts W b o l)(i:Nat)(x:Pt)(hi:i<l.length):
  Pts ((W.setCell ⟨b,o+i * 2,none⟩ (.int .i32 x.1)).setCell ⟨b,o+i * 2+1,none⟩ (.int .u8 x.2)) b o (l.set i x):=by
 obtain⟨cur,t,h,hc⟩:=h;refine⟨_,t,heap_setCell_same _ b _ _ _ t (heap_setCell_same W b _ _ cur t h),fun j hj=>?_⟩;rw[List.length_set]at hj;have hci:=hc i hi
 have hsz1:o+i * 2+1<cur.size:=by
  by_cases hh:o+i * 2+1<cur.size
  ·exact hh
  ·rw[Array.getElem?_eq_none (Nat.le_of_not_lt hh)]at hci;simp at hci
 by_cases hij:j=i
 ·subst hij
  rw[Array.getElem?_setIfInBounds_ne (by omega),Array.getElem?_setIfInBounds_self_of_lt (by omega),Array.getElem?_setIfInBounds_self_of_lt (by simpa using hsz1)];simp[hi]
 ·rw[Array.getElem?_setIfInBounds_ne (by omega),Array.getElem?_setIfInBounds_ne (by omega),Array.getElem?_setIfInBounds_ne (by omega),Array.getElem?_setIfInBounds_ne (by omega)]
  rw[List.getElem?_set_ne (by omega)];exact hc j hj
structure aE(w:World) where
 W:World
 h:Below w.heap.size w W
theorem ay{P:Program}{id:Nat}{Q:Exit→Act→World→Prop}{a:Act}{w:World}{l:List Oper}(hm:P.follows .mixedOrders=true)(hB:Region.lexB .any l.toArray=true)
  (h:wpQuiet P l.toArray (fun w'=>∃ x:aE w,w'=x.W) (fun a'=>∀ w',(∃ x:aE w,w'=x.W)→Q .normal a' w') l a):(Code.region id l.toArray true).wp P Q a w :=
 wp_region_quiet (C:=fun w'=>∃ x:aE w,w'=x.W) hm hB ⟨⟨{ w with drawn:=w.drawn+1 },⟨rfl,rfl,rfl,Nat.le_refl _,fun _ _=>rfl⟩⟩,rfl⟩ (by simpa using h)
theorem aE.call{w:World}{f:FuncId}{args:Array Value}{v:Value}(x:aE w)(h:Calls Tryz.prog f args x.W fun e w'=>e=.returned v∧Below x.W.heap.size x.W w'):Calls Tryz.prog f args x.W fun e w'=>e=.returned v∧∃ y:aE w,w'=y.W :=
 h.mono fun _ w' ⟨he,hb⟩=>⟨he,⟨w',x.h.trans (hb.mono x.h.size)⟩,rfl⟩
def Srt(l:List Pt):Prop:=l.Pairwise (fun a b=>a.2≤b.2)
structure Stb(l l':List Pt):Prop where
 perm:l'.Perm l
 fil:∀ k,l'.filter (fun x=>x.2==k)=l.filter (fun x=>x.2==k)
theorem Stb.refl(l:List Pt):Stb l l:=⟨.refl _,fun _=>rfl⟩
theorem Stb.trans{a b c:List Pt}(h:Stb a b)(k:Stb b c):Stb a c:=⟨k.perm.trans h.perm,fun i=>(k.fil i).trans (h.fil i)⟩
theorem Stb.append{a b c d:List Pt}(h:Stb a b)(k:Stb c d):Stb (a++c) (b++d):=⟨h.perm.append k.perm,fun i=>by rw[List.filter_append,List.filter_append,h.fil,k.fil]⟩
theorem Stb.len{a b:List Pt}(h:Stb a b):b.length=a.length:=h.perm.length_eq
theorem Stb.swap{X Y:List Pt}(h:∀ x∈X,∀ y∈Y,x.2≠y.2):Stb (X++Y) (Y++X):=by
 refine⟨List.perm_append_comm,fun k=>?_⟩;rw[List.filter_append,List.filter_append];by_cases hx:X.filter (fun x=>x.2==k)=[]
 ·rw[hx];simp
 ·have:Y.filter (fun x=>x.2==k)=[]:=by
   rw[List.filter_eq_nil_iff];intro y hy he
   obtain⟨x,hx'⟩:=List.exists_mem_of_ne_nil _ hx;rw[List.mem_filter]at hx';exact h x hx'.1 y hy (by have:=hx'.2;simp at this he;omega)
  rw[this];simp
theorem Srt.nil:Srt []:=List.Pairwise.nil
theorem tS(x:Pt):Srt [x]:=List.pairwise_singleton _ _
theorem aQ{a b:List Pt}:Srt (a++b)↔Srt a∧Srt b∧∀ x∈a,∀ y∈b,x.2≤y.2:=List.pairwise_append
theorem cR{x:Pt}{b:List Pt}:Srt (x::b)↔(∀ y∈b,x.2≤y.2)∧Srt b:=List.pairwise_cons
theorem lM:∀ {a b:List Pt},Srt a→Srt b→Stb a b→a=b
 | [],b,_,_,h=>by have:=h.perm.length_eq;exact(List.length_eq_zero_iff.1 (by simpa using this)).symm
 | x::a,[],_,_,h=>by have:=h.perm.length_eq;simp at this
 | x::a,y::b,ha,hb,h=>by
  have hxm:x∈y::b:=h.perm.mem_iff.2 List.mem_cons_self;have hym:y∈x::a:=h.perm.mem_iff.1 List.mem_cons_self
  have h1:x.2≤y.2:=by
   rcases List.mem_cons.1 hym with rfl | hy
   ·exact Int.le_refl _
   ·exact(cR.1 ha).1 y hy
  have h2:y.2≤x.2:=by
   rcases List.mem_cons.1 hxm with rfl | hx
   ·exact Int.le_refl _
   ·exact(cR.1 hb).1 x hx
  have e:x.2=y.2:=by omega
  have hf:=h.fil x.2;rw[List.filter_cons_of_pos (by simp[e]),List.filter_cons_of_pos (by simp)]at hf;have hxy:y=x:=(List.cons.inj hf).1;subst hxy
  have hs:Stb a b:=⟨(List.perm_cons y).1 h.perm,fun k=>by
    have:=h.fil k
    by_cases hk:(y.2==k)=true
    · simp only[List.filter_cons,hk,if_true]at this;exact(List.cons.inj this).2
    · simp only[List.filter_cons,hk]at this;simpa using this⟩
  rw[lM (cR.1 ha).2 (cR.1 hb).2 hs]
def nE(x:Pt):List Pt→List Pt
 | []=>[x]
 | y::l=>if y.2<x.2 then y::nE x l else x::y::l
def cP:List Pt→List Pt
 | []=>[]
 | x::l=>nE x (cP l)
theorem rD(x y:Pt):∀ l,y∈nE x l↔y=x∨y∈l
 | []=>by simp[nE]
 | z::l=>by
  unfold nE;split
  ·rw[List.mem_cons,rD x y l,List.mem_cons]
   constructor
   ·rintro(h | h | h)
    ·exact .inr (.inl h)
    ·exact .inl h
    ·exact .inr (.inr h)
   ·rintro(h | h | h)
    ·exact .inr (.inl h)
    ·exact .inl h
    ·exact .inr (.inr h)
  ·simp
theorem rB(x:Pt):∀ l,Stb (x::l) (nE x l)
 | []=>Stb.refl _
 | y::l=>by
  unfold nE;split
  ·rename_i h
   have h1:Stb (x::y::l) (y::x::l):=by
    have:=(Stb.swap (X:=[x]) (Y:=[y]) (by intro a ha b hb;simp at ha hb;subst ha;subst hb;omega)).append (Stb.refl l)
    simpa using this
   have h2:Stb (y::x::l) (y::nE x l):=by
    have:=(Stb.refl [y]).append (rB x l)
    simpa using this
   exact h1.trans h2
  ·exact Stb.refl _
theorem rC(x:Pt):∀ l,Srt l→Srt (nE x l)
 | [],_=>tS x
 | y::l,h=>by
  have hc:=cR.1 h;unfold nE;split
  ·rename_i hlt
   refine cR.2 ⟨fun z hz=>?_,rC x l hc.2⟩;rcases(rD x z l).1 hz with rfl | hz
   ·omega
   ·exact hc.1 z hz
  ·rename_i hlt
   refine cR.2 ⟨fun z hz=>?_,h⟩;rcases List.mem_cons.1 hz with rfl | hz
   ·omega
   ·have:=hc.1 z hz;omega
theorem cu:∀ l,Stb l (cP l)
 | []=>Stb.refl _
 | x::l=>by
  have:=(Stb.refl [x]).append (cu l);exact Stb.trans (by simpa using this) (rB x _)
theorem ou:∀ l,Srt (cP l)
 | []=>Srt.nil
 | x::l=>rC x _ (ou l)
theorem zK{l l':List Pt}(h:Stb l l')(hs:Srt l'):l'=cP l :=
 (lM (ou l) hs ⟨h.perm.trans (cu l).perm.symm,fun k=>(h.fil k).trans ((cu l).fil k).symm⟩).symm
theorem dQ(X:List Pt)(y:Pt)(Z:List Pt)(j:Nat)(h:X.length=j):(X++y::Z)[j]?.getD z2=y:=by
 subst h;simp
theorem mJ(X:List Pt)(x y:Pt)(Z:List Pt)(j:Nat)(h:X.length=j):(X++x::y::Z)[j+1]?.getD z2=y:=by
 subst h;simp
theorem tR(X:List Pt)(p x:Pt)(Z:List Pt)(j:Nat)(h:X.length=j):((X++p::x::Z).set (j+1) p).set j x=X++x::p::Z:=by
 subst h;simp
theorem swap_nb'(X:List Pt)(p x:Pt)(Z:List Pt)(j:Nat)(h:X.length=j):((X++p::x::Z).set j x).set (j+1) p=X++x::p::Z:=by
 subst h;simp
theorem rA{P Q:List Pt}{x:Pt}(hs:Srt (P++Q))(hq:∀ q∈Q,x.2<q.2)(hp:∀ p∈P,p.2≤x.2):Srt (P++x::Q)∧Stb (P++Q++[x]) (P++x::Q):=by
 have h:=aQ.1 hs;refine⟨aQ.2 ⟨h.1,cR.2 ⟨fun y hy=>by have:=hq y hy;omega,h.2.1⟩,fun a ha y hy=>?_⟩,?_⟩
 ·rcases List.mem_cons.1 hy with rfl | hy
  ·exact hp a ha
  ·exact h.2.2 a ha y hy
 ·have:=(Stb.refl P).append (Stb.swap (X:=Q) (Y:=[x]) (fun a ha b hb=>by simp at hb;subst hb;have:=hq a ha;omega))
  simpa using this
theorem yl{P:List Pt}{p:Pt}(h:Srt (P++[p])){c:Int}(hc:p.2≤c):∀ a∈P++[p],a.2≤c:=by
 intro a ha
 rcases List.mem_append.1 ha with h1 | h1
 ·have:=(aQ.1 h).2.2 a h1 p (by simp);omega
 ·simp at h1;subst h1;exact hc
def iE(a b:Int):Int:=if a<b then -1 else if b<a then 1 else 0
theorem jN(a b:Int):(iE a b<0)↔a<b:=by unfold iE;split <;> (try split) <;> omega
theorem j9(a:Int)(w:World):Calls Tryz.prog 307 #[.int .u8 a] w fun e w'=>e=.returned (.bool false)∧w'=w:=by
 go_enter Tryz.func307,Tryz.ntmps307
 go_wp2;go_ret;exact⟨by simp,rfl⟩
theorem r0(a b:Int)(w:World):Calls Tryz.prog 294 #[.int .u8 a,.int .u8 b] w fun e w'=>e=.returned (.int .i64 (iE a b))∧w'=w:=by
 obtain⟨c,hc⟩:∃ c,c=iE a b:=⟨_,rfl⟩;have HC:=hid hc;rw[←hc];clear hc;by_cases h1:a<b
 ·have HE:Hid (c=-1):=by show _=_;rw[HC.out];unfold iE;rw[if_pos h1]
  clear HC;go_enter Tryz.func294,Tryz.ntmps294
  go_wp2_with(go_at_call 307;refine(j9 _ _).mono ?_;rintro e w' ⟨rfl,rfl⟩)
  go_ret;exact⟨by rw[HE.out];rfl,rfl⟩
 ·by_cases h2:b<a
  ·have HE:Hid (c=1):=by show _=_;rw[HC.out];unfold iE;rw[if_neg h1,if_pos h2]
   clear HC;go_enter Tryz.func294,Tryz.ntmps294
   go_wp2_with(go_at_call 307;refine(j9 _ _).mono ?_;rintro e w' ⟨rfl,rfl⟩)
   go_ret;exact⟨by rw[HE.out];rfl,rfl⟩
  ·have HE:Hid (c=0):=by show _=_;rw[HC.out];unfold iE;rw[if_neg h1,if_neg h2]
   clear HC;go_enter Tryz.func294,Tryz.ntmps294
   go_wp2_with(go_at_call 307;refine(j9 _ _).mono ?_;rintro e w' ⟨rfl,rfl⟩)
   go_ret;exact⟨by rw[HE.out];rfl,rfl⟩
theorem eO(x y:Pt)(w:World):Calls Tryz.prog 293 #[.agg #[.int .i32 x.1,.int .u8 x.2],.agg #[.int .i32 y.1,.int .u8 y.2]] w fun e w'=>e=.returned (.int .i64 (iE x.2 y.2))∧Below w.heap.size w w':=by
 go_enter Tryz.func293,Tryz.ntmps293
 go_wp2_with fail;refine(r0 _ _ _).mono ?_;rintro e w' ⟨rfl,rfl⟩
 go_wp2;go_ret;exact⟨rfl,((Below.refl _ w).alloc (Nat.le_refl _) _).alloc (by simp) _⟩
theorem uI(b o cap n a m:Nat)(A M C:List Pt)(W:World)(ha:A.length=a)(hm:M.length=m)(hn:a+m+C.length=n)(hsz:n≤1000000)(hP:Pts W b o (A++M++C)):
  Calls Tryz.prog 312 #[.slice (some ⟨b,o,none⟩) n cap,.int .i64 a,.int .i64 (a+m:Nat),.func (.func 293) #[] #[]] W fun e W'=>e=.returned (.tuple #[])∧∃ M',Pts W' b o (A++M'++C)∧Chg b o n W W'∧Srt M'∧Stb M M':=by
 obtain⟨t,ht⟩:∃ t,a+m=t:=⟨_,rfl⟩;have htn:t≤n:=by omega
 rw[ht];have HA:=hid ha;have HM:=hid hm;have HN:=hid hn;have HT:=hid ht;have HP:=hid hP;clear ha hm hn ht hP;by_cases hm0:m=0
 ·have hM0:Hid (M=[]):=List.length_eq_zero_iff.1 (by rw[HM.out,hm0])
  have hta:t=a:=by have:=HT.out;omega
  go_enter Tryz.func312,Tryz.ntmps312
  go_wp2_with fail;refine wp_loop_rounds 1 ?_;rw[rounds_succ];go_wp2
  all_goals first | (exfalso;omega) | skip
  go_end0
  exact⟨rfl,M,HP.out,Chg.refl HP.out n,by rw[hM0.out];exact Srt.nil,Stb.refl _⟩
 have hat:a+1≤t:=by have:=HT.out;omega
 go_enter Tryz.func312,Tryz.ntmps312
 go_wp2_with fail
 go_loopw [8] (fun i wr=>∃(k:Nat) (D:List Pt),a+1≤k∧k≤t∧i=.int .i64 k∧Pts wr b o (A++D++(M.drop (k - a)++C))∧Hid (D.length=k - a)∧Hid (Srt D)∧Hid (Stb (M.take (k - a)) D)∧Chg b o n W wr)
  (fun i _=>t - (intOf i).toNat)
 case atStart =>
  refine⟨a+1,M.take 1,Nat.le_refl _,hat,by go_num,?_,?_,?_,?_,Chg.refl HP.out n⟩
  ·have:=HP.out
   rw[show a+1 - a=1 by omega];rw[show A++M.take 1++(M.drop 1++C)=A++M++C by rw[List.append_assoc,←List.append_assoc (M.take 1),List.take_append_drop,List.append_assoc]];exact this
  ·show _=_
   rw[List.length_take,HM.out];omega
  ·show Srt _
   obtain⟨x,M',hM'⟩:∃ x M',M=x::M':=by
    cases M with
    | nil=>exact absurd HM.out (by simp;omega)
    | cons x M'=>exact⟨x,M',rfl⟩
   rw[hM'];exact tS x
  ·show Stb _ _
   rw[show a+1 - a=1 by omega];exact Stb.refl _
 case round =>
  obtain⟨k,D,hk1,hk2,rfl,hPr,HL,HS,HB,hCr⟩:=hrel;by_cases hlt:k<t
  ·have hltz:(k:Int)<(t:Int):=by omega
   obtain⟨x,R,hx⟩:∃ x R,M.drop (k - a)=x::R:=by
    have hh:k - a<M.length:=by rw[HM.out];have:=HT.out;omega
    exact⟨M[k - a],M.drop (k - a+1),List.drop_eq_getElem_cons hh⟩
   have HR:Hid (M.drop (k+1 - a)=R∧M.take (k+1 - a)=M.take (k - a)++[x]):=by
    have hh:k - a<M.length:=by rw[HM.out];have:=HT.out;omega
    have e:=List.drop_eq_getElem_cons hh;rw[hx]at e;obtain⟨e1,e2⟩:=List.cons.inj e;rw[show k+1 - a=k - a+1 by omega];exact⟨e2.symm,by rw[List.take_succ_eq_append_getElem hh,e1]⟩
   rw[hx]at hPr;have HPr:=hid hPr;have HCr:=hid hCr;clear hx hPr hCr
   go_wp2_with fail
   go_loopw [9] (fun j wr=>∃(i:Nat) (P Q:List Pt),a≤i∧i≤k∧j=.int .i64 i∧Pts wr b o (A++P++x::(Q++(R++C)))∧Hid (a+P.length=i)∧Hid (P++Q=D)∧Hid (∀ q∈Q,x.2<q.2)∧Chg b o n W wr)
    (fun j _=>(intOf j).toNat)
   case atStart =>
    refine⟨k,D,[],by omega,Nat.le_refl _,rfl,by simpa using HPr.out,?_,?_,?_,HCr.out⟩
    ·show _=_
     have:=HL.out;omega
    ·show _=_
     simp
    ·intro q hq;cases hq
   case round =>
    obtain⟨i,P,Q,hi1,hi2,rfl,hPq,HPL,HPQ,HQ,hCq⟩:=hrel
    have FIN:Hid ((∀ p∈P,p.2≤x.2)→Srt (P++x::Q)∧Stb (M.take (k+1 - a)) (P++x::Q)∧(P++x::Q).length=k+1 - a):=fun hp=>by
     have h:=rA (by rw[HPQ.out];exact HS.out) HQ.out hp;refine⟨h.1,?_,?_⟩
     ·rw[HR.out.2]
      refine(HB.out.append (Stb.refl [x])).trans ?_;rw[←HPQ.out];exact h.2
     ·have h2:=h.2.len
      rw[h2,List.length_append,HPQ.out,HL.out];simp;omega
    by_cases hia:a<i
    ·obtain⟨j,rfl⟩:∃ j,i=j+1:=⟨i - 1,by omega⟩
     obtain⟨P',p,hP'⟩:∃ P' p,P=P'++[p]:=by
      refine⟨P.dropLast,P.getLast (fun h=>?_),(List.dropLast_concat_getLast _).symm⟩;have:=HPL.out;rw[h]at this;simp at this;omega
     have hPl:(A++P').length=j:=by
      have:=HPL.out;rw[hP']at this;have h2:=HA.out;simp at this ⊢;omega
     have hPq2:Pts wr b o ((A++P')++p::x::(Q++(R++C))):=by rw[hP']at hPq;simpa using hPq
     have hlen2:((A++P')++p::x::(Q++(R++C))).length=n:=by
      have h1:=HPL.out;have h2:=HPQ.out;have h3:=HL.out;have h4:=HR.out.1;have h5:=HN.out;have h6:=HM.out;have h7:=congrArg List.length h2;have h8:=congrArg List.length h4;rw[hP']at h1 h7;simp at h1 h7 h8 hPl ⊢
      have:=HT.out;omega
     have e0:=hPq2.c0 j (by omega);have e1:=hPq2.c1 j (by omega);have e2:=hPq2.c0 (j+1) (by omega);have e3:=hPq2.c1 (j+1) (by omega);rw[dQ _ _ _ _ hPl]at e0 e1;rw[mJ _ _ _ _ _ hPl]at e2 e3;have jz:(j:Int)+1<(n:Int):=by omega
     have jz1:(j:Int)<(n:Int):=by omega
     have jz0:(a:Int)<(j:Int)+1:=by omega
     have j0:(0:Int)≤(j:Int):=by omega
     have j1:(0:Int)≤(j:Int)+1:=by omega
     have je:((j:Int)+1).toNat=j+1:=by omega
     have hne:Nonempty (aE wr):=⟨⟨wr,Below.refl _ _⟩⟩;have hlb:b<wr.heap.size:=hPq2.lt;have x0:∀ y:aE wr,y.W.cell? ⟨b,o+j * 2,none⟩=some (.int .i32 p.1):=fun y=>(y.h.cell (p:=⟨b,o+j * 2,none⟩) hlb).trans e0
     have x1:∀ y:aE wr,y.W.cell? ⟨b,o+j * 2+1,none⟩=some (.int .u8 p.2):=fun y=>(y.h.cell (p:=⟨b,o+j * 2+1,none⟩) hlb).trans e1
     have x2:∀ y:aE wr,y.W.cell? ⟨b,o+(j+1) * 2,none⟩=some (.int .i32 x.1):=fun y=>(y.h.cell (p:=⟨b,o+(j+1) * 2,none⟩) hlb).trans e2
     have x3:∀ y:aE wr,y.W.cell? ⟨b,o+(j+1) * 2+1,none⟩=some (.int .u8 x.2):=fun y=>(y.h.cell (p:=⟨b,o+(j+1) * 2+1,none⟩) hlb).trans e3
     have hcall:Hid (∀ W:World,Calls Tryz.prog 293 #[.agg #[.int .i32 x.1,.int .u8 x.2],.agg #[.int .i32 p.1,.int .u8 p.2]] W fun e w'=>e=.returned (.int .i64 (iE x.2 p.2))∧Below W.heap.size W w'):=fun W=>eO x p W
     have hci:=jN x.2 p.2
     generalize iE x.2 p.2=ci at hci hcall
     have HP':=hid hP';clear e0 e1 e2 e3 hP';by_cases hxp:x.2<p.2
     ·have hci':ci<0:=hci.2 hxp
      clear hci
      go_wp2_with fail;refine ay (by kernel_rfl) (by kernel_rfl) ?_
      repeat (go_big_quiet_step ((go_at_call 293;exact aE.call _ (hcall.out _))))
      refine wpQuiet_nil ?_;rintro _ ⟨y,rfl⟩
      have hPy:Pts y.W b o ((A++P')++p::x::(Q++(R++C))):=hPq2.below y.h hlb;have hCy:Chg b o n W y.W:=hCq.below y.h;have y0:=x0 y;have y1:=x1 y;have y2:=x2 y;have y3:=x3 y;clear x0 x1 x2 x3 hPq hPq2 hCq hne
      generalize y.W=wy at *
      have f0:wy.frozen? ⟨b,o+j * 2,none⟩=false:=hPy.fr _;have f1:wy.frozen? ⟨b,o+j * 2+1,none⟩=false:=hPy.fr _;have f2:wy.frozen? ⟨b,o+(j+1) * 2,none⟩=false:=hPy.fr _;have f3:wy.frozen? ⟨b,o+(j+1) * 2+1,none⟩=false:=hPy.fr _;have HPy:=hid hPy;have HCy:=hid hCy;clear hPy hCy
      go_wp2_with fail
      go_region
      have hPn:=(HPy.out.set (j+1) p (by omega)).set j x (by rw[List.length_set];omega);rw[tR _ _ _ _ _ hPl]at hPn;have hCn:=((((HCy.out.set (o+(j+1) * 2) (.int .i32 p.1) (by omega) (by omega)).set (o+(j+1) * 2+1) (.int .u8 p.2) (by omega) (by omega)).set (o+j * 2) (.int .i32 x.1) (by omega) (by omega)).set (o+j * 2+1) (.int .u8 x.2) (by omega) (by omega)).drew;have HPn:=hid hPn.drew;have HCn:=hid hCn;clear hPn hCn HPy HCy y0 y1 y2 y3 f0 f1 f2 f3
      generalize World.drew _=wn at HPn HCn ⊢
      go_wp2
      go_roundw
      case rel =>
       refine⟨j,P',p::Q,by omega,by omega,by go_num,?_,?_,?_,?_,HCn.out⟩
       ·simpa using HPn.out
       ·show _=_
        have:=hPl;have h2:=HA.out;simp at this;omega
       ·show _=_
        rw[←HPQ.out,HP'.out];simp
       ·intro q hq
        rcases List.mem_cons.1 hq with rfl | hq
        ·exact hxp
        ·exact HQ.out q hq
      case measure=>simp[intOf] <;> omega
     ·have hci':¬ ci<0:=fun h=>hxp (hci.1 h)
      have hcd:decide (ci<0)=false:=by simpa using hci'
      clear hci
      go_wp2_with fail;refine ay (by kernel_rfl) (by kernel_rfl) ?_
      repeat (go_big_quiet_step ((go_at_call 293;exact aE.call _ (hcall.out _))))
      refine wpQuiet_nil ?_;rintro _ ⟨y,rfl⟩
      have hPy:Hid (Pts y.W b o (A++P++x::(Q++(R++C)))):=hPq.below y.h hlb;have hCy:Hid (Chg b o n W y.W):=hCq.below y.h
      have hall:∀ a∈P,a.2≤x.2:=by
       rw[HP'.out];refine yl ?_ (by omega);have h1:=HS.out;rw[←HPQ.out,HP'.out]at h1;exact(aQ.1 h1).1
      have HF:=hid (FIN.out hall);clear x0 x1 x2 x3 hPq hPq2 hCq hne
      generalize y.W=wy at *
      go_wp2
      go_roundw
      case rel =>
       refine⟨k+1,P++x::Q,by omega,by omega,by go_num,?_,HF.out.2.2,HF.out.1,HF.out.2.1,hCy.out⟩;rw[HR.out.1];have:=hPy.out
       simpa using this
      case measure=>simp[intOf];omega
    ·have hia':decide ((a:Int)<(i:Int))=false:=by simp;omega
     have hia2:¬ (a:Int)<(i:Int):=by omega
     have hP0:P=[]:=List.length_eq_zero_iff.1 (by have:=HPL.out;omega);have HF:=hid (FIN.out (fun p hp=>by rw[hP0]at hp;cases hp));have HPq:=hid hPq;have HCq:=hid hCq;clear hPq hCq hP0 FIN
     go_wp2_with fail
     go_region
     have HPq:=hid HPq.out.drew;have HCq:=hid HCq.out.drew
     generalize World.drew _=wn at HPq HCq ⊢
     go_wp2
     go_roundw
     case rel =>
      refine⟨k+1,P++x::Q,by omega,by omega,by go_num,?_,HF.out.2.2,HF.out.1,HF.out.2.1,HCq.out⟩;rw[HR.out.1];have:=HPq.out
      simpa using this
     case measure=>simp[intOf];omega
  ·have hltz:¬ (k:Int)<(t:Int):=by omega
   have hk:k=t:=by omega
   have HE:Hid (M.drop (k - a)=[]∧M.take (k - a)=M):=by
    have:M.length≤k - a:=by rw[HM.out];have:=HT.out;omega
    exact⟨List.drop_of_length_le this,List.take_of_length_le this⟩
   go_wp2
   go_end0
   refine⟨rfl,D,?_,hCr,HS.out,?_⟩
   ·rw[HE.out.1]at hPr;simpa using hPr
   ·have:=HB.out;rw[HE.out.2]at this;exact this
end Go.Proofs.YtkekkbciiohbkaaGreatDoor.N
