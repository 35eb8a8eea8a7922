/- Texts one behind the other: XD VP VB XS VC EX GQ. -/
import Derived.Test.YtkekkbciiohbkaaGreatDoorZ3
import Derived.Test.YtkekkbciiohbkaaGreatDoorZ2
import Derived.Test.YtkekkbciiohbkaaGreatDoorProg
import Derived.WalkKit
import Derived.Laws.StructEq
import Derived.Lib.IndexBytes
import Derived.WalkSpells
import Derived.WalkLawsBesides
import Derived.Below
import Derived.StillTail
import Derived.Deep.Quiet
set_option maxRecDepth 100000
set_option maxHeartbeats 16000000
set_option linter.unusedVariables false
set_option linter.unnecessarySimpa false
namespace Go.Proofs.YtkekkbciiohbkaaGreatDoor.X
open Go.Proofs.YtkekkbciiohbkaaGreatDoor.F (hx bw vl)
def zr(a:List Nat)(i:Nat):Nat:=((a.drop i).takeWhile (fun v=>decide (v=0))).length
def nv(a:List Nat)(i:Nat):Nat:=a[i]?.getD 1
theorem kU(a:List Nat)(i j:Nat):nv (a.drop i) j=nv a (i+j):=by unfold nv;rw[List.getElem?_drop]
theorem tO:∀(l:List Nat) (j:Nat),j<(l.takeWhile (fun v=>decide (v=0))).length→nv l j=0
 | [],j,h=>by simp at h
 | v::l,j,h=>by
  by_cases hv:v=0
  ·rw[List.takeWhile_cons_of_pos (by simpa using hv),List.length_cons]at h
   cases j with
   | zero=>simpa[nv]using hv
   | succ j=>simpa[nv]using tO l j (by omega)
  ·rw[List.takeWhile_cons_of_neg (by simpa using hv)]at h
   simp at h
theorem tI{a:List Nat}{i j:Nat}(h:j<zr a i):nv a (i+j)=0:=by
 rw[←kU];exact tO _ j h
theorem tJ(a:List Nat)(i:Nat):zr a i≤a.length - i:=by
 unfold zr;have:=(List.takeWhile_prefix (fun v=>decide (v=0)) (l:=a.drop i)).length_le
 rwa [List.length_drop]at this
theorem EV{a:List Nat}{i:Nat}(h0:nv a i=0)(h1:nv a (i+1)=0):2≤zr a i:=by
 have e:∀ l:List Nat,nv l 0=0→nv l 1=0→2≤(l.takeWhile (fun v=>decide (v=0))).length:=fun l a0 a1=>by
  match l,a0,a1 with
  | [],a0,_=>simp[nv]at a0
  | [x],_,a1=>simp[nv]at a1
  | x::y::t,a0,a1 =>
   have hx:x=0:=by simpa[nv]using a0
   have hy:y=0:=by simpa[nv]using a1
   rw[List.takeWhile_cons_of_pos (by simpa using hx),List.takeWhile_cons_of_pos (by simpa using hy)];simp
 exact e (a.drop i) (by rw[kU];exact h0) (by rw[kU];exact h1)
def bs(a:List Nat):Nat→Int×Nat
 | 0=>(-1,1)
 | i+1=>if (bs a i).2<zr a i then ((i:Int),zr a i) else bs a i
theorem p6(a:List Nat):∀ i,((bs a i).1=-1∧(bs a i).2=1∧∀ j,j<i→zr a j≤1)∨(∃ p,p<i∧(bs a i).1=(p:Int)∧(bs a i).2=zr a p∧2≤zr a p)
 | 0=>.inl ⟨rfl,rfl,fun j h=>by omega⟩
 | i+1=>by
  have ih:=p6 a i;rw[bs];by_cases h:(bs a i).2<zr a i
  ·rw[if_pos h]
   right
   refine⟨i,by omega,rfl,rfl,?_⟩;rcases ih with⟨_,h2,_⟩ | ⟨p,_,_,h2,h3⟩ <;> omega
  ·rw[if_neg h]
   rcases ih with⟨h1,h2,h3⟩ | ⟨p,h0,h1,h2,h3⟩
   ·left
    refine⟨h1,h2,fun j hj=>?_⟩;by_cases e:j=i
    ·rw[e];omega
    ·exact h3 j (by omega)
   ·right
    exact⟨p,by omega,h1,h2,h3⟩
def txt(a:List Nat):List Int:=if (bs a 8).1<0 then aD 58 (a.map (aS false false)) else gp (a.map (aS false false)) (bs a 8).1.toNat ((bs a 8).1.toNat+(bs a 8).2) 8
theorem oO{a:List Nat}(hl:a.length=8):((bs a 8).1=-1∧txt a=aD 58 (a.map (aS false false))∧∀ i,i+1<8→¬ (nv a i=0∧nv a (i+1)=0)) ∨
  (∃ p m:Nat,(bs a 8).1=(p:Int)∧(bs a 8).2=m∧2≤m∧p+m≤8∧(∀ j,p≤j→j<p+m→nv a j=0)∧txt a=aD 58 ((a.take p).map (aS false false))++58::58::aD 58 ((a.drop (p+m)).map (aS false false))):=by
 rcases p6 a 8 with⟨h1,h2,h3⟩ | ⟨p,h0,h1,h2,h3⟩
 ·left
  refine⟨h1,?_,fun i hi hz=>?_⟩
  ·unfold txt;rw[h1,if_pos (by decide)]
  ·have:=EV hz.1 hz.2
   have:=h3 i (by omega);omega
 ·right
  have hle:=tJ a p;refine⟨p,zr a p,h1,h2,h3,by omega,fun j hj hj2=>?_,?_⟩
  ·have:=tI (a:=a) (i:=p) (j:=j - p) (by omega)
   rwa [show p+(j - p)=j by omega]at this
  ·unfold txt
   rw[h1,h2,if_neg (by omega),Int.toNat_natCast,Gv (by omega) (by simp[hl]),List.map_take,List.map_drop]
theorem cH:∀(a:List Nat),(aD 58 (a.map (aS false false))).length+1≤5 * a.length+1∧(0<a.length→2 * a.length≤(aD 58 (a.map (aS false false))).length+1∧(aD 58 (a.map (aS false false))).length+1≤5 * a.length)
 | []=>by simp[aD]
 | [v]=>by
  have:=ft false false v;show(aS false false v).length+1≤_∧(_→_≤(aS false false v).length+1∧(aS false false v).length+1≤_)
  simp only[List.length_cons,List.length_nil];omega
 | v::w::r=>by
  have h:=ft false false v;have ih:=(cH (w::r)).2 (by simp)
  have e:(aD 58 ((v::w::r).map (aS false false))).length=(aS false false v).length+((aD 58 ((w::r).map (aS false false))).length+1):=by
   show(aS false false v++58::aD 58 ((w::r).map (aS false false))).length=_
   simp
  rw[e];simp only[List.length_cons]at ih ⊢;omega
theorem oP{a:List Nat}(hl:a.length=8):2≤(txt a).length∧(txt a).length≤39:=by
 rcases oO hl with⟨_,h,_⟩ | ⟨p,m,_,_,h2,h8,hz,h⟩
 ·rw[h]
  have:=(cH a).2 (by omega);omega
 ·rw[h]
  have f:=(cH (a.take p)).1;have b:=(cH (a.drop (p+m))).1;rw[List.length_take]at f;rw[List.length_drop]at b;simp only[List.length_append,List.length_cons];omega
end Go.Proofs.YtkekkbciiohbkaaGreatDoor.X
namespace Go.Proofs.YtkekkbciiohbkaaGreatDoor.H
open Go.RowKit
def fb(c:Int):Bool:=[0,9,10,13,32,35,47,58,60,62,63,64,91,92,93,94,124].contains c
def fd(c:Int):Bool:=fb c||(decide (c<32)||(decide (c=37)||decide (c=127)))
def z8:List Nat:=[0,0,0,0,0,0,0,0]
abbrev Hst:=Nat×List Int×Nat×List Nat×Int
def non(e:Int):Hst:=(0,[],0,z8,e)
def six(s:List Int):Hst:=if 2≤s.length∧s.getLast? = some 93 then (match X.prs ((s.drop 1).dropLast) with | some a=>(3,[],0,a,0) | none=>non 70) else non 70
def opq(s:List Int):Hst:=if s.any fb=true then non 70 else if s=[] then non 0 else (4,E.en 0 (U.dec s),0,z8,0)
def dom(d:List Int)(r:Int):Hst:=if r≠0∨d=[]∨d.any fd=true then non 70 else if F.ends d=true then (if (F.prs d).2=0 then (2,[],(F.prs d).1,z8,0) else non 70) else (1,d,0,z8,0)
def HP(A:List Int→List Int→Int→Prop)(s:List Int)(sp:Bool)(h:Hst):Prop :=
 if 4096<s.length then h=non 4 else if s.head? = some 91 then h=six s else if sp=false then h=opq s else ∃ d r,A (E.de s) d r∧h=dom d r
def txt(h:Hst):List Int:=if h.1=1∨h.1=4 then h.2.1 else if h.1=2 then F.txt h.2.2.1 else if h.1=3 then 91::(X.txt h.2.2.2.1++[93]) else []
structure Asc(A:List Int→List Int→Int→Prop):Prop where
 one:∀ {s t u:List Int} {r q:Int},A s t r→A s u q→t=u∧r=q
 rest:∀ {s t:List Int},A s t 0→A t t 0
 low:∀ {s t:List Int},A s t 0→∀ c∈t,0≤c∧c<128
 num:∀ {t:List Int},(∀ c∈t,97≤c∧c≤122∨48≤c∧c≤57∨c=46)→A t t 0
 cap:A [69,88,65,77,80,76,69,46,99,111,109] [101,120,97,109,112,108,101,46,99,111,109] 0
 len:∀ {s t:List Int},A s t 0→U.Bytes s→s.length≤4096→t.length≤200000000
 bln:∀ {d:List Int} {r:Int},A [97,32,98] d r→r≠0∨d=[]∨d.any fd=true
theorem HP.one{A:List Int→List Int→Int→Prop}(hA:Asc A){s:List Int}{sp:Bool}{h k:Hst}(x:HP A s sp h)(y:HP A s sp k):h=k:=by
 unfold HP at x y
 split at x
 ·rename_i c;rw[if_pos c]at y;rw[x,y]
 ·rename_i c;rw[if_neg c]at y
  split at x
  ·rename_i c;rw[if_pos c]at y;rw[x,y]
  ·rename_i c;rw[if_neg c]at y
   split at x
   ·rename_i c;rw[if_pos c]at y;rw[x,y]
   ·rename_i c;rw[if_neg c]at y
    obtain⟨d,r,h1,rfl⟩:=x;obtain⟨d',r',h2,rfl⟩:=y;obtain⟨rfl,rfl⟩:=hA.one h1 h2;rfl
theorem qk{a:Nat}(ha:a<4294967296):(F.txt a).length≤300:=by
 have h:F.txt a=F.wr 10 (a / 16777216)++46::(F.wr 10 (a / 65536 % 256)++46::(F.wr 10 (a / 256 % 256)++46::F.wr 10 (a % 256))):=rfl;have h1:=F.lv 10 (a / 16777216);have h2:=F.lv 10 (a / 65536 % 256);have h3:=F.lv 10 (a / 256 % 256);have h4:=F.lv 10 (a % 256);rw[h];simp only[List.length_append,List.length_cons];omega
theorem yC(l:List Int)(h:(F.prs l).2=0):(F.prs l).1<4294967296:=by
 unfold F.prs F.adr at h ⊢
 split at h
 ·cases h
 ·rename_i h4
  rw[if_neg h4];split at h
  ·cases h
  ·rename_i h8
   rw[if_neg h8];split at h
   ·cases h
   ·rename_i hg
    rw[if_neg hg];rw[F.mr,Bool.not_eq_true,Bool.or_eq_false_iff]at hg;show F.sm 0 _<_
    rw[F.sJ]
    have hp:0<(F.prt l).length:=by
     unfold F.prt;have h1:=List.length_pos_iff.2 (F.bL l);split
     ·rw[List.length_dropLast];omega
     ·exact h1
    refine F.nQ (by rw[List.length_map,List.length_map];exact hp) (by rw[List.length_map,List.length_map];omega) ?_;rw[List.length_map,List.length_map];exact hg.2
abbrev hv(k:Int)(n:ByteArray)(f:Int)(a0 a1 a2 a3 a4 a5 a6 a7:Int):Value:=.agg #[.int .u8 k,.string n,.int .u32 f,.int .u16 a0,.int .u16 a1,.int .u16 a2,.int .u16 a3,.int .u16 a4,.int .u16 a5,.int .u16 a6,.int .u16 a7]
theorem qJ(xs:Array Value)(i:Nat)(x:Int)(h:xs[i]? = some (.int .u16 x))(w:World):(part 23 xs i).run Tryz.prog w=.ok (.int .u16 x) w:=by
 unfold part;simp[h,go_sem]
theorem rP(d:Nat)(xs ys:Array Value)(f g:Nat→Int)(w:World):∀(L:List Nat),(∀ i∈L,xs[i]? = some (.int .u16 (f i)))→(∀ i∈L,ys[i]? = some (.int .u16 (g i))) →
  Sem.run Tryz.prog (forIn L ((none:Option Bool),()) fun i __s=>do
          let a ←part 23 xs (i * 1)
          let b ←part 23 ys (i * 1)
          let r ←Op.equalIn (d+1) 23 a b
          if (!r)=true then pure (ForInStep.done (some false,())) else pure (ForInStep.yield (none,()))) w=.ok ((if L.all (fun i=>f i==g i)=true then none else some false),()) w
 | [],_,_=>by simp
 | i::L,hx,hy=>by
  have ih:=rP d xs ys f g w L (fun j hj=>hx j (by simp[hj])) (fun j hj=>hy j (by simp[hj]));have e:i * 1=i:=Nat.mul_one i;simp only[List.forIn_cons,Sem.run_bind,e,qJ xs i _ (hx i (by simp)),qJ ys i _ (hy i (by simp)),Result.andThen_ok,run_equalIn_int w d 23 .u16 .u16 _ _ Tryz.underlying23];cases h:(f i==g i) with
  | true=>simp only[Bool.not_true,Bool.false_eq_true,if_false,Sem.run_pure,Result.andThen_ok,List.all_cons,h,Bool.true_and];simpa using ih
  | false=>simp[h]
theorem Ie(d:Nat)(xs ys:Array Value)(f g:Nat→Int)(hx:∀ i,i<8→xs[i]? = some (.int .u16 (f i)))(hy:∀ i,i<8→ys[i]? = some (.int .u16 (g i)))(w:World):(Op.equalIn (d+2) 24 (.agg xs) (.agg ys)).run Tryz.prog w=.ok ((List.range 8).all (fun i=>f i==g i)) w:=by
 have hs:∀ w,(sizeOf 23).run Tryz.prog w=.ok 1 w:=fun w=>by kernel_rfl
 rw[Op.equalIn];simp only[Sem.run_bind,run_underlying Tryz.underlying24,Result.andThen_ok,hs];rw[Std.Legacy.Range.forIn_eq_forIn_range'];have e:List.range' ([:8]:Std.Legacy.Range).start ([:8]:Std.Legacy.Range).size ([:8]:Std.Legacy.Range).step=List.range 8:=by decide
 rw[e];have h:=rP d xs ys f g w (List.range 8) (fun i hi=>hx i (List.mem_range.1 hi)) (fun i hi=>hy i (List.mem_range.1 hi));rw[h];simp only[Result.andThen_ok];cases (List.range 8).all (fun i=>f i==g i) <;> simp
theorem cU(t:TypeId)(ht:∀ w,(isAgg t).run Tryz.prog w=.ok false w)(xs:Array Value)(i:Nat)(x:Value)(h:xs[i]? = some x)(w:World):(part t xs i).run Tryz.prog w=.ok x w:=by
 unfold part;simp[h,ht w,Sem.run_bind]
theorem qL(xs:Array Value)(w:World):(part 24 xs 3).run Tryz.prog w=.ok (.agg (xs.extract 3 11)) w:=by
 have h1:(isAgg 24).run Tryz.prog w=.ok true w:=by kernel_rfl
 unfold part;simp[h1,Sem.run_bind]
theorem fields_host : ((Tryz.prog.fieldsOf 26).toList.map fun f => (f.type, f.offset, decide (f.name = "_"))) = [(5, 0, false), (9, 1, false), (22, 2, false), (24, 3, false)] := by kernel_rfl
def eqh(k:Int)(n:ByteArray)(f:Int)(a:List Int)(k':Int)(n':ByteArray)(f':Int)(b:List Int):Bool:=(k==k')&&((n.toList==n'.toList)&&((f==f')&&(List.range 8).all (fun i=>a[i]?.getD 0==b[i]?.getD 0)))
theorem uS(k:Int)(n:ByteArray)(f a0 a1 a2 a3 a4 a5 a6 a7 k':Int)(n':ByteArray)(f' b0 b1 b2 b3 b4 b5 b6 b7:Int)(w:World):
  (Op.equalIn 10000 26 (hv k n f a0 a1 a2 a3 a4 a5 a6 a7) (hv k' n' f' b0 b1 b2 b3 b4 b5 b6 b7)).run Tryz.prog w=.ok (eqh k n f [a0,a1,a2,a3,a4,a5,a6,a7] k' n' f' [b0,b1,b2,b3,b4,b5,b6,b7]) w:=by
 rw[run_equalIn_struct w 9999 26 _ _ (by kernel_rfl) (by kernel_rfl)];have hf:=fields_host
 generalize (Tryz.prog.fieldsOf 26).toList=fs at hf ⊢
 match fs,hf with
 | [],hf=>cases hf
 | [_],hf=>simp at hf
 | [_,_],hf=>simp at hf
 | [_,_,_],hf=>simp at hf
 | _::_::_::_::_::_,hf=>simp at hf
 | [f0,f1,f2,f3],hf =>
  simp only[List.map_cons,List.map_nil,List.cons.injEq,Prod.mk.injEq,decide_eq_false_iff_not,and_true]at hf;obtain⟨⟨t0,o0,n0⟩,⟨t1,o1,n1⟩,⟨t2,o2,n2⟩,⟨t3,o3,n3⟩⟩:=hf;have g8:∀ w,(isAgg 5).run Tryz.prog w=.ok false w:=fun w=>by kernel_rfl
  have gs:∀ w,(isAgg 9).run Tryz.prog w=.ok false w:=fun w=>by kernel_rfl
  have g32:∀ w,(isAgg 22).run Tryz.prog w=.ok false w:=fun w=>by kernel_rfl
  simp only[Op.eqFields,ne_eq,n0,n1,n2,n3,not_false_eq_true,if_true,t0,t1,t2,t3,o0,o1,o2,o3,Sem.run_bind];rw[cU _ g8 _ 0 (.int .u8 k) rfl,Result.andThen_ok,cU _ g8 _ 0 (.int .u8 k') rfl,Result.andThen_ok,run_equalIn_int w 9998 5 .u8 .u8 _ _ Tryz.underlying5,Result.andThen_ok];unfold eqh;cases hk:(k==k') with
  | false=>simp
  | true =>
   simp only[Bool.not_true,Bool.false_eq_true,if_false,Bool.true_and,Sem.run_bind];rw[cU _ gs _ 1 (.string n) rfl,Result.andThen_ok,cU _ gs _ 1 (.string n') rfl,Result.andThen_ok,run_equalIn_string w 9998 9 _ _ Tryz.underlying9,Result.andThen_ok];cases hn:(n.toList==n'.toList) with
   | false=>simp
   | true =>
    simp only[Bool.not_true,Bool.false_eq_true,if_false,Bool.true_and,Sem.run_bind];rw[cU _ g32 _ 2 (.int .u32 f) rfl,Result.andThen_ok,cU _ g32 _ 2 (.int .u32 f') rfl,Result.andThen_ok,run_equalIn_int w 9998 22 .u32 .u32 _ _ Tryz.underlying22,Result.andThen_ok];cases h4:(f==f') with
    | false=>simp
    | true =>
     simp only[Bool.not_true,Bool.false_eq_true,if_false,Bool.true_and,Sem.run_bind];rw[qL,Result.andThen_ok,qL,Result.andThen_ok]
     rw[Ie 9997 _ _ (fun i=>([a0,a1,a2,a3,a4,a5,a6,a7])[i]?.getD 0) (fun i=>([b0,b1,b2,b3,b4,b5,b6,b7])[i]?.getD 0) (fun i hi=>by
       obtain rfl | rfl | rfl | rfl | rfl | rfl | rfl | rfl:i=0∨i=1∨i=2∨i=3∨i=4∨i=5∨i=6∨i=7:=by omega
       all_goals rfl) (fun i hi=>by
       obtain rfl | rfl | rfl | rfl | rfl | rfl | rfl | rfl:i=0∨i=1∨i=2∨i=3∨i=4∨i=5∨i=6∨i=7:=by omega
       all_goals rfl),Result.andThen_ok]
     cases ((List.range 8).all fun i=>([a0,a1,a2,a3,a4,a5,a6,a7])[i]?.getD 0==([b0,b1,b2,b3,b4,b5,b6,b7])[i]?.getD 0) <;> simp
theorem dF(k:Int)(n:ByteArray)(f a0 a1 a2 a3 a4 a5 a6 a7 k':Int)(n':ByteArray)(f' b0 b1 b2 b3 b4 b5 b6 b7:Int)(w:World):
  (binOp .eql 26 (hv k n f a0 a1 a2 a3 a4 a5 a6 a7) (hv k' n' f' b0 b1 b2 b3 b4 b5 b6 b7)).run Tryz.prog w=.ok (.bool (eqh k n f [a0,a1,a2,a3,a4,a5,a6,a7] k' n' f' [b0,b1,b2,b3,b4,b5,b6,b7])) w:=by
 rw[run_eql_struct,uS];rfl
end Go.Proofs.YtkekkbciiohbkaaGreatDoor.H
namespace Go.Proofs.YtkekkbciiohbkaaGreatDoor.X
open Go.RowKit
open Go.Proofs.YtkekkbciiohbkaaGreatDoor.F (hx bw vl)
theorem jC:∀(l:List Int) (n:Nat),(∀ c∈l,hx c≤15)→l.foldl (fun n c=>n * 16+(hx c).toNat) n<(n+1) * 16 ^ l.length
 | [],n,_=>by simp
 | c::l,n,h=>by
  have hc:=h c (by simp);have ih:=jC l (n * 16+(hx c).toNat) (fun x hx=>h x (by simp[hx]));have h1:(n * 16+(hx c).toNat+1) * 16 ^ l.length≤((n+1) * 16) * 16 ^ l.length:=Nat.mul_le_mul_right _ (by omega);rw[List.foldl_cons,List.length_cons,Nat.pow_succ];rw[Nat.mul_assoc,Nat.mul_comm 16]at h1;exact Nat.lt_of_lt_of_le ih h1
theorem qI{p:List Int}{v:Nat}(h:pc p=some v):v<65536:=by
 unfold pc at h
 split at h
 ·rename_i hp
  cases h
  have:=jC p 0 (fun c _=>(bw c).2)
  have h2:(0+1) * 16 ^ p.length≤65536:=by
   rw[Nat.zero_add,Nat.one_mul];exact Nat.le_trans (Nat.pow_le_pow_right (by decide) hp.2.1) (by decide)
  exact Nat.lt_of_lt_of_le this h2
 ·cases h
theorem An{p:List Int}{v:Nat}(h:dn p=some v):v≤255:=by
 unfold dn at h
 split at h
 ·rename_i hp;cases h;exact hp.2.2.2.2
 ·cases h
theorem Am{p:List Int}{l:List Nat}(h:dt p=some l):Small l:=by
 unfold dt kF at h
 split at h
 ·rename_i a b c d e
  cases h
  have g:∀ x,some x∈(spB 46 p).map dn→x≤255:=fun x hx=>by
   obtain⟨q,_,hq⟩:=List.mem_map.1 hx;exact An hq
  rw[e]at g;have ga:=g a (by simp);have gb:=g b (by simp);have gc:=g c (by simp);have gd:=g d (by simp);intro v hv
  simp at hv
  rcases hv with rfl | rfl <;> omega
 ·cases h
theorem oe{p:List Int}{l:List Nat}(h:(pc p).map (fun v=>[v])=some l):Small l:=by
 cases hp:pc p with
 | none=>rw[hp]at h;cases h
 | some v =>
  rw[hp]at h;cases h
  intro x hx
  rw[List.mem_singleton.1 hx];exact qI hp
theorem we{last:Bool}{p:List Int}{l:List Nat}(h:lst last p=some l):Small l:=by
 unfold lst at h
 split at h
 ·split at h
  ·rename_i e;cases h;exact Am e
  ·exact oe h
 ·exact oe h
theorem n8{last:Bool}:∀ {ps:List (List Int)} {l:List Nat},pcs last ps=some l→Small l
 | [],l,h=>by cases h;intro v hv;cases hv
 | [p],l,h=>we h
 | p::q::r,l,h=>by
  rw[pcs]at h;cases hp:pc p with
  | none=>rw[hp]at h;cases h
  | some v =>
   cases hr:pcs last (q::r) with
   | none=>rw[hp,hr]at h;cases h
   | some m =>
    rw[hp,hr]at h;cases h
    intro x hx
    rcases List.mem_cons.1 hx with rfl | hx
    ·exact qI hp
    ·exact n8 hr x hx
theorem fL{last:Bool}{s:List Int}{l:List Nat}(h:pieces last s=some l):Small l:=by
 unfold pieces at h
 split at h
 ·cases h;intro v hv;cases hv
 ·exact n8 h
theorem nW{s:List Int}{v:List Nat}(h:prs s=some v):Small v:=by
 unfold prs at h
 split at h
 ·cases hp:pieces true s with
  | none=>rw[hp]at h;cases h
  | some l =>
   rw[hp]at h;unfold full at h
   simp only at h
   split at h
   ·cases h;exact fL hp
   ·cases h
 ·split at h
  ·cases hf:pieces false (s.take (cp s)) with
   | none=>rw[hf]at h;cases h
   | some f =>
    cases hb:pieces true (s.drop (cp s+2)) with
    | none=>rw[hf,hb]at h;cases h
    | some b =>
     rw[hf,hb]at h;unfold both at h
     simp only at h
     split at h
     ·cases h
      intro x hx
      rw[List.mem_append,List.mem_append]at hx;rcases hx with(hx | hx) | hx
      ·exact fL hf x hx
      ·rw[List.eq_of_mem_replicate hx];decide
      ·exact fL hb x hx
     ·cases h
  ·cases h
end Go.Proofs.YtkekkbciiohbkaaGreatDoor.X
namespace Go.Proofs.YtkekkbciiohbkaaGreatDoor.H
open Go.RowKit
open Go.Proofs.YtkekkbciiohbkaaGreatDoor.F (bn aa av aq ar hid aj ab ah aR aK)
abbrev hvl(k:Nat)(n:ByteArray)(f:Nat)(a:List Nat):Value:=hv k n f ((a[0]?.getD 0:Nat):Int) ((a[1]?.getD 0:Nat):Int) ((a[2]?.getD 0:Nat):Int) ((a[3]?.getD 0:Nat):Int) ((a[4]?.getD 0:Nat):Int) ((a[5]?.getD 0:Nat):Int) ((a[6]?.getD 0:Nat):Int) ((a[7]?.getD 0:Nat):Int)
def ib(A:List Int→List Int→Int→Prop)(l:List Int)(sp:Bool)(w:World)(e:Ending)(W':World):Prop :=
 (∃(h:Hst) (n:ByteArray),HP A l sp h∧bn n=h.2.1∧e=.returned (.tuple #[hvl h.1 n h.2.2.1 h.2.2.2.1,.int .i64 h.2.2.2.2]))∧Below w.heap.size w W'
def ia(h:Hst)(w:World)(e:Ending)(W':World):Prop:=(∃ t,e=.returned (.string t)∧bn t=txt h)∧Below w.heap.size w W'
def May(A:List Int→List Int→Int→Prop)(h:Hst)(b:Bool):Prop :=
 if h=non 0 then b=true else if 4096<(txt h).length then b=false else ∃ x,HP A (txt h) (decide (h.1≠4)) x∧b=decide (x.2.2.2.2=0∧(x.1,x.2.1,x.2.2.1,x.2.2.2.1)=(h.1,h.2.1,h.2.2.1,h.2.2.2.1)∧x.1≠0)
structure Ctr(A:List Int→List Int→Int→Prop)(G:World→Prop):Prop where
 asc:Asc A
 keep:∀(w w':World),G w→Below w.heap.size w w'→G w'
 cp:∀(s:ByteArray) (sp:Bool) (w:World),s.size≤100000→G w→Calls Tryz.prog 9 #[.string s,.bool sp] w fun e W'=>ib A (bn s) sp w e W'
 ct:∀(k:Nat) (n:ByteArray) (f:Nat) (a:List Nat) (w:World),n.size≤400000000→k<256→f<4294967296→a.length=8→X.Small a→G w→Calls Tryz.prog 11 #[hvl k n f a] w fun e W'=>ia (k,bn n,f,a,0) w e W'
 cm:∀(k:Nat) (n:ByteArray) (f:Nat) (a:List Nat) (w:World),n.size≤100000→k<256→f<4294967296→a.length=8→X.Small a→G w→Calls Tryz.prog 13 #[hvl k n f a] w fun e W'=>(∃ b,May A (k,bn n,f,a,0) b∧e=.returned (.bool b))∧Below w.heap.size w W'
def w1:ByteArray:=⟨#[69,88,65,77,80,76,69,46,99,111,109]⟩
def w2:ByteArray:=⟨#[48,120,55,102,46,49]⟩
def w3:ByteArray:=⟨#[97,32,98]⟩
def w4:ByteArray:=⟨#[91,58,58,49,93]⟩
def x1:ByteArray:=⟨#[101,120,97,109,112,108,101,46,99,111,109]⟩
def x2:ByteArray:=⟨#[49,50,55,46,48,46,48,46,49]⟩
theorem hp1{A:List Int→List Int→Int→Prop}(hA:Asc A):HP A (bn w1) true (1,bn x1,0,z8,0):=by
 unfold HP;rw[if_neg (by decide),if_neg (by decide),if_neg (by decide)];exact⟨bn x1,0,by rw[show E.de (bn w1)=[69,88,65,77,80,76,69,46,99,111,109] by decide];exact hA.cap,by decide +kernel⟩
theorem hp2{A:List Int→List Int→Int→Prop}(hA:Asc A):HP A (bn w2) true (2,[],2130706433,z8,0):=by
 unfold HP;rw[if_neg (by decide),if_neg (by decide),if_neg (by decide)];exact⟨bn w2,0,by rw[show E.de (bn w2)=bn w2 by decide];exact hA.num (by decide),by decide +kernel⟩
theorem bq:X.Small z8:=by unfold X.Small z8;decide
theorem ag{W W':World}{g:Nat}{o:Obj}(h:W.heap[g]? = some o)(hB:Below W.heap.size W W'):W'.heap[g]? = some o:=by
 have hl:g<W.heap.size:=(Array.getElem?_eq_some_iff.1 h).1;rw[hB.block g hl,h]
theorem aA{W:World}{g:Nat}{o:Obj}(h:W.heap[g]? = some o)(o':Obj):(W.alloc o').heap[g]? = some o:=ag h ((Below.refl _ W).alloc (Nat.le_refl _) o')
end Go.Proofs.YtkekkbciiohbkaaGreatDoor.H
namespace Go.Proofs.YtkekkbciiohbkaaGreatDoor.E
open Go.RowKit
theorem aq(s:ByteArray)(i:Nat)(h:i<s.size):(U.bn s)[i]?.getD 0=((s[i].toNat:Nat):Int):=by
 unfold U.bn;rw[List.getElem?_map];have hl:i<s.data.toList.length:=by simpa using h
 rw[List.getElem?_eq_getElem hl];rfl
theorem ar{s:ByteArray}{i:Nat}(h:i<s.size):0≤(U.bn s)[i]?.getD 0∧(U.bn s)[i]?.getD 0≤255:=by
 rw[aq s i h];have:=s[i].toNat_lt;omega
def kN(k:Nat)(L:List Int)(w:World)(e:Ending)(W':World):Prop:=(∃ t,e=.returned (.string t)∧U.bn t=en k L)∧Below w.heap.size w W'
def nr(l:List Int)(w:World)(e:Ending)(W':World):Prop:=(∃ t,e=.returned (.string t)∧U.bn t=de l)∧Below w.heap.size w W'
section
variable {P : Program} {ops : Array Oper} {md : Region.Mode} {Q : Exit → Act → World → Prop}
def bp(P:Program)(ops:Array Oper)(o:Oper)(v:Value)(a:Act):Prop :=
 (Region.wanted o (yielded ops a.tmps)=true∧∀ w,o.quietAt P a (fun x=>x=w) w v)∨(Region.wanted o (yielded ops a.tmps)=false∧v=undef)
theorem bp.of_same{o:Oper}{v:Value}{a a':Act}(hy:bp P ops o v a)(he:execOp a'.eval o=execOp a.eval o)
  (hw:Region.wanted o (yielded ops a'.tmps)=Region.wanted o (yielded ops a.tmps)):bp P ops o v a':=by
 unfold bp Oper.quietAt at *
 rw[he,hw];exact hy
theorem bp.wpOp{i:Nat}{o:Oper}{v:Value}{a:Act}{w:World}{K:Act→World→Prop}(hi:ops[i]? = some o)(hy:bp P ops o v a)(h:K (a.put o.dst v) w):wpOp P ops Q i K a w:=by
 unfold Go.wpOp;simp only[hi];rcases hy with⟨hw,hv⟩ | ⟨hw,rfl⟩
 ·simp only[hw,if_true]
  left
  have h3:=hv w;unfold Oper.quietAt at h3
  unfold Oper.wp
  generalize (execOp a.eval o).run P w=r at *
  cases r with
  | ok n w' =>
   cases n <;> simp only[Oper.quietUpon]at h3 <;> simp only[Oper.upon]
   case value u =>
    obtain⟨e1,e2⟩:=h3;rw[e1,e2];exact h
   case skip =>
    obtain⟨e1,e2⟩:=h3;rw[e1,←e2];exact h
   case enter f args =>
    obtain⟨e1,hc⟩:=h3;rw[e1];exact hc.mono fun e w'' ⟨he,hw''⟩=>by subst he;subst hw'';exact h
  | halt x w'=>simp only[Oper.quietUpon]at h3
 ·simp only[hw,Bool.false_eq_true,if_false]
  exact h
theorem put_defers(a:Act)(x:Option Tmp)(v:Value)(d:Deferred):({ (a.put x v) with defers:=d::(a.put x v).defers }:Act)=({ a with defers:=d::a.defers }:Act).put x v:=by
 cases x <;> rfl
theorem rO(a:Act)(D:List Deferred):({ a with defers:=D }:Act).eval=a.eval:=by
 funext x
 cases x <;> rfl
theorem wpOp_put{j:Nat}{oi oj:Oper}{v:Value}(hj:ops[j]? = some oj)(hap:oi.apart ops oj=true)
  (hsi:∀ cs b,oi.op≠.select cs b) (hsj:∀ cs b,oj.op≠.select cs b) (hQ:∀ e a a' w,e≠Exit.normal→Q e a w→Q e a' w) {K:Act→World→Prop} {a:Act} {w:World}
  (hy:bp P ops oi v a) (h:wpOp P ops Q j K (a.put oi.dst v) w) :
  wpOp P ops Q j (fun a' w'=>bp P ops oi v a'∧K (a'.put oi.dst v) w') a w:=by
 obtain⟨h1,h2,h3⟩:=Oper.apart_spec hap
 have keep:∀(a:Act),bp P ops oi v a→∀ u,bp P ops oi v (a.put oj.dst u):=fun a hy u =>
  hy.of_same (execOp_put oi hsi a oj.dst u h3) (wanted_put oi a oj.dst u h3)
 unfold wpOp at *
 simp only[hj]at *;rw[wanted_put oj a oi.dst v h1]at h;split
 ·rename_i hw
  simp only[hw,if_true]at h;rcases h with h | ⟨h,hl⟩
  ·left
   unfold Oper.wp at *
   rw[execOp_put oj hsj a oi.dst v h1]at h
   generalize (execOp a.eval oj).run P w=r at *
   cases r with
   | ok n w' =>
    cases n <;> simp only[Oper.upon]at h ⊢
    case value u=>exact⟨keep a hy u,by rw[←Act.put_comm a v u h2];exact h⟩
    case skip=>exact⟨keep a hy _,by rw[←Act.put_comm a v _ h2];exact h⟩
    case defer d =>
     rw[put_defers,Act.put_comm _ v _ h2]at h;have hy':bp P ops oi v ({ a with defers:=d::a.defers }:Act):=hy.of_same (by rw[rO]) rfl;exact⟨keep _ hy' _,h⟩
    case enter f args =>
     refine h.mono fun e w'' hh=>?_
     cases e with
     | returned u=>exact⟨keep a hy u,by rw[←Act.put_comm a v u h2];exact hh⟩
     | panicked c=>exact hQ _ _ _ _ (by simp) hh
     | outgrown=>exact hh
    case row row args =>
     refine h.mono (fun u w'' hh=>?_);exact⟨keep a hy u,by rw[←Act.put_comm a v u h2];exact hh⟩
   | halt x w' =>
    cases x <;> simp only[Oper.upon]at h ⊢
    exact hQ _ _ _ _ (by simp) h
  ·right
   refine⟨?_,hl⟩;unfold Oper.asks at *
   rw[execOp_put oj hsj a oi.dst v h1]at h;exact h
 ·rename_i hw
  simp only[hw]at h;exact⟨keep a hy _,by rw[←Act.put_comm a v undef h2];exact h⟩
def vm(md:Region.Mode)(ops:Array Oper)(i:Nat)(oi:Oper)(listed:Array Bool):Prop :=
 ∀ j oj,ops[j]? = some oj→j≠i→listed.getD j true=false→(∀ e∈oj.after,Region.binds md e=true→e.on≠i)→oi.apart ops oj=true
theorem vm.more{i j:Nat}{oi:Oper}{listed:Array Bool}(h:vm md ops i oi listed)(hj:listed.getD j true=false):vm md ops i oi (listed.setIfInBounds j true):=by
 intro k ok hk hki hun
 by_cases e:j=k
 ·exact h k ok hk hki (e ▸ hj)
 ·exact h k ok hk hki ((getD_set_ne true e).symm.trans hun)
theorem CG{i j:Nat}{listed:Array Bool}(hi:i∈Region.ready md ops listed)(hj:j∈Region.ready md ops listed):listed.getD j true=false∧∃ oj,ops[j]? = some oj∧∀ e∈oj.after,Region.binds md e=true→e.on≠i:=by
 obtain⟨h1,oj,h2,h3⟩:=mem_ready.1 hj;have h4:=getD_both (mem_ready.1 hi).1;exact⟨h1,oj,h2,fun e he hb h5=>by rw[←h5,h3 e he hb]at h4;cases h4⟩
theorem wpAny_first{i:Nat}{oi:Oper}{v:Value}(hi:ops[i]? = some oi)(hsel:∀(j:Nat) (o:Oper) cs b,ops[j]? = some o→o.op≠.select cs b)(hQ:∀ e a a' w,e≠Exit.normal→Q e a w→Q e a' w):
  ∀(n:Nat) (listed:Array Bool) (a:Act) (w:World),vm md ops i oi listed→i∈Region.ready md ops listed→bp P ops oi v a →
   wpAny P md ops Q n (listed.setIfInBounds i true) (a.put oi.dst v) w→wpAny P md ops Q (n+1) listed a w
 | 0,listed,a,w,hf,hr,hy,H=>⟨fun h=>absurd (h ▸ hr) (by simp),fun j hj=>by
     by_cases e:j=i
     · rw[e];exact hy.wpOp hi H
     · exact absurd (H.1 ▸ ready_mono hj e) (by simp)⟩
 | n+1,listed,a,w,hf,hr,hy,H=>⟨fun h=>absurd (h ▸ hr) (by simp),fun j hj=>by
     by_cases e:j=i
     · rw[e];exact hy.wpOp hi H
     · obtain⟨hun,oj,hoj,hno⟩:=CG hr hj
       have step:=wpOp_put hoj (hf j oj hoj e hun hno) (fun cs b=>hsel i oi cs b hi) (fun cs b=>hsel j oj cs b hoj) hQ hy (H.2 j (ready_mono hj e))
       refine wpOp_mono (fun a' w' ⟨hy',H'⟩=>?_) step
       rw[Array.setIfInBounds_comm _ _ (Ne.symm e)]at H'
       exact wpAny_first hi hsel hQ n _ a' w' (hf.more hun) (ready_mono hr (Ne.symm e)) hy' H'⟩
def eT(P:Program)(ops:Array Oper)(Q:Act→Prop):List Oper→Act→Prop
 | [],a=>Q a
 | o::rest,a=>∃ v,bp P ops o v a∧eT P ops Q rest (a.put o.dst v)
theorem lA{g:Nat}{w:World}(hs:Region.noSelect ops=true)(hQ:∀ e a a' w,e≠Exit.normal→Q e a w→Q e a' w):∀(l:List Oper) (k:Nat) (listed:Array Bool) (a:Act),(∀ j,j<l.length→l[j]? = ops[k+j]?) →
  Region.lexHead md ops g l.length k listed=true→eT P ops (fun a'=>∀ listed',Region.seqB md ops g (k+l.length) listed'=true→wpAny P md ops Q g listed' a' w) l a→wpAny P md ops Q (l.length+g) listed a w
 | [],k,listed,a,_,hB,h=>by
  simp only[List.length_nil,Nat.zero_add,Nat.add_zero]at *;exact h listed (by simpa[Region.lexHead]using hB)
 | o::l,k,listed,a,hl,hB,h=>by
  have h0:ops[k]? = some o:=by simpa using(hl 0 (by simp)).symm
  simp only[List.length_cons,Region.lexHead,Bool.and_eq_true]at hB;obtain⟨⟨hr,hf⟩,hB'⟩:=hB;obtain⟨v,hy,hK⟩:=h
  have:=lA (g:=g) (w:=w) hs hQ l (k+1) (listed.setIfInBounds k true) (a.put o.dst v) (fun j hj=>by have:=hl (j+1) (by simp;omega);simpa[Nat.add_assoc,Nat.add_comm 1 j]using this) hB' (by
    simp only[List.length_cons]at hK
    rw[show k+1+l.length=k+(l.length+1) by omega]
    exact hK)
  have e:(o::l).length+g=(l.length+g)+1:=by simp;omega
  rw[e];exact wpAny_first h0 (Region.noSelect_spec hs) hQ (l.length+g) listed a w (Region.free_spec h0 hf) (by simpa using hr) hy this
def vg(Q:Exit→Act→World→Prop):Exit→Act→World→Prop:=fun e a w=>e=.normal∧Q .normal a w
def EL(l:List Oper)(n:Nat):Bool:=Region.noSelect l.toArray&&decide (n≤l.length)&&Region.lexHead .any l.toArray (l.length - n) n 0 (Array.replicate l.length false)
theorem bP{id:Nat}{a:Act}{w:World}{l:List Oper}(n:Nat)(hm:P.follows .mixedOrders=true)(hB:EL l n=true)
  (h:eT P l.toArray (fun a'=>wpList P l.toArray (vg Q) (l.drop n) a' { w with drawn:=w.drawn+1 }) (l.take n) a):(Code.region id l.toArray true).wp P Q a w:=by
 simp only[EL,Bool.and_eq_true,decide_eq_true_eq]at hB;obtain⟨⟨hs,hn⟩,hlex⟩:=hB;have htl:(l.take n).length=n:=by simp;omega
 have hdl:(l.drop n).length=l.length - n:=by simp
 refine Code.wp_mono (Q:=vg Q) (fun e a w h=>by obtain⟨rfl,h⟩:=h;exact h) ?_;refine wp_region_any hm ?_
 have key:=lA (P:=P) (ops:=l.toArray) (md:=.any) (Q:=vg Q) (g:=l.length - n) (w:={ w with drawn:=w.drawn+1 }) hs (fun e a a' w he h=>absurd h.1 he) (l.take n) 0 (Array.replicate l.length false) a
  (fun j hj=>by rw[htl]at hj;simp[hj]) (by rw[htl];exact hlex) (by
    have mono:∀(q q':Act→Prop) (ls:List Oper) (a:Act),(∀ a,q a→q' a)→eT P l.toArray q ls a→eT P l.toArray q' ls a:=by
      intro q q' ls
      induction ls with
      | nil=>intro a hq h;exact hq _ h
      | cons o ls ih=>intro a hq h;obtain⟨v,h1,h2⟩:=h;exact⟨v,h1,ih _ hq h2⟩
    refine mono _ _ _ _ (fun a' ha' listed' hB'=>?_) h
    rw[htl,Nat.zero_add]at hB'
    have:=wpAny_of_seq (P:=P) (ops:=l.toArray) (md:=.any) (Q':=vg Q) (l.drop n) n listed' a' { w with drawn:=w.drawn+1 } (fun j=>by simp[List.getElem?_drop]) (by rw[hdl];exact hB') ha'
    rw[hdl]at this
    exact this)
 rw[htl]at key;have e:n+(l.length - n)=l.toArray.size:=by simp;omega
 rw[e]at key
 simpa using key
theorem c9{Q':Act→Prop}{a:Act}(h:Q' a):eT P ops Q' [] a:=h
theorem ai{Q':Act→Prop}{a:Act}{o:Oper}{rest:List Oper}(v:Value)(hg:o.guard=none)(h:∀ w,(execOp a.eval o).run P w=.ok (.value v) w)(hk:eT P ops Q' rest (a.put o.dst v)):eT P ops Q' (o::rest) a :=
 ⟨v,.inl ⟨by unfold Region.wanted;rw[hg],fun w=>by unfold Oper.quietAt;rw[h w];exact⟨rfl,rfl⟩⟩,hk⟩
theorem gv{Q':Act→Prop}{a:Act}{o:Oper}{rest:List Oper}(v:Value)(hg:o.guard=none){f:FuncId}{args:Array Value}(h:∀ w,(execOp a.eval o).run P w=.ok (.enter f args) w)(hc:∀ w,Calls P f args w fun e w'=>e=.returned v∧w'=w)(hk:eT P ops Q' rest (a.put o.dst v)):eT P ops Q' (o::rest) a :=
 ⟨v,.inl ⟨by unfold Region.wanted;rw[hg],fun w=>by unfold Oper.quietAt;rw[h w];exact⟨rfl,(hc w).mono fun e w' h=>h⟩⟩,hk⟩
end
end Go.Proofs.YtkekkbciiohbkaaGreatDoor.E
