/- Texts one behind the other: FO FP FW FN FQ FG FR FT FE FH XA XB XC. -/
import Derived.Test.YtkekkbciiohbkaaGreatDoorProg
import Derived.WalkKit
import Derived.Lib.IndexBytes
import Derived.WalkSpells
import Derived.WalkLawsBesides
import Derived.Below
import Derived.BigQuiet
import Derived.Deep.QuietTactic
import Derived.Laws.AppendOwnNone
import Derived.Laws.BitsLemmas
import Derived.Ground.NamesProg
import Derived.Shelf.Lay
import Derived.Shelf.Strconv.Itoa3
set_option maxRecDepth 100000
set_option maxHeartbeats 16000000
set_option linter.unusedVariables false
set_option linter.unnecessarySimpa false
namespace Go.Proofs.YtkekkbciiohbkaaGreatDoor.F
open Go.RowKit
theorem hid{p:Prop}(h:p):Hid p:=h
def bn(s:ByteArray):List Int:=s.data.toList.map fun c=>(c.toNat:Int)
theorem aa(s:ByteArray):(bn s).length=s.size:=by simp[bn]
theorem aC(a b:ByteArray):bn (a++b)=bn a++bn b:=by
 unfold bn;rw[←List.map_append]
 congr 1
theorem av{s t:ByteArray}(h:bn s=bn t):s=t:=by
 unfold bn at h
 have h2:s.data.toList=t.data.toList:=by
  have:∀(a b:List UInt8),a.map (fun c=>(c.toNat:Int))=b.map (fun c=>(c.toNat:Int))→a=b:=by
   intro a
   induction a with
   | nil=>intro b hb;cases b with
    | nil=>rfl
    | cons _ _=>simp at hb
   | cons x a ih=>intro b hb;cases b with
    | nil=>simp at hb
    | cons y b =>
     simp only[List.map_cons,List.cons.injEq]at hb;have hxy:x=y:=UInt8.toNat_inj.1 (by have:=hb.1;omega);rw[ih b hb.2,hxy]
  exact this _ _ h
 cases s;cases t
 congr 1
 exact Array.toList_inj.1 h2
theorem aq(s:ByteArray)(i:Nat)(h:i<s.size):(bn s)[i]?.getD 0=((s[i].toNat:Nat):Int):=by
 unfold bn;rw[List.getElem?_map];have hl:i<s.data.toList.length:=by simpa using h
 rw[List.getElem?_eq_getElem hl];rfl
theorem ar{s:ByteArray}{i:Nat}(h:i<s.size):0≤(bn s)[i]?.getD 0∧(bn s)[i]?.getD 0≤255:=by
 rw[aq s i h];have:=s[i].toNat_lt;omega
theorem aR(t s:ByteArray):(t.toList==s.toList)=decide (bn t=bn s):=by
 rw[Bool.eq_iff_iff,beq_iff_eq,decide_eq_true_eq,ByteArray.toList_eq,ByteArray.toList_eq]
 constructor
 ·intro h;unfold bn;rw[h]
 ·intro h;rw[av h]
theorem aK{a b:ByteArray}(h:bn a=bn b):(a.toList==b.toList)=true:=by rw[aR];exact decide_eq_true h
theorem aj(s:ByteArray)(k:Nat):bn (s.extract k s.size)=(bn s).drop k:=by
 unfold bn;rw[Lib.extract_to_end,List.map_drop]
theorem ab(s:ByteArray)(h:0<s.size):s.toList.isEmpty=false:=by
 cases he:s.toList.isEmpty with
 | false=>rfl
 | true =>
  rw[List.isEmpty_iff,ByteArray.toList_eq]at he;have h4:s.data.toList.length=0:=by rw[he];rfl
  rw[Array.length_toList]at h4;have h3:s.data.size=s.size:=rfl;omega
theorem ah(s:ByteArray)(h:s.size=0):s.toList.isEmpty=true:=by
 rw[ByteArray.toList_eq,List.isEmpty_iff];exact List.length_eq_zero_iff.1 (by simpa using h)
theorem take_one(L:List Int)(k:Nat)(h:k<L.length):L.take (k+1)=L.take k++[L[k]?.getD 0]:=by
 rw[List.take_succ_eq_append_getElem h,List.getElem?_eq_getElem h];rfl
def hx(c:Int):Int:=if 48≤c∧c≤57 then c - 48 else if 97≤c∧c≤102 then c - 87 else if 65≤c∧c≤70 then c - 55 else -1
theorem bw(c:Int):-1≤hx c∧hx c≤15:=by unfold hx;(repeat' split) <;> omega
def isX(l:List Int):Bool:=decide (2≤l.length∧l[0]?.getD 0=48∧(l[1]?.getD 0=120∨l[1]?.getD 0=88))
def isO(l:List Int):Bool:=decide (2≤l.length∧l[0]?.getD 0=48)
def base(l:List Int):Nat:=if isX l=true then 16 else if isO l=true then 8 else 10
def rest(l:List Int):List Int:=if isX l=true then l.drop 2 else if isO l=true then l.drop 1 else l
def bW(b:Nat)(c:Int):Bool:=decide (0≤hx c∧hx c<b)
def ok(b:Nat)(l:List Int):Bool:=l.all (bW b)
def vl(b:Nat)(l:List Int):Nat:=l.foldl (fun n c=>n * b+(hx c).toNat) 0
theorem cJ(b:Nat)(l:List Int)(c:Int):vl b (l++[c])=vl b l * b+(hx c).toNat:=by unfold vl;rw[List.foldl_append];rfl
theorem eJ(b:Nat)(l:List Int)(c:Int):ok b (l++[c])=(ok b l&&bW b c):=by unfold ok;rw[List.all_append];simp
def cap(b:Nat)(l:List Int):Nat:=min (vl b l) 4294967296
theorem fA{b:Nat}(hb:1≤b)(l:List Int)(c:Int):cap b (l++[c])=min (cap b l * b+(hx c).toNat) 4294967296:=by
 unfold cap;rw[cJ];by_cases h:vl b l≤4294967296
 ·rw[Nat.min_eq_left h]
 ·have h1:4294967296≤4294967296 * b:=Nat.le_mul_of_pos_right _ hb
  have h2:4294967296 * b≤vl b l * b:=Nat.mul_le_mul_right _ (by omega);rw[Nat.min_eq_right (by omega:4294967296≤vl b l)];omega
def num(l:List Int):Nat×Int :=
 if l=[] then (0,8) else if ok (base l) (rest l)=false then (0,8) else if 4294967296≤vl (base l) (rest l) then (0,4) else (vl (base l) (rest l),0)
theorem AN(l:List Int):1≤base l:=by unfold base;(repeat' split) <;> omega
theorem sa(b:Nat)(l:List Int):4294967296≤cap b l↔4294967296≤vl b l:=by unfold cap;omega
theorem GL{b:Nat}{l:List Int}(h:¬ 4294967296≤vl b l):cap b l=vl b l:=by unfold cap;omega
def dg(n:Nat):Int:=if n<10 then 48+n else 87+n
def wrF(b:Nat):Nat→Nat→List Int
 | 0,n=>[dg (n % b)]
 | f+1,n=>if n<b then [dg n] else wrF b f (n / b)++[dg (n % b)]
def wr(b n:Nat):List Int:=wrF b 64 n
theorem jn{b:Nat}(h2:2≤b):2 ^ 64≤b ^ 65:=Nat.le_trans (Nat.pow_le_pow_right (by decide) (by decide:64≤65)) (Nat.pow_le_pow_left h2 65)
def wrt(k n:Nat):List Int:=if k=0 then 48::120::wr 16 n else if k=1 then 48::wr 8 n else wr 10 n
theorem qi{b:Nat}(h2:2≤b):∀(f n:Nat),n<b ^ (f+1)→wrF b (f+1) n=wrF b f n
 | 0,n,h=>by
  have hn:n<b:=by simpa using h
  show(if n<b then [dg n] else wrF b 0 (n / b)++[dg (n % b)])=[dg (n % b)]
  rw[if_pos hn,Nat.mod_eq_of_lt hn]
 | f+1,n,h=>by
  have e1:wrF b (f+1+1) n=if n<b then [dg n] else wrF b (f+1) (n / b)++[dg (n % b)]:=rfl
  have e2:wrF b (f+1) n=if n<b then [dg n] else wrF b f (n / b)++[dg (n % b)]:=rfl
  rw[e1,e2];by_cases hn:n<b
  ·rw[if_pos hn,if_pos hn]
  ·rw[if_neg hn,if_neg hn,qi h2 f (n / b) (by rw[Nat.div_lt_iff_lt_mul (by omega)];rwa [Nat.pow_succ]at h)]
theorem Bq{b n:Nat}(h2:2≤b)(hn:n<2 ^ 64):wr b n=if n<b then [dg n] else wr b (n / b)++[dg (n % b)]:=by
 have e2:wr b n=if n<b then [dg n] else wrF b 63 (n / b)++[dg (n % b)]:=rfl
 rw[e2];by_cases hb:n<b
 ·rw[if_pos hb,if_pos hb]
 ·have h3:n / b<b ^ (63+1):=by
   rw[Nat.div_lt_iff_lt_mul (by omega)];have:=jn h2;rw[Nat.pow_succ]at this;exact Nat.lt_of_lt_of_le hn this
  rw[if_neg hb,if_neg hb,←qi h2 63 (n / b) h3];rfl
theorem tL(b:Nat):∀ f n,(wrF b f n).length≤f+1
 | 0,n=>by simp[wrF]
 | f+1,n=>by
  rw[wrF];split
  ·simp
  ·have:=tL b f (n / b)
   simp;omega
theorem lv(b n:Nat):(wr b n).length≤65:=tL b 64 n
def Wr(b n0 n:Nat)(T:ByteArray):Prop:=(T.size=0∧n=n0)∨(0<T.size∧n=0∧bn T=wr b n0)∨(0<T.size∧0<n∧wr b n0=wr b n++bn T)
theorem Wr.size{b n0 n:Nat}{T:ByteArray}(h:Wr b n0 n T):T.size≤65:=by
 have:=lv b n0;rcases h with⟨h,_⟩ | ⟨_,_,h⟩ | ⟨_,_,h⟩
 ·omega
 ·rw[←h,aa]at this;exact this
 ·rw[h,List.length_append,aa]at this;omega
theorem Wr.step{b n0 n:Nat}{T D:ByteArray}(h2:2≤b)(hn:n<2 ^ 64)(hgo:T.size=0∨0<n)(hD:bn D=[dg (n % b)])(h:Wr b n0 n T):Wr b n0 (n / b) (D++T):=by
 have hs:0<(D++T).size:=by
  rw[ByteArray.size_append];have:D.size=1:=by rw[←aa,hD];rfl
  omega
 have hb:bn (D++T)=dg (n % b)::bn T:=by rw[aC,hD];rfl
 have key:wr b n0=wr b n++bn T:=by
  rcases h with⟨h,rfl⟩ | ⟨h1,h3,_⟩ | ⟨_,_,h⟩
  ·have:bn T=[]:=List.length_eq_zero_iff.1 (by rw[aa];exact h)
   rw[this,List.append_nil]
  ·omega
  ·exact h
 rw[Bq h2 hn]at key;by_cases hlt:n<b
 ·rw[if_pos hlt]at key
  have h0:n / b=0:=Nat.div_eq_of_lt hlt;refine .inr (.inl ⟨hs,h0,?_⟩);rw[hb,Nat.mod_eq_of_lt hlt,key];rfl
 ·rw[if_neg hlt]at key
  refine .inr (.inr ⟨hs,Nat.div_pos (by omega) (by omega),?_⟩);rw[hb,key];simp
theorem Wr.fin{b n0:Nat}{T:ByteArray}(hT:0<T.size)(h:Wr b n0 0 T):bn T=wr b n0:=by
 rcases h with⟨h,_⟩ | ⟨_,_,h⟩ | ⟨_,h,_⟩
 ·omega
 ·exact h
 ·omega
theorem aX{k:IntKind}{a b:Int}(h:a=b):Ending.returned (.int k a)=.returned (.int k b):=by rw[h]
def tail(s:ByteArray):ByteArray:=if isX (bn s)=true then s.extract 2 s.size else if isO (bn s)=true then s.extract 1 s.size else s
theorem ig(s:ByteArray):bn (tail s)=rest (bn s):=by
 unfold tail rest;split
 ·exact aj s 2
 ·split
  ·exact aj s 1
  ·rfl
theorem ie(s:ByteArray):(tail s).size≤s.size:=by
 unfold tail;split
 ·simp
 ·split
  ·simp
  ·exact Nat.le_refl _
def cX(l:List Int)(e:Ending):Prop:=e=.returned (.tuple #[.int .u64 ((num l).1:Nat),.int .i64 (num l).2])
theorem ir{l:List Int}(hl:l≠[])(h:ok (base l) (rest l)=false):num l=(0,8):=by unfold num;rw[if_neg hl,if_pos h]
theorem iq{l:List Int}(hl:l≠[])(h:ok (base l) (rest l)=true):num l=if 4294967296≤cap (base l) (rest l) then (0,4) else (cap (base l) (rest l),0):=by
 unfold num;rw[if_neg hl,h,if_neg (by simp)];by_cases h2:4294967296≤vl (base l) (rest l)
 ·rw[if_pos h2,if_pos ((sa _ _).2 h2)]
 ·rw[if_neg h2,if_neg (fun h=>h2 ((sa _ _).1 h)),GL h2]
theorem cO{b:Nat}{l:List Int}{k:Nat}(hk:k<l.length)(h:bW b (l[k]?.getD 0)=false):ok b l=false:=by
 rw[Bool.eq_false_iff];intro hh
 have:=List.all_eq_true.1 hh l[k] (List.getElem_mem hk);rw[List.getElem?_eq_getElem hk]at h;rw[show l[k]=(some l[k]).getD 0 from rfl,h]at this;cases this
def spl:List Int→List (List Int)
 | []=>[[]]
 | c::l=>if c=46 then []::spl l else (c::(spl l).headD [])::(spl l).tail
theorem bL:∀ l,spl l≠[]
 | []=>by simp[spl]
 | c::l=>by rw[spl];split <;> simp
theorem head_tail{l:List (List Int)}(h:l≠[]):l.headD []::l.tail=l:=by
 cases l with
 | nil=>exact absurd rfl h
 | cons a t=>rfl
theorem kP(l:List Int):spl (46::l)=[]::spl l:=by rw[spl,if_pos rfl]
theorem ck:∀(p l:List Int),¬ 46∈p→spl (p++46::l)=p::spl l
 | [],l,_=>kP l
 | c::p,l,h=>by
  have hc:c≠46:=fun e=>h (by simp[e])
  have ih:=ck p l (fun hh=>h (by simp[hh]));show spl (c::(p++46::l))=_
  rw[spl,if_neg hc,ih];rfl
theorem cS:∀(p:List Int),¬ 46∈p→spl p=[p]
 | [],_=>rfl
 | c::p,h=>by
  have hc:c≠46:=fun e=>h (by simp[e])
  rw[spl,if_neg hc,cS p (fun hh=>h (by simp[hh]))];rfl
def join:List (List Int)→List Int
 | []=>[]
 | [p]=>p
 | p::q::r=>p++46::join (q::r)
def prt(l:List Int):List (List Int):=if 1<(spl l).length∧(spl l).getLast? = some [] then (spl l).dropLast else spl l
def lg(t:Nat):List (Nat×Int)→Bool
 | []=>false
 | [x]=>decide (x.2=4)||decide (256 ^ (5 - t)≤x.1)
 | x::y::r=>decide (x.2=4)||decide (255<x.1)||lg t (y::r)
def sm:Nat→List (Nat×Int)→Nat
 | _,[]=>0
 | _,[x]=>x.1
 | i,x::y::r=>x.1 * 256 ^ (3 - i)+sm (i+1) (y::r)
def adr(ps:List (List Int)):Nat×Int :=
 if 4<ps.length then (0,8) else if (ps.map num).any (fun x=>decide (x.2=8))=true then (0,8) else if lg ps.length (ps.map num)=true then (0,4) else (sm 0 (ps.map num),0)
def prs(l:List Int):Nat×Int:=adr (prt l)
def ten(c:Int):Bool:=decide (48≤c∧c≤57)
def jE(p:List Int):Bool:=(decide (p≠[])&&p.all ten)||(isX p&&decide ((num p).2≠8))
def ends(l:List Int):Bool:=jE ((prt l).getLast?.getD [])
theorem kV{f:Nat→List Int}{l:List Nat}(h:∀ i,f i≠[]):(l.map f).getLast? ≠ some []:=by
 intro e
 have:=List.mem_of_getLast? e;obtain⟨i,_,hi⟩:=List.mem_map.1 this;exact h i hi
def cE(vs:List (Nat×Nat)):List (List Int):=vs.map fun v=>wrt v.1 v.2
def cut(a n:Nat):List Nat:=match n with
 | 1=>[a]
 | 2=>[a / 16777216,a % 16777216]
 | 3=>[a / 16777216,a / 65536 % 256,a % 65536]
 | _=>[a / 16777216,a / 65536 % 256,a / 256 % 256,a % 256]
theorem p7(s:ByteArray)(i j:Nat)(hij:i≤j)(hj:j≤s.size):bn (s.extract i j)=((bn s).drop i).take (j - i):=by
 unfold bn;rw[ByteArray.data_extract,Array.toList_extract,List.extract_eq_take_drop,List.map_take,List.map_drop]
def PI(l:List Int)(i fr:Nat)(qs:List (List Int)):Prop :=
 (i≤l.length∧fr≤i∧spl l=qs++spl (l.drop fr)∧∀ j,fr≤j→j<i→l[j]?.getD 0≠46)∨(i=l.length+1∧spl l=qs)
theorem PI.start(l:List Int):PI l 0 0 []:=.inl ⟨Nat.zero_le _,Nat.le_refl _,by simp,fun j _ h=>by omega⟩
theorem gG{l:List Int}{i fr:Nat}(hi:i≤l.length)(h4:∀ j,fr≤j→j<i→l[j]?.getD 0≠46):¬ 46∈(l.drop fr).take (i - fr):=by
 intro hm
 obtain⟨k,hk,e⟩:=List.mem_iff_getElem.1 hm;rw[List.length_take,List.length_drop]at hk;have h5:((l.drop fr).take (i - fr))[k]? = some 46:=by rw[List.getElem?_eq_getElem (by rw[List.length_take,List.length_drop];exact hk),e]
 rw[List.getElem?_take_of_lt (by omega),List.getElem?_drop]at h5;exact h4 (fr+k) (by omega) (by omega) (by rw[h5];rfl)
theorem PI.dot{l:List Int}{i fr:Nat}{qs:List (List Int)}(hi:i<l.length)(hc:l[i]?.getD 0=46)(h:PI l i fr qs):PI l (i+1) (i+1) (qs++[(l.drop fr).take (i - fr)]):=by
 rcases h with⟨_,h2,h3,h4⟩ | ⟨h,_⟩
 ·refine .inl ⟨by omega,Nat.le_refl _,?_,fun j hj hji=>by omega⟩
  have hd:l.drop fr=(l.drop fr).take (i - fr)++46::l.drop (i+1):=by
   have e1:(l.drop fr).drop (i - fr)=l.drop i:=by rw[List.drop_drop,show fr+(i - fr)=i by omega]
   have e2:l.drop i=46::l.drop (i+1):=by rw[List.drop_eq_getElem_cons hi];rw[List.getElem?_eq_getElem hi]at hc;rw[show l[i]=46 from hc]
   rw[←e2,←e1,List.take_append_drop]
  have hs:spl (l.drop fr)=(l.drop fr).take (i - fr)::spl (l.drop (i+1)):=by
   conv=>lhs;rw[hd]
   exact ck _ _ (gG (by omega) h4)
  rw[h3,hs,List.append_assoc];rfl
 ·omega
theorem PI.from{l:List Int}{i fr:Nat}{qs:List (List Int)}(hi:i≤l.length)(h:PI l i fr qs):fr≤i:=by
 rcases h with⟨_,h,_⟩ | ⟨h,_⟩
 ·exact h
 ·omega
theorem PI.done{l:List Int}{i fr:Nat}{qs:List (List Int)}(hi:l.length<i)(h:PI l i fr qs):spl l=qs:=by
 rcases h with⟨h,_⟩ | ⟨_,h⟩
 ·omega
 ·exact h
theorem ey(w:World)(t:TypeId)(l:List Value):∀(j:Nat) (u:Value),l[j]? = some u→(w.alloc (.cells l.toArray t)).cell? ((⟨w.heap.size,0,none⟩:Addr).add j)=some u:=by
 intro j u h
 have hb:(w.alloc (.cells l.toArray t)).heap[w.heap.size]? = some (.cells l.toArray t):=heap_alloc_new w _
 generalize w.alloc (.cells l.toArray t)=W at hb ⊢
 have e:(⟨w.heap.size,0,none⟩:Addr).add j=⟨w.heap.size,j,none⟩:=by unfold Addr.add;split <;> simp_all
 rw[e];simp[World.cell?,hb,h]
theorem below_grow{B:Nat}{w w1 w2:World}{e:TypeId}{size:Nat}{v:Value}{n:Nat}{xs:List Value}(hB:Below B w w1)(hb:B≤w1.heap.size)(hown:w1.ownsRow B e size v n xs)(hg:w1.grownBy w2 v.ownBlock):Below B w w2 :=
 hB.grown hg hb (fun j ej=>by
   rcases hown.2 with⟨rfl,_⟩ | ⟨g,cap,cur,rfl,hbg,_,_⟩
   · simp[Value.ownBlock]at ej
   · obtain rfl:g=j:=by simpa[Value.ownBlock]using ej
     exact hbg)
def grt(t:Nat):List Nat→Bool
 | []=>false
 | [x]=>decide (256 ^ (5 - t)≤x)
 | x::y::r=>decide (255<x)||grt t (y::r)
def jh(ns:List Nat):List (Nat×Nat):=ns.map fun n=>(2,n)
def smN:Nat→List Nat→Nat
 | _,[]=>0
 | _,[x]=>x
 | i,x::y::r=>x * 256 ^ (3 - i)+smN (i+1) (y::r)
end Go.Proofs.YtkekkbciiohbkaaGreatDoor.F
namespace Go.Proofs
open Go.Shelf Go.RowKit
shelf_lay LaysM.n171 Nm 171 at Tryz as Tryz.laysItoa
end Go.Proofs
namespace Go.Proofs.YtkekkbciiohbkaaGreatDoor.F
open Go.RowKit
def Pow(w:World):Prop:=(match (w.heap[0]? : Option Obj) with | some (Obj.cells cs _ _)=>some cs | _=>none)=some (Lib.pow10Tab.map fun z=>Value.int .u64 z).toArray
theorem Pow.below{w w':World}(h:Pow w){B:Nat}(hB:0<B)(hb:Below B w w'):Pow w':=by
 unfold Pow at *
 rw[hb.block _ hB];exact h
theorem Pow.size{w:World}(h:Pow w):0<w.heap.size:=by
 unfold Pow at h
 rcases Nat.lt_or_ge 0 w.heap.size with hb | hb
 ·exact hb
 ·rw[Array.getElem?_eq_none hb]at h;cases h
theorem tp:∀ n:Fin 256,((Lib.decDigits n.val).map fun b=>(b.toNat:Int))=wr 10 n.val:=by decide +kernel
def byt(a k:Nat):Nat:=a / 256 ^ (3 - k) % 256
def txt(a:Nat):List Int:=join (cE (jh (cut a 4)))
def ia(a:Nat)(w:World)(e:Ending)(W':World):Prop:=(∃ t,e=.returned (.string t)∧bn t=txt a)∧Below w.heap.size w W'
theorem kO:∀(l p:List Int),p∈spl l→p.length≤l.length
 | [],p,h=>by simp[spl]at h;simp[h]
 | c::l,p,h=>by
  have ht:=head_tail (bL l)
  have mem:∀ q,q∈(spl l).tail∨q=(spl l).headD []→q∈spl l:=fun q hq=>by
   rw[←ht];rcases hq with hq | hq
   ·exact List.mem_cons_of_mem _ hq
   ·rw[hq];exact List.mem_cons_self
  rw[spl]at h;split at h
  ·rcases List.mem_cons.1 h with rfl | h
   ·simp
   ·have:=kO l p h;simp;omega
  ·rcases List.mem_cons.1 h with rfl | h
   ·have:=kO l _ (mem _ (.inr rfl));simp at this ⊢;omega
   ·have:=kO l p (mem p (.inl h));simp;omega
theorem Cg{l p:List Int}(h:p∈prt l):p∈spl l:=by
 unfold prt at h
 split at h
 ·exact(List.dropLast_subset _) h
 ·exact h
theorem oW:∀(l:List Int),(spl l).length≤l.length+1
 | []=>by simp[spl]
 | c::l=>by
  have ih:=oW l;have ht:=congrArg List.length (head_tail (bL l));rw[List.length_cons]at ht;rw[spl];split
  ·simp;omega
  ·simp only[List.length_cons];omega
theorem eo{s q:ByteArray}{qs:List ByteArray}(h:qs.map bn=prt (bn s))(hq:q∈qs):q.size≤s.size:=by
 have h1:bn q∈prt (bn s):=by rw[←h];exact List.mem_map.2 ⟨q,hq,rfl⟩
 have h2:=kO _ _ (Cg h1)
 rwa [aa,aa]at h2
def dgs(p:List Int)(k:Nat):Bool:=decide (p≠[])&&(p.take k).all ten
def AX(xs:List (Nat×Int)):Bool:=xs.any (fun x=>decide (x.2=4))
def AW(xs:List (Nat×Int)):Bool:=xs.any (fun x=>decide (x.2=8))
theorem mr(t:Nat):∀ xs:List (Nat×Int),lg t xs=(AX xs||grt t (xs.map (·.1)))
 | []=>rfl
 | [x]=>by simp[lg,AX,grt]
 | x::y::r=>by
  have ih:=mr t (y::r);have e1:lg t (x::y::r)=(decide (x.2=4)||decide (255<x.1)||lg t (y::r)):=rfl;have e2:AX (x::y::r)=(decide (x.2=4)||AX (y::r)):=rfl;have e3:grt t ((x::y::r).map (·.1))=(decide (255<x.1)||grt t ((y::r).map (·.1))):=rfl;rw[e1,ih,e2,e3];cases decide (x.2=4) <;> cases decide (255<x.1) <;> cases AX (y::r) <;> rfl
theorem sJ:∀(xs:List (Nat×Int)) (i:Nat),sm i xs=smN i (xs.map (·.1))
 | [],i=>rfl
 | [x],i=>rfl
 | x::y::r,i=>by
  have ih:=sJ (y::r) (i+1);show x.1 * 256 ^ (3 - i)+sm (i+1) (y::r)=x.1 * 256 ^ (3 - i)+smN (i+1) ((y::r).map (·.1))
  rw[ih]
theorem AU{p:Nat×Int→Bool}(xs:List (Nat×Int))(k:Nat)(hk:k<xs.length):(xs.take (k+1)).any p=((xs.take k).any p||p (xs[k]?.getD (0,0))):=by
 rw[List.take_succ_eq_append_getElem hk,List.any_append,List.getElem?_eq_getElem hk];simp
theorem FY(l:List Int):(num l).1<4294967296:=by unfold num;(repeat' split) <;> simp_all <;> omega
theorem nQ{ns:List Nat}(h1:1≤ns.length)(h4:ns.length≤4)(h:grt ns.length ns=false):smN 0 ns<4294967296:=by
 match ns,h1,h4,h with
 | [a],_,_,h=>have:=of_decide_eq_false h;simp at this;show a<_;omega
 | [a,b],_,_,h =>
  simp[grt]at h;show a * 256 ^ 3+b<_
  omega
 | [a,b,c],_,_,h =>
  simp[grt]at h;show a * 256 ^ 3+(b * 256 ^ 2+c)<_
  omega
 | [a,b,c,d],_,_,h =>
  simp[grt]at h;show a * 256 ^ 3+(b * 256 ^ 2+(c * 256 ^ 1+d))<_
  omega
theorem jw{w:World}{p:Addr}{v:Value}(h:w.cell? p=some v):p.block<w.heap.size:=by
 rcases Nat.lt_or_ge p.block w.heap.size with hb | hb
 ·exact hb
 ·simp[World.cell?,Array.getElem?_eq_none hb]at h
def ib(l:List Int)(w:World)(e:Ending)(W':World):Prop:=e=.returned (.tuple #[.int .u32 ((prs l).1:Nat),.int .i64 (prs l).2])∧Below w.heap.size w W'
end Go.Proofs.YtkekkbciiohbkaaGreatDoor.F
namespace Go.Proofs.YtkekkbciiohbkaaGreatDoor.X
open Go.Proofs.YtkekkbciiohbkaaGreatDoor.F (hx bw vl)
def spB(b:Int):List Int→List (List Int)
 | []=>[[]]
 | c::l=>if c=b then []::spB b l else (c::(spB b l).headD [])::(spB b l).tail
def aD(b:Int):List (List Int)→List Int
 | []=>[]
 | [p]=>p
 | p::q::r=>p++b::aD b (q::r)
theorem jk(b:Int):∀(p l:List Int),¬ b∈p→spB b (p++b::l)=p::spB b l
 | [],l,_=>by show spB b (b::l)=_;rw[spB,if_pos rfl]
 | c::p,l,h=>by
  have hc:c≠b:=fun e=>h (by simp[e])
  have ih:=jk b p l (fun hh=>h (by simp[hh]));show spB b (c::(p++b::l))=_
  rw[spB,if_neg hc,ih];rfl
theorem ei(b:Int):∀(p:List Int),¬ b∈p→spB b p=[p]
 | [],_=>rfl
 | c::p,h=>by
  have hc:c≠b:=fun e=>h (by simp[e])
  rw[spB,if_neg hc,ei b p (fun hh=>h (by simp[hh]))];rfl
def ten(c:Int):Bool:=decide (48≤c∧c≤57)
def hxd(c:Int):Bool:=decide (0≤hx c)
def pc(p:List Int):Option Nat:=if 1≤p.length∧p.length≤4∧p.all hxd=true then some (vl 16 p) else none
def dn(p:List Int):Option Nat:=if 1≤p.length∧p.length≤3∧¬ (1<p.length∧p[0]?.getD 0=48)∧p.all ten=true∧vl 10 p≤255 then some (vl 10 p) else none
def kF:List (Option Nat)→Option (List Nat)
 | [some a,some b,some c,some d]=>some [a * 256+b,c * 256+d]
 | _=>none
def dt(p:List Int):Option (List Nat):=kF ((spB 46 p).map dn)
def lst(last:Bool)(p:List Int):Option (List Nat):=if last=true then (match dt p with | some l=>some l | none=>(pc p).map (fun v=>[v])) else (pc p).map (fun v=>[v])
def put(v:Option Nat)(l:Option (List Nat)):Option (List Nat):=match v,l with
 | some v,some l=>some (v::l)
 | _,_=>none
def pcs(last:Bool):List (List Int)→Option (List Nat)
 | []=>some []
 | [p]=>lst last p
 | p::q::r=>put (pc p) (pcs last (q::r))
def pieces(last:Bool)(s:List Int):Option (List Nat):=if s=[] then some [] else pcs last (spB 58 s)
def cc:List Int→Nat
 | a::b::t=>(if a=58∧b=58 then 1 else 0)+cc (b::t)
 | _=>0
def cp:List Int→Nat
 | a::b::t=>if a=58∧b=58 then 0 else cp (b::t)+1
 | _=>0
def full(l:Option (List Nat)):Option (List Nat):=match l with
 | some l=>if l.length=8 then some l else none
 | none=>none
def both(f b:Option (List Nat)):Option (List Nat):=match f,b with
 | some f,some b=>if f.length+b.length≤7 then some (f++List.replicate (8 - b.length - f.length) 0++b) else none
 | _,_=>none
def prs(s:List Int):Option (List Nat) :=
 if cc s=0 then full (pieces true s) else if cc s=1 then both (pieces false (s.take (cp s))) (pieces true (s.drop (cp s+2))) else none
theorem Ab{l:Option (List Nat)}{v:List Nat}(h:full l=some v):v.length=8:=by
 cases l with
 | none=>cases h
 | some l =>
  unfold full at h
  simp only at h
  split at h
  ·cases h;assumption
  ·cases h
theorem AI{f b:Option (List Nat)}{v:List Nat}(h:both f b=some v):v.length=8:=by
 cases f with
 | none=>cases h
 | some f =>
  cases b with
  | none=>cases h
  | some b =>
   unfold both at h
   simp only at h
   split at h
   ·cases h;simp;omega
   ·cases h
theorem pj{s:List Int}{v:List Nat}(h:prs s=some v):v.length=8:=by
 unfold prs at h
 split at h
 ·exact Ab h
 ·split at h
  ·exact AI h
  ·cases h
theorem bX(a b:Int)(t:List Int):cc (a::b::t)=(if a=58∧b=58 then 1 else 0)+cc (b::t):=rfl
theorem iy:∀(p:List Int),¬ 58∈p→cc p=0
 | [],_=>rfl
 | [a],_=>rfl
 | a::b::t,h=>by
  rw[bX,if_neg (fun hh=>h (by simp[hh.1])),iy (b::t) (fun hh=>h (by simp at hh ⊢;right;exact hh))]
theorem dr:∀(A B:List Int),cc (A++B)=cc A+cc B+(if A.getLast? = some 58∧B.head? = some 58 then 1 else 0)
 | [],B=>by simp[cc]
 | [a],[]=>by simp[cc]
 | [a],b::t=>by
  show cc (a::b::t)=_
  rw[bX];have e:cc [a]=0:=rfl;rw[e];by_cases h:a=58∧b=58
  ·rw[if_pos h,if_pos (by simp[h.1,h.2])];omega
  ·rw[if_neg h,if_neg (by simpa using h)];omega
 | a::a'::A,B=>by
  have ih:=dr (a'::A) B;show cc (a::a'::(A++B))=_
  rw[bX,bX];have e:cc (a'::(A++B))=cc (a'::A++B):=rfl;rw[e,ih];have g:(a::a'::A).getLast? = (a'::A).getLast? := by simp
  rw[g];omega
def Txt(p:List Int):Prop:=p≠[]∧¬ 58∈p
theorem kV{p:List Int}(h:Txt p):p.getLast? ≠ some 58:=fun e=>h.2 (List.mem_of_getLast? e)
theorem head_ne{p:List Int}(h:Txt p):p.head? ≠ some 58:=fun e=>h.2 (List.mem_of_mem_head? e)
theorem rZ:∀(A B:List Int),cc (A++[58])=0→cp (A++58::58::B)=A.length
 | [],B,_=>by show cp (58::58::B)=0;rw[cp,if_pos ⟨rfl,rfl⟩]
 | [a],B,h=>by
  have h':cc [a,58]=0:=h;rw[bX]at h';have ha:¬ (a=58∧(58:Int)=58):=fun hh=>by rw[if_pos hh]at h';omega
  show cp (a::58::58::B)=1
  rw[cp,if_neg ha,cp,if_pos ⟨rfl,rfl⟩]
 | a::a'::A,B,h=>by
  have h':cc (a::a'::(A++[58]))=0:=h;rw[bX]at h';have ha:¬ (a=58∧a'=58):=fun hh=>by rw[if_pos hh]at h';omega
  have h2:cc (a'::A++[58])=0:=by
   rw[if_neg ha,Nat.zero_add]at h';exact h'
  have ih:=rZ (a'::A) B h2;show cp (a::a'::(A++58::58::B))=_
  rw[cp,if_neg ha];have e:cp (a'::(A++58::58::B))=(a'::A).length:=ih;rw[e];rfl
def dgs(n:Nat):List Nat:=if n<16 then [n] else if n<256 then [n / 16,n % 16] else if n<4096 then [n / 256,n / 16 % 16,n % 16] else [n / 4096,n / 256 % 16,n / 16 % 16,n % 16]
def pad(n:Nat):List Nat:=[n / 4096 % 16,n / 256 % 16,n / 16 % 16,n % 16]
def dgc(cap:Bool)(d:Nat):Int:=if d<10 then 48+d else if cap=true then 55+d else 87+d
def aS(cap nts:Bool)(n:Nat):List Int:=(if nts=true then pad n else dgs n).map (dgc cap)
theorem zS{cap:Bool}{d:Nat}(h:d<16):hx (dgc cap d)=d:=by
 unfold hx dgc;cases cap <;> (repeat' split) <;> first | omega | simp_all
theorem GD{cap:Bool}{d:Nat}(h:d<16):(48≤dgc cap d∧dgc cap d≤57)∨(65≤dgc cap d∧dgc cap d≤102):=by
 unfold dgc;cases cap <;> (repeat' split) <;> first | omega | simp_all
theorem As{n:Nat}(h:n<65536):∀ d∈dgs n,d<16:=by
 unfold dgs;intro d hd
 (repeat' split at hd) <;> simp at hd <;> omega
theorem y7(n:Nat):∀ d∈pad n,d<16:=by
 unfold pad;intro d hd
 simp at hd
 omega
theorem pN(n:Nat):1≤(dgs n).length∧(dgs n).length≤4:=by unfold dgs;(repeat' split) <;> simp
def v16(l:List Nat):Nat:=l.foldl (fun n d=>n * 16+d) 0
theorem xB{cap:Bool}:∀(l:List Nat) (x:Nat),(∀ d∈l,d<16)→(l.map (dgc cap)).foldl (fun n c=>n * 16+(hx c).toNat) x=l.foldl (fun n d=>n * 16+d) x
 | [],_,_=>rfl
 | d::l,x,h=>by
  rw[List.map_cons,List.foldl_cons,List.foldl_cons,zS (h d (by simp)),Int.toNat_natCast];exact xB l _ (fun y hy=>h y (by simp[hy]))
theorem Ii{n:Nat}(h:n<65536):v16 (dgs n)=n:=by unfold v16 dgs;(repeat' split) <;> simp <;> omega
theorem Hp{n:Nat}(h:n<65536):v16 (pad n)=n:=by unfold v16 pad;simp;omega
theorem yU{cap:Bool}{l:List Nat}(h1:1≤l.length)(h4:l.length≤4)(hb:∀ d∈l,d<16):pc (l.map (dgc cap))=some (v16 l):=by
 unfold pc;rw[if_pos]
 ·congr 1
  exact xB l 0 hb
 ·refine⟨by simpa using h1,by simpa using h4,?_⟩
  rw[List.all_eq_true];intro c hc
  obtain⟨d,hd,rfl⟩:=List.mem_map.1 hc;unfold hxd;rw[zS (hb d hd)];exact decide_eq_true (by omega)
theorem kX{cap nts:Bool}{n:Nat}(h:n<65536):pc (aS cap nts n)=some n:=by
 unfold aS;split
 ·rw[yU (by simp[pad]) (by simp[pad]) (y7 n),Hp h]
 ·rw[yU (pN n).1 (pN n).2 (As h),Ii h]
theorem mF{cap nts:Bool}{n:Nat}(h:n<65536){c:Int}(hc:c∈aS cap nts n):(48≤c∧c≤57)∨(65≤c∧c≤102):=by
 unfold aS at hc
 obtain⟨d,hd,rfl⟩:=List.mem_map.1 hc;refine GD ?_;split at hd
 ·exact y7 n d hd
 ·exact As h d hd
theorem ft(cap nts:Bool)(n:Nat):1≤(aS cap nts n).length∧(aS cap nts n).length≤4:=by
 unfold aS;split
 ·simp[pad]
 ·rw[List.length_map];exact pN n
theorem mE{cap nts:Bool}{n:Nat}(h:n<65536):Txt (aS cap nts n):=by
 refine⟨fun e=>?_,fun hm=>?_⟩
 ·have:=(ft cap nts n).1
  rw[e]at this;simp at this
 ·have:=mF h hm
  omega
theorem ot:∀(ps:List (List Int)) (p:List Int),aD 58 (ps++[p])=aD 58 ps++(if ps=[] then [] else [58])++p
 | [],p=>rfl
 | [q],p=>by simp[aD]
 | q::q'::r,p=>by
  have ih:=ot (q'::r) p;have e:aD 58 (q::q'::r++[p])=q++58::aD 58 (q'::r++[p]):=rfl;have f:aD 58 (q::q'::r)=q++58::aD 58 (q'::r):=rfl;rw[e,ih,f,if_neg (by simp),if_neg (by simp)];simp
def gp(ps:List (List Int))(i k m:Nat):List Int:=aD 58 (ps.take (min m i))++(if i<m then 58::58::aD 58 ((ps.take m).drop k) else [])
theorem Gv{ps:List (List Int)}{i k m:Nat}(him:i<m)(hm:ps.length≤m):gp ps i k m=aD 58 (ps.take i)++58::58::aD 58 (ps.drop k):=by
 unfold gp;rw[Nat.min_eq_right (by omega),if_pos him,List.take_of_length_le hm]
def Small(a:List Nat):Prop:=∀ v∈a,v<65536
theorem Small.take{a:List Nat}(h:Small a)(i:Nat):Small (a.take i):=fun v hv=>h v (List.mem_of_mem_take hv)
theorem Small.drop{a:List Nat}(h:Small a)(i:Nat):Small (a.drop i):=fun v hv=>h v (List.mem_of_mem_drop hv)
end Go.Proofs.YtkekkbciiohbkaaGreatDoor.X
