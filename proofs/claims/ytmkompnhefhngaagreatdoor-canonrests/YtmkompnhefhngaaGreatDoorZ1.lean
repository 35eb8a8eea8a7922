/- Contracts and plain facts. -/
import Derived.Test.YtmkompnhefhngaaGreatDoorProg
import Derived.Test.YtmkompnhefhngaaGreatDoorChecked
import Derived.WalkKit
import Derived.Lib.IndexBytes
import Derived.Shelf.Lay
import Derived.Shelf.Pu.ParseUintPublic10
import Derived.Ground.MpProg
import Derived.Laws.BitsAllLaws
import Derived.Lib.ConvBytes
import Derived.RegionTactic
import Derived.Lib.IfaceEq
import Derived.BigQuiet
import Derived.Shelf.Strings.Split
import Derived.OwnWalk
import Derived.ArgAppend
import Derived.Lib.AppendStr
import Derived.Laws.OwnMore
import Derived.WalkSpells
import Derived.WalkLawsBesides
import Derived.Below
import Derived.Laws.AppendOwnNone
import Derived.Laws.BitsLemmas
import Derived.Laws.Rows
import Derived.Laws.Tables
import Derived.Laws.ResultCell
import Derived.Laws.Bits64b
import Derived.Deep.WholeRow
import Derived.Maps.AppendAt
import Derived.Laws.IdiomStrings
import Derived.Shelf.Strings.LastIndex
import Derived.Shelf.Strings.Search3
import Derived.Deep.QuietTactic
import Derived.RangeFuncNested
import Derived.RangeFuncBound
import Derived.RangeFuncCalls
import Derived.RangeFuncLeaves
import Derived.RangeFuncBox
import Derived.Shelf.Abstract
import Derived.OwnWalkIn
import Derived.TacticsInMore
import Derived.LoopNIn
import Derived.LoopIn
import Derived.Laws.Concat
import Derived.Ground.NamesProg
import Derived.Shelf.Strconv.Itoa3
set_option maxRecDepth 100000
set_option maxHeartbeats 16000000
set_option linter.unusedVariables false
set_option linter.unnecessarySimpa false
open List (length_cons getElem?_eq_getElem length_append length_drop length_map map_append length_take getElem_mem foldl_cons getElem?_map length_nil all_append map_cons map_drop mem_cons_of_mem size_toArray isEmpty_iff map_map all_cons take_left map_take append_nil nil_append cons_append map_id)
open Nat (le_refl le_trans lt_of_lt_of_le zero_add zero_le le_of_eq lt_or_ge)
open Go.ByteArray (toList_eq)
open ByteArray (data_extract)
open Go.World (ownsRow_nil grownBy_alloc)
open Array (length_toList getElem?_eq_none replicate_succ replicate_zero)
open Go.IntKind (wrap_u64)
open Option (getD_some)
namespace Go.Proofs.YtmkompnhefhngaaGreatDoor
open Tryz Go.RowKit
theorem Ex'{α:Sort _}(a:α):∃ o,a=o:=⟨_,rfl⟩
theorem Bt'{w v u:World}(h:Hid (Below w.heap.size w v))(b:Below v.heap.size v u):Hid (Below w.heap.size w u):=h.out.trans (b.mono h.out.size)
namespace F
def hx(c:Int):Int:=if 48<=c/\c<=57 then c - 48 else if 97<=c/\c<=102 then c - 87 else if 65<=c/\c<=70 then c - 55 else -1
theorem iG(c:Int):-1<=hx c/\hx c<=15:=by unfold hx;(repeat' split) <;> omega
def isX(l:List Int):Bool:=decide (2<=l.length/\l[0]?.getD 0=48/\(l[1]?.getD 0=120\/l[1]?.getD 0=88))
def isO(l:List Int):Bool:=decide (2<=l.length/\l[0]?.getD 0=48)
def base(l:List Int):Nat:=if isX l=true then 16 else if isO l=true then 8 else 10
def rest(l:List Int):List Int:=if isX l=true then l.drop 2 else if isO l=true then l.drop 1 else l
def ij(b:Nat)(c:Int):Bool:=decide (0<=hx c/\hx c<b)
def ok(b:Nat)(l:List Int):Bool:=l.all (ij b)
def vl(b:Nat)(l:List Int):Nat:=l.foldl (fun n c=>n * b+(hx c).toNat) 0
theorem ke(b:Nat)(l:List Int)(c:Int):vl b (l++[c])=vl b l * b+(hx c).toNat:=by unfold vl;rw[List.foldl_append];rfl
theorem sL(b:Nat)(l:List Int)(c:Int):ok b (l++[c])=(ok b l&&ij b c):=by unfold ok;rw[all_append];simp
def cap(b:Nat)(l:List Int):Nat:=min (vl b l) 4294967296
theorem Jd{b:Nat}(hb:1<=b)(l:List Int)(c:Int):cap b (l++[c])=min (cap b l * b+(hx c).toNat) 4294967296:=by
 unfold cap;rw[ke];by_cases h:vl b l<=4294967296
 ·rw[Nat.min_eq_left h]
 ·have h1:4294967296<=4294967296 * b:=Nat.le_mul_of_pos_right _ hb;have h2:4294967296 * b<=vl b l * b:=Nat.mul_le_mul_right _ (by omega);rw[Nat.min_eq_right (by omega:4294967296<=vl b l)];omega
def num(l:List Int):Nat×Int :=
 if l=[] then (0,8) else if ok (base l) (rest l)=false then (0,8) else if 4294967296<=vl (base l) (rest l) then (0,4) else (vl (base l) (rest l),0)
theorem Ji(l:List Int):1<=base l:=by unfold base;(repeat' split) <;> omega
theorem xf(b:Nat)(l:List Int):4294967296<=cap b l↔4294967296<=vl b l:=by unfold cap;omega
theorem Qx{b:Nat}{l:List Int}(h:¬ 4294967296<=vl b l):cap b l=vl b l:=by unfold cap;omega
def dg(n:Nat):Int:=if n<10 then 48+n else 87+n
def wrF(b:Nat):Nat->Nat->List Int
 | 0,n=>[dg (n % b)]
 | f+1,n=>if n<b then [dg n] else wrF b f (n / b)++[dg (n % b)]
def wr(b n:Nat):List Int:=wrF b 64 n
def wrt(k n:Nat):List Int:=if k=0 then 48::120::wr 16 n else if k=1 then 48::wr 8 n else wr 10 n
end F
namespace X
open F (hx vl)
def spB(b:Int):List Int->List (List Int)
 | []=>[[]]
 | c::l=>if c=b then []::spB b l else (c::(spB b l).headD [])::(spB b l).tail
def ah(b:Int):List (List Int)->List Int
 | []=>[]
 | [p]=>p
 | p::q::r=>p++b::ah b (q::r)
theorem ko(b:Int):∀(p l:List Int),¬ b∈p->spB b (p++b::l)=p::spB b l
 | [],l,_=>by show spB b (b::l)=_;rw[spB,if_pos rfl]
 | c::p,l,h=>by have hc:c≠b:=fun e=>h (by simp[e]);have ih:=ko b p l (fun hh=>h (by simp[hh]));show spB b (c::(p++b::l))=_;rw[spB,if_neg hc,ih];rfl
theorem dR(b:Int):∀(p:List Int),¬ b∈p->spB b p=[p]
 | [],_=>rfl
 | c::p,h=>by have hc:c≠b:=fun e=>h (by simp[e]);rw[spB,if_neg hc,dR b p (fun hh=>h (by simp[hh]))];rfl
def ten(c:Int):Bool:=decide (48<=c/\c<=57)
def hxd(c:Int):Bool:=decide (0<=hx c)
def pc(p:List Int):Option Nat:=if 1<=p.length/\p.length<=4/\p.all hxd=true then some (vl 16 p) else none
def dn(p:List Int):Option Nat:=if 1<=p.length/\p.length<=3/\¬ (1<p.length/\p[0]?.getD 0=48)/\p.all ten=true/\vl 10 p<=255 then some (vl 10 p) else none
def kS:List (Option Nat)->Option (List Nat)
 | [some a,some b,some c,some d]=>some [a * 256+b,c * 256+d]
 | _=>none
def dt(p:List Int):Option (List Nat):=kS ((spB 46 p).map dn)
def lst(last:Bool)(p:List Int):Option (List Nat):=if last=true then (match dt p with | some l=>some l | none=>(pc p).map (fun v=>[v])) else (pc p).map (fun v=>[v])
def put(v:Option Nat)(l:Option (List Nat)):Option (List Nat):=match v,l with
 | some v,some l=>some (v::l)
 | _,_=>none
def pcs(last:Bool):List (List Int)->Option (List Nat)
 | []=>some []
 | [p]=>lst last p
 | p::q::r=>put (pc p) (pcs last (q::r))
def pieces(last:Bool)(s:List Int):Option (List Nat):=if s=[] then some [] else pcs last (spB 58 s)
def cc:List Int->Nat
 | a::b::t=>(if a=58/\b=58 then 1 else 0)+cc (b::t)
 | _=>0
def cp:List Int->Nat
 | a::b::t=>if a=58/\b=58 then 0 else cp (b::t)+1
 | _=>0
def full(l:Option (List Nat)):Option (List Nat):=match l with
 | some l=>if l.length=8 then some l else none
 | none=>none
def both(f b:Option (List Nat)):Option (List Nat):=match f,b with
 | some f,some b=>if f.length+b.length<=7 then some (f++List.replicate (8 - b.length - f.length) 0++b) else none
 | _,_=>none
def prs(s:List Int):Option (List Nat) :=
 if cc s=0 then full (pieces true s) else if cc s=1 then both (pieces false (s.take (cp s))) (pieces true (s.drop (cp s+2))) else none
theorem Is{l:Option (List Nat)}{v:List Nat}(h:full l=some v):v.length=8:=by
 cases l with
 | none=>cases h
 | some l =>
  unfold full at h;simp only at h;split at h
  ·cases h;assumption
  ·cases h
theorem Je{f b:Option (List Nat)}{v:List Nat}(h:both f b=some v):v.length=8:=by
 cases f with
 | none=>cases h
 | some f =>
  cases b with
  | none=>cases h
  | some b =>
   unfold both at h;simp only at h;split at h
   ·cases h;simp;omega
   ·cases h
theorem mR{s:List Int}{v:List Nat}(h:prs s=some v):v.length=8:=by
 unfold prs at h;split at h
 ·exact Is h
 ·split at h
  ·exact Je h
  ·cases h
theorem cj(a b:Int)(t:List Int):cc (a::b::t)=(if a=58/\b=58 then 1 else 0)+cc (b::t):=rfl
theorem fw:∀(p:List Int),¬ 58∈p->cc p=0
 | [],_=>rfl
 | [a],_=>rfl
 | a::b::t,h=>by rw[cj,if_neg (fun hh=>h (by simp[hh.1])),fw (b::t) (fun hh=>h (by simp at hh ⊢;right;exact hh))]
theorem cQ:∀(A B:List Int),cc (A++B)=cc A+cc B+(if A.getLast? = some 58/\B.head? = some 58 then 1 else 0)
 | [],B=>by simp[cc]
 | [a],[]=>by simp[cc]
 | [a],b::t=>by
  show cc (a::b::t)=_;rw[cj];have e:cc [a]=0:=rfl;rw[e];by_cases h:a=58/\b=58
  ·rw[if_pos h,if_pos (by simp[h.1,h.2])];omega
  ·rw[if_neg h,if_neg (by simpa using h)];omega
 | a::a'::A,B=>by
  have ih:=cQ (a'::A) B;show cc (a::a'::(A++B))=_;rw[cj,cj];have e:cc (a'::(A++B))=cc (a'::A++B):=rfl;rw[e,ih];have g:(a::a'::A).getLast? = (a'::A).getLast? := by simp
  rw[g];omega
def Txt(p:List Int):Prop:=p≠[]/\¬ 58∈p
theorem kG{p:List Int}(h:Txt p):p.getLast? ≠ some 58:=fun e=>h.2 (List.mem_of_getLast? e)
theorem head_ne{p:List Int}(h:Txt p):p.head? ≠ some 58:=fun e=>h.2 (List.mem_of_mem_head? e)
theorem wY:∀(A B:List Int),cc (A++[58])=0->cp (A++58::58::B)=A.length
 | [],B,_=>by show cp (58::58::B)=0;rw[cp,if_pos ⟨rfl,rfl⟩]
 | [a],B,h=>by
  have h':cc [a,58]=0:=h;rw[cj]at h';have ha:¬ (a=58/\(58:Int)=58):=fun hh=>by rw[if_pos hh]at h';omega
  show cp (a::58::58::B)=1;rw[cp,if_neg ha,cp,if_pos ⟨rfl,rfl⟩]
 | a::a'::A,B,h=>by
  have h':cc (a::a'::(A++[58]))=0:=h;rw[cj]at h';have ha:¬ (a=58/\a'=58):=fun hh=>by rw[if_pos hh]at h';omega
  have h2:cc (a'::A++[58])=0:=by rw[if_neg ha,zero_add]at h';exact h'
  have ih:=wY (a'::A) B h2;show cp (a::a'::(A++58::58::B))=_;rw[cp,if_neg ha];have e:cp (a'::(A++58::58::B))=(a'::A).length:=ih;rw[e];rfl
end X
namespace F
theorem hid{p:Prop}(h:p):Hid p:=h
def bn(s:ByteArray):List Int:=s.data.toList.map fun c=>(c.toNat:Int)
theorem aa(s:ByteArray):(bn s).length=s.size:=by simp[bn]
theorem aO(a b:ByteArray):bn (a++b)=bn a++bn b:=by unfold bn;rw[<-map_append];congr 1
theorem bC{s t:ByteArray}(h:bn s=bn t):s=t:=by
 unfold bn at h
 have h2:s.data.toList=t.data.toList:=by
  have:∀(a b:List UInt8),a.map (fun c=>(c.toNat:Int))=b.map (fun c=>(c.toNat:Int))->a=b:=by
   intro a
   induction a with
   | nil=>intro b hb;cases b with
    | nil=>rfl
    | cons _ _=>simp at hb
   | cons x a ih=>intro b hb;cases b with
    | nil=>simp at hb
    | cons y b =>
     simp only[map_cons,List.cons.injEq]at hb;have hxy:x=y:=UInt8.toNat_inj.1 (by have:=hb.1;omega);rw[ih b hb.2,hxy]
  exact this _ _ h
 cases s;cases t;congr 1;exact Array.toList_inj.1 h2
theorem bJ(s:ByteArray)(i:Nat)(h:i<s.size):(bn s)[i]?.getD 0=((s[i].toNat:Nat):Int):=by
 unfold bn;rw[getElem?_map];have hl:i<s.data.toList.length:=by simpa using h
 rw[getElem?_eq_getElem hl];rfl
theorem cM{s:ByteArray}{i:Nat}(h:i<s.size):0<=(bn s)[i]?.getD 0/\(bn s)[i]?.getD 0<=255:=by rw[bJ s i h];have:=s[i].toNat_lt;omega
theorem lE(t s:ByteArray):(t.toList==s.toList)=decide (bn t=bn s):=by
 rw[Bool.eq_iff_iff,beq_iff_eq,decide_eq_true_eq,toList_eq,toList_eq];constructor
 ·intro h;unfold bn;rw[h]
 ·intro h;rw[bC h]
theorem aw(s:ByteArray)(k:Nat):bn (s.extract k s.size)=(bn s).drop k:=by unfold bn;rw[Lib.extract_to_end,map_drop]
theorem ay(s:ByteArray)(h:0<s.size):s.toList.isEmpty=false:=by
 cases he:s.toList.isEmpty with
 | false=>rfl
 | true =>
  rw[isEmpty_iff,toList_eq]at he;have h4:s.data.toList.length=0:=by rw[he];rfl
  rw[length_toList]at h4;have h3:s.data.size=s.size:=rfl;omega
theorem aC(s:ByteArray)(h:s.size=0):s.toList.isEmpty=true:=by rw[toList_eq,isEmpty_iff];exact List.length_eq_zero_iff.1 (by simpa using h)
theorem take_one(L:List Int)(k:Nat)(h:k<L.length):L.take (k+1)=L.take k++[L[k]?.getD 0]:=by rw[List.take_succ_eq_append_getElem h,getElem?_eq_getElem h];rfl
end F
end Go.Proofs.YtmkompnhefhngaaGreatDoor
namespace Go.Proofs
open Go.Shelf Go.RowKit
shelf_lay LaysPu.n14 Mp 14 at Tryz as Tryz.laysPu
end Go.Proofs
namespace Go.Proofs.YtmkompnhefhngaaGreatDoor
open Tryz Go.RowKit
namespace X
open F (hx vl ke bn aa bJ cM hid ay)
theorem sX:∀ c:Fin 256,(65<=c.val/\c.val<=70->c.val ||| 32=c.val+32)/\(97<=c.val/\c.val<=102->c.val ||| 32=c.val)/\(97<=c.val ||| 32/\c.val ||| 32<=102->(97<=c.val/\c.val<=102)\/(65<=c.val/\c.val<=70))/\c.val ||| 32<=255:=by decide +kernel
theorem BU(c:Int)(h0:0<=c)(h1:c<=255):∃ d:Int,bits .or .u8 c 32=d/\0<=d/\d<=255/\(65<=c/\c<=70->d=c+32)/\(97<=c/\c<=102->d=c)/\(97<=d/\d<=102->(97<=c/\c<=102)\/(65<=c/\c<=70)):=by
 obtain⟨n,rfl⟩:∃ n:Nat,c=(n:Int):=⟨c.toNat,by omega⟩;have h:=sX ⟨n,by omega⟩;simp only at h;refine⟨((n ||| 32:Nat):Int),u8_or_nat n 32 (by omega) (by omega),by omega,by omega,fun q=>?_,fun q=>?_,fun q=>?_⟩
 ·have:=h.1 (by omega);omega
 ·have:=h.2.1 (by omega);omega
 ·have:=h.2.2.1 (by omega);omega
theorem sY(c d:Int)(h:bits .or .u8 c 32=d)(w:World):Calls prog 124 #[.int .u8 c] w fun e w'=>e=.returned (.int .u8 d)/\w'=w:=by subst h;go_enter func124,ntmps124;go_wp2;go_ret;exact⟨rfl,rfl⟩
def uT(l:List Int):Value:=if l.all hxd=true then .tuple #[.int .u64 (vl 16 l),.nilIface] else .tuple #[.int .u64 0,.iface 148 (.int .i64 2)]
def xI(k a:Nat):Prop:=(k=0/\a<=0)\/(k=1/\a<=15)\/(k=2/\a<=255)\/(k=3/\a<=4095)\/(k=4/\a<=65535)
theorem AY{k a d:Nat}(h:xI k a)(hk:k<4)(hd:d<=15):xI (k+1) (a * 16+d)/\a<=4095:=by unfold xI at *;omega
theorem lD(l:List Int)(k:Nat)(h:k<l.length):l.take (k+1)=l.take k++[l[k]?.getD 0]:=by rw[List.take_add_one,getElem?_eq_getElem h];rfl
def lx(l:List Int)(k acc:Nat):Prop:=(l.take k).all hxd=true/\vl 16 (l.take k)=acc
theorem lx.step{l:List Int}{k acc:Nat}{c:Int}(h:lx l k acc)(hk:k<l.length)(hc:l[k]?.getD 0=c)(hx0:0<=hx c):lx l (k+1) (acc * 16+(hx c).toNat):=by unfold lx at *;rw[lD l k hk,hc,ke,all_append,h.1,h.2];refine⟨?_,rfl⟩;simp[hxd,hx0]
theorem lx.bad{l:List Int}{k acc:Nat}{c:Int}(h:lx l k acc)(hk:k<l.length)(hc:l[k]?.getD 0=c)(hx0:¬ 0<=hx c):uT l=.tuple #[.int .u64 0,.iface 148 (.int .i64 2)]:=by
 unfold uT;rw[if_neg];intro ha;rw[List.all_eq_true]at ha;have hm:c∈l:=by rw[getElem?_eq_getElem hk]at hc;exact hc ▸ getElem_mem hk
 have:=ha c hm;unfold hxd at this;exact hx0 (of_decide_eq_true this)
theorem lx.all{l:List Int}{acc:Nat}(h:lx l l.length acc):uT l=.tuple #[.int .u64 acc,.nilIface]:=by unfold lx at h;rw[List.take_length]at h;unfold uT;rw[if_pos h.1,h.2]
theorem Ie{c:Int}(h:48<=c/\c<=57):hx c=c - 48:=by unfold hx;rw[if_pos h]
theorem Ic{c:Int}(h:97<=c/\c<=102):hx c=c - 87:=by unfold hx;rw[if_neg (by omega),if_pos h]
theorem yy{c:Int}(h:65<=c/\c<=70):hx c=c - 55:=by unfold hx;rw[if_neg (by omega),if_neg (by omega),if_pos h]
theorem Mu{c:Int}(h1:¬ (48<=c/\c<=57))(h2:¬ (97<=c/\c<=102))(h3:¬ (65<=c/\c<=70)):¬ 0<=hx c:=by unfold hx;rw[if_neg h1,if_neg h2,if_neg h3];decide
theorem ra(t:ByteArray)(hne:t.size≠0)(h4:t.size<=4)(w:World):
  Calls prog 67 #[.string t,.int .i64 16,.int .i64 16] w fun e w'=>e=.returned (uT (bn t))/\Below w.heap.size w w':=by
 have hemp:=ay t (by omega);have hcv:=Lib.run_convert_string_bytes (P:=prog) w 9 36 5 t (u:=.string) underlying9 underlying36 underlying5;have hB:∀ j,j<t.size->(Lib.bytesWorld w 5 t).cell? ⟨w.heap.size,j,none⟩=some (.int .u8 ((bn t)[j]?.getD 0)):=fun j hj=>by rw[Lib.bytesWorld_cell w 5 t j hj,bJ t j hj];congr 2;have h5:j<t.data.size:=hj;simp only[List.getD,Array.getElem?_toList,Array.getElem?_eq_getElem h5,getD_some];rfl
 have hBel:Below w.heap.size w (Lib.bytesWorld w 5 t):=⟨rfl,rfl,rfl,by rw[Lib.bytesWorld_size];omega,fun k hk=>Lib.bytesWorld_at_old w 5 t k hk⟩;obtain⟨W1,hW1⟩:∃ W1,W1=Lib.bytesWorld w 5 t:=⟨_,rfl⟩;rw[<-hW1]at hcv hB hBel;clear hW1;have hmv:IntKind.u64.wrap (IntKind.u64.wrap 65536 - 1)=65535:=by rw[wrap_u64,wrap_u64];decide
 have hbl:=aa t;have HBL:=hid hBel;have HLN:=hid hbl;clear hBel hbl;go_enter func67,ntmps67;go_wp2
 go_loop [12,13,101] (fun vu vn vi=>∃(k acc:Nat) (a:Int),vu=.bool false/\vn=.int .u64 a/\vi=.int .i64 k/\k<=t.size/\Hid (a=(acc:Int)/\xI k acc/\lx (bn t) k acc))
  (fun _ _ vi=>t.size - (intOf vi).toNat)
 case atStart=>exact⟨0,0,0,rfl,rfl,rfl,by omega,rfl,.inl ⟨rfl,by omega⟩,by unfold lx;exact⟨rfl,rfl⟩⟩
 case round =>
  obtain⟨k,acc,a,rfl,rfl,rfl,hk,hh⟩:=hrel;obtain⟨ha,hsz,hdig⟩:=hh.out;clear hh;by_cases hkn:k<t.size
  ·have hc:=hB k hkn;have hcb:=cM hkn;have hkl:k<(bn t).length:=by rw[HLN.out];exact hkn
   obtain⟨c,hcc⟩:=Ex' ((bn t)[k]?.getD 0);rw[hcc]at hc hcb;obtain⟨c0,c1⟩:=hcb;have hst:=fun(d:Nat) (hd:d<=15)=>AY (d:=d) hsz (by omega) hd;have a1:a<=4095:=by have:=(hst 0 (by omega)).2;omega
   have a0:0<=a:=by omega
   by_cases hd:48<=c/\c<=57
   ·have hxc:=Ie hd;have hN:=hdig.step hkl hcc (by omega);have HN:Hid (a * 16+(c - 48)=((acc * 16+(hx c).toNat:Nat):Int)/\xI (k+1) (acc * 16+(hx c).toNat)/\lx (bn t) (k+1) (acc * 16+(hx c).toNat)):=hid ⟨by omega,(hst _ (by omega)).1,hN⟩;obtain⟨d0,d1⟩:=hd;have iov:a * 16+(c - 48)<=65535:=by omega
    clear hN hxc hst hdig hsz ha hcc hkl hB;go_wp2;refine⟨⟨k+1,_,a * 16+(c - 48),rfl,(by first | rfl | (congr 1;omega)),(by first | rfl | (congr 1;omega)),by omega,HN⟩,by simp[intOf];omega⟩
   ·obtain⟨d,hor,e0,e1,l1,l2,l3⟩:=BU c c0 c1;by_cases hl:97<=d/\d<=102
    ·have hxc:hx c=d - 87:=by
      rcases l3 hl with q | q
      ·rw[Ic q,l2 q]
      ·rw[yy q,l1 q];omega
     have hN:=hdig.step hkl hcc (by omega);have HN:Hid (a * 16+(d - 97+10)=((acc * 16+(hx c).toNat:Nat):Int)/\xI (k+1) (acc * 16+(hx c).toNat)/\lx (bn t) (k+1) (acc * 16+(hx c).toNat)):=hid ⟨by omega,(hst _ (by omega)).1,hN⟩;obtain⟨d0,d1⟩:=hl;have iov:a * 16+(d - 97+10)<=65535:=by omega
     have hnu:c≠95:=by intro e;rcases l3 ⟨d0,d1⟩ with q | q <;> omega
     have hnd:c<48\/57<c:=by omega
     have HOR:=hid hor;clear hN hxc hst hdig hsz ha hcc hkl hB l1 l2 l3 hor hd;rcases hnd with hnd | hnd
     all_goals
      go_wp2_with(go_at_call 124;refine(sY c d HOR.out _).mono ?_;rintro e w' ⟨rfl,rfl⟩);refine⟨⟨k+1,_,a * 16+(d - 97+10),rfl,(by first | rfl | (congr 1;omega)),(by first | rfl | (congr 1;omega)),by omega,HN⟩,by simp[intOf];omega⟩
    ·have hbad:=hdig.bad hkl hcc (Mu hd (fun q=>hl (by rw[l2 q];exact q)) (fun q=>hl (by rw[l1 q];omega)));have HBAD:=hid hbad;have HOR:=hid hor;have hnd:c<48\/57<c:=by omega
     have hnl:d<97\/102<d:=by omega
     clear hbad hst hdig hsz ha hcc hkl hB l1 l2 l3 hor hd hl;by_cases h95:c=95
     ·subst h95;rcases hnl with hnl | hnl
      all_goals
       go_wp2_with(go_at_call 124;refine(sY 95 d HOR.out _).mono ?_;rintro e w' ⟨rfl,rfl⟩);all_goals go_ret2
       all_goals exact⟨by rw[HBAD.out] <;> rfl,HBL.out⟩
     ·rcases hnd with hnd | hnd <;> rcases hnl with hnl | hnl
      all_goals
       go_wp2_with(go_at_call 124;refine(sY c d HOR.out _).mono ?_;rintro e w' ⟨rfl,rfl⟩);all_goals go_ret2
       all_goals exact⟨by rw[HBAD.out] <;> rfl,HBL.out⟩
  ·have hkk:k=t.size:=by omega
   subst hkk;have hfin:=lx.all (l:=bn t) (acc:=acc) (by rw[HLN.out];exact hdig);have HFIN:=hid hfin;subst ha;have a1:acc<=65535:=by unfold xI at hsz;omega
   clear hfin hdig hsz hB;go_wp2;go_ret2;exact⟨by rw[HFIN.out] <;> rfl,HBL.out⟩
theorem mq(w:World):Calls prog 67 #[.string ⟨#[]⟩,.int .i64 16,.int .i64 16] w fun e w'=>e=.returned (.tuple #[.int .u64 0,.iface 148 (.int .i64 2)])/\w'=w:=by go_enter func67,ntmps67;go_wp2;go_ret2;exact⟨rfl,rfl⟩
open F (hx iG vl bn aa bC)
def QM(ev:Value):Prop:=ev=.nilIface\/∃ te pe,ev=.iface te pe
def Er(w:World):Prop:=(∃ ev,w.cell? ⟨1,0,none⟩=some ev/\QM ev)/\(∃ ev,w.cell? ⟨2,0,none⟩=some ev/\QM ev)
theorem Er.below{w w':World}(h:Er w)(hb:Below w.heap.size w w'):Er w':=by obtain⟨⟨a,h1,h2⟩,⟨b,h3,h4⟩⟩:=h;exact⟨⟨a,(hb.cell (p:=⟨1,0,none⟩) (Lib.lt_of_cell h1)).trans h1,h2⟩,⟨b,(hb.cell (p:=⟨2,0,none⟩) (Lib.lt_of_cell h3)).trans h3,h4⟩⟩
theorem lC(t:ByteArray)(hs:t.size<=1000000000)(b c:Int)(w:World)(hE:Er w):Calls prog 68 #[.string ⟨#[80,97,114,115,101,85,105,110,116]⟩,.string t,.int .i64 b,.int .i64 c,.iface 148 (.int .i64 2)] w fun e w'=>(∃ T p,e=.returned (.iface T p))/\Below w.heap.size w w':=by
 obtain⟨⟨ev,h1,h2⟩,_⟩:=hE;have heq:∀ W,(binOp .eql 75 (.iface 148 (.int .i64 2)) (.iface 148 (.int .i64 2))).run prog W=.ok (.bool true) W:=fun W=>Lib.run_eql_iface_int W 2 2 underlying75 (by kernel_rfl) underlying148;have HSX:Hid (Calls prog 126 #[.string ⟨#[80,97,114,115,101,85,105,110,116]⟩,.string t] w fun e w'=>(∃ N,e=.returned (.pointer (some ⟨N,0,none⟩)))/\Below w.heap.size w w'):=by have hq:=AnyPu.strconv_syntaxError { Tryz.laysPu with } ⟨#[80,97,114,115,101,85,105,110,116]⟩ t ev w (by omega) h1 h2;refine Calls.mono (show Calls prog 126 #[.string ⟨#[80,97,114,115,101,85,105,110,116]⟩,.string t] w _ from hq) ?_;rintro e w' ⟨N,rfl,_,_,h⟩;exact⟨⟨N,rfl⟩,h⟩
 clear h1 h2;go_enter func68,ntmps68;go_wp2_with fail;refine HSX.out.mono ?_;rintro e w2 ⟨⟨N,rfl⟩,h3⟩;go_wp2;go_ret;exact⟨⟨_,_,rfl⟩,h3⟩
theorem rB:∀(l:List Int) (x:Nat),l.foldl (fun n c=>n * 16+(hx c).toNat) x<(x+1) * 16 ^ l.length
 | [],x=>by simp
 | c::l,x=>by
  have ih:=rB l (x * 16+(hx c).toNat);have hc:=iG c;have h1:(x * 16+(hx c).toNat+1) * 16 ^ l.length<=((x+1) * 16) * 16 ^ l.length:=Nat.mul_le_mul_right _ (by omega);have e:(x+1) * 16 ^ (c::l).length=((x+1) * 16) * 16 ^ l.length:=by rw[length_cons,Nat.pow_succ,Nat.mul_assoc,Nat.mul_comm 16]
  rw[foldl_cons,e];omega
theorem JV(l:List Int):vl 16 l<16 ^ l.length:=by have:=rB l 0;unfold vl;omega
theorem NP{l:List Int}{v:Nat}(h:pc l=some v):uT l=.tuple #[.int .u64 v,.nilIface]/\l≠[]/\l.length<=4/\v<65536:=by
 unfold pc at h;split at h
 ·rename_i hh;cases h;refine⟨by unfold uT;rw[if_pos hh.2.2],fun e=>by rw[e]at hh;simp at hh,hh.2.1,?_⟩;have hb:=JV;have h2:=hb l;have h3:(16:Nat) ^ l.length<=16 ^ 4:=Nat.pow_le_pow_right (by decide) hh.2.1;have h4:(16:Nat) ^ 4=65536:=rfl;omega
 ·cases h
theorem Rp{l:List Int}(h:pc l=none):l=[]\/4<l.length\/uT l=.tuple #[.int .u64 0,.iface 148 (.int .i64 2)]:=by
 unfold pc at h;split at h
 ·cases h
 ·rename_i hh;by_cases h1:l=[]
  ·exact .inl h1
  ·by_cases h2:4<l.length
   ·exact .inr (.inl h2)
   ·right;right;unfold uT;rw[if_neg];intro h3;have:=List.length_pos_iff.2 h1;exact hh ⟨by omega,by omega,h3⟩
theorem KW(t:ByteArray)(v:Nat)(h:pc (bn t)=some v)(w:World):Calls prog 35 #[.string t,.int .i64 16,.int .i64 16] w fun e W'=>e=.returned (.tuple #[.int .u64 v,.nilIface])/\Below w.heap.size w W':=by obtain⟨h1,h2,h3,_⟩:=NP h;have hl:=aa t;have hne:t.size≠0:=fun e=>h2 (List.eq_nil_of_length_eq_zero (by omega));have hI:=ra t hne (by omega) w;rw[h1]at hI;clear h h1 h2 h3 hl;go_enter func35,ntmps35;go_wp2_with fail;refine hI.mono ?_;rintro e w1 ⟨rfl,hb⟩;go_wp2;go_ret2;exact⟨rfl,hb⟩
theorem mQ(t:ByteArray)(h:pc (bn t)=none)(h4:t.size<=4)(w:World)(hE:Er w):Calls prog 35 #[.string t,.int .i64 16,.int .i64 16] w fun e W'=>(∃ T p,e=.returned (.tuple #[.int .u64 0,.iface T p]))/\Below w.heap.size w W':=by
 have hl:=aa t
 have hI:Calls prog 67 #[.string t,.int .i64 16,.int .i64 16] w fun e w'=>e=.returned (.tuple #[.int .u64 0,.iface 148 (.int .i64 2)])/\Below w.heap.size w w':=by
  rcases Rp h with h1 | h1 | h1
  ·have:t=⟨#[]⟩:=bC (by rw[h1];rfl);subst this;exact(mq w).mono (by rintro e w' ⟨rfl,rfl⟩;exact⟨rfl,Below.refl _ _⟩)
  ·omega
  ·by_cases h0:t.size=0
   ·have:t=⟨#[]⟩:=bC (by rw[List.eq_nil_of_length_eq_zero (by omega:(bn t).length=0)];rfl);subst this;exact(mq w).mono (by rintro e w' ⟨rfl,rfl⟩;exact⟨rfl,Below.refl _ _⟩)
   ·have:=ra t h0 h4 w
    rwa [h1]at this
 clear h hl;go_enter func35,ntmps35;go_wp2_with fail;refine hI.mono ?_;rintro e w1 ⟨rfl,hb⟩;go_wp2_with fail;refine(lC t (by omega) 16 16 w1 (hE.below hb)).mono ?_;rintro e w2 ⟨⟨T,p,rfl⟩,hb2⟩;have hb3:Below w.heap.size w w2:=hb.trans (hb2.mono hb.size);go_wp2;go_ret2;exact⟨⟨T,p,rfl⟩,hb3⟩
theorem Ga(t:ByteArray)(v:Nat)(h:pc (bn t)=some v)(w:World):Calls prog 166 #[.string t] w fun e W'=>e=.returned (.tuple #[.int .u16 v,.bool true])/\Below w.heap.size w W':=by
 obtain⟨_,_,h3,hv⟩:=NP h;have hl:=aa t;have h4:t.size<=4:=by omega
 have hwr:IntKind.u16.wrap (v:Int)=(v:Int):=by simp[IntKind.wrap,IntKind.bits,IntKind.signed];omega
 have hI:=KW t v h w;clear h h3 hl;go_enter func166,ntmps166;go_wp2_with fail;refine hI.mono ?_;rintro e w1 ⟨rfl,hb⟩;go_wp2_with fail
 go_quiet (fail)
 go_wp2;go_ret2;exact⟨rfl,⟨hb.os,hb.tape,hb.output,hb.size,hb.block⟩⟩
theorem FZ(t:ByteArray)(h:pc (bn t)=none)(hs:t.size<=1000000000)(w:World)(hE:Er w):Calls prog 166 #[.string t] w fun e W'=>e=.returned (.tuple #[.int .u16 0,.bool false])/\Below w.heap.size w W':=by
 by_cases h4:t.size<=4
 ·have hI:=mQ t h h4 w hE;clear h;go_enter func166,ntmps166;go_wp2_with fail;refine hI.mono ?_;rintro e w1 ⟨⟨T,p,rfl⟩,hb⟩;go_wp2_with fail
  go_quiet (fail)
  go_wp2;go_ret2;exact⟨rfl,⟨hb.os,hb.tape,hb.output,hb.size,hb.block⟩⟩
 ·clear h;go_enter func166,ntmps166;go_wp2;go_ret2;exact⟨rfl,Below.refl _ _⟩
end X
end Go.Proofs.YtmkompnhefhngaaGreatDoor
namespace Go.Proofs
open Go.Shelf Go.RowKit
shelf_lay Lays.n147 Nm 147 at Tryz as Tryz.laysSplX
end Go.Proofs
namespace Go.Proofs.YtmkompnhefhngaaGreatDoor
open Tryz Go.RowKit
namespace X
open F (hx vl bn aa bJ hid)
def nn(l:List UInt8):List Int:=l.map fun c=>(c.toNat:Int)
theorem tb{c:Int}(h:48<=c/\c<=57):hx c=c - 48:=by unfold hx;rw[if_pos h]
theorem Rr:∀(l:List UInt8) (acc:Nat),acc<=255->((nn l).all ten=true/\(nn l).foldl (fun n c=>n * 10+(hx c).toNat) acc<=255/\Lib.parseUintM 255 acc l=.ok ((nn l).foldl (fun n c=>n * 10+(hx c).toNat) acc))\/(¬ ((nn l).all ten=true/\(nn l).foldl (fun n c=>n * 10+(hx c).toNat) acc<=255)/\∀ u,Lib.parseUintM 255 acc l≠.ok u)
 | [],acc,h=>.inl ⟨rfl,h,rfl⟩
 | c::l,acc,h=>by
  have e0:nn (c::l)=(c.toNat:Int)::nn l:=rfl;rw[e0,all_cons,foldl_cons];by_cases hd:48<=c.toNat/\c.toNat<=57
  ·have hx1:(hx (c.toNat:Int)).toNat=c.toNat - 48:=by rw[tb (by omega)];omega
   have ht:ten (c.toNat:Int)=true:=by unfold ten;exact decide_eq_true (by omega)
   rw[hx1,ht,Bool.true_and];have hcut:¬ 1844674407370955162<=acc:=by omega
   by_cases hov:255<acc * 10+(c.toNat - 48)
   ·right;have hp:Lib.parseUintM 255 acc (c::l)=.range:=by rw[Lib.parseUintM,if_pos hd,if_neg hcut,if_pos hov]
    refine⟨fun hh=>?_,fun u e=>by rw[hp]at e;cases e⟩
    have mono:∀(m:List Int) (x:Nat),255<x->255<m.foldl (fun n c=>n * 10+(hx c).toNat) x:=by
     intro m
     induction m with
     | nil=>intro x h;exact h
     | cons d m ih=>intro x h;rw[foldl_cons];exact ih _ (by omega)
    have:=mono (nn l) _ hov;omega
   ·have hp:Lib.parseUintM 255 acc (c::l)=Lib.parseUintM 255 (acc * 10+(c.toNat - 48)) l:=by rw[Lib.parseUintM,if_pos hd,if_neg hcut,if_neg hov]
    rw[hp];exact Rr l _ (by omega)
  ·right;have ht:ten (c.toNat:Int)=false:=by unfold ten;exact decide_eq_false (by omega)
   rw[ht];exact⟨by simp,fun u e=>by rw[Lib.parseUintM,if_neg hd]at e;cases e⟩
theorem Mc{l:List Int}(h:l.all ten=true)(hv:vl 10 l<=255)(h0:¬ (1<l.length/\l[0]?.getD 0=48)):l.length<=3:=by
 have grow:∀(m:List Int) (x:Nat),x * 10 ^ m.length<=m.foldl (fun n c=>n * 10+(hx c).toNat) x:=by
  intro m
  induction m with
  | nil=>intro x;simp
  | cons d m ih =>
   intro x;rw[foldl_cons,length_cons];refine le_trans ?_ (ih _);rw[Nat.pow_succ,Nat.mul_comm (10 ^ m.length),<-Nat.mul_assoc];exact Nat.mul_le_mul_right _ (by omega)
 cases l with
 | nil=>simp
 | cons c m =>
  by_cases hl:(c::m).length<=3
  ·exact hl
  ·exfalso;rw[all_cons,Bool.and_eq_true]at h;have hc:48<=c/\c<=57:=of_decide_eq_true h.1;have h48:c≠48:=fun e=>h0 ⟨by omega,by simpa using e⟩;unfold vl at hv;rw[foldl_cons,tb hc]at hv;have:=grow m (0 * 10+(c - 48).toNat);have hp:10 ^ 3<=10 ^ m.length:=Nat.pow_le_pow_right (by decide) (by simp at hl;omega);have h1:1 * 10 ^ m.length<=(0 * 10+(c - 48).toNat) * 10 ^ m.length:=Nat.mul_le_mul_right _ (by omega);omega
theorem IK(t:ByteArray)(h0:¬ (1<(bn t).length/\(bn t)[0]?.getD 0=48)):(∃ v,dn (bn t)=some v/\v<=255/\Lib.parseUintB 8 t.data.toList=.ok v)\/(dn (bn t)=none/\∀ u,Lib.parseUintB 8 t.data.toList≠.ok u):=by
 have hl:=aa t;by_cases he:t.data.toList=[]
 ·right;have hb:bn t=[]:=by unfold bn;rw[he];rfl
  refine⟨by rw[hb];rfl,fun u e=>by unfold Lib.parseUintB at e;rw[if_pos he]at e;cases e⟩
 ·have hne:(bn t).length≠0:=fun e=>he (by
    have:=List.eq_nil_of_length_eq_zero e
    unfold bn at this
    exact List.map_eq_nil_iff.1 this)
  have hB:Lib.parseUintB 8 t.data.toList=Lib.parseUintM 255 0 t.data.toList:=by unfold Lib.parseUintB;rw[if_neg he]
  rw[hB];rcases Rr t.data.toList 0 (by omega) with⟨a,b,c⟩ | ⟨a,b⟩
  ·left;have b':vl 10 (bn t)<=255:=b;refine⟨vl 10 (bn t),?_,b',c⟩;unfold dn;rw[if_pos ⟨by omega,Mc a b' h0,h0,a,b'⟩]
  ·right;refine⟨?_,b⟩;unfold dn;rw[if_neg (fun hh=>a ⟨hh.2.2.2.1,hh.2.2.2.2⟩)]
theorem KX(t:ByteArray)(hs:t.size<=1000000000)(v:Nat)(h:Lib.parseUintB 8 t.data.toList=.ok v)(w:World):Calls prog 35 #[.string t,.int .i64 10,.int .i64 8] w fun e W'=>e=.returned (.tuple #[.int .u64 v,.nilIface])/\Below w.heap.size w W':=by
 have hq:=Any.strconv_ParseUint_10_at8_ok Tryz.laysPu t (by omega) v h w;refine Calls.mono (show Calls prog 35 #[.string t,.int .i64 10,.int .i64 8] w _ from hq) ?_;rintro e W' ⟨rfl,hW⟩;refine⟨rfl,?_⟩;rcases hW with rfl | rfl
 ·exact Below.refl _ _
 ·exact⟨rfl,rfl,rfl,by rw[Lib.bytesWorld_size];omega,fun k hk=>Lib.bytesWorld_at_old w _ t k hk⟩
theorem KY(t:ByteArray)(hs:t.size<=1000000000)(h:∀ u,Lib.parseUintB 8 t.data.toList≠.ok u)(w:World)(hE:Er w):Calls prog 35 #[.string t,.int .i64 10,.int .i64 8] w fun e W'=>(∃(x:Nat) (T:TypeId) (p:Value),x<=255/\e=.returned (.tuple #[.int .u64 x,.iface T p]))/\Below w.heap.size w W':=by
 obtain⟨⟨ev,h1,h2⟩,⟨ev',h3,h4⟩⟩:=hE;cases hx:Lib.parseUintB 8 t.data.toList
 ·exact absurd hx (h _)
 ·have hI:Calls prog 67 #[.string t,.int .i64 10,.int .i64 8] w fun e w'=>e=.returned (.tuple #[.int .u64 0,.iface 148 (.int .i64 2)])/\Below w.heap.size w w':=by
   have hq:=AnyPu.internal_strconv_ParseUint_10_at8 { Tryz.laysPu with } t (by omega) w;rw[hx]at hq;refine Calls.mono (show Calls prog 67 #[.string t,.int .i64 10,.int .i64 8] w _ from hq) ?_;rintro e W' ⟨rfl,hW⟩;refine⟨rfl,?_⟩;rcases hW with rfl | rfl
   ·exact Below.refl _ _
   ·exact⟨rfl,rfl,rfl,by rw[Lib.bytesWorld_size];omega,fun k hk=>Lib.bytesWorld_at_old w _ t k hk⟩
  have HER:Hid (Er w):=⟨⟨ev,h1,h2⟩,⟨ev',h3,h4⟩⟩;clear hx h h1 h2 h3 h4;go_enter func35,ntmps35;go_wp2_with fail;refine hI.mono ?_;rintro e w1 ⟨rfl,hb⟩;go_wp2_with fail;refine(lC t hs 10 8 w1 (HER.out.below hb)).mono ?_;rintro e w2 ⟨⟨T,p,rfl⟩,hb2⟩;have hb3:Below w.heap.size w w2:=hb.trans (hb2.mono hb.size);go_wp2;go_ret2;exact⟨⟨0,T,p,by omega,rfl⟩,hb3⟩
 ·have hq:=Any.strconv_ParseUint_10_at8_range Tryz.laysPu t (by omega) hx ev' w h3 h4;refine Calls.mono (show Calls prog 35 #[.string t,.int .i64 10,.int .i64 8] w _ from hq) ?_;rintro e W' ⟨N,rfl,_,_,hb⟩;exact⟨⟨255,_,_,by omega,rfl⟩,hb⟩
def ka(o:Option Nat)(e:Ending):Prop:=(∃ v:Nat,o=some v/\v<=255/\e=.returned (.tuple #[.int .u32 v,.bool true]))\/(o=none/\∃ x:Nat,e=.returned (.tuple #[.int .u32 x,.bool false]))
theorem vC(t:ByteArray)(hs:t.size<=1000000000)(h0:¬ (1<(bn t).length/\(bn t)[0]?.getD 0=48))(w:World)(hE:Er w):
  Calls prog 201 #[.string t] w fun e W'=>ka (dn (bn t)) e/\Below w.heap.size w W':=by
 have hok:∀ v:Nat,v<=255->dn (bn t)=some v->ka (dn (bn t)) (.returned (.tuple #[.int .u32 v,.bool true])):=fun v h1 h2=>.inl ⟨v,h2,h1,rfl⟩;have hno:dn (bn t)=none->∀ x:Nat,ka (dn (bn t)) (.returned (.tuple #[.int .u32 x,.bool false])):=fun h x=>.inr ⟨h,x,rfl⟩;obtain⟨o,ho⟩:=Ex' (dn (bn t));rw[ho]at hok hno ⊢;have hbl:=aa t
 have hcase:t.size<=1\/(1<t.size/\(bn t)[0]?.getD 0≠48):=by
  by_cases h:t.size<=1
  ·exact .inl h
  ·exact .inr ⟨by omega,fun e=>h0 ⟨by omega,e⟩⟩
 rcases IK t h0 with⟨v,hd,hv,hp⟩ | ⟨hd,hp⟩ <;> rw[ho]at hd <;> clear ho
 ·have HPU:=hid (KX t hs v hp w);have HOK:=hid (hok v hv hd);have hwr:IntKind.u32.wrap (v:Int)=(v:Int):=by simp[IntKind.wrap,IntKind.bits,IntKind.signed];omega
  clear hok hno hp hd h0 hbl;rcases hcase with hc | ⟨hc,hc2⟩
  ·go_enter func201,ntmps201;go_wp2_with fail;refine HPU.out.mono ?_;rintro e w1 ⟨rfl,hb⟩;go_wp2_with fail
   go_quiet (fail)
   go_wp2;go_ret2;exact⟨HOK.out,hb.os,hb.tape,hb.output,hb.size,hb.block⟩
  ·rw[bJ t 0 (by omega)]at hc2;have hq:(((t[0].toNat:Nat):Int)==48)=false:=by simpa using hc2
   clear hc2;go_enter func201,ntmps201;go_wp2_with fail;refine HPU.out.mono ?_;rintro e w1 ⟨rfl,hb⟩;go_wp2_with fail
   go_quiet (fail)
   go_wp2;go_ret2;exact⟨HOK.out,hb.os,hb.tape,hb.output,hb.size,hb.block⟩
 ·have HPU:=hid (KY t hs hp w hE);have HNO:=hid (hno hd);clear hok hno hp hd h0 hbl;rcases hcase with hc | ⟨hc,hc2⟩
  ·go_enter func201,ntmps201;go_wp2_with fail;refine HPU.out.mono ?_;rintro e w1 ⟨⟨x,T,p,hx,rfl⟩,hb⟩;have hwr:IntKind.u32.wrap (x:Int)=(x:Int):=by simp[IntKind.wrap,IntKind.bits,IntKind.signed];omega
   go_wp2_with fail
   go_quiet (fail)
   go_wp2;go_ret2;exact⟨HNO.out x,hb.os,hb.tape,hb.output,hb.size,hb.block⟩
  ·rw[bJ t 0 (by omega)]at hc2;have hq:(((t[0].toNat:Nat):Int)==48)=false:=by simpa using hc2
   clear hc2;go_enter func201,ntmps201;go_wp2_with fail;refine HPU.out.mono ?_;rintro e w1 ⟨⟨x,T,p,hx,rfl⟩,hb⟩;have hwr:IntKind.u32.wrap (x:Int)=(x:Int):=by simp[IntKind.wrap,IntKind.bits,IntKind.signed];omega
   go_wp2_with fail
   go_quiet (fail)
   go_wp2;go_ret2;exact⟨HNO.out x,hb.os,hb.tape,hb.output,hb.size,hb.block⟩
theorem cC(t:ByteArray)(hs:t.size<=1000000000)(w:World)(hE:Er w):
  Calls prog 201 #[.string t] w fun e W'=>ka (dn (bn t)) e/\Below w.heap.size w W':=by
 by_cases h0:1<(bn t).length/\(bn t)[0]?.getD 0=48
 ·have hd:dn (bn t)=none:=by unfold dn;rw[if_neg (fun hh=>hh.2.2.1 h0)]
  have hbl:=aa t;obtain⟨h1,h2⟩:=h0;rw[hbl]at h1;have hpos:0<t.size:=by omega
  rw[bJ t 0 hpos]at h2;have hq:(((t[0].toNat:Nat):Int)==48)=true:=by simpa using h2
  have HR:=hid (show ka (dn (bn t)) (.returned (.tuple #[.int .u32 (0:Nat),.bool false])) from .inr ⟨hd,0,rfl⟩);clear h2 hd hbl;obtain⟨o,ho⟩:=Ex' (dn (bn t));rw[ho]at HR ⊢;clear ho;go_enter func201,ntmps201;go_wp2;go_ret2;exact⟨HR.out,Below.refl _ _⟩
 ·exact vC t hs h0 w hE
open F (hx bn aa hid)
theorem du{b:UInt8}{l:List UInt8}:(b.toNat:Int)∈nn l↔b∈l:=by
 unfold nn;rw[List.mem_map];constructor
 ·rintro⟨c,hc,e⟩;have:c=b:=UInt8.toNat_inj.1 (by omega);rw[<-this];exact hc
 ·intro h;exact⟨b,h,rfl⟩
theorem lH(b:Int):∀ l:List Int,spB b l≠[]
 | []=>by simp[spB]
 | c::l=>by rw[spB];split <;> simp
theorem lG(b:Int):∀(A B:List Int),spB b (A++b::B)=spB b A++spB b B
 | [],B=>by
  have h:spB b (b::B)=[]::spB b B:=if_pos rfl;exact h
 | c::A,B=>by
  have ih:=lG b A B;show spB b (c::(A++b::B))=_;rw[spB,spB];by_cases h:c=b
  ·rw[if_pos h,if_pos h,ih];rfl
  ·rw[if_neg h,if_neg h,ih];cases hs:spB b A with
   | nil=>exact absurd hs (lH b A)
   | cons x y=>rfl
theorem xP(b:Int)(A B:List Int):(spB b (A++b::B)).length=(spB b A).length+(spB b B).length:=by rw[lG,length_append]
theorem zJ(b:Int):∀ l:List Int,(spB b l).length<=l.length+1
 | []=>by simp[spB]
 | c::l=>by
  have ih:=zJ b l;have hp:=List.length_pos_iff.2 (lH b l);rw[spB];split
  ·rw[length_cons,length_cons];omega
  ·rw[length_cons,List.length_tail,length_cons];omega
theorem oa(b:Int):∀(l p:List Int),p∈spB b l->p.length<=l.length/\¬ b∈p/\∀ c∈p,c∈l
 | [],p,h=>by simp[spB]at h;subst h;simp
 | c::l,p,h=>by
  rw[spB]at h;split at h
  ·rcases List.mem_cons.1 h with rfl | h
   ·simp
   ·obtain⟨h1,h2,h3⟩:=oa b l p h;exact⟨by rw[length_cons];omega,h2,fun x hx=>mem_cons_of_mem _ (h3 x hx)⟩
  ·rename_i hcb;cases hs:spB b l with
   | nil=>exact absurd hs (lH b l)
   | cons x y =>
    rw[hs]at h;rcases List.mem_cons.1 h with rfl | h
    ·obtain⟨h1,h2,h3⟩:=oa b l x (by rw[hs];simp);refine⟨by simpa using h1,fun hh=>?_,fun z hz=>?_⟩
     ·rcases List.mem_cons.1 hh with e | hh
      ·exact hcb e.symm
      ·exact h2 hh
     ·rcases List.mem_cons.1 hz with e | hz
      ·rw[e];simp
      ·exact mem_cons_of_mem _ (h3 z hz)
    ·obtain⟨h1,h2,h3⟩:=oa b l p (by rw[hs];exact mem_cons_of_mem _ h);exact⟨by rw[length_cons];omega,h2,fun z hz=>mem_cons_of_mem _ (h3 z hz)⟩
theorem spK(b:UInt8):∀(k:Nat) (l:List UInt8),((spB b.toNat (nn l)).length<=k+1/\(Lib.splitK [b] 0 k l).map nn=spB b.toNat (nn l))\/(k+1<(spB b.toNat (nn l)).length/\(Lib.splitK [b] 0 k l).length=k+1)
 | 0,l=>by
  by_cases h:b∈l
  ·right;obtain⟨A,B,e⟩:=List.append_of_mem (du.2 h);have h1:=List.length_pos_iff.2 (lH b.toNat A);have h2:=List.length_pos_iff.2 (lH b.toNat B);rw[e,xP];exact⟨by omega,rfl⟩
  ·left;have hs:=dR b.toNat (nn l) (fun hh=>h (du.1 hh));rw[hs];exact⟨by simp,rfl⟩
 | k+1,l=>by
  have hge:=Lib.indexByte_ge l b;have hi1:=Lib.index_one l b;by_cases hm:Lib.indexByte l b=-1
  ·left;have hn:=Lib.indexByte_none hm;have h:¬ b∈l:=fun hh=>by obtain⟨j,hj,e⟩:=List.mem_iff_getElem.1 hh;exact hn j (by rw[getElem?_eq_getElem hj,e])
   have hs:=dR b.toNat (nn l) (fun hh=>h (du.1 hh));rw[hs];refine⟨by simp,?_⟩;rw[Lib.splitK,hi1,hm];rfl
  ·obtain⟨i,hi⟩:∃ i:Nat,Lib.indexByte l b=i:=⟨(Lib.indexByte l b).toNat,by omega⟩;obtain⟨h1,h2⟩:=Lib.indexByte_some hi;have hil:i<l.length:=(List.getElem?_eq_some_iff.1 h1).1
   have e:l=l.take i++b::l.drop (i+1):=by
    have h5:l.drop i=b::l.drop (i+1):=by rw[List.drop_eq_getElem_cons hil];rw[getElem?_eq_getElem hil]at h1;rw[Option.some.inj h1]
    rw[<-h5,List.take_append_drop]
   have hn:¬ b∈l.take i:=fun hh=>by obtain⟨j,hj,e⟩:=List.mem_iff_getElem.1 hh;rw[length_take]at hj;rw[List.getElem_take]at e;exact h2 j (by omega) (by rw[getElem?_eq_getElem (by omega),e])
   have es:spB b.toNat (nn l)=nn (l.take i)::spB b.toNat (nn (l.drop (i+1))):=by
    conv=>lhs;rw[e]
    rw[show nn (l.take i++b::l.drop (i+1))=nn (l.take i)++(b.toNat:Int)::nn (l.drop (i+1)) by unfold nn;rw[map_append];rfl];exact ko _ _ _ (fun hh=>hn (du.1 hh))
   have ek:Lib.splitK [b] 0 (k+1) l=l.take i::Lib.splitK [b] 0 k (l.drop (i+1)):=by rw[Lib.splitK,hi1,hi,if_neg (by simp)];simp
   rw[es,ek];rcases spK b k (l.drop (i+1)) with⟨g1,g2⟩ | ⟨g1,g2⟩
   ·left;exact⟨by rw[length_cons];omega,by rw[map_cons,g2]⟩
   ·right;exact⟨by rw[length_cons];omega,by rw[length_cons,g2]⟩
theorem iv(b:UInt8)(M:Nat)(U:ByteArray)(qs:List ByteArray)(hq:qs=Lib.splitB ⟨#[b]⟩ 0 (min (M+1) (U.size+1) - 1) U):((spB b.toNat (bn U)).length<=M/\qs.map bn=spB b.toNat (bn U))\/(M<(spB b.toNat (bn U)).length/\M<qs.length):=by
 have hd:=Lib.splitB_data ⟨#[b]⟩ 0 (min (M+1) (U.size+1) - 1) U;rw[<-hq]at hd
 have hb:qs.map bn=(Lib.splitK [b] 0 (min (M+1) (U.size+1) - 1) U.data.toList).map nn:=by
  have h2:qs.map bn=(qs.map (·.data.toList)).map nn:=by rw[map_map];rfl
  rw[h2,hd]
 have hl:qs.length=(Lib.splitK [b] 0 (min (M+1) (U.size+1) - 1) U.data.toList).length:=by
  have:=congrArg List.length hb
  rwa [length_map,length_map]at this
 have hc:=zJ b.toNat (bn U);rw[aa]at hc;rcases spK b (min (M+1) (U.size+1) - 1) U.data.toList with⟨g1,g2⟩ | ⟨g1,g2⟩
 ·have g1':(spB b.toNat (bn U)).length<=min (M+1) (U.size+1) - 1+1:=g1;have g2':qs.map bn=spB b.toNat (bn U):=hb.trans g2;by_cases h4:(spB b.toNat (bn U)).length<=M
  ·exact .inl ⟨h4,g2'⟩
  ·right;refine⟨by omega,?_⟩;have:=congrArg List.length g2';rw[length_map]at this;omega
 ·have g1':min (M+1) (U.size+1) - 1+1<(spB b.toNat (bn U)).length:=g1;right;rw[hl,g2];omega
theorem jY{done:List ByteArray}{N j:Nat}(h:j<done.length):(Lib.cellsOf done N)[j]? = some (.string (done[j]?.getD ⟨#[]⟩)):=by unfold Lib.cellsOf;rw[List.getElem?_toArray,List.getElem?_append_left (by simpa using h),getElem?_map,getElem?_eq_getElem h];rfl
theorem fu(w:World)(t:TypeId)(cs:Array Value)(j:Nat):(w.alloc (.cells cs t)).cell? ⟨w.heap.size,j,none⟩=cs[j]? := by have hb:(w.alloc (.cells cs t)).heap[w.heap.size]? = some (.cells cs t):=heap_alloc_new w _;generalize w.alloc (.cells cs t)=W at hb ⊢;simp[World.cell?,hb]
def Mx(W:World):Prop:=∃ m:Int,W.cell? ⟨0,0,none⟩=some (.int .i64 m)
theorem Mx.below{w w':World}(h:Mx w)(hb:Below w.heap.size w w'):Mx w':=by obtain⟨m,hm⟩:=h;exact⟨m,(hb.cell (p:=⟨0,0,none⟩) (Lib.lt_of_cell hm)).trans hm⟩
def QG(b:UInt8)(M:Nat)(U:ByteArray)(w:World)(e:Ending)(W':World):Prop:=(∃(g c:Nat) (qs:List ByteArray),e=.returned (.slice (some ⟨g,0,none⟩) qs.length c)/\(∀ j,j<qs.length->W'.cell? ⟨g,j,none⟩=some (.string (qs[j]?.getD ⟨#[]⟩)))/\(((spB b.toNat (bn U)).length<=M/\qs.map bn=spB b.toNat (bn U))\/(M<(spB b.toNat (bn U)).length/\M<qs.length/\qs.length<=U.size+1)))/\Below w.heap.size w W'
theorem xO(b:UInt8)(n:Nat)(U:ByteArray)(h:n<=U.size):(Lib.splitB ⟨#[b]⟩ 0 n U).length<=U.size+1:=by
 have hd:=congrArg List.length (Lib.splitB_data ⟨#[b]⟩ 0 n U);rw[length_map]at hd;have e:(⟨#[b]⟩:ByteArray).data.toList=[b]:=rfl;rw[e]at hd;rcases spK b n U.data.toList with⟨g1,g2⟩ | ⟨_,g2⟩
 ·have:=congrArg List.length g2;rw[length_map]at this;omega
 ·omega
theorem gF(b:UInt8)(M:Nat)(hM1:M<=100)(U:ByteArray)(w:World)(hU:U.size<=1000000000)(hM:Mx w):
  Calls prog 165 #[.string U,.string ⟨#[b]⟩,.int .i64 ((M+1:Nat):Int)] w fun e W'=>QG b M U w e W':=by
 obtain⟨m,hm⟩:=hM;have hf:Tryz.laysSplX_ren.f 147=165:=by kernel_rfl
 have hg:Tryz.laysSplX_ren.g 1=0:=by kernel_rfl
 have h:=Any.strings_SplitN Tryz.laysSplX (by kernel_rfl) U ⟨#[b]⟩ (M+1) m w (by omega) (by rw[hg];exact hm) (le_refl 1) (by omega) (by omega);rw[hf]at h;refine h.mono ?_;rintro e W' ⟨rfl,rfl⟩;refine⟨⟨_,_,_,rfl,fun j hj=>?_,?_⟩,(Below.refl _ w).alloc (le_refl _) _⟩
 ·rw[fu];exact jY hj
 ·rcases iv b M U _ rfl with h1 | ⟨h1,h2⟩
  ·exact .inl h1
  ·exact .inr ⟨h1,h2,xO b _ U (by omega)⟩
def ac(ds:List Nat):Nat:=ds.foldl (fun n d=>n * 256+d) 0
theorem NH(ds:List Nat)(d:Nat):ac (ds++[d])=ac ds * 256+d:=by unfold ac;rw[List.foldl_append];rfl
def sz8(j a:Nat):Prop:=(j=0/\a=0)\/(j=1/\a<=255)\/(j=2/\a<=65535)\/(j=3/\a<=16777215)\/(j=4/\a<=4294967295)
theorem ED{j a d:Nat}(h:sz8 j a)(hj:j<4)(hd:d<=255):sz8 (j+1) (a * 256+d)/\a<=16777215:=by unfold sz8 at *;omega
theorem Pe(a d:Nat)(ha:a<=16777215)(hd:d<=255):bits .or .u32 ((a:Int) * 256) (d:Int)=((a * 256+d:Nat):Int):=by
 have h:=u32_or_nat (a * 256) d (by omega) (by omega);have e:a * 256 ||| d=a * 256+d:=by have:=Nat.shiftLeft_add_eq_or_of_lt (b:=d) (i:=8) (by omega) a;rw[Nat.shiftLeft_eq]at this;exact this.symm
 rw[e]at h;exact h
theorem yE{l:List (Option Nat)}(h:none∈l):kS l=none:=by
 match l,h with
 | [some a,some b,some c,some d],h=>simp at h
 | [],_=>rfl
 | [x],_=>cases x <;> rfl
 | [x,y],_=>cases x <;> cases y <;> rfl
 | [x,y,z],_=>cases x <;> cases y <;> cases z <;> rfl
 | none::_::_::_::_,_=>rfl
 | some _::none::_::_::_,_=>rfl
 | some _::some _::none::_::_,_=>rfl
 | some _::some _::some _::none::_,_=>rfl
 | some _::some _::some _::some _::_::_,_=>rfl
theorem rA{l:List (Option Nat)}(h:l.length≠4):kS l=none:=by
 match l,h with
 | [a,b,c,d],h=>simp at h
 | [],_=>rfl
 | [x],_=>cases x <;> rfl
 | [x,y],_=>cases x <;> cases y <;> rfl
 | [x,y,z],_=>cases x <;> cases y <;> cases z <;> rfl
 | none::_::_::_::_::_,_=>rfl
 | some _::none::_::_::_::_,_=>rfl
 | some _::some _::none::_::_::_,_=>rfl
 | some _::some _::some _::none::_::_,_=>rfl
 | some _::some _::some _::some _::_::_,_=>rfl
def JN(o:Option (List Nat))(e:Ending):Prop:=(∃ h l:Nat,o=some [h,l]/\h<65536/\l<65536/\e=.returned (.tuple #[.int .u16 h,.int .u16 l,.bool true]))\/(o=none/\e=.returned (.tuple #[.int .u16 0,.int .u16 0,.bool false]))
theorem BI{ps:List (List Int)}{ds:List Nat}(hl:ds.length=4)(h:ps.map dn=ds.map some)(ha:ac ds<=4294967295):∃ H L:Nat,kS (ps.map dn)=some [H,L]/\H<65536/\L<65536/\ac ds / 65536=H/\ac ds % 65536=L:=by
 match ds,hl with
 | [a,b,c,d],_ =>
  rw[h];have e:ac [a,b,c,d]=((a * 256+b) * 256+c) * 256+d:=by simp[ac]
  have hb:∀ x:Nat,some x∈ps.map dn->x<=255:=by
   intro x hx;obtain⟨p,_,hp⟩:=List.mem_map.1 hx;unfold dn at hp;split at hp
   ·rename_i hh;cases hp;exact hh.2.2.2.2
   ·cases hp
  rw[h]at hb;have ba:=hb a (by simp);have bb:=hb b (by simp);have bc:=hb c (by simp);have bd:=hb d (by simp);refine⟨a * 256+b,c * 256+d,rfl,by omega,by omega,?_,?_⟩ <;> rw[e] <;> omega
theorem oE(U:ByteArray)(hU:U.size<=1000000)(w:World)(hE:Er w)(hM:Mx w):Calls prog 163 #[.string U] w fun e W'=>JN (dt (bn U)) e/\Below w.heap.size w W':=by
 have HSP:Hid (Calls prog 165 #[.string U,.string ⟨#[46]⟩,.int .i64 5] w fun e W'=>QG 46 4 U w e W'):=gF 46 4 (by omega) U w (by omega) hM;have HE:=hid (fun W hb=>hE.below (w':=W) hb);have HNO:Hid (dt (bn U)=none->JN (dt (bn U)) (.returned (.tuple #[.int .u16 0,.int .u16 0,.bool false]))):=fun h=>.inr ⟨h,rfl⟩;have HDT:Hid (dt (bn U)=kS ((spB 46 (bn U)).map dn)):=rfl;have hmem:=oa 46 (bn U);rw[aa]at hmem;have HMEM:=hid hmem;obtain⟨o,ho⟩:=Ex' (dt (bn U));rw[ho]at HNO HDT ⊢;clear ho hmem hE hM;go_enter func163,ntmps163;go_wp2_with fail;refine HSP.out.mono ?_;rintro e w1 ⟨⟨g,c,qs,rfl,hcb,hor⟩,B1⟩;have HB1:=hid B1;have HCB:=hid hcb;have HER:=hid (HE.out w1 B1);clear B1 HSP HE hcb;by_cases h4:qs.length=4
 ·have hqs:qs.map bn=spB 46 (bn U):=by
   rcases hor with h | h
   ·exact h.2
   ·omega
  have hsz:∀ i,i<qs.length->(qs[i]?.getD ⟨#[]⟩).size<=1000000:=fun i hi=>by
   have h1:bn (qs[i]?.getD ⟨#[]⟩)∈spB 46 (bn U):=by rw[<-hqs,getElem?_eq_getElem hi];exact List.mem_map_of_mem (getElem_mem hi)
   have:=(HMEM.out _ h1).1;rw[aa]at this;omega
  have HSZ:=hid hsz;have HQS:=hid hqs;rw[<-hqs]at HDT;clear hor hqs hsz HMEM;have HL4:=hid h4;rw[h4]at HCB HSZ ⊢;clear h4;go_wp2_with fail
  go_loopw [6,18] (fun v6 v18 wr=>∃(j:Nat) (ds:List Nat) (a:Nat),j<=4/\v6=.int .u32 (a:Int)/\v18=.int .i64 (j:Int)/\Hid (ds.length=j/\ac ds=a/\sz8 j a/\((qs.take j).map bn).map dn=ds.map some)/\Hid (Below w1.heap.size w1 wr)) (fun _ v18 _=>4 - (intOf v18).toNat)
  case atStart=>exact⟨0,[],0,by omega,rfl,rfl,⟨rfl,rfl,.inl ⟨rfl,rfl⟩,rfl⟩,Below.refl _ _⟩
  case round =>
   obtain⟨j,ds,a,hj,rfl,rfl,HH,HB⟩:=hrel;by_cases hlt:j<4
   ·have hcw:=HCB.out j hlt;have hcr:wr.cell? ⟨g,j,none⟩=some (.string (qs[j]?.getD ⟨#[]⟩)):=(HB.out.cell (p:=⟨g,j,none⟩) (Lib.lt_of_cell hcw)).trans hcw;have HNU:Hid (Calls prog 201 #[.string (qs[j]?.getD ⟨#[]⟩)] wr fun e W'=>ka (dn (bn (qs[j]?.getD ⟨#[]⟩))) e/\Below wr.heap.size wr W'):=cC _ (by have:=HSZ.out j hlt;omega) wr (HER.out.below HB.out);have hjq:j<qs.length:=by rw[HL4.out];exact hlt
    have htk:qs.take (j+1)=qs.take j++[qs[j]?.getD ⟨#[]⟩]:=by rw[List.take_add_one,getElem?_eq_getElem hjq];rfl
    have hmm:bn (qs[j]?.getD ⟨#[]⟩)∈qs.map bn:=by rw[getElem?_eq_getElem hjq];exact List.mem_map_of_mem (getElem_mem hjq)
    obtain⟨D,hD⟩:=Ex' (qs[j]?.getD ⟨#[]⟩);rw[hD]at hcr HNU htk hmm;have HTK:=hid htk;have HMM:=hid hmm;have hltz:(j:Int)<4:=by omega
    clear hD hcw htk hmm hjq;obtain⟨o2,ho2⟩:=Ex' (dn (bn D));have HO2:=hid ho2;rw[ho2]at HNU;clear ho2;go_wp2_with fail;refine HNU.out.mono ?_;rintro e w2 ⟨hn,B2⟩;have HB2:=Bt' HB B2;clear B2 HNU;rcases hn with⟨v,hv,hv5,rfl⟩ | ⟨hv,x,rfl⟩
    ·obtain⟨q1,q2,q3,q4⟩:=HH.out;have hst:=ED q3 hlt hv5;have HN:Hid ((ds++[v]).length=j+1/\ac (ds++[v])=a * 256+v/\sz8 (j+1) (a * 256+v)/\((qs.take (j+1)).map bn).map dn=(ds++[v]).map some):=by refine⟨by rw[length_append,q1];rfl,by rw[NH,q2],hst.1,?_⟩;rw[HTK.out,map_append,map_append,q4,map_append];congr 1;show [dn (bn D)]=[some v];rw[HO2.out,hv]
     have ha:=hst.2;have hor2:=Pe a v ha hv5;clear q1 q2 q3 q4 hst HH HO2 hv;go_wp2_with fail
     go_roundw
     case rel=>exact⟨j+1,ds++[v],a * 256+v,by omega,by first | rfl | go_num,by go_num,HN,HB2⟩
     case measure=>simp[intOf];omega
    ·have hnone:o=none:=by rw[HDT.out];refine yE (List.mem_map.2 ⟨bn D,HMM.out,?_⟩);rw[HO2.out,hv]
     have HR:=hid (HNO.out hnone);clear hnone HNO HO2 HH hv;go_wp2;go_ret3;exact⟨HR.out,HB1.out.trans (HB2.out.mono HB1.out.size)⟩
   ·have hj4:j=4:=by omega
    subst hj4;obtain⟨q1,q2,q3,q4⟩:=HH.out;have ha:a<=4294967295:=by unfold sz8 at q3;omega
    rw[List.take_of_length_le (by rw[HL4.out];omega)]at q4;obtain⟨H,L,f1,f2,f3,f4,f5⟩:=BI q1 q4 (by omega);rw[q2]at f4 f5;have HR:Hid (JN o (.returned (.tuple #[.int .u16 H,.int .u16 L,.bool true]))):=.inl ⟨H,L,by rw[HDT.out,f1],f2,f3,rfl⟩;have hw1:IntKind.u16.wrap ((a:Int) / 65536)=(H:Int):=by simp[IntKind.wrap,IntKind.bits,IntKind.signed];omega
    have hw2:IntKind.u16.wrap (a:Int)=(L:Int):=by simp[IntKind.wrap,IntKind.bits,IntKind.signed];omega
    clear q1 q2 q3 q4 f1 f2 f3 f4 f5 HH HNO HDT;go_wp2;go_ret3;exact⟨HR.out,HB1.out.trans (HB.out.mono HB1.out.size)⟩
 ·have hnone:o=none:=by
   rw[HDT.out];apply rA;rw[length_map];rcases hor with⟨_,h⟩ | ⟨h,_⟩
   ·have h5:=congrArg List.length h;rw[length_map]at h5;have h6:(spB 46 (bn U)).length=qs.length:=h5.symm;omega
   ·have h6:4<(spB 46 (bn U)).length:=h;omega
  have hle:qs.length<=1000001:=by
   rcases hor with⟨h,h5⟩ | ⟨_,_,h⟩
   ·have:=congrArg List.length h5;rw[length_map]at this;omega
   ·omega
  have HR:=hid (HNO.out hnone);have h4z:((qs.length:Int)==4)=false:=by simp;omega
  obtain⟨n,hn⟩:=Ex' qs.length;rw[hn]at h4z hle ⊢;clear hnone HNO hor HCB hn h4 HMEM HDT;go_wp2;go_ret3;exact⟨HR.out,HB1.out⟩
open Go Go.RowKit
open F (bn aa)
def bys(l:List Int):List Value:=l.map (Value.int .u8)
theorem bQ(l:List Int):(bys l).length=l.length:=by simp[bys]
theorem tM(a b:List Int):bys (a++b)=bys a++bys b:=by simp[bys]
theorem tL(l:List Int):∀ u∈bys l,u.oneCell'=true:=by intro u hu;obtain⟨c,_,rfl⟩:=List.mem_map.1 hu;rfl
theorem gD(s:ByteArray):Lib.strCells s=bys (bn s):=by unfold Lib.strCells bys bn;rw[map_map];rfl
def Bts(e:TypeId)(w:World)(base:Nat)(v:Value)(l:List Int):Prop :=
 (v=.slice none 0 0/\l=[]) \/
  ∃ g cap cur fz,v=.slice (some ⟨g,0,none⟩) l.length cap/\base<=g/\w.heap[g]? = some (.cells cur e fz)/\(fz.2=0\/cap<=fz.1)/\l.length<=cap/\cap<=maxLen/\cur.size=cap/\cur.toList.take l.length=bys l
theorem Bts.nilS(e:TypeId)(w:World)(base:Nat):Bts e w base (.slice none 0 0) []:=.inl ⟨rfl,rfl⟩
theorem Bts.of_owns{e:TypeId}{w:World}{base n:Nat}{v:Value}{l:List Int}(h:w.ownsRow base e 1 v n (bys l)):Bts e w base v l:=by
 have hn:l.length=n:=by have:=h.1;rw[bQ]at this;omega
 subst hn;rcases h.2 with⟨h1,h2⟩ | ⟨g,cap,cur,h1,h2,h3,h4,h5,h6,h7⟩
 ·exact .inl ⟨h1,List.eq_nil_of_length_eq_zero h2⟩
 ·exact .inr ⟨g,cap,cur,(0,0),h1,h2,h3,.inl rfl,h4,h5,by omega,by simpa using h7⟩
theorem Bts.lt{e:TypeId}{w:World}{base:Nat}{v:Value}{l:List Int}(h:Bts e w base v l):∀ k,v.ownBlock=some k->base<=k/\k<w.heap.size:=by
 intro k hk;rcases h with⟨rfl,_⟩ | ⟨g,cap,cur,fz,rfl,hb,hg,_⟩
 ·simp[Value.ownBlock]at hk
 ·simp[Value.ownBlock]at hk;subst hk;exact⟨hb,(Array.getElem?_eq_some_iff.1 hg).1⟩
theorem Bts.below{e:TypeId}{w w':World}{base:Nat}{v:Value}{l:List Int}(h:Bts e w base v l)(hb:Below w.heap.size w w'):Bts e w' base v l:=by
 rcases h with h | ⟨g,cap,cur,fz,h1,h2,h3,h4⟩
 ·exact .inl h
 ·exact .inr ⟨g,cap,cur,fz,h1,h2,(hb.block g (Array.getElem?_eq_some_iff.1 h3).1).trans h3,h4⟩
theorem Bts.apart{e:TypeId}{w:World}{base:Nat}{v:Value}{l:List Int}(h:Bts e w base v l){g:Nat}{cs:Array Value}{t:TypeId}{f:Nat×Nat}(hg:w.heap[g]? = some (.cells cs t f))(hne:t≠e):some g≠v.ownBlock:=by
 intro hk;rcases h with⟨rfl,_⟩ | ⟨k,cap,cur,fz,rfl,hb,hgg,_⟩
 ·simp[Value.ownBlock]at hk
 ·simp[Value.ownBlock]at hk;subst hk;rw[hg]at hgg;cases hgg;exact hne rfl
theorem Bts.cells{e:TypeId}{w:World}{base:Nat}{l:List Int}{g c n:Nat}(h:Bts e w base (.slice (some ⟨g,0,none⟩) n c) l):n=l.length/\∀ j,j<l.length->w.cell? ⟨g,j,none⟩=some (.int .u8 (l[j]?.getD 0)):=by
 rcases h with⟨h,_⟩ | ⟨k,cap,cur,fz,h1,hb,hgg,_,_,_,_,ht⟩
 ·cases h
 ·cases h1;refine⟨rfl,fun j hj=>?_⟩;rw[cell_of_row w g j cur e fz hgg];have h2:(cur.toList.take l.length)[j]? = (bys l)[j]? := by rw[ht]
  rw[List.getElem?_take,if_pos hj]at h2;have h3:(bys l)[j]? = some (.int .u8 (l[j]?.getD 0)):=by unfold bys;rw[getElem?_map,getElem?_eq_getElem hj];rfl
  rw[h3]at h2;simpa using h2
theorem Bts.there{e:TypeId}{w:World}{base:Nat}{v:Value}{l:List Int}(h:Bts e w base v l)(hl:l≠[]):∃ g c,v=.slice (some ⟨g,0,none⟩) l.length c/\base<=g/\c<=maxLen/\l.length<=c/\∀ j,j<l.length->w.cell? ⟨g,j,none⟩=some (.int .u8 (l[j]?.getD 0)):=by
 rcases h with⟨_,h⟩ | ⟨g,cap,cur,fz,rfl,h2,h3⟩
 ·exact absurd h hl
 ·have hc:=Bts.cells (c:=cap) (.inr ⟨g,cap,cur,fz,rfl,h2,h3⟩);exact⟨g,cap,rfl,h2,h3.2.2.2.1,h3.2.2.1,hc.2⟩
theorem jx(g:Nat)(t:TypeId)(fz:Nat×Nat):∀(vs:List Value) (o:Nat) (w:World) (cur:Array Value),w.heap[g]? = some (.cells cur t fz)->o+vs.length<=cur.size->(w.setCells g o vs).heap[g]? = some (.cells (cur.toList.take o++vs++cur.toList.drop (o+vs.length)).toArray t fz)
 | [],o,w,cur,h,_=>by
  show w.heap[g]? = _;rw[h];simp
 | v::r,o,w,cur,h,hl=>by
  have hl':o+1+r.length<=cur.size:=by simp at hl;omega
  rw[World.setCells,setCell_eq_setRow w g o cur t fz v h];rw[jx g t fz r (o+1) _ (cur.setIfInBounds o v) (setRow_heap w g cur _ t _ h) (by simpa using hl')];have e:=list_seg_step cur.toList o v r (by simp at hl ⊢;omega);congr 2;apply Array.toList_inj.1;simpa[Array.toList_setIfInBounds,Nat.add_assoc]using e
theorem jw(g:Nat):∀(vs:List Value) (o:Nat) (w:World),(w.setCells g o vs).os=w.os/\(w.setCells g o vs).tape=w.tape/\(w.setCells g o vs).output=w.output/\(w.setCells g o vs).heap.size=w.heap.size/\∀ k,k≠g->(w.setCells g o vs).heap[k]? = w.heap[k]?
 | [],o,w=>⟨rfl,rfl,rfl,rfl,fun _ _=>rfl⟩
 | v::r,o,w=>by obtain⟨h1,h2,h3,h4,h5⟩:=jw g r (o+1) (w.setCell ⟨g,o,none⟩ v);have hb:=(Below.refl 0 w).setCell (p:=⟨g,o,none⟩) (zero_le _) v;refine⟨h1.trans hb.os,h2.trans hb.tape,h3.trans hb.output,h4.trans (by simp),fun k hk=>(h5 k hk).trans (Below.heap_setCell w ⟨g,o,none⟩ v k hk)⟩
theorem iI(w:World)(g o:Nat)(vs:List Value)(n c:Nat):w.grownBy (w.setCells g o vs) (Value.ownBlock (.slice (some ⟨g,0,none⟩) n c)):=by obtain⟨h1,h2,h3,h4,h5⟩:=jw g vs o w;exact⟨h1,h2,h3,le_of_eq h4.symm,fun k _ hk=>h5 k (fun e=>hk (by rw[e];rfl))⟩
theorem Bts.room{e:TypeId}{w:World}{base g cap n:Nat}{cur:Array Value}{fz:Nat×Nat}{l news:List Int}(hb:base<=g)(hg:w.heap[g]? = some (.cells cur e fz))(hf:fz.2=0\/cap<=fz.1)(hm:cap<=maxLen)(hs:cur.size=cap)(ht:cur.toList.take l.length=bys l)(hr:l.length+news.length<=cap):
  Bts e (w.setCells g l.length (bys news)) base (.slice (some ⟨g,0,none⟩) (l.length+news.length) cap) (l++news)/\(∀ j,j<news.length->(w.cell? ⟨g,l.length+j,none⟩).isSome=true)/\(∀ j,j<news.length->w.frozen? ⟨g,l.length+j,none⟩=false):=by
 refine⟨.inr ⟨g,cap,_,fz,by rw[length_append],hb,jx g e fz (bys news) l.length w cur hg (by rw[bQ];omega),hf,by rw[length_append];exact hr,hm,?_,?_⟩,fun j hj=>?_,fun j hj=>?_⟩
 ·simp only[size_toArray,length_append,length_take,length_drop,length_toList,bQ];omega
 ·rw[ht];have:(l++news).length=(bys l++bys news).length:=by simp[bQ]
  rw[this,tM];exact take_left
 ·rw[cell_of_row w g _ cur e fz hg];simp;omega
 ·obtain⟨lo,hi⟩:=fz;simp only[World.frozen?,hg,Bool.and_eq_false_iff,decide_eq_false_iff_not];simp only at hf;omega
theorem Bts.olds{e:TypeId}{w:World}{g n:Nat}{cur:Array Value}{fz:Nat×Nat}{l:List Int}(hg:w.heap[g]? = some (.cells cur e fz))(ht:cur.toList.take l.length=bys l):∀ j u,(bys l)[j]? = some u->w.cell? ((⟨g,0,none⟩:Addr).add j)=some u:=by
 intro j u hu;have hadd:(⟨g,0,none⟩:Addr).add j=⟨g,j,none⟩:=by unfold Addr.add;split <;> simp_all
 rw[hadd,cell_of_row w g j cur e fz hg];rw[<-ht,List.getElem?_take]at hu;split at hu
 ·simpa using hu
 ·cases hu
section
variable {P : Program} (w : World)
theorem om(base:Nat)(t ty e:TypeId)(i:TypeInfo)(ht:P.underlying t=some (.slice e))(hi:P.info? e=some i)(hz:i.zero=some (.int .u8 0))(hsize:i.size=1)(hby:i.bytes=1)
  (v:Value) (l:List Int) (hown:Bts e w base v l) (a:Addr) (m c:Nat) (news:List Int) (hl:news.length=m) (hnews:∀ j u,(bys news)[j]? = some u->w.cell? (a.add j)=some u) (hlim:l.length+m<=100000000) (hbase:base<=w.heap.size) :
  ∃ v' w',(Builtin.append_ #[t,t] ty #[v,.slice (some a) m c]).run P w=.ok v' w'/\Bts e w' base v' (l++news)/\w.grownBy w' v.ownBlock:=by
 have hM:l.length+m<=maxLen:=by unfold maxLen;omega
 rcases hown with⟨rfl,rfl⟩ | ⟨g,cap,cur,fz,rfl,hb,hg,hf,hn,hcm,hcs,htk⟩
 ·obtain⟨v',w',h1,h2,h3,_⟩:=run_append_own (P:=P) w base t ty e i (.int .u8 0) 1 1 ht hi hz hsize hby rfl (by decide) (.slice none 0 0) 0 [] (ownsRow_nil w base e 1) a m c (bys news) (by rw[bQ];omega) hnews (tL news) (by simpa using hM) (by simp at hlim;omega) hbase;exact⟨v',w',h1,Bts.of_owns h2,h3⟩
 ·subst hl;by_cases hroom:l.length+news.length<=cap
  ·obtain⟨r1,r2,r3⟩:=Bts.room (n:=0) (news:=news) hb hg hf hcm hcs htk hroom;have hr:=run_append_room_cells (P:=P) w t ty e i ht hi g 0 l.length cap a news.length c (bys news) (by rw[bQ,hsize];omega) hnews (tL news) hroom (fun j hj=>by rw[hsize];rw[bQ]at hj;simpa using r2 j hj) (fun j hj=>by rw[hsize];rw[bQ]at hj;simpa using r3 j hj);rw[hsize,Nat.mul_one,zero_add]at hr;exact⟨_,_,hr,r1,iI w g _ _ _ _⟩
  ·obtain⟨v',w',h1,h2,h3⟩:=run_append_arg_grows (P:=P) w t ty e i (.int .u8 0) 1 1 ht hi hz hsize hby rfl (by decide) ⟨g,0,none⟩ l.length cap (bys l) (by rw[bQ];omega) (Bts.olds (n:=0) hg htk) a news.length c (bys news) (by rw[bQ];omega) hnews (by omega) hM (by omega);rw[<-tM]at h2;have h4:=Bts.of_owns h2;refine⟨v',w',h1,?_,⟨h3.os,h3.tape,h3.output,h3.size,fun k hk _=>h3.block k hk (by simp)⟩⟩;rcases h4 with h4 | ⟨g2,cap2,cur2,fz2,q1,q2,q3⟩
   ·exact .inl h4
   ·exact .inr ⟨g2,cap2,cur2,fz2,q1,le_trans hbase q2,q3⟩
theorem ie(base:Nat)(t u ty e:TypeId)(i:TypeInfo)(ht:P.underlying t=some (.slice e))(hu:P.underlying u=some .string)(hi:P.info? e=some i)(hz:i.zero=some (.int .u8 0))(hsize:i.size=1)(hby:i.bytes=1)
  (v:Value) (l:List Int) (hown:Bts e w base v l) (s:ByteArray) (hlim:l.length+s.size<=100000000) (hbase:base<=w.heap.size) :
  ∃ v' w',(Builtin.append_ #[t,u] ty #[v,.string s]).run P w=.ok v' w'/\Bts e w' base v' (l++bn s)/\w.grownBy w' v.ownBlock:=by
 have hM:l.length+s.size<=maxLen:=by unfold maxLen;omega
 rcases hown with⟨rfl,rfl⟩ | ⟨g,cap,cur,fz,rfl,hb,hg,hf,hn,hcm,hcs,htk⟩
 ·obtain⟨v',w',h1,h2,h3,_⟩:=Lib.run_append_own_string (P:=P) w base t u ty e i ht hu hi hz hsize hby (.slice none 0 0) 0 [] (ownsRow_nil w base e 1) s (by simpa using hM) (by simp at hlim;omega) hbase;rw[gD]at h2;exact⟨v',w',h1,Bts.of_owns h2,h3⟩
 ·have hsl:(bn s).length=s.size:=aa s;by_cases hroom:l.length+s.size<=cap
  ·obtain⟨r1,r2,r3⟩:=Bts.room (n:=0) (news:=bn s) hb hg hf hcm hcs htk (by rw[hsl];exact hroom);have hff:=Lib.run_firstCells_string (P:=P) w 1 s;have hst:=run_storeCells_cells (P:=P) g l.length (bys (bn s)) 0 w (fun j hj=>by rw[bQ]at hj;simpa using r2 j hj) (fun j hj=>by rw[bQ]at hj;simpa using r3 j hj) (tL _);rw[gD]at hff;simp only[Nat.add_zero]at hst;refine⟨.slice (some ⟨g,0,none⟩) (l.length+s.size) cap,w.setCells g l.length (bys (bn s)),?_,by rw[hsl]at r1;exact r1,iI w g _ _ _ _⟩;simp[Builtin.append_,run_underlying ht,run_underlying hu,sizeOf,typeInfo,hi,hsize,Builtin.lenOf,hroom,hff,Addr.add_lit,hst]
  ·have hr:=Lib.run_append_grow_string (P:=P) w t u ty e i (.int .u8 0) ht hu hi hz ⟨g,0,none⟩ l.length cap (bys l) (by rw[bQ,hsize];omega) (Bts.olds (n:=0) hg htk) s (by omega) (by omega) (by rw[hby];exact growslice_fits (by omega) (by omega));have hge:=grownCap_ge w (l.length+s.size) cap e;have hcm2:grownCap w (l.length+s.size) cap e<=maxLen:=grownCap_le_maxLen w _ _ e hM;refine⟨_,_,hr,.inr ⟨w.heap.size,_,_,(0,0),by rw[length_append,hsl],hbase,heap_alloc_new w.drew _,.inl rfl,by rw[length_append,hsl];exact hge,hcm2,?_,?_⟩,⟨rfl,rfl,rfl,by simp,fun k hk _=>Below.heap_alloc w.drew _ k hk⟩⟩
   ·have hz1:(Value.int IntKind.u8 0).cells.size=1:=rfl;simp only[Array.size_append,size_toArray,size_zeroCells,hz1,bQ,Lib.strCells_length];omega
   ·rw[gD];simp only[Array.toList_append,List.append_assoc];rw[<-List.append_assoc,tM];have:(l++bn s).length=(bys l++bys (bn s)).length:=by simp[bQ]
    rw[this];exact take_left
end
theorem fj{P:Program}(w:World){ops:Array Oper}{rest:List Oper}{o:Oper}{a:Act}{Q:Exit->Act->World->Prop}(hgd:o.guard=none)(s x:Operand)(t:TypeId)(ho:o.op=Op.call { callee:=Callee.builtin Builtin.append,args:=#[s,x],argTypes:=#[t,t] })
  (base:Nat) (e:TypeId) (i:TypeInfo) (ht:P.underlying t=some (.slice e)) (hi:P.info? e=some i) (hz:i.zero=some (.int .u8 0)) (hsize:i.size=1) (hby:i.bytes=1)
  (v:Value) (l:List Int) (hs:a.eval s=v) (hown:Bts e w base v l) (ad:Addr) (m c:Nat) (news:List Int) (hx:a.eval x=.slice (some ad) m c) (hl:news.length=m) (hnews:∀ j u,(bys news)[j]? = some u->w.cell? (ad.add j)=some u) (hlim:l.length+m<=100000000) (hbase:base<=w.heap.size)
  (h:∀ v' w',Bts e w' base v' (l++news)->w.grownBy w' v.ownBlock->wpList P ops Q rest (a.put o.dst v') w'):wpList P ops Q (o::rest) a w:=by
 refine wpList_plain hgd fun K hK'=>?_;obtain⟨v',w',hrun,r1,r2⟩:=om (P:=P) w base t o.type e i ht hi hz hsize hby v l hown ad m c news hl hnews hlim hbase;unfold Oper.wp;simp[execOp,ho,resolve,invoke,builtin,hs,hx,hrun,Result.andThen];exact hK' _ _ (h v' w' r1 r2)
theorem fD{P:Program}(w:World){ops:Array Oper}{rest:List Oper}{o:Oper}{a:Act}{Q:Exit->Act->World->Prop}(hgd:o.guard=none)(s x:Operand)(t u:TypeId)(ho:o.op=Op.call { callee:=Callee.builtin Builtin.append,args:=#[s,x],argTypes:=#[t,u] })
  (base:Nat) (e:TypeId) (i:TypeInfo) (ht:P.underlying t=some (.slice e)) (hu:P.underlying u=some .string) (hi:P.info? e=some i) (hz:i.zero=some (.int .u8 0)) (hsize:i.size=1) (hby:i.bytes=1)
  (v:Value) (l:List Int) (hs:a.eval s=v) (hown:Bts e w base v l) (z:ByteArray) (hx:a.eval x=.string z) (hlim:l.length+z.size<=100000000) (hbase:base<=w.heap.size)
  (h:∀ v' w',Bts e w' base v' (l++bn z)->w.grownBy w' v.ownBlock->wpList P ops Q rest (a.put o.dst v') w'):wpList P ops Q (o::rest) a w:=by
 refine wpList_plain hgd fun K hK'=>?_;obtain⟨v',w',hrun,r1,r2⟩:=ie (P:=P) w base t u o.type e i ht hu hi hz hsize hby v l hown z hlim hbase;unfold Oper.wp;simp[execOp,ho,resolve,invoke,builtin,hs,hx,hrun,Result.andThen];exact hK' _ _ (h v' w' r1 r2)
theorem xg(w:World)(e:TypeId)(s:ByteArray)(hs:s.size<=100000000):Bts e (Lib.bytesWorld w e s) w.heap.size (.slice (some ⟨w.heap.size,0,none⟩) s.size (grownCap w s.size 0 e)) (bn s):=by
 have hge:=grownCap_ge w s.size 0 e;have hcm:grownCap w s.size 0 e<=maxLen:=grownCap_le_maxLen w s.size 0 e (by unfold maxLen;omega);have hsz:(Lib.bytesCells w e s).size=grownCap w s.size 0 e:=by have:s.data.size=s.size:=rfl;simp[Lib.bytesCells];omega
 refine .inr ⟨w.heap.size,_,_,_,by rw[aa],le_refl _,Lib.bytesWorld_at_new w e s,.inr (le_of_eq hsz.symm),by rw[aa];exact hge,hcm,hsz,?_⟩;have h1:(Lib.bytesCells w e s).toList=bys (bn s)++List.replicate (grownCap w s.size 0 e - s.size) (.int .u8 0):=by simp[Lib.bytesCells,bys,bn]
 rw[h1,<-bQ];exact take_left
theorem xF(w:World)(e:TypeId)(s:ByteArray):Below w.heap.size w (Lib.bytesWorld w e s):=⟨rfl,rfl,rfl,by rw[Lib.bytesWorld_size];omega,fun k hk=>Lib.bytesWorld_at_old w e s k hk⟩
open F (hx)
def dgs(n:Nat):List Nat:=if n<16 then [n] else if n<256 then [n / 16,n % 16] else if n<4096 then [n / 256,n / 16 % 16,n % 16] else [n / 4096,n / 256 % 16,n / 16 % 16,n % 16]
def pad(n:Nat):List Nat:=[n / 4096 % 16,n / 256 % 16,n / 16 % 16,n % 16]
def dgc(cap:Bool)(d:Nat):Int:=if d<10 then 48+d else if cap=true then 55+d else 87+d
def aM(cap nts:Bool)(n:Nat):List Int:=(if nts=true then pad n else dgs n).map (dgc cap)
theorem Ig{cap:Bool}{d:Nat}(h:d<16):hx (dgc cap d)=d:=by unfold hx dgc;cases cap <;> (repeat' split) <;> first | omega | simp_all
theorem Ql{cap:Bool}{d:Nat}(h:d<16):(48<=dgc cap d/\dgc cap d<=57)\/(65<=dgc cap d/\dgc cap d<=102):=by unfold dgc;cases cap <;> (repeat' split) <;> first | omega | simp_all
theorem tA{n:Nat}(h:n<65536):∀ d∈dgs n,d<16:=by
 unfold dgs;intro d hd
 (repeat' split at hd) <;> simp at hd <;> omega
theorem Gm(n:Nat):∀ d∈pad n,d<16:=by unfold pad;intro d hd;simp at hd;omega
theorem tw(n:Nat):1<=(dgs n).length/\(dgs n).length<=4:=by unfold dgs;(repeat' split) <;> simp
def v16(l:List Nat):Nat:=l.foldl (fun n d=>n * 16+d) 0
theorem DY{cap:Bool}:∀(l:List Nat) (x:Nat),(∀ d∈l,d<16)->(l.map (dgc cap)).foldl (fun n c=>n * 16+(hx c).toNat) x=l.foldl (fun n d=>n * 16+d) x
 | [],_,_=>rfl
 | d::l,x,h=>by rw[map_cons,foldl_cons,foldl_cons,Ig (h d (by simp)),Int.toNat_natCast];exact DY l _ (fun y hy=>h y (by simp[hy]))
theorem RS{n:Nat}(h:n<65536):v16 (dgs n)=n:=by unfold v16 dgs;(repeat' split) <;> simp <;> omega
theorem Rt{n:Nat}(h:n<65536):v16 (pad n)=n:=by unfold v16 pad;simp;omega
theorem Gf{cap:Bool}{l:List Nat}(h1:1<=l.length)(h4:l.length<=4)(hb:∀ d∈l,d<16):pc (l.map (dgc cap))=some (v16 l):=by
 unfold pc;rw[if_pos]
 ·congr 1;exact DY l 0 hb
 ·refine⟨by simpa using h1,by simpa using h4,?_⟩;rw[List.all_eq_true];intro c hc;obtain⟨d,hd,rfl⟩:=List.mem_map.1 hc;unfold hxd;rw[Ig (hb d hd)];exact decide_eq_true (by omega)
theorem jb{cap nts:Bool}{n:Nat}(h:n<65536):pc (aM cap nts n)=some n:=by
 unfold aM;split
 ·rw[Gf (by simp[pad]) (by simp[pad]) (Gm n),Rt h]
 ·rw[Gf (tw n).1 (tw n).2 (tA h),RS h]
theorem kP{cap nts:Bool}{n:Nat}(h:n<65536){c:Int}(hc:c∈aM cap nts n):(48<=c/\c<=57)\/(65<=c/\c<=102):=by
 unfold aM at hc;obtain⟨d,hd,rfl⟩:=List.mem_map.1 hc;refine Ql ?_;split at hd
 ·exact Gm n d hd
 ·exact tA h d hd
theorem gj(cap nts:Bool)(n:Nat):1<=(aM cap nts n).length/\(aM cap nts n).length<=4:=by
 unfold aM;split
 ·simp[pad]
 ·rw[length_map];exact tw n
theorem kO{cap nts:Bool}{n:Nat}(h:n<65536):Txt (aM cap nts n):=by
 refine⟨fun e=>?_,fun hm=>?_⟩
 ·have:=(gj cap nts n).1;rw[e]at this;simp at this
 ·have:=kP h hm;omega
theorem ru:∀(ps:List (List Int)) (p:List Int),ah 58 (ps++[p])=ah 58 ps++(if ps=[] then [] else [58])++p
 | [],p=>rfl
 | [q],p=>by simp[ah]
 | q::q'::r,p=>by have ih:=ru (q'::r) p;have e:ah 58 (q::q'::r++[p])=q++58::ah 58 (q'::r++[p]):=rfl;have f:ah 58 (q::q'::r)=q++58::ah 58 (q'::r):=rfl;rw[e,ih,f,if_neg (by simp),if_neg (by simp)];simp
def gp(ps:List (List Int))(i k m:Nat):List Int:=ah 58 (ps.take (min m i))++(if i<m then 58::58::ah 58 ((ps.take m).drop k) else [])
theorem Qa{ps:List (List Int)}{i k m:Nat}(him:i<m)(hm:ps.length<=m):gp ps i k m=ah 58 (ps.take i)++58::58::ah 58 (ps.drop k):=by unfold gp;rw[Nat.min_eq_right (by omega),if_pos him,List.take_of_length_le hm]
def Small(a:List Nat):Prop:=∀ v∈a,v<65536
def zr(a:List Nat)(i:Nat):Nat:=((a.drop i).takeWhile (fun v=>decide (v=0))).length
def nv(a:List Nat)(i:Nat):Nat:=a[i]?.getD 1
theorem mU(a:List Nat)(i j:Nat):nv (a.drop i) j=nv a (i+j):=by unfold nv;rw[List.getElem?_drop]
theorem zy:∀(l:List Nat) (j:Nat),j<(l.takeWhile (fun v=>decide (v=0))).length->nv l j=0
 | [],j,h=>by simp at h
 | v::l,j,h=>by
  by_cases hv:v=0
  ·rw[List.takeWhile_cons_of_pos (by simpa using hv),length_cons]at h;cases j with
   | zero=>simpa[nv]using hv
   | succ j=>simpa[nv]using zy l j (by omega)
  ·rw[List.takeWhile_cons_of_neg (by simpa using hv)]at h;simp at h
theorem zq{a:List Nat}{i j:Nat}(h:j<zr a i):nv a (i+j)=0:=by rw[<-mU];exact zy _ j h
theorem zv(a:List Nat)(i:Nat):zr a i<=a.length - i:=by
 unfold zr;have:=(List.takeWhile_prefix (fun v=>decide (v=0)) (l:=a.drop i)).length_le
 rwa [length_drop]at this
theorem Og{a:List Nat}{i:Nat}(h0:nv a i=0)(h1:nv a (i+1)=0):2<=zr a i:=by
 have e:∀ l:List Nat,nv l 0=0->nv l 1=0->2<=(l.takeWhile (fun v=>decide (v=0))).length:=fun l a0 a1=>by
  match l,a0,a1 with
  | [],a0,_=>simp[nv]at a0
  | [x],_,a1=>simp[nv]at a1
  | x::y::t,a0,a1 =>
   have hx:x=0:=by simpa[nv]using a0
   have hy:y=0:=by simpa[nv]using a1
   rw[List.takeWhile_cons_of_pos (by simpa using hx),List.takeWhile_cons_of_pos (by simpa using hy)];simp
 exact e (a.drop i) (by rw[mU];exact h0) (by rw[mU];exact h1)
def bs(a:List Nat):Nat->Int×Nat
 | 0=>(-1,1)
 | i+1=>if (bs a i).2<zr a i then ((i:Int),zr a i) else bs a i
theorem tN(a:List Nat):∀ i,((bs a i).1=-1/\(bs a i).2=1/\∀ j,j<i->zr a j<=1)\/(∃ p,p<i/\(bs a i).1=(p:Int)/\(bs a i).2=zr a p/\2<=zr a p)
 | 0=>.inl ⟨rfl,rfl,fun j h=>by omega⟩
 | i+1=>by
  have ih:=tN a i;rw[bs];by_cases h:(bs a i).2<zr a i
  ·rw[if_pos h];right;refine⟨i,by omega,rfl,rfl,?_⟩;rcases ih with⟨_,h2,_⟩ | ⟨p,_,_,h2,h3⟩ <;> omega
  ·rw[if_neg h];rcases ih with⟨h1,h2,h3⟩ | ⟨p,h0,h1,h2,h3⟩
   ·left;refine⟨h1,h2,fun j hj=>?_⟩;by_cases e:j=i
    ·rw[e];omega
    ·exact h3 j (by omega)
   ·right;exact⟨p,by omega,h1,h2,h3⟩
def txt(a:List Nat):List Int:=if (bs a 8).1<0 then ah 58 (a.map (aM false false)) else gp (a.map (aM false false)) (bs a 8).1.toNat ((bs a 8).1.toNat+(bs a 8).2) 8
theorem iS{a:List Nat}(hl:a.length=8):((bs a 8).1=-1/\txt a=ah 58 (a.map (aM false false))/\∀ i,i+1<8->¬ (nv a i=0/\nv a (i+1)=0)) \/
  (∃ p m:Nat,(bs a 8).1=(p:Int)/\(bs a 8).2=m/\2<=m/\p+m<=8/\(∀ j,p<=j->j<p+m->nv a j=0)/\txt a=ah 58 ((a.take p).map (aM false false))++58::58::ah 58 ((a.drop (p+m)).map (aM false false))):=by
 rcases tN a 8 with⟨h1,h2,h3⟩ | ⟨p,h0,h1,h2,h3⟩
 ·left;refine⟨h1,?_,fun i hi hz=>?_⟩
  ·unfold txt;rw[h1,if_pos (by decide)]
  ·have:=Og hz.1 hz.2;have:=h3 i (by omega);omega
 ·right;have hle:=zv a p;refine⟨p,zr a p,h1,h2,h3,by omega,fun j hj hj2=>?_,?_⟩
  ·have:=zq (a:=a) (i:=p) (j:=j - p) (by omega)
   rwa [show p+(j - p)=j by omega]at this
  ·unfold txt;rw[h1,h2,if_neg (by omega),Int.toNat_natCast,Qa (by omega) (by simp[hl]),map_take,map_drop]
theorem cU:∀(a:List Nat),(ah 58 (a.map (aM false false))).length+1<=5 * a.length+1/\(0<a.length->2 * a.length<=(ah 58 (a.map (aM false false))).length+1/\(ah 58 (a.map (aM false false))).length+1<=5 * a.length)
 | []=>by simp[ah]
 | [v]=>by
  have:=gj false false v;show(aM false false v).length+1<=_/\(_->_<=(aM false false v).length+1/\(aM false false v).length+1<=_);simp only[length_cons,length_nil];omega
 | v::w::r=>by
  have h:=gj false false v;have ih:=(cU (w::r)).2 (by simp);have e:(ah 58 ((v::w::r).map (aM false false))).length=(aM false false v).length+((ah 58 ((w::r).map (aM false false))).length+1):=by show(aM false false v++58::ah 58 ((w::r).map (aM false false))).length=_;simp
  rw[e];simp only[length_cons]at ih ⊢;omega
theorem iT{a:List Nat}(hl:a.length=8):2<=(txt a).length/\(txt a).length<=39:=by
 rcases iS hl with⟨_,h,_⟩ | ⟨p,m,_,_,h2,h8,hz,h⟩
 ·rw[h];have:=(cU a).2 (by omega);omega
 ·rw[h];have f:=(cU (a.take p)).1;have b:=(cU (a.drop (p+m))).1;rw[length_take]at f;rw[length_drop]at b;simp only[length_append,length_cons];omega
open F (hx bn)
theorem za(s:ByteArray)(i j:Nat)(hij:i<=j)(hj:j<=s.size):bn (s.extract i j)=((bn s).drop i).take (j - i):=by unfold bn;rw[data_extract,Array.toList_extract,List.extract_eq_take_drop,map_take,map_drop]
open F (hx)
theorem mV{w:World}{p:Addr}{v:Value}(h:w.cell? p=some v):p.block<w.heap.size:=by
 rcases lt_or_ge p.block w.heap.size with hb | hb
 ·exact hb
 ·simp[World.cell?,getElem?_eq_none hb]at h
def av(L:List Nat):List Value:=L.map (fun x:Nat=>Value.int .u16 x)
def z8:List Nat:=[0,0,0,0,0,0,0,0]
theorem uj(L:List Nat):(av L).length=L.length:=by unfold av;simp
theorem nr(X:List Nat)(i v:Nat):(av X).toArray.setIfInBounds i (.int .u16 (v:Nat))=(av (X.set i v)).toArray:=by unfold av;rw[List.map_set];simp
theorem cD{W:World}{g:Nat}{t:TypeId}{X:List Nat}(h:W.heap[g]? = some (.cells (av X).toArray t (0,0))){j:Nat}(hj:j<X.length):W.cell? ⟨g,j,none⟩=some (.int .u16 ((X[j]?.getD 0:Nat):Int)):=by simp only[World.cell?,h];unfold av;simp[hj]
theorem ib(X:List Nat):(av X).toArray.all (·.oneCell')=true:=by simp[av,Value.oneCell']
theorem RI:(prog.info? 25).map (·.size)=some 8:=by kernel_rfl
theorem aW{X:List Nat}(h:X.length=8):(prog.info? 25).map (·.size)=some (av X).toArray.size:=by rw[RI];simp[uj,h]
theorem cq{X:List Nat}(h:X.length=8):(av X).toArray.size=8:=by simp[uj,h]
theorem aA{w:World}{g:Nat}{cs old:Array Value}{t:TypeId}(h:w.heap[g]? = some (.cells old t (0,0))):(w.setRow g cs).heap[g]? = some (.cells cs t (0,0)):=setRow_heap w g old cs t _ h
theorem dT{fn:Func}{p u:Tmp}{ty:TypeId}(h:fn.results=#[.cell p ty,.tmp u])(tmps:Array Value)(w:World)(g:Nat)(t:TypeId)(cs:Array Value)(fr:Nat×Nat)(n:Nat)(e:TypeId)
  (hp:tmps.getD p undef=.pointer (some ⟨g,0,none⟩)) (hg:w.heap[g]? = some (.cells cs t fr))
  (hu:prog.underlying ty=some (.array n e)) (hi:(prog.info? ty).map (·.size)=some cs.size) :
  (results fn tmps).run prog w=.ok (.tuple #[.agg cs,tmps.getD u undef]) w:=by
 rw[results_cell_tmp h];have hp':tmps[p]?.getD undef=.pointer (some ⟨g,0,none⟩):=by simpa using hp
 simp[hp',asAddr,run_loadVar_row w g t ty cs fr (.array n e) hg hu rfl hi]
theorem jZ(w:World)(g i b j:Nat)(v:Value)(h:b≠g):(w.setCell ⟨g,i,none⟩ v).cell? ⟨b,j,none⟩=w.cell? ⟨b,j,none⟩:=by have e:=heap_setCell_other w ⟨g,i,none⟩ b v h;simp only[World.cell?,e]
theorem MN{X L:List Nat}(hx:X.length=8)(hl:L.length=8)(h:∀ j,j<8->X[j]?.getD 0=L[j]?.getD 0):X=L:=by apply List.ext_getElem (by omega);intro j h1 h2;have:=h j (by omega);rw[getElem?_eq_getElem h1,getElem?_eq_getElem h2]at this;exact this
theorem ai{B:Nat}{w w':World}(h:Below B w w'){g:Nat}(hg:B<=g)(cs:Array Value):Below B w (w'.setRow g cs):=by
 refine⟨h.os,h.tape,h.output,?_,fun k hk=>?_⟩
 ·show w.heap.size<=(w'.setRow g cs).heap.size;have e:(w'.setRow g cs).heap.size=w'.heap.size:=by unfold World.setRow;simp
  rw[e];exact h.size
 ·have e:(w'.setRow g cs).heap[k]? = w'.heap[k]? := by unfold World.setRow;simp only[Array.getElem?_modify];rw[if_neg (by omega)]
  rw[e];exact h.block k hk
open F (hx bn hid)
def Tab(w:World):Prop:=w.cell? ⟨8,15,none⟩=some (.int .u8 4)
theorem Tab.below{A B:World}{n:Nat}(h:Below n A B)(hn:A.heap.size<=n)(t:Tab A):Tab B:=by unfold Tab at *;exact(h.cell (p:=⟨8,15,none⟩) (lt_of_lt_of_le (mV t) hn)).trans t
theorem JQ(w:World)(hT:w.cell? ⟨8,15,none⟩=some (.int .u8 4)):Calls prog 223 #[.int .u64 16] w fun e W'=>e=.returned (.int .i64 4)/\W'=w:=by
 have e1:IntKind.u64.wrap (-16)=18446744073709551600:=by decide
 have e2:bits BinOp.and IntKind.u64 16 18446744073709551600=16:=by decide
 have e3:IntKind.u64.wrap 4573923408821661840=4573923408821661840:=by decide
 go_enter func223,ntmps223;go_wp2;go_ret;exact⟨rfl,rfl⟩
theorem AL(w:World)(hT:Tab w):Calls prog 190 #[.int .u64 16] w fun e W'=>e=.returned (.int .i64 4)/\W'=w:=by go_enter func190,ntmps190;go_wp2_with fail;refine(JQ w hT).mono ?_;rintro e w1 ⟨rfl,rfl⟩;go_wp2;go_ret;exact⟨rfl,rfl⟩
theorem BA(w:World):Calls prog 189 #[.int .i64 16] w fun e W'=>e=.returned (.bool true)/\W'=w:=by go_enter func189,ntmps189;go_wp2;go_ret;exact⟨rfl,rfl⟩
theorem aX{P:Program}{ops:Array Oper}{Q:Exit->Act->World->Prop}{a:Act}{w:World}{rest:List Oper}{o:Oper}(hg:o.guard=none)(ty:TypeId)(ho:o.op=.alloc ty)(z:Array Value)
  (hz:∀ w,(zeroValue ty).run P w=.ok (.agg z) w)
  (h:wpList P ops Q rest (a.put o.dst (.pointer (some ⟨w.heap.size,0,none⟩))) (w.alloc (.cells z ty))):wpList P ops Q (o::rest) a w:=by
 refine wpList_plain hg fun K hK=>?_;unfold Oper.wp execOp;simp only[ho];simp[Instr.alloc,hz,go_sem];exact hK _ _ h
def ig(n:Nat):Int:=if n<10 then 48+n else 87+n
def hxf:Nat->Nat->List Int
 | 0,n=>[ig n]
 | f+1,n=>if n<16 then [ig n] else hxf f (n / 16)++[ig (n % 16)]
theorem kN(n:Nat):ig n=dgc false n:=by unfold ig dgc;split <;> simp
theorem Ib{n:Nat}(h:n<65536):hxf 8 n=aM false false n:=by
 unfold aM dgs;simp only[Bool.false_eq_true,if_false];by_cases h1:n<16
 ·rw[hxf,if_pos h1,if_pos h1];simp[kN]
 ·by_cases h2:n<256
  ·rw[hxf,if_neg h1,hxf,if_pos (by omega),if_neg h1,if_pos h2];simp[kN]
  ·by_cases h3:n<4096
   ·rw[hxf,if_neg h1,hxf,if_neg (by omega),hxf,if_pos (by omega),if_neg h1,if_neg h2,if_pos h3];have e1:n / 16 / 16=n / 256:=by omega
    simp[kN,e1]
   ·rw[hxf,if_neg h1,hxf,if_neg (by omega),hxf,if_neg (by omega),hxf,if_pos (by omega),if_neg h1,if_neg h2,if_neg h3];have e1:n / 16 / 16 / 16=n / 4096:=by omega
    have e2:n / 16 / 16 % 16=n / 256 % 16:=by omega
    simp[kN,e1,e2]
theorem rJ:∀(d:Nat) (h:d<16),(((⟨#[48,49,50,51,52,53,54,55,56,57,97,98,99,100,101,102,103,104,105,106,107,108,109,110,111,112,113,114,115,116,117,118,119,120,121,122]⟩:ByteArray)[d]'(lt_of_lt_of_le h (by decide))).toNat:Int)=ig d:=by decide
theorem drop_set(ys:List Value)(I:Nat)(x:Int)(ds:List Int)(h:I<ys.length)(hd:ys.drop (I+1)=ds.map (Value.int .u8)):(ys.set I (.int .u8 x)).drop I=(x::ds).map (Value.int .u8):=by rw[List.drop_eq_getElem_cons (by simpa using h),List.getElem_set_self,List.drop_set_of_lt (by omega),hd];rfl
def szU(k m:Nat):Prop:=(k=0/\m<=65535)\/(k=1/\m<=4095)\/(k=2/\m<=255)\/(k=3/\m<=15)
theorem Ov{k m:Nat}(h:szU k m):m<=65535/\k<=3:=by unfold szU at h;omega
theorem EC{k m:Nat}(h:szU k m)(hm:16<=m):szU (k+1) (m / 16)/\k<=2:=by
 rcases h with⟨rfl,h⟩ | ⟨rfl,h⟩ | ⟨rfl,h⟩ | ⟨rfl,h⟩
 ·exact⟨.inr (.inl ⟨rfl,by omega⟩),by omega⟩
 ·exact⟨.inr (.inr (.inl ⟨rfl,by omega⟩)),by omega⟩
 ·exact⟨.inr (.inr (.inr ⟨rfl,by omega⟩)),by omega⟩
 ·omega
theorem jq(g i j:Nat):(⟨g,i,none⟩:Addr).add j=⟨g,i+j,none⟩:=by unfold Addr.add;split <;> simp_all
theorem Kn(g I:Nat)(hI:I<65)(W:World):(Instr.sliceAt 203 (.pointer (some ⟨g,0,none⟩)) (some (.int .i64 (I:Int))) none none).run prog W=.ok (.slice (some ⟨g,I,none⟩) (65 - I) (65 - I)) W:=by
 have hl:prog.arrayLen 203=65:=by kernel_rfl
 rw[run_sliceAt_array_l W 203 ⟨g,0,none⟩ (by kernel_rfl) .i64 (I:Int) (by omega) (by rw[hl];omega),hl];have hs:(sizeOf (prog.elem 203)).run prog W=.ok 1 W:=by kernel_rfl
 rw[hs];simp only[Result.andThen,slicedAt,Int.toNat_natCast,Nat.mul_one];rw[if_neg (by omega),jq,zero_add]
theorem dB(ns:List Int)(h:∀ x∈ns,0<=x/\x<=255):(ns.map fun n=>UInt8.ofNat n.toNat).map (fun c=>(c.toNat:Int))=ns:=by
 rw[map_map]
 conv=>rhs;rw[<-map_id ns]
 apply List.map_congr_left;intro x hx;have:=h x hx;simp;omega
theorem tI(W:World)(g I n c:Nat)(ns:List Int)(hn:ns.length=n)(hb:∀ x∈ns,0<=x/\x<=255)(hc:∀ j,j<n->W.cell? ⟨g,I+j,none⟩=some (.int .u8 (ns[j]?.getD 0))):∃ t:ByteArray,(convert 36 9 (.slice (some ⟨g,I,none⟩) n c)).run prog W=.ok (.string t) W/\bn t=ns:=by
 subst hn;refine⟨⟨(ns.map fun n=>UInt8.ofNat n.toNat).toArray⟩,?_,?_⟩
 ·have:=run_convert_bytes_back (P:=prog) W 36 9 5 ⟨g,I,none⟩ c (ns.map fun n=>UInt8.ofNat n.toNat) underlying36 underlying5 underlying9 (by
    intro j hj
    have hj':j<ns.length:=by simpa using hj
    rw[jq,hc j hj',getElem?_eq_getElem hj']
    have hbj:=hb ns[j] (getElem_mem hj')
    simp only[getD_some,List.getElem_map,UInt8.toNat_ofNat']
    congr 2
    omega)
  rw[length_map]at this;exact this
 ·unfold bn;simp only;exact dB ns hb
theorem jS{n:Nat}(h:n<65536):∀ x∈aM false false n,0<=x/\x<=255:=fun x hx=>by have:=kP h hx;omega
open F (hid)
theorem Bts.form{e:TypeId}{w:World}{base:Nat}{v:Value}{l:List Int}(h:Bts e w base v l):∃ p n c,v=.slice p n c:=by
 rcases h with⟨rfl,rfl⟩ | ⟨g,cap,cur,fz,rfl,_⟩
 ·exact⟨_,_,_,rfl⟩
 ·exact⟨_,_,_,rfl⟩
theorem Ia:(prog.info? 5).map (fun i=>(i.zero,i.size,i.bytes))=some (some (.int .u8 0),1,1):=by kernel_rfl
theorem iJ{w w1 w2:World}{row:Option Nat}(h:Below w.heap.size w w1)(g:w1.grownBy w2 row):w.grownBy w2 row :=
 ⟨g.os.trans h.os,g.tape.trans h.tape,g.output.trans h.output,le_trans h.size g.size,fun k hk hr=>(g.block k (lt_of_lt_of_le hk h.size) hr).trans (h.block k hk)⟩
theorem Dr(base:Nat)(v:Value)(l:List Int)(u:Nat)(hu:u<65536)(w:World)(hT:Tab w)(hn:l.length<=10000000)(aq:Bts 5 w base v l)(hb:base<=w.heap.size):
  Calls prog 135 #[v,.int .u64 u,.int .i64 16,.bool false,.bool true] w fun e W'=>∃ v',e=.returned (.tuple #[v',.string ⟨#[]⟩])/\Bts 5 W' base v' (l++aM false false u)/\w.grownBy W' v.ownBlock:=by
 obtain⟨i0,hi0,hz0,hz1,hz2⟩:=info_parts Ia;obtain⟨vp,vn,vc,hvv⟩:=aq.form;subst hvv;have HHX:=hid (Ib hu);have hlen4:=gj false false u;obtain⟨z,hzv,hzl⟩:∃ z:Array Value,(∀ w,(zeroValue 203).run prog w=.ok (.agg z) w)/\z.toList=List.replicate 65 (.int .u8 0):=⟨(List.replicate 65 (.int .u8 0)).toArray,(zero_of_info (P:=prog) (t:=203) (n:=65) (by kernel_rfl)).1,rfl⟩;go_enter func135,ntmps135;go_wp2_with((refine aX rfl 203 rfl z hzv ?_));refine(BA _).mono ?_;rintro e w1 ⟨rfl,rfl⟩;go_wp2_with fail;refine(AL _ (hT.below ((Below.refl _ w).alloc (le_refl _) _) (le_refl _))).mono ?_;rintro e w1 ⟨rfl,rfl⟩;go_wp2_with fail;have hzs:z.size=65:=by rw[<-length_toList,hzl];simp
 have hz:(w.alloc (.cells z 203)).ownsRow w.heap.size 203 1 (.slice (some ⟨w.heap.size,0,none⟩) 65 65) 65 (List.replicate 65 (.int .u8 0)) :=
  ⟨by simp,.inr ⟨w.heap.size,65,z,rfl,le_refl _,heap_alloc_new w _,le_refl _,by decide,hzs,by rw[hzl];rfl⟩⟩
 go_loopw [1,13] (fun a i wr=>∃(k I m:Nat) (ds:List Int) (ys:List Value),a=.int .u64 (m:Int)/\i=.int .i64 (I:Int)/\I+k=65/\szU k m/\wr.ownsRow w.heap.size 203 1 (.slice (some ⟨w.heap.size,0,none⟩) 65 65) 65 ys/\Hid (ys.drop I=ds.map (Value.int .u8))/\Hid (hxf 8 u=hxf (8 - k) m++ds)/\Below w.heap.size w wr)
  (fun a _ _=>(intOf a).toNat)
 case atStart=>exact⟨0,65,u,[],List.replicate 65 (.int .u8 0),rfl,rfl,rfl,.inl ⟨rfl,by omega⟩,hz,by show _=_;rw[List.drop_eq_nil_of_le (by simp)];rfl,by show _=_;simp,(Below.refl _ w).alloc (le_refl _) _⟩
 case round =>
  obtain⟨k,I,m,ds,ys,rfl,rfl,hIk,hsz,hr,HD,HH,hB⟩:=hrel;have hm:=Ov hsz;have HI:=hid hIk;have hI1:60<=I:=by omega
  have hI2:I<=65:=by omega
  clear hIk hz;by_cases h16:16<=m
  ·have hand:bits BinOp.and IntKind.u64 (m:Int) 15=((m % 16:Nat):Int):=by have:=u64_and_nat m 15 (by omega) (by omega);rw[show m &&& 15=m % 16 from Nat.and_two_pow_sub_one_eq_mod m 4]at this;exact this
   obtain⟨I',rfl⟩:∃ I',I=I'+1:=⟨I - 1,by omega⟩;have h16':(16:Int)<=(m:Int):=by omega
   obtain⟨y,hy⟩:∃ y,wr.cell? ⟨w.heap.size,I',none⟩=some y:=⟨_,by rw[hr.cellAt I' (by omega),getElem?_eq_getElem (by rw[hr.1];omega)]⟩;have hfz:=hr.frozenAt I';have b1:((m % 16:Nat):Int)<36:=by omega
   have b2:(I':Int)<65:=by omega
   go_wp2_with fail
   go_roundw
   case rel =>
    have e:=rJ (m % 16) (by omega);rw[e];have hst:=hr.stored I' (.int .u8 (ig (m % 16)));have hsz2:=EC hsz h16;refine⟨k+1,I',m / 16,ig (m % 16)::ds,ys.set I' (.int .u8 (ig (m % 16))),by rw[Int.natCast_ediv];rfl,rfl,by have:=HI.out;omega,hsz2.1,hst.1,?_,?_,hB.setCell (p:=⟨w.heap.size,I',none⟩) (le_refl _) _⟩
    ·show _=_;exact drop_set ys I' _ ds (by rw[hr.1];omega) HD.out
    ·show _=_;rw[HH.out,show 8 - k=(8 - (k+1))+1 by omega,hxf,if_neg (by omega),List.append_assoc];rfl
   case measure=>simp[intOf];omega
  ·obtain⟨I',rfl⟩:∃ I',I=I'+1:=⟨I - 1,by omega⟩;have h16':¬ (16:Int)<=(m:Int):=by omega
   obtain⟨y,hy⟩:∃ y,wr.cell? ⟨w.heap.size,I',none⟩=some y:=⟨_,by rw[hr.cellAt I' (by omega),getElem?_eq_getElem (by rw[hr.1];omega)]⟩;have hfz:=hr.frozenAt I';have b1:(m:Int)<36:=by omega
   have b2:(I':Int)<65:=by omega
   have hst:=(hr.stored I' (.int .u8 (ig m))).1;have hb3:Below w.heap.size w (wr.setCell ⟨w.heap.size,I',none⟩ (.int .u8 (ig m))):=hB.setCell (p:=⟨w.heap.size,I',none⟩) (le_refl _) _;have hrow3:=aq.below hb3
   have hdrop:(ys.set I' (.int .u8 (ig m))).drop I'=(hxf 8 u).map (Value.int .u8):=by
    rw[drop_set ys I' _ ds (by rw[hr.1];omega) HD.out,HH.out]
    have:hxf (8 - k) m=[ig m]:=by
     cases h:8 - k with
     | zero=>rfl
     | succ f=>rw[hxf,if_pos (by omega)]
    rw[this];rfl
   rw[HHX.out]at hdrop;have hlen:(aM false false u).length=65 - I':=by have:=congrArg List.length hdrop;rw[length_drop,List.length_set,hr.1,length_map]at this;omega
   have hnews:∀(j:Nat) (x:Value),(bys (aM false false u))[j]? = some x->(wr.setCell ⟨w.heap.size,I',none⟩ (.int .u8 (ig m))).cell? ((⟨w.heap.size,I',none⟩:Addr).add j)=some x:=by
    intro j x hj;have hj1:j<65 - I':=by rw[<-hlen,<-bQ];exact(List.getElem?_eq_some_iff.1 hj).1
    rw[jq,hst.cellAt (I'+j) (by omega),<-hj];unfold bys;rw[<-hdrop,List.getElem?_drop]
   have hsb:base<=(wr.setCell ⟨w.heap.size,I',none⟩ (.int .u8 (ig m))).heap.size:=le_trans hb hb3.size;have hdg:=rJ m (by omega);have HX:=hid hlen;clear hdrop hlen;have hsl:=Kn w.heap.size I' (by omega);obtain⟨L,hL⟩:∃ L,L=65 - I':=⟨_,rfl⟩;rw[<-hL]at hsl HX;have hL9:L<=65:=by omega
   have HN:=hid hnews;have HB3:=hid hb3;clear hL hnews hst hb3;go_wp2_with((at_builtin;refine fj _ rfl _ _ 36 rfl base 5 i0 underlying36 hi0 hz0 hz1 hz2 _ l rfl hrow3 ⟨w.heap.size,I',none⟩ L L (aM false false u) rfl HX.out HN.out (by omega) hsb ?_;intro v' w4 hown4 hgrow4));have hb4:=iJ HB3.out hgrow4;go_ret2;exact⟨v',rfl,hown4,hb4⟩
theorem xp(base:Nat)(v:Value)(l:List Int)(u:Nat)(hu:u<65536)(w:World)(hT:Tab w)(hn:l.length<=10000000)(aq:Bts 5 w base v l)(hb:base<=w.heap.size):
  Calls prog 130 #[v,.int .u64 u,.int .i64 16] w fun e W'=>∃ v',e=.returned v'/\Bts 5 W' base v' (l++aM false false u)/\w.grownBy W' v.ownBlock:=by
 obtain⟨vp,vn,vc,hvv⟩:=aq.form;subst hvv;go_enter func130,ntmps130;go_wp2_with fail;refine(Dr base _ l u hu w hT hn aq hb).mono ?_;rintro e w1 ⟨v',rfl,h1,h2⟩;go_wp2;go_ret;exact⟨v',rfl,h1,h2⟩
theorem mE(base:Nat)(v:Value)(l:List Int)(u:Nat)(hu:u<65536)(w:World)(hT:Tab w)(hn:l.length<=10000000)(aq:Bts 5 w base v l)(hb:base<=w.heap.size):
  Calls prog 70 #[v,.int .u64 u,.int .i64 16] w fun e W'=>∃ v',e=.returned v'/\Bts 5 W' base v' (l++aM false false u)/\w.grownBy W' v.ownBlock:=by
 obtain⟨vp,vn,vc,hvv⟩:=aq.form;subst hvv;go_enter func70,ntmps70;go_wp2_with fail;refine(xp base _ l u hu w hT hn aq hb).mono ?_;rintro e w1 ⟨v',rfl,h1,h2⟩;go_wp2;go_ret;exact⟨v',rfl,h1,h2⟩
def tl(a:List Nat)(f i:Nat):List Int:=ah 58 (((a.take i).drop f).map (aM false false))
theorem xD(a:List Nat)(f:Nat):tl a f f=[]:=by unfold tl;rw[List.drop_eq_nil_of_le (by rw[length_take];omega)];rfl
theorem zC{a:List Nat}{f i:Nat}(h8:a.length=8)(hf:f<=i)(hi:i<8):(((a.take (i+1)).drop f).map (aM false false))=(((a.take i).drop f).map (aM false false))++[aM false false (a[i]?.getD 0)]:=by rw[List.take_add_one,getElem?_eq_getElem (by omega)];rw[List.drop_append_of_le_length (by rw[length_take];omega),map_append];rfl
theorem Et{a:List Nat}{f:Nat}(h8:a.length=8)(hi:f<8):tl a f (f+1)=aM false false (a[f]?.getD 0):=by have h:=zC h8 (le_refl f) hi;unfold tl;rw[h,List.drop_eq_nil_of_le (by rw[length_take];omega)];rfl
theorem Ke{a:List Nat}{f i:Nat}(h8:a.length=8)(hf:f<i)(hi:i<8):tl a f (i+1)=tl a f i++[58]++aM false false (a[i]?.getD 0):=by have h:=zC h8 (Nat.le_of_lt hf) hi;unfold tl;rw[h,ru,if_neg];intro e;have:=congrArg List.length e;simp at this;omega
theorem Ep{a:List Nat}(h8:a.length=8)(f i:Nat):(tl a f i).length<=40:=by unfold tl;have h:=(cU ((a.take i).drop f)).1;rw[length_drop,length_take]at h;omega
theorem Tab.at{w w':World}{base:Nat}(h:Tab w)(hb:Below base w w')(hg:8<base):Tab w':=by unfold Tab at *;exact(hb.cell (p:=⟨8,15,none⟩) hg).trans h
theorem ck(w:World)(cs:Array Value)(t:TypeId):(w.alloc (.cells cs t)).heap[w.heap.size]? = some (.cells cs t (0,0)):=heap_alloc_new _ _
theorem uv(a0 a1 a2 a3 a4 a5 a6 a7:Nat)(hs:Small [a0,a1,a2,a3,a4,a5,a6,a7])(base:Nat)(v:Value)(l:List Int)(f n:Nat)(hf:f<=n)(hn8:n<=8)(w:World)(hT:Tab w)(hg:8<base)(hl:l.length<=1000000)(aq:Bts 5 w base v l)(hb:base<=w.heap.size):
  Calls prog 72 #[v,.agg #[.int .u16 a0,.int .u16 a1,.int .u16 a2,.int .u16 a3,.int .u16 a4,.int .u16 a5,.int .u16 a6,.int .u16 a7],.int .i64 (f:Int),.int .i64 (n:Int)] w fun e W'=>∃ v',e=.returned v'/\Bts 5 W' base v' (l++tl [a0,a1,a2,a3,a4,a5,a6,a7] f n)/\Below base w W':=by
 obtain⟨vp,vn,vc,hvv⟩:=aq.form;subst hvv;obtain⟨i0,hi0,hz0,hz1,hz2⟩:=info_parts Ia;have HB0:Hid (Below w.heap.size w (w.alloc (.cells #[.int .u16 a0,.int .u16 a1,.int .u16 a2,.int .u16 a3,.int .u16 a4,.int .u16 a5,.int .u16 a6,.int .u16 a7] 25))):=(Below.refl _ w).alloc (le_refl _) _;have HA0:Hid ((w.alloc (.cells #[.int .u16 a0,.int .u16 a1,.int .u16 a2,.int .u16 a3,.int .u16 a4,.int .u16 a5,.int .u16 a6,.int .u16 a7] 25)).heap[w.heap.size]? = some (.cells (av [a0,a1,a2,a3,a4,a5,a6,a7]).toArray 25 (0,0))):=ck w _ _;have HL8:Hid ([a0,a1,a2,a3,a4,a5,a6,a7].length=8):=rfl;have HSM:=hid hs;have HT0:=hid (hT.below HB0.out (le_refl _));have HR0:=hid (aq.below HB0.out);have HBB:=hid (HB0.out.mono hb);obtain⟨a,ha⟩:=Ex' ([a0,a1,a2,a3,a4,a5,a6,a7]);rw[ha]at HA0 HL8 HSM ⊢;have HSV:Hid (∀ j,j<8->a[j]?.getD 0<65536):=fun j hj=>by rw[getElem?_eq_getElem (by rw[HL8.out];exact hj)];exact HSM.out _ (getElem_mem _)
 have HNIL:=hid (xD a f);have HLEN:=hid (Ep HL8.out f);clear hs hT aq;go_enter func72,ntmps72;go_wp2_with fail;obtain⟨w1,hw1⟩:=Ex' (w.alloc (.cells #[.int .u16 a0,.int .u16 a1,.int .u16 a2,.int .u16 a3,.int .u16 a4,.int .u16 a5,.int .u16 a6,.int .u16 a7] 25));rw[hw1]at HB0 HA0 HT0 HR0 HBB ⊢;obtain⟨arg,harg⟩:=Ex' (Value.agg #[.int .u16 a0,.int .u16 a1,.int .u16 a2,.int .u16 a3,.int .u16 a4,.int .u16 a5,.int .u16 a6,.int .u16 a7]:Value);rw[harg];clear hw1 ha harg HB0
 go_loopw [0,9] (fun v0 v9 wr=>∃(i n0 c0:Nat) (p0:Option Addr),f<=i/\i<=n/\v0=.slice p0 n0 c0/\v9=.int .i64 (i:Int)/\Hid (Bts 5 wr base (.slice p0 n0 c0) (l++tl a f i))/\Hid (wr.heap[w.heap.size]? = some (.cells (av a).toArray 25 (0,0)))/\Hid (Tab wr)/\Hid (Below base w wr)) (fun _ v9 _=>n - (intOf v9).toNat)
 case atStart=>exact⟨f,vn,vc,vp,le_refl _,hf,rfl,rfl,by show Bts _ _ _ _ _;rw[HNIL.out,append_nil];exact HR0.out,HA0,HT0,HBB⟩
 case round =>
  obtain⟨i,n0,c0,p0,hfi,hin,rfl,rfl,HR,HA,HT,HB⟩:=hrel;have hsb:base<=wr.heap.size:=le_trans hb HB.out.size;by_cases hlt:i<n
  ·have hltz:(i:Int)<(n:Int):=by omega
   have hi8:i<8:=by omega
   have hi8z:(i:Int)<8:=by omega
   have hsrc:=cD HA.out (j:=i) (by rw[HL8.out];exact hi8);have hv:=HSV.out i hi8;have HNX:=hid (fun h=>Ke (a:=a) (f:=f) (i:=i) HL8.out h hi8);have HFI:=hid (fun(h:f=i)=>show tl a f (i+1)=aM false false (a[i]?.getD 0) by subst h;exact Et HL8.out hi8);have hll:=HLEN.out i;obtain⟨x,hx1⟩:=Ex' (a[i]?.getD 0);rw[hx1]at hsrc hv HNX HFI;have hvz:(x:Int)<65536:=by omega
   have hzA:w.heap.size<wr.heap.size:=(Array.getElem?_eq_some_iff.1 HA.out).1;have HXX:=hid hx1;clear hx1;by_cases hfr:f<i
   ·have hfz:(f:Int)<(i:Int):=by omega
    have HN2:=hid (HNX.out hfr);have HBu:Hid (Below wr.heap.size wr (wr.alloc (.cells #[.int .u8 58] 5))):=(Below.refl _ wr).alloc (le_refl _) _;have HRu:=hid (HR.out.below HBu.out);have HAu:Hid ((wr.alloc (.cells #[.int .u8 58] 5)).heap[w.heap.size]? = some (.cells (av a).toArray 25 (0,0))):=(HBu.out.block _ hzA).trans HA.out
    have HNu:Hid (∀ j u,(bys [58])[j]? = some u->(wr.alloc (.cells #[.int .u8 58] 5)).cell? ((⟨wr.heap.size,0,none⟩:Addr).add j)=some u):=by
     intro j u hj;match j,hj with
     | 0,hj =>
      rw[jq];have e:(bys [58])[0]? = some (.int .u8 58):=rfl;rw[e]at hj;rw[<-hj];have:=ck wr #[.int .u8 58] 5;simp only[World.cell?,this];rfl
     | j+1,hj=>simp[bys]at hj
    have hsu:base<=(wr.alloc (.cells #[.int .u8 58] 5)).heap.size:=le_trans hsb HBu.out.size;have hlb:(l++tl a f i).length+1<=2000000:=by rw[length_append];omega
    have HLB:=hid hlb;clear HNX HFI hlb;go_wp2_with((at_builtin;refine fj _ rfl _ _ 36 rfl base 5 i0 underlying36 hi0 hz0 hz1 hz2 _ (l++tl a f i) rfl HRu.out ⟨wr.heap.size,0,none⟩ 1 1 [58] rfl rfl HNu.out (by have:=HLB.out;omega) hsu ?_;intro v' w4 hown4 hgrow4;obtain⟨p4,n4,c4,rfl⟩:=hown4.form;have hA4:=(hgrow4.block _ (lt_of_lt_of_le hzA HBu.out.size) (HRu.out.apart HAu.out (by decide))).trans HAu.out;have hsrc4:=cD hA4 (j:=i) (by rw[HL8.out];exact hi8);rw[HXX.out]at hsrc4));have HB4:=hid ((HBu.out.mono hsb).grown hgrow4 hsu (fun k hk=>(HRu.out.lt k hk).1));have HA4:=hid hA4;have hs4:base<=w4.heap.size:=le_trans hsu hgrow4.size;have hl4:(l++tl a f i++[58]).length<=10000000:=by have:=HLB.out;rw[length_append];simp only[length_cons,length_nil];omega
    have HAP:=hid (mE base _ (l++tl a f i++[58]) x hv w4 (HT.out.at HB4.out hg) hl4 hown4 hs4);have HO4:=hid hown4;clear hA4 hgrow4 hown4 hl4 HRu HAu HNu HBu hsrc HR HA;refine HAP.out.mono ?_;rintro e w5 ⟨v5,rfl,h5,g5⟩;obtain⟨p5,n5,c5,rfl⟩:=h5.form;have HA5:Hid (w5.heap[w.heap.size]? = some (.cells (av a).toArray 25 (0,0))):=(g5.block _ (Array.getElem?_eq_some_iff.1 HA4.out).1 (HO4.out.apart HA4.out (by decide))).trans HA4.out;have HB5:=hid (HB4.out.grown g5 hs4 (fun k hk=>(HO4.out.lt k hk).1));have HT5:=hid (HT.out.at HB5.out hg)
    have HR5:Hid (Bts 5 w5 base (.slice p5 n5 c5) (l++tl a f (i+1))):=by
     show Bts _ _ _ _ _;rw[HN2.out];have e:l++(tl a f i++[58]++aM false false x)=l++tl a f i++[58]++aM false false x:=by simp
     rw[e];exact h5
    have HB6:=hid (HB.out.trans HB5.out);clear HB5 HB4 HA4 HO4 HAP h5 g5 HN2 HT HB hsrc4;go_wp2_with fail
    go_roundw
    case rel=>exact⟨i+1,n5,c5,p5,by omega,by omega,rfl,by go_num,HR5,HA5,HT5,HB6⟩
    case measure=>simp[intOf];omega
   ·have hfe:f=i:=by omega
    have hfz:¬ (f:Int)<(i:Int):=by omega
    have HN2:=hid (HFI.out hfe);have HNL:Hid (tl a f i=[]):=by show _=_;rw[<-hfe];exact HNIL.out
    have HAP:=hid (mE base _ (l++tl a f i) x hv wr HT.out (by rw[length_append];omega) HR.out hsb);clear HNX HFI hfe;go_wp2_with fail;refine HAP.out.mono ?_;rintro e w5 ⟨v5,rfl,h5,g5⟩;obtain⟨p5,n5,c5,rfl⟩:=h5.form;have HA5:Hid (w5.heap[w.heap.size]? = some (.cells (av a).toArray 25 (0,0))):=(g5.block _ hzA (HR.out.apart HA.out (by decide))).trans HA.out;have HB5:=hid ((Below.refl base wr).grown g5 hsb (fun k hk=>(HR.out.lt k hk).1));have HT5:=hid (HT.out.at HB5.out hg);have HR5:Hid (Bts 5 w5 base (.slice p5 n5 c5) (l++tl a f (i+1))):=by show Bts _ _ _ _ _;rw[HN2.out];rw[HNL.out,append_nil]at h5;exact h5
    have HB6:=hid (HB.out.trans HB5.out);clear HB5 HAP h5 g5 HN2 HNL HT HB hsrc HR HA;go_wp2_with fail
    go_roundw
    case rel=>exact⟨i+1,n5,c5,p5,by omega,by omega,rfl,by go_num,HR5,HA5,HT5,HB6⟩
    case measure=>simp[intOf];omega
  ·have hin2:i=n:=by omega
   have hltz:¬ (i:Int)<(n:Int):=by omega
   have HR5:Hid (Bts 5 wr base (.slice p0 n0 c0) (l++tl a f n)):=by rw[<-hin2];exact HR
   clear HR hin2;go_wp2;go_ret;exact⟨_,rfl,HR5.out,HB.out⟩
theorem BV{a:List Nat}(h:a.length=8):∃ a0 a1 a2 a3 a4 a5 a6 a7,a=[a0,a1,a2,a3,a4,a5,a6,a7]:=by
 match a,h with
 | [a0,a1,a2,a3,a4,a5,a6,a7],_=>exact⟨a0,a1,a2,a3,a4,a5,a6,a7,rfl⟩
theorem Ew(a:List Nat)(h8:a.length=8)(hs:Small a)(base:Nat)(v:Value)(l:List Int)(f n:Nat)(hf:f<=n)(hn8:n<=8)(w:World)(hT:Tab w)(hg:8<base)(hl:l.length<=1000000)(aq:Bts 5 w base v l)(hb:base<=w.heap.size):
  Calls prog 72 #[v,.agg (av a).toArray,.int .i64 (f:Int),.int .i64 (n:Int)] w fun e W'=>∃ v',e=.returned v'/\Bts 5 W' base v' (l++tl a f n)/\Below base w W':=by
 obtain⟨a0,a1,a2,a3,a4,a5,a6,a7,rfl⟩:=BV h8;exact uv a0 a1 a2 a3 a4 a5 a6 a7 hs base v l f n hf hn8 w hT hg hl aq hb
end X
end Go.Proofs.YtmkompnhefhngaaGreatDoor
namespace Go.Proofs
open Go.Shelf Go.RowKit
shelf_lay Lays.n149 Nm 149 at Tryz as Tryz.laysLastX
shelf_lay Lays.n144 Nm 144 at Tryz as Tryz.laysConX
end Go.Proofs
namespace Go.Proofs.YtmkompnhefhngaaGreatDoor
open Tryz Go.RowKit
namespace X
open F (hx bn aa bJ cM hid aw)
theorem jj(s:ByteArray)(j:Nat)(h:j<s.size):((s.data[j]!).toNat:Int)=(bn s)[j]?.getD 0:=by rw[bJ s j h];have h5:j<s.data.size:=h;rw[getElem!_pos s.data j h5];rfl
theorem yp(s:ByteArray):∃ k:Nat,k<=s.size/\Lib.lastIndexByte s 58=(k:Int) - 1/\¬ 58∈(bn s).drop k/\((bn s).take k=[]\/∃ Y,(bn s).take k=Y++[58]):=by
 have hl:=aa s;rcases Lib.lastIndexByte_spec s 58 with⟨h1,h2⟩ | ⟨i,hi,h1,h2,h3⟩
 ·refine⟨0,zero_le _,by rw[h1];rfl,?_,.inl rfl⟩;rw[List.drop_zero];intro h;obtain⟨j,hj,e⟩:=List.mem_iff_getElem.1 h;have:=h2 j (by omega);rw[jj s j (by omega),getElem?_eq_getElem hj]at this;exact this e
 ·refine⟨i+1,by omega,by rw[h1];omega,?_,.inr ⟨(bn s).take i,?_⟩⟩
  ·intro h;obtain⟨j,hj,e⟩:=List.mem_iff_getElem.1 h;rw[length_drop]at hj;rw[List.getElem_drop]at e;have:=h3 (i+1+j) (by omega) (by omega);rw[jj s _ (by omega),getElem?_eq_getElem (by omega)]at this;exact this e
  ·rw[lD _ _ (by omega),<-jj s i hi,h2]
theorem MB(t:ByteArray):decide (0<=Lib.indexByte t.data.toList 46)=decide (46∈bn t):=by
 apply decide_eq_decide.2;have hm:(46:Int)∈bn t↔(46:UInt8)∈t.data.toList:=du (b:=46) (l:=t.data.toList);rw[hm];have hge:=Lib.indexByte_ge t.data.toList 46;constructor
 ·intro h;obtain⟨i,hi⟩:∃ i:Nat,Lib.indexByte t.data.toList 46=i:=⟨(Lib.indexByte t.data.toList 46).toNat,by omega⟩;exact List.mem_of_getElem? (Lib.indexByte_some hi).1
 ·intro h;by_cases hm:Lib.indexByte t.data.toList 46=-1
  ·obtain⟨j,hj,e⟩:=List.mem_iff_getElem.1 h;exact absurd (by rw[getElem?_eq_getElem hj,e]) (Lib.indexByte_none hm j)
  ·omega
theorem Ca(s:ByteArray)(k:Nat)(hk:Lib.lastIndexByte s 58=(k:Int) - 1)(hs:s.size<=1000000000)(w:World):Calls prog 162 #[.string s,.int .u8 58] w fun e W'=>e=.returned (.int .i64 ((k:Int) - 1))/\W'=w:=by
 have hf:Tryz.laysLastX_ren.f 149=162:=by kernel_rfl
 have h:=Any.strings_LastIndexByte Tryz.laysLastX s 58 (by omega) w;rw[hf,hk]at h;exact h
theorem nj(t:ByteArray)(b:Bool)(hb:decide (46∈bn t)=b)(w:World):Calls prog 17 #[.string t,.string ⟨#[46]⟩] w fun e W'=>e=.returned (.bool b)/\W'=w:=by
 have hf:Tryz.laysConX_ren.f 144=17:=by kernel_rfl
 have h:=Any.strings_Contains_one Tryz.laysConX t 46 w;rw[hf,MB,hb]at h;exact h
def JI(l:List Int)(s:ByteArray)(e:Ending):Prop:=∃ X p,l=X++p/\¬ 58∈p/\(X=[]\/∃ Y,X=Y++[58]) /\
 ((¬ 46∈p/\e=.returned (.tuple #[.string s,.bool true]))\/(46∈p/\dt p=none/\e=.returned (.tuple #[.string ⟨#[]⟩,.bool false])) \/
  (46∈p/\∃(h l:Nat) (t:ByteArray),h<65536/\l<65536/\dt p=some [h,l]/\bn t=X++(aM false false h++58::aM false false l)/\t.size<=s.size+10/\e=.returned (.tuple #[.string t,.bool true])))
theorem qe(s:ByteArray)(k:Nat)(hk:k<=s.size):bn (s.extract 0 k)=(bn s).take k:=by rw[za s 0 k (zero_le _) hk];simp
theorem QU(h l:Nat)(hh:h<65536)(hl:l<65536)(base:Nat)(v:Value)(x:List Int)(w:World)(hT:Tab w)(hg:8<base)(hx:x.length<=1000000)(aq:Bts 5 w base v x)(hb:base<=w.heap.size):
  Calls prog 72 #[v,.agg #[.int .u16 h,.int .u16 l,.int .u16 0,.int .u16 0,.int .u16 0,.int .u16 0,.int .u16 0,.int .u16 0],.int .i64 0,.int .i64 2] w fun e W'=>∃ v',e=.returned v'/\Bts 5 W' base v' (x++(aM false false h++58::aM false false l))/\Below base w W' :=
 uv h l 0 0 0 0 0 0 (by intro y hy;simp at hy;omega) base v x 0 2 (by omega) (by omega) w hT hg hx aq hb
theorem dX(s:ByteArray)(hs:s.size<=100000)(w:World)(hE:Er w)(hM:Mx w)(hT:Tab w):Calls prog 107 #[.string s] w fun e W'=>JI (bn s) s e/\Below w.heap.size w W':=by
 obtain⟨k,hks,hk,h58,hX⟩:=yp s;have HLB:=hid (Ca s k hk (by omega));have hbp:=aw s k;have hbx:=qe s k hks;have hcat:bn s=(bn s).take k++(bn s).drop k:=(List.take_append_drop k (bn s)).symm
 have HMK:Hid (∀ e,((¬ 46∈(bn s).drop k/\e=.returned (.tuple #[.string s,.bool true]))\/(46∈(bn s).drop k/\dt ((bn s).drop k)=none/\e=.returned (.tuple #[.string ⟨#[]⟩,.bool false])) \/
  (46∈(bn s).drop k/\∃(h l:Nat) (t:ByteArray),h<65536/\l<65536/\dt ((bn s).drop k)=some [h,l]/\bn t=(bn s).take k++(aM false false h++58::aM false false l)/\t.size<=s.size+10/\e=.returned (.tuple #[.string t,.bool true])))->JI (bn s) s e):=fun e h=>⟨_,_,hcat,h58,hX,h⟩
 have hpz:(s.extract k s.size).size=s.size - k:=by simp
 have hxz:(s.extract 0 k).size=k:=by simp;omega
 have HCO:=hid (fun b hb=>nj (s.extract k s.size) b hb);have HPA:=hid (oE (s.extract k s.size) (by omega) w hE hM);have HBX:=hid (fun(t:ByteArray) (j:Nat) (hj:j<t.size)=>cM hj);have hgT:=Lib.lt_of_cell (show w.cell? ⟨8,15,none⟩=some (.int .u8 4) from hT);rw[hbp]at HCO HPA;have hcat2:((bn s).take k).length=k:=by rw[length_take,aa];omega
 have HXB:Hid (∀ x∈(bn s).take k,0<=x/\x<=255):=fun x hx=>by obtain⟨j,hj,e⟩:=List.mem_iff_getElem.1 (List.mem_of_mem_take hx);have:=cM (s:=s) (i:=j) (by rw[<-aa];exact hj);rw[getElem?_eq_getElem hj]at this;rw[<-e];exact this
 obtain⟨R,hR⟩:=Ex' (JI (bn s) s);rw[hR]at HMK ⊢;obtain⟨p,hp⟩:=Ex' ((bn s).drop k);obtain⟨x,hx⟩:=Ex' ((bn s).take k);rw[hp]at HMK HCO HPA;rw[hx]at HMK hbx hcat2 HXB;have HBXX:=hid hbx;have HCL:=hid hcat2;obtain⟨P,hP⟩:=Ex' (s.extract k s.size);have HPP:=hid hP;rw[hP]at HCO HPA;have hkz:(k:Int)<=(s.size:Int):=by omega
 clear hR hp hx hcat h58 hX hk hbp hbx hE hM hcat2 hpz hP HBX;by_cases hd:46∈p
 ·have HD:=hid hd;have HC1:=hid (HCO.out true (decide_eq_true hd));clear HCO hd;go_enter func107,ntmps107
  go_wp2_with(first
    | (go_at_call 162;refine(HLB.out _).mono ?_;rintro e w2 ⟨rfl,hw2⟩;obtain rfl:=hw2.symm)
    | (go_at_call 17;rw[HPP.out];refine(HC1.out _).mono ?_;rintro e w2 ⟨rfl,hw2⟩;obtain rfl:=hw2.symm))
  refine HPA.out.mono ?_;rintro e w1 ⟨hpr,B1⟩;have HB1:=hid B1;have HT1:=hid (hT.below B1 (le_refl _));have hz1:=B1.size;clear B1 HPA;rcases hpr with⟨h,l,hdt,hh,hl,rfl⟩ | ⟨hdt,rfl⟩
  ·have hcv:=Lib.run_convert_string_bytes (P:=prog) w1 9 36 5 (s.extract 0 k) (u:=.string) underlying9 underlying36 underlying5;have hbt:=xg w1 5 (s.extract 0 k) (by omega);have hb2:=xF w1 5 (s.extract 0 k);rw[HBXX.out]at hbt;rw[hxz]at hcv hbt;obtain⟨c,hc⟩:=Ex' (grownCap w1 k 0 5);obtain⟨W2,hW2⟩:=Ex' (Lib.bytesWorld w1 5 (s.extract 0 k));rw[hc,hW2]at hcv hbt;rw[hW2]at hb2;have HB2:=hid hb2;have HBT:=hid hbt;have HT2:=hid (HT1.out.below hb2 (le_refl _));have HDT:=hid hdt;have HTL:=hid (QU h l hh hl w1.heap.size _ x W2 HT2.out (by omega) (by rw[HCL.out];omega) HBT.out hb2.size);clear hc hW2 hbt hb2 hdt;go_wp2_with fail;refine HTL.out.mono ?_;rintro e w3 ⟨v',rfl,h3,B3⟩;have hlh:=gj false false h;have hll:=gj false false l;obtain⟨y,hy⟩:=Ex' (x++(aM false false h++58::aM false false l));have hylen:y.length<=k+10/\y≠[]:=by rw[<-hy];refine⟨?_,by simp⟩;simp only[length_append,length_cons,HCL.out];omega
   rw[hy]at h3
   have hyb:∀ b∈y,0<=b/\b<=255:=by
    intro b hb;rw[<-hy]at hb;rcases List.mem_append.1 hb with hb | hb
    ·exact HXB.out b hb
    ·rcases List.mem_append.1 hb with hb | hb
     ·exact jS hh b hb
     ·rcases List.mem_cons.1 hb with rfl | hb
      ·decide
      ·exact jS hl b hb
   obtain⟨g,c3,rfl,_,_,_,aY⟩:=h3.there hylen.2;obtain⟨t,hcv3,ht⟩:=tI w3 g 0 y.length c3 y rfl hyb (fun j hj=>by rw[zero_add];exact aY j hj);have hts:t.size<=s.size+10:=by rw[<-aa,ht];omega
   have HR:=hid (HMK.out (.returned (.tuple #[.string t,.bool true])) (.inr (.inr ⟨HD.out,h,l,t,hh,hl,HDT.out,by rw[ht,<-hy],hts,rfl⟩)));have HBF:Hid (Below w.heap.size w w3):=HB1.out.trans ((HB2.out.mono hz1).trans (B3.mono hz1));obtain⟨n3,hn3⟩:=Ex' y.length;rw[hn3]at hcv3 ⊢;clear hn3 hy hylen h3 hyb aY ht hts B3 HTL HMK HDT HD HBT HT2 HB2 HT1 HB1 hlh hll;go_wp2;go_ret2;exact⟨HR.out,HBF.out⟩
  ·have HR:=hid (HMK.out _ (.inr (.inl ⟨HD.out,hdt,rfl⟩)));clear HMK hdt;go_wp2;go_ret2;exact⟨HR.out,HB1.out⟩
 ·have HR:=hid (HMK.out _ (.inl ⟨hd,rfl⟩));have HC1:=hid (HCO.out false (decide_eq_false hd));clear HCO hd HMK HPA;go_enter func107,ntmps107
  go_wp2_with(first
    | (go_at_call 162;refine(HLB.out _).mono ?_;rintro e w2 ⟨rfl,hw2⟩;obtain rfl:=hw2.symm)
    | (go_at_call 17;rw[HPP.out];refine(HC1.out _).mono ?_;rintro e w2 ⟨rfl,hw2⟩;obtain rfl:=hw2.symm))
  go_ret2;exact⟨HR.out,Below.refl _ _⟩
end X
namespace U
def follow(c:Int):Int:=if 240<=c/\c<=244 then 3 else if 224<=c/\c<=239 then 2 else if 194<=c/\c<=223 then 1 else 0
def aU(c:Int):Int:=if c=224 then 160 else if c=240 then 144 else 128
def aQ(c:Int):Int:=if c=237 then 159 else if c=244 then 143 else 191
def ar(c:Int):Bool:=decide (0<=c/\c<=1114111/\(c<55296\/57343<c))
def bn(s:ByteArray):List Int:=s.data.toList.map fun c=>(c.toNat:Int)
def nxl:Nat->List Int->Nat->Int->Int->Int->Int×Nat×Bool
 | 0,_,n,r,_,_=>(r,n,true)
 | _+1,[],n,_,_,_=>(65533,n,false)
 | f+1,b::t,n,r,lo,hi=>if b<lo\/hi<b then (65533,n,false) else nxl f t (n+1) (r * 64+b % 64) 128 191
def nx:List Int->Int×Nat×Bool
 | []=>(0,0,false)
 | a::t=>if a<128 then (a,1,true) else if follow a=0 then (65533,1,false) else
   nxl (follow a).toNat t 1 (if follow a=1 then a % 32 else if follow a=2 then a % 16 else a % 8) (aU a) (aQ a)
theorem aa(s:ByteArray):(bn s).length=s.size:=by simp[bn]
theorem jm(s:ByteArray)(k:Nat)(h:k<s.size):(bn s).drop k=(s[k].toNat:Int)::(bn s).drop (k+1):=by
 have h':k<(bn s).length:=by rw[aa];exact h
 rw[List.drop_eq_getElem_cons h'];congr 1;simp[bn];rfl
theorem mD(s:ByteArray)(k:Nat)(h:s.size<=k):(bn s).drop k=[]:=by rw[List.drop_eq_nil_iff,aa];exact h
theorem nk(s:ByteArray)(h:0<s.size):bn s=(s[0].toNat:Int)::(bn s).drop 1:=by have:=jm s 0 h;simpa using this
theorem oH(s:ByteArray)(f k:Nat)(r lo hi:Int)(h:s.size<=k):nxl (f+1) ((bn s).drop k) k r lo hi=(65533,k,false):=by rw[mD s k h];rfl
theorem iX(s:ByteArray)(f k:Nat)(r lo hi:Int)(h:k<s.size)(hb:(s[k].toNat:Int)<lo\/hi<(s[k].toNat:Int)):nxl (f+1) ((bn s).drop k) k r lo hi=(65533,k,false):=by rw[jm s k h,nxl,if_pos hb]
theorem oI(s:ByteArray)(f k:Nat)(r lo hi:Int)(h:k<s.size)(hb:lo<=(s[k].toNat:Int))(hc:(s[k].toNat:Int)<=hi):
  nxl (f+1) ((bn s).drop k) k r lo hi=nxl f ((bn s).drop (k+1)) (k+1) (r * 64+(s[k].toNat:Int) % 64) 128 191:=by
 rw[jm s k h,nxl,if_neg (by omega)]
theorem Pp(s:ByteArray)(h:s.size=0):nx (bn s)=(0,0,false):=by have:bn s=[]:=List.length_eq_zero_iff.1 (by rw[aa];exact h);rw[this];rfl
theorem GB(s:ByteArray)(h:0<s.size)(ha:(s[0].toNat:Int)<128):nx (bn s)=((s[0].toNat:Int),1,true):=by rw[nk s h,nx,if_pos ha]
theorem Lt(s:ByteArray)(h:0<s.size)(ha:128<=(s[0].toNat:Int))(hf:follow (s[0].toNat:Int)=0):nx (bn s)=(65533,1,false):=by rw[nk s h,nx,if_neg (by omega),if_pos hf]
theorem sM(s:ByteArray)(h:0<s.size)(ha:128<=(s[0].toNat:Int))(m:Nat)(d:Int)(hf:follow (s[0].toNat:Int)=m)(hm:m=1/\d=32\/m=2/\d=16\/m=3/\d=8):
  nx (bn s)=nxl m ((bn s).drop 1) 1 ((s[0].toNat:Int) % d) (aU (s[0].toNat:Int)) (aQ (s[0].toNat:Int)):=by
 rw[nk s h,nx,if_neg (by omega),hf,if_neg (by omega)];rcases hm with⟨rfl,rfl⟩ | ⟨rfl,rfl⟩ | ⟨rfl,rfl⟩ <;> rfl
theorem kT(c:Int):(follow c=0)\/(follow c=1/\194<=c/\c<=223)\/(follow c=2/\224<=c/\c<=239)\/(follow c=3/\240<=c/\c<=244):=by
 unfold follow;by_cases h3:240<=c/\c<=244
 ·rw[if_pos h3];omega
 ·rw[if_neg h3];by_cases h2:224<=c/\c<=239
  ·rw[if_pos h2];omega
  ·rw[if_neg h2];by_cases h1:194<=c/\c<=223
   ·rw[if_pos h1];omega
   ·rw[if_neg h1];omega
theorem dG{k:IntKind}{a b:Int}(h:a=b):Ending.returned (.int k a)=.returned (.int k b):=by rw[h]
theorem Fc{k k':IntKind}{a b c d:Int}(h:a=b)(g:c=d):Ending.returned (.tuple #[.int k a,.int k' c])=.returned (.tuple #[.int k b,.int k' d]):=by rw[h,g]
theorem bF{a b:Bool}(h:a=b):Ending.returned (.bool a)=.returned (.bool b):=by rw[h]
theorem gR(c:Int)(h0:0<=c)(h1:c<=255)(w:World):
  Calls prog 183 #[.int .u8 c] w fun e w'=>e=.returned (.int .i64 (follow c))/\w'=w:=by
 go_enter func183,ntmps183;go_wp2;all_goals (go_ret;exact⟨dG (by unfold follow;(repeat' split) <;> omega),rfl⟩)
theorem jI(c:Int)(w:World):
  Calls prog 184 #[.int .u8 c] w fun e w'=>e=.returned (.tuple #[.int .u8 (aU c),.int .u8 (aQ c)])/\w'=w:=by
 go_enter func184,ntmps184;go_wp2;all_goals (go_ret2;exact⟨Fc (by simp only[beq_iff_eq,beq_eq_false_iff_ne]at *;unfold aU;(repeat' split) <;> omega) (by simp only[beq_iff_eq,beq_eq_false_iff_ne]at *;unfold aQ;(repeat' split) <;> omega),rfl⟩)
theorem kK(c:Int)(w:World):
  Calls prog 230 #[.int .i32 c] w fun e w'=>e=.returned (.bool (ar c))/\w'=w:=by
 go_enter func230,ntmps230;go_wp2;all_goals (go_ret;exact⟨bF (by unfold ar;rw[Bool.eq_iff_iff];simp;try omega),rfl⟩)
theorem cZ(c:Int)(h0:0<=c)(h1:c<=1114111)(w:World):
  Calls prog 138 #[.int .i32 c] w fun e w'=>e=.returned (.int .u8 (128+c % 64))/\w'=w:=by
 go_enter func138,ntmps138;go_wp2;go_ret;exact⟨rfl,rfl⟩
theorem toList_data(s:ByteArray):s.toList=s.data.toList:=toList_eq s
theorem ay(s:ByteArray)(h:0<s.size):s.toList.isEmpty=false:=by rw[toList_data,<-Bool.not_eq_true,isEmpty_iff];intro hh;have h2:=congrArg List.length hh;rw[length_toList]at h2;have h3:s.data.size=s.size:=rfl;simp only[length_nil]at h2;omega
theorem aC(s:ByteArray)(h:s.size=0):s.toList.isEmpty=true:=by rw[toList_data,isEmpty_iff];exact List.length_eq_zero_iff.1 (by simpa using h)
theorem yn(c:Int):128<=aU c/\aU c<=160:=by unfold aU;(repeat' split) <;> omega
theorem td(c:Int):143<=aQ c/\aQ c<=191:=by unfold aQ;(repeat' split) <;> omega
theorem yi(s:ByteArray)(w:World)(hs:s.size<=9223372036854775807)(hp:0<s.size)(he:s.toList.isEmpty=false)(h1:194<=(s[0].toNat:Int))(h2:(s[0].toNat:Int)<=223)(hf0:follow (s[0].toNat:Int)=1):
  Calls prog 121 #[.string s] w fun e w'=>e=.returned (.tuple #[.int .i32 (nx (bn s)).1,.int .i64 (nx (bn s)).2.1,.bool (nx (bn s)).2.2])/\∃ n,w'=w.drewN n:=by
 have hx0:=sM s hp (by omega) 1 32 hf0 (by omega);have hf:Hid (follow (s[0].toNat:Int)=1):=hf0;have hx:Hid (nx (bn s)=nxl 1 ((bn s).drop 1) 1 ((s[0].toNat:Int) % 32) (aU (s[0].toNat:Int)) (aQ (s[0].toNat:Int))):=hx0;clear hf0 hx0;go_enter func121,ntmps121;go_wp2_with fail;refine(gR _ (by omega) (by omega) _).mono ?_;rw[hf.out];rintro e w' ⟨rfl,rfl⟩;go_wp2_with fail;refine(jI _ _).mono ?_;rintro e w' ⟨rfl,rfl⟩;go_wp2_with fail
 go_quiet (fail)
 go_wp2_with fail;have hl:=yn (s[0].toNat:Int);have hh:=td (s[0].toNat:Int);generalize hL:aU (s[0].toNat:Int)=L0 at *;generalize hH:aQ (s[0].toNat:Int)=H0 at *;clear hL hH
 go_loop [2,3,6,7] (fun r n lo hi=>∃(k:Nat) (R L H:Int),r=.int .i32 R/\n=.int .i64 k/\lo=.int .u8 L/\hi=.int .u8 H/\1<=k/\k<=2/\k<=s.size/\0<=R/\128<=L/\L<=160/\143<=H/\H<=191/\(k=1/\R<32\/k=2/\R<2048\/k=3/\R<131072\/k=4/\R<8388608)/\Hid (nx (bn s)=nxl (2 - k) ((bn s).drop k) k R L H)) (fun _ n _ _=>2 - (intOf n).toNat)
 case atStart=>exact⟨1,_,_,_,rfl,rfl,rfl,rfl,by omega,by omega,by omega,by omega,by omega,by omega,by omega,by omega,by omega,hx⟩
 case round =>
  obtain⟨k,R,L,H,rfl,rfl,rfl,rfl,hk1,hk2,hk3,hR,hL1,hL2,hH1,hH2,hRb,hrest⟩:=hrel;clear hx;by_cases hlt:k<=1
  ·by_cases hsz:k<s.size
   ·have hne:((k:Int)==(s.size:Int))=false:=by simp;omega
    by_cases hlo:(s[k].toNat:Int)<L
    ·go_wp2;go_ret3;refine⟨?_,_,rfl⟩;rw[hrest.out,show 2 - k=(1 - k)+1 from by omega,iX s _ k R L H hsz (Or.inl hlo)];rfl
    ·by_cases hhi:H<(s[k].toNat:Int)
     ·go_wp2;go_ret3;refine⟨?_,_,rfl⟩;rw[hrest.out,show 2 - k=(1 - k)+1 from by omega,iX s _ k R L H hsz (Or.inr hhi)];rfl
     ·go_wp2
      go_round
      case rel =>
       refine⟨k+1,_,_,_,rfl,by go_num,rfl,rfl,by omega,by omega,by omega,by omega,by omega,by omega,by omega,by omega,by omega,?_⟩;show nx (bn s)=_;rw[hrest.out,show 2 - k=(2 - (k+1))+1 from by omega,oI s _ k R L H hsz (by omega) (by omega)]
      case measure=>simp[intOf];omega
   ·have hne:((k:Int)==(s.size:Int))=true:=by simp;omega
    go_wp2;go_ret3;refine⟨?_,_,rfl⟩;rw[hrest.out,show 2 - k=(1 - k)+1 from by omega,oH s _ k R L H (by omega)];rfl
  ·go_wp2;go_ret3;refine⟨?_,_,rfl⟩;rw[hrest.out,show 2 - k=0 from by omega];rfl
theorem yh(s:ByteArray)(w:World)(hs:s.size<=9223372036854775807)(hp:0<s.size)(he:s.toList.isEmpty=false)(h1:224<=(s[0].toNat:Int))(h2:(s[0].toNat:Int)<=239)(hf0:follow (s[0].toNat:Int)=2):
  Calls prog 121 #[.string s] w fun e w'=>e=.returned (.tuple #[.int .i32 (nx (bn s)).1,.int .i64 (nx (bn s)).2.1,.bool (nx (bn s)).2.2])/\∃ n,w'=w.drewN n:=by
 have hx0:=sM s hp (by omega) 2 16 hf0 (by omega);have hf:Hid (follow (s[0].toNat:Int)=2):=hf0;have hx:Hid (nx (bn s)=nxl 2 ((bn s).drop 1) 1 ((s[0].toNat:Int) % 16) (aU (s[0].toNat:Int)) (aQ (s[0].toNat:Int))):=hx0;clear hf0 hx0;go_enter func121,ntmps121;go_wp2_with fail;refine(gR _ (by omega) (by omega) _).mono ?_;rw[hf.out];rintro e w' ⟨rfl,rfl⟩;go_wp2_with fail;refine(jI _ _).mono ?_;rintro e w' ⟨rfl,rfl⟩;go_wp2_with fail
 go_quiet (fail)
 go_wp2_with fail;have hl:=yn (s[0].toNat:Int);have hh:=td (s[0].toNat:Int);generalize hL:aU (s[0].toNat:Int)=L0 at *;generalize hH:aQ (s[0].toNat:Int)=H0 at *;clear hL hH
 go_loop [2,3,6,7] (fun r n lo hi=>∃(k:Nat) (R L H:Int),r=.int .i32 R/\n=.int .i64 k/\lo=.int .u8 L/\hi=.int .u8 H/\1<=k/\k<=3/\k<=s.size/\0<=R/\128<=L/\L<=160/\143<=H/\H<=191/\(k=1/\R<32\/k=2/\R<2048\/k=3/\R<131072\/k=4/\R<8388608)/\Hid (nx (bn s)=nxl (3 - k) ((bn s).drop k) k R L H)) (fun _ n _ _=>3 - (intOf n).toNat)
 case atStart=>exact⟨1,_,_,_,rfl,rfl,rfl,rfl,by omega,by omega,by omega,by omega,by omega,by omega,by omega,by omega,by omega,hx⟩
 case round =>
  obtain⟨k,R,L,H,rfl,rfl,rfl,rfl,hk1,hk2,hk3,hR,hL1,hL2,hH1,hH2,hRb,hrest⟩:=hrel;clear hx;by_cases hlt:k<=2
  ·by_cases hsz:k<s.size
   ·have hne:((k:Int)==(s.size:Int))=false:=by simp;omega
    by_cases hlo:(s[k].toNat:Int)<L
    ·go_wp2;go_ret3;refine⟨?_,_,rfl⟩;rw[hrest.out,show 3 - k=(2 - k)+1 from by omega,iX s _ k R L H hsz (Or.inl hlo)];rfl
    ·by_cases hhi:H<(s[k].toNat:Int)
     ·go_wp2;go_ret3;refine⟨?_,_,rfl⟩;rw[hrest.out,show 3 - k=(2 - k)+1 from by omega,iX s _ k R L H hsz (Or.inr hhi)];rfl
     ·go_wp2
      go_round
      case rel =>
       refine⟨k+1,_,_,_,rfl,by go_num,rfl,rfl,by omega,by omega,by omega,by omega,by omega,by omega,by omega,by omega,by omega,?_⟩;show nx (bn s)=_;rw[hrest.out,show 3 - k=(3 - (k+1))+1 from by omega,oI s _ k R L H hsz (by omega) (by omega)]
      case measure=>simp[intOf];omega
   ·have hne:((k:Int)==(s.size:Int))=true:=by simp;omega
    go_wp2;go_ret3;refine⟨?_,_,rfl⟩;rw[hrest.out,show 3 - k=(2 - k)+1 from by omega,oH s _ k R L H (by omega)];rfl
  ·go_wp2;go_ret3;refine⟨?_,_,rfl⟩;rw[hrest.out,show 3 - k=0 from by omega];rfl
theorem yg(s:ByteArray)(w:World)(hs:s.size<=9223372036854775807)(hp:0<s.size)(he:s.toList.isEmpty=false)(h1:240<=(s[0].toNat:Int))(h2:(s[0].toNat:Int)<=244)(hf0:follow (s[0].toNat:Int)=3):
  Calls prog 121 #[.string s] w fun e w'=>e=.returned (.tuple #[.int .i32 (nx (bn s)).1,.int .i64 (nx (bn s)).2.1,.bool (nx (bn s)).2.2])/\∃ n,w'=w.drewN n:=by
 have hx0:=sM s hp (by omega) 3 8 hf0 (by omega);have hf:Hid (follow (s[0].toNat:Int)=3):=hf0;have hx:Hid (nx (bn s)=nxl 3 ((bn s).drop 1) 1 ((s[0].toNat:Int) % 8) (aU (s[0].toNat:Int)) (aQ (s[0].toNat:Int))):=hx0;clear hf0 hx0;go_enter func121,ntmps121;go_wp2_with fail;refine(gR _ (by omega) (by omega) _).mono ?_;rw[hf.out];rintro e w' ⟨rfl,rfl⟩;go_wp2_with fail;refine(jI _ _).mono ?_;rintro e w' ⟨rfl,rfl⟩;go_wp2_with fail
 go_quiet (fail)
 go_wp2_with fail;have hl:=yn (s[0].toNat:Int);have hh:=td (s[0].toNat:Int);generalize hL:aU (s[0].toNat:Int)=L0 at *;generalize hH:aQ (s[0].toNat:Int)=H0 at *;clear hL hH
 go_loop [2,3,6,7] (fun r n lo hi=>∃(k:Nat) (R L H:Int),r=.int .i32 R/\n=.int .i64 k/\lo=.int .u8 L/\hi=.int .u8 H/\1<=k/\k<=4/\k<=s.size/\0<=R/\128<=L/\L<=160/\143<=H/\H<=191/\(k=1/\R<32\/k=2/\R<2048\/k=3/\R<131072\/k=4/\R<8388608)/\Hid (nx (bn s)=nxl (4 - k) ((bn s).drop k) k R L H)) (fun _ n _ _=>4 - (intOf n).toNat)
 case atStart=>exact⟨1,_,_,_,rfl,rfl,rfl,rfl,by omega,by omega,by omega,by omega,by omega,by omega,by omega,by omega,by omega,hx⟩
 case round =>
  obtain⟨k,R,L,H,rfl,rfl,rfl,rfl,hk1,hk2,hk3,hR,hL1,hL2,hH1,hH2,hRb,hrest⟩:=hrel;clear hx;by_cases hlt:k<=3
  ·by_cases hsz:k<s.size
   ·have hne:((k:Int)==(s.size:Int))=false:=by simp;omega
    by_cases hlo:(s[k].toNat:Int)<L
    ·go_wp2;go_ret3;refine⟨?_,_,rfl⟩;rw[hrest.out,show 4 - k=(3 - k)+1 from by omega,iX s _ k R L H hsz (Or.inl hlo)];rfl
    ·by_cases hhi:H<(s[k].toNat:Int)
     ·go_wp2;go_ret3;refine⟨?_,_,rfl⟩;rw[hrest.out,show 4 - k=(3 - k)+1 from by omega,iX s _ k R L H hsz (Or.inr hhi)];rfl
     ·go_wp2
      go_round
      case rel =>
       refine⟨k+1,_,_,_,rfl,by go_num,rfl,rfl,by omega,by omega,by omega,by omega,by omega,by omega,by omega,by omega,by omega,?_⟩;show nx (bn s)=_;rw[hrest.out,show 4 - k=(4 - (k+1))+1 from by omega,oI s _ k R L H hsz (by omega) (by omega)]
      case measure=>simp[intOf];omega
   ·have hne:((k:Int)==(s.size:Int))=true:=by simp;omega
    go_wp2;go_ret3;refine⟨?_,_,rfl⟩;rw[hrest.out,show 4 - k=(3 - k)+1 from by omega,oH s _ k R L H (by omega)];rfl
  ·go_wp2;go_ret3;refine⟨?_,_,rfl⟩;rw[hrest.out,show 4 - k=0 from by omega];rfl
theorem vE(s:ByteArray)(w:World)(hs:s.size<=9223372036854775807):
  Calls prog 121 #[.string s] w fun e w'=>e=.returned (.tuple #[.int .i32 (nx (bn s)).1,.int .i64 (nx (bn s)).2.1,.bool (nx (bn s)).2.2])/\∃ n,w'=w.drewN n:=by
 by_cases hp:0<s.size
 ·have he:s.toList.isEmpty=false:=ay s hp;by_cases ha:(s[0].toNat:Int)<128
  ·have hx:Hid (nx (bn s)=((s[0].toNat:Int),1,true)):=GB s hp ha;go_enter func121,ntmps121;go_wp2;go_ret3;exact⟨by rw[hx.out];rfl,0,rfl⟩
  ·rcases kT (s[0].toNat:Int) with hf | ⟨hf,h1,h2⟩ | ⟨hf,h1,h2⟩ | ⟨hf,h1,h2⟩
   ·have hx:Hid (nx (bn s)=(65533,1,false)):=Lt s hp (by omega) hf;have hf':Hid (follow (s[0].toNat:Int)=0):=hf;clear hf;go_enter func121,ntmps121;go_wp2_with fail;refine(gR _ (by omega) (by have:=s[0].toNat_lt;omega) _).mono ?_;rw[hf'.out];rintro e w' ⟨rfl,rfl⟩;go_wp2;go_ret3;exact⟨by rw[hx.out];rfl,0,rfl⟩
   ·exact yi s w hs hp he h1 h2 hf
   ·exact yh s w hs hp he h1 h2 hf
   ·exact yg s w hs hp he h1 h2 hf
 ·have he:s.toList.isEmpty=true:=aC s (by omega);have hx:Hid (nx (bn s)=(0,0,false)):=Pp s (by omega);go_enter func121,ntmps121;go_wp2;go_ret3;exact⟨by rw[hx.out];rfl,0,rfl⟩
abbrev Sc:={ x:Int×Bool // 0<=x.1/\x.1<=1114111 }
def uo(p:Int×Nat×Bool):Sc:=if h:0<=p.1/\p.1<=1114111 then ⟨(p.1,p.2.2),h⟩ else ⟨(65533,false),by decide⟩
def scs:Nat->List Int->List Sc
 | 0,_=>[]
 | _+1,[]=>[]
 | f+1,a::t=>uo (nx (a::t))::scs f ((a::t).drop (nx (a::t)).2.1)
def scl(l:List Int):List Sc:=scs l.length l
def Bytes(l:List Int):Prop:=∀ b∈l,0<=b/\b<=255
theorem Ab:∀(f:Nat) (t:List Int) (n:Nat) (r lo hi:Int),n<=(nxl f t n r lo hi).2.1/\(nxl f t n r lo hi).2.1<=n+t.length
 | 0,_,_,_,_,_=>by simp[nxl]
 | _+1,[],_,_,_,_=>by simp[nxl]
 | f+1,b::t,n,r,lo,hi=>by
  rw[nxl];split
  ·simp
  ·have:=Ab f t (n+1) (r * 64+b % 64) 128 191;simp only[length_cons];omega
theorem oJ(l:List Int)(h:l≠[]):1<=(nx l).2.1/\(nx l).2.1<=l.length:=by
 match l with
 | []=>exact absurd rfl h
 | a::t =>
  rw[nx];split
  ·simp
  ·split
   ·simp
   ·have:=Ab (follow a).toNat t 1 (if follow a=1 then a % 32 else if follow a=2 then a % 16 else a % 8) (aU a) (aQ a);simp only[length_cons];omega
theorem uG:∀(f g:Nat) (l:List Int),l.length<=f->l.length<=g->scs f l=scs g l
 | 0,0,_,_,_=>rfl
 | 0,_+1,[],_,_=>rfl
 | 0,_+1,_::_,h,_=>by simp at h
 | _+1,0,[],_,_=>rfl
 | _+1,0,_::_,_,h=>by simp at h
 | _+1,_+1,[],_,_=>rfl
 | f+1,g+1,a::t,h,k=>by
  have hn:=oJ (a::t) (by simp);have hlen:((a::t).drop (nx (a::t)).2.1).length<=t.length:=by simp only[length_drop,length_cons];omega
  simp only[length_cons]at h k;show uo (nx (a::t))::scs f _=uo (nx (a::t))::scs g _;rw[uG f g _ (by omega) (by omega)]
theorem EY(f:Nat)(l:List Int)(h:l.length<=f):scs f l=scl l:=uG f l.length l h (le_refl _)
theorem Ky:scl []=[]:=rfl
theorem kt(l:List Int)(h:l≠[]):scl l=uo (nx l)::scl (l.drop (nx l).2.1):=by
 match l with
 | []=>exact absurd rfl h
 | a::t =>
  have hn:=oJ (a::t) (by simp);show uo (nx (a::t))::scs t.length _=_;rw[EY t.length _ (by simp only[length_drop,length_cons];omega)]
theorem aL(s:ByteArray):Bytes (bn s):=by intro b hb;simp only[bn,List.mem_map]at hb;obtain⟨c,_,rfl⟩:=hb;have:=c.toNat_lt;omega
theorem Bytes.drop{l:List Int}(h:Bytes l)(k:Nat):Bytes (l.drop k):=fun b hb=>h b (List.mem_of_mem_drop hb)
theorem oK(l:List Int)(h:l≠[])(hl:Bytes l):
  (∃ a t,l=a::t/\0<=a/\a<128/\nx l=(a,1,true)) \/
  (∃ a b t,l=a::b::t/\194<=a/\a<=223/\128<=b/\b<=191/\nx l=((a - 192) * 64+(b - 128),2,true)) \/
  (∃ a b c t,l=a::b::c::t/\224<=a/\a<=239/\aU a<=b/\b<=aQ a/\128<=c/\c<=191/\nx l=((a - 224) * 4096+(b - 128) * 64+(c - 128),3,true)) \/
  (∃ a b c d t,l=a::b::c::d::t/\240<=a/\a<=244/\aU a<=b/\b<=aQ a/\128<=c/\c<=191/\128<=d/\d<=191/\nx l=((a - 240) * 262144+(b - 128) * 4096+(c - 128) * 64+(d - 128),4,true)) \/
  (∃ n,1<=n/\n<=3/\nx l=(65533,n,false)):=by
 have hlo:∀ c,128<=aU c:=fun c=>by unfold aU;(repeat' split) <;> omega
 have hhi:∀ c,aQ c<=191:=fun c=>by unfold aQ;(repeat' split) <;> omega
 match l with
 | []=>exact absurd rfl h
 | a::t =>
  have ha:=hl a (by simp);by_cases h8:a<128
  ·exact .inl ⟨a,t,rfl,ha.1,h8,by rw[nx,if_pos h8]⟩
  rcases kT a with hf | ⟨hf,h1,h2⟩ | ⟨hf,h1,h2⟩ | ⟨hf,h1,h2⟩
  ·exact .inr (.inr (.inr (.inr ⟨1,by omega,by omega,by rw[nx,if_neg h8,if_pos hf]⟩)))
  ·have hl1:aU a=128:=by unfold aU;rw[if_neg (by omega),if_neg (by omega)]
   have hh1:aQ a=191:=by unfold aQ;rw[if_neg (by omega),if_neg (by omega)]
   have e:nx (a::t)=nxl 1 t 1 (a % 32) 128 191:=by rw[nx,if_neg h8,hf,hl1,hh1];rfl
   match t with
   | []=>exact .inr (.inr (.inr (.inr ⟨1,by omega,by omega,by rw[e];rfl⟩)))
   | b::t =>
    by_cases hb:b<128\/191<b
    ·exact .inr (.inr (.inr (.inr ⟨1,by omega,by omega,by rw[e,nxl,if_pos hb]⟩)))
    ·refine .inr (.inl ⟨a,b,t,rfl,h1,h2,by omega,by omega,?_⟩);rw[e,nxl,if_neg hb,nxl];refine Prod.ext ?_ rfl;simp only;omega
  ·have e:nx (a::t)=nxl 2 t 1 (a % 16) (aU a) (aQ a):=by rw[nx,if_neg h8,hf];rfl
   have q1:=hlo a;have q2:=hhi a;match t with
   | []=>exact .inr (.inr (.inr (.inr ⟨1,by omega,by omega,by rw[e];rfl⟩)))
   | b::t =>
    by_cases hb:b<aU a\/aQ a<b
    ·exact .inr (.inr (.inr (.inr ⟨1,by omega,by omega,by rw[e,nxl,if_pos hb]⟩)))
    ·match t with
     | []=>exact .inr (.inr (.inr (.inr ⟨2,by omega,by omega,by rw[e,nxl,if_neg hb];rfl⟩)))
     | c::t =>
      by_cases hc:c<128\/191<c
      ·exact .inr (.inr (.inr (.inr ⟨2,by omega,by omega,by rw[e,nxl,if_neg hb,nxl,if_pos hc]⟩)))
      ·refine .inr (.inr (.inl ⟨a,b,c,t,rfl,h1,h2,by omega,by omega,by omega,by omega,?_⟩));rw[e,nxl,if_neg hb,nxl,if_neg hc,nxl];refine Prod.ext ?_ rfl;simp only;omega
  ·have e:nx (a::t)=nxl 3 t 1 (a % 8) (aU a) (aQ a):=by rw[nx,if_neg h8,hf];rfl
   have q1:=hlo a;have q2:=hhi a;match t with
   | []=>exact .inr (.inr (.inr (.inr ⟨1,by omega,by omega,by rw[e];rfl⟩)))
   | b::t =>
    by_cases hb:b<aU a\/aQ a<b
    ·exact .inr (.inr (.inr (.inr ⟨1,by omega,by omega,by rw[e,nxl,if_pos hb]⟩)))
    ·match t with
     | []=>exact .inr (.inr (.inr (.inr ⟨2,by omega,by omega,by rw[e,nxl,if_neg hb];rfl⟩)))
     | c::t =>
      by_cases hc:c<128\/191<c
      ·exact .inr (.inr (.inr (.inr ⟨2,by omega,by omega,by rw[e,nxl,if_neg hb,nxl,if_pos hc]⟩)))
      ·match t with
       | []=>exact .inr (.inr (.inr (.inr ⟨3,by omega,by omega,by rw[e,nxl,if_neg hb,nxl,if_neg hc];rfl⟩)))
       | d::t =>
        by_cases hd:d<128\/191<d
        ·exact .inr (.inr (.inr (.inr ⟨3,by omega,by omega,by rw[e,nxl,if_neg hb,nxl,if_neg hc,nxl,if_pos hd]⟩)))
        ·refine .inr (.inr (.inr (.inl ⟨a,b,c,d,t,rfl,h1,h2,by omega,by omega,by omega,by omega,by omega,by omega,?_⟩)));rw[e,nxl,if_neg hb,nxl,if_neg hc,nxl,if_neg hd,nxl];refine Prod.ext ?_ rfl;simp only;omega
theorem Ad(l:List Int)(h:l≠[])(hl:Bytes l):ar (nx l).1=true:=by
 unfold ar;rw[decide_eq_true_eq];rcases oK l h hl with⟨a,t,_,h0,h1,e⟩ | ⟨a,b,t,_,h1,h2,h3,h4,e⟩ | ⟨a,b,c,t,_,h1,h2,h3,h4,h5,h6,e⟩ | ⟨a,b,c,d,t,_,h1,h2,h3,h4,h5,h6,h7,h8,e⟩ | ⟨n,_,_,e⟩
 ·rw[e];simp only;omega
 ·rw[e];simp only;omega
 ·rw[e];simp only;unfold aU at h3;unfold aQ at h4;by_cases q1:a=224
  ·subst q1;simp at h3 h4;omega
  ·by_cases q2:a=237
   ·subst q2;simp at h3 h4;omega
   ·rw[if_neg q1,if_neg (by omega)]at h3;rw[if_neg q2,if_neg (by omega)]at h4;omega
 ·rw[e];simp only;unfold aU at h3;unfold aQ at h4;by_cases q1:a=240
  ·subst q1;simp at h3 h4;omega
  ·by_cases q2:a=244
   ·subst q2;simp at h3 h4;omega
   ·rw[if_neg (by omega),if_neg q1]at h3;rw[if_neg (by omega),if_neg q2]at h4;omega
 ·rw[e];simp only;omega
theorem NQ(l:List Int)(hl:Bytes l):0<=(nx l).1/\(nx l).1<=1114111:=by
 by_cases h:l=[]
 ·subst h;decide
 ·have:=Ad l h hl;unfold ar at this;rw[decide_eq_true_eq]at this;omega
theorem mM(l:List Int)(hl:Bytes l):(uo (nx l)).1=((nx l).1,(nx l).2.2):=by unfold uo;rw[dif_pos (NQ l hl)]
open Go.RowKit Go.Shelf
attribute [local go_sem] Oper.semAt_some
abbrev Sy(x:Sc):Array Value:=#[.int .i32 x.1.1,.bool x.1.2]
def gz(B:Nat)(s:ByteArray)(W W':World):Prop:=Boxed W B 9 (.string s)->Boxed W' B 9 (.string s)
theorem xh{W:World}{B:Nat}{t:TypeId}{v:Value}(h:Boxed W B t v)(n:Nat):Boxed (W.drewN n) B t v:=h
theorem qG(W:World)(n:Nat):W.grownBy (W.drewN n) none:=⟨rfl,rfl,rfl,le_refl _,fun _ _ _=>rfl⟩
theorem aw(s:ByteArray)(k:Nat):bn (s.extract k s.size)=(bn s).drop k:=by unfold bn;rw[Lib.extract_to_end,map_drop]
theorem Mk(n:Nat)(hn:1<=n)(l Bs:Nat)(s:ByteArray)(hs:s.size<=9223372036854775807)(J Jx:List Sc->World->Prop)
  (hJ:∀(W:World) (pre:List Sc) (m:Nat),J pre W->J pre (W.drewN m))
  (hY:∀ pre x W,J pre W->pre.length<s.size->YieldAt Fence.wide (n - 1) prog l #[.int .i32 x.1.1,.bool x.1.2] W fun e W' =>
    (e=.returned (.bool true)/\J (pre++[x]) W'/\gz Bs s W W')\/(e=.returned (.bool false)/\Jx (pre++[x]) W'))
  (W:World) (hBs:Boxed W Bs 9 (.string s)) (h0:J [] W) :
  CallsIn Fence.wide n prog 137 #[.func (.yield l) #[] #[],.pointer (some ⟨Bs,0,none⟩)] W fun e W'=>(∃ v,e=.returned v) /\
   ((∃ ys,ys=scl (bn s)/\J ys W')\/(∃ pre,pre <+: scl (bn s)/\Jx pre W')):=by
 refine callsIn_of_wp func137 rfl trivial ?_ rfl;simp only[ntmps137,size_toArray,length_cons,length_nil,Nat.reduceAdd,Nat.reduceSub,replicate_succ,replicate_zero,List.push_toArray,List.append_toArray,nil_append,cons_append];gi_wp2
 gi_loopw [3] (fun i wr=>∃(k:Nat) (pre:List Sc),k<=s.size/\pre.length<=k/\i=.int .i64 k/\Boxed wr Bs 9 (.string s)/\J pre wr/\Hid (scl (bn s)=pre++scl ((bn s).drop k)))
  (fun i _=>s.size - (intOf i).toNat)
 case atStart=>exact⟨0,[],zero_le _,by simp,rfl,hBs,h0,by show scl (bn s)=_;simp⟩
 case round =>
  obtain⟨k,pre,hk,hpk,rfl,hbx,hJs,hrest⟩:=hrel;have hcs:=hbx.cell;by_cases hlt:k<s.size
  ·obtain⟨x,hx⟩:∃ x:Sc,x=uo (nx ((bn s).drop k)):=⟨_,rfl⟩;have hxv:Hid (((nx ((bn s).drop k)).1,(nx ((bn s).drop k)).2.2)=x.1):=by show _=_;rw[hx,mM _ ((aL s).drop k)]
   have hne:(bn s).drop k≠[]:=fun h=>by have:=congrArg List.length h;rw[length_drop,aa]at this;simp at this;omega
   have hnn:=oJ _ hne;rw[length_drop,aa]at hnn;have hstep:Hid (scl ((bn s).drop k)=x::scl ((bn s).drop (k+(nx ((bn s).drop k)).2.1))):=by show _=_;rw[kt _ hne,<-hx,List.drop_drop]
   clear hx;gi_wp2_with fail;refine⟨trivial,?_⟩;refine(callsIn_wide.2 (vE _ _ (by simp;omega))).mono ?_;rintro e w' ⟨rfl,m,rfl⟩;rw[aw];rw[show(nx ((bn s).drop k)).1=x.1.1 from congrArg Prod.fst hxv.out,show(nx ((bn s).drop k)).2.2=x.1.2 from congrArg Prod.snd hxv.out];generalize hN:(nx ((bn s).drop k)).2.1=N at *;clear hN hxv;obtain⟨fn,tmps,assign,body,hy,hR⟩:=hY pre x (wr.drewN m) (hJ _ _ _ hJs) (by omega);gi_wp2;refine hR.mono ?_;rintro e W3 (⟨rfl,hJ3,hk3⟩ | ⟨rfl,hJx3⟩)
   ·have hbx3:=hk3 (xh hbx m);have hcs3:=hbx3.cell;gi_wp2
    go_roundw
    case rel=>exact⟨k+N,pre++[x],by omega,by simp;omega,by go_num,hbx3,hJ3,by show _=_;rw[hrest.out,hstep.out];simp⟩
    case measure=>simp[intOf];omega
   ·gi_wp2;refine bodyPost_ret (results_none rfl _ _ _) rfl ?_;exact⟨⟨_,rfl⟩,.inr ⟨pre++[x],⟨scl ((bn s).drop (k+N)),by rw[hrest.out,hstep.out];simp⟩,hJx3⟩⟩
  ·gi_wp2
   go_end0
   refine⟨⟨_,rfl⟩,.inl ⟨pre,?_,hJs⟩⟩;rw[hrest.out,mD s k (by omega),Ky,append_nil]
theorem oh(n:Nat)(s:ByteArray)(w:World):
  CallsIn Fence.wide n prog 76 #[.string s] w fun e w'=>e=.returned (.func (.func 137) #[] #[.pointer (some ⟨w.heap.size,0,none⟩)])/\w'=w.alloc (.cells #[.string s] 9):=by
 refine callsIn_of_wp func76 rfl trivial ?_ rfl;simp only[ntmps76,size_toArray,length_cons,length_nil,Nat.reduceAdd,Nat.reduceSub,replicate_succ,replicate_zero,List.push_toArray,List.append_toArray,nil_append,cons_append];gi_wp2;go_ret;exact⟨rfl,rfl⟩
theorem oZ(n:Nat)(hn:1<=n)(Bs:Nat)(s:ByteArray)(hs:s.size<=9223372036854775807)(w:World)(hc:Boxed w Bs 9 (.string s)):
  SeqStopsK Fence.wide n prog 137 #[.pointer (some ⟨Bs,0,none⟩)] Sy (gz Bs s) (fun ys=>ys=scl (bn s)) (fun pre=>pre <+: scl (bn s)) s.size w:=fun l J Jx W hW hJ _ hY h0 =>
 Mk n hn l Bs s hs J Jx (fun W pre m h=>hJ pre W _ none h (qG W m) (fun r e=>by cases e)) hY W ((hW.block Bs hc.lt).trans hc) h0
theorem oU{Bs:Nat}{s:ByteArray}{A B C:World}(h:gz Bs s A B)(k:gz Bs s B C):gz Bs s A C:=fun x=>k (h x)
theorem oV{Bs:Nat}{s:ByteArray}{w:World}(hB:Bs<w.heap.size)(W:World)(l:Nat)(o o':Obj)(hl:w.heap.size<=l)(_:W.heap[l]? = some o)(_:o.isCells=false)(_:o.isWalk=false):gz Bs s W (W.putObj l o') :=
 fun x=>(World.putObj_heap_other (by omega)).trans x
def enc(c:Int):List Int :=
 if c<128 then [c] else if c<2048 then [192+c / 64,128+c % 64] else if c<65536 then [224+c / 4096,128+c / 64 % 64,128+c % 64]
 else [240+c / 262144,128+c / 4096 % 64,128+c / 64 % 64,128+c % 64]
theorem eA(c:Int):1<=(enc c).length/\(enc c).length<=4:=by unfold enc;(repeat' split) <;> simp
theorem Tryz.info5:(prog.info? 5).map (fun i=>(i.zero,i.size,i.bytes))=some (some (.int .u8 0),1,1):=by kernel_rfl
theorem ee(w:World)(t:TypeId)(l:List Value):∀(j:Nat) (u:Value),l[j]? = some u->(w.alloc (.cells l.toArray t)).cell? ((⟨w.heap.size,0,none⟩:Addr).add j)=some u:=by
 intro j u h;have hb:(w.alloc (.cells l.toArray t)).heap[w.heap.size]? = some (.cells l.toArray t):=heap_alloc_new w _;generalize w.alloc (.cells l.toArray t)=W at hb ⊢;generalize w.heap.size=g at hb ⊢;by_cases hj:j=0
 ·subst hj;simp[World.cell?,Addr.add,hb,h]
 ·simp[World.cell?,Addr.add,hj,hb,h]
theorem dP{a b c:World}{row:Option Nat}(h:a.grownBy b none)(k:b.grownBy c row):a.grownBy c row :=
 ⟨k.os.trans h.os,k.tape.trans h.tape,k.output.trans h.output,le_trans h.size k.size,fun i hi hr=>(k.block i (lt_of_lt_of_le hi h.size) hr).trans (h.block i hi (by simp))⟩
theorem NA(base:Nat)(v:Value)(k:Nat)(xs:List Value)(c:Int)(h0:0<=c)(h1:c<128)(w:World)(hb:base<=w.heap.size)(hk:k<=1099511627776)(aq:w.ownsRow base 5 1 v k xs):
  Calls prog 77 #[v,.int .i32 c] w fun e W'=>∃ v',e=.returned v'/\W'.ownsRow base 5 1 v' (k+1) (xs++[.int .u8 c])/\w.grownBy W' v.ownBlock:=by
 obtain⟨i0,hi,hz0,hz1,hz2⟩:=info_parts Tryz.info5;go_enter func77,ntmps77;go_wp2_with(at_builtin;refine wpList_append_own _ rfl _ _ 36 rfl base 5 i0 (.int .u8 0) 1 1 underlying36 hi hz0 hz1 hz2 rfl (by decide) _ _ _ rfl (aq.alloc _) ⟨w.heap.size,0,none⟩ 1 1 [.int .u8 c] rfl rfl (ee _ _ _) (by simp[Value.oneCell']) (by unfold maxLen;omega) (by omega) (by simp;omega) ?_;intro v' w1 hown' hgrow _);go_ret;exact⟨v',rfl,hown',dP (grownBy_alloc _ _ none) hgrow⟩
theorem Nz(base:Nat)(v:Value)(k:Nat)(xs:List Value)(c:Int)(h0:128<=c)(h1:c<2048)(w:World)(hb:base<=w.heap.size)(hk:k<=1099511627776)(aq:w.ownsRow base 5 1 v k xs):
  Calls prog 77 #[v,.int .i32 c] w fun e W'=>∃ v',e=.returned v'/\W'.ownsRow base 5 1 v' (k+2) (xs++[.int .u8 (192+c / 64),.int .u8 (128+c % 64)])/\w.grownBy W' v.ownBlock:=by
 obtain⟨i0,hi,hz0,hz1,hz2⟩:=info_parts Tryz.info5;go_enter func77,ntmps77;go_wp2_with fail;refine(cZ _ (by omega) (by omega) _).mono ?_;rintro e w' ⟨rfl,rfl⟩;go_wp2_with(at_builtin;refine wpList_append_own _ rfl _ _ 36 rfl base 5 i0 (.int .u8 0) 1 1 underlying36 hi hz0 hz1 hz2 rfl (by decide) _ _ _ rfl (aq.alloc _) ⟨w'.heap.size,0,none⟩ 2 2 [.int .u8 (192+c / 64),.int .u8 (128+c % 64)] rfl rfl (ee _ _ _) (by simp[Value.oneCell']) (by unfold maxLen;omega) (by omega) (by simp;omega) ?_;intro v' w1 hown' hgrow _);go_ret;exact⟨v',rfl,hown',dP (grownBy_alloc _ _ none) hgrow⟩
theorem Ny(base:Nat)(v:Value)(k:Nat)(xs:List Value)(c:Int)(h0:2048<=c)(h1:c<65536)(w:World)(hb:base<=w.heap.size)(hk:k<=1099511627776)(aq:w.ownsRow base 5 1 v k xs):
  Calls prog 77 #[v,.int .i32 c] w fun e W'=>∃ v',e=.returned v'/\W'.ownsRow base 5 1 v' (k+3) (xs++[.int .u8 (224+c / 4096),.int .u8 (128+c / 64 % 64),.int .u8 (128+c % 64)])/\w.grownBy W' v.ownBlock:=by
 obtain⟨i0,hi,hz0,hz1,hz2⟩:=info_parts Tryz.info5;go_enter func77,ntmps77;go_wp2_with fail;refine(cZ _ (by omega) (by omega) _).mono ?_;rintro e w' ⟨rfl,rfl⟩;go_wp2_with fail;refine(cZ _ (by omega) (by omega) _).mono ?_;rintro e w' ⟨rfl,rfl⟩;go_wp2_with(at_builtin;refine wpList_append_own _ rfl _ _ 36 rfl base 5 i0 (.int .u8 0) 1 1 underlying36 hi hz0 hz1 hz2 rfl (by decide) _ _ _ rfl (aq.alloc _) ⟨w'.heap.size,0,none⟩ 3 3 [.int .u8 (224+c / 4096),.int .u8 (128+c / 64 % 64),.int .u8 (128+c % 64)] rfl rfl (ee _ _ _) (by simp[Value.oneCell']) (by unfold maxLen;omega) (by omega) (by simp;omega) ?_;intro v' w1 hown' hgrow _);go_ret;exact⟨v',rfl,hown',dP (grownBy_alloc _ _ none) hgrow⟩
theorem Nx(base:Nat)(v:Value)(k:Nat)(xs:List Value)(c:Int)(h0:65536<=c)(h1:c<1114112)(w:World)(hb:base<=w.heap.size)(hk:k<=1099511627776)(aq:w.ownsRow base 5 1 v k xs):
  Calls prog 77 #[v,.int .i32 c] w fun e W'=>∃ v',e=.returned v'/\W'.ownsRow base 5 1 v' (k+4) (xs++[.int .u8 (240+c / 262144),.int .u8 (128+c / 4096 % 64),.int .u8 (128+c / 64 % 64),.int .u8 (128+c % 64)])/\w.grownBy W' v.ownBlock:=by
 obtain⟨i0,hi,hz0,hz1,hz2⟩:=info_parts Tryz.info5;go_enter func77,ntmps77;go_wp2_with fail;refine(cZ _ (by omega) (by omega) _).mono ?_;rintro e w' ⟨rfl,rfl⟩;go_wp2_with fail;refine(cZ _ (by omega) (by omega) _).mono ?_;rintro e w' ⟨rfl,rfl⟩;go_wp2_with fail;refine(cZ _ (by omega) (by omega) _).mono ?_;rintro e w' ⟨rfl,rfl⟩;go_wp2_with(at_builtin;refine wpList_append_own _ rfl _ _ 36 rfl base 5 i0 (.int .u8 0) 1 1 underlying36 hi hz0 hz1 hz2 rfl (by decide) _ _ _ rfl (aq.alloc _) ⟨w'.heap.size,0,none⟩ 4 4 [.int .u8 (240+c / 262144),.int .u8 (128+c / 4096 % 64),.int .u8 (128+c / 64 % 64),.int .u8 (128+c % 64)] rfl rfl (ee _ _ _) (by simp[Value.oneCell']) (by unfold maxLen;omega) (by omega) (by simp;omega) ?_;intro v' w1 hown' hgrow _);go_ret;exact⟨v',rfl,hown',dP (grownBy_alloc _ _ none) hgrow⟩
theorem qn(base:Nat)(v:Value)(k:Nat)(xs:List Value)(c:Int)(h0:0<=c)(h1:c<=1114111)(w:World)(hb:base<=w.heap.size)(hk:k<=1099511627776)(aq:w.ownsRow base 5 1 v k xs):
  Calls prog 77 #[v,.int .i32 c] w fun e W'=>∃ v',e=.returned v'/\W'.ownsRow base 5 1 v' (k+(enc c).length) (xs++(enc c).map (Value.int .u8))/\w.grownBy W' v.ownBlock:=by
 unfold enc;by_cases q1:c<128
 ·rw[if_pos q1];exact NA base v k xs c h0 q1 w hb hk aq
 ·rw[if_neg q1];by_cases q2:c<2048
  ·rw[if_pos q2];exact Nz base v k xs c (by omega) q2 w hb hk aq
  ·rw[if_neg q2];by_cases q3:c<65536
   ·rw[if_pos q3];exact Ny base v k xs c (by omega) q3 w hb hk aq
   ·rw[if_neg q3];exact Nx base v k xs c (by omega) (by omega) w hb hk aq
attribute [local go_sem] Oper.semAt_some
def dec(l:List Int):List Int:=(scl l).map fun x=>x.1.1
def fQ(l:List Sc):List Int:=l.map fun x=>x.1.1
theorem rz(l:List Sc)(x:Sc):fQ (l++[x])=fQ l++[x.1.1]:=by simp[fQ]
theorem wB(l:List Sc):(fQ l).length=l.length:=by simp[fQ]
theorem Tryz.lW:(prog.info? 21).map (fun i=>(i.zero,i.size,i.bytes))=some (some (.int .i32 0),1,4):=by kernel_rfl
theorem pX(s:ByteArray)(hs:s.size<=1099511627776)(w:World):
  Calls prog 206 #[.string s] w fun e W'=>∃ v,e=.returned v/\W'.ownsRow w.heap.size 21 1 v (dec (bn s)).length ((dec (bn s)).map (Value.int .i32))/\Below w.heap.size w W':=by
 refine(callsIn_wide (n:=3)).1 ?_;obtain⟨i0,hi,hz0,hz1,hz2⟩:=info_parts Tryz.lW;refine callsIn_of_wp_marks func206 rfl trivial ?_ rfl;simp only[ntmps206,size_toArray,length_cons,length_nil,Nat.reduceAdd,Nat.reduceSub,replicate_succ,replicate_zero,List.push_toArray,List.append_toArray,nil_append,cons_append];gi_wp2_with fail;refine⟨trivial,?_⟩;refine(oh _ s _).mono ?_;rintro e w' ⟨rfl,rfl⟩;gi_wp2_with fail;have bO:=Boxed.new w 37 (.slice none 0 0);have bN:=Boxed.new (w.alloc (.cells #[.slice none 0 0] 37)) 9 (.string s);rw[World.size_alloc]at bN;have hB0:Below w.heap.size w ((w.alloc (.cells #[.slice none 0 0] 37)).alloc (.cells #[.string s] 9)):=((Below.refl _ w).alloc (le_refl _) _).alloc (by simp) _
 refine wpIn_rangeFunc_ownG rfl (by omega) (gf:=137) (lb:=#[.pointer (some ⟨w.heap.size+1,0,none⟩)]) rfl trivial (enters_of func137 (by kernel_rfl) rfl)
  (oZ 2 (by omega) (w.heap.size+1) s (by omega) _ bN) oU (oV (by simp)) (Below.refl _ _) (fun _=>rfl)
  (fun pre W=>((∃ v,Boxed W w.heap.size 37 v/\W.ownsRow w.heap.size 21 1 v (fQ pre).length ((fQ pre).map (Value.int .i32))/\True)/\Boxed W (w.heap.size+1) 9 (.string s))/\Below w.heap.size w W)
  (fun _ _ _=>False)
  (OwnFrom.and (OwnFrom.and (Own.from (holdsRow_own w.heap.size w.heap.size 37 21 1 (fun pre=>(fQ pre).length) (fun pre=>(fQ pre).map (Value.int .i32)) (fun pre v=>True)) _) (Own.from (boxed_own _ _ _) _)) (ownFrom_below (le_refl _) (by simp;omega)))
  (fun _ _ _ _ _ hs _ _=>hs)
  ⟨⟨⟨_,bO.alloc _,ownsRow_nil _ _ _ _,trivial⟩,bN⟩,hB0⟩
  (fun x=>{ tmps:=#[.string s,undef,.slice none 0 0,.pointer (some ⟨w.heap.size,0,none⟩),.int .i32 x.1.1,.string s,.func (.func 137) #[] #[.pointer (some ⟨w.heap.size+1,0,none⟩)],.int .i32 x.1.1,.bool x.1.2,undef,undef,undef,undef,undef],defers:=[] }) ?assign ?body ?done ?stop
 case assign =>
  intro l x W K hK;gi_wp2;exact hK
 case body =>
  rintro l pre x W ⟨⟨⟨v,hv,aq,_⟩,hbs⟩,hB⟩ hlt;have hc:=hv.cell;have hpl:(fQ pre).length<=pre.length:=le_of_eq (wB pre);gi_wp2_with (gi_at_builtin;refine wpListIn_append_own _ rfl _ _ 37 rfl w.heap.size 21 i0 (.int .i32 0) 1 4 underlying37 hi hz0 hz1 hz2 rfl (by decide) _ _ _ rfl (aq.alloc _) ⟨W.heap.size,0,none⟩ 1 1 [.int .i32 x.1.1] rfl rfl (cell_one_new _ _ _) (by simp[Value.oneCell']) (by unfold maxLen;omega) (by omega) (by have:=hB.size;simp;omega) ?_;intro v' w1 hown' hgrow _;obtain⟨g',cap',rfl⟩:=ownsRow_succ hown';obtain⟨hv1,hv2,hr2,hk2,hb2⟩:=hv.appended (by decide) aq hB.size (le_refl _) hown' hgrow;have hc1:=hv1.cell;have hf1:=hv1.frozen);have hbs1:=((hbs.alloc _).kept hgrow (hbs.not_row (by decide) aq)).other (B':=w.heap.size) (by omega) (.slice (some ⟨g',0,none⟩) ((fQ pre).length+1) cap');exact⟨hk2.from _,fun _=>hbs1,⟨⟨_,hv2,by rw[rz];simpa using hr2,trivial⟩,hbs1⟩,hB.trans hb2⟩
 case done =>
  rintro D ys W hD rfl ⟨⟨⟨v,hv,aq,_⟩,hbs⟩,hB⟩ hK;have hc:=hv.cell;gi_wp2;refine⟨by simp,.inl ⟨_,_,rfl,run_takeDeferred hK,?_⟩⟩;exact⟨_,results_tmp rfl _ _ _,v,rfl,ownsRow_putObj aq _ hK rfl,hB.trans (belowK_b (w:=w) (le_refl _) W D _ _ (by simp at hD;omega) hK rfl rfl)⟩
 case stop =>
  rintro D c pre W _ _ h _;exact h.elim
attribute [local go_sem] Oper.semAt_some
def aj(l:List Int):List Int:=l.flatMap enc
theorem gu(l:List Int)(x:Int):aj (l++[x])=aj l++enc x:=by simp[aj]
theorem dQ(l:List Int):(aj l).length<=4 * l.length:=by
 induction l with
 | nil=>simp[aj]
 | cons a t ih =>
  have:=eA a;simp only[aj,List.flatMap_cons,length_append,length_cons]at *;omega
theorem cL(c:Int)(h0:0<=c)(h1:c<=1114111):Bytes (enc c):=by
 intro b hb;unfold enc at hb;by_cases q1:c<128
 ·rw[if_pos q1]at hb;simp at hb;omega
 ·rw[if_neg q1]at hb;by_cases q2:c<2048
  ·rw[if_pos q2]at hb;simp at hb;omega
  ·rw[if_neg q2]at hb;by_cases q3:c<65536
   ·rw[if_pos q3]at hb;simp at hb;omega
   ·rw[if_neg q3]at hb;simp at hb;omega
theorem cY(l:List Int)(h:∀ c∈l,0<=c/\c<=1114111):Bytes (aj l):=by intro b hb;obtain⟨c,hc,hbc⟩:=List.mem_flatMap.1 hb;exact cL c (h c hc).1 (h c hc).2 b hbc
theorem ME(l:List Sc):∀ c∈fQ l,0<=c/\c<=1114111:=by intro c hc;obtain⟨x,_,rfl⟩:=List.mem_map.1 hc;exact x.2
theorem dB(ns:List Int)(h:Bytes ns):(ns.map fun n=>UInt8.ofNat n.toNat).map (fun c=>(c.toNat:Int))=ns:=by
 rw[map_map]
 conv=>rhs;rw[<-map_id ns]
 apply List.map_congr_left;intro a ha;have:=h a ha;simp only[Function.comp,id,UInt8.toNat_ofNat'];omega
theorem gy(g j:Nat):((⟨g,0,none⟩:Addr).add j)=⟨g,j,none⟩:=by simp[Addr.add];exact fun h=>h.symm
theorem bB(w:World)(base:Nat)(v:Value)(n:Nat)(ns:List Int)(hn:n=ns.length)(hb:Bytes ns)(aq:w.ownsRow base 5 1 v n (ns.map (Value.int .u8))):
  ∃ t:ByteArray,(convert 36 9 v).run prog w=.ok (.string t) w/\bn t=ns:=by
 subst hn;rcases id aq.2 with⟨rfl,h0⟩ | ⟨g,cap,cur,rfl,_⟩
 ·refine⟨⟨#[]⟩,?_,?_⟩
  ·rw[run_convert_bytes_string w 36 9 5 none 0 0 underlying36 underlying5 underlying9];simp[Conv.bytesToString];rfl
  ·rw[List.length_eq_zero_iff.1 h0];rfl
 ·refine⟨⟨(ns.map fun n=>UInt8.ofNat n.toNat).toArray⟩,?_,?_⟩
  ·have:=run_convert_bytes_back (P:=prog) w 36 9 5 ⟨g,0,none⟩ cap (ns.map fun n=>UInt8.ofNat n.toNat) underlying36 underlying5 underlying9 (by
     intro j hj
     rw[gy,aq.cellAt j (by simpa using hj)]
     have hj':j<ns.length:=by simpa using hj
     have hbj:=hb ns[j] (getElem_mem hj')
     rw[getElem?_map,getElem?_eq_getElem hj']
     simp only[Option.map_some,List.getElem_map,UInt8.toNat_ofNat']
     congr 2
     omega)
   rw[length_map]at this;exact this
  ·unfold bn;simp only;exact dB ns hb
theorem gY{W w1:World}{n₀ B:Nat}{t e:TypeId}{size:Nat}{v v':Value}{k m:Nat}{xs ys:List Value}
  (hv:Boxed W B t v) (hte:t≠e) (aq:W.ownsRow n₀ e size v k xs) (hn₀:n₀<=W.heap.size) (hB:n₀<=B)
  (hown':w1.ownsRow n₀ e size v' m ys) (hgrow:W.grownBy w1 v.ownBlock) :
  Boxed w1 B t v/\Boxed (w1.setCell ⟨B,0,none⟩ v') B t v'/\(w1.setCell ⟨B,0,none⟩ v').ownsRow n₀ e size v' m ys/\KeepsOthers W (w1.setCell ⟨B,0,none⟩ v')/\Below n₀ W (w1.setCell ⟨B,0,none⟩ v'):=by
 have hv1:Boxed w1 B t v:=hv.kept hgrow (hv.not_row hte aq);refine⟨hv1,hv1.set v',hown'.kept (grownBy_setCell' w1 B v') (.inr (hv1.not_row hte hown').symm),?_,?_⟩
 ·refine(KeepsOthers.of_grownBy hgrow fun j o ej hj=>?_).trans (KeepsOthers.setCell _ _ _);rcases aq.2 with⟨rfl,_⟩ | ⟨g,cap,cur,rfl,_,hgb,_⟩
  ·simp[Value.ownBlock]at ej
  ·obtain rfl:g=j:=by simpa[Value.ownBlock]using ej
   rw[hgb]at hj;cases hj;rfl
 ·refine((Below.refl n₀ W).grown hgrow hn₀ fun j ej=>?_).setCell (p:=⟨B,0,none⟩) hB v';rcases aq.2 with⟨rfl,_⟩ | ⟨g,cap,cur,rfl,hb,_,_⟩
  ·simp[Value.ownBlock]at ej
  ·obtain rfl:g=j:=by simpa[Value.ownBlock]using ej
   exact hb
attribute [local go_sem] Oper.semAt_some
theorem jP(c:Int):128<=aU c:=by unfold aU;(repeat' split) <;> omega
theorem kM(c:Int):aQ c<=191:=by unfold aQ;(repeat' split) <;> omega
theorem mu(a:Int)(t:List Int)(h:a<128):nx (a::t)=(a,1,true):=by rw[nx,if_pos h]
theorem Gz(a b:Int)(t:List Int)(h1:194<=a)(h2:a<=223)(h3:128<=b)(h4:b<=191):nx (a::b::t)=((a - 192) * 64+(b - 128),2,true):=by
 have hf:follow a=1:=by unfold follow;rw[if_neg (by omega),if_neg (by omega),if_pos ⟨h1,h2⟩]
 have hl1:aU a=128:=by unfold aU;rw[if_neg (by omega),if_neg (by omega)]
 have hh1:aQ a=191:=by unfold aQ;rw[if_neg (by omega),if_neg (by omega)]
 have e:nx (a::b::t)=nxl 1 (b::t) 1 (a % 32) 128 191:=by rw[nx,if_neg (by omega),hf,hl1,hh1];rfl
 rw[e,nxl,if_neg (by omega),nxl];refine Prod.ext ?_ rfl;simp only;omega
theorem Rz(a:Int)(h1:194<=a)(h2:a<=223):nx [a]=(65533,1,false):=by
 have hf:follow a=1:=by unfold follow;rw[if_neg (by omega),if_neg (by omega),if_pos ⟨h1,h2⟩]
 rw[nx,if_neg (by omega),hf];rfl
theorem GA(a:Int)(t:List Int)(h1:224<=a)(h2:a<=239):nx (a::t)=nxl 2 t 1 (a % 16) (aU a) (aQ a):=by
 have hf:follow a=2:=by unfold follow;rw[if_neg (by omega),if_pos ⟨h1,h2⟩]
 rw[nx,if_neg (by omega),hf];rfl
theorem Gy(a b c:Int)(t:List Int)(h1:224<=a)(h2:a<=239)(h3:aU a<=b)(h4:b<=aQ a)(h5:128<=c)(h6:c<=191):
  nx (a::b::c::t)=((a - 224) * 4096+(b - 128) * 64+(c - 128),3,true):=by
 have q1:=jP a;have q2:=kM a;rw[GA a _ h1 h2,nxl,if_neg (by omega),nxl,if_neg (by omega),nxl];refine Prod.ext ?_ rfl;simp only;omega
theorem Ae(a:Int)(t:List Int)(h1:240<=a)(h2:a<=244):nx (a::t)=nxl 3 t 1 (a % 8) (aU a) (aQ a):=by
 have hf:follow a=3:=by unfold follow;rw[if_pos ⟨h1,h2⟩]
 rw[nx,if_neg (by omega),hf];rfl
theorem Gx(a b c d:Int)(t:List Int)(h1:240<=a)(h2:a<=244)(h3:aU a<=b)(h4:b<=aQ a)(h5:128<=c)(h6:c<=191)(h7:128<=d)(h8:d<=191):
  nx (a::b::c::d::t)=((a - 240) * 262144+(b - 128) * 4096+(c - 128) * 64+(d - 128),4,true):=by
 have q1:=jP a;have q2:=kM a;rw[Ae a _ h1 h2,nxl,if_neg (by omega),nxl,if_neg (by omega),nxl,if_neg (by omega),nxl];refine Prod.ext ?_ rfl;simp only;omega
theorem Gw(l:List Int)(h:l≠[])(hl:Bytes l)(hw:(nx l).2.2=true):
  (∀ r,nx (l++r)=nx l)/\enc (nx l).1=l.take (nx l).2.1/\(∀ n,(nx l).2.1<=n->nx (l.take n)=nx l)/\(∀ n,0<n->n<(nx l).2.1->nx (l.take n)=(65533,n,false)):=by
 rcases oK l h hl with⟨a,t,rfl,h0,h1,e⟩ | ⟨a,b,t,rfl,h1,h2,h3,h4,e⟩ | ⟨a,b,c,t,rfl,h1,h2,h3,h4,h5,h6,e⟩ | ⟨a,b,c,d,t,rfl,h1,h2,h3,h4,h5,h6,h7,h8,e⟩ | ⟨n,_,_,e⟩
 ·rw[e];refine⟨fun r=>mu a _ h1,?_,?_,?_⟩
  ·simp only;unfold enc;rw[if_pos h1];rfl
  ·intro n hn;obtain⟨m,rfl⟩:∃ m,n=m+1:=⟨n - 1,by simp only at hn;omega⟩;exact mu a _ h1
  ·intro n h0 hn;simp only at hn;omega
 ·rw[e];refine⟨fun r=>Gz a b _ h1 h2 h3 h4,?_,?_,?_⟩
  ·simp only;unfold enc;rw[if_neg (by omega),if_pos (by omega)];have e1:192+((a - 192) * 64+(b - 128)) / 64=a:=by omega
   have e2:128+((a - 192) * 64+(b - 128)) % 64=b:=by omega
   rw[e1,e2];rfl
  ·intro n hn;obtain⟨m,rfl⟩:∃ m,n=m+2:=⟨n - 2,by simp only at hn;omega⟩;exact Gz a b _ h1 h2 h3 h4
  ·intro n h0 hn;obtain rfl:n=1:=by simp only at hn;omega
   exact Rz a h1 h2
 ·have q1:=jP a;have q2:=kM a;rw[e];refine⟨fun r=>Gy a b c _ h1 h2 h3 h4 h5 h6,?_,?_,?_⟩
  ·have hlo:a=224->160<=b:=fun ha=>by subst ha;exact h3
   simp only;unfold enc;rw[if_neg (by omega),if_neg (by omega),if_pos (by omega)];have e1:224+((a - 224) * 4096+(b - 128) * 64+(c - 128)) / 4096=a:=by omega
   have e2:128+((a - 224) * 4096+(b - 128) * 64+(c - 128)) / 64 % 64=b:=by omega
   have e3:128+((a - 224) * 4096+(b - 128) * 64+(c - 128)) % 64=c:=by omega
   rw[e1,e2,e3];rfl
  ·intro n hn;obtain⟨m,rfl⟩:∃ m,n=m+3:=⟨n - 3,by simp only at hn;omega⟩;exact Gy a b c _ h1 h2 h3 h4 h5 h6
  ·intro n h0 hn;have:n=1\/n=2:=by simp only at hn;omega
   rcases this with rfl | rfl
   ·show nx [a]=_;rw[GA a _ h1 h2];rfl
   ·show nx [a,b]=_;rw[GA a _ h1 h2,nxl,if_neg (by omega)];rfl
 ·have q1:=jP a;have q2:=kM a;rw[e];refine⟨fun r=>Gx a b c d _ h1 h2 h3 h4 h5 h6 h7 h8,?_,?_,?_⟩
  ·have hlo:a=240->144<=b:=fun ha=>by subst ha;exact h3
   simp only;unfold enc;rw[if_neg (by omega),if_neg (by omega),if_neg (by omega)];have e1:240+((a - 240) * 262144+(b - 128) * 4096+(c - 128) * 64+(d - 128)) / 262144=a:=by omega
   have e2:128+((a - 240) * 262144+(b - 128) * 4096+(c - 128) * 64+(d - 128)) / 4096 % 64=b:=by omega
   have e3:128+((a - 240) * 262144+(b - 128) * 4096+(c - 128) * 64+(d - 128)) / 64 % 64=c:=by omega
   have e4:128+((a - 240) * 262144+(b - 128) * 4096+(c - 128) * 64+(d - 128)) % 64=d:=by omega
   rw[e1,e2,e3,e4];rfl
  ·intro n hn;obtain⟨m,rfl⟩:∃ m,n=m+4:=⟨n - 4,by simp only at hn;omega⟩;exact Gx a b c d _ h1 h2 h3 h4 h5 h6 h7 h8
  ·intro n h0 hn;have:n=1\/n=2\/n=3:=by simp only at hn;omega
   rcases this with rfl | rfl | rfl
   ·show nx [a]=_;rw[Ae a _ h1 h2];rfl
   ·show nx [a,b]=_;rw[Ae a _ h1 h2,nxl,if_neg (by omega)];rfl
   ·show nx [a,b,c]=_;rw[Ae a _ h1 h2,nxl,if_neg (by omega),nxl,if_neg (by omega)];rfl
 ·rw[e]at hw;simp at hw
theorem sN(c:Int)(h:ar c=true)(t:List Int):nx (enc c++t)=(c,(enc c).length,true):=by
 unfold ar at h;rw[decide_eq_true_eq]at h;unfold enc;by_cases q1:c<128
 ·rw[if_pos q1];exact mu c t q1
 ·rw[if_neg q1];by_cases q2:c<2048
  ·rw[if_pos q2];show nx ((192+c / 64)::(128+c % 64)::t)=(c,2,true);rw[Gz _ _ _ (by omega) (by omega) (by omega) (by omega)];refine Prod.ext ?_ rfl;simp only;omega
  ·rw[if_neg q2];by_cases q3:c<65536
   ·rw[if_pos q3];show nx ((224+c / 4096)::(128+c / 64 % 64)::(128+c % 64)::t)=(c,3,true);rw[Gy _ _ _ _ (by omega) (by omega) ?_ ?_ (by omega) (by omega)]
    ·refine Prod.ext ?_ rfl;simp only;omega
    ·unfold aU;by_cases g:224+c / 4096=224
     ·rw[if_pos g];omega
     ·rw[if_neg g,if_neg (by omega)];omega
    ·unfold aQ;by_cases g:224+c / 4096=237
     ·rw[if_pos g];omega
     ·rw[if_neg g,if_neg (by omega)];omega
   ·rw[if_neg q3];show nx ((240+c / 262144)::(128+c / 4096 % 64)::(128+c / 64 % 64)::(128+c % 64)::t)=(c,4,true);rw[Gx _ _ _ _ _ (by omega) (by omega) ?_ ?_ (by omega) (by omega) (by omega) (by omega)]
    ·refine Prod.ext ?_ rfl;simp only;omega
    ·unfold aU;by_cases g:240+c / 262144=240
     ·rw[if_neg (by omega),if_pos g];omega
     ·rw[if_neg (by omega),if_neg g];omega
    ·unfold aQ;by_cases g:240+c / 262144=244
     ·rw[if_neg (by omega),if_pos g];omega
     ·rw[if_neg (by omega),if_neg g];omega
theorem bg(l:List Int)(h:l≠[])(hl:Bytes l):dec l=(nx l).1::dec (l.drop (nx l).2.1):=by unfold dec;rw[kt l h,map_cons,mM l hl]
theorem eC:dec []=[]:=rfl
theorem dm:∀(n:Nat) (l:List Int),l.length<=n->Bytes l->(dec l).all ar=true
 | 0,l,h,_=>by obtain rfl:=List.length_eq_zero_iff.1 (show l.length=0 by omega);rfl
 | n+1,l,h,hl=>by
  by_cases hne:l=[]
  ·subst hne;rfl
  ·have hn:=oJ l hne;rw[bg l hne hl,all_cons,Ad l hne hl,dm n _ (by rw[length_drop];omega) (hl.drop _)];rfl
theorem dK:∀(n:Nat) (l:List Int),l.length<=n->Bytes l->(dec l).length<=l.length
 | 0,l,h,_=>by obtain rfl:=List.length_eq_zero_iff.1 (show l.length=0 by omega);exact le_refl _
 | n+1,l,h,hl=>by
  by_cases hne:l=[]
  ·subst hne;exact le_refl _
  ·have hn:=oJ l hne;have:=dK n (l.drop (nx l).2.1) (by rw[length_drop];omega) (hl.drop _);rw[length_drop]at this;rw[bg l hne hl,length_cons];omega
def aB(w:World)(v:Value)(zs:List Int):Prop :=
 (zs=[]/\∃ a cap,v=.slice a 0 cap)\/(0<zs.length/\∃ b off cap,v=.slice (some ⟨b,off,none⟩) zs.length cap/\∀ j,j<zs.length->w.cell? ⟨b,off+j,none⟩=some (.int .i32 (zs[j]?.getD 0)))
theorem lt_of_cell{w:World}{a:Addr}{v:Value}(h:w.cell? a=some v):a.block<w.heap.size:=by
 by_cases hb:a.block<w.heap.size
 ·exact hb
 ·simp[World.cell?,getElem?_eq_none (Nat.le_of_not_lt hb)]at h
theorem aB.below{A B:World}{n:Nat}(h:Below n A B)(hn:A.heap.size<=n){v:Value}{zs:List Int}:aB A v zs->aB B v zs
 | .inl e=>.inl e
 | .inr ⟨hp,b,off,cap,e,hc⟩=>.inr ⟨hp,b,off,cap,e,fun j hj=>(h.cell (p:=⟨b,off+j,none⟩) (lt_of_lt_of_le (lt_of_cell (hc j hj)) hn)).trans (hc j hj)⟩
theorem aB.own{w:World}{base:Nat}{v:Value}{n:Nat}{zs:List Int}(hn:n=zs.length)(h:w.ownsRow base 21 1 v n (zs.map (Value.int .i32))):aB w v zs:=by
 subst hn;rcases id h.2 with⟨rfl,h0⟩ | ⟨g,cap,cur,rfl,_⟩
 ·exact .inl ⟨List.length_eq_zero_iff.1 h0,_,_,rfl⟩
 ·by_cases hz:zs.length=0
  ·exact .inl ⟨List.length_eq_zero_iff.1 hz,_,_,by rw[hz]⟩
  ·refine .inr ⟨by omega,g,0,cap,rfl,fun j hj=>?_⟩;rw[zero_add,h.cellAt j (by omega),getElem?_map,getElem?_eq_getElem hj];rfl
theorem fI(zs:List Int)(k:Nat)(h:k<zs.length):zs.take (k+1)=zs.take k++[zs[k]?.getD 0]:=by rw[List.take_succ_eq_append_getElem h,getElem?_eq_getElem h];rfl
theorem pS(zs:List Int)(k:Nat)(h:k<zs.length):aj (zs.take (k+1))=aj (zs.take k)++enc (zs[k]?.getD 0):=by rw[fI zs k h,gu]
theorem qK(zs:List Int)(k:Nat)(h:k<zs.length)(ha:(zs.take k).all ar=true)(hs:ar (zs[k]?.getD 0)=true):(zs.take (k+1)).all ar=true:=by rw[fI zs k h,all_append,ha];simp[hs]
theorem all_false(zs:List Int)(k:Nat)(h:k<zs.length)(hs:ar (zs[k]?.getD 0)=false):zs.all ar=false:=by rw[<-List.take_append_drop (k+1) zs,fI zs k h,all_append,all_append];simp[hs]
theorem aS{c:Int}(h:ar c=true):0<=c/\c<=1114111:=by unfold ar at h;rw[decide_eq_true_eq]at h;omega
theorem Ju{zs:List Int}(h:zs.all ar=true):∀ c∈zs,0<=c/\c<=1114111:=fun c hc=>aS (List.all_eq_true.1 h c hc)
def encR(zs:List Int)(t:ByteArray)(e:Int):Prop:=(zs.all ar=true/\e=0/\bn t=aj zs)\/(zs.all ar=false/\e=2/\t=⟨#[]⟩)
theorem wO(b off cap:Nat)(zs:List Int)(hlen:zs.length<=17179869184)(w:World)(hp:0<zs.length)(hc:∀ j,j<zs.length->w.cell? ⟨b,off+j,none⟩=some (.int .i32 (zs[j]?.getD 0))):
  Calls prog 203 #[.slice (some ⟨b,off,none⟩) zs.length cap] w fun e W'=>(∃ t r,e=.returned (.tuple #[.string t,.int .i64 r])/\encR zs t r)/\Below w.heap.size w W':=by
 have hb:b<w.heap.size:=lt_of_cell (hc 0 hp);go_enter func203,ntmps203;go_wp2_with fail
 go_loopw [4,9] (fun v i wr=>∃ k:Nat,k<=zs.length/\i=.int .i64 k/\(zs.take k).all ar=true/\wr.ownsRow w.heap.size 5 1 v (aj (zs.take k)).length ((aj (zs.take k)).map (Value.int .u8))/\Below w.heap.size w wr)
  (fun _ i _=>zs.length - (intOf i).toNat)
 case atStart=>exact⟨0,zero_le _,rfl,by simp,ownsRow_nil _ _ _ _,Below.refl _ _⟩
 case round =>
  obtain⟨k,hk,rfl,hall,aq,hB⟩:=hrel;by_cases hlt:k<zs.length
  ·have hck:wr.cell? ⟨b,off+k,none⟩=some (.int .i32 (zs[k]?.getD 0)):=(hB.cell (p:=⟨b,off+k,none⟩) hb).trans (hc k hlt);have hel:=dQ (zs.take k);have htl:(zs.take k).length<=k:=List.length_take_le _ _;have H1:Hid ((zs.take k).all ar=true):=hall;have H2:Hid (aj (zs.take (k+1))=aj (zs.take k)++enc (zs[k]?.getD 0)):=pS zs k hlt;clear hall;obtain⟨c,hcc⟩:∃ c,c=zs[k]?.getD 0:=⟨_,rfl⟩;rw[<-hcc]at hck;have HC:Hid (c=zs[k]?.getD 0):=hcc;clear hcc;cases hsc:ar c with
   | true =>
    have HS:Hid (ar c=true):=hsc;clear hsc;have hbd:=aS HS.out;go_wp2_with fail;refine(kK _ _).mono ?_;rw[HS.out];rintro e w' ⟨rfl,rfl⟩;go_wp2_with fail;refine(qn w.heap.size _ _ _ _ hbd.1 hbd.2 _ hB.size (by omega) aq).mono ?_;rintro e w1 ⟨v',rfl,hown',hgrow⟩;have R:Hid (w1.ownsRow w.heap.size 5 1 v' (aj (zs.take (k+1))).length ((aj (zs.take (k+1))).map (Value.int .u8))):=by show w1.ownsRow _ _ _ _ _ _;rw[H2.out,<-HC.out,length_append,map_append];exact hown'
    have hB1:Below w.heap.size w w1:=hB.grown hgrow hB.size (fun j ej=>by
      rcases aq.2 with⟨rfl,_⟩ | ⟨g,cap,cur,rfl,hbg,_,_⟩
      · simp[Value.ownBlock]at ej
      · obtain rfl:g=j:=by simpa[Value.ownBlock]using ej
        exact hbg)
    clear hown' hgrow aq hB hck;go_wp2
    go_roundw
    case rel=>exact⟨k+1,by omega,by go_num,qK zs k hlt H1.out (by rw[<-HC.out];exact HS.out),R.out,hB1⟩
    case measure=>simp[intOf];omega
   | false =>
    have HS:Hid (ar c=false):=hsc;clear hsc;go_wp2_with fail;refine(kK _ _).mono ?_;rw[HS.out];rintro e w' ⟨rfl,rfl⟩;go_wp2;go_ret2;exact⟨⟨_,_,rfl,.inr ⟨all_false zs k hlt (by rw[<-HC.out];exact HS.out),rfl,rfl⟩⟩,hB⟩
  ·have hkk:k=zs.length:=by omega
   rw[hkk,List.take_length]at hall aq;obtain⟨t,hcv,ht⟩:=bB wr w.heap.size _ _ (aj zs) rfl (cY _ (Ju hall)) aq;have H1:Hid (zs.all ar=true):=hall;have HT:Hid (bn t=aj zs):=ht;clear hall ht hkk;go_wp2;go_ret2;exact⟨⟨_,_,rfl,.inl ⟨H1.out,rfl,HT.out⟩⟩,hB⟩
theorem wP(a:Option Addr)(cap:Nat)(w:World):
  Calls prog 203 #[.slice a 0 cap] w fun e W'=>(∃ t r,e=.returned (.tuple #[.string t,.int .i64 r])/\encR [] t r)/\Below w.heap.size w W':=by
 obtain⟨t,hcv,ht⟩:=bB w w.heap.size (.slice none 0 0) 0 [] rfl (fun b hb=>by cases hb) (ownsRow_nil _ _ _ _);have HT:Hid (bn t=aj []):=ht;clear ht;go_enter func203,ntmps203;go_wp2_with fail;refine wp_loop_rounds 1 ?_;rw[rounds_succ];go_wp2;go_ret2;exact⟨⟨_,_,rfl,.inl ⟨rfl,rfl,HT.out⟩⟩,Below.refl _ _⟩
theorem gU(v:Value)(zs:List Int)(hlen:zs.length<=17179869184)(w:World)(hv:aB w v zs):
  Calls prog 203 #[v] w fun e W'=>(∃ t r,e=.returned (.tuple #[.string t,.int .i64 r])/\encR zs t r)/\Below w.heap.size w W':=by
 rcases hv with⟨rfl,a,cap,rfl⟩ | ⟨hp,b,off,cap,rfl,hc⟩
 ·exact wP a cap w
 ·exact wO b off cap zs hlen w hp hc
theorem bC{s t:ByteArray}(h:bn s=bn t):s=t:=by
 unfold bn at h
 have h2:s.data.toList=t.data.toList:=by
  have:∀(a b:List UInt8),a.map (fun c=>(c.toNat:Int))=b.map (fun c=>(c.toNat:Int))->a=b:=by
   intro a
   induction a with
   | nil=>intro b hb;cases b with
    | nil=>rfl
    | cons _ _=>simp at hb
   | cons x a ih=>intro b hb;cases b with
    | nil=>simp at hb
    | cons y b =>
     simp only[map_cons,List.cons.injEq]at hb;have hxy:x=y:=UInt8.toNat_inj.1 (by have:=hb.1;omega);rw[ih b hb.2,hxy]
  exact this _ _ h
 cases s;cases t;congr 1;exact Array.toList_inj.1 h2
theorem below_drewN(B:Nat)(w:World)(n:Nat):Below B w (w.drewN n):=⟨rfl,rfl,rfl,le_refl _,fun _ _=>rfl⟩
def nt(w:World)(u:Value)(zs:List Int):Prop :=
 (u=.slice none 0 0/\zs=[])\/∃ ad c,u=.slice (some ad) zs.length c/\∀ j,j<zs.length->w.cell? (ad.add j)=some (.int .i32 (zs[j]?.getD 0))
theorem bH{w:World}{ops:Array Oper}{rest:List Oper}{o:Oper}{a:Act}{Q:Exit->Act->World->Prop}(hgd:o.guard=none)(s x:Operand)
  (ho:o.op=.call { callee:=.builtin .append,args:=#[s,x],argTypes:=#[37,37] }) (base:Nat) (v:Value) (n:Nat) (ys:List Int) (hs:a.eval s=v) (hown:w.ownsRow base 21 1 v n (ys.map (Value.int .i32)))
  (u:Value) (zs:List Int) (hx:a.eval x=u) (hu:nt w u zs) (hbd:n+zs.length<=17179869184) (hbase:base<=w.heap.size)
  (h:∀ v' w',w'.ownsRow base 21 1 v' (n+zs.length) ((ys++zs).map (Value.int .i32))->w.grownBy w' v.ownBlock->wpList prog ops Q rest (a.put o.dst v') w'):wpList prog ops Q (o::rest) a w:=by
 obtain⟨i0,hi,hz0,hz1,hz2⟩:=info_parts Tryz.lW;rcases hu with⟨rfl,rfl⟩ | ⟨ad,c,rfl,hc⟩
 ·exact wpList_append_own_none hgd s x 37 ho base 21 i0 1 underlying37 hi v n _ hs hown hx (h v w (by simpa using hown) ⟨rfl,rfl,rfl,le_refl _,fun _ _ _=>rfl⟩)
 ·refine wpList_append_own w hgd s x 37 ho base 21 i0 (.int .i32 0) 1 4 underlying37 hi hz0 hz1 hz2 rfl (by decide) v n _ hs hown ad zs.length c (zs.map (Value.int .i32)) hx (by simp) ?_ ?_ (by unfold maxLen;omega) (by omega) hbase (fun v' w' h1 h2 _=>h v' w' (by simpa using h1) h2)
  ·intro j y hj;rw[getElem?_map]at hj;obtain⟨c',hc',rfl⟩:=Option.map_eq_some_iff.1 hj;have hj':=(List.getElem?_eq_some_iff.1 hc').1;rw[hc j hj',hc'];rfl
  ·intro y hy;obtain⟨c',_,rfl⟩:=List.mem_map.1 hy;rfl
theorem below_grow{B:Nat}{w w1 w2:World}{e:TypeId}{size:Nat}{v:Value}{n:Nat}{xs:List Value}(hB:Below B w w1)(hb:B<=w1.heap.size)(hown:w1.ownsRow B e size v n xs)(hg:w1.grownBy w2 v.ownBlock):Below B w w2 :=
 hB.grown hg hb (fun j ej=>by
   rcases hown.2 with⟨rfl,_⟩ | ⟨g,cap,cur,rfl,hbg,_,_⟩
   · simp[Value.ownBlock]at ej
   · obtain rfl:g=j:=by simpa[Value.ownBlock]using ej
     exact hbg)
theorem aO(a b:ByteArray):bn (a++b)=bn a++bn b:=by unfold bn;rw[<-map_append];congr 1
theorem ax{base B:Nat}{e:TypeId}{size:Nat}{v:Value}{n:Nat}{xs:List Value}{w w':World}(h:w.ownsRow base e size v n xs)(hb:Below B w w')(hB:w.heap.size<=B):w'.ownsRow base e size v n xs:=by
 rcases h with⟨h1,⟨rfl,h2⟩ | ⟨g,cap,cur,rfl,hbg,hg,h3⟩⟩
 ·exact⟨h1,.inl ⟨rfl,h2⟩⟩
 ·have hlt:g<w.heap.size:=(Array.getElem?_eq_some_iff.1 hg).1;exact⟨h1,.inr ⟨g,cap,cur,rfl,hbg,(hb.block g (by omega)).trans hg,h3⟩⟩
end U
namespace E
theorem hid{p:Prop}(h:p):Hid p:=h
def ctl(r:Int):Bool:=decide (r<32)||decide (126<r)
def sgn:Nat->List Int
 | 1=>[32,34,60,62,96]
 | 2=>[32,34,35,60,62]
 | 3=>[32,34,35,60,62,39]
 | 4=>[32,34,35,60,62,63,94,96,123,125]
 | 5=>[32,34,35,60,62,63,94,96,123,125,47,58,59,61,64,91,92,93,124]
 | 6=>[32,34,35,60,62,63,94,96,123,125,47,58,59,61,64,91,92,93,124,36,37,38,43,44]
 | _=>[]
def inS(r:Int)(k:Nat):Bool:=decide (k<=6)&&(ctl r||(sgn k).contains r)
theorem wk{r:Int}{k:Nat}(h:6<k):inS r k=false:=by unfold inS;rw[decide_eq_false (by omega)];rfl
theorem yw{r:Int}{k:Nat}(hk:k<=6)(h:inS r k=false):32<=r/\r<=126:=by unfold inS ctl at h;rw[decide_eq_true hk]at h;simp at h;omega
def dg(n:Int):Int:=if n<10 then 48+n else 55+n
def pe(b:Int):List Int:=[37,dg (b / 16),dg (b % 16)]
def tok(k:Nat)(c:Int):List Int:=if inS c k=true then (U.enc c).flatMap pe else U.enc c
def en(k:Nat)(l:List Int):List Int:=l.flatMap (tok k)
theorem Df(k:Nat)(a b:List Int):en k (a++b)=en k a++en k b:=List.flatMap_append
theorem kX(k:Nat)(c:Int)(l:List Int):en k (c::l)=tok k c++en k l:=List.flatMap_cons
theorem MQ(k:Nat)(l:List Int)(c:Int):en k (l++[c])=en k l++tok k c:=by rw[Df];simp[en]
theorem iV:∀ l:List Int,(l.flatMap pe).length=3 * l.length
 | []=>rfl
 | b::l=>by rw[List.flatMap_cons,length_append,iV l,length_cons];show 3+_=_;omega
theorem Kd(k:Nat)(c:Int):(tok k c).length<=12:=by
 have:=U.eA c;unfold tok;split
 ·rw[iV];omega
 ·omega
theorem yJ(k:Nat):∀ l:List Int,(en k l).length<=12 * l.length
 | []=>le_refl _
 | c::l=>by have h1:=Kd k c;have h2:=yJ k l;rw[kX,length_append,length_cons];omega
def hx(c:Int):Int:=if 48<=c/\c<=57 then c - 48 else if 97<=c/\c<=102 then c - 87 else if 65<=c/\c<=70 then c - 55 else -1
def de:List Int->List Int
 | []=>[]
 | [a]=>[a]
 | [a,b]=>[a,b]
 | c::a::b::t=>if c=37/\0<=hx a/\0<=hx b then (16 * hx a+hx b)::de t else c::de (a::b::t)
theorem IQ{a b:Int}{t:List Int}(ha:0<=hx a)(hb:0<=hx b):de (37::a::b::t)=(16 * hx a+hx b)::de t:=by rw[de,if_pos ⟨rfl,ha,hb⟩]
theorem IS{c:Int}{t:List Int}(h:¬ (c=37/\2<=t.length/\0<=hx (t[0]?.getD 0)/\0<=hx (t[1]?.getD 0))):de (c::t)=c::de t:=by
 match t,h with
 | [],_=>rfl
 | [a],_=>rfl
 | a::b::t,h =>
  rw[de,if_neg (fun hh=>h ⟨hh.1,by simp,hh.2.1,hh.2.2⟩)]
theorem iG(c:Int):-1<=hx c/\hx c<=15:=by unfold hx;(repeat' split) <;> omega
theorem tC:∀(n:Nat) (l:List Int),l.length<=n->(de l).length<=l.length
 | _,[],_=>le_refl _
 | _,[a],_=>le_refl _
 | _,[a,b],_=>le_refl _
 | 0,c::a::b::t,h=>by simp at h
 | n+1,c::a::b::t,h=>by
  rw[de];split
  ·have:=tC n t (by simp at h;omega);simp;omega
  ·have:=tC n (a::b::t) (by simp at h ⊢;omega);simp at this ⊢;omega
theorem dk{c:Int}(h:c<128):U.enc c=[c]:=by unfold U.enc;rw[if_pos h]
theorem aS{c:Int}(h:U.ar c=true):0<=c/\c<=1114111:=by unfold U.ar at h;have:=of_decide_eq_true h;omega
theorem MY:∀ k:Fin 7,∀ n:Fin 16,inS (dg n.val) k.val=false:=by decide +kernel
theorem RT{n:Int}(h0:0<=n)(h1:n<=15):48<=dg n/\dg n<=70:=by unfold dg;split <;> omega
theorem iL{k:Nat}(hk:k<=6){l:List Int}(h:∀ c∈l,U.ar c=true):∀ y∈en k l,32<=y/\y<=126/\(inS y k=true->y=37):=by
 intro y hy;obtain⟨c,hc,hyc⟩:=List.mem_flatMap.1 hy;have hb:=aS (h c hc);unfold tok at hyc;split at hyc
 ·obtain⟨b,hbm,hyb⟩:=List.mem_flatMap.1 hyc;have hbb:=U.cL c hb.1 hb.2 b hbm;have key:∀ n:Int,0<=n->n<=15->32<=dg n/\dg n<=126/\(inS (dg n) k=true->dg n=37):=fun n h0 h1=>by have h2:=RT h0 h1;have h3:=MY ⟨k,by omega⟩ ⟨n.toNat,by omega⟩;simp only at h3;rw[show((n.toNat:Nat):Int)=n by omega]at h3;exact⟨by omega,by omega,fun hh=>by rw[h3]at hh;cases hh⟩
  have hyb':y=37\/y=dg (b / 16)\/y=dg (b % 16):=by simpa[pe]using hyb
  rcases hyb' with rfl | rfl | rfl
  ·exact⟨by omega,by omega,fun _=>rfl⟩
  ·exact key _ (by omega) (by omega)
  ·exact key _ (by omega) (by omega)
 ·rename_i hi;have hi':inS c k=false:=by simpa using hi
  have h2:=yw hk hi';rw[dk (by omega)]at hyc;simp at hyc;subst hyc;exact⟨h2.1,h2.2,fun hh=>by rw[hi']at hh;cases hh⟩
theorem jh(s:ByteArray):∀ c∈U.dec (U.bn s),U.ar c=true:=List.all_eq_true.1 (U.dm (U.bn s).length (U.bn s) (le_refl _) (U.aL s))
theorem IH{k:Nat}{l:List Int}(h:∀ c∈l,U.ar c=true):U.Bytes (en k l):=by
 by_cases hk:k<=6
 ·intro y hy;have:=iL hk h y hy;omega
 ·intro y hy;obtain⟨c,hc,hyc⟩:=List.mem_flatMap.1 hy;have hb:=aS (h c hc);unfold tok at hyc;rw[wk (by omega),if_neg (by decide)]at hyc;exact U.cL c hb.1 hb.2 y hyc
end E
namespace F
theorem kc(b:Nat):∀ f n,(wrF b f n).length<=f+1
 | 0,n=>by simp[wrF]
 | f+1,n=>by
  rw[wrF];split
  ·simp
  ·have:=kc b f (n / b);simp;omega
theorem rZ(b n:Nat):(wr b n).length<=65:=kc b 64 n
theorem dG{k:IntKind}{a b:Int}(h:a=b):Ending.returned (.int k a)=.returned (.int k b):=by rw[h]
def tail(s:ByteArray):ByteArray:=if isX (bn s)=true then s.extract 2 s.size else if isO (bn s)=true then s.extract 1 s.size else s
theorem Kg(s:ByteArray):bn (tail s)=rest (bn s):=by
 unfold tail rest;split
 ·exact aw s 2
 ·split
  ·exact aw s 1
  ·rfl
theorem AW(s:ByteArray):(tail s).size<=s.size:=by
 unfold tail;split
 ·simp
 ·split
  ·simp
  ·exact le_refl _
def ka(l:List Int)(e:Ending):Prop:=e=.returned (.tuple #[.int .u64 ((num l).1:Nat),.int .i64 (num l).2])
theorem Lw{l:List Int}(hl:l≠[])(h:ok (base l) (rest l)=false):num l=(0,8):=by unfold num;rw[if_neg hl,if_pos h]
theorem Lv{l:List Int}(hl:l≠[])(h:ok (base l) (rest l)=true):num l=if 4294967296<=cap (base l) (rest l) then (0,4) else (cap (base l) (rest l),0):=by
 unfold num;rw[if_neg hl,h,if_neg (by simp)];by_cases h2:4294967296<=vl (base l) (rest l)
 ·rw[if_pos h2,if_pos ((xf _ _).2 h2)]
 ·rw[if_neg h2,if_neg (fun h=>h2 ((xf _ _).1 h)),Qx h2]
theorem vz{b:Nat}{l:List Int}{k:Nat}(hk:k<l.length)(h:ij b (l[k]?.getD 0)=false):ok b l=false:=by rw[Bool.eq_false_iff];intro hh;have:=List.all_eq_true.1 hh l[k] (getElem_mem hk);rw[getElem?_eq_getElem hk]at h;rw[show l[k]=(some l[k]).getD 0 from rfl,h]at this;cases this
def spl:List Int->List (List Int)
 | []=>[[]]
 | c::l=>if c=46 then []::spl l else (c::(spl l).headD [])::(spl l).tail
theorem aV:∀ l,spl l≠[]
 | []=>by simp[spl]
 | c::l=>by rw[spl];split <;> simp
theorem head_tail{l:List (List Int)}(h:l≠[]):l.headD []::l.tail=l:=by
 cases l with
 | nil=>exact absurd rfl h
 | cons a t=>rfl
theorem mN(l:List Int):spl (46::l)=[]::spl l:=by rw[spl,if_pos rfl]
theorem cG:∀(p l:List Int),¬ 46∈p->spl (p++46::l)=p::spl l
 | [],l,_=>mN l
 | c::p,l,h=>by have hc:c≠46:=fun e=>h (by simp[e]);have ih:=cG p l (fun hh=>h (by simp[hh]));show spl (c::(p++46::l))=_;rw[spl,if_neg hc,ih];rfl
theorem cn:∀(p:List Int),¬ 46∈p->spl p=[p]
 | [],_=>rfl
 | c::p,h=>by have hc:c≠46:=fun e=>h (by simp[e]);rw[spl,if_neg hc,cn p (fun hh=>h (by simp[hh]))];rfl
def join:List (List Int)->List Int
 | []=>[]
 | [p]=>p
 | p::q::r=>p++46::join (q::r)
def prt(l:List Int):List (List Int):=if 1<(spl l).length/\(spl l).getLast? = some [] then (spl l).dropLast else spl l
def lg(t:Nat):List (Nat×Int)->Bool
 | []=>false
 | [x]=>decide (x.2=4)||decide (256 ^ (5 - t)<=x.1)
 | x::y::r=>decide (x.2=4)||decide (255<x.1)||lg t (y::r)
def sm:Nat->List (Nat×Int)->Nat
 | _,[]=>0
 | _,[x]=>x.1
 | i,x::y::r=>x.1 * 256 ^ (3 - i)+sm (i+1) (y::r)
def adr(ps:List (List Int)):Nat×Int :=
 if 4<ps.length then (0,8) else if (ps.map num).any (fun x=>decide (x.2=8))=true then (0,8) else if lg ps.length (ps.map num)=true then (0,4) else (sm 0 (ps.map num),0)
def prs(l:List Int):Nat×Int:=adr (prt l)
def ten(c:Int):Bool:=decide (48<=c/\c<=57)
def pR(p:List Int):Bool:=(decide (p≠[])&&p.all ten)||(isX p&&decide ((num p).2≠8))
def ends(l:List Int):Bool:=pR ((prt l).getLast?.getD [])
def cO(vs:List (Nat×Nat)):List (List Int):=vs.map fun v=>wrt v.1 v.2
def cut(a n:Nat):List Nat:=match n with
 | 1=>[a]
 | 2=>[a / 16777216,a % 16777216]
 | 3=>[a / 16777216,a / 65536 % 256,a % 65536]
 | _=>[a / 16777216,a / 65536 % 256,a / 256 % 256,a % 256]
theorem za(s:ByteArray)(i j:Nat)(hij:i<=j)(hj:j<=s.size):bn (s.extract i j)=((bn s).drop i).take (j - i):=by unfold bn;rw[data_extract,Array.toList_extract,List.extract_eq_take_drop,map_take,map_drop]
theorem GP(w:World)(t:TypeId)(l:List Value):∀(j:Nat) (u:Value),l[j]? = some u->(w.alloc (.cells l.toArray t)).cell? ((⟨w.heap.size,0,none⟩:Addr).add j)=some u:=by
 intro j u h;have hb:(w.alloc (.cells l.toArray t)).heap[w.heap.size]? = some (.cells l.toArray t):=heap_alloc_new w _;generalize w.alloc (.cells l.toArray t)=W at hb ⊢;have e:(⟨w.heap.size,0,none⟩:Addr).add j=⟨w.heap.size,j,none⟩:=by unfold Addr.add;split <;> simp_all
 rw[e];simp[World.cell?,hb,h]
theorem below_grow{B:Nat}{w w1 w2:World}{e:TypeId}{size:Nat}{v:Value}{n:Nat}{xs:List Value}(hB:Below B w w1)(hb:B<=w1.heap.size)(hown:w1.ownsRow B e size v n xs)(hg:w1.grownBy w2 v.ownBlock):Below B w w2 :=
 hB.grown hg hb (fun j ej=>by
   rcases hown.2 with⟨rfl,_⟩ | ⟨g,cap,cur,rfl,hbg,_,_⟩
   · simp[Value.ownBlock]at ej
   · obtain rfl:g=j:=by simpa[Value.ownBlock]using ej
     exact hbg)
def grt(t:Nat):List Nat->Bool
 | []=>false
 | [x]=>decide (256 ^ (5 - t)<=x)
 | x::y::r=>decide (255<x)||grt t (y::r)
def jE(ns:List Nat):List (Nat×Nat):=ns.map fun n=>(2,n)
def smN:Nat->List Nat->Nat
 | _,[]=>0
 | _,[x]=>x
 | i,x::y::r=>x * 256 ^ (3 - i)+smN (i+1) (y::r)
end F
end Go.Proofs.YtmkompnhefhngaaGreatDoor
namespace Go.Proofs
open Go.Shelf Go.RowKit
shelf_lay LaysM.n171 Nm 171 at Tryz as Tryz.laysItoa
end Go.Proofs
namespace Go.Proofs.YtmkompnhefhngaaGreatDoor
open Tryz Go.RowKit
namespace F
def Pow(w:World):Prop:=(match (w.heap[3]? : Option Obj) with | some (Obj.cells cs _ _)=>some cs | _=>none)=some (Lib.pow10Tab.map fun z=>Value.int .u64 z).toArray
theorem Pow.below{w w':World}(h:Pow w){B:Nat}(hB:3<B)(hb:Below B w w'):Pow w':=by unfold Pow at *;rw[hb.block _ hB];exact h
theorem Pow.size{w:World}(h:Pow w):3<w.heap.size:=by
 unfold Pow at h;rcases lt_or_ge 3 w.heap.size with hb | hb
 ·exact hb
 ·rw[getElem?_eq_none hb]at h;cases h
theorem yR:∀ n:Fin 256,((Lib.decDigits n.val).map fun b=>(b.toNat:Int))=wr 10 n.val:=by decide +kernel
theorem yC(w:World)(k:Nat)(os:Array Obj):Below w.heap.size w (Sort.grow (w.drewN k) os):=by
 refine⟨rfl,rfl,rfl,?_,fun j hj=>?_⟩
 ·show w.heap.size<=(w.heap++os).size;simp
 ·show(w.heap++os)[j]? = _;rw[Array.getElem?_append_left hj]
def byt(a k:Nat):Nat:=a / 256 ^ (3 - k) % 256
def txt(a:Nat):List Int:=join (cO (jE (cut a 4)))
def mK(a:Nat)(w:World)(e:Ending)(W':World):Prop:=(∃ t,e=.returned (.string t)/\bn t=txt a)/\Below w.heap.size w W'
theorem km:∀(l p:List Int),p∈spl l->p.length<=l.length
 | [],p,h=>by simp[spl]at h;simp[h]
 | c::l,p,h=>by
  have ht:=head_tail (aV l)
  have mem:∀ q,q∈(spl l).tail\/q=(spl l).headD []->q∈spl l:=fun q hq=>by
   rw[<-ht];rcases hq with hq | hq
   ·exact mem_cons_of_mem _ hq
   ·rw[hq];exact List.mem_cons_self
  rw[spl]at h;split at h
  ·rcases List.mem_cons.1 h with rfl | h
   ·simp
   ·have:=km l p h;simp;omega
  ·rcases List.mem_cons.1 h with rfl | h
   ·have:=km l _ (mem _ (.inr rfl));simp at this ⊢;omega
   ·have:=km l p (mem p (.inl h));simp;omega
theorem KZ{l p:List Int}(h:p∈prt l):p∈spl l:=by
 unfold prt at h;split at h
 ·exact(List.dropLast_subset _) h
 ·exact h
theorem zG:∀(l:List Int),(spl l).length<=l.length+1
 | []=>by simp[spl]
 | c::l=>by
  have ih:=zG l;have ht:=congrArg List.length (head_tail (aV l));rw[length_cons]at ht;rw[spl];split
  ·simp;omega
  ·simp only[length_cons];omega
theorem gI{s q:ByteArray}{qs:List ByteArray}(h:qs.map bn=prt (bn s))(hq:q∈qs):q.size<=s.size:=by
 have h1:bn q∈prt (bn s):=by rw[<-h];exact List.mem_map.2 ⟨q,hq,rfl⟩
 have h2:=km _ _ (KZ h1)
 rwa [aa,aa]at h2
def Jt(xs:List (Nat×Int)):Bool:=xs.any (fun x=>decide (x.2=4))
def Js(xs:List (Nat×Int)):Bool:=xs.any (fun x=>decide (x.2=8))
theorem oS(t:Nat):∀ xs:List (Nat×Int),lg t xs=(Jt xs||grt t (xs.map (·.1)))
 | []=>rfl
 | [x]=>by simp[lg,Jt,grt]
 | x::y::r=>by have ih:=oS t (y::r);have e1:lg t (x::y::r)=(decide (x.2=4)||decide (255<x.1)||lg t (y::r)):=rfl;have e2:Jt (x::y::r)=(decide (x.2=4)||Jt (y::r)):=rfl;have e3:grt t ((x::y::r).map (·.1))=(decide (255<x.1)||grt t ((y::r).map (·.1))):=rfl;rw[e1,ih,e2,e3];cases decide (x.2=4) <;> cases decide (255<x.1) <;> cases Jt (y::r) <;> rfl
theorem xQ:∀(xs:List (Nat×Int)) (i:Nat),sm i xs=smN i (xs.map (·.1))
 | [],i=>rfl
 | [x],i=>rfl
 | x::y::r,i=>by have ih:=xQ (y::r) (i+1);show x.1 * 256 ^ (3 - i)+sm (i+1) (y::r)=x.1 * 256 ^ (3 - i)+smN (i+1) ((y::r).map (·.1));rw[ih]
theorem Jr{p:Nat×Int->Bool}(xs:List (Nat×Int))(k:Nat)(hk:k<xs.length):(xs.take (k+1)).any p=((xs.take k).any p||p (xs[k]?.getD (0,0))):=by rw[List.take_succ_eq_append_getElem hk,List.any_append,getElem?_eq_getElem hk];simp
theorem Ps(l:List Int):(num l).1<4294967296:=by unfold num;(repeat' split) <;> simp_all <;> omega
theorem qQ{ns:List Nat}(h1:1<=ns.length)(h4:ns.length<=4)(h:grt ns.length ns=false):smN 0 ns<4294967296:=by
 match ns,h1,h4,h with
 | [a],_,_,h=>have:=of_decide_eq_false h;simp at this;show a<_;omega
 | [a,b],_,_,h =>
  simp[grt]at h;show a * 256 ^ 3+b<_;omega
 | [a,b,c],_,_,h =>
  simp[grt]at h;show a * 256 ^ 3+(b * 256 ^ 2+c)<_;omega
 | [a,b,c,d],_,_,h =>
  simp[grt]at h;show a * 256 ^ 3+(b * 256 ^ 2+(c * 256 ^ 1+d))<_;omega
theorem mV{w:World}{p:Addr}{v:Value}(h:w.cell? p=some v):p.block<w.heap.size:=by
 rcases lt_or_ge p.block w.heap.size with hb | hb
 ·exact hb
 ·simp[World.cell?,getElem?_eq_none hb]at h
def qw(l:List Int)(w:World)(e:Ending)(W':World):Prop:=e=.returned (.tuple #[.int .u32 ((prs l).1:Nat),.int .i64 (prs l).2])/\Below w.heap.size w W'
end F
end Go.Proofs.YtmkompnhefhngaaGreatDoor
