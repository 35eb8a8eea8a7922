/- Texts one behind the other: PCA PCC PCB. -/
import Derived.Test.YtkekkbciiohbkaaGreatDoorZ15
import Derived.Test.YtkekkbciiohbkaaGreatDoorZ2
import Derived.RangeFuncBox
import Derived.Lib.LazyBuf
import Derived.Lib.Overlaps
import Derived.Lib.AppendZeros
import Derived.Lib.AppendZerosOnto
import Derived.Laws.Externs
import Derived.Laws.IdiomCopy
import Derived.Deep.RegionLaw
import Derived.Deep.OwnRows
import Derived.Deep.MidRow
import Derived.Laws.ResultCell
import Derived.Laws.EntriesVeiled
set_option maxRecDepth 100000
set_option maxHeartbeats 16000000
set_option linter.unusedVariables false
set_option linter.unnecessarySimpa false
namespace Go.Proofs.YtkekkbciiohbkaaGreatDoor.P
open Go.RowKit U
theorem hid'{p:Prop}(h:p):Hid p:=h
def asc(l:List Int):Bool:=l.all fun c=>decide (c<128)
theorem aq(s:ByteArray)(k:Nat)(h:k<s.size):(bn s)[k]?.getD 0=(s[k].toNat:Int):=by
 have:=gl s k h;rw[←List.head?_drop,this];rfl
theorem jP(s:ByteArray)(k:Nat)(h:k<s.size):(bn s).take (k+1)=(bn s).take k++[(s[k].toNat:Int)]:=by
 rw[bQ (bn s) k (by rw[aa];exact h),aq s k h]
theorem AQ(s:ByteArray)(k:Nat)(h:k<s.size):asc ((bn s).take (k+1))=(asc ((bn s).take k)&&decide ((s[k].toNat:Int)<128)):=by
 rw[jP s k h,asc,List.all_append];simp[asc]
theorem xj(s:ByteArray)(k:Nat)(h:k<s.size)(hb:128≤(s[k].toNat:Int)):asc (bn s)=false:=by
 unfold asc;rw[List.all_eq_false];exact⟨(s[k].toNat:Int),by rw[←List.take_append_drop (k+1) (bn s),jP s k h];simp,by simp;omega⟩
theorem kC(s:ByteArray)(hs:s.size≤1024)(w:World):
  Calls Tryz.prog 212 #[.string s] w fun e w'=>e=.returned (.bool (asc (bn s)))∧w'=w:=by
 go_enter Tryz.func212,Tryz.ntmps212
 go_wp2_with fail
 go_loop [6] (fun i=>∃ k:Nat,k≤s.size∧i=.int .i64 k∧Hid (asc ((bn s).take k)=true)) (fun i=>s.size - (intOf i).toNat)
 case atStart=>exact⟨0,Nat.zero_le _,rfl,rfl⟩
 case round =>
  obtain⟨k,hk,rfl,ha⟩:=hrel;by_cases hlt:k<s.size
  ·have HS:=hid' (AQ s k hlt)
   by_cases hb:128≤(s[k].toNat:Int)
   ·have HF:=hid' (xj s k hlt hb)
    go_wp2;go_ret;rw[HF.out];exact⟨rfl,rfl⟩
   ·go_wp2
    refine⟨⟨k+1,by omega,by go_num,?_⟩,by simp[intOf];omega⟩;show asc _=true
    rw[HS.out,ha.out];simp;omega
  ·have hkk:k=s.size:=by omega
   have HA:Hid (asc (bn s)=true):=by
    have:=ha.out;rw[hkk,List.take_of_length_le (by rw[aa];exact Nat.le_refl _)]at this;exact this
   go_wp2;go_ret;rw[HA.out];exact⟨rfl,rfl⟩
def gV(l:List Int):Nat→Nat
 | 0=>0
 | k+1=>if l[k]?.getD 0=45 then k else gV l k
theorem uW(l:List Int):∀ k,gV l k≤k
 | 0=>Nat.le_refl _
 | k+1=>by have:=uW l k;rw[gV];split <;> omega
def cutAt(l:List Int):Nat:=gV l l.length
theorem pT(l:List Int):∀ k,gV l k≠0→l[gV l k]?.getD 0=45∧gV l k<k
 | 0,h=>absurd rfl h
 | k+1,h=>by
  rw[gV]at h ⊢;split
  ·rename_i hk;exact⟨hk,by omega⟩
  ·rename_i hk
   rw[if_neg hk]at h;have:=pT l k h;exact⟨this.1,by omega⟩
theorem zD(s:ByteArray)(hs:s.size≤1024)(w:World):
  Calls Tryz.prog 144 #[.string s,.int .u8 45] w fun e w'=>∃ r:Int,e=.returned (.int .i64 r)∧-1≤r∧r≤1024∧r.toNat=cutAt (bn s)∧w'=w:=by
 go_enter Tryz.func144,Tryz.ntmps144
 go_wp2_with fail
 go_loop [5] (fun vi=>∃ k:Nat,k≤s.size∧vi=.int .i64 ((k:Int) - 1)∧Hid (cutAt (bn s)=gV (bn s) k)) (fun vi=>((intOf vi)+1).toNat)
 case atStart=>exact⟨s.size,Nat.le_refl _,by first | rfl | go_num | (congr 1;omega),by show cutAt (bn s)=_;rw[cutAt,aa]⟩
 case round =>
  obtain⟨k,hk,rfl,hh⟩:=hrel;by_cases k0:k=0
  ·subst k0
   go_wp2;go_ret;exact⟨_,rfl,by omega,by omega,by rw[hh.out];rfl,rfl⟩
  ·obtain⟨j,rfl⟩:∃ j,k=j+1:=⟨k - 1,by omega⟩
   have hj:j<s.size:=by omega
   have HG:=hid' (aq s j hj);have e1:((j+1:Nat):Int) - 1=(j:Int):=by omega
   rw[e1];clear e1;by_cases hc:(s[j].toNat:Int)=45
   ·have HC:=hid' hc
    go_wp2;go_ret;exact⟨_,rfl,by omega,by omega,by rw[hh.out,gV,if_pos (HG.out.trans HC.out)];try omega,rfl⟩
   ·have HC:=hid' hc
    go_wp2;refine⟨⟨j,by omega,by first | rfl | go_num,?_⟩,by simp[intOf];try omega⟩;show _=_
    rw[hh.out,gV,if_neg (by rw[HG.out];exact HC.out)]
theorem nD(s:ByteArray)(hs:s.size≤1024)(w:World):
  Calls Tryz.prog 101 #[.string s,.int .u8 45] w fun e w'=>∃ r:Int,e=.returned (.int .i64 r)∧-1≤r∧r≤1024∧r.toNat=cutAt (bn s)∧w'=w:=by
 go_enter Tryz.func101,Tryz.ntmps101
 go_wp2_with(go_at_call 144;refine(zD s hs _).mono ?_;rintro e w' ⟨r,rfl,h1,h2,h3,rfl⟩)
 go_ret;exact⟨r,rfl,h1,h2,h3,rfl⟩
def dR(l:List Int):List Int:=l.take (cutAt l)
def aft(l:List Int):List Int:=if cutAt l=0 then l else l.drop (cutAt l+1)
theorem aj(s:ByteArray)(i j:Nat)(h:j≤s.size):bn (s.extract i j)=((bn s).drop i).take (j - i):=by
 unfold bn
 have e:(s.extract i j).data.toList=(s.data.toList.drop i).take (j - i):=by
  rw[ByteArray.data_extract,Array.toList_extract]
  try simp[List.extract]
 rw[e,List.map_take,List.map_drop]
theorem s9(s:ByteArray)(hs:s.size≤1024)(w:World):
  Calls Tryz.prog 213 #[.string s] w fun e w'=>∃ a b:ByteArray,e=.returned (.tuple #[.string a,.string b])∧bn a=dR (bn s)∧bn b=aft (bn s)∧a.size≤s.size∧b.size≤s.size∧Below w.heap.size w w':=by
 have hle:=uW (bn s) (bn s).length;rw[aa]at hle;have HW:=hid' (pT (bn s) (bn s).length);go_enter Tryz.func213,Tryz.ntmps213
 go_wp2_with fail;refine(nD s hs _).mono ?_;rintro e w' ⟨r,rfl,h1,h2,h3,rfl⟩
 have H3:=hid' h3;clear h3;by_cases hr:r<1
 ·go_wp2
  go_ret2;have e0:cutAt (bn s)=0:=by rw[←H3.out];omega
  exact⟨_,_,rfl,by rw[dR,e0];rfl,by rw[aft,if_pos e0],Nat.zero_le _,Nat.le_refl _,Below.refl _ _⟩
 ·have hne:cutAt (bn s)≠0:=by rw[←H3.out];omega
  have hlt:r<(s.size:Int):=by
   have:=(HW.out hne).2;have h3:=H3.out;unfold cutAt at h3
   rw[aa]at this h3;omega
  obtain⟨k,rfl⟩:∃ k:Nat,r=(k:Int):=⟨r.toNat,by omega⟩;have hk1:1≤k:=by omega
  have hks:k<s.size:=by omega
  have HN:=hid' hne;clear hne;have b1:(0:Int)≤(k:Int)+1:=by omega
  have b2:(k:Int)+1≤(s.size:Int):=by omega
  have b3:(k:Int)≤(s.size:Int):=by omega
  have b4:IntKind.i64.wrap ((k:Int)+1)=(k:Int)+1:=by simp[IntKind.wrap,IntKind.bits,IntKind.signed];omega
  go_wp2_with fail
  go_region
  all_goals (try go_wp2)
  all_goals go_ret2
  all_goals (
    have ek:cutAt (bn s)=k:=by have:=H3.out;omega
    refine⟨_,_,rfl,?_,?_,?_,?_,(Below.refl _ _).drew⟩
    · rw[aj s 0 k (by omega),dR,ek];simp
    · rw[aj s (k+1) s.size (Nat.le_refl _),aft,if_neg HN.out,ek,List.take_of_length_le (by rw[List.length_drop,aa];exact Nat.le_refl _)]
    · rw[ByteArray.size_extract];omega
    · rw[ByteArray.size_extract];omega)
theorem iF{P:Program}{w:World}{ops:Array Oper}{rest:List Oper}{o:Oper}{a:Act}{Q:Exit→Act→World→Prop}(hgd:o.guard=none)(d s:Operand)(t:TypeId)
  (ho:o.op=.call { callee:=.builtin .copy,args:=#[d,s],argTypes:=#[t,t] }) (v u v':Value) (w':World) (hd:a.eval d=v) (hs:a.eval s=u)
  (hr:(Builtin.copy_ #[t,t] o.type #[v,u]).run P w=.ok v' w') (h:wpList P ops Q rest (a.put o.dst v') w'):wpList P ops Q (o::rest) a w :=
 wpList_plain hgd fun _ hK=>by
  unfold Oper.wp;simp only[execOp,ho,resolve,invoke,builtin,Sem.run_bind,Sem.run_pure,Result.andThen_ok,List.map_toArray,List.map_cons,List.map_nil,hd,hs,hr];exact hK _ _ h
theorem kj{P:Program}{ops:Array Oper}{o:Oper}{a:Act}{w:World}{K:Act→World→Prop}{Q:Exit→Act→World→Prop}{E:Prop}
  (hg:o.guard=none) (d s:Operand) (t:TypeId) (hop:o.op=Op.call { callee:=Callee.builtin Builtin.copy,args:=#[d,s],argTypes:=#[t,t] })
  (v u v':Value) (w':World) (hd:a.eval d=v) (hs:a.eval s=u) (hr:(Builtin.copy_ #[t,t] o.type #[v,u]).run P w=.ok v' w') (hK:K (a.put o.dst v') w') :
  if Region.wanted o (yielded ops a.tmps)=true then Oper.wp P o a w K Q else E:=by
 have hw:Region.wanted o (yielded ops a.tmps)=true:=by simp[Region.wanted,hg]
 rw[if_pos hw];unfold Oper.wp;simp[execOp,hop,resolve,invoke,builtin,hd,hs,hr,Result.andThen];exact hK
theorem sizeOf21(w:World):(Go.sizeOf 21).run Tryz.prog w=.ok 1 w:=by first | exact Tryz.sizeOf21 w | kernel_rfl
theorem oZ:(Tryz.prog.info? 21).map (·.size)=some 1:=by
 obtain⟨i0,hi0,h0,h1,h2⟩:=info_parts Tryz.iX;rw[hi0];simp[h1]
theorem ry(g n c i vb:Nat)(cs:List Value)(x:Value)(f:Nat→Value)(w:World)(hi:i<n)(hroom:n+1≤c)(hc63:c≤9223372036854775807)(hvb:vb≠g)(hcl:cs.length=n)
  (hrow:w.rowIs g 21 c f) (hcs:∀ j v,cs[j]? = some v→f j=v) (hx:Boxed w vb 21 x) (h1c:∀ v∈cs,v.oneCell'=true) (h1x:x.oneCell'=true) :
  Calls Tryz.prog 277 #[.slice (some ⟨g,0,none⟩) n c,.int .i64 i,.slice (some ⟨vb,0,none⟩) 1 1] w fun e w' =>
   e=.returned (.slice (some ⟨g,0,none⟩) (n+1) c)∧w'=(w.drew.setCells g (i+1) (cs.drop i)).setCells g i [x]:=by
 have hz2:¬ ((i:Int)=(n:Int)):=by omega
 have hsp:∀ j,j<c→(w.cell? ⟨g,j,none⟩).isSome=true:=fun j hj=>by rw[hrow.cell hj];rfl
 have hfz:∀ j,w.frozen? ⟨g,j,none⟩=false:=fun j=>by
  obtain⟨cur,hb,_⟩:=hrow;simp[World.frozen?,hb]
 have hov:∀ lb cb,(callFunc 303 #[.slice (some ⟨vb,0,none⟩) 1 1,.slice (some ⟨g,i+1,none⟩) lb cb]).run Tryz.prog w=.ok (.value (.bool false)) w:=fun lb cb=>by
  rw[run_callFunc_extern Tryz.func303 (by kernel_rfl) (by kernel_rfl) (by kernel_rfl) (e:=Extern.SlicesOverlaps.overlaps #[58,58] #[4]) (by kernel_rfl)]
  rw[Lib.run_overlaps_apart w 58 4 21 Tryz.underlying58 1 sizeOf21 ⟨vb,0,none⟩ ⟨g,i+1,none⟩ 1 1 lb cb hvb 21 21 1 c (by
      have h:=hx
      unfold Boxed at h
      simp[World.shape?,h]) (by
      obtain⟨cur,hb,hs,_⟩:=hrow
      simp[World.shape?,hb,hs]) (by omega) hx.frozen (by
      have h:=hx
      unfold Boxed at h
      simp[World.frozen?,h])]
  rfl
 have hdl:(cs.drop i).length=n - i:=by rw[List.length_drop,hcl]
 have hw1:IntKind.i64.wrap ((i:Int)+1)=(i:Int)+1:=by rw[IntKind.wrap_i64];omega
 have hb1:(0:Int)≤(i:Int)+1:=by omega
 have htn:((i:Int)+1).toNat=i+1:=by omega
 have hb2:¬ (c=i+1):=by omega
 have hb3:(i:Int)≤(n:Int)+1:=by omega
 have hb4:¬ (c=i):=by omega
 have hin:i≤n:=by omega
 have hcw:∀ j v,cs[j]? = some v→w.cell? ⟨g,j,none⟩=some v:=fun j v hj=>by
  have hjl:=(List.getElem?_eq_some_iff.1 hj).1;rw[hrow.cell (by omega),hcs j v hj]
 have hcp1:∀ ty dc sc,(Builtin.copy_ #[58,58] ty #[.slice (some ⟨g,i+1,none⟩) (n - i) dc,.slice (some ⟨g,i,none⟩) (n+1 - i) sc]).run Tryz.prog w.drew=.ok (goInt (cs.drop i).length) (w.drew.setCells g (i+1) (cs.drop i)):=fun ty dc sc =>
  run_copy_cells w.drew _ _ ty 21 g (i+1) (n - i) dc ⟨g,i,none⟩ (n+1 - i) sc (cs.drop i) Tryz.underlying58 oZ (by rw[hdl];simp only[Nat.min_def];split <;> omega)
   (fun j v hj=>by rw[Addr.add_lit];exact hcw (i+j) v (by rwa [List.getElem?_drop]at hj))
   (fun j hj=>hsp _ (by omega)) (fun j hj=>hfz _) (fun v hv=>h1c v (List.mem_of_mem_drop hv))
 obtain⟨W1,hW1⟩:∃ W1,W1=w.drew.setCells g (i+1) (cs.drop i):=⟨_,rfl⟩
 have hcp2:∀ ty dc,(Builtin.copy_ #[58,58] ty #[.slice (some ⟨g,i,none⟩) (n+1 - i) dc,.slice (some ⟨vb,0,none⟩) 1 1]).run Tryz.prog W1=.ok (goInt 1) (W1.setCells g i [x]):=fun ty dc =>
  run_copy_cells W1 _ _ ty 21 g i (n+1 - i) dc ⟨vb,0,none⟩ 1 1 [x] Tryz.underlying58 oZ (by show 1=_;simp only[Nat.min_def];split <;> omega)
   (fun j v hj=>by
     have hjl:=(List.getElem?_eq_some_iff.1 hj).1
     obtain rfl:j=0:=by simp at hjl;exact hjl
     rw[Addr.add_lit,hW1,World.cell?_setCells_out g _ _ _ _ (fun h _=>absurd h hvb)]
     have:x=v:=by simpa using hj
     rw[←this];exact hx.cell)
   (fun j hj=>by rw[hW1];exact World.isSome_setCells _ _ _ _ _ (hsp _ (by simp at hj;omega))) (fun j hj=>by rw[hW1,World.frozen?_setCells];exact hfz _) (by simpa using h1x)
 rw[←hW1]at hcp1 ⊢;have HW:=hid' hW1;clear hW1 hsp hfz hcw hcs h1c hdl;go_enter Tryz.func277,Tryz.ntmps277
 go_wp2_with(simp only[hov])
 go_region_law (refine kj rfl _ _ 58 rfl _ _ _ _ (by simp[Act.eval,Act.put]) (by simp[Act.eval,Act.put]) (hcp1 _ _ _) ?_)
 go_wp2_with(at_builtin;refine iF rfl _ _ 58 rfl _ _ _ _ rfl rfl (hcp2 _ _) ?_)
 go_ret;exact⟨rfl,rfl⟩
theorem rz(g n c i vb:Nat)(cs:List Value)(x:Value)(f:Nat→Value)(w:World)(hi:i<n)(hnc:n≤c)(hroom:c<n+1)(hbig:n≤1000000)(hcl:cs.length=n)
  (hrow:w.rowIs g 21 c f) (hcs:∀ j v,cs[j]? = some v→f j=v) (hx:Boxed w vb 21 x) (h1c:∀ v∈cs,v.oneCell'=true) (h1x:x.oneCell'=true) :
  Calls Tryz.prog 277 #[.slice (some ⟨g,0,none⟩) n c,.int .i64 i,.slice (some ⟨vb,0,none⟩) 1 1] w fun e w'=>∃(G:Nat) (ROW:Array Value),n+1≤G∧G≤9223372036854775807∧ROW.size=G∧ROW.toList.take i=cs.take i ∧
   e=.returned (.slice (some ⟨w.heap.size,0,none⟩) (n+1) G)∧w'=(((w.alloc (.cells ROW 21)).drew.setCells w.heap.size i [x]).drew).setCells w.heap.size (i+1) (cs.drop i):=by
 obtain⟨i0,hi0,hz0,hzs,hzb⟩:=info_parts Tryz.iX;have hz2:¬ ((i:Int)=(n:Int)):=by omega
 have hz3:(c:Int)<(n:Int)+1:=by omega
 have hcw:∀ j v,cs[j]? = some v→w.cell? ⟨g,j,none⟩=some v:=fun j v hj=>by
  have hjl:=(List.getElem?_eq_some_iff.1 hj).1;rw[hrow.cell (by omega),hcs j v hj]
 have hbw:g<w.heap.size:=hrow.lt;have hvw:vb<w.heap.size:=hx.lt;have hkk:(n:Int)+1 - (i:Int)=((n+1 - i:Nat):Int):=by omega
 have hik:i+(n+1 - i)=n+1:=by omega
 have hold:(Builtin.firstCells i0.size i (.slice (some ⟨g,0,none⟩) i c)).run Tryz.prog w.drew=.ok (cs.take i).toArray w.drew:=by
  rw[hzs]
  exact run_firstCells_some w.drew 1 i ⟨g,0,none⟩ i c (cs.take i) (by rw[List.length_take];omega) (fun j v hj=>by
    rw[Addr.add_lit,Nat.zero_add]
    rw[List.getElem?_take]at hj
    split at hj
    · exact hcw j v hj
    · cases hj)
 have hrz:∀ ty,(Builtin.append_ #[58,3] ty #[.slice (some ⟨g,0,none⟩) i c,.int .i64 ((n:Int)+1 - (i:Int))]).run Tryz.prog w =
   .ok (.slice (some ⟨w.heap.size,0,none⟩) (n+1) (grownCap w (n+1) c 21)) (w.drew.alloc (.cells ((cs.take i).toArray++Builtin.zeroCells (Value.int .i32 0).cells (n+1 - i)++Builtin.zeroCells (Value.int .i32 0).cells (grownCap w (n+1) c 21 - (n+1))) 21)):=fun ty=>by
  have h:=Lib.run_append_grow_zeros w 58 3 ty 21 i0 _ .i64 .i64 Tryz.underlying58 Tryz.underlying3 hi0 hz0 (some ⟨g,0,none⟩) i c (cs.take i) hold (n+1 - i) (by omega) (by omega) (by omega) (by omega) (by rw[hzb];omega) (by rw[hzb,hik];exact growslice_fits hroom (by omega));rw[hik]at h;rw[hkk];exact h
 obtain⟨G,hG⟩:∃ G,G=grownCap w (n+1) c 21:=⟨_,rfl⟩;have hGn:n+1≤G:=by rw[hG];exact grownCap_ge w _ _ _
 have hG63:G≤9223372036854775807:=by
  have:=grownCap_le_maxLen w (n+1) c 21 (by unfold maxLen;omega);rw[←hG]at this;unfold maxLen at this
  omega
 obtain⟨ROW,hROW⟩:∃ ROW:Array Value,ROW=(cs.take i).toArray++Builtin.zeroCells (Value.int .i32 0).cells (n+1 - i)++Builtin.zeroCells (Value.int .i32 0).cells (G - (n+1)):=⟨_,rfl⟩;rw[←hG]at hrz;rw[←hROW]at hrz
 have hRs:ROW.size=G:=by
  rw[hROW];simp[Builtin.zeroCells,Value.cells];omega
 have hRt:ROW.toList.take i=cs.take i:=by
  rw[hROW,Array.append_assoc,Array.toList_append,List.toList_toArray,List.take_append_of_le_length (by rw[List.length_take];omega),List.take_take,Nat.min_self]
 obtain⟨W1,hW1⟩:∃ W1,W1=w.drew.alloc (.cells ROW 21):=⟨_,rfl⟩;rw[←hW1]at hrz
 have hN:∀ j,j<n+1→(W1.cell? ⟨w.heap.size,j,none⟩).isSome=true:=fun j hj=>by
  rw[hW1,World.cell?_alloc_at (w:=w.drew) ROW _ w.heap.size j rfl,Array.getElem?_eq_getElem (by omega)];rfl
 have hNf:∀ j,W1.frozen? ⟨w.heap.size,j,none⟩=false:=fun j=>by rw[hW1];exact World.frozen?_alloc_at (w:=w.drew) ROW _ w.heap.size j rfl
 have hOb:∀ j v,w.cell? ⟨g,j,none⟩=some v→W1.cell? ⟨g,j,none⟩=some v:=fun j v h=>by rw[hW1,World.cell?_alloc_past (w:=w.drew) _ g j hbw];exact h
 have hOv:W1.cell? ⟨vb,0,none⟩=some x:=by rw[hW1,World.cell?_alloc_past (w:=w.drew) _ vb 0 hvw];exact hx.cell
 have hcpA:∀ ty dc,(Builtin.copy_ #[58,58] ty #[.slice (some ⟨w.heap.size,i,none⟩) (n+1 - i) dc,.slice (some ⟨vb,0,none⟩) 1 1]).run Tryz.prog W1=.ok (goInt 1) (W1.setCells w.heap.size i [x]):=fun ty dc =>
  run_copy_cells W1 _ _ ty 21 w.heap.size i (n+1 - i) dc ⟨vb,0,none⟩ 1 1 [x] Tryz.underlying58 oZ (by show 1=_;simp only[Nat.min_def];split <;> omega)
   (fun j v hj=>by
     have hjl:=(List.getElem?_eq_some_iff.1 hj).1
     obtain rfl:j=0:=by simp at hjl;exact hjl
     have:x=v:=by simpa using hj
     rw[Addr.add_lit,←this];exact hOv)
   (fun j hj=>hN _ (by simp at hj;omega)) (fun j hj=>hNf _) (by simpa using h1x)
 have hbN:g≠w.heap.size:=by omega
 have hdl:(cs.drop i).length=n - i:=by rw[List.length_drop,hcl]
 obtain⟨W2,hW2⟩:∃ W2,W2=(W1.setCells w.heap.size i [x]).drew:=⟨_,rfl⟩
 have hcpB:∀ ty dc sc,(Builtin.copy_ #[58,58] ty #[.slice (some ⟨w.heap.size,i+1,none⟩) (n - i) dc,.slice (some ⟨g,i,none⟩) (n - i) sc]).run Tryz.prog W2=.ok (goInt (cs.drop i).length) (W2.setCells w.heap.size (i+1) (cs.drop i)):=fun ty dc sc =>
  run_copy_cells W2 _ _ ty 21 w.heap.size (i+1) (n - i) dc ⟨g,i,none⟩ (n - i) sc (cs.drop i) Tryz.underlying58 oZ (by rw[hdl];simp only[Nat.min_def];split <;> omega)
   (fun j v hj=>by
     rw[Addr.add_lit,hW2]
     show(W1.setCells w.heap.size i [x]).cell? _=_
     rw[World.cell?_setCells_out _ _ _ _ _ (fun h _=>absurd h hbN)]
     exact hOb _ v (hcw (i+j) v (by rwa [List.getElem?_drop]at hj)))
   (fun j hj=>by
     rw[hW2]
     show((W1.setCells w.heap.size i [x]).cell? _).isSome=true
     exact World.isSome_setCells _ _ _ _ _ (hN _ (by omega)))
   (fun j hj=>by
     rw[hW2]
     show(W1.setCells w.heap.size i [x]).frozen? _=false
     rw[World.frozen?_setCells];exact hNf _) (fun v hv=>h1c v (List.mem_of_mem_drop hv))
 have hGi:¬ (G=i):=by omega
 have hGim:¬ (G=i+1):=by omega
 have hci:¬ (c=i):=by omega
 have hw1:IntKind.i64.wrap ((i:Int)+1)=(i:Int)+1:=by rw[IntKind.wrap_i64];omega
 have hb1:(0:Int)≤(i:Int)+1:=by omega
 have hin:i≤n:=by omega
 have htn:((i:Int)+1).toNat=i+1:=by omega
 have hb3:(i:Int)≤(n:Int):=by omega
 have HW2:=hid' hW2;have HW1:=hid' hW1;have HR:=hid' hRt;have HRs:=hid' hRs;clear hkk hik hold hROW hG hRs hRt hW1 hW2 hcw hN hNf hOb hOv hcs h1c hdl;go_enter Tryz.func277,Tryz.ntmps277
 go_wp2_with(first
   | (at_builtin;refine Lib.wpList_append_run _ rfl _ _ _ _ rfl _ _ rfl rfl _ _ (hrz _) ?_)
   | (at_builtin;refine iF rfl _ _ 58 rfl _ _ _ _ rfl rfl (hcpA _ _) ?_))
 rw[HW2.out]at hcpB
 go_region_law (refine kj rfl _ _ 58 rfl (.slice (some ⟨w.heap.size,i+1,none⟩) (n - i) (G - (i+1))) (.slice (some ⟨g,i,none⟩) (n - i) (c - i)) _ _ (by simp[Act.eval,Act.put]) (by simp[Act.eval,Act.put]) (hcpB _ _ _) ?_)
 go_wp2;go_ret;exact⟨G,ROW,hGn,hG63,HRs.out,HR.out,rfl,by rw[HW1.out];rfl⟩
structure Rdr(base:Nat)(w:World)(Bs Bl:Nat)(s:ByteArray):Prop where
 s:Boxed w Bs 9 (.string s)
 l:Boxed w Bl 27 (.func (.func 300) #[] #[.pointer (some ⟨Bs,0,none⟩)])
 hs:base≤Bs
def mn(Bs Bl:Nat):Value:=.func (.func 301) #[] #[.pointer (some ⟨Bl,0,none⟩),.pointer (some ⟨Bs,0,none⟩)]
def re(Bs:Nat):Value:=.func (.func 300) #[] #[.pointer (some ⟨Bs,0,none⟩)]
theorem Rdr.below{base b':Nat}{w w':World}{Bs Bl:Nat}{s:ByteArray}(h:Rdr base w Bs Bl s)(hb:Below b' w w')(hB:w.heap.size≤b'):Rdr base w' Bs Bl s :=
 ⟨(hb.block Bs (Nat.lt_of_lt_of_le h.s.lt hB)).trans h.s,(hb.block Bl (Nat.lt_of_lt_of_le h.l.lt hB)).trans h.l,h.hs⟩
theorem boxed_ne'{W:World}{B C:Nat}{t u:TypeId}{x y:Value}(h:Boxed W B t x)(k:Boxed W C u y)(hne:t≠u):B≠C:=by
 intro e
 unfold Boxed at h k
 rw[e,k]at h;simp at h
 exact hne h.2.symm
theorem dj(base:Nat)(w:World)(Bs Bl:Nat)(s:ByteArray)(h:Rdr base w Bs Bl s):
  Calls Tryz.prog 300 #[.pointer (some ⟨Bs,0,none⟩)] w fun e w'=>e=.returned (.bool (decide (0<s.size)))∧w'=w:=by
 have c:=h.s.cell;clear h;go_enter Tryz.func300,Tryz.ntmps300
 go_wp2;go_ret;exact⟨rfl,rfl⟩
theorem vX(base:Nat)(w:World)(Bs Bl:Nat)(s:ByteArray)(h:Rdr base w Bs Bl s)(h0:s.size=0):
  Calls Tryz.prog 301 #[.pointer (some ⟨Bl,0,none⟩),.pointer (some ⟨Bs,0,none⟩)] w fun e w'=>e=.returned (.tuple #[.int .i64 0,.bool false])∧w'=w:=by
 have c:=h.s.cell;have d:=h.l.cell;have hd:decide (0<s.size)=false:=by rw[h0];rfl
 have H:=hid' h;clear h;go_enter Tryz.func301,Tryz.ntmps301
 go_wp2_with(go_at_call 300;refine(dj base _ Bs Bl s H.out).mono ?_;rw[hd];rintro e w' ⟨rfl,rfl⟩)
 go_ret2;exact⟨rfl,rfl⟩
def told(c:Int):Value:=match dg c with | some d=>.tuple #[.int .i64 d,.bool true] | none=>.tuple #[.int .i64 0,.bool false]
theorem vW(base:Nat)(w:World)(Bs Bl:Nat)(s:ByteArray)(hsz:s.size≤1024)(h:Rdr base w Bs Bl s)(h0:0<s.size):
  Calls Tryz.prog 301 #[.pointer (some ⟨Bl,0,none⟩),.pointer (some ⟨Bs,0,none⟩)] w fun e w'=>e=.returned (told (s[0].toNat:Int))∧Rdr base w' Bs Bl (s.extract 1 s.size)∧w.grownBy w' (some Bs):=by
 have c:=h.s.cell;have f:=h.s.frozen;have d:=h.l.cell;have hd:decide (0<s.size)=true:=by simpa using h0
 have hne:=boxed_ne' h.l h.s (by decide);have R:Rdr base (w.setCell ⟨Bs,0,none⟩ (.string (s.extract 1 s.size))) Bs Bl (s.extract 1 s.size):=⟨h.s.set _,h.l.kept (grownBy_setCell' w Bs _) (by simpa using hne),h.hs⟩;have BB:w.grownBy (w.setCell ⟨Bs,0,none⟩ (.string (s.extract 1 s.size))) (some Bs):=grownBy_setCell' w Bs _;have H:=hid' h;have hx0:(0:Int)≤(s[0].toNat:Int):=by omega
 have hx1:(s[0].toNat:Int)≤255:=by have:=s[0].toNat_lt;omega
 clear h;go_enter Tryz.func301,Tryz.ntmps301
 unfold told;cases hg:dg (s[0].toNat:Int) with
 | none =>
  have HG:=hid' hg;clear hg
  go_wp2_with(first
    | (go_at_call 300;refine(dj base _ Bs Bl s H.out).mono ?_;rw[hd];rintro e w' ⟨rfl,rfl⟩)
    | (go_at_call 302;refine(tk _ hx0 hx1 HG.out _).mono ?_;rintro e w' ⟨rfl,rfl⟩))
  go_ret2;exact⟨rfl,R,BB⟩
 | some dd =>
  have HG:=hid' hg;clear hg
  go_wp2_with(first
    | (go_at_call 300;refine(dj base _ Bs Bl s H.out).mono ?_;rw[hd];rintro e w' ⟨rfl,rfl⟩)
    | (go_at_call 302;refine(tj _ dd HG.out _).mono ?_;rintro e w' ⟨rfl,rfl⟩))
  go_ret2;exact⟨rfl,R,BB⟩
theorem iS(s:ByteArray)(w:World):
  Calls Tryz.prog 273 #[.string s] w fun e w'=>∃ Bs Bl,e=.returned (.tuple #[re Bs,mn Bs Bl])∧Rdr w.heap.size w' Bs Bl s∧Below w.heap.size w w':=by
 have b1:=Boxed.new w 9 (.string s);have b2:=Boxed.new (w.alloc (.cells #[.string s] 9)) 27 .nilFunc;have e1:(w.alloc (.cells #[.string s] 9)).heap.size=w.heap.size+1:=by simp
 rw[e1]at b2;have c2:=b2.cell;have f2:=b2.frozen;go_enter Tryz.func273,Tryz.ntmps273
 have b3:=Boxed.new (w.alloc (.cells #[.string s] 9)) 27 (.func (.func 300) #[] #[.pointer (some ⟨w.heap.size,0,none⟩)]);rw[e1]at b3;have H3:=hid' b3;clear b3 e1 b1 b2;go_wp2;have c3:=H3.out.cell;refine bodyPost_ret (v:=.tuple #[re w.heap.size,mn w.heap.size (w.heap.size+1)]) ?_ rfl ⟨_,_,rfl,⟨(Boxed.new w 9 (.string s)).alloc _,H3.out,Nat.le_refl _⟩,((Below.refl _ w).alloc (Nat.le_refl _) _).alloc (by simp) _⟩;rw[results_cell_tmp (p:=2) (u:=3) (ty:=27) rfl]
 have hl:(loadVar 27 ⟨w.heap.size+1,0,none⟩).run Tryz.prog ((w.alloc (.cells #[.string s] 9)).alloc (.cells #[.func (.func 300) #[] #[.pointer (some ⟨w.heap.size,0,none⟩)]] 27))=.ok (re w.heap.size) ((w.alloc (.cells #[.string s] 9)).alloc (.cells #[.func (.func 300) #[] #[.pointer (some ⟨w.heap.size,0,none⟩)]] 27)):=by
  unfold re
  go_simp
 simp[asAddr,Result.andThen,hl,mn]
theorem gO{a b c:World}{row:Option Nat}(h:a.grownBy b row)(k:b.grownBy c row):a.grownBy c row :=
 ⟨k.os.trans h.os,k.tape.trans h.tape,k.output.trans h.output,Nat.le_trans h.size k.size,fun i hi hr=>(k.block i (Nat.lt_of_lt_of_le hi h.size) hr).trans (h.block i hi hr)⟩
def oY(w:World)(B:Nat):Nat:=match w.cell? ⟨B,0,none⟩ with | some (.string s)=>s.size | _=>0
theorem ij{w:World}{B:Nat}{s:ByteArray}(h:Boxed w B 9 (.string s)):oY w B=s.size:=by unfold oY;rw[h.cell]
theorem Fc(b k i w:Nat):rn b k i w []=none:=rfl
theorem Fg(b k i w:Nat)(c:Int)(cs:List Int)(h:dg c=none):rn b k i w (c::cs)=none:=by rw[rn,h]
theorem Ff(b k i w d:Nat)(c:Int)(cs:List Int)(h:dg c=some d)(h1:2147483647<i+d * w):rn b k i w (c::cs)=none:=by rw[rn,h];simp[h1]
theorem Fe(b k i w d:Nat)(c:Int)(cs:List Int)(h:dg c=some d)(h1:¬ 2147483647<i+d * w)(h2:d<thr k b):rn b k i w (c::cs)=some (i+d * w,cs):=by rw[rn,h];simp[h1,h2]
theorem BY(b k i w d:Nat)(c:Int)(cs:List Int)(h:dg c=some d)(h1:¬ 2147483647<i+d * w)(h2:¬ d<thr k b)(h3:2147483647<w * (36 - thr k b)):rn b k i w (c::cs)=none:=by rw[rn,h];simp[h1,h2,h3]
theorem Hi(b k i w d:Nat)(c:Int)(cs:List Int)(h:dg c=some d)(h1:¬ 2147483647<i+d * w)(h2:¬ d<thr k b)(h3:¬ 2147483647<w * (36 - thr k b)):rn b k i w (c::cs)=rn b (k+36) (i+d * w) (w * (36 - thr k b)) cs:=by rw[rn,h];simp only;rw[if_neg h1,if_neg h2,if_neg h3]
theorem DY(s:ByteArray)(h:0<s.size):bn s=(s[0].toNat:Int)::bn (s.extract 1 s.size):=by
 rw[aj s 1 s.size (Nat.le_refl _),List.take_of_length_le (by rw[List.length_drop,aa];exact Nat.le_refl _)];exact gm s h
def cX(o:Option (Nat×List Int))(e:Ending)(base:Nat)(w':World)(Bs Bl:Nat):Prop :=
 match o with
 | none=>e=.returned (.tuple #[.int .i64 0,.bool false])∧∃ s',Rdr base w' Bs Bl s'
 | some (j,rest)=>e=.returned (.tuple #[.int .i64 j,.bool true])∧∃ s',Rdr base w' Bs Bl s'∧bn s'=rest∧s'.size≤1024
theorem di(base:Nat)(w:World)(Bs Bl i b:Nat)(s:ByteArray)(hsz:s.size≤1024)(hi:i≤2147483647)(hb:b≤1000000000000)(h:Rdr base w Bs Bl s):
  Calls Tryz.prog 274 #[.int .i64 i,.int .i64 b,mn Bs Bl] w fun e w'=>cX (rn b 36 i 1 (bn s)) e base w' Bs Bl∧w.grownBy w' (some Bs):=by
 have H:=hid' h;clear h;unfold mn;go_enter Tryz.func274,Tryz.ntmps274
 go_wp2_with fail
 go_loopw [0,8,9] (fun vi vw vk wr=>∃(I W K:Nat) (t:ByteArray),vi=.int .i64 I∧vw=.int .i64 W∧vk=.int .i64 K∧I≤2147483647∧W≤2147483647∧K+36 * t.size≤36+36 * s.size∧t.size≤s.size∧Hid (rn b 36 i 1 (bn s)=rn b K I W (bn t))∧Hid (Rdr base wr Bs Bl t)∧w.grownBy wr (some Bs))
  (fun _ _ _ wr=>oY wr Bs)
 case atStart=>exact⟨i,1,36,s,rfl,rfl,rfl,hi,by omega,by omega,Nat.le_refl _,rfl,H,⟨rfl,rfl,rfl,Nat.le_refl _,fun _ _ _=>rfl⟩⟩
 case round =>
  obtain⟨I,W,K,t,rfl,rfl,rfl,h1,h2,h3,h3',h4,h5,hB⟩:=hrel;by_cases ht:t.size=0
  ·have HN:Hid (rn b 36 i 1 (bn s)=none):=by
    show _=_
    rw[h4.out,show bn t=[] from List.eq_nil_of_length_eq_zero (by rw[aa];exact ht),Fc]
   go_wp2_with(go_at_call 301;refine(vX base _ Bs Bl t h5.out ht).mono ?_;rintro e w' ⟨rfl,rfl⟩)
   go_ret2;rw[HN.out];exact⟨⟨rfl,t,h5.out⟩,hB⟩
  ·have ht0:0<t.size:=by omega
   have HB:=hid' (DY t ht0);have hes:(t.extract 1 t.size).size=t.size - 1:=by rw[ByteArray.size_extract];omega
   have HN:=hid' (vW base wr Bs Bl t (by omega) h5.out ht0);have HSZ:=hid' (ij h5.out.s);obtain⟨c,hc⟩:∃ c,c=(t[0].toNat:Int):=⟨_,rfl⟩;rw[←hc]at HB HN;clear hc;obtain⟨t',ht'⟩:∃ t',t'=t.extract 1 t.size:=⟨_,rfl⟩;rw[←ht']at HB HN hes;clear ht'
   have HR:Hid (rn b 36 i 1 (bn s)=rn b K I W (c::bn t')):=by
    show _=_
    rw[h4.out,HB.out]
   clear h4;cases hg:dg c with
   | none =>
    have HG:=hid' hg;have HT:Hid (told c=.tuple #[.int .i64 0,.bool false]):=by show _=_;rw[told,hg]
    clear hg
    go_wp2_with fail;refine HN.out.mono ?_;rw[HT.out];rintro e w' ⟨rfl,hr,hbl⟩
    go_wp2
    go_ret2;rw[HR.out,Fg _ _ _ _ _ _ HG.out];exact⟨⟨rfl,_,hr⟩,gO hB hbl⟩
   | some d =>
    have HG:=hid' hg;have HT:Hid (told c=.tuple #[.int .i64 d,.bool true]):=by show _=_;rw[told,hg]
    have hd:=(yo c d hg).2;clear hg;have t1:=eU K b;have t2:=iO K b;obtain⟨u,hu⟩:∃ u,thr K b=u:=⟨_,rfl⟩;have HU:=hid' hu;rw[hu]at t1 t2;clear hu;have p1:d * W≤35 * 2147483647:=Nat.mul_le_mul (by omega) h2;have p2:W * (36 - u)≤2147483647 * 35:=Nat.mul_le_mul h2 (by omega);obtain⟨X,hX⟩:∃ X,d * W=X:=⟨_,rfl⟩;obtain⟨Y,hY⟩:∃ Y,W * (36 - u)=Y:=⟨_,rfl⟩;have eX:(d:Int) * (W:Int)=(X:Int):=by rw[←hX];push_cast;rfl
    have eY:(W:Int) * (36 - (u:Int))=(Y:Int):=by rw[←hY];push_cast [Int.ofNat_sub (show u≤36 by omega)];rfl
    have HX:=hid' hX;have HY:=hid' hY;rw[hX]at p1;rw[hY]at p2;clear hX hY;have fin:∀ w',Hid (Rdr base w' Bs Bl t')→True→True:=fun _ _ _=>trivial
    by_cases q1:2147483647<I+X
    ·go_wp2_with fail
     refine HN.out.mono ?_;rw[HT.out];rintro e w' ⟨rfl,hr,hbl⟩
     go_wp2
     go_ret2;rw[HR.out,Ff _ _ _ _ d _ _ HG.out (by rw[HX.out];exact q1)];exact⟨⟨rfl,_,hr⟩,gO hB hbl⟩
    ·by_cases q2:d<u
     ·go_wp2_with fail
      refine HN.out.mono ?_;rw[HT.out];rintro e w' ⟨rfl,hr,hbl⟩
      go_wp2_with(go_at_call 287;refine(jf K b (by omega) (by omega) _).mono ?_;rw[HU.out];rintro e w1 ⟨rfl,rfl⟩)
      go_ret2;rw[HR.out,Fe _ _ _ _ d _ _ HG.out (by rw[HX.out];exact q1) (by rw[HU.out];exact q2),HX.out];exact⟨⟨rfl,_,hr,rfl,by omega⟩,gO hB hbl⟩
     ·by_cases q3:2147483647<Y
      ·go_wp2_with fail
       refine HN.out.mono ?_;rw[HT.out];rintro e w' ⟨rfl,hr,hbl⟩
       go_wp2_with(go_at_call 287;refine(jf K b (by omega) (by omega) _).mono ?_;rw[HU.out];rintro e w1 ⟨rfl,rfl⟩)
       go_ret2;rw[HR.out,BY _ _ _ _ d _ _ HG.out (by rw[HX.out];exact q1) (by rw[HU.out];exact q2) (by rw[HU.out,HY.out];exact q3)];exact⟨⟨rfl,_,hr⟩,gO hB hbl⟩
      ·go_wp2_with fail
       refine HN.out.mono ?_;rw[HT.out];rintro e w' ⟨rfl,hr,hbl⟩
       have HRr:=hid' hr;clear hr
       go_wp2_with(go_at_call 287;refine(jf K b (by omega) (by omega) _).mono ?_;rw[HU.out];rintro e w1 ⟨rfl,rfl⟩)
       go_roundw
       case rel =>
        refine⟨I+X,Y,K+36,t',by first | rfl | go_num,by first | rfl | go_num,by go_num,by omega,by omega,by omega,by omega,?_,HRr,gO hB hbl⟩;show _=_
        rw[HR.out,Hi _ _ _ _ d _ _ HG.out (by rw[HX.out];exact q1) (by rw[HU.out];exact q2) (by rw[HU.out,HY.out];exact q3),HX.out,HU.out,HY.out]
       case measure =>
        rw[ij HRr.out.s,HSZ.out];omega
end Go.Proofs.YtkekkbciiohbkaaGreatDoor.P
