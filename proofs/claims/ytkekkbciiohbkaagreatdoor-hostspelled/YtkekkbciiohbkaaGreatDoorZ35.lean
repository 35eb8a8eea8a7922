/- Texts one behind the other: WA XI. -/
import Derived.Test.YtkekkbciiohbkaaGreatDoorZ3
import Derived.Test.YtkekkbciiohbkaaGreatDoorZ34
import Derived.ArgAppend
import Derived.Lib.AppendStr
import Derived.Lib.ConvBytes
import Derived.Laws.OwnMore
import Derived.Laws.Bits64b
import Derived.OwnWalk
import Derived.Deep.WholeRow
import Derived.Maps.AppendAt
import Derived.RegionTactic
import Derived.Laws.IdiomStrings
set_option maxRecDepth 100000
set_option maxHeartbeats 16000000
set_option linter.unusedVariables false
set_option linter.unnecessarySimpa false
namespace Go.Proofs.YtkekkbciiohbkaaGreatDoor.X
open Go Go.RowKit
open Go.Proofs.YtkekkbciiohbkaaGreatDoor.F (bn aa aC av aq ar hid aj)
def bys(l:List Int):List Value:=l.map (Value.int .u8)
theorem bK(l:List Int):(bys l).length=l.length:=by simp[bys]
theorem pZ(a b:List Int):bys (a++b)=bys a++bys b:=by simp[bys]
theorem pY(l:List Int):∀ u∈bys l,u.oneCell'=true:=by
 intro u hu
 obtain⟨c,_,rfl⟩:=List.mem_map.1 hu;rfl
theorem fH(s:ByteArray):Lib.strCells s=bys (bn s):=by
 unfold Lib.strCells bys bn;rw[List.map_map];rfl
def Bts(e:TypeId)(w:World)(base:Nat)(v:Value)(l:List Int):Prop :=
 (v=.slice none 0 0∧l=[]) ∨
  ∃ g cap cur fz,v=.slice (some ⟨g,0,none⟩) l.length cap∧base≤g∧w.heap[g]? = some (.cells cur e fz)∧(fz.2=0∨cap≤fz.1)∧l.length≤cap∧cap≤maxLen∧cur.size=cap∧cur.toList.take l.length=bys l
theorem Bts.nilS(e:TypeId)(w:World)(base:Nat):Bts e w base (.slice none 0 0) []:=.inl ⟨rfl,rfl⟩
theorem Bts.of_owns{e:TypeId}{w:World}{base n:Nat}{v:Value}{l:List Int}(h:w.ownsRow base e 1 v n (bys l)):Bts e w base v l:=by
 have hn:l.length=n:=by have:=h.1;rw[bK]at this;omega
 subst hn;rcases h.2 with⟨h1,h2⟩ | ⟨g,cap,cur,h1,h2,h3,h4,h5,h6,h7⟩
 ·exact .inl ⟨h1,List.eq_nil_of_length_eq_zero h2⟩
 ·exact .inr ⟨g,cap,cur,(0,0),h1,h2,h3,.inl rfl,h4,h5,by omega,by simpa using h7⟩
theorem Bts.lt{e:TypeId}{w:World}{base:Nat}{v:Value}{l:List Int}(h:Bts e w base v l):∀ k,v.ownBlock=some k→base≤k∧k<w.heap.size:=by
 intro k hk
 rcases h with⟨rfl,_⟩ | ⟨g,cap,cur,fz,rfl,hb,hg,_⟩
 ·simp[Value.ownBlock]at hk
 ·simp[Value.ownBlock]at hk
  subst hk;exact⟨hb,(Array.getElem?_eq_some_iff.1 hg).1⟩
theorem Bts.below{e:TypeId}{w w':World}{base:Nat}{v:Value}{l:List Int}(h:Bts e w base v l)(hb:Below w.heap.size w w'):Bts e w' base v l:=by
 rcases h with h | ⟨g,cap,cur,fz,h1,h2,h3,h4⟩
 ·exact .inl h
 ·exact .inr ⟨g,cap,cur,fz,h1,h2,(hb.block g (Array.getElem?_eq_some_iff.1 h3).1).trans h3,h4⟩
theorem Bts.apart{e:TypeId}{w:World}{base:Nat}{v:Value}{l:List Int}(h:Bts e w base v l){g:Nat}{cs:Array Value}{t:TypeId}{f:Nat×Nat}(hg:w.heap[g]? = some (.cells cs t f))(hne:t≠e):some g≠v.ownBlock:=by
 intro hk
 rcases h with⟨rfl,_⟩ | ⟨k,cap,cur,fz,rfl,hb,hgg,_⟩
 ·simp[Value.ownBlock]at hk
 ·simp[Value.ownBlock]at hk
  subst hk;rw[hg]at hgg;cases hgg
  exact hne rfl
theorem Bts.cells{e:TypeId}{w:World}{base:Nat}{l:List Int}{g c n:Nat}(h:Bts e w base (.slice (some ⟨g,0,none⟩) n c) l):n=l.length∧∀ j,j<l.length→w.cell? ⟨g,j,none⟩=some (.int .u8 (l[j]?.getD 0)):=by
 rcases h with⟨h,_⟩ | ⟨k,cap,cur,fz,h1,hb,hgg,_,_,_,_,ht⟩
 ·cases h
 ·cases h1
  refine⟨rfl,fun j hj=>?_⟩;rw[cell_of_row w g j cur e fz hgg];have h2:(cur.toList.take l.length)[j]? = (bys l)[j]? := by rw[ht]
  rw[List.getElem?_take,if_pos hj]at h2
  have h3:(bys l)[j]? = some (.int .u8 (l[j]?.getD 0)):=by
   unfold bys;rw[List.getElem?_map,List.getElem?_eq_getElem hj];rfl
  rw[h3]at h2
  simpa using h2
theorem Bts.there{e:TypeId}{w:World}{base:Nat}{v:Value}{l:List Int}(h:Bts e w base v l)(hl:l≠[]):∃ g c,v=.slice (some ⟨g,0,none⟩) l.length c∧base≤g∧c≤maxLen∧l.length≤c∧∀ j,j<l.length→w.cell? ⟨g,j,none⟩=some (.int .u8 (l[j]?.getD 0)):=by
 rcases h with⟨_,h⟩ | ⟨g,cap,cur,fz,rfl,h2,h3⟩
 ·exact absurd h hl
 ·have hc:=Bts.cells (c:=cap) (.inr ⟨g,cap,cur,fz,rfl,h2,h3⟩)
  exact⟨g,cap,rfl,h2,h3.2.2.2.1,h3.2.2.1,hc.2⟩
theorem iI(g:Nat)(t:TypeId)(fz:Nat×Nat):∀(vs:List Value) (o:Nat) (w:World) (cur:Array Value),w.heap[g]? = some (.cells cur t fz)→o+vs.length≤cur.size→(w.setCells g o vs).heap[g]? = some (.cells (cur.toList.take o++vs++cur.toList.drop (o+vs.length)).toArray t fz)
 | [],o,w,cur,h,_=>by
  show w.heap[g]? = _
  rw[h];simp
 | v::r,o,w,cur,h,hl=>by
  have hl':o+1+r.length≤cur.size:=by simp at hl;omega
  rw[World.setCells,setCell_eq_setRow w g o cur t fz v h];rw[iI g t fz r (o+1) _ (cur.setIfInBounds o v) (setRow_heap w g cur _ t _ h) (by simpa using hl')];have e:=list_seg_step cur.toList o v r (by simp at hl ⊢;omega)
  congr 2
  apply Array.toList_inj.1
  simpa[Array.toList_setIfInBounds,Nat.add_assoc]using e
theorem iH(g:Nat):∀(vs:List Value) (o:Nat) (w:World),(w.setCells g o vs).os=w.os∧(w.setCells g o vs).tape=w.tape∧(w.setCells g o vs).output=w.output∧(w.setCells g o vs).heap.size=w.heap.size∧∀ k,k≠g→(w.setCells g o vs).heap[k]? = w.heap[k]?
 | [],o,w=>⟨rfl,rfl,rfl,rfl,fun _ _=>rfl⟩
 | v::r,o,w=>by
  obtain⟨h1,h2,h3,h4,h5⟩:=iH g r (o+1) (w.setCell ⟨g,o,none⟩ v);have hb:=(Below.refl 0 w).setCell (p:=⟨g,o,none⟩) (Nat.zero_le _) v;refine⟨h1.trans hb.os,h2.trans hb.tape,h3.trans hb.output,h4.trans (by simp),fun k hk=>(h5 k hk).trans (Below.heap_setCell w ⟨g,o,none⟩ v k hk)⟩
theorem gQ(w:World)(g o:Nat)(vs:List Value)(n c:Nat):w.grownBy (w.setCells g o vs) (Value.ownBlock (.slice (some ⟨g,0,none⟩) n c)):=by
 obtain⟨h1,h2,h3,h4,h5⟩:=iH g vs o w;exact⟨h1,h2,h3,Nat.le_of_eq h4.symm,fun k _ hk=>h5 k (fun e=>hk (by rw[e];rfl))⟩
theorem Bts.room{e:TypeId}{w:World}{base g cap n:Nat}{cur:Array Value}{fz:Nat×Nat}{l news:List Int}(hb:base≤g)(hg:w.heap[g]? = some (.cells cur e fz))(hf:fz.2=0∨cap≤fz.1)(hm:cap≤maxLen)(hs:cur.size=cap)(ht:cur.toList.take l.length=bys l)(hr:l.length+news.length≤cap):
  Bts e (w.setCells g l.length (bys news)) base (.slice (some ⟨g,0,none⟩) (l.length+news.length) cap) (l++news)∧(∀ j,j<news.length→(w.cell? ⟨g,l.length+j,none⟩).isSome=true)∧(∀ j,j<news.length→w.frozen? ⟨g,l.length+j,none⟩=false):=by
 refine⟨.inr ⟨g,cap,_,fz,by rw[List.length_append],hb,iI g e fz (bys news) l.length w cur hg (by rw[bK];omega),hf,by rw[List.length_append];exact hr,hm,?_,?_⟩,fun j hj=>?_,fun j hj=>?_⟩
 ·simp only[List.size_toArray,List.length_append,List.length_take,List.length_drop,Array.length_toList,bK]
  omega
 ·rw[ht]
  have:(l++news).length=(bys l++bys news).length:=by simp[bK]
  rw[this,pZ];exact List.take_left
 ·rw[cell_of_row w g _ cur e fz hg]
  simp;omega
 ·obtain⟨lo,hi⟩:=fz
  simp only[World.frozen?,hg,Bool.and_eq_false_iff,decide_eq_false_iff_not];simp only at hf
  omega
theorem Bts.olds{e:TypeId}{w:World}{g n:Nat}{cur:Array Value}{fz:Nat×Nat}{l:List Int}(hg:w.heap[g]? = some (.cells cur e fz))(ht:cur.toList.take l.length=bys l):∀ j u,(bys l)[j]? = some u→w.cell? ((⟨g,0,none⟩:Addr).add j)=some u:=by
 intro j u hu
 have hadd:(⟨g,0,none⟩:Addr).add j=⟨g,j,none⟩:=by unfold Addr.add;split <;> simp_all
 rw[hadd,cell_of_row w g j cur e fz hg];rw[←ht,List.getElem?_take]at hu;split at hu
 ·simpa using hu
 ·cases hu
section
variable {P : Program} (w : World)
theorem lW(base:Nat)(t ty e:TypeId)(i:TypeInfo)(ht:P.underlying t=some (.slice e))(hi:P.info? e=some i)(hz:i.zero=some (.int .u8 0))(hsize:i.size=1)(hby:i.bytes=1)
  (v:Value) (l:List Int) (hown:Bts e w base v l) (a:Addr) (m c:Nat) (news:List Int) (hl:news.length=m) (hnews:∀ j u,(bys news)[j]? = some u→w.cell? (a.add j)=some u) (hlim:l.length+m≤100000000) (hbase:base≤w.heap.size) :
  ∃ v' w',(Builtin.append_ #[t,t] ty #[v,.slice (some a) m c]).run P w=.ok v' w'∧Bts e w' base v' (l++news)∧w.grownBy w' v.ownBlock:=by
 have hM:l.length+m≤maxLen:=by unfold maxLen;omega
 rcases hown with⟨rfl,rfl⟩ | ⟨g,cap,cur,fz,rfl,hb,hg,hf,hn,hcm,hcs,htk⟩
 ·obtain⟨v',w',h1,h2,h3,_⟩:=run_append_own (P:=P) w base t ty e i (.int .u8 0) 1 1 ht hi hz hsize hby rfl (by decide) (.slice none 0 0) 0 [] (World.ownsRow_nil w base e 1) a m c (bys news) (by rw[bK];omega) hnews (pY news) (by simpa using hM) (by simp at hlim;omega) hbase
  exact⟨v',w',h1,Bts.of_owns h2,h3⟩
 ·subst hl
  by_cases hroom:l.length+news.length≤cap
  ·obtain⟨r1,r2,r3⟩:=Bts.room (n:=0) (news:=news) hb hg hf hcm hcs htk hroom
   have hr:=run_append_room_cells (P:=P) w t ty e i ht hi g 0 l.length cap a news.length c (bys news) (by rw[bK,hsize];omega) hnews (pY news) hroom (fun j hj=>by rw[hsize];rw[bK]at hj;simpa using r2 j hj) (fun j hj=>by rw[hsize];rw[bK]at hj;simpa using r3 j hj);rw[hsize,Nat.mul_one,Nat.zero_add]at hr;exact⟨_,_,hr,r1,gQ w g _ _ _ _⟩
  ·obtain⟨v',w',h1,h2,h3⟩:=run_append_arg_grows (P:=P) w t ty e i (.int .u8 0) 1 1 ht hi hz hsize hby rfl (by decide) ⟨g,0,none⟩ l.length cap (bys l) (by rw[bK];omega) (Bts.olds (n:=0) hg htk) a news.length c (bys news) (by rw[bK];omega) hnews (by omega) hM (by omega)
   rw[←pZ]at h2;have h4:=Bts.of_owns h2;refine⟨v',w',h1,?_,⟨h3.os,h3.tape,h3.output,h3.size,fun k hk _=>h3.block k hk (by simp)⟩⟩;rcases h4 with h4 | ⟨g2,cap2,cur2,fz2,q1,q2,q3⟩
   ·exact .inl h4
   ·exact .inr ⟨g2,cap2,cur2,fz2,q1,Nat.le_trans hbase q2,q3⟩
theorem gq(base:Nat)(t u ty e:TypeId)(i:TypeInfo)(ht:P.underlying t=some (.slice e))(hu:P.underlying u=some .string)(hi:P.info? e=some i)(hz:i.zero=some (.int .u8 0))(hsize:i.size=1)(hby:i.bytes=1)
  (v:Value) (l:List Int) (hown:Bts e w base v l) (s:ByteArray) (hlim:l.length+s.size≤100000000) (hbase:base≤w.heap.size) :
  ∃ v' w',(Builtin.append_ #[t,u] ty #[v,.string s]).run P w=.ok v' w'∧Bts e w' base v' (l++bn s)∧w.grownBy w' v.ownBlock:=by
 have hM:l.length+s.size≤maxLen:=by unfold maxLen;omega
 rcases hown with⟨rfl,rfl⟩ | ⟨g,cap,cur,fz,rfl,hb,hg,hf,hn,hcm,hcs,htk⟩
 ·obtain⟨v',w',h1,h2,h3,_⟩:=Lib.run_append_own_string (P:=P) w base t u ty e i ht hu hi hz hsize hby (.slice none 0 0) 0 [] (World.ownsRow_nil w base e 1) s (by simpa using hM) (by simp at hlim;omega) hbase
  rw[fH]at h2;exact⟨v',w',h1,Bts.of_owns h2,h3⟩
 ·have hsl:(bn s).length=s.size:=aa s
  by_cases hroom:l.length+s.size≤cap
  ·obtain⟨r1,r2,r3⟩:=Bts.room (n:=0) (news:=bn s) hb hg hf hcm hcs htk (by rw[hsl];exact hroom)
   have hff:=Lib.run_firstCells_string (P:=P) w 1 s;have hst:=run_storeCells_cells (P:=P) g l.length (bys (bn s)) 0 w (fun j hj=>by rw[bK]at hj;simpa using r2 j hj) (fun j hj=>by rw[bK]at hj;simpa using r3 j hj) (pY _);rw[fH]at hff;simp only[Nat.add_zero]at hst;refine⟨.slice (some ⟨g,0,none⟩) (l.length+s.size) cap,w.setCells g l.length (bys (bn s)),?_,by rw[hsl]at r1;exact r1,gQ w g _ _ _ _⟩;simp[Builtin.append_,run_underlying ht,run_underlying hu,sizeOf,typeInfo,hi,hsize,Builtin.lenOf,hroom,hff,Addr.add_lit,hst]
  ·have hr:=Lib.run_append_grow_string (P:=P) w t u ty e i (.int .u8 0) ht hu hi hz ⟨g,0,none⟩ l.length cap (bys l) (by rw[bK,hsize];omega) (Bts.olds (n:=0) hg htk) s (by omega) (by omega) (by rw[hby];exact growslice_fits (by omega) (by omega))
   have hge:=grownCap_ge w (l.length+s.size) cap e;have hcm2:grownCap w (l.length+s.size) cap e≤maxLen:=grownCap_le_maxLen w _ _ e hM;refine⟨_,_,hr,.inr ⟨w.heap.size,_,_,(0,0),by rw[List.length_append,hsl],hbase,heap_alloc_new w.drew _,.inl rfl,by rw[List.length_append,hsl];exact hge,hcm2,?_,?_⟩,⟨rfl,rfl,rfl,by simp,fun k hk _=>Below.heap_alloc w.drew _ k hk⟩⟩
   ·have hz1:(Value.int IntKind.u8 0).cells.size=1:=rfl
    simp only[Array.size_append,List.size_toArray,size_zeroCells,hz1,bK,Lib.strCells_length];omega
   ·rw[fH]
    simp only[Array.toList_append,List.append_assoc];rw[←List.append_assoc,pZ];have:(l++bn s).length=(bys l++bys (bn s)).length:=by simp[bK]
    rw[this];exact List.take_left
end
theorem eG{P:Program}(w:World){ops:Array Oper}{rest:List Oper}{o:Oper}{a:Act}{Q:Exit→Act→World→Prop}(hgd:o.guard=none)(s x:Operand)(t:TypeId)(ho:o.op=Op.call { callee:=Callee.builtin Builtin.append,args:=#[s,x],argTypes:=#[t,t] })
  (base:Nat) (e:TypeId) (i:TypeInfo) (ht:P.underlying t=some (.slice e)) (hi:P.info? e=some i) (hz:i.zero=some (.int .u8 0)) (hsize:i.size=1) (hby:i.bytes=1)
  (v:Value) (l:List Int) (hs:a.eval s=v) (hown:Bts e w base v l) (ad:Addr) (m c:Nat) (news:List Int) (hx:a.eval x=.slice (some ad) m c) (hl:news.length=m) (hnews:∀ j u,(bys news)[j]? = some u→w.cell? (ad.add j)=some u) (hlim:l.length+m≤100000000) (hbase:base≤w.heap.size)
  (h:∀ v' w',Bts e w' base v' (l++news)→w.grownBy w' v.ownBlock→wpList P ops Q rest (a.put o.dst v') w'):wpList P ops Q (o::rest) a w:=by
 refine wpList_plain hgd fun K hK'=>?_
 obtain⟨v',w',hrun,r1,r2⟩:=lW (P:=P) w base t o.type e i ht hi hz hsize hby v l hown ad m c news hl hnews hlim hbase;unfold Oper.wp;simp[execOp,ho,resolve,invoke,builtin,hs,hx,hrun,Result.andThen];exact hK' _ _ (h v' w' r1 r2)
theorem eS{P:Program}(w:World){ops:Array Oper}{rest:List Oper}{o:Oper}{a:Act}{Q:Exit→Act→World→Prop}(hgd:o.guard=none)(s x:Operand)(t u:TypeId)(ho:o.op=Op.call { callee:=Callee.builtin Builtin.append,args:=#[s,x],argTypes:=#[t,u] })
  (base:Nat) (e:TypeId) (i:TypeInfo) (ht:P.underlying t=some (.slice e)) (hu:P.underlying u=some .string) (hi:P.info? e=some i) (hz:i.zero=some (.int .u8 0)) (hsize:i.size=1) (hby:i.bytes=1)
  (v:Value) (l:List Int) (hs:a.eval s=v) (hown:Bts e w base v l) (z:ByteArray) (hx:a.eval x=.string z) (hlim:l.length+z.size≤100000000) (hbase:base≤w.heap.size)
  (h:∀ v' w',Bts e w' base v' (l++bn z)→w.grownBy w' v.ownBlock→wpList P ops Q rest (a.put o.dst v') w'):wpList P ops Q (o::rest) a w:=by
 refine wpList_plain hgd fun K hK'=>?_
 obtain⟨v',w',hrun,r1,r2⟩:=gq (P:=P) w base t u o.type e i ht hu hi hz hsize hby v l hown z hlim hbase;unfold Oper.wp;simp[execOp,ho,resolve,invoke,builtin,hs,hx,hrun,Result.andThen];exact hK' _ _ (h v' w' r1 r2)
theorem sb(w:World)(e:TypeId)(s:ByteArray)(hs:s.size≤100000000):Bts e (Lib.bytesWorld w e s) w.heap.size (.slice (some ⟨w.heap.size,0,none⟩) s.size (grownCap w s.size 0 e)) (bn s):=by
 have hge:=grownCap_ge w s.size 0 e;have hcm:grownCap w s.size 0 e≤maxLen:=grownCap_le_maxLen w s.size 0 e (by unfold maxLen;omega)
 have hsz:(Lib.bytesCells w e s).size=grownCap w s.size 0 e:=by
  have:s.data.size=s.size:=rfl;simp[Lib.bytesCells];omega
 refine .inr ⟨w.heap.size,_,_,_,by rw[aa],Nat.le_refl _,Lib.bytesWorld_at_new w e s,.inr (Nat.le_of_eq hsz.symm),by rw[aa];exact hge,hcm,hsz,?_⟩
 have h1:(Lib.bytesCells w e s).toList=bys (bn s)++List.replicate (grownCap w s.size 0 e - s.size) (.int .u8 0):=by
  simp[Lib.bytesCells,bys,bn]
 rw[h1,←bK];exact List.take_left
theorem sC(w:World)(e:TypeId)(s:ByteArray):Below w.heap.size w (Lib.bytesWorld w e s):=⟨rfl,rfl,rfl,by rw[Lib.bytesWorld_size];omega,fun k hk=>Lib.bytesWorld_at_old w e s k hk⟩
open Go.RowKit
open Go.Proofs.YtkekkbciiohbkaaGreatDoor.F (hx bw vl bn aa aC av aq ar hid aj ab ah aR aK)
def Tab(w:World):Prop:=w.cell? ⟨3,15,none⟩=some (.int .u8 4)
theorem Tab.below{A B:World}{n:Nat}(h:Below n A B)(hn:A.heap.size≤n)(t:Tab A):Tab B:=by
 unfold Tab at *
 exact(h.cell (p:=⟨3,15,none⟩) (Nat.lt_of_lt_of_le (jw t) hn)).trans t
theorem Bk(w:World)(hT:w.cell? ⟨3,15,none⟩=some (.int .u8 4)):Calls Tryz.prog 232 #[.int .u64 16] w fun e W'=>e=.returned (.int .i64 4)∧W'=w:=by
 have e1:IntKind.u64.wrap (-16)=18446744073709551600:=by decide
 have e2:bits BinOp.and IntKind.u64 16 18446744073709551600=16:=by decide
 have e3:IntKind.u64.wrap 4573923408821661840=4573923408821661840:=by decide
 go_enter Tryz.func232,Tryz.ntmps232
 go_wp2;go_ret;exact⟨rfl,rfl⟩
theorem vq(w:World)(hT:Tab w):Calls Tryz.prog 194 #[.int .u64 16] w fun e W'=>e=.returned (.int .i64 4)∧W'=w:=by
 go_enter Tryz.func194,Tryz.ntmps194
 go_wp2_with fail;refine(Bk w hT).mono ?_;rintro e w1 ⟨rfl,rfl⟩
 go_wp2;go_ret;exact⟨rfl,rfl⟩
theorem vO(w:World):Calls Tryz.prog 193 #[.int .i64 16] w fun e W'=>e=.returned (.bool true)∧W'=w:=by
 go_enter Tryz.func193,Tryz.ntmps193
 go_wp2;go_ret;exact⟨rfl,rfl⟩
theorem aT{P:Program}{ops:Array Oper}{Q:Exit→Act→World→Prop}{a:Act}{w:World}{rest:List Oper}{o:Oper}(hg:o.guard=none)(ty:TypeId)(ho:o.op=.alloc ty)(z:Array Value)
  (hz:∀ w,(zeroValue ty).run P w=.ok (.agg z) w)
  (h:wpList P ops Q rest (a.put o.dst (.pointer (some ⟨w.heap.size,0,none⟩))) (w.alloc (.cells z ty))):wpList P ops Q (o::rest) a w:=by
 refine wpList_plain hg fun K hK=>?_
 unfold Oper.wp execOp;simp only[ho];simp[Instr.alloc,hz,go_sem];exact hK _ _ h
def iY(n:Nat):Int:=if n<10 then 48+n else 87+n
def hxf:Nat→Nat→List Int
 | 0,n=>[iY n]
 | f+1,n=>if n<16 then [iY n] else hxf f (n / 16)++[iY (n % 16)]
theorem jB(n:Nat):iY n=dgc false n:=by unfold iY dgc;split <;> simp
theorem zO{n:Nat}(h:n<65536):hxf 8 n=aS false false n:=by
 unfold aS dgs;simp only[Bool.false_eq_true,if_false];by_cases h1:n<16
 ·rw[hxf,if_pos h1,if_pos h1];simp[jB]
 ·by_cases h2:n<256
  ·rw[hxf,if_neg h1,hxf,if_pos (by omega),if_neg h1,if_pos h2];simp[jB]
  ·by_cases h3:n<4096
   ·rw[hxf,if_neg h1,hxf,if_neg (by omega),hxf,if_pos (by omega),if_neg h1,if_neg h2,if_pos h3]
    have e1:n / 16 / 16=n / 256:=by omega
    simp[jB,e1]
   ·rw[hxf,if_neg h1,hxf,if_neg (by omega),hxf,if_neg (by omega),hxf,if_pos (by omega),if_neg h1,if_neg h2,if_neg h3]
    have e1:n / 16 / 16 / 16=n / 4096:=by omega
    have e2:n / 16 / 16 % 16=n / 256 % 16:=by omega
    simp[jB,e1,e2]
theorem oD:∀(d:Nat) (h:d<16),(((⟨#[48,49,50,51,52,53,54,55,56,57,97,98,99,100,101,102,103,104,105,106,107,108,109,110,111,112,113,114,115,116,117,118,119,120,121,122]⟩:ByteArray)[d]'(Nat.lt_of_lt_of_le h (by decide))).toNat:Int)=iY d:=by
 decide
theorem drop_set(ys:List Value)(I:Nat)(x:Int)(ds:List Int)(h:I<ys.length)(hd:ys.drop (I+1)=ds.map (Value.int .u8)):(ys.set I (.int .u8 x)).drop I=(x::ds).map (Value.int .u8):=by
 rw[List.drop_eq_getElem_cons (by simpa using h),List.getElem_set_self,List.drop_set_of_lt (by omega),hd];rfl
def szU(k m:Nat):Prop:=(k=0∧m≤65535)∨(k=1∧m≤4095)∨(k=2∧m≤255)∨(k=3∧m≤15)
theorem Fa{k m:Nat}(h:szU k m):m≤65535∧k≤3:=by unfold szU at h;omega
theorem yc{k m:Nat}(h:szU k m)(hm:16≤m):szU (k+1) (m / 16)∧k≤2:=by
 rcases h with⟨rfl,h⟩ | ⟨rfl,h⟩ | ⟨rfl,h⟩ | ⟨rfl,h⟩
 ·exact⟨.inr (.inl ⟨rfl,by omega⟩),by omega⟩
 ·exact⟨.inr (.inr (.inl ⟨rfl,by omega⟩)),by omega⟩
 ·exact⟨.inr (.inr (.inr ⟨rfl,by omega⟩)),by omega⟩
 ·omega
theorem iC(g i j:Nat):(⟨g,i,none⟩:Addr).add j=⟨g,i+j,none⟩:=by unfold Addr.add;split <;> simp_all
theorem BK(g I:Nat)(hI:I<65)(W:World):(Instr.sliceAt 191 (.pointer (some ⟨g,0,none⟩)) (some (.int .i64 (I:Int))) none none).run Tryz.prog W=.ok (.slice (some ⟨g,I,none⟩) (65 - I) (65 - I)) W:=by
 have hl:Tryz.prog.arrayLen 191=65:=by kernel_rfl
 rw[run_sliceAt_array_l W 191 ⟨g,0,none⟩ (by kernel_rfl) .i64 (I:Int) (by omega) (by rw[hl];omega),hl];have hs:(sizeOf (Tryz.prog.elem 191)).run Tryz.prog W=.ok 1 W:=by kernel_rfl
 rw[hs];simp only[Result.andThen,slicedAt,Int.toNat_natCast,Nat.mul_one];rw[if_neg (by omega),iC,Nat.zero_add]
theorem du(ns:List Int)(h:∀ x∈ns,0≤x∧x≤255):(ns.map fun n=>UInt8.ofNat n.toNat).map (fun c=>(c.toNat:Int))=ns:=by
 rw[List.map_map]
 conv=>rhs;rw[←List.map_id ns]
 apply List.map_congr_left;intro x hx
 have:=h x hx;simp;omega
theorem pV(W:World)(g I n c:Nat)(ns:List Int)(hn:ns.length=n)(hb:∀ x∈ns,0≤x∧x≤255)(hc:∀ j,j<n→W.cell? ⟨g,I+j,none⟩=some (.int .u8 (ns[j]?.getD 0))):∃ t:ByteArray,(convert 36 9 (.slice (some ⟨g,I,none⟩) n c)).run Tryz.prog W=.ok (.string t) W∧bn t=ns:=by
 subst hn;refine⟨⟨(ns.map fun n=>UInt8.ofNat n.toNat).toArray⟩,?_,?_⟩
 ·have:=run_convert_bytes_back (P:=Tryz.prog) W 36 9 5 ⟨g,I,none⟩ c (ns.map fun n=>UInt8.ofNat n.toNat) Tryz.underlying36 Tryz.underlying5 Tryz.underlying9 (by
    intro j hj
    have hj':j<ns.length:=by simpa using hj
    rw[iC,hc j hj',List.getElem?_eq_getElem hj']
    have hbj:=hb ns[j] (List.getElem_mem hj')
    simp only[Option.getD_some,List.getElem_map,UInt8.toNat_ofNat']
    congr 2
    omega)
  rw[List.length_map]at this;exact this
 ·unfold bn
  simp only;exact du ns hb
theorem iZ{n:Nat}(h:n<65536):∀ x∈aS false false n,0≤x∧x≤255:=fun x hx=>by have:=mF h hx;omega
end Go.Proofs.YtkekkbciiohbkaaGreatDoor.X
