/- Texts one behind the other: WD WE XE XF XG. -/
import Derived.Test.YtkekkbciiohbkaaGreatDoorZ32
import Derived.Test.YtkekkbciiohbkaaGreatDoorProg
import Derived.Test.YtkekkbciiohbkaaGreatDoorZ3
import Derived.Test.YtkekkbciiohbkaaGreatDoorZ4
import Derived.Shelf.Strings.Split
import Derived.OwnWalk
import Derived.WalkKit
import Derived.WalkSpells
import Derived.WalkLawsBesides
import Derived.Below
import Derived.Laws.AppendOwnNone
import Derived.Laws.OwnMore
import Derived.Laws.BitsLemmas
set_option maxRecDepth 100000
set_option maxHeartbeats 16000000
set_option linter.unusedVariables false
set_option linter.unnecessarySimpa false
namespace Go.Proofs
open Go.Shelf Go.RowKit
shelf_lay Lays.n147 Nm 147 at Tryz as Tryz.laysSplX
end Go.Proofs
namespace Go.Proofs.YtkekkbciiohbkaaGreatDoor.X
open Go.RowKit
open Go.Proofs.YtkekkbciiohbkaaGreatDoor.F (hx bw vl cJ bn aa aC av aq ar hid aj ab ah aR aK)
def nn(l:List UInt8):List Int:=l.map fun c=>(c.toNat:Int)
theorem zP{c:Int}(h:48≤c∧c≤57):hx c=c - 48:=by unfold hx;rw[if_pos h]
theorem Ho:∀(l:List UInt8) (acc:Nat),acc≤255→((nn l).all ten=true∧(nn l).foldl (fun n c=>n * 10+(hx c).toNat) acc≤255∧Lib.parseUintM 255 acc l=.ok ((nn l).foldl (fun n c=>n * 10+(hx c).toNat) acc))∨(¬ ((nn l).all ten=true∧(nn l).foldl (fun n c=>n * 10+(hx c).toNat) acc≤255)∧∀ u,Lib.parseUintM 255 acc l≠.ok u)
 | [],acc,h=>.inl ⟨rfl,h,rfl⟩
 | c::l,acc,h=>by
  have e0:nn (c::l)=(c.toNat:Int)::nn l:=rfl;rw[e0,List.all_cons,List.foldl_cons];by_cases hd:48≤c.toNat∧c.toNat≤57
  ·have hx1:(hx (c.toNat:Int)).toNat=c.toNat - 48:=by rw[zP (by omega)];omega
   have ht:ten (c.toNat:Int)=true:=by unfold ten;exact decide_eq_true (by omega)
   rw[hx1,ht,Bool.true_and];have hcut:¬ 1844674407370955162≤acc:=by omega
   by_cases hov:255<acc * 10+(c.toNat - 48)
   ·right
    have hp:Lib.parseUintM 255 acc (c::l)=.range:=by rw[Lib.parseUintM,if_pos hd,if_neg hcut,if_pos hov]
    refine⟨fun hh=>?_,fun u e=>by rw[hp]at e;cases e⟩
    have mono:∀(m:List Int) (x:Nat),255<x→255<m.foldl (fun n c=>n * 10+(hx c).toNat) x:=by
     intro m
     induction m with
     | nil=>intro x h;exact h
     | cons d m ih=>intro x h;rw[List.foldl_cons];exact ih _ (by omega)
    have:=mono (nn l) _ hov;omega
   ·have hp:Lib.parseUintM 255 acc (c::l)=Lib.parseUintM 255 (acc * 10+(c.toNat - 48)) l:=by rw[Lib.parseUintM,if_pos hd,if_neg hcut,if_neg hov]
    rw[hp];exact Ho l _ (by omega)
  ·right
   have ht:ten (c.toNat:Int)=false:=by unfold ten;exact decide_eq_false (by omega)
   rw[ht];exact⟨by simp,fun u e=>by rw[Lib.parseUintM,if_neg hd]at e;cases e⟩
theorem CU{l:List Int}(h:l.all ten=true)(hv:vl 10 l≤255)(h0:¬ (1<l.length∧l[0]?.getD 0=48)):l.length≤3:=by
 have grow:∀(m:List Int) (x:Nat),x * 10 ^ m.length≤m.foldl (fun n c=>n * 10+(hx c).toNat) x:=by
  intro m
  induction m with
  | nil=>intro x;simp
  | cons d m ih =>
   intro x
   rw[List.foldl_cons,List.length_cons];refine Nat.le_trans ?_ (ih _);rw[Nat.pow_succ,Nat.mul_comm (10 ^ m.length),←Nat.mul_assoc];exact Nat.mul_le_mul_right _ (by omega)
 cases l with
 | nil=>simp
 | cons c m =>
  by_cases hl:(c::m).length≤3
  ·exact hl
  ·exfalso
   rw[List.all_cons,Bool.and_eq_true]at h;have hc:48≤c∧c≤57:=of_decide_eq_true h.1;have h48:c≠48:=fun e=>h0 ⟨by omega,by simpa using e⟩
   unfold vl at hv
   rw[List.foldl_cons,zP hc]at hv;have:=grow m (0 * 10+(c - 48).toNat);have hp:10 ^ 3≤10 ^ m.length:=Nat.pow_le_pow_right (by decide) (by simp at hl;omega);have h1:1 * 10 ^ m.length≤(0 * 10+(c - 48).toNat) * 10 ^ m.length:=Nat.mul_le_mul_right _ (by omega);omega
theorem Ao(t:ByteArray)(h0:¬ (1<(bn t).length∧(bn t)[0]?.getD 0=48)):(∃ v,dn (bn t)=some v∧v≤255∧Lib.parseUintB 8 t.data.toList=.ok v)∨(dn (bn t)=none∧∀ u,Lib.parseUintB 8 t.data.toList≠.ok u):=by
 have hl:=aa t;by_cases he:t.data.toList=[]
 ·right
  have hb:bn t=[]:=by unfold bn;rw[he];rfl
  refine⟨by rw[hb];rfl,fun u e=>by unfold Lib.parseUintB at e;rw[if_pos he]at e;cases e⟩
 ·have hne:(bn t).length≠0:=fun e=>he (by
    have:=List.eq_nil_of_length_eq_zero e
    unfold bn at this
    exact List.map_eq_nil_iff.1 this)
  have hB:Lib.parseUintB 8 t.data.toList=Lib.parseUintM 255 0 t.data.toList:=by unfold Lib.parseUintB;rw[if_neg he]
  rw[hB];rcases Ho t.data.toList 0 (by omega) with⟨a,b,c⟩ | ⟨a,b⟩
  ·left
   have b':vl 10 (bn t)≤255:=b;refine⟨vl 10 (bn t),?_,b',c⟩;unfold dn;rw[if_pos ⟨by omega,CU a b' h0,h0,a,b'⟩]
  ·right
   refine⟨?_,b⟩;unfold dn;rw[if_neg (fun hh=>a ⟨hh.2.2.2.1,hh.2.2.2.2⟩)]
theorem Ce(t:ByteArray)(hs:t.size≤1000000000)(v:Nat)(h:Lib.parseUintB 8 t.data.toList=.ok v)(w:World):Calls Tryz.prog 149 #[.string t,.int .i64 10,.int .i64 8] w fun e W'=>e=.returned (.tuple #[.int .u64 v,.nilIface])∧Below w.heap.size w W':=by
 have hq:=Any.strconv_ParseUint_10_at8_ok Tryz.laysPu t (by omega) v h w;refine Calls.mono (show Calls Tryz.prog 149 #[.string t,.int .i64 10,.int .i64 8] w _ from hq) ?_;rintro e W' ⟨rfl,hW⟩
 refine⟨rfl,?_⟩;rcases hW with rfl | rfl
 ·exact Below.refl _ _
 ·exact⟨rfl,rfl,rfl,by rw[Lib.bytesWorld_size];omega,fun k hk=>Lib.bytesWorld_at_old w _ t k hk⟩
theorem Cf(t:ByteArray)(hs:t.size≤1000000000)(h:∀ u,Lib.parseUintB 8 t.data.toList≠.ok u)(w:World)(hE:Er w):Calls Tryz.prog 149 #[.string t,.int .i64 10,.int .i64 8] w fun e W'=>(∃(x:Nat) (T:TypeId) (p:Value),x≤255∧e=.returned (.tuple #[.int .u64 x,.iface T p]))∧Below w.heap.size w W':=by
 obtain⟨⟨ev,h1,h2⟩,⟨ev',h3,h4⟩⟩:=hE;cases hx:Lib.parseUintB 8 t.data.toList
 ·exact absurd hx (h _)
 ·have hI:Calls Tryz.prog 199 #[.string t,.int .i64 10,.int .i64 8] w fun e w'=>e=.returned (.tuple #[.int .u64 0,.iface 230 (.int .i64 2)])∧Below w.heap.size w w':=by
   have hq:=AnyPu.internal_strconv_ParseUint_10_at8 { Tryz.laysPu with } t (by omega) w;rw[hx]at hq;refine Calls.mono (show Calls Tryz.prog 199 #[.string t,.int .i64 10,.int .i64 8] w _ from hq) ?_;rintro e W' ⟨rfl,hW⟩
   refine⟨rfl,?_⟩;rcases hW with rfl | rfl
   ·exact Below.refl _ _
   ·exact⟨rfl,rfl,rfl,by rw[Lib.bytesWorld_size];omega,fun k hk=>Lib.bytesWorld_at_old w _ t k hk⟩
  have HER:Hid (Er w):=⟨⟨ev,h1,h2⟩,⟨ev',h3,h4⟩⟩;clear hx h h1 h2 h3 h4;go_enter Tryz.func149,Tryz.ntmps149
  go_wp2_with fail;refine hI.mono ?_;rintro e w1 ⟨rfl,hb⟩
  go_wp2_with fail;refine(nM t hs 10 8 w1 (HER.out.below hb)).mono ?_;rintro e w2 ⟨⟨T,p,rfl⟩,hb2⟩
  have hb3:Below w.heap.size w w2:=hb.trans (hb2.mono hb.size);go_wp2
  go_ret2;exact⟨⟨0,T,p,by omega,rfl⟩,hb3⟩
 ·have hq:=Any.strconv_ParseUint_10_at8_range Tryz.laysPu t (by omega) hx ev' w h3 h4
  refine Calls.mono (show Calls Tryz.prog 149 #[.string t,.int .i64 10,.int .i64 8] w _ from hq) ?_;rintro e W' ⟨N,rfl,_,_,hb⟩
  exact⟨⟨255,_,_,by omega,rfl⟩,hb⟩
def cX(o:Option Nat)(e:Ending):Prop:=(∃ v:Nat,o=some v∧v≤255∧e=.returned (.tuple #[.int .u32 v,.bool true]))∨(o=none∧∃ x:Nat,e=.returned (.tuple #[.int .u32 x,.bool false]))
theorem qV(t:ByteArray)(hs:t.size≤1000000000)(h0:¬ (1<(bn t).length∧(bn t)[0]?.getD 0=48))(w:World)(hE:Er w):
  Calls Tryz.prog 146 #[.string t] w fun e W'=>cX (dn (bn t)) e∧Below w.heap.size w W':=by
 have hok:∀ v:Nat,v≤255→dn (bn t)=some v→cX (dn (bn t)) (.returned (.tuple #[.int .u32 v,.bool true])):=fun v h1 h2=>.inl ⟨v,h2,h1,rfl⟩
 have hno:dn (bn t)=none→∀ x:Nat,cX (dn (bn t)) (.returned (.tuple #[.int .u32 x,.bool false])):=fun h x=>.inr ⟨h,x,rfl⟩
 obtain⟨o,ho⟩:∃ o,dn (bn t)=o:=⟨_,rfl⟩;rw[ho]at hok hno ⊢;have hbl:=aa t
 have hcase:t.size≤1∨(1<t.size∧(bn t)[0]?.getD 0≠48):=by
  by_cases h:t.size≤1
  ·exact .inl h
  ·exact .inr ⟨by omega,fun e=>h0 ⟨by omega,e⟩⟩
 rcases Ao t h0 with⟨v,hd,hv,hp⟩ | ⟨hd,hp⟩ <;> rw[ho]at hd <;> clear ho
 ·have HPU:=hid (Ce t hs v hp w)
  have HOK:=hid (hok v hv hd);have hwr:IntKind.u32.wrap (v:Int)=(v:Int):=by simp[IntKind.wrap,IntKind.bits,IntKind.signed];omega
  clear hok hno hp hd h0 hbl;rcases hcase with hc | ⟨hc,hc2⟩
  ·go_enter Tryz.func146,Tryz.ntmps146
   go_wp2_with fail;refine HPU.out.mono ?_;rintro e w1 ⟨rfl,hb⟩
   go_wp2_with fail
   go_quiet (fail)
   go_wp2
   go_ret2;exact⟨HOK.out,hb.os,hb.tape,hb.output,hb.size,hb.block⟩
  ·rw[aq t 0 (by omega)]at hc2
   have hq:(((t[0].toNat:Nat):Int)==48)=false:=by simpa using hc2
   clear hc2;go_enter Tryz.func146,Tryz.ntmps146
   go_wp2_with fail;refine HPU.out.mono ?_;rintro e w1 ⟨rfl,hb⟩
   go_wp2_with fail
   go_quiet (fail)
   go_wp2
   go_ret2;exact⟨HOK.out,hb.os,hb.tape,hb.output,hb.size,hb.block⟩
 ·have HPU:=hid (Cf t hs hp w hE)
  have HNO:=hid (hno hd);clear hok hno hp hd h0 hbl;rcases hcase with hc | ⟨hc,hc2⟩
  ·go_enter Tryz.func146,Tryz.ntmps146
   go_wp2_with fail;refine HPU.out.mono ?_;rintro e w1 ⟨⟨x,T,p,hx,rfl⟩,hb⟩
   have hwr:IntKind.u32.wrap (x:Int)=(x:Int):=by simp[IntKind.wrap,IntKind.bits,IntKind.signed];omega
   go_wp2_with fail
   go_quiet (fail)
   go_wp2
   go_ret2;exact⟨HNO.out x,hb.os,hb.tape,hb.output,hb.size,hb.block⟩
  ·rw[aq t 0 (by omega)]at hc2
   have hq:(((t[0].toNat:Nat):Int)==48)=false:=by simpa using hc2
   clear hc2;go_enter Tryz.func146,Tryz.ntmps146
   go_wp2_with fail;refine HPU.out.mono ?_;rintro e w1 ⟨⟨x,T,p,hx,rfl⟩,hb⟩
   have hwr:IntKind.u32.wrap (x:Int)=(x:Int):=by simp[IntKind.wrap,IntKind.bits,IntKind.signed];omega
   go_wp2_with fail
   go_quiet (fail)
   go_wp2
   go_ret2;exact⟨HNO.out x,hb.os,hb.tape,hb.output,hb.size,hb.block⟩
theorem di(t:ByteArray)(hs:t.size≤1000000000)(w:World)(hE:Er w):
  Calls Tryz.prog 146 #[.string t] w fun e W'=>cX (dn (bn t)) e∧Below w.heap.size w W':=by
 by_cases h0:1<(bn t).length∧(bn t)[0]?.getD 0=48
 ·have hd:dn (bn t)=none:=by unfold dn;rw[if_neg (fun hh=>hh.2.2.1 h0)]
  have hbl:=aa t;obtain⟨h1,h2⟩:=h0;rw[hbl]at h1;have hpos:0<t.size:=by omega
  rw[aq t 0 hpos]at h2;have hq:(((t[0].toNat:Nat):Int)==48)=true:=by simpa using h2
  have HR:=hid (show cX (dn (bn t)) (.returned (.tuple #[.int .u32 (0:Nat),.bool false])) from .inr ⟨hd,0,rfl⟩);clear h2 hd hbl;obtain⟨o,ho⟩:∃ o,dn (bn t)=o:=⟨_,rfl⟩;rw[ho]at HR ⊢;clear ho;go_enter Tryz.func146,Tryz.ntmps146
  go_wp2
  go_ret2;exact⟨HR.out,Below.refl _ _⟩
 ·exact qV t hs h0 w hE
theorem e9{b:UInt8}{l:List UInt8}:(b.toNat:Int)∈nn l↔b∈l:=by
 unfold nn;rw[List.mem_map]
 constructor
 ·rintro⟨c,hc,e⟩
  have:c=b:=UInt8.toNat_inj.1 (by omega);rw[←this];exact hc
 ·intro h;exact⟨b,h,rfl⟩
theorem jY(b:Int):∀ l:List Int,spB b l≠[]
 | []=>by simp[spB]
 | c::l=>by rw[spB];split <;> simp
theorem jX(b:Int):∀(A B:List Int),spB b (A++b::B)=spB b A++spB b B
 | [],B=>by
  have h:spB b (b::B)=[]::spB b B:=if_pos rfl;exact h
 | c::A,B=>by
  have ih:=jX b A B;show spB b (c::(A++b::B))=_
  rw[spB,spB];by_cases h:c=b
  ·rw[if_pos h,if_pos h,ih];rfl
  ·rw[if_neg h,if_neg h,ih]
   cases hs:spB b A with
   | nil=>exact absurd hs (jY b A)
   | cons x y=>rfl
theorem sI(b:Int)(A B:List Int):(spB b (A++b::B)).length=(spB b A).length+(spB b B).length:=by rw[jX,List.length_append]
theorem tW(b:Int):∀ l:List Int,(spB b l).length≤l.length+1
 | []=>by simp[spB]
 | c::l=>by
  have ih:=tW b l;have hp:=List.length_pos_iff.2 (jY b l);rw[spB];split
  ·rw[List.length_cons,List.length_cons];omega
  ·rw[List.length_cons,List.length_tail,List.length_cons];omega
theorem lO(b:Int):∀(l p:List Int),p∈spB b l→p.length≤l.length∧¬ b∈p∧∀ c∈p,c∈l
 | [],p,h=>by simp[spB]at h;subst h;simp
 | c::l,p,h=>by
  rw[spB]at h;split at h
  ·rcases List.mem_cons.1 h with rfl | h
   ·simp
   ·obtain⟨h1,h2,h3⟩:=lO b l p h
    exact⟨by rw[List.length_cons];omega,h2,fun x hx=>List.mem_cons_of_mem _ (h3 x hx)⟩
  ·rename_i hcb
   cases hs:spB b l with
   | nil=>exact absurd hs (jY b l)
   | cons x y =>
    rw[hs]at h;rcases List.mem_cons.1 h with rfl | h
    ·obtain⟨h1,h2,h3⟩:=lO b l x (by rw[hs];simp)
     refine⟨by simpa using h1,fun hh=>?_,fun z hz=>?_⟩
     ·rcases List.mem_cons.1 hh with e | hh
      ·exact hcb e.symm
      ·exact h2 hh
     ·rcases List.mem_cons.1 hz with e | hz
      ·rw[e];simp
      ·exact List.mem_cons_of_mem _ (h3 z hz)
    ·obtain⟨h1,h2,h3⟩:=lO b l p (by rw[hs];exact List.mem_cons_of_mem _ h)
     exact⟨by rw[List.length_cons];omega,h2,fun z hz=>List.mem_cons_of_mem _ (h3 z hz)⟩
theorem spK(b:UInt8):∀(k:Nat) (l:List UInt8),((spB b.toNat (nn l)).length≤k+1∧(Lib.splitK [b] 0 k l).map nn=spB b.toNat (nn l))∨(k+1<(spB b.toNat (nn l)).length∧(Lib.splitK [b] 0 k l).length=k+1)
 | 0,l=>by
  by_cases h:b∈l
  ·right
   obtain⟨A,B,e⟩:=List.append_of_mem (e9.2 h);have h1:=List.length_pos_iff.2 (jY b.toNat A);have h2:=List.length_pos_iff.2 (jY b.toNat B);rw[e,sI];exact⟨by omega,rfl⟩
  ·left
   have hs:=ei b.toNat (nn l) (fun hh=>h (e9.1 hh));rw[hs];exact⟨by simp,rfl⟩
 | k+1,l=>by
  have hge:=Lib.indexByte_ge l b;have hi1:=Lib.index_one l b;by_cases hm:Lib.indexByte l b=-1
  ·left
   have hn:=Lib.indexByte_none hm
   have h:¬ b∈l:=fun hh=>by
    obtain⟨j,hj,e⟩:=List.mem_iff_getElem.1 hh;exact hn j (by rw[List.getElem?_eq_getElem hj,e])
   have hs:=ei b.toNat (nn l) (fun hh=>h (e9.1 hh));rw[hs];refine⟨by simp,?_⟩;rw[Lib.splitK,hi1,hm];rfl
  ·obtain⟨i,hi⟩:∃ i:Nat,Lib.indexByte l b=i:=⟨(Lib.indexByte l b).toNat,by omega⟩
   obtain⟨h1,h2⟩:=Lib.indexByte_some hi;have hil:i<l.length:=(List.getElem?_eq_some_iff.1 h1).1
   have e:l=l.take i++b::l.drop (i+1):=by
    have h5:l.drop i=b::l.drop (i+1):=by
     rw[List.drop_eq_getElem_cons hil];rw[List.getElem?_eq_getElem hil]at h1;rw[Option.some.inj h1]
    rw[←h5,List.take_append_drop]
   have hn:¬ b∈l.take i:=fun hh=>by
    obtain⟨j,hj,e⟩:=List.mem_iff_getElem.1 hh;rw[List.length_take]at hj;rw[List.getElem_take]at e;exact h2 j (by omega) (by rw[List.getElem?_eq_getElem (by omega),e])
   have es:spB b.toNat (nn l)=nn (l.take i)::spB b.toNat (nn (l.drop (i+1))):=by
    conv=>lhs;rw[e]
    rw[show nn (l.take i++b::l.drop (i+1))=nn (l.take i)++(b.toNat:Int)::nn (l.drop (i+1)) by unfold nn;rw[List.map_append];rfl];exact jk _ _ _ (fun hh=>hn (e9.1 hh))
   have ek:Lib.splitK [b] 0 (k+1) l=l.take i::Lib.splitK [b] 0 k (l.drop (i+1)):=by
    rw[Lib.splitK,hi1,hi,if_neg (by simp)];simp
   rw[es,ek];rcases spK b k (l.drop (i+1)) with⟨g1,g2⟩ | ⟨g1,g2⟩
   ·left
    exact⟨by rw[List.length_cons];omega,by rw[List.map_cons,g2]⟩
   ·right
    exact⟨by rw[List.length_cons];omega,by rw[List.length_cons,g2]⟩
theorem gy(b:UInt8)(M:Nat)(U:ByteArray)(qs:List ByteArray)(hq:qs=Lib.splitB ⟨#[b]⟩ 0 (min (M+1) (U.size+1) - 1) U):((spB b.toNat (bn U)).length≤M∧qs.map bn=spB b.toNat (bn U))∨(M<(spB b.toNat (bn U)).length∧M<qs.length):=by
 have hd:=Lib.splitB_data ⟨#[b]⟩ 0 (min (M+1) (U.size+1) - 1) U;rw[←hq]at hd
 have hb:qs.map bn=(Lib.splitK [b] 0 (min (M+1) (U.size+1) - 1) U.data.toList).map nn:=by
  have h2:qs.map bn=(qs.map (·.data.toList)).map nn:=by rw[List.map_map];rfl
  rw[h2,hd]
 have hl:qs.length=(Lib.splitK [b] 0 (min (M+1) (U.size+1) - 1) U.data.toList).length:=by
  have:=congrArg List.length hb
  rwa [List.length_map,List.length_map]at this
 have hc:=tW b.toNat (bn U);rw[aa]at hc;rcases spK b (min (M+1) (U.size+1) - 1) U.data.toList with⟨g1,g2⟩ | ⟨g1,g2⟩
 ·have g1':(spB b.toNat (bn U)).length≤min (M+1) (U.size+1) - 1+1:=g1
  have g2':qs.map bn=spB b.toNat (bn U):=hb.trans g2;by_cases h4:(spB b.toNat (bn U)).length≤M
  ·exact .inl ⟨h4,g2'⟩
  ·right
   refine⟨by omega,?_⟩;have:=congrArg List.length g2';rw[List.length_map]at this;omega
 ·have g1':min (M+1) (U.size+1) - 1+1<(spB b.toNat (bn U)).length:=g1
  right
  rw[hl,g2];omega
theorem ja{done:List ByteArray}{N j:Nat}(h:j<done.length):(Lib.cellsOf done N)[j]? = some (.string (done[j]?.getD ⟨#[]⟩)):=by
 unfold Lib.cellsOf;rw[List.getElem?_toArray,List.getElem?_append_left (by simpa using h),List.getElem?_map,List.getElem?_eq_getElem h];rfl
theorem gW(w:World)(t:TypeId)(cs:Array Value)(j:Nat):(w.alloc (.cells cs t)).cell? ⟨w.heap.size,j,none⟩=cs[j]? := by
 have hb:(w.alloc (.cells cs t)).heap[w.heap.size]? = some (.cells cs t):=heap_alloc_new w _
 generalize w.alloc (.cells cs t)=W at hb ⊢
 simp[World.cell?,hb]
def Mx(W:World):Prop:=∃ m:Int,W.cell? ⟨1,0,none⟩=some (.int .i64 m)
theorem Mx.below{w w':World}(h:Mx w)(hb:Below w.heap.size w w'):Mx w':=by
 obtain⟨m,hm⟩:=h;exact⟨m,(hb.cell (p:=⟨1,0,none⟩) (Lib.lt_of_cell hm)).trans hm⟩
def G0(b:UInt8)(M:Nat)(U:ByteArray)(w:World)(e:Ending)(W':World):Prop:=(∃(g c:Nat) (qs:List ByteArray),e=.returned (.slice (some ⟨g,0,none⟩) qs.length c)∧(∀ j,j<qs.length→W'.cell? ⟨g,j,none⟩=some (.string (qs[j]?.getD ⟨#[]⟩)))∧(((spB b.toNat (bn U)).length≤M∧qs.map bn=spB b.toNat (bn U))∨(M<(spB b.toNat (bn U)).length∧M<qs.length∧qs.length≤U.size+1)))∧Below w.heap.size w W'
theorem sH(b:UInt8)(n:Nat)(U:ByteArray)(h:n≤U.size):(Lib.splitB ⟨#[b]⟩ 0 n U).length≤U.size+1:=by
 have hd:=congrArg List.length (Lib.splitB_data ⟨#[b]⟩ 0 n U);rw[List.length_map]at hd;have e:(⟨#[b]⟩:ByteArray).data.toList=[b]:=rfl;rw[e]at hd;rcases spK b n U.data.toList with⟨g1,g2⟩ | ⟨_,g2⟩
 ·have:=congrArg List.length g2
  rw[List.length_map]at this;omega
 ·omega
theorem fJ(b:UInt8)(M:Nat)(hM1:M≤100)(U:ByteArray)(w:World)(hU:U.size≤1000000000)(hM:Mx w):
  Calls Tryz.prog 105 #[.string U,.string ⟨#[b]⟩,.int .i64 ((M+1:Nat):Int)] w fun e W'=>G0 b M U w e W':=by
 obtain⟨m,hm⟩:=hM;have hf:Tryz.laysSplX_ren.f 147=105:=by kernel_rfl
 have hg:Tryz.laysSplX_ren.g 1=1:=by kernel_rfl
 have h:=Any.strings_SplitN Tryz.laysSplX (by kernel_rfl) U ⟨#[b]⟩ (M+1) m w (by omega) (by rw[hg];exact hm) (Nat.le_refl 1) (by omega) (by omega);rw[hf]at h;refine h.mono ?_;rintro e W' ⟨rfl,rfl⟩
 refine⟨⟨_,_,_,rfl,fun j hj=>?_,?_⟩,(Below.refl _ w).alloc (Nat.le_refl _) _⟩
 ·rw[gW]
  exact ja hj
 ·rcases gy b M U _ rfl with h1 | ⟨h1,h2⟩
  ·exact .inl h1
  ·exact .inr ⟨h1,h2,sH b _ U (by omega)⟩
def ac(ds:List Nat):Nat:=ds.foldl (fun n d=>n * 256+d) 0
theorem Et(ds:List Nat)(d:Nat):ac (ds++[d])=ac ds * 256+d:=by unfold ac;rw[List.foldl_append];rfl
def sz8(j a:Nat):Prop:=(j=0∧a=0)∨(j=1∧a≤255)∨(j=2∧a≤65535)∨(j=3∧a≤16777215)∨(j=4∧a≤4294967295)
theorem yd{j a d:Nat}(h:sz8 j a)(hj:j<4)(hd:d≤255):sz8 (j+1) (a * 256+d)∧a≤16777215:=by
 unfold sz8 at *
 omega
theorem FB(a d:Nat)(ha:a≤16777215)(hd:d≤255):bits .or .u32 ((a:Int) * 256) (d:Int)=((a * 256+d:Nat):Int):=by
 have h:=u32_or_nat (a * 256) d (by omega) (by omega)
 have e:a * 256 ||| d=a * 256+d:=by
  have:=Nat.shiftLeft_add_eq_or_of_lt (b:=d) (i:=8) (by omega) a;rw[Nat.shiftLeft_eq]at this;exact this.symm
 rw[e]at h;exact h
theorem tc{l:List (Option Nat)}(h:none∈l):kF l=none:=by
 match l,h with
 | [some a,some b,some c,some d],h=>simp at h
 | [],_=>rfl
 | [x],_=>cases x <;> rfl
 | [x,y],_=>cases x <;> cases y <;> rfl
 | [x,y,z],_=>cases x <;> cases y <;> cases z <;> rfl
 | none::_::_::_::_,_=>rfl
 | some _::none::_::_::_,_=>rfl
 | some _::some _::none::_::_,_=>rfl
 | some _::some _::some _::none::_,_=>rfl
 | some _::some _::some _::some _::_::_,_=>rfl
theorem ow{l:List (Option Nat)}(h:l.length≠4):kF l=none:=by
 match l,h with
 | [a,b,c,d],h=>simp at h
 | [],_=>rfl
 | [x],_=>cases x <;> rfl
 | [x,y],_=>cases x <;> cases y <;> rfl
 | [x,y,z],_=>cases x <;> cases y <;> cases z <;> rfl
 | none::_::_::_::_::_,_=>rfl
 | some _::none::_::_::_::_,_=>rfl
 | some _::some _::none::_::_::_,_=>rfl
 | some _::some _::some _::none::_::_,_=>rfl
 | some _::some _::some _::some _::_::_,_=>rfl
def Bg(o:Option (List Nat))(e:Ending):Prop:=(∃ h l:Nat,o=some [h,l]∧h<65536∧l<65536∧e=.returned (.tuple #[.int .u16 h,.int .u16 l,.bool true]))∨(o=none∧e=.returned (.tuple #[.int .u16 0,.int .u16 0,.bool false]))
theorem vS{ps:List (List Int)}{ds:List Nat}(hl:ds.length=4)(h:ps.map dn=ds.map some)(ha:ac ds≤4294967295):∃ H L:Nat,kF (ps.map dn)=some [H,L]∧H<65536∧L<65536∧ac ds / 65536=H∧ac ds % 65536=L:=by
 match ds,hl with
 | [a,b,c,d],_ =>
  rw[h];have e:ac [a,b,c,d]=((a * 256+b) * 256+c) * 256+d:=by simp[ac]
  have hb:∀ x:Nat,some x∈ps.map dn→x≤255:=by
   intro x hx
   obtain⟨p,_,hp⟩:=List.mem_map.1 hx;unfold dn at hp
   split at hp
   ·rename_i hh;cases hp;exact hh.2.2.2.2
   ·cases hp
  rw[h]at hb;have ba:=hb a (by simp);have bb:=hb b (by simp);have bc:=hb c (by simp);have bd:=hb d (by simp);refine⟨a * 256+b,c * 256+d,rfl,by omega,by omega,?_,?_⟩ <;> rw[e] <;> omega
theorem mb(U:ByteArray)(hU:U.size≤1000000)(w:World)(hE:Er w)(hM:Mx w):Calls Tryz.prog 103 #[.string U] w fun e W'=>Bg (dt (bn U)) e∧Below w.heap.size w W':=by
 have HSP:Hid (Calls Tryz.prog 105 #[.string U,.string ⟨#[46]⟩,.int .i64 5] w fun e W'=>G0 46 4 U w e W'):=fJ 46 4 (by omega) U w (by omega) hM;have HE:=hid (fun W hb=>hE.below (w':=W) hb);have HNO:Hid (dt (bn U)=none→Bg (dt (bn U)) (.returned (.tuple #[.int .u16 0,.int .u16 0,.bool false]))):=fun h=>.inr ⟨h,rfl⟩
 have HDT:Hid (dt (bn U)=kF ((spB 46 (bn U)).map dn)):=rfl;have hmem:=lO 46 (bn U);rw[aa]at hmem;have HMEM:=hid hmem;obtain⟨o,ho⟩:∃ o,dt (bn U)=o:=⟨_,rfl⟩;rw[ho]at HNO HDT ⊢;clear ho hmem hE hM;go_enter Tryz.func103,Tryz.ntmps103
 go_wp2_with fail;refine HSP.out.mono ?_;rintro e w1 ⟨⟨g,c,qs,rfl,hcb,hor⟩,B1⟩
 have HB1:=hid B1;have HCB:=hid hcb;have HER:=hid (HE.out w1 B1);clear B1 HSP HE hcb;by_cases h4:qs.length=4
 ·have hqs:qs.map bn=spB 46 (bn U):=by
   rcases hor with h | h
   ·exact h.2
   ·omega
  have hsz:∀ i,i<qs.length→(qs[i]?.getD ⟨#[]⟩).size≤1000000:=fun i hi=>by
   have h1:bn (qs[i]?.getD ⟨#[]⟩)∈spB 46 (bn U):=by
    rw[←hqs,List.getElem?_eq_getElem hi];exact List.mem_map_of_mem (List.getElem_mem hi)
   have:=(HMEM.out _ h1).1;rw[aa]at this;omega
  have HSZ:=hid hsz;have HQS:=hid hqs;rw[←hqs]at HDT;clear hor hqs hsz HMEM;have HL4:=hid h4;rw[h4]at HCB HSZ ⊢;clear h4
  go_wp2_with fail
  go_loopw [6,18] (fun v6 v18 wr=>∃(j:Nat) (ds:List Nat) (a:Nat),j≤4∧v6=.int .u32 (a:Int)∧v18=.int .i64 (j:Int)∧Hid (ds.length=j∧ac ds=a∧sz8 j a∧((qs.take j).map bn).map dn=ds.map some)∧Hid (Below w1.heap.size w1 wr)) (fun _ v18 _=>4 - (intOf v18).toNat)
  case atStart=>exact⟨0,[],0,by omega,rfl,rfl,⟨rfl,rfl,.inl ⟨rfl,rfl⟩,rfl⟩,Below.refl _ _⟩
  case round =>
   obtain⟨j,ds,a,hj,rfl,rfl,HH,HB⟩:=hrel;by_cases hlt:j<4
   ·have hcw:=HCB.out j hlt
    have hcr:wr.cell? ⟨g,j,none⟩=some (.string (qs[j]?.getD ⟨#[]⟩)):=(HB.out.cell (p:=⟨g,j,none⟩) (Lib.lt_of_cell hcw)).trans hcw;have HNU:Hid (Calls Tryz.prog 146 #[.string (qs[j]?.getD ⟨#[]⟩)] wr fun e W'=>cX (dn (bn (qs[j]?.getD ⟨#[]⟩))) e∧Below wr.heap.size wr W'):=di _ (by have:=HSZ.out j hlt;omega) wr (HER.out.below HB.out);have hjq:j<qs.length:=by rw[HL4.out];exact hlt
    have htk:qs.take (j+1)=qs.take j++[qs[j]?.getD ⟨#[]⟩]:=by rw[List.take_add_one,List.getElem?_eq_getElem hjq];rfl
    have hmm:bn (qs[j]?.getD ⟨#[]⟩)∈qs.map bn:=by
     rw[List.getElem?_eq_getElem hjq];exact List.mem_map_of_mem (List.getElem_mem hjq)
    obtain⟨D,hD⟩:∃ D,qs[j]?.getD ⟨#[]⟩=D:=⟨_,rfl⟩;rw[hD]at hcr HNU htk hmm;have HTK:=hid htk;have HMM:=hid hmm;have hltz:(j:Int)<4:=by omega
    clear hD hcw htk hmm hjq;obtain⟨o2,ho2⟩:∃ o2,dn (bn D)=o2:=⟨_,rfl⟩;have HO2:=hid ho2;rw[ho2]at HNU;clear ho2
    go_wp2_with fail;refine HNU.out.mono ?_;rintro e w2 ⟨hn,B2⟩
    have HB2:=hid (HB.out.trans (B2.mono HB.out.size));clear B2 HNU;rcases hn with⟨v,hv,hv5,rfl⟩ | ⟨hv,x,rfl⟩
    ·obtain⟨q1,q2,q3,q4⟩:=HH.out
     have hst:=yd q3 hlt hv5
     have HN:Hid ((ds++[v]).length=j+1∧ac (ds++[v])=a * 256+v∧sz8 (j+1) (a * 256+v)∧((qs.take (j+1)).map bn).map dn=(ds++[v]).map some):=by
      refine⟨by rw[List.length_append,q1];rfl,by rw[Et,q2],hst.1,?_⟩;rw[HTK.out,List.map_append,List.map_append,q4,List.map_append]
      congr 1
      show [dn (bn D)]=[some v]
      rw[HO2.out,hv]
     have ha:=hst.2;have hor2:=FB a v ha hv5;clear q1 q2 q3 q4 hst HH HO2 hv
     go_wp2_with fail
     go_roundw
     case rel=>exact⟨j+1,ds++[v],a * 256+v,by omega,by first | rfl | go_num,by go_num,HN,HB2⟩
     case measure=>simp[intOf];omega
    ·have hnone:o=none:=by
      rw[HDT.out];refine tc (List.mem_map.2 ⟨bn D,HMM.out,?_⟩);rw[HO2.out,hv]
     have HR:=hid (HNO.out hnone);clear hnone HNO HO2 HH hv;go_wp2
     go_ret3;exact⟨HR.out,HB1.out.trans (HB2.out.mono HB1.out.size)⟩
   ·have hj4:j=4:=by omega
    subst hj4;obtain⟨q1,q2,q3,q4⟩:=HH.out;have ha:a≤4294967295:=by unfold sz8 at q3;omega
    rw[List.take_of_length_le (by rw[HL4.out];omega)]at q4;obtain⟨H,L,f1,f2,f3,f4,f5⟩:=vS q1 q4 (by omega);rw[q2]at f4 f5;have HR:Hid (Bg o (.returned (.tuple #[.int .u16 H,.int .u16 L,.bool true]))):=.inl ⟨H,L,by rw[HDT.out,f1],f2,f3,rfl⟩
    have hw1:IntKind.u16.wrap ((a:Int) / 65536)=(H:Int):=by
     simp[IntKind.wrap,IntKind.bits,IntKind.signed];omega
    have hw2:IntKind.u16.wrap (a:Int)=(L:Int):=by
     simp[IntKind.wrap,IntKind.bits,IntKind.signed];omega
    clear q1 q2 q3 q4 f1 f2 f3 f4 f5 HH HNO HDT;go_wp2
    go_ret3;exact⟨HR.out,HB1.out.trans (HB.out.mono HB1.out.size)⟩
 ·have hnone:o=none:=by
   rw[HDT.out];apply ow;rw[List.length_map];rcases hor with⟨_,h⟩ | ⟨h,_⟩
   ·have h5:=congrArg List.length h
    rw[List.length_map]at h5;have h6:(spB 46 (bn U)).length=qs.length:=h5.symm;omega
   ·have h6:4<(spB 46 (bn U)).length:=h
    omega
  have hle:qs.length≤1000001:=by
   rcases hor with⟨h,h5⟩ | ⟨_,_,h⟩
   ·have:=congrArg List.length h5
    rw[List.length_map]at this;omega
   ·omega
  have HR:=hid (HNO.out hnone);have h4z:((qs.length:Int)==4)=false:=by simp;omega
  obtain⟨n,hn⟩:∃ n,qs.length=n:=⟨_,rfl⟩;rw[hn]at h4z hle ⊢;clear hnone HNO hor HCB hn h4 HMEM HDT;go_wp2
  go_ret3;exact⟨HR.out,HB1.out⟩
open Go.Proofs.YtkekkbciiohbkaaGreatDoor.F (hx bw vl bn aa aC av aq ar hid aj ab ah aR aK)
theorem p7(s:ByteArray)(i j:Nat)(hij:i≤j)(hj:j≤s.size):bn (s.extract i j)=((bn s).drop i).take (j - i):=by
 unfold bn;rw[ByteArray.data_extract,Array.toList_extract,List.extract_eq_take_drop,List.map_take,List.map_drop]
def PI(b:Int)(l:List Int)(i fr:Nat)(qs:List (List Int)):Prop :=
 (i≤l.length∧fr≤i∧spB b l=qs++spB b (l.drop fr)∧∀ j,fr≤j→j<i→l[j]?.getD 0≠b)∨(i=l.length+1∧spB b l=qs)
theorem PI.start(b:Int)(l:List Int):PI b l 0 0 []:=.inl ⟨Nat.zero_le _,Nat.le_refl _,by simp,fun j _ h=>by omega⟩
theorem gG{b:Int}{l:List Int}{i fr:Nat}(hi:i≤l.length)(h4:∀ j,fr≤j→j<i→l[j]?.getD 0≠b):¬ b∈(l.drop fr).take (i - fr):=by
 intro hm
 obtain⟨k,hk,e⟩:=List.mem_iff_getElem.1 hm;rw[List.length_take,List.length_drop]at hk;have h5:((l.drop fr).take (i - fr))[k]? = some b:=by rw[List.getElem?_eq_getElem (by rw[List.length_take,List.length_drop];exact hk),e]
 rw[List.getElem?_take_of_lt (by omega),List.getElem?_drop]at h5;exact h4 (fr+k) (by omega) (by omega) (by rw[h5];rfl)
theorem PI.dot{b:Int}{l:List Int}{i fr:Nat}{qs:List (List Int)}(hi:i<l.length)(hc:l[i]?.getD 0=b)(h:PI b l i fr qs):PI b l (i+1) (i+1) (qs++[(l.drop fr).take (i - fr)]):=by
 rcases h with⟨_,h2,h3,h4⟩ | ⟨h,_⟩
 ·refine .inl ⟨by omega,Nat.le_refl _,?_,fun j hj hji=>by omega⟩
  have hd:l.drop fr=(l.drop fr).take (i - fr)++b::l.drop (i+1):=by
   have e1:(l.drop fr).drop (i - fr)=l.drop i:=by rw[List.drop_drop,show fr+(i - fr)=i by omega]
   have e2:l.drop i=b::l.drop (i+1):=by rw[List.drop_eq_getElem_cons hi];rw[List.getElem?_eq_getElem hi]at hc;rw[show l[i]=b from hc]
   rw[←e2,←e1,List.take_append_drop]
  have hs:spB b (l.drop fr)=(l.drop fr).take (i - fr)::spB b (l.drop (i+1)):=by
   conv=>lhs;rw[hd]
   exact jk b _ _ (gG (by omega) h4)
  rw[h3,hs,List.append_assoc];rfl
 ·omega
theorem PI.from{b:Int}{l:List Int}{i fr:Nat}{qs:List (List Int)}(hi:i≤l.length)(h:PI b l i fr qs):fr≤i:=by
 rcases h with⟨_,h,_⟩ | ⟨h,_⟩
 ·exact h
 ·omega
theorem PI.done{b:Int}{l:List Int}{i fr:Nat}{qs:List (List Int)}(hi:l.length<i)(h:PI b l i fr qs):spB b l=qs:=by
 rcases h with⟨h,_⟩ | ⟨_,h⟩
 ·omega
 ·exact h
theorem ey(w:World)(t:TypeId)(l:List Value):∀(j:Nat) (u:Value),l[j]? = some u→(w.alloc (.cells l.toArray t)).cell? ((⟨w.heap.size,0,none⟩:Addr).add j)=some u:=by
 intro j u h
 have hb:(w.alloc (.cells l.toArray t)).heap[w.heap.size]? = some (.cells l.toArray t):=heap_alloc_new w _
 generalize w.alloc (.cells l.toArray t)=W at hb ⊢
 have e:(⟨w.heap.size,0,none⟩:Addr).add j=⟨w.heap.size,j,none⟩:=by unfold Addr.add;split <;> simp_all
 rw[e];simp[World.cell?,hb,h]
theorem cJ(l:List Int)(c:Int):vl 16 (l++[c])=vl 16 l * 16+(hx c).toNat:=by unfold vl;rw[List.foldl_append];rfl
theorem take_one(L:List Int)(k:Nat)(h:k<L.length):L.take (k+1)=L.take k++[L[k]?.getD 0]:=by
 rw[List.take_succ_eq_append_getElem h,List.getElem?_eq_getElem h];rfl
theorem jw{w:World}{p:Addr}{v:Value}(h:w.cell? p=some v):p.block<w.heap.size:=by
 rcases Nat.lt_or_ge p.block w.heap.size with hb | hb
 ·exact hb
 ·simp[World.cell?,Array.getElem?_eq_none hb]at h
theorem tu(w:World)(t:TypeId)(l:List Value)(j:Nat)(u:Value)(h:l[j]? = some u):(w.alloc (.cells l.toArray t)).cell? ⟨w.heap.size,j,none⟩=some u:=by
 have:=ey w t l j u h
 rwa [show(⟨w.heap.size,0,none⟩:Addr).add j=⟨w.heap.size,j,none⟩ from by unfold Addr.add;split <;> simp_all]at this
def PJ(last:Bool)(ps:List (List Int))(i:Nat)(out:List Nat):Prop:=(i<ps.length→pcs last ps=(pcs last (ps.drop i)).map (out++·))∧(i=ps.length→pcs last ps=some out)
theorem PJ.start{last:Bool}{ps:List (List Int)}(h:ps≠[]):PJ last ps 0 []:=⟨fun _=>by simp,fun e=>absurd (List.length_eq_zero_iff.1 e.symm) h⟩
theorem drop_at{ps:List (List Int)}{i:Nat}(h:i<ps.length):ps.drop i=ps[i]?.getD []::ps.drop (i+1):=by
 rw[List.drop_eq_getElem_cons h,List.getElem?_eq_getElem h];rfl
theorem PJ.mid{last:Bool}{ps:List (List Int)}{i:Nat}{out:List Nat}(hi:i+1<ps.length)(h:PJ last ps i out):(pc (ps[i]?.getD [])=none→pcs last ps=none)∧(∀ v,pc (ps[i]?.getD [])=some v→PJ last ps (i+1) (out++[v])):=by
 have e:=h.1 (by omega);rw[drop_at (by omega),drop_at hi]at e
 have e2:pcs last (ps[i]?.getD []::ps[i+1]?.getD []::ps.drop (i+1+1))=put (pc (ps[i]?.getD [])) (pcs last (ps.drop (i+1))):=by
  rw[drop_at hi];rfl
 rw[e2]at e;refine⟨fun hn=>by rw[e,hn];rfl,fun v hv=>⟨fun _=>?_,fun hh=>by omega⟩⟩;rw[e,hv];cases pcs last (ps.drop (i+1)) with
 | none=>rfl
 | some l=>simp[put]
theorem PJ.fin{last:Bool}{ps:List (List Int)}{i:Nat}{out:List Nat}(hi:i=ps.length)(h:pcs last ps=some out):PJ last ps i out:=⟨fun hh=>by omega,fun _=>h⟩
def ak(L:List Nat):List Value:=L.map (fun x:Nat=>Value.int .u16 x)
end Go.Proofs.YtkekkbciiohbkaaGreatDoor.X
