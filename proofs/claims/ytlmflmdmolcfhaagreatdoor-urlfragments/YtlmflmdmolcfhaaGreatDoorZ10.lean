/- Contracts and plain facts. -/
import Derived.Test.YtlmflmdmolcfhaaGreatDoorZ9
import Derived.Shelf.Strings.Builder1
import Derived.OrdersHeld
import Derived.Deep.RegionHeld
import Derived.Shelf.Strconv.AppendUint10
set_option maxRecDepth 100000
set_option maxHeartbeats 16000000
set_option linter.unusedVariables false
set_option linter.unnecessarySimpa false
open Nat (le_refl le_trans mod_lt)
open List (length_append map_append length_reverse length_drop length_map map_dropLast length_cons)
open Go.World (ownsRow_nil)
namespace Go.Proofs.YtlmflmdmolcfhaaGreatDoor
open Tryz Go.RowKit
namespace Y
open F (bn aa hid aq az)
def nE:Array Value->Nat->List Value->Array Value
 | cs,_,[]=>cs
 | cs,o,v::vs=>nE (cs.setIfInBounds o v) (o+1) vs
theorem St.puts{w0:World}{b:Nat}{r r':Rd}{ps:List ByteArray}(vs:List Value)(o:Nat){W:World}(h:St w0 b W r ps)(he:nE (Rd.cs r) o vs=Rd.cs r')(hp:r'.u.pv=r.u.pv):St w0 b (W.setCells b o vs) r' ps:=by
 have key:∀(vs:List Value) (o:Nat) (V:World) (cs:Array Value),V.heap[b]? = some (.cells cs 56 (0,0))->Below w0.heap.size w0 V->V.ownsRow (b+2) 9 1 r.u.pv ps.length (ps.map Value.string)->(V.setCells b o vs).heap[b]? = some (.cells (nE cs o vs) 56 (0,0))/\Below w0.heap.size w0 (V.setCells b o vs)/\(V.setCells b o vs).ownsRow (b+2) 9 1 r.u.pv ps.length (ps.map Value.string)/\(V.setCells b o vs).heap[b+1]? = V.heap[b+1]? := by
  intro vs
  induction vs with
  | nil=>intro o V cs h1 h2 h3;exact⟨h1,h2,h3,rfl⟩
  | cons v vs ih =>
   intro o V cs h1 h2 h3;obtain⟨q1,q2,q3,q4⟩:=ih (o+1) _ _ (heap_setCell_same V b o cs _ v h1) (h2.setCell (p:=⟨b,o,none⟩) h.hb v) (ownsRow_setCell_below h3 (a:=⟨b,o,none⟩) (by show b<b+2;omega) v);exact⟨q1,q2,q3,q4.trans (heap_setCell_other V ⟨b,o,none⟩ (b+1) v (by show b+1≠b;omega))⟩
 obtain⟨k1,k2,k3,k4⟩:=key vs o W _ h.row h.lo h.ow;exact⟨by rw[k1,he],k2,h.hb,h.ks.imp (fun T k=>k4.trans k),by rw[hp];exact k3⟩
theorem St.there{w0 W:World}{b:Nat}{r:Rd}{ps:List ByteArray}(h:St w0 b W r ps)(o n:Nat)(hn:o+n<=28):W.there b o n:=fun j hj=>by refine⟨?_,frozen_of_row _ _ _ _ _ h.row⟩;rw[cell_of_row _ _ _ _ _ _ h.row,Array.getElem?_eq_getElem (by show o+j<28;omega)];rfl
theorem bu:(prog.info? 26).map (·.size)=some 11:=by kernel_rfl
def ag(K:Nat)(n:ByteArray)(f a0 a1 a2 a3 a4 a5 a6 a7:Nat):Array Value:=#[.int .u8 (K:Nat),.string n,.int .u32 (f:Nat),.int .u16 (a0:Nat),.int .u16 (a1:Nat),.int .u16 (a2:Nat),.int .u16 (a3:Nat),.int .u16 (a4:Nat),.int .u16 (a5:Nat),.int .u16 (a6:Nat),.int .u16 (a7:Nat)]
theorem GI(K:Nat)(n:ByteArray)(f a0 a1 a2 a3 a4 a5 a6 a7:Nat):(ag K n f a0 a1 a2 a3 a4 a5 a6 a7).all (·.oneCell')=true:=by simp[ag,Value.oneCell']
theorem BT(K:Nat)(n:ByteArray)(f a0 a1 a2 a3 a4 a5 a6 a7:Nat):(ag K n f a0 a1 a2 a3 a4 a5 a6 a7).size=11:=rfl
theorem Qa{h:H.Hst}(x:H.CJ h):h.2.2.2.1.length=8:=x.a
theorem eight{a:List Nat}(h:a.length=8):∃ a0 a1 a2 a3 a4 a5 a6 a7,a=[a0,a1,a2,a3,a4,a5,a6,a7]:=by
 match a,h with
 | [a0,a1,a2,a3,a4,a5,a6,a7],_=>exact⟨a0,a1,a2,a3,a4,a5,a6,a7,rfl⟩
theorem AT(r:Rd)(K:Nat)(n:ByteArray)(f a0 a1 a2 a3 a4 a5 a6 a7:Nat):nE (Rd.cs r) 4 (ag K n f a0 a1 a2 a3 a4 a5 a6 a7).toList=Rd.cs { r with u:={ r.u with k:=K,nm:=n,f:=f,x0:=a0,x1:=a1,x2:=a2,x3:=a3,x4:=a4,x5:=a5,x6:=a6,x7:=a7 } }:=by simp only[nE,ag,Rd.cs,List.setIfInBounds_toArray,List.set_cons_succ,List.set_cons_zero]
theorem vg(s:ByteArray)(hs:s.size<=100000)(w0 W:World)(b:Nat)(r:Rd)(ps:List ByteArray)(hS:St w0 b W r ps)(hG:H.GH w0):Calls prog 94 #[.pointer (some ⟨b,0,none⟩),.string s] W fun e W' =>
  ((hcut false (bn s)).1=[]/\(hcut false (bn s)).2.isSome=true/\e=.returned (.int .i64 70)/\Below w0.heap.size w0 W') \/
  (¬ ((hcut false (bn s)).1=[]/\(hcut false (bn s)).2.isSome=true)/\∃(h:H.Hst) (n po:ByteArray) (a0 a1 a2 a3 a4 a5 a6 a7:Nat),H.HP H.IA (hcut false (bn s)).1 r.sp h/\e=.returned (.int .i64 h.2.2.2.2)/\bn n=h.2.1/\h.2.2.2.1=[a0,a1,a2,a3,a4,a5,a6,a7]/\bn po=(hcut false (bn s)).2.getD []/\St w0 b W' { r with po:=po,u:={ r.u with k:=h.1,nm:=n,f:=h.2.2.1,x0:=a0,x1:=a1,x2:=a2,x3:=a3,x4:=a4,x5:=a5,x6:=a6,x7:=a7 } } ps):=by
 obtain⟨a,d,y,ha,hd,HDV⟩:=vP s (by omega)
 have hasz:a.size<=100000:=by
  rw[<-aa,ha];rcases mC (bn s) false with⟨_,h2⟩ | ⟨i,_,_,h3⟩
  ·rw[h2,aa];exact hs
  ·rw[h3,List.length_take,aa];omega
 have HDD:=hid HDV;have HS:=hid hS;have HG:=hid hG
 have HPO:Hid (bn d=(hcut false (bn s)).2.getD []):=by
  rcases hd with⟨_,h1,h2⟩ | ⟨_,h1⟩
  ·rw[h1,h2];rfl
  ·rw[h1];rfl
 have HY:Hid (y=(hcut false (bn s)).2.isSome):=by
  rcases hd with⟨h0,h1,h2⟩ | ⟨h0,h1⟩
  ·rw[h0,h1];rfl
  ·rw[h0,h1];rfl
 have HA:=hid ha;have HC:=hid (fun W hg=>H.xR a r.sp hasz W hg);obtain⟨F25,_⟩:=hS.cell 25 (.bool r.sp) rfl;clear hS hG hd ha HDV;go_enter func94,ntmps94;go_wp2_with fail;refine(ug _ _).mono ?_;rintro e w1 ⟨⟨k,rfl,hk⟩,B1⟩;have S1:=HS.out.below B1;have HDC:=hid (HDD.out w1 k hk);clear HS HDD hk B1 F25;go_wp2_with fail;refine HDC.out.mono ?_;rintro e w2 ⟨rfl,B2⟩;have S2:=S1.below B2;have HS2:=hid S2;obtain⟨G25,_⟩:=S2.cell 25 (.bool r.sp) rfl;clear S1 B2 HDC S2;by_cases hbad:y=true/\a.size=0
 ·obtain⟨rfl,ha0⟩:=hbad;have he:=az a ha0;have HE:Hid ((hcut false (bn s)).1=[]/\(hcut false (bn s)).2.isSome=true):=⟨by rw[<-HA.out];exact List.length_eq_zero_iff.1 ((aa a).trans ha0),HY.out.symm⟩;clear ha0 HY HA HC HPO;go_wp2;go_ret;exact .inl ⟨HE.out.1,HE.out.2,rfl,HS2.out.lo⟩
 ·have HNB:Hid (¬ ((hcut false (bn s)).1=[]/\(hcut false (bn s)).2.isSome=true)):=fun hh=>hbad ⟨by rw[HY.out];exact hh.2,by rw[<-aa,HA.out,hh.1];rfl⟩
  have hcond:y=false\/(y=true/\a.toList.isEmpty=false):=by
   cases y
   ·exact .inl rfl
   ·exact .inr ⟨rfl,aq a (Nat.pos_of_ne_zero (fun h=>hbad ⟨rfl,h⟩))⟩
  have HCC:=hid (HC.out w2 (HG.out.below HS2.out.lo));clear HY hbad HC;rcases hcond with rfl | ⟨rfl,he⟩
  all_goals (
    go_wp2_with fail
    refine HCC.out.mono ?_
    rintro e w3 ⟨⟨h,n,hh,hn,rfl⟩,B3⟩
    have hf:=hh.fine
    obtain⟨K,nl,f,al,er⟩:=h
    obtain⟨a0,a1,a2,a3,a4,a5,a6,a7,rfl⟩:∃ a0 a1 a2 a3 a4 a5 a6 a7,al=[a0,a1,a2,a3,a4,a5,a6,a7]:=eight (Qa hf)
    have HH:=hid hh
    have HN:=hid hn
    have HV:Hid (H.hvl K n f [a0,a1,a2,a3,a4,a5,a6,a7]=.agg (ag K n f a0 a1 a2 a3 a4 a5 a6 a7)):=rfl
    have S3:=HS2.out.below B3
    obtain⟨V0,hV0⟩:=Ex' (w3.alloc (.cells #[.int .u8 0,.string ⟨#[]⟩,.int .u32 0,.int .u16 0,.int .u16 0,.int .u16 0,.int .u16 0,.int .u16 0,.int .u16 0,.int .u16 0,.int .u16 0] 26))
    have A0:V0.heap[w3.heap.size]? = some (.cells #[.int .u8 0,.string ⟨#[]⟩,.int .u32 0,.int .u16 0,.int .u16 0,.int .u16 0,.int .u16 0,.int .u16 0,.int .u16 0,.int .u16 0,.int .u16 0] 26 (0,0)):=by rw[<-hV0];exact aA w3 _ _
    have B4:Below w3.heap.size w3 V0:=by rw[<-hV0];exact(Below.refl _ w3).alloc (le_refl _) _
    have A1:=setRow_heap V0 w3.heap.size _ (ag K n f a0 a1 a2 a3 a4 a5 a6 a7) 26 _ A0
    have B5:=cS B4 (g:=w3.heap.size) (le_refl _) (ag K n f a0 a1 a2 a3 a4 a5 a6 a7)
    have S4:=S3.below B5
    have T4:=S4.there 4 11 (by decide)
    have S5:=S4.puts (r':={ r with u:={ r.u with k:=K,nm:=n,f:=f,x0:=a0,x1:=a1,x2:=a2,x3:=a3,x4:=a4,x5:=a5,x6:=a6,x7:=a7 } }) (ag K n f a0 a1 a2 a3 a4 a5 a6 a7).toList 4 (AT r K n f a0 a1 a2 a3 a4 a5 a6 a7) rfl
    obtain⟨V5,hV5⟩:=Ex' ((V0.setRow w3.heap.size (ag K n f a0 a1 a2 a3 a4 a5 a6 a7)).setCells b 4 (ag K n f a0 a1 a2 a3 a4 a5 a6 a7).toList)
    rw[hV5]at S5
    obtain⟨F27,Z27⟩:=S5.cell 27 (.string r.po) rfl
    have HS6:=hid (S5.put 27 (.string d) { r with po:=d,u:={ r.u with k:=K,nm:=n,f:=f,x0:=a0,x1:=a1,x2:=a2,x3:=a3,x4:=a4,x5:=a5,x6:=a6,x7:=a7 } } rfl rfl)
    have HA0:=hid A0
    have HA1:=hid A1
    have HT4:=hid T4
    have HON:=hid (GI K n f a0 a1 a2 a3 a4 a5 a6 a7)
    have HSI:=hid (BT K n f a0 a1 a2 a3 a4 a5 a6 a7)
    rw[HV.out]
    obtain⟨cs,hcs⟩:=Ex' (ag K n f a0 a1 a2 a3 a4 a5 a6 a7)
    rw[hcs]at hV5 HA1 HON HSI ⊢
    have HI2:Hid ((prog.info? 26).map (·.size)=some cs.size):=by show _=_;rw[HSI.out];exact bu
    have HT5:Hid ((V0.setRow w3.heap.size cs).there b 4 cs.size):=by show World.there _ _ _ _;rw[HSI.out,<-hcs];exact HT4.out
    clear HT4 hcs A0 A1 T4 S3 S4 S5 B3 B4 B5 hf hh hn HV G25 HS2 HCC HG hasz
    go_wp2_with(first
      | (refine wpList_store_row rfl 26 (.tmp 8) (.tmp 29) rfl w3.heap.size cs rfl rfl 26 #[.int .u8 0,.string ⟨#[]⟩,.int .u32 0,.int .u16 0,.int .u16 0,.int .u16 0,.int .u16 0,.int .u16 0,.int .u16 0,.int .u16 0,.int .u16 0] HA0.out HI2.out (by show 11=_;rw[HSI.out]) HON.out ?_)
      | (refine wpList_load_row rfl 26 (.tmp 8) rfl w3.heap.size rfl 26 cs (0,0) _ HA1.out underlying26 rfl HI2.out ?_)
      | (refine wpList_store_mid rfl 26 (.tmp 37) (.tmp 33) rfl b 4 cs rfl rfl HT5.out HI2.out HON.out ?_))
    go_ret
    exact .inr ⟨HNB.out,(K,nl,f,[a0,a1,a2,a3,a4,a5,a6,a7],er),n,d,a0,a1,a2,a3,a4,a5,a6,a7,by rw[<-HA.out];exact HH.out,rfl,HN.out,rfl,HPO.out,HS6.out⟩)
open F (hx vl bn ten)
open X (nn so)
theorem RL:∀(l:List UInt8) (acc:Nat),acc<=65535->((nn l).all ten=true/\(nn l).foldl (fun n c=>n * 10+(hx c).toNat) acc<=65535/\Lib.parseUintM 65535 acc l=.ok ((nn l).foldl (fun n c=>n * 10+(hx c).toNat) acc))\/(¬ ((nn l).all ten=true/\(nn l).foldl (fun n c=>n * 10+(hx c).toNat) acc<=65535)/\∀ u,Lib.parseUintM 65535 acc l≠.ok u)
 | [],acc,h=>.inl ⟨rfl,h,rfl⟩
 | c::l,acc,h=>by
  have e0:nn (c::l)=(c.toNat:Int)::nn l:=rfl;rw[e0,List.all_cons,List.foldl_cons];by_cases hd:48<=c.toNat/\c.toNat<=57
  ·have hx1:(hx (c.toNat:Int)).toNat=c.toNat - 48:=by rw[so (by omega)];omega
   have ht:ten (c.toNat:Int)=true:=by unfold ten;exact decide_eq_true (by omega)
   rw[hx1,ht,Bool.true_and];have hcut:¬ 1844674407370955162<=acc:=by omega
   by_cases hov:65535<acc * 10+(c.toNat - 48)
   ·right;have hp:Lib.parseUintM 65535 acc (c::l)=.range:=by rw[Lib.parseUintM,if_pos hd,if_neg hcut,if_pos hov]
    refine⟨fun hh=>?_,fun u e=>by rw[hp]at e;cases e⟩
    have mono:∀(m:List Int) (x:Nat),65535<x->65535<m.foldl (fun n c=>n * 10+(hx c).toNat) x:=by
     intro m
     induction m with
     | nil=>intro x h;exact h
     | cons d m ih=>intro x h;rw[List.foldl_cons];exact ih _ (by omega)
    have:=mono (nn l) _ hov;omega
   ·have hp:Lib.parseUintM 65535 acc (c::l)=Lib.parseUintM 65535 (acc * 10+(c.toNat - 48)) l:=by rw[Lib.parseUintM,if_pos hd,if_neg hcut,if_neg hov]
    rw[hp];exact RL l _ (by omega)
  ·right;have ht:ten (c.toNat:Int)=false:=by unfold ten;exact decide_eq_false (by omega)
   rw[ht];exact⟨by simp,fun u e=>by rw[Lib.parseUintM,if_neg hd]at e;cases e⟩
theorem Ku(t:ByteArray)(hs:t.size<=1000000000)(v:Nat)(h:Lib.parseUintB 16 t.data.toList=.ok v)(w:World):Calls prog 96 #[.string t,.int .i64 10,.int .i64 16] w fun e W'=>e=.returned (.tuple #[.int .u64 v,.nilIface])/\Below w.heap.size w W':=by
 have hq:=Any.strconv_ParseUint_10_at16_ok Tryz.laysPu t (by omega) v h w;refine Calls.mono (show Calls prog 96 #[.string t,.int .i64 10,.int .i64 16] w _ from hq) ?_;rintro e W' ⟨rfl,hW⟩;refine⟨rfl,?_⟩;rcases hW with rfl | rfl
 ·exact Below.refl _ _
 ·exact⟨rfl,rfl,rfl,by rw[Lib.bytesWorld_size];omega,fun k hk=>Lib.bytesWorld_at_old w _ t k hk⟩
theorem rR(t:ByteArray)(hs:t.size<=1000000000)(h:∀ u,Lib.parseUintB 16 t.data.toList≠.ok u)(w:World)(hE:X.Er w):Calls prog 96 #[.string t,.int .i64 10,.int .i64 16] w fun e W'=>(∃(x:Nat) (T:TypeId) (p:Value),x<=65535/\e=.returned (.tuple #[.int .u64 x,.iface T p]))/\Below w.heap.size w W':=by
 obtain⟨⟨ev,h1,h2⟩,⟨ev',h3,h4⟩⟩:=hE;cases hx:Lib.parseUintB 16 t.data.toList
 ·exact absurd hx (h _)
 ·have hI:Calls prog 139 #[.string t,.int .i64 10,.int .i64 16] w fun e w'=>e=.returned (.tuple #[.int .u64 0,.iface 192 (.int .i64 2)])/\Below w.heap.size w w':=by
   have hq:=AnyPu.internal_strconv_ParseUint_10_at16 { Tryz.laysPu with } t (by omega) w;rw[hx]at hq;refine Calls.mono (show Calls prog 139 #[.string t,.int .i64 10,.int .i64 16] w _ from hq) ?_;rintro e W' ⟨rfl,hW⟩;refine⟨rfl,?_⟩;rcases hW with rfl | rfl
   ·exact Below.refl _ _
   ·exact⟨rfl,rfl,rfl,by rw[Lib.bytesWorld_size];omega,fun k hk=>Lib.bytesWorld_at_old w _ t k hk⟩
  have HER:Hid (X.Er w):=⟨⟨ev,h1,h2⟩,⟨ev',h3,h4⟩⟩;clear hx h h1 h2 h3 h4;go_enter func96,ntmps96;go_wp2_with fail;refine hI.mono ?_;rintro e w1 ⟨rfl,hb⟩;go_wp2_with fail;refine(X.kZ t hs 10 16 w1 (HER.out.below hb)).mono ?_;rintro e w2 ⟨⟨T,p,rfl⟩,hb2⟩;have hb3:Below w.heap.size w w2:=hb.trans (hb2.mono hb.size);go_wp2;go_ret2;exact⟨⟨0,T,p,by omega,rfl⟩,hb3⟩
 ·have hq:=Any.strconv_ParseUint_10_at16_range Tryz.laysPu t (by omega) hx ev' w h3 h4;refine Calls.mono (show Calls prog 96 #[.string t,.int .i64 10,.int .i64 16] w _ from hq) ?_;rintro e W' ⟨N,rfl,_,_,hb⟩;exact⟨⟨65535,_,_,by omega,rfl⟩,hb⟩
theorem xh(t:ByteArray)(hne:bn t≠[]):((bn t).all ten=true/\vl 10 (bn t)<=65535/\Lib.parseUintB 16 t.data.toList=.ok (vl 10 (bn t)))\/(¬ ((bn t).all ten=true/\vl 10 (bn t)<=65535)/\∀ u,Lib.parseUintB 16 t.data.toList≠.ok u):=by
 have he:¬ t.data.toList=[]:=fun h=>hne (by unfold bn;rw[h];rfl);have hB:Lib.parseUintB 16 t.data.toList=Lib.parseUintM 65535 0 t.data.toList:=by unfold Lib.parseUintB;rw[if_neg he]
 rw[hB];exact RL t.data.toList 0 (by omega)
theorem dgs:∀ k:Fin 10,((UInt8.ofNat (48+k.val)).toNat:Int)=F.dg k.val:=by decide
theorem qQ:∀(f n:Nat),n<10 ^ (f+1)->(Lib.decDigits n).map (fun b:UInt8=>(b.toNat:Int))=F.wrF 10 f n
 | 0,n,h=>by
  have hn:n<10:=by simpa using h
  rw[Lib.decDigits,dif_pos hn,F.wrF,Nat.mod_eq_of_lt hn];exact congrArg (fun x=>[x]) (dgs ⟨n,hn⟩)
 | f+1,n,h=>by
  rw[Lib.decDigits,F.wrF];by_cases hn:n<10
  ·rw[dif_pos hn,if_pos hn];exact congrArg (fun x=>[x]) (dgs ⟨n,hn⟩)
  ·rw[dif_neg hn,if_neg hn,map_append,qQ f (n / 10) (by rw[Nat.pow_succ]at h;omega)];exact congrArg (fun x=>F.wrF 10 f (n / 10)++[x]) (dgs ⟨n % 10,mod_lt _ (by decide)⟩)
theorem jY:∀ f n:Nat,(F.wrF 10 f n).length<=f+1
 | 0,n=>le_refl _
 | f+1,n=>by
  rw[F.wrF];split
  ·show 1<=_;omega
  ·rw[length_append];have:=jY f (n / 10);show _+1<=_;omega
theorem jX(n:Nat)(h:n<65536):(F.wr 10 n).length<=1000:=le_trans (jY 64 n) (by decide)
theorem Gv(n:Nat)(hn:n<65536)(w:World)(hp:F.Pow w):Calls prog 35 #[.int .i64 n] w fun e W'=>(∃ t,e=.returned (.string t)/\bn t=F.wr 10 n)/\Below w.heap.size w W':=by
 have h:=Any.strconv_Itoa Tryz.laysItoa n (by omega) (by omega) w (by
   unfold Lib.TabIs World.var?
   rw[show prog.globalNamed _=some 2 from by kernel_rfl]
   exact hp)
 have hf:Tryz.laysItoa_ren.f 171=35:=by kernel_rfl
 rw[hf]at h;refine h.mono ?_;rintro e W' ⟨rfl,k,os,rfl⟩;refine⟨⟨_,rfl,?_⟩,F.xU _ _ _⟩;have e:Lib.itoa n=Lib.decDigits n:=by unfold Lib.itoa;rw[if_neg (by omega)];simp
 show(Lib.itoa n).map (fun b:UInt8=>(b.toNat:Int))=_;rw[e];exact qQ 64 n (Nat.lt_of_lt_of_le hn (by decide))
open F (bn aa hid aq az ten vl)
def GU(w:World):Prop:=H.GH w/\Tbs w
theorem GU.below{w w':World}(h:GU w)(hb:Below w.heap.size w w'):GU w':=⟨h.1.below hb,h.2.below hb⟩
theorem PF(sp:Bool):(fun c=>!(Y.sl sp c||qm c))=nau sp:=rfl
theorem rq{f:Int->Bool}(l:List Int):(l.takeWhile f).length<=l.length:=(List.takeWhile_prefix _).length_le
theorem iN{f:Int->Bool}(l:List Int):(l.dropWhile f).length<=l.length:=(List.dropWhile_suffix _).length_le
theorem pR(w0 W:World)(b:Nat)(r:Rd)(ps:List ByteArray)(hS:St w0 b W r ps)(hs:r.re.size<=100000)(hsl:r.sl=ia r.sp)(hh:r.u.hh=true)(hG:GU w0):Calls prog 51 #[.pointer (some ⟨b,0,none⟩)] W fun e W' =>
  ∃ A:List Int,A=(bn r.re).takeWhile (nau r.sp) /\
  (((64∈A/\beh A=[]\/(hcut false (beh A)).1=[]/\(hcut false (beh A)).2.isSome=true)/\e=.returned (.int .i64 70)/\Below w0.heap.size w0 W') \/
  (¬ (64∈A/\beh A=[])/\¬ ((hcut false (beh A)).1=[]/\(hcut false (beh A)).2.isSome=true)/\∃(h:H.Hst) (n po us pa t:ByteArray) (a0 a1 a2 a3 a4 a5 a6 a7:Nat),H.HP H.IA (hcut false (beh A)).1 r.sp h/\e=.returned (.int .i64 h.2.2.2.2)/\bn n=h.2.1/\h.2.2.2.1=[a0,a1,a2,a3,a4,a5,a6,a7]/\bn po=(hcut false (beh A)).2.getD []/\bn t=(bn r.re).dropWhile (nau r.sp) /\
    (if 64∈A then bn us=E.en 5 (U.dec ((ahd A).takeWhile dq))/\bn pa=E.en 5 (U.dec (((ahd A).dropWhile dq).drop 1)) else us=r.u.us/\pa=r.u.pa) /\
    St w0 b W' { r with re:=t,po:=po,u:={ r.u with us:=us,pa:=pa,k:=h.1,nm:=n,f:=h.2.2.1,x0:=a0,x1:=a1,x2:=a2,x3:=a3,x4:=a4,x5:=a5,x6:=a6,x7:=a7 } } ps)):=by
 obtain⟨a,t,ha,ht,HTK⟩:=gB (fau r.sp) r.re (by omega);rw[PF]at ha ht;have hasz:a.size<=100000:=by rw[<-aa,ha];exact le_trans (rq _) (by rw[aa];exact hs)
 obtain⟨us,d,y,hy,HDV⟩:=Ie a (by omega);have HA:=hid ha;have HT:=hid ht;have HTT:=hid HTK;have HDD:=hid HDV;have HS:=hid hS;have HG:=hid hG;obtain⟨F3,_⟩:=hS.cell 3 (.bool true) (by show some (Value.bool r.u.hh)=_;rw[hh]);obtain⟨F26,_⟩:=hS.cell 26 (.string (ia r.sp)) (by show some (Value.string r.sl)=_;rw[hsl]);obtain⟨C,hC⟩:=Ex' (ia r.sp);have hCs:C.size<=10:=by rw[<-hC];cases r.sp <;> decide
 rw[hC]at F26 HTT;clear ha ht HTK HDV hS hG hsl hh hC;go_enter func51,ntmps51;go_wp2_with fail;refine(dH _ _).mono ?_;rintro e w1 ⟨⟨k,rfl,hk⟩,B1⟩;have S1:=HS.out.below B1;have HTC:=hid (HTT.out w0 w1 b r ps k rfl S1 hk);clear HS HTT hk B1 S1 F3 F26;go_wp2_with fail;refine HTC.out.mono ?_;rintro e w2 ⟨rfl,S2,_⟩;have HS2:=hid S2;clear S2 HTC;go_wp2_with fail;refine(Gl _ _).mono ?_;rintro e w3 ⟨⟨k3,rfl,hk3⟩,B3⟩;have S3:=HS2.out.below B3;have HDC:=hid (HDD.out w3 k3 hk3 (HG.out.2.below S3.lo));have HS3:=hid S3;clear HS2 HDD hk3 B3 S3;go_wp2_with fail;refine HDC.out.mono ?_;rintro e w4 ⟨rfl,B4⟩;have S4:=HS3.out.below B4;have HS4:=hid S4;have HY:=hid hy;clear HS3 HDC B4 S4 hy;cases y
 ·have HNM:Hid (64∉bn a):=by
   rcases HY.out with⟨_,h⟩ | ⟨h,_⟩
   ·exact h
   ·cases h
  have HHO:=hid (vg a hasz w0 w4 b { r with re:=t } ps HS4.out HG.out.1);clear HY;go_wp2_with fail;refine HHO.out.mono ?_;have HB:=hid (IK HNM.out);clear HHO;rintro e w5 (⟨h1,h2,rfl,h3⟩ | ⟨h1,h,n,po,a0,a1,a2,a3,a4,a5,a6,a7,g1,rfl,g2,g3,g4,g5⟩)
  ·have HE:Hid ((hcut false (beh (bn a))).1=[]/\(hcut false (beh (bn a))).2.isSome=true/\Below w0.heap.size w0 w5):=⟨by rw[HB.out];exact h1,by rw[HB.out];exact h2,h3⟩;clear h1 h2 h3;go_wp2;go_ret;exact⟨bn a,HA.out,.inl ⟨.inr ⟨HE.out.1,HE.out.2.1⟩,rfl,HE.out.2.2⟩⟩
  ·have HE1:=hid h1;have HG1:=hid g1;have HG2:=hid g2;have HG3:=hid g3;have HG4:=hid g4;have HG5:=hid g5;clear h1 g1 g2 g3 g4 g5;go_wp2;go_ret;exact⟨bn a,HA.out,.inr ⟨fun hh=>HNM.out hh.1,by rw[HB.out];exact HE1.out,h,n,po,r.u.us,r.u.pa,t,a0,a1,a2,a3,a4,a5,a6,a7,by rw[HB.out];exact HG1.out,rfl,HG2.out,HG3.out,by rw[HB.out];exact HG4.out,HT.out,by rw[if_neg HNM.out];exact⟨rfl,rfl⟩,HG5.out⟩⟩
 ·have HM:Hid (64∈bn a/\bn us=ahd (bn a)/\bn d=beh (bn a)):=by
   rcases HY.out with⟨h,_⟩ | ⟨_,h⟩
   ·cases h
   ·exact h
  clear HY;by_cases hd0:d.size=0
  ·have he:=az d hd0;have HE:Hid (beh (bn a)=[]):=by rw[<-HM.out.2.2];exact List.length_eq_zero_iff.1 ((aa d).trans hd0)
   clear hd0;go_wp2;go_ret;exact⟨bn a,HA.out,.inl ⟨.inl ⟨HM.out.1,HE.out⟩,rfl,HS4.out.lo⟩⟩
  ·have he:=aq d (Nat.pos_of_ne_zero hd0);have HE:Hid (beh (bn a)≠[]):=fun h=>hd0 (by rw[<-aa,HM.out.2.2,h];rfl);have hbl:(bn a).length<=100000:=by rw[aa];exact hasz
   have hdsz:d.size<=100000:=by rw[<-aa,HM.out.2.2];unfold beh;rw[length_reverse];exact le_trans (rq _) (by rw[length_reverse];exact hbl)
   have husz:us.size<=100000:=by rw[<-aa,HM.out.2.1];unfold ahd;rw[length_reverse,length_drop];have:=iN (f:=oe) (bn a).reverse;rw[length_reverse]at this;omega
   have HSU:=hid (tL us husz w0 w4 b { r with re:=t } ps HS4.out);have HHO:=hid (fun W r ps h=>vg d hdsz w0 W b r ps h HG.out.1);clear hd0 hbl hdsz husz HS4;go_wp2_with fail;refine HSU.out.mono ?_;rintro e w5 ⟨rfl,us2,pa2,u1,u2,S5⟩;have HU1:=hid u1;have HU2:=hid u2;have HHC:=hid (HHO.out w5 _ _ S5);clear u1 u2 S5 HSU HHO;go_wp2_with fail;refine HHC.out.mono ?_;clear HHC;rintro e w6 (⟨h1,h2,rfl,h3⟩ | ⟨h1,h,n,po,a0,a1,a2,a3,a4,a5,a6,a7,g1,rfl,g2,g3,g4,g5⟩)
   ·have HX:Hid ((hcut false (beh (bn a))).1=[]/\(hcut false (beh (bn a))).2.isSome=true/\Below w0.heap.size w0 w6):=⟨by rw[<-HM.out.2.2];exact h1,by rw[<-HM.out.2.2];exact h2,h3⟩;clear h1 h2 h3;go_wp2;go_ret;exact⟨bn a,HA.out,.inl ⟨.inr ⟨HX.out.1,HX.out.2.1⟩,rfl,HX.out.2.2⟩⟩
   ·have HE1:=hid h1;have HG1:=hid g1;have HG2:=hid g2;have HG3:=hid g3;have HG4:=hid g4;have HG5:=hid g5;clear h1 g1 g2 g3 g4 g5;go_wp2;go_ret;exact⟨bn a,HA.out,.inr ⟨fun hh=>HE.out hh.2,by rw[<-HM.out.2.2];exact HE1.out,h,n,po,us2,pa2,t,a0,a1,a2,a3,a4,a5,a6,a7,by rw[<-HM.out.2.2];exact HG1.out,rfl,HG2.out,HG3.out,by rw[<-HM.out.2.2];exact HG4.out,HT.out,by rw[if_pos HM.out.1];exact⟨by rw[HU1.out,HM.out.2.1],by rw[HU2.out,HM.out.2.1]⟩,HG5.out⟩⟩
theorem xw(w0 W:World)(b:Nat)(r:Rd)(ps:List ByteArray)(hS:St w0 b W r ps)(hh:r.u.hh=false):Calls prog 51 #[.pointer (some ⟨b,0,none⟩)] W fun e W'=>e=.returned (.int .i64 0)/\St w0 b W' r ps:=by have HS:=hid hS;obtain⟨F3,_⟩:=hS.cell 3 (.bool false) (by show some (Value.bool r.u.hh)=_;rw[hh]);clear hS hh;go_enter func51,ntmps51;go_wp2;go_ret;exact⟨rfl,HS.out⟩
def Tc(w0:World)(b:Nat)(r:Rd)(ps:List ByteArray)(e:Ending)(W':World):Prop :=
  (e=.returned (.int .i64 0)/\∃(h:Bool) (n:Nat),St w0 b W' { r with u:={ r.u with hp:=h,pr:=n } } ps/\(if bn r.po=[] then (h,n)=(false,0) else (bn r.po).all ten=true/\vl 10 (bn r.po)<=65535/\(h,n)=if own (bn r.u.sc)=some (vl 10 (bn r.po)) then (false,0) else (true,vl 10 (bn r.po)))) \/
  (e=.returned (.int .i64 131)/\bn r.po≠[]/\¬ ((bn r.po).all ten=true/\vl 10 (bn r.po)<=65535)/\Below w0.heap.size w0 W')
theorem AO(w0 W:World)(b:Nat)(r:Rd)(ps:List ByteArray)(hS:St w0 b W r ps)(hs:r.po.size<=100000)(hsp:r.sp=(own (bn r.u.sc)).isSome)(hp:r.u.hp=false)(hq:r.u.pr=0)(hG:GU w0):Calls prog 52 #[.pointer (some ⟨b,0,none⟩)] W fun e W'=>Tc w0 b r ps e W':=by
 obtain⟨F27,_⟩:=hS.cell 27 (.string r.po) rfl;have HS:=hid hS;have HSL:=hid hS.lo;by_cases h0:r.po.size=0
 ·have he:=az r.po h0;have HE:Hid (bn r.po=[]):=List.length_eq_zero_iff.1 ((aa r.po).trans h0);have hr:({ r with u:={ r.u with hp:=false,pr:=0 } }:Rd)=r:=by rw[<-hp,<-hq]
  have HR:=hid hr;clear h0 hS hp hq hsp hr;go_enter func52,ntmps52;go_wp2;go_ret;exact .inl ⟨rfl,false,0,by rw[HR.out];exact HS.out,by rw[if_pos HE.out]⟩
 ·have he:=aq r.po (Nat.pos_of_ne_zero h0);have hne:bn r.po≠[]:=fun h=>h0 (by rw[<-aa,h];rfl);have HNE:=hid hne;rcases xh r.po hne with⟨c1,c2,c3⟩ | ⟨c1,c2⟩
  ·have HPU:=hid (fun W=>Ku r.po (by omega) _ c3 W);obtain⟨v,hv⟩:=Ex' (vl 10 (bn r.po));rw[hv]at HPU c2;have HC:=hid (show(bn r.po).all ten=true/\v<=65535 from⟨c1,c2⟩);have HVV:=hid hv;have HPO:=hid (fun W=>nP r.u.sc W);have HSP:=hid hsp;have HHP:=hid hp;have HHQ:=hid hq;clear c1 c3 hv h0 hne hS hsp hp hq;go_enter func52,ntmps52;go_wp2_with fail;refine(HPU.out _).mono ?_;rintro e w1 ⟨rfl,B1⟩;have S1:=HS.out.below B1;obtain⟨F0,_⟩:=S1.cell 0 (.string r.u.sc) rfl;obtain⟨F25,_⟩:=S1.cell 25 (.bool r.sp) rfl;obtain⟨F15,Z15⟩:=S1.cell 15 (.bool r.u.hp) rfl;obtain⟨V1,hV1⟩:=Ex' (w1.setCell ⟨b,15,none⟩ (.bool true));have S2:=S1.put 15 (.bool true) { r with u:={ r.u with hp:=true } } rfl rfl;rw[hV1]at S2;obtain⟨F16,Z16⟩:=S2.cell 16 (.int .u16 (r.u.pr:Nat)) rfl;have HEND:=hid (S2.put 16 (.int .u16 (v:Nat)) { r with u:={ r.u with hp:=true,pr:=v } } rfl rfl);have HS1:=hid S1;have hw16:IntKind.u16.wrap (v:Int)=(v:Int):=by rw[IntKind.wrap_u16];omega
   clear B1 S1 S2 HS HPU F27;by_cases hown:own (bn r.u.sc)=some v
   ·have hsp2:r.sp=true:=by rw[HSP.out,hown];rfl
    rw[hsp2]at F25;rw[hown]at HPO;have HO:=hid hown;have hr:({ r with u:={ r.u with hp:=false,pr:=0 } }:Rd)=r:=by rw[<-HHP.out,<-HHQ.out]
    have HR:=hid hr;clear hsp2 hown hr hV1 F16 Z16 F15 Z15 HEND HSP;go_wp2_with(go_at_call 13;refine(HPO.out _).mono ?_;rintro e w3 ⟨rfl,hw⟩;obtain rfl:=hw.symm);go_ret;exact .inl ⟨rfl,false,0,by rw[HR.out];exact HS1.out,by rw[if_neg HNE.out,HVV.out,if_pos HO.out];exact⟨HC.out.1,HC.out.2,rfl⟩⟩
   ·obtain⟨p,hp⟩:=Ex' ((own (bn r.u.sc)).getD 0:Nat);obtain⟨o,ho⟩:=Ex' ((own (bn r.u.sc)).isSome);have HO:=hid hown
    have hcond:r.sp=false\/r.sp=true/\((v:Int)==(p:Int))=false:=by
     rw[HSP.out,ho];cases o
     ·exact .inl rfl
     ·refine .inr ⟨rfl,beq_eq_false_iff_ne.2 (fun e=>hown ?_)⟩;obtain⟨q,hq⟩:=Option.isSome_iff_exists.1 ho;rw[hq]at hp;have:q=p:=hp;rw[hq,this];exact congrArg some (by omega)
    rw[hp,ho]at HPO;clear hown hp ho HSP;rcases hcond with hsp2 | ⟨hsp2,hne2⟩
    all_goals (
      rw[hsp2]at F25
      clear hsp2
      go_wp2_with(go_at_call 13;refine(HPO.out _).mono ?_;rintro e w3 ⟨rfl,hw⟩;obtain rfl:=hw.symm)
      go_ret
      exact .inl ⟨rfl,true,v,HEND.out,by rw[if_neg HNE.out,HVV.out,if_neg HO.out];exact⟨HC.out.1,HC.out.2,rfl⟩⟩)
  ·have HPU:=hid (fun W h=>rR r.po (by omega) c2 W h);have HC:=hid c1;have HER:=hid (fun(W:World) (h:Below w0.heap.size w0 W)=>(hG.1.below h).2.2.2.1);clear c1 c2 h0 hne hsp hp hq hS hG;go_enter func52,ntmps52;go_wp2_with fail;refine(HPU.out _ (HER.out _ HSL.out)).mono ?_;rintro e w1 ⟨⟨x,T,p,_,rfl⟩,B1⟩;have HB:=Bt' HSL B1;clear B1;go_wp2;go_ret;exact .inr ⟨rfl,HNE.out,HC.out,HB.out⟩
open F (bn aa hid)
def stp(acc:List (List Int))(x:List Int)(last:Bool):List (List Int) :=
 if dot x=[46,46] then (if last=true then acc.dropLast++[[]] else acc.dropLast) else if dot x=[46] then (if last=true then acc++[[]] else acc) else acc++[E.en 4 (U.dec x)]
theorem zz(acc:List (List Int))(x:List Int)(t:List (List Int)):nrm acc (x::t)=nrm (stp acc x (decide (t=[]))) t:=by
 show(if dot x=[46] then _ else if dot x=[46,46] then _ else _)=_;unfold stp;by_cases h1:dot x=[46]
 ·have h2:dot x≠[46,46]:=by rw[h1];decide
  rw[if_pos h1,if_neg h2,if_pos h1];by_cases ht:t=[]
  ·rw[if_pos ht,decide_eq_true ht,if_pos rfl]
  ·rw[if_neg ht,decide_eq_false ht,if_neg (by simp)]
 ·rw[if_neg h1];by_cases h2:dot x=[46,46]
  ·rw[if_pos h2,if_pos h2];by_cases ht:t=[]
   ·rw[if_pos ht,decide_eq_true ht,if_pos rfl]
   ·rw[if_neg ht,decide_eq_false ht,if_neg (by simp)]
  ·rw[if_neg h2,if_neg h2,if_neg h1]
def SA(w0:World)(b:Nat)(r:Rd)(ps:List ByteArray)(x:List Int)(last:Bool)(e:Ending)(W':World):Prop :=
 e=.returned (.tuple #[])/\∃(v:Value) (qs:List ByteArray),qs.map bn=stp (ps.map bn) x last/\St w0 b W' { r with u:={ r.u with pv:=v } } qs
def Kb(b:Nat)(W V:World):Prop:=V.heap[b]? = W.heap[b]? /\ V.heap[b+1]? = W.heap[b+1]?
theorem Kb.trans{b:Nat}{A B C:World}(h:Kb b B C)(k:Kb b A B):Kb b A C:=⟨h.1.trans k.1,h.2.trans k.2⟩
theorem Kb.of{w0 W V:World}{b:Nat}{r:Rd}{ps:List ByteArray}(h:St w0 b W r ps)(hb:Below W.heap.size W V):Kb b W V:=⟨hb.block b h.lt,hb.block (b+1) (h.ks.elim fun _ k=>(Array.getElem?_eq_some_iff.1 k).1)⟩
theorem St.path{w0 W V:World}{b:Nat}{r:Rd}{ps:List ByteArray}(h:St w0 b W r ps){v:Value}{qs:List ByteArray}(hk:Kb b W V)(hlo:Below w0.heap.size w0 V)(how:V.ownsRow (b+2) 9 1 v qs.length (qs.map Value.string)):St w0 b (V.setCell ⟨b,18,none⟩ v) { r with u:={ r.u with pv:=v } } qs:=by refine⟨(heap_setCell_same V b 18 _ _ v (hk.1.trans h.row)).trans rfl,hlo.setCell (p:=⟨b,18,none⟩) h.hb v,h.hb,h.ks.imp (fun T k=>(heap_setCell_other V ⟨b,18,none⟩ (b+1) v (by show b+1≠b;omega)).trans (hk.2.trans k)),ownsRow_setCell_below how (a:=⟨b,18,none⟩) (by show b<b+2;omega) v⟩
theorem Ld{W:World}{B:Nat}{ad:Option Addr}{n c:Nat}{ps:List ByteArray}(h:W.ownsRow B 9 1 (.slice ad n c) n (ps.map Value.string))(hn:n=ps.length):W.ownsRow B 9 1 (.slice ad (n - 1) c) (n - 1) (ps.dropLast.map Value.string):=by
 refine⟨by rw[length_map,List.length_dropLast];omega,?_⟩;rcases h.2 with⟨h1,h2⟩ | ⟨g,cap,cur,h1,h2,h3,h4,h5,h6,h7⟩
 ·injection h1 with e1 e2 e3
  subst e1 e2 e3;exact .inl ⟨rfl,rfl⟩
 ·injection h1 with e1 _ e3
  subst e1 e3;refine .inr ⟨g,c,cur,rfl,h2,h3,by omega,h5,h6,?_⟩;rw[Nat.mul_one]at h6 h7 ⊢;have hcl:cur.toList.length=c:=by rw[Array.length_toList,h6]
  rw[map_dropLast,<-h7,List.dropLast_eq_take,List.length_take,List.take_take,hcl];congr 1;omega
theorem St.grow{w0 V w':World}{b:Nat}{r:Rd}{ps qs:List ByteArray}{v:Value}{m:Nat}(h:St w0 b V r ps)(how:V.ownsRow (b+2) 9 1 v m (qs.map Value.string))(g:V.grownBy w' v.ownBlock):Kb b V w'/\Below w0.heap.size w0 w':=by
 have hv:∀ k,v.ownBlock=some k->b+2<=k:=fun k hk=>by
  rcases how.2 with⟨h1,_⟩ | ⟨g,cap,cur,h1,h2,_⟩
  ·rw[h1]at hk;cases hk
  ·rw[h1]at hk;have:g=k:=Option.some.inj hk;omega
 have hb:=h.hb;have hl:=h.lt;have hl1:b+1<V.heap.size:=h.ks.elim fun _ k=>(Array.getElem?_eq_some_iff.1 k).1;refine⟨⟨g.block b hl (fun e=>?_),g.block (b+1) hl1 (fun e=>?_)⟩,h.lo.grown g h.lo.size (fun k hk=>?_)⟩
 ·have:=hv b e.symm;omega
 ·have:=hv (b+1) e.symm;omega
 ·have:=hv k hk;omega
theorem ky{W:World}{B n:Nat}{v:Value}{xs:List Value}(h:W.ownsRow B 9 1 v n xs):∃ ad c,v=.slice ad n c:=by
 rcases h.2 with⟨h1,h2⟩ | ⟨g,cap,cur,h1,_⟩
 ·exact⟨none,0,by rw[h1,h2]⟩
 ·exact⟨_,cap,h1⟩
theorem nk(w:World)(x:ByteArray)(T:TypeId):Strs (w.alloc (.cells #[.string x] T)) (.slice (some ⟨w.heap.size,0,none⟩) 1 1) [x] :=
 .inr ⟨w.heap.size,0,1,rfl,le_refl _,fun i hi=>by
   have:i=0:=by simpa using hi
   subst this
   exact cell_of_row _ _ 0 _ _ _ (aA w _ _)⟩
theorem AY(s:ByteArray)(last:Bool)(hs:s.size<=100000)(w0 W:World)(b:Nat)(r:Rd)(ps:List ByteArray)(hS:St w0 b W r ps)(hl:ps.length<=100000)(hG:GU w0):Calls prog 97 #[.pointer (some ⟨b,0,none⟩),.string s,.bool last] W fun e W'=>SA w0 b r ps (bn s) last e W':=by
 have HS:=hid hS;have HG:=hid hG
 obtain⟨ad,cp,hpv⟩:∃ ad c,r.u.pv=.slice ad ps.length c:=by
  rcases hS.ow.2 with⟨h1,h2⟩ | ⟨g,cap,cur,h1,_⟩
  ·exact⟨none,0,by rw[h1,h2]⟩
  ·exact⟨_,cap,h1⟩
 obtain⟨F18,_⟩:=hS.cell 18 (.slice ad ps.length cp) (by show some r.u.pv=_;rw[hpv]);have HPV:=hid hpv;obtain⟨n,hn⟩:=Ex' ps.length;have HNN:=hid hn;rw[hn]at F18 hl HPV;have HR1:=hid (fun W h=>tR s 101 (by omega) W h);have HEN:=hid (fun W=>E.bP s 4 W (by omega) (by decide));clear hS hG hpv hn;go_enter func97,ntmps97;go_wp2_with fail;refine(HR1.out _ (HG.out.1.below HS.out.lo).2.1).mono ?_;rintro e w1 ⟨⟨t1,rfl,ht1⟩,B1⟩;have S1:=HS.out.below B1;have ht1s:t1.size<=100000:=by rw[<-aa,ht1];exact le_trans (xc _ _ _ (le_refl _)) (by rw[aa];exact hs)
 have HR2:=hid (tR t1 69 (by omega) w1 (HG.out.1.below S1.lo).2.1);have HT1:=hid ht1;have HS1:=hid S1;clear HR1 ht1 S1 B1 ht1s F18 HS;go_wp2_with fail;refine HR2.out.mono ?_;rintro e w2 ⟨⟨t2,rfl,ht2⟩,B2⟩;have S2:=HS1.out.below B2;have HD:Hid (bn t2=dot (bn s)):=by show bn t2=_;rw[ht2,HT1.out];exact xd _ _ (le_refl _)
 have q1:=iC t2 [46,46];have q2:=iC t2 [46];rw[HD.out]at q1 q2;replace q1:(t2.toList==[46,46])=decide (dot (bn s)=[46,46]):=q1;replace q2:(t2.toList==[46])=decide (dot (bn s)=[46]):=q2;have HS2:=hid S2;clear HR2 ht2 HT1 HS1 B2 S2
 have HOW:=hid (show w2.ownsRow (b+2) 9 1 (.slice ad n cp) n (ps.map Value.string) from by
   have:=HS2.out.ow
   rw[HPV.out,HNN.out]at this
   exact this)
 have HEND:Hid (∀(v:Value) (qs:List ByteArray) (V:World),Kb b w2 V->Below w0.heap.size w0 V->V.ownsRow (b+2) 9 1 v qs.length (qs.map Value.string)->qs.map bn=stp (ps.map bn) (bn s) last->SA w0 b r ps (bn s) last (.returned (.tuple #[])) (V.setCell ⟨b,18,none⟩ v)):=fun v qs V h1 h2 h3 h4 =>
  ⟨rfl,v,qs,h4,HS2.out.path h1 h2 h3⟩
 have HF18:Hid (∀ V:World,Kb b w2 V->V.cell? ⟨b,18,none⟩=some (.slice ad n cp)/\V.frozen? ⟨b,18,none⟩=false):=fun V h=>by have hr:=h.1.trans HS2.out.row;refine⟨(cell_of_row _ _ 18 _ _ _ hr).trans ?_,frozen_of_row _ _ 18 _ _ hr⟩;show some r.u.pv=_;rw[HPV.out]
 by_cases hd2:dot (bn s)=[46,46]
 ·rw[decide_eq_true hd2]at q1;have HST:Hid (stp (ps.map bn) (bn s) last=if last=true then (ps.map bn).dropLast++[[]] else (ps.map bn).dropLast):=by show _=_;unfold stp;rw[if_pos hd2]
  have HCUT:=hid (Ld HOW.out HNN.out.symm);clear q2 hd2 HEN;obtain⟨m,hm⟩:=Ex' (n - 1);have HML:Hid (ps.dropLast.length=m):=by show _=_;rw[List.length_dropLast,HNN.out,hm]
  rw[hm]at HCUT;have hmn:m<=n:=by omega
  have hmx:max ((n:Int) - 1) 0=(m:Int):=by omega
  have hncp:n<=cp:=by
   rcases HOW.out.2 with⟨h1,_⟩ | ⟨g,cap,cur,h1,_,_,h4,_⟩
   ·injection h1;omega
   ·injection h1 with _ _ e;omega
  have hmz:(m:Int)<=(cp:Int):=by omega
  have HLN:=hid HML.out;cases last
  ·have HQ:Hid (ps.dropLast.map bn=stp (ps.map bn) (bn s) false):=by show _=_;rw[HST.out,if_neg (by simp),map_dropLast]
   obtain⟨G18,Z18⟩:=HF18.out w2 ⟨rfl,rfl⟩;have HFIN:=hid (HEND.out (.slice ad m cp) ps.dropLast w2 ⟨rfl,rfl⟩ HS2.out.lo (by rw[HML.out];exact HCUT.out) HQ.out);clear HST HQ HEND HF18 hm;go_wp2
   go_end0
   exact HFIN.out
  ·have HQ:Hid ((ps.dropLast++[(⟨#[]⟩:ByteArray)]).map bn=stp (ps.map bn) (bn s) true):=by show _=_;rw[HST.out,if_pos rfl,map_append,map_dropLast];rfl
   clear HST hm;have HB1:Hid (Below w2.heap.size w2 (w2.alloc (.cells #[.string ⟨#[]⟩] 9))):=(Below.refl _ w2).alloc (le_refl _) _;have HOW2:=hid (U.an HCUT.out HB1.out (le_refl _));have HS3:=hid (HS2.out.below HB1.out);have HU:=hid (nk w2 ⟨#[]⟩ 9);have hbs:b+2<=(w2.alloc (.cells #[.string ⟨#[]⟩] 9)).heap.size:=HS3.out.ks.elim fun _ k=>(Array.getElem?_eq_some_iff.1 k).1;have HBB:Hid (Kb b w2 (w2.alloc (.cells #[.string ⟨#[]⟩] 9))):=Kb.of HS2.out HB1.out;go_wp2_with(at_builtin;refine cd rfl _ _ rfl (b+2) _ m ps.dropLast rfl HOW2.out _ [⟨#[]⟩] rfl HU.out ?_ hbs ?_)
   ·simp;omega
   ·intro v' w' hown hgrow;obtain⟨ad',c',rfl⟩:=ky hown;obtain⟨k1,k2⟩:=HS3.out.grow HOW2.out hgrow;have HFIN:=hid (HEND.out _ (ps.dropLast++[⟨#[]⟩]) w' (k1.trans HBB.out) k2 (by rw[length_append,HLN.out,map_append,map_dropLast];exact hown) HQ.out);obtain⟨G18,Z18⟩:=HF18.out w' (k1.trans HBB.out);clear hown hgrow k1 k2 HEND HF18 HU HS3 HOW2 hbs HQ;go_wp2
    go_end0
    exact HFIN.out
 ·rw[decide_eq_false hd2]at q1;by_cases hd1:dot (bn s)=[46]
  ·rw[decide_eq_true hd1]at q2;have HST:Hid (stp (ps.map bn) (bn s) last=if last=true then ps.map bn++[[]] else ps.map bn):=by show _=_;unfold stp;rw[if_neg hd2,if_pos hd1]
   clear hd1 hd2 HEN;cases last
   ·have HQ:Hid (ps.map bn=stp (ps.map bn) (bn s) false):=HST.out.symm;obtain⟨G18,Z18⟩:=HF18.out w2 ⟨rfl,rfl⟩;have HFIN:=hid (HEND.out (.slice ad n cp) ps w2 ⟨rfl,rfl⟩ HS2.out.lo (by rw[HNN.out];exact HOW.out) HQ.out);clear HST HQ HEND HF18;go_wp2
    go_end0
    exact HFIN.out
   ·have HQ:Hid ((ps++[(⟨#[]⟩:ByteArray)]).map bn=stp (ps.map bn) (bn s) true):=by show _=_;rw[HST.out,if_pos rfl,map_append];rfl
    have HB1:Hid (Below w2.heap.size w2 (w2.alloc (.cells #[.string ⟨#[]⟩] 9))):=(Below.refl _ w2).alloc (le_refl _) _;have HOW2:=hid (U.an HOW.out HB1.out (le_refl _));have HS3:=hid (HS2.out.below HB1.out);have HU:=hid (nk w2 ⟨#[]⟩ 9);have hbs:b+2<=(w2.alloc (.cells #[.string ⟨#[]⟩] 9)).heap.size:=HS3.out.ks.elim fun _ k=>(Array.getElem?_eq_some_iff.1 k).1;have hbb:Kb b w2 (w2.alloc (.cells #[.string ⟨#[]⟩] 9)):=Kb.of HS2.out HB1.out;have HBB:=hid hbb;clear HST hbb;go_wp2_with(at_builtin;refine cd rfl _ _ rfl (b+2) _ n ps rfl HOW2.out _ [⟨#[]⟩] rfl HU.out ?_ hbs ?_)
    ·simp;omega
    ·intro v' w' hown hgrow;obtain⟨ad',c',rfl⟩:=ky hown;obtain⟨k1,k2⟩:=HS3.out.grow HOW2.out hgrow;have HFIN:=hid (HEND.out _ (ps++[⟨#[]⟩]) w' (k1.trans HBB.out) k2 (by rw[length_append,HNN.out,map_append];exact hown) HQ.out);obtain⟨G18,Z18⟩:=HF18.out w' (k1.trans HBB.out);clear hown hgrow k1 k2 HEND HF18 HU HS3 HOW2 hbs HQ;go_wp2
     go_end0
     exact HFIN.out
  ·rw[decide_eq_false hd1]at q2;have HST:Hid (stp (ps.map bn) (bn s) last=ps.map bn++[E.en 4 (U.dec (bn s))]):=by show _=_;unfold stp;rw[if_neg hd2,if_neg hd1]
   have HLN:=hid HNN.out;clear hd1 hd2;go_wp2_with fail;refine(HEN.out _).mono ?_;rintro e w3 ⟨⟨x,rfl,hx⟩,B3⟩;have HSW:=hid (HS2.out.below B3);have HBW:Hid (Kb b w2 w3):=Kb.of HS2.out B3;have HOW3:=hid (U.an HOW.out B3 (le_refl _));have HQ:Hid ((ps++[x]).map bn=stp (ps.map bn) (bn s) last):=by show _=_;rw[HST.out,map_append];exact congrArg (fun z=>ps.map bn++[z]) hx
   clear hx B3 HEN HST HOW;have HB1:Hid (Below w3.heap.size w3 (w3.alloc (.cells #[.string x] 9))):=(Below.refl _ w3).alloc (le_refl _) _;have HOW2:=hid (U.an HOW3.out HB1.out (le_refl _));have HS3:=hid (HSW.out.below HB1.out);have HU:=hid (nk w3 x 9);have hbs:b+2<=(w3.alloc (.cells #[.string x] 9)).heap.size:=HS3.out.ks.elim fun _ k=>(Array.getElem?_eq_some_iff.1 k).1;have HBB:Hid (Kb b w2 (w3.alloc (.cells #[.string x] 9))):=(Kb.of HSW.out HB1.out).trans HBW.out;go_wp2_with(at_builtin;refine cd rfl _ _ rfl (b+2) _ n ps rfl HOW2.out _ [x] rfl HU.out ?_ hbs ?_)
   ·simp;omega
   ·intro v' w' hown hgrow;obtain⟨ad',c',rfl⟩:=ky hown;obtain⟨k1,k2⟩:=HS3.out.grow HOW2.out hgrow;have HFIN:=hid (HEND.out _ (ps++[x]) w' (k1.trans HBB.out) k2 (by rw[length_append,HLN.out,map_append];exact hown) HQ.out);obtain⟨G18,Z18⟩:=HF18.out w' (k1.trans HBB.out);clear hown hgrow k1 k2 HEND HF18 HU HS3 HOW2 hbs HQ;go_wp2
    go_end0
    exact HFIN.out
theorem Fz:(fun c=>!qm c)=npq:=rfl
theorem n35:(fun c=>!PX c)=eA:=funext fun c=>by unfold PX eA;by_cases h:c=35 <;> simp[h]
theorem twl{f:Int->Bool}(l:List Int):(l.takeWhile f).length<=l.length:=(List.takeWhile_prefix _).length_le
def Td(w0:World)(b:Nat)(r:Rd)(ps:List ByteArray)(e:Ending)(W':World):Prop :=
 e=.returned (.int .i64 0)/\(r.u.op=false/\St w0 b W' r ps\/r.u.op=true/\∃ bo t,bn bo=E.en 0 (U.dec ((bn r.re).takeWhile npq))/\bn t=(bn r.re).dropWhile npq/\St w0 b W' { r with re:=t,u:={ r.u with bo:=bo } } ps)
theorem xm(w0 W:World)(b:Nat)(r:Rd)(ps:List ByteArray)(hS:St w0 b W r ps)(hs:r.re.size<=100000):Calls prog 54 #[.pointer (some ⟨b,0,none⟩)] W fun e W'=>Td w0 b r ps e W':=by
 obtain⟨a,t,ha,ht,HTK⟩:=gB fqm r.re (by omega);rw[Fz]at ha ht;have hasz:a.size<=100000:=by rw[<-aa,ha];exact le_trans (twl _) (by rw[aa];exact hs)
 have HA:=hid ha;have HT:=hid ht;have HTT:=hid HTK;have HS:=hid hS;obtain⟨F17,_⟩:=hS.cell 17 (.bool r.u.op) rfl;have HEN:=hid (fun W=>E.bP a 0 W (by omega) (by decide));clear ha ht HTK hS;rcases(show r.u.op=false\/r.u.op=true by cases r.u.op <;> simp) with ho | ho
 ·rw[ho]at F17;have HO:=hid ho;clear ho HTT HEN;go_enter func54,ntmps54;go_wp2;go_ret;exact⟨rfl,.inl ⟨HO.out,HS.out⟩⟩
 ·rw[ho]at F17;have HO:=hid ho;clear ho;go_enter func54,ntmps54;go_wp2_with fail;refine(dH _ _).mono ?_;rintro e w1 ⟨⟨k,rfl,hk⟩,B1⟩;have HTC:=hid (HTT.out w0 w1 b r ps k rfl (HS.out.below B1) hk);clear HS HTT hk B1 F17;go_wp2_with fail;refine HTC.out.mono ?_;rintro e w2 ⟨rfl,S2,_⟩;have HS2:=hid S2;clear S2 HTC;go_wp2_with fail;refine(HEN.out _).mono ?_;rintro e w3 ⟨⟨bo,rfl,hbo⟩,B3⟩;have S3:=HS2.out.below B3;obtain⟨F19,Z19⟩:=S3.cell 19 (.string r.u.bo) rfl;have HEND:=hid (S3.put 19 (.string bo) { r with re:=t,u:={ r.u with bo:=bo } } rfl rfl);have HBO:=hid hbo;clear B3 S3 HS2 hbo;go_wp2;go_ret;exact⟨rfl,.inr ⟨HO.out,bo,t,(show bn bo=E.en 0 (U.dec (bn a)) from HBO.out).trans (by rw[HA.out]),HT.out,HEND.out⟩⟩
def Tb(w0:World)(b:Nat)(r:Rd)(ps:List ByteArray)(e:Ending)(W':World):Prop :=
 e=.returned (.int .i64 0)/\((bn r.re).head? ≠ some 63/\St w0 b W' { r with u:={ r.u with hq:=false } } ps\/(bn r.re).head? = some 63/\∃ q t,bn q=E.en (if r.sp=true then 3 else 2) (U.dec (((bn r.re).drop 1).takeWhile eA))/\bn t=((bn r.re).drop 1).dropWhile eA/\St w0 b W' { r with re:=t,u:={ r.u with hq:=true,qu:=q } } ps)
theorem AS(w0 W:World)(b:Nat)(r:Rd)(ps:List ByteArray)(hS:St w0 b W r ps)(hs:r.re.size<=100000):Calls prog 55 #[.pointer (some ⟨b,0,none⟩)] W fun e W'=>Tb w0 b r ps e W':=by
 have HCP:=hid (fun W=>oU r.re ⟨#[63]⟩ (by omega) W);have HB1:=hid (yn r.re ⟨#[63]⟩);have HB3:=hid (mB r.re 63);obtain⟨F24,Z24⟩:=hS.cell 24 (.string r.re) rfl;obtain⟨F25,_⟩:=hS.cell 25 (.bool r.sp) rfl;have HS:=hid hS;obtain⟨K,hK⟩:=Ex' ((if r.sp=true then 3 else 2):Nat);have hK5:K<=255:=by rw[<-hK];split <;> decide
 have HKK:=hid hK
 have hsp:(r.sp=false/\K=2)\/(r.sp=true/\K=3):=by
  cases h:r.sp
  ·rw[h]at hK;exact .inl ⟨rfl,hK.symm⟩
  ·rw[h]at hK;exact .inr ⟨rfl,hK.symm⟩
 clear hK;cases hq:hpr r.re ⟨#[63]⟩
 ·have ey:cpx r.re ⟨#[63]⟩=r.re:=by unfold cpx;rw[hq];rfl
  rw[hq]at HB3;rw[hq,ey]at HCP;have HH:Hid ((bn r.re).head? ≠ some 63):=(of_decide_eq_false HB3.out.symm:¬ (bn r.re).head? = some 63);obtain⟨V1,hV1⟩:=Ex' (W.setCell ⟨b,24,none⟩ (.string r.re));have S1:=hS.put 24 (.string r.re) r rfl rfl;rw[hV1]at S1;obtain⟨F20,Z20⟩:=S1.cell 20 (.bool r.u.hq) rfl;obtain⟨V2,hV2⟩:=Ex' (V1.setCell ⟨b,20,none⟩ (.bool false));have S2:=S1.put 20 (.bool false) { r with u:={ r.u with hq:=false } } rfl rfl;rw[hV2]at S2;obtain⟨G20,_⟩:=S2.cell 20 (.bool false) rfl;have HEND:=hid S2;clear hS hq ey S1 S2 HB1 HB3 HS;rcases hsp with⟨h1,h2⟩ | ⟨h1,h2⟩
  all_goals (
    rw[h1]at F25
    clear h1 h2
    go_enter func55,ntmps55
    go_wp2_with(go_at_call 90;refine(HCP.out _).mono ?_;rintro e w3 ⟨rfl,hw⟩;obtain rfl:=hw.symm)
    go_ret
    exact⟨rfl,.inl ⟨HH.out,HEND.out⟩⟩)
 ·obtain⟨y,hy⟩:=Ex' (cpx r.re ⟨#[63]⟩);rw[hq,hy]at HCP;rw[hq,hy]at HB1;rw[hq]at HB3;have HH:Hid ((bn r.re).head? = some 63):=(of_decide_eq_true HB3.out.symm:(bn r.re).head? = some 63);have HBB:Hid (bn y=(bn r.re).drop 1):=HB1.out.trans (if_pos rfl);have hysz:y.size<=100000:=by rw[<-aa,HBB.out,length_drop,aa];omega
  obtain⟨a,t,ha,ht,HTK⟩:=gB f35 y (by omega);rw[n35]at ha ht;have hasz:a.size<=100000:=by rw[<-aa,ha];exact le_trans (twl _) (by rw[aa];exact hysz)
  have HA:=hid ha;have HT:=hid ht;have HTT:=hid HTK;have HEN:=hid (fun W=>E.bP a K W (by omega) hK5);obtain⟨V1,hV1⟩:=Ex' (W.setCell ⟨b,24,none⟩ (.string y));have S1:=hS.put 24 (.string y) { r with re:=y } rfl rfl;rw[hV1]at S1;obtain⟨F20,Z20⟩:=S1.cell 20 (.bool r.u.hq) rfl;obtain⟨V2,hV2⟩:=Ex' (V1.setCell ⟨b,20,none⟩ (.bool true));have S2:=S1.put 20 (.bool true) { r with re:=y,u:={ r.u with hq:=true } } rfl rfl;rw[hV2]at S2;obtain⟨G20,_⟩:=S2.cell 20 (.bool true) rfl;have HS2:=hid S2;clear hS hq hy S1 S2 HB1 HB3 HS ha ht HTK hysz hasz;rcases hsp with⟨h1,rfl⟩ | ⟨h1,rfl⟩
  all_goals (
    rw[h1]at F25
    clear h1
    go_enter func55,ntmps55
    go_wp2_with(go_at_call 90;refine(HCP.out _).mono ?_;rintro e w3 ⟨rfl,hw⟩;obtain rfl:=hw.symm)
    clear hV1 hV2 F24 Z24 F25 F20 Z20 G20
    refine(dH _ _).mono ?_
    rintro e w1 ⟨⟨k,rfl,hk⟩,B1⟩
    have HTC:=hid (HTT.out w0 w1 b _ ps k rfl (HS2.out.below B1) hk)
    clear HS2 HTT hk B1
    go_wp2_with fail
    refine HTC.out.mono ?_
    rintro e w2 ⟨rfl,S2,_⟩
    have HS3:=hid S2
    clear S2 HTC
    go_wp2_with fail
    refine(HEN.out _).mono ?_
    rintro e w4 ⟨⟨q,rfl,hq⟩,B3⟩
    have S3:=HS3.out.below B3
    obtain⟨F21,Z21⟩:=S3.cell 21 (.string r.u.qu) rfl
    have HEND:=hid (S3.put 21 (.string q) { r with re:=t,u:={ r.u with hq:=true,qu:=q } } rfl rfl)
    have HQ:=hid hq
    clear B3 S3 HS3 hq
    go_wp2
    go_ret
    exact⟨rfl,.inr ⟨HH.out,q,t,by rw[HKK.out];exact(show bn q=E.en _ (U.dec (bn a)) from HQ.out).trans (by rw[HA.out,HBB.out]),HT.out.trans (by rw[HBB.out]),HEND.out⟩⟩)
def Te(w0:World)(b:Nat)(r:Rd)(ps:List ByteArray)(e:Ending)(W':World):Prop :=
 e=.returned (.int .i64 0)/\∃ t f,bn t=(if (bn r.re).head? = some 35 then (bn r.re).drop 1 else bn r.re)/\bn f=E.en 1 (U.dec (bn t))/\St w0 b W' { r with re:=t,u:={ r.u with hf:=decide ((bn r.re).head? = some 35),fg:=f } } ps
theorem sx(w0 W:World)(b:Nat)(r:Rd)(ps:List ByteArray)(hS:St w0 b W r ps)(hs:r.re.size<=100000):Calls prog 56 #[.pointer (some ⟨b,0,none⟩)] W fun e W'=>Te w0 b r ps e W':=by
 have HCP:=hid (fun W=>oU r.re ⟨#[35]⟩ (by omega) W);have HB1:=hid (yn r.re ⟨#[35]⟩);have HB3:=hid (mB r.re 35);obtain⟨F24,Z24⟩:=hS.cell 24 (.string r.re) rfl;obtain⟨y,hy⟩:=Ex' (cpx r.re ⟨#[35]⟩);obtain⟨z,hz⟩:=Ex' (hpr r.re ⟨#[35]⟩);rw[hy,hz]at HCP;rw[hy,hz]at HB1;rw[hz]at HB3
 have HBB:Hid (bn y=if (bn r.re).head? = some 35 then (bn r.re).drop 1 else bn r.re):=by
  show _=_;have h3:z=decide ((bn r.re).head? = some 35):=HB3.out;rw[HB1.out,h3];by_cases h:(bn r.re).head? = some 35
  ·rw[if_pos h,if_pos (decide_eq_true h)];rfl
  ·rw[if_neg h,if_neg (by intro hh;exact h (of_decide_eq_true hh))]
 have hysz:y.size<=100000:=by
  rw[<-aa,HBB.out];split
  ·rw[length_drop,aa];omega
  ·rw[aa];exact hs
 have HEN:=hid (fun W=>E.bP y 1 W (by omega) (by decide));obtain⟨V1,hV1⟩:=Ex' (W.setCell ⟨b,24,none⟩ (.string y));have S1:=hS.put 24 (.string y) { r with re:=y } rfl rfl;rw[hV1]at S1;obtain⟨F22,Z22⟩:=S1.cell 22 (.bool r.u.hf) rfl;obtain⟨V2,hV2⟩:=Ex' (V1.setCell ⟨b,22,none⟩ (.bool z));have S2:=S1.put 22 (.bool z) { r with re:=y,u:={ r.u with hf:=z } } rfl rfl;rw[hV2]at S2;obtain⟨G24,_⟩:=S2.cell 24 (.string y) rfl;have HS2:=hid S2;clear hS hy hz S1 S2 HB1 hysz;go_enter func56,ntmps56;go_wp2_with(go_at_call 90;refine(HCP.out _).mono ?_;rintro e w3 ⟨rfl,hw⟩;obtain rfl:=hw.symm);clear hV1 hV2 F24 Z24 F22 Z22 G24;refine(HEN.out _).mono ?_;rintro e w4 ⟨⟨f,rfl,hf⟩,B3⟩;have S3:=HS2.out.below B3;obtain⟨F23,Z23⟩:=S3.cell 23 (.string r.u.fg) rfl;have HEND:=hid (S3.put 23 (.string f) { r with re:=y,u:={ r.u with hf:=z,fg:=f } } rfl rfl);have HF:=hid hf;clear B3 S3 HS2 hf;go_wp2;go_ret;exact⟨rfl,y,f,HBB.out,HF.out,by rw[show decide ((bn r.re).head? = some 35)=z from HB3.out.symm];exact HEND.out⟩
theorem St.same{w0 W W1:World}{b:Nat}{r:Rd}{ps:List ByteArray}(h:St w0 b W r ps)(e:W1.heap=W.heap:=by rfl)(o:W1.os=W.os:=by rfl)(t:W1.tape=W.tape:=by rfl)(p:W1.output=W.output:=by rfl):St w0 b W1 r ps :=
 h.below ⟨o,t,p,by rw[e];exact le_refl _,fun k _=>by rw[e]⟩
theorem St.step{w0 W W1 w':World}{b:Nat}{r:Rd}{ps:List ByteArray}(h:St w0 b W r ps)(hb:Below W1.heap.size W1 w')(e:W1.heap=W.heap:=by rfl)(o:W1.os=W.os:=by rfl)(t:W1.tape=W.tape:=by rfl)(p:W1.output=W.output:=by rfl):St w0 b w' r ps:=(h.same e o t p).below hb
theorem St.c26{w0 W:World}{b:Nat}{r:Rd}{ps:List ByteArray}(h:St w0 b W r ps):W.cell? ⟨b,26,none⟩=some (.string r.sl):=(h.cell 26 (.string r.sl) rfl).1
theorem JP(acc:List (List Int))(x:List Int)(l:Bool):(stp acc x l).length<=acc.length+1:=by
 unfold stp
 (repeat' split) <;> simp <;> omega
def QZ(w0:World)(b:Nat)(r:Rd)(e:Ending)(W':World):Prop :=
 e=.returned (.int .i64 0)/\(r.sp=false/\(bn r.re).head? ≠ some 47/\St w0 b W' r []\/(r.sp=true\/(bn r.re).head? = some 47)/\∃ t v qs,bn t=(bn r.re).dropWhile npq/\qs.map bn=nrm [] (spl (Y.sl r.sp) ((((bn r.re).takeWhile npq).dropWhile (fun c=>!Y.sl r.sp c)).drop 1))/\St w0 b W' { r with re:=t,u:={ r.u with pv:=v } } qs)
def Lp(w0:World)(b:Nat)(r:Rd)(t:ByteArray)(M:Nat)(F:List (List Int))(p:ByteArray)(more:Bool)(W:World):Prop :=
 ∃ v qs,St w0 b W { r with re:=t,u:={ r.u with pv:=v } } qs/\p.size<=100000/\qs.length+p.size+(if more=true then 1 else 0)<=M/\(if more=true then nrm (qs.map bn) (spl (Y.sl r.sp) (bn p))=F else qs.map bn=F)
def msr:Value->Value->Nat
 | .string p,.bool m=>p.size+(if m=true then 1 else 0)
 | _,_=>0
theorem Lp.next{w0 W':World}{b:Nat}{r:Rd}{t:ByteArray}{M:Nat}{F:List (List Int)}{p a d:ByteArray}{y:Bool}{v:Value}{qs:List ByteArray}(hps:p.size<=100000)(hM:qs.length+p.size+1<=M)(hN:nrm (qs.map bn) (spl (Y.sl r.sp) (bn p))=F)(ha:bn a=(bn p).takeWhile (fun c=>!Y.sl r.sp c))(hd:bn d=((bn p).dropWhile (fun c=>!Y.sl r.sp c)).drop 1)(hy:y=decide ((bn p).dropWhile (fun c=>!Y.sl r.sp c)≠[])){v':Value}{qs':List ByteArray}(hq:qs'.map bn=stp (qs.map bn) (bn a) (!y))(hS:St w0 b W' { r with re:=t,u:={ r.u with pv:=v' } } qs'):Lp w0 b r t M F d y W'/\msr (.string d) (.bool y)<msr (.string p) (.bool true):=by
 have hal:∀ c∈bn a,Y.sl r.sp c=false:=fun c hc=>by rw[ha]at hc;have:=(cg hc).1;simpa using this
 have hql:qs'.length<=qs.length+1:=by have:=congrArg List.length hq;rw[length_map]at this;rw[this];exact le_trans (JP _ _ _) (by rw[length_map];exact le_refl _)
 have hpd:bn p=bn a++(bn p).dropWhile (fun c=>!Y.sl r.sp c):=by rw[ha,List.takeWhile_append_dropWhile]
 cases hw:(bn p).dropWhile (fun c=>!Y.sl r.sp c) with
 | nil =>
  rw[hw]at hd hy hpd;have hy':y=false:=hy;subst hy';have hd0:d.size=0:=by rw[<-aa,hd];rfl
  have hap:bn p=bn a:=by rw[hpd,List.append_nil]
  refine⟨⟨v',qs',hS,by omega,by rw[if_neg (by simp)];omega,?_⟩,?_⟩
  ·rw[if_neg (by simp),hq,<-hN,hap,rC hal,zz];rfl
  ·show d.size+_<p.size+_;rw[if_neg (by simp),if_pos rfl];omega
 | cons c l =>
  rw[hw]at hd hy hpd;have hy':y=true:=hy.trans (decide_eq_true (by simp));subst hy'
  have hc:Y.sl r.sp c=true:=by
   have h1:(bn p).dropWhile (fun c=>!Y.sl r.sp c)≠[]:=by rw[hw];simp
   have:=List.head_dropWhile_not (fun c=>!Y.sl r.sp c) h1;simp only[hw,List.head_cons]at this;simpa using this
  have hdl:bn d=l:=hd;have hsz:d.size+1<=p.size:=by have h2:=congrArg List.length hpd;rw[aa,length_append,length_cons]at h2;rw[<-aa,hdl];omega
  refine⟨⟨v',qs',hS,by omega,by rw[if_pos rfl];omega,?_⟩,?_⟩
  ·rw[if_pos rfl,hq,<-hN,hpd,cu hal hc,zz,hdl,decide_eq_false (bF _ _)];rfl
  ·show d.size+_<p.size+_;rw[if_pos rfl];omega
theorem Fc(w0 W:World)(b:Nat)(r:Rd)(hS:St w0 b W r [])(hs:r.re.size<=90000)(hsl:r.sl=ia r.sp)(hG:GU w0):Calls prog 53 #[.pointer (some ⟨b,0,none⟩)] W fun e W'=>QZ w0 b r e W':=by
 obtain⟨F24,_⟩:=hS.cell 24 (.string r.re) rfl;obtain⟨F25,_⟩:=hS.cell 25 (.bool r.sp) rfl;obtain⟨F26,_⟩:=hS.cell 26 (.string r.sl) rfl;have HPR:=hid (fun W=>mv r.re ⟨#[47]⟩ W);have HB3:=hid (show hpr r.re ⟨#[47]⟩=decide ((bn r.re).head? = some 47) from mB r.re 47);have HS:=hid hS;have HG:=hid hG;obtain⟨z,hz⟩:=Ex' (hpr r.re ⟨#[47]⟩);rw[hz]at HPR HB3;clear hz hG;by_cases hno:r.sp=false/\z=false
 ·obtain⟨hsp,rfl⟩:=hno;rw[hsp]at F25;have HSP:=hid hsp;have HNH:Hid ((bn r.re).head? ≠ some 47):=(of_decide_eq_false HB3.out.symm:¬ (bn r.re).head? = some 47);clear hsp HB3 hS;go_enter func53,ntmps53;go_wp2_with(go_at_call 91;refine(HPR.out _).mono ?_;rintro e w3 ⟨rfl,hw⟩;obtain rfl:=hw.symm);go_ret;exact⟨rfl,.inl ⟨HSP.out,HNH.out,HS.out⟩⟩
 ·have hyes:r.sp=true\/r.sp=false/\z=true:=by
   cases h:r.sp
   ·cases hz:z
    ·exact absurd ⟨h,hz⟩ hno
    ·exact .inr ⟨rfl,rfl⟩
   ·exact .inl rfl
  have HY:Hid (r.sp=true\/(bn r.re).head? = some 47):=by
   rcases hyes with h | ⟨_,h⟩
   ·exact .inl h
   ·exact .inr (of_decide_eq_true (HB3.out.symm.trans h))
  obtain⟨a,t,ha,ht,HTK⟩:=gB fqm r.re (by omega);rw[Fz]at ha ht;have hasz:a.size<=90000:=by rw[<-aa,ha];exact le_trans (twl _) (by rw[aa];exact hs)
  have hF:=fsl r.sp;rw[<-hsl]at hF;obtain⟨a2,p0,y0,-,hp0,-,HDV⟩:=jg hF a (by omega);have hp0s:p0.size<=90000:=by rw[<-aa,hp0,length_drop];have:=(List.dropWhile_suffix (l:=bn a) (fun c=>!Y.sl r.sp c)).length_le;rw[aa]at this;omega
  have HT:=hid ht;have HTT:=hid HTK;have HDD:=hid HDV;have HP0:Hid (bn p0=(((bn r.re).takeWhile npq).dropWhile (fun c=>!Y.sl r.sp c)).drop 1):=by show _=_;rw[hp0,ha]
  obtain⟨FF,hFF⟩:=Ex' (nrm [] (spl (Y.sl r.sp) (bn p0)));have HFF:=hid hFF;have HDR:=hid (fun(p:ByteArray) (h:p.size<=100000)=>jg hF p (by omega));have HFIN:Hid (∀(p:ByteArray) (V:World),Lp w0 b r t (p0.size+1) FF p false V->QZ w0 b r (.returned (.int .i64 0)) V):=fun p V ⟨v,qs,h1,h2,h3,h4⟩=>by rw[if_neg (by simp)]at h4;exact⟨rfl,.inr ⟨HY.out,t,v,qs,HT.out,by rw[h4,<-HFF.out,HP0.out],h1⟩⟩
  clear hno ha ht HTK HDV hp0 hFF hS HB3 hsl
  have go:Calls prog 53 #[.pointer (some ⟨b,0,none⟩)] W fun e W'=>QZ w0 b r e W':=by
   rcases hyes with hsp | ⟨hsp,rfl⟩
   all_goals (
     have HSP:=hid hsp
     rw[hsp]at F25
     clear hsp
     have SS:=HS.out
     go_enter func53,ntmps53
     go_wp2_with(go_at_call 91;refine(HPR.out _).mono ?_;rintro e w3 ⟨rfl,hw⟩;obtain rfl:=hw.symm)
     clear F24 F25
     go_region_held3 (fun w'=>w'.cell? ⟨b,26,none⟩=some (.string r.sl))
       (first | assumption | go_keep)
       ((first
         | (go_at_call 86;refine(dH _ _).mono ?_;rintro e w' ⟨⟨k,rfl,hk⟩,hb⟩;have SN:=SS.step hb;clear SS;have SS:=SN;clear SN;have hq:=SS.c26)
         | (go_at_call 92;refine(HTT.out w0 _ b r [] k rfl (SS.same) hk).mono ?_;rintro e w' ⟨rfl,SN,_⟩;clear SS;have SS:=SN;clear SN;have hq:=SS.c26)
         | (go_at_call 85;refine(HDD.out _ k hk).mono ?_;rintro e w' ⟨rfl,hb⟩;have SN:=SS.step hb;clear SS;have SS:=SN;clear SN;have hq:=SS.c26)))
     have HL0:Hid (Lp w0 b r t (p0.size+1) FF p0 true w'):=⟨r.u.pv,[],SS,by omega,by rw[if_pos rfl];simp,by rw[if_pos rfl];exact HFF.out⟩
     clear hk hb hq SS F26 HTT HDD HPR hasz
     go_wp2_with fail
     go_loopw [4,6,7] (fun v4 v6 _ wr=>∃(p:ByteArray) (more:Bool),v4=.string p/\v6=.bool more/\Hid (Lp w0 b r t (p0.size+1) FF p more wr)) (fun v4 v6 _ _=>msr v4 v6)
     case atStart=>exact⟨p0,true,rfl,rfl,HL0.out⟩
     case round =>
       obtain⟨p,more,rfl,rfl,HL⟩:=hrel
       cases more
       · have HE:=hid (HFIN.out p wr HL.out)
         clear HL HL0 HFIN HDR
         go_wp2
         go_ret
         exact HE.out
       · obtain⟨v,qs,S,hps,hM,hN⟩:=HL.out
         rw[if_pos rfl]at hM hN
         obtain⟨x,d,y,ha,hd,hy,HDV⟩:=HDR.out p hps
         have hxs:x.size<=100000:=by rw[<-aa,ha];exact le_trans (twl _) (by rw[aa];exact hps)
         have G26:=S.c26
         have HNX:=hid (fun(W':World) (v':Value) (qs':List ByteArray)=>Lp.next (w0:=w0) (W':=W') (b:=b) (t:=t) (v:=v) (v':=v') (qs':=qs') hps hM hN ha hd hy)
         have HSS:=hid S
         have HDW:=hid HDV
         have HPC:=hid (fun(W:World) h=>AY x (!y) hxs w0 W b { r with re:=t,u:={ r.u with pv:=v } } qs h (by omega) HG.out)
         clear S hN ha hd hy HDV HL HL0 HFIN HDR hM
         go_wp2_with fail
         refine(dH _ _).mono ?_
         rintro e w1 ⟨⟨k,rfl,hk⟩,B1⟩
         have HS1:=hid (HSS.out.below B1)
         have HDC:=hid (HDW.out w1 k hk)
         clear hk B1 HSS HDW G26
         go_wp2_with fail
         refine HDC.out.mono ?_
         rintro e w2 ⟨rfl,B2⟩
         have HPD:=hid (HPC.out w2 (HS1.out.below B2))
         clear B2 HS1 HPC HDC
         go_wp2_with fail
         refine HPD.out.mono ?_
         rintro e w3 ⟨rfl,v',qs',hq',S'⟩
         have HN2:=hid (HNX.out w3 v' qs' hq' S')
         clear hq' S' HNX HPD
         go_wp2
         go_roundw
         case rel=>exact⟨d,y,rfl,rfl,HN2.out.1⟩
         case measure=>exact HN2.out.2)
  exact go
open F (bn aa)
def utl(a:Us)(ps:List ByteArray):Ur:=⟨bn a.sc,bn a.us,bn a.pa,a.hh,(a.k,bn a.nm,a.f,[a.x0,a.x1,a.x2,a.x3,a.x4,a.x5,a.x6,a.x7]),a.hp,a.pr,a.op,ps.map bn,bn a.bo,a.hq,bn a.qu,a.hf,bn a.fg⟩
def em:ByteArray:=⟨#[]⟩
def zs:Us:=⟨em,em,em,false,0,em,0,0,0,0,0,0,0,0,0,false,0,false,.slice none 0 0,em,false,em,false,em⟩
def HQ(l:List Int)(h:H.Hst):Prop:=∀ x sp,hqy l=some (x,sp)->H.HP H.IA x sp h
def Bad(l:List Int)(er:Int):Prop:=∃ h,HQ l h/\rdc l h=(zu,er)
def Rest(r:Rd):Prop:=r.u.bo=em/\r.u.hq=false/\r.u.qu=em/\r.u.hf=false/\r.u.fg=em
def On(w0:World)(l:List Int)(P:World->Prop)(e:Ending)(W':World):Prop :=
 (e=.returned (.int .i64 0)/\P W')\/∃ er:Int,er≠0/\e=.returned (.int .i64 er)/\Bad l er/\Below w0.heap.size w0 W'
def S0(w0:World)(b:Nat)(l:List Int)(W:World):Prop:=∃ t,bn t=l/\t.size<=80000/\St w0 b W ⟨zs,t,false,em,em⟩ []
def S1(w0:World)(b:Nat)(l:List Int)(W:World):Prop:=∃ m t,sch l=some (bn m,bn t)/\bn m≠cA/\t.size<=80000/\St w0 b W ⟨{ zs with sc:=m },t,(own (bn m)).isSome,ia (own (bn m)).isSome,em⟩ []
def S2(w0:World)(b:Nat)(l:List Int)(W:World):Prop:=∃(m t:ByteArray) (rr:List Int) (hh op:Bool),sch l=some (bn m,rr)/\bn m≠cA/\t.size<=80000/\(aus (bn m) rr=some (bn t)/\hh=true/\op=false\/aus (bn m) rr=none/\own (bn m)=none/\bn t=rr/\hh=false/\op=decide (rr.head? ≠ some 47))/\St w0 b W ⟨{ zs with sc:=m,hh:=hh,op:=op },t,(own (bn m)).isSome,ia (own (bn m)).isSome,em⟩ []
structure Pi(r:Rd)(has:Bool):Prop where
 op1:r.u.op=true->has=false/\(bn r.re).head? ≠ some 47/\r.sp=false
 op0:r.u.op=false->has=true\/(bn r.re).head? = some 47
 hd:has=true->bn r.re=[]\/∃ c t,bn r.re=c::t/\nau r.sp c=false
 sp:r.sp=true->has=true
def noq(a:Us):Ur:={ utl a []with opq:=false }
def S3(w0:World)(b:Nat)(l:List Int)(W:World):Prop:=∃(r:Rd) (h:H.Hst) (has:Bool) (po:Option (List Int)),St w0 b W r []/\HQ l h/\r.re.size<=80000/\r.po.size<=80000/\r.sp=(own (bn r.u.sc)).isSome/\r.sl=ia r.sp/\r.u.hp=false/\r.u.pr=0/\Rest r/\Pi r has/\bn r.po=po.getD []/\(∀ q:Bool×Nat,por (own (bn r.u.sc)) po=some q->rdc l h=(tl r.sp has (noq { r.u with hp:=q.1,pr:=q.2 }) (bn r.re),0))/\(por (own (bn r.u.sc)) po=none->rdc l h=(zu,131))
theorem kE{l:List Int}(h:hqy l=none)(x:H.Hst):HQ l x:=fun y sp e=>by rw[h]at e;cases e
theorem Rt(w0 W:World)(b:Nat)(l:List Int)(h:S0 w0 b l W):Calls prog 49 #[.pointer (some ⟨b,0,none⟩)] W fun e W'=>On w0 l (S1 w0 b l) e W':=by
 obtain⟨t,rfl,hs,hS⟩:=h;refine(wY w0 W b _ [] hS (by show t.size<=_;omega)).mono ?_;rintro e W' (⟨rfl,h1,hB⟩ | ⟨m,t2,rfl,h1,h2,hS2⟩)
 ·refine .inr ⟨130,by decide,rfl,⟨H.non 0,kE ?_ _,?_⟩,hB⟩
  ·rcases h1 with h1 | ⟨t3,h1⟩
   ·have h1':sch (bn t)=none:=h1;unfold hqy;rw[h1']
   ·have h1':sch (bn t)=some (cA,t3):=h1;unfold hqy;rw[h1'];rfl
  ·rcases h1 with h1 | ⟨t3,h1⟩
   ·have h1':sch (bn t)=none:=h1;unfold rdc;rw[h1']
   ·have h1':sch (bn t)=some (cA,t3):=h1;unfold rdc;rw[h1'];rfl
 ·refine .inl ⟨rfl,m,t2,h1,h2,?_,hS2⟩;have h1':sch (bn t)=some (bn m,bn t2):=h1;obtain⟨_,p,hp⟩:=wZ h1';have:=congrArg List.length hp;rw[length_append,length_cons,aa,aa]at this;omega
theorem step1(w0 W:World)(b:Nat)(l:List Int)(h:S1 w0 b l W):Calls prog 50 #[.pointer (some ⟨b,0,none⟩)] W fun e W'=>On w0 l (S2 w0 b l) e W':=by
 obtain⟨m,t,h1,h2,hs,hS⟩:=h;refine(tI w0 W b _ [] hS (by show t.size<=_;omega) rfl rfl rfl).mono ?_;rintro e W' ⟨rfl,hq⟩;refine .inl ⟨rfl,?_⟩;rcases hq with⟨g1,t2,g2,g3⟩ | ⟨g1,g0,t2,g2,g3⟩ | ⟨g1,g0,g3⟩
 ·have g1':(own (bn m)).isSome=true:=g1;have g2':bn t2=(bn t).dropWhile (Y.sl true):=g2;refine⟨m,t2,bn t,true,false,h1,h2,?_,.inl ⟨?_,rfl,rfl⟩,g3⟩
  ·rw[<-aa,g2'];exact le_trans (iN _) (by rw[aa];omega)
  ·unfold aus;rw[if_pos g1',g2']
 ·have g1':(own (bn m)).isSome=false:=g1;have g2':bn t2=(bn t).drop 2:=g2;have g0':(bn t).take 2=[47,47]:=g0;refine⟨m,t2,bn t,true,false,h1,h2,?_,.inl ⟨?_,rfl,rfl⟩,g3⟩
  ·rw[<-aa,g2',length_drop,aa];omega
  ·unfold aus;rw[if_neg (by rw[g1'];simp),if_pos g0',g2']
 ·have g1':(own (bn m)).isSome=false:=g1;have g0':(bn t).take 2≠[47,47]:=g0;refine⟨m,t,bn t,false,decide ((bn t).head? ≠ some 47),h1,h2,hs,.inr ⟨?_,?_,rfl,rfl,rfl⟩,g3⟩
  ·unfold aus;rw[if_neg (by rw[g1'];simp),if_neg g0']
  ·cases ho:own (bn m) with
   | none=>rfl
   | some _=>rw[ho]at g1';cases g1'
theorem FA{h:H.Hst}(x:H.HP H.IA [] true h):h.2.2.2.2=70:=by unfold H.HP at x;rw[if_neg (by decide),if_neg (by decide),if_neg (by decide)]at x;obtain⟨d,q,h1,rfl⟩:=x;obtain⟨rfl,rfl⟩:=H.asc.one h1 (H.asc.num (t:=[]) (by simp));rfl
theorem Fk{m:List Int}(h:own m=none):(own m).isSome=false:=by rw[h];rfl
theorem sE{f:Int->Bool}(l:List Int):l.dropWhile f=[]\/∃ c t,l.dropWhile f=c::t/\f c=false:=by
 cases h:l.dropWhile f with
 | nil=>exact .inl rfl
 | cons c t =>
  refine .inr ⟨c,t,rfl,?_⟩;have h1:l.dropWhile f≠[]:=by rw[h];simp
  have:=List.head_dropWhile_not f h1;simp only[h,List.head_cons]at this;exact this
theorem step2(w0 W:World)(b:Nat)(l:List Int)(h:S2 w0 b l W)(hG:GU w0):Calls prog 51 #[.pointer (some ⟨b,0,none⟩)] W fun e W'=>On w0 l (S3 w0 b l) e W':=by
 obtain⟨m,t,rr,hh,op,h1,h2,hs,hc,hS⟩:=h;rcases hc with⟨ha,rfl,rfl⟩ | ⟨ha,ho,ht,rfl,rfl⟩
 ·refine(pR w0 W b _ [] hS (by show t.size<=_;omega) rfl rfl hG).mono ?_;rintro e W' ⟨A,hA,hq⟩;have hA':A=(bn t).takeWhile (nau (own (bn m)).isSome):=hA;have hhq:hqy l=(ask (own (bn m)).isSome A).map (fun x=>(x,(own (bn m)).isSome)):=by unfold hqy;rw[h1];show(if bn m=cA then none else match aus (bn m) rr with | none=>none | some b=>_)=_;rw[if_neg h2,ha,hA']
  have hrd:∀ h,rdc l h=if (ath (bn m) A h).2≠0 then (zu,(ath (bn m) A h).2) else (tl (own (bn m)).isSome true (ath (bn m) A h).1 ((bn t).dropWhile (nau (own (bn m)).isSome)),0):=fun h=>by unfold rdc;rw[h1];show(if bn m=cA then _ else match aus (bn m) rr with | none=>_ | some b=>_)=_;rw[if_neg h2,ha,hA']
  rcases hq with⟨hbad,rfl,hB⟩ | ⟨hn1,hn2,h,n,po,us,pa,t2,a0,a1,a2,a3,a4,a5,a6,a7,g1,rfl,g2,g3,g4,g5,g6,g7⟩
  ·have hask:ask (own (bn m)).isSome A=none:=by
    unfold ask;rcases hbad with hb | ⟨hb1,hb2⟩
    ·rw[if_pos hb]
    ·by_cases hx:64∈A/\beh A=[]
     ·rw[if_pos hx]
     ·rw[if_neg hx,if_pos ⟨hb1,.inl hb2⟩]
   refine .inr ⟨70,by decide,rfl,⟨H.non 0,kE (by rw[hhq,hask];rfl) _,?_⟩,hB⟩;rw[hrd];have:ath (bn m) A (H.non 0)=(zu,70):=by unfold ath;rw[if_pos hask]
   rw[this];rfl
  ·by_cases hask:ask (own (bn m)).isSome A=none
   ·have hsp:(hcut false (beh A)).1=[]/\(own (bn m)).isSome=true:=by
     unfold ask at hask;rw[if_neg hn1]at hask;split at hask
     ·rename_i hx;exact⟨hx.1,hx.2.resolve_left (fun hy=>hn2 ⟨hx.1,hy⟩)⟩
     ·cases hask
    have g1':H.HP H.IA (hcut false (beh A)).1 (own (bn m)).isSome h:=g1;rw[hsp.1,hsp.2]at g1';have he:=FA g1';rw[he];refine .inr ⟨70,by decide,rfl,⟨h,kE (by rw[hhq,hask];rfl) _,?_⟩,g7.lo⟩;rw[hrd];have:ath (bn m) A h=(zu,70):=by unfold ath;rw[if_pos hask]
    rw[this];rfl
   ·have hask2:ask (own (bn m)).isSome A=some (hcut false (beh A)).1:=by
     unfold ask at hask ⊢;rw[if_neg hn1]at hask ⊢;split at hask
     ·exact absurd rfl hask
     ·rename_i hx;rw[if_neg hx]
    have hHQ:HQ l h:=fun x sp e=>by rw[hhq,hask2]at e;have e':((hcut false (beh A)).1,(own (bn m)).isSome)=(x,sp):=Option.some.inj e;obtain⟨rfl,rfl⟩:=Prod.mk.inj e';exact g1
    by_cases he:h.2.2.2.2=0
    ·rw[he];refine .inl ⟨rfl,_,h,true,(hcut false (beh A)).2,g7,hHQ,?_,?_,rfl,rfl,rfl,rfl,⟨rfl,rfl,rfl,rfl,rfl⟩,⟨fun h=>(by cases h),fun _=>.inl rfl,fun _=>?_,fun _=>rfl⟩,g4,?_,?_⟩
     ·show t2.size<=80000;rw[<-aa,g5];exact le_trans (iN _) (by rw[aa];exact hs)
     ·show po.size<=80000;rw[<-aa,g4];rcases mC (beh A) false with⟨_,q2⟩ | ⟨i,_,_,q3⟩
      ·rw[q2];exact Nat.zero_le _
      ·rw[q3];show((beh A).drop (i+1)).length<=_;rw[length_drop];have q4:(beh A).length<=A.length:=by unfold beh;rw[length_reverse];exact le_trans (rq _) (by rw[length_reverse];exact le_refl _)
       have q5:A.length<=t.size:=by rw[hA',<-aa];exact rq _
       omega
     ·show bn t2=[]\/∃ c t,bn t2=c::t/\nau (own (bn m)).isSome c=false;rw[g5];exact sE _
     ·intro q hq;have hq':por (own (bn m)) (hcut false (beh A)).2=some q:=hq;rw[hrd]
      have hath:ath (bn m) A h=(noq { zs with sc:=m,hh:=true,op:=false,us:=us,pa:=pa,k:=h.1,nm:=n,f:=h.2.2.1,x0:=a0,x1:=a1,x2:=a2,x3:=a3,x4:=a4,x5:=a5,x6:=a6,x7:=a7,hp:=q.1,pr:=q.2 },0):=by
       unfold ath;rw[if_neg hask,if_neg (by rw[he];simp),hq']
       have e1:(if 64∈A then E.en 5 (U.dec ((ahd A).takeWhile dq)) else [])=bn us:=by
        split at g6
        ·rename_i hx;rw[if_pos hx];exact g6.1.symm
        ·rename_i hx;rw[if_neg hx,g6.1];rfl
       have e2:(if 64∈A then E.en 5 (U.dec (((ahd A).dropWhile dq).drop 1)) else [])=bn pa:=by
        split at g6
        ·rename_i hx;rw[if_pos hx];exact g6.2.symm
        ·rename_i hx;rw[if_neg hx,g6.2];rfl
       show(({ zu with sch:=bn m,usr:=if 64∈A then _ else [],pas:=if 64∈A then _ else [],hh:=true,hst:=(h.1,h.2.1,h.2.2.1,h.2.2.2.1),hp:=q.1,prt:=q.2 }:Ur),(0:Int))=_;rw[e1,e2,<-g2,g3];rfl
      rw[hath,g5];rfl
     ·intro hq;have hq':por (own (bn m)) (hcut false (beh A)).2=none:=hq;rw[hrd];have hath:ath (bn m) A h=(zu,131):=by unfold ath;rw[if_neg hask,if_neg (by rw[he];simp),hq']
      rw[hath];rfl
    ·refine .inr ⟨h.2.2.2.2,he,rfl,⟨h,hHQ,?_⟩,g7.lo⟩;rw[hrd];have hath:ath (bn m) A h=(zu,h.2.2.2.2):=by unfold ath;rw[if_neg hask,if_pos he]
     rw[hath,if_pos he]
 ·have hrd:∀ h,rdc l h=(tl false false { zu with sch:=bn m } rr,0):=fun h=>by unfold rdc;rw[h1];show(if bn m=cA then _ else match aus (bn m) rr with | none=>_ | some b=>_)=_;rw[if_neg h2,ha]
  have hhq:hqy l=none:=by unfold hqy;rw[h1];show(if bn m=cA then none else match aus (bn m) rr with | none=>none | some b=>_)=_;rw[if_neg h2,ha]
  refine(xw w0 W b _ [] hS rfl).mono ?_;rintro e W' ⟨rfl,hS'⟩;have hos:=Fk ho;refine .inl ⟨rfl,_,H.non 0,false,none,hS',kE hhq _,hs,by show em.size<=_;decide,rfl,rfl,rfl,rfl,⟨rfl,rfl,rfl,rfl,rfl⟩,⟨fun h=>⟨rfl,?_,hos⟩,fun h=>.inr ?_,fun h=>(by cases h),fun h=>?_⟩,rfl,?_,?_⟩
  ·have h':decide (rr.head? ≠ some 47)=true:=h;show(bn t).head? ≠ some 47;rw[ht];exact of_decide_eq_true h'
  ·have h':decide (rr.head? ≠ some 47)=false:=h;show(bn t).head? = some 47;rw[ht];exact Classical.not_not.1 (of_decide_eq_false h')
  ·have h':(own (bn m)).isSome=true:=h;rw[hos]at h';cases h'
  ·intro q hq;have hq':q=(false,0):=(Option.some.inj hq).symm;subst hq';rw[hrd];show _=(tl (own (bn m)).isSome false _ (bn t),0);rw[hos,ht];rfl
  ·intro hq;cases hq
open F (bn aa ak ten vl)
def S4(w0:World)(b:Nat)(l:List Int)(W:World):Prop:=∃(r:Rd) (h:H.Hst) (has:Bool),St w0 b W r []/\HQ l h/\r.re.size<=80000/\r.sl=ia r.sp/\Rest r/\Pi r has/\rdc l h=(tl r.sp has (noq r.u) (bn r.re),0)
def Hd(l:List Int):Prop:=l=[]\/∃ c t,l=c::t/\qm c=true
def Tz(r:Rd):Prop:=r.u.hq=false/\r.u.qu=em/\r.u.hf=false/\r.u.fg=em
def S5(w0:World)(b:Nat)(l:List Int)(W:World):Prop:=∃(r:Rd) (ps:List ByteArray) (h:H.Hst),St w0 b W r ps/\HQ l h/\r.re.size<=80000/\Tz r/\(r.u.op=false/\rdc l h=(qf r.sp (utl r.u ps) (bn r.re),0)/\Hd (bn r.re)\/r.u.op=true/\rdc l h=(qf r.sp { utl r.u ps with bod:=E.en 0 (U.dec ((bn r.re).takeWhile npq)) } ((bn r.re).dropWhile npq),0))
def S6(w0:World)(b:Nat)(l:List Int)(W:World):Prop:=∃(r:Rd) (ps:List ByteArray) (h:H.Hst),St w0 b W r ps/\HQ l h/\r.re.size<=80000/\Tz r/\rdc l h=(qf r.sp (utl r.u ps) (bn r.re),0)/\Hd (bn r.re)
def S7(w0:World)(b:Nat)(l:List Int)(W:World):Prop:=∃(r:Rd) (ps:List ByteArray) (h:H.Hst),St w0 b W r ps/\HQ l h/\r.re.size<=80000/\r.u.hf=false/\r.u.fg=em/\rdc l h=(fr (utl r.u ps) (bn r.re),0)/\(bn r.re=[]\/(bn r.re).head? = some 35)
def S8(w0:World)(b:Nat)(l:List Int)(W:World):Prop:=∃(r:Rd) (ps:List ByteArray) (h:H.Hst),St w0 b W r ps/\HQ l h/\rdc l h=(utl r.u ps,0)
theorem EO{o:Option Nat}{po:Option (List Int)}{h:Bool}{n:Nat}(hq:if po.getD []=[] then (h,n)=(false,0) else (po.getD []).all ten=true/\vl 10 (po.getD [])<=65535/\(h,n)=if o=some (vl 10 (po.getD [])) then (false,0) else (true,vl 10 (po.getD []))):por o po=some (h,n):=by
 cases po with
 | none =>
  have hq':(h,n)=(false,0):=hq;rw[hq'];rfl
 | some p =>
  have hq':if p=[] then (h,n)=(false,0) else p.all ten=true/\vl 10 p<=65535/\(h,n)=if o=some (vl 10 p) then (false,0) else (true,vl 10 p):=hq;show(if p=[] then some (false,0) else if p.all ten=true/\vl 10 p<=65535 then (if o=some (vl 10 p) then some (false,0) else some (true,vl 10 p)) else none)=_;by_cases hp:p=[]
  ·rw[if_pos hp]at hq' ⊢;rw[hq']
  ·rw[if_neg hp]at hq' ⊢;rw[if_pos ⟨hq'.1,hq'.2.1⟩,hq'.2.2];split <;> rfl
theorem EP{o:Option Nat}{po:Option (List Int)}(h1:po.getD []≠[])(h2:¬ ((po.getD []).all ten=true/\vl 10 (po.getD [])<=65535)):por o po=none:=by
 cases po with
 | none=>exact absurd rfl h1
 | some p =>
  show(if p=[] then some (false,0) else if p.all ten=true/\vl 10 p<=65535 then (if o=some (vl 10 p) then some (false,0) else some (true,vl 10 p)) else none)=_;have h1':p≠[]:=h1;have h2':¬ (p.all ten=true/\vl 10 p<=65535):=h2;rw[if_neg h1',if_neg h2']
theorem Rr(w0 W:World)(b:Nat)(l:List Int)(h:S3 w0 b l W)(hG:GU w0):Calls prog 52 #[.pointer (some ⟨b,0,none⟩)] W fun e W'=>On w0 l (S4 w0 b l) e W':=by
 obtain⟨r,h,has,po,hS,hHQ,g1,g2,g3,g4,g5,g6,g7,g8,g9,g10,g11⟩:=h;refine(AO w0 W b r [] hS (by omega) g3 g5 g6 hG).mono ?_;rintro e W' (⟨rfl,hp,n,hS',hq⟩ | ⟨rfl,h1,h2,hB⟩)
 ·rw[g9]at hq;exact .inl ⟨rfl,_,h,has,hS',hHQ,g1,g4,g7,⟨g8.op1,g8.op0,g8.hd,g8.sp⟩,g10 (hp,n) (EO hq)⟩
 ·rw[g9]at h1 h2;exact .inr ⟨131,by decide,rfl,⟨h,hHQ,g11 (EP h1 h2)⟩,hB⟩
theorem yI{l:List Int}:(l.takeWhile npq).head? = some 47↔l.head? = some 47:=by
 cases l with
 | nil=>simp
 | cons c t =>
  rw[List.takeWhile_cons];constructor
  ·intro h;split at h
   ·exact h
   ·cases h
  ·intro h;have hc:c=47:=by simpa using h
   subst hc;rfl
theorem Rk{f:Int->Bool}{p:List Int}(h:p=[]\/∃ c t,p=c::t/\f c=true):un f p=(p.dropWhile (fun c=>!f c)).drop 1:=by
 rcases h with rfl | ⟨c,t,rfl,hc⟩
 ·rfl
 ·show(if f c=true then t else c::t)=_;rw[if_pos hc,List.dropWhile_cons,if_neg (by rw[hc];simp)];rfl
theorem NX(l:List Int):Hd (l.dropWhile npq):=by
 rcases sE (f:=npq) l with h | ⟨c,t,h,hc⟩
 ·exact .inl h
 ·exact .inr ⟨c,t,h,by unfold npq at hc;simpa using hc⟩
theorem FZ{sp:Bool}{c:Int}(h:nau sp c=false):Y.sl sp c=true\/qm c=true:=by
 unfold nau at h;cases h1:Y.sl sp c
 ·right;rw[h1]at h;simpa using h
 ·exact .inl rfl
theorem OJ{sp:Bool}{c:Int}(h:Y.sl sp c=true):npq c=true:=by
 have hc:c=47\/c=92:=by
  unfold Y.sl at h;cases sp <;> simp at h
  ·exact .inl h
  ·exact h
 rcases hc with rfl | rfl <;> decide
theorem Rq(w0 W:World)(b:Nat)(l:List Int)(h:S4 w0 b l W)(hG:GU w0):Calls prog 53 #[.pointer (some ⟨b,0,none⟩)] W fun e W'=>On w0 l (S5 w0 b l) e W':=by
 obtain⟨r,h,has,hS,hHQ,g1,g2,g3,g4,g5⟩:=h;refine(Fc w0 W b r hS (by omega) g2 hG).mono ?_;rintro e W' ⟨rfl,⟨h1,h2,hS'⟩ | ⟨h1,t,v,qs,h2,h3,hS'⟩⟩
 ·refine .inl ⟨rfl,r,[],h,hS',hHQ,g1,⟨g3.2.1,g3.2.2.1,g3.2.2.2.1,g3.2.2.2.2⟩,?_⟩;have hno:¬ (r.sp=true\/((bn r.re).takeWhile npq).head? = some 47):=fun hh=>hh.elim (fun hx=>by rw[h1]at hx;cases hx) (fun hx=>h2 (yI.1 hx));rcases(show r.u.op=false\/r.u.op=true by cases r.u.op <;> simp) with ho | ho
  ·left;have hhas:has=true:=(g4.op0 ho).resolve_right h2
   have hhd:Hd (bn r.re):=by
    rcases g4.hd hhas with hx | ⟨c,t,hx,hc⟩
    ·exact .inl hx
    ·refine .inr ⟨c,t,hx,?_⟩;rcases FZ hc with hs | hq
     ·exfalso;rw[h1]at hs;unfold Y.sl at hs;have:c=47:=by simpa using hs
      rw[hx,this]at h2;exact h2 rfl
     ·exact hq
   have hdw:(bn r.re).dropWhile npq=bn r.re:=by
    rcases hhd with hx | ⟨c,t,hx,hc⟩
    ·rw[hx];rfl
    ·rw[hx,List.dropWhile_cons,if_neg (by unfold npq;rw[hc];simp)]
   refine⟨ho,?_,hhd⟩;rw[g5];unfold tl;rw[if_neg hno,if_pos hhas,hdw];have:noq r.u=utl r.u []:=by unfold noq utl;rw[ho]
   rw[this]
  ·right;obtain⟨q1,q2,q3⟩:=g4.op1 ho;refine⟨ho,?_⟩;rw[g5];unfold tl;rw[if_neg hno,if_neg (by rw[q1];simp)];have:({ noq r.u with opq:=true,bod:=E.en 0 (U.dec ((bn r.re).takeWhile npq)) }:Ur)={ utl r.u []with bod:=E.en 0 (U.dec ((bn r.re).takeWhile npq)) }:=by unfold noq utl;rw[ho]
   rw[this]
 ·have ho:r.u.op=false:=by
   rcases(show r.u.op=false\/r.u.op=true by cases r.u.op <;> simp) with ho | ho
   ·exact ho
   ·obtain⟨_,q2,q3⟩:=g4.op1 ho;rcases h1 with hx | hx
    ·rw[q3]at hx;cases hx
    ·exact absurd hx q2
  refine .inl ⟨rfl,_,qs,h,hS',hHQ,?_,⟨g3.2.1,g3.2.2.1,g3.2.2.2.1,g3.2.2.2.2⟩,.inl ⟨ho,?_,?_⟩⟩
  ·show t.size<=80000;rw[<-aa,h2];exact le_trans (iN _) (by rw[aa];exact g1)
  ·rw[g5];show(tl r.sp has (noq r.u) (bn r.re),(0:Int))=(qf r.sp (utl { r.u with pv:=v } qs) (bn t),0);unfold tl;rw[if_pos (h1.elim .inl (fun hx=>.inr (yI.2 hx))),h2]
   have hun:lst r.sp ((bn r.re).takeWhile npq)=qs.map bn:=by
    unfold lst;rw[h3,Rk];rcases h1 with hx | hx
    ·rcases g4.hd (g4.sp hx) with hy | ⟨c,t,hy,hc⟩
     ·rw[hy];exact .inl rfl
     ·rw[hy,List.takeWhile_cons];rcases FZ hc with hs | hq
      ·rw[if_pos (OJ hs)];exact .inr ⟨c,_,rfl,hs⟩
      ·rw[if_neg (by unfold npq;rw[hq];simp)];exact .inl rfl
    ·cases hr:bn r.re with
     | nil=>exact .inl rfl
     | cons c t =>
      rw[hr]at hx;have hc:c=47:=by simpa using hx
      subst hc;rw[List.takeWhile_cons,if_pos (by decide)];exact .inr ⟨47,_,rfl,by cases r.sp <;> decide⟩
   have:({ noq r.u with pth:=lst r.sp ((bn r.re).takeWhile npq) }:Ur)=utl { r.u with pv:=v } qs:=by rw[hun];unfold noq utl;rw[ho]
   rw[this]
  ·show Hd (bn t);rw[h2];exact NX _
theorem Rp(w0 W:World)(b:Nat)(l:List Int)(h:S5 w0 b l W):Calls prog 54 #[.pointer (some ⟨b,0,none⟩)] W fun e W'=>On w0 l (S6 w0 b l) e W':=by
 obtain⟨r,ps,h,hS,hHQ,g1,g2,g3⟩:=h;refine(xm w0 W b r ps hS (by omega)).mono ?_;rintro e W' ⟨rfl,⟨h1,hS'⟩ | ⟨h1,bo,t,h2,h3,hS'⟩⟩
 ·rcases g3 with⟨_,q1,q2⟩ | ⟨q0,_⟩
  ·exact .inl ⟨rfl,r,ps,h,hS',hHQ,g1,g2,q1,q2⟩
  ·rw[h1]at q0;cases q0
 ·rcases g3 with⟨q0,_⟩ | ⟨_,q1⟩
  ·rw[h1]at q0;cases q0
  ·refine .inl ⟨rfl,_,ps,h,hS',hHQ,?_,g2,?_,?_⟩
   ·show t.size<=80000;rw[<-aa,h3];exact le_trans (iN _) (by rw[aa];exact g1)
   ·rw[q1];show _=(qf r.sp (utl { r.u with bo:=bo } ps) (bn t),0);rw[h3,<-h2];rfl
   ·show Hd (bn t);rw[h3];exact NX _
theorem Ro(w0 W:World)(b:Nat)(l:List Int)(h:S6 w0 b l W):Calls prog 55 #[.pointer (some ⟨b,0,none⟩)] W fun e W'=>On w0 l (S7 w0 b l) e W':=by
 obtain⟨r,ps,h,hS,hHQ,g1,g2,g3,g4⟩:=h;refine(AS w0 W b r ps hS (by omega)).mono ?_;rintro e W' ⟨rfl,⟨h1,hS'⟩ | ⟨h1,q,t,h2,h3,hS'⟩⟩
 ·have hu:utl { r.u with hq:=false } ps=utl r.u ps:=by unfold utl;rw[g2.1]
  refine .inl ⟨rfl,_,ps,h,hS',hHQ,g1,g2.2.2.1,g2.2.2.2,?_,?_⟩
  ·rw[g3];show(qf r.sp (utl r.u ps) (bn r.re),(0:Int))=(fr (utl { r.u with hq:=false } ps) (bn r.re),0);rw[hu];cases hr:bn r.re with
   | nil=>rfl
   | cons c t =>
    show((if c=63 then _ else fr (utl r.u ps) (c::t)),(0:Int))=_;rw[if_neg (fun e=>h1 (by rw[hr,e];rfl))]
  ·show bn r.re=[]\/(bn r.re).head? = some 35;rcases g4 with hx | ⟨c,t,hx,hc⟩
   ·exact .inl hx
   ·right;rw[hx]at h1 ⊢;unfold qm at hc;have:c=63\/c=35:=by simpa using hc
    rcases this with rfl | rfl
    ·exact absurd rfl h1
    ·rfl
 ·refine .inl ⟨rfl,_,ps,h,hS',hHQ,?_,g2.2.2.1,g2.2.2.2,?_,?_⟩
  ·show t.size<=80000;rw[<-aa,h3];refine le_trans (iN _) ?_;rw[length_drop,aa];omega
  ·rw[g3];show _=(fr (utl { r.u with hq:=true,qu:=q } ps) (bn t),0);cases hr:bn r.re with
   | nil=>rw[hr]at h1;cases h1
   | cons c l2 =>
    rw[hr]at h1 h2 h3;have hc:c=63:=by simpa using h1
    subst hc;have hqf:qf r.sp (utl r.u ps) (63::l2)=fr { utl r.u ps with hq:=true,qry:=E.en (if r.sp=true then 3 else 2) (U.dec (l2.takeWhile eA)) } (l2.dropWhile eA):=rfl;have h3':bn t=l2.dropWhile eA:=h3;rw[hqf,h3'];have h2':bn q=E.en (if r.sp=true then 3 else 2) (U.dec (l2.takeWhile eA)):=h2;rw[<-h2'];rfl
  ·show bn t=[]\/(bn t).head? = some 35;rw[h3];rcases sE (f:=eA) ((bn r.re).drop 1) with hx | ⟨c,t2,hx,hc⟩
   ·exact .inl hx
   ·right;rw[hx];unfold eA at hc;have:c=35:=by simpa using hc
    rw[this];rfl
theorem bL:U.dec []=[]:=rfl
theorem Rn(w0 W:World)(b:Nat)(l:List Int)(h:S7 w0 b l W):Calls prog 56 #[.pointer (some ⟨b,0,none⟩)] W fun e W'=>On w0 l (S8 w0 b l) e W':=by
 obtain⟨r,ps,h,hS,hHQ,g1,g2,g3,g4,g5⟩:=h;refine(sx w0 W b r ps hS (by omega)).mono ?_;rintro e W' ⟨rfl,t,f,h1,h2,hS'⟩;refine .inl ⟨rfl,_,ps,h,hS',hHQ,?_⟩;rw[g4];show _=(utl { r.u with hf:=decide ((bn r.re).head? = some 35),fg:=f } ps,(0:Int));rcases g5 with hx | hx
 ·rw[hx]at h1 ⊢;have ht:bn t=[]:=h1;rw[ht,bL]at h2;have hf:f=em:=ak h2;subst hf;show(utl r.u ps,(0:Int))=(utl { r.u with hf:=false,fg:=em } ps,0);unfold utl;rw[g2,g3]
 ·cases hr:bn r.re with
  | nil=>rw[hr]at hx;cases hx
  | cons c t2 =>
   rw[hr]at hx h1;have hc:c=35:=by simpa using hx
   subst hc;have ht:bn t=t2:=h1;rw[ht]at h2;show({ utl r.u ps with hf:=true,frg:=E.en 1 (U.dec t2) },(0:Int))=(utl { r.u with hf:=true,fg:=f } ps,0);rw[<-h2];rfl
def fno:Nat->Nat
 | 0=>49
 | 1=>50
 | 2=>51
 | 3=>52
 | 4=>53
 | 5=>54
 | 6=>55
 | _=>56
theorem AJ(b:Nat)(W:World):Calls prog 25 #[.pointer (some ⟨b,0,none⟩)] W fun e W'=>e=.returned (.slice (some ⟨W.heap.size,0,none⟩) 8 8)/\(∃ T,W'.heap[W.heap.size]? = some (.cells (fns b) T (0,0)))/\Below W.heap.size W W':=by go_enter func25,ntmps25;go_wp2;go_ret;exact⟨rfl,⟨_,aA W _ _⟩,(Below.refl _ W).alloc (le_refl _) _⟩
theorem Qj(b i:Nat)(hi:i<8):(fns b)[i]? = some (.func (.func (fno i)) #[.pointer (some ⟨b,0,none⟩)] #[]):=by rcases(show i=0\/i=1\/i=2\/i=3\/i=4\/i=5\/i=6\/i=7 by omega) with rfl | rfl | rfl | rfl | rfl | rfl | rfl | rfl <;> rfl
theorem xW(i:Nat)(hi:i<8):∀ args w,(callFunc (fno i) args).run prog w=.ok (.enter (fno i) args) w:=by
 rcases(show i=0\/i=1\/i=2\/i=3\/i=4\/i=5\/i=6\/i=7 by omega) with rfl | rfl | rfl | rfl | rfl | rfl | rfl | rfl
 ·exact enters_of func49 (by kernel_rfl) rfl
 ·exact enters_of func50 (by kernel_rfl) rfl
 ·exact enters_of func51 (by kernel_rfl) rfl
 ·exact enters_of func52 (by kernel_rfl) rfl
 ·exact enters_of func53 (by kernel_rfl) rfl
 ·exact enters_of func54 (by kernel_rfl) rfl
 ·exact enters_of func55 (by kernel_rfl) rfl
 ·exact enters_of func56 (by kernel_rfl) rfl
def Sq(w0:World)(b:Nat)(l:List Int):Nat->World->Prop
 | 0=>S0 w0 b l
 | 1=>S1 w0 b l
 | 2=>S2 w0 b l
 | 3=>S3 w0 b l
 | 4=>S4 w0 b l
 | 5=>S5 w0 b l
 | 6=>S6 w0 b l
 | 7=>S7 w0 b l
 | _=>S8 w0 b l
theorem DT(w0 W:World)(b:Nat)(l:List Int)(i:Nat)(hi:i<8)(h:Sq w0 b l i W)(hG:GU w0):Calls prog (fno i) #[.pointer (some ⟨b,0,none⟩)] W fun e W'=>On w0 l (Sq w0 b l (i+1)) e W':=by
 rcases(show i=0\/i=1\/i=2\/i=3\/i=4\/i=5\/i=6\/i=7 by omega) with rfl | rfl | rfl | rfl | rfl | rfl | rfl | rfl
 ·show Calls prog 49 #[.pointer (some ⟨b,0,none⟩)] W fun e W'=>On w0 l (S1 w0 b l) e W';exact Rt w0 W b l h
 ·show Calls prog 50 #[.pointer (some ⟨b,0,none⟩)] W fun e W'=>On w0 l (S2 w0 b l) e W';exact step1 w0 W b l h
 ·show Calls prog 51 #[.pointer (some ⟨b,0,none⟩)] W fun e W'=>On w0 l (S3 w0 b l) e W';exact step2 w0 W b l h hG
 ·show Calls prog 52 #[.pointer (some ⟨b,0,none⟩)] W fun e W'=>On w0 l (S4 w0 b l) e W';exact Rr w0 W b l h hG
 ·show Calls prog 53 #[.pointer (some ⟨b,0,none⟩)] W fun e W'=>On w0 l (S5 w0 b l) e W';exact Rq w0 W b l h hG
 ·show Calls prog 54 #[.pointer (some ⟨b,0,none⟩)] W fun e W'=>On w0 l (S6 w0 b l) e W';exact Rp w0 W b l h
 ·show Calls prog 55 #[.pointer (some ⟨b,0,none⟩)] W fun e W'=>On w0 l (S7 w0 b l) e W';exact Ro w0 W b l h
 ·show Calls prog 56 #[.pointer (some ⟨b,0,none⟩)] W fun e W'=>On w0 l (S8 w0 b l) e W';exact Rn w0 W b l h
theorem Sq.st{w0 W:World}{b:Nat}{l:List Int}(i:Nat)(h:Sq w0 b l i W):∃ r ps,St w0 b W r ps:=by
 match i,h with
 | 0,⟨_,_,_,h⟩=>exact⟨_,_,h⟩
 | 1,⟨_,_,_,_,_,h⟩=>exact⟨_,_,h⟩
 | 2,⟨_,_,_,_,_,_,_,_,_,h⟩=>exact⟨_,_,h⟩
 | 3,⟨_,_,_,_,h,_⟩=>exact⟨_,_,h⟩
 | 4,⟨_,_,_,h,_⟩=>exact⟨_,_,h⟩
 | 5,⟨_,_,_,h,_⟩=>exact⟨_,_,h⟩
 | 6,⟨_,_,_,h,_⟩=>exact⟨_,_,h⟩
 | 7,⟨_,_,_,h,_⟩=>exact⟨_,_,h⟩
 | i+8,h =>
  obtain⟨r,ps,_,h,_⟩:=(h:S8 w0 b l W);exact⟨r,ps,h⟩
theorem ea{fn:Func}{p u:Tmp}{ty:TypeId}(h:fn.results=#[.cell p ty,.tmp u])(tmps:Array Value)(w:World)(g:Nat)(t:TypeId)(cs:Array Value)(fr:Nat×Nat)(fs:Array Field)
  (hp:tmps.getD p undef=.pointer (some ⟨g,0,none⟩)) (hg:w.heap[g]? = some (.cells cs t fr))
  (hu:prog.underlying ty=some (.struct fs)) (hi:(prog.info? ty).map (·.size)=some cs.size) :
  (results fn tmps).run prog w=.ok (.tuple #[.agg cs,tmps.getD u undef]) w:=by
 rw[results_cell_tmp h];have hp':tmps[p]?.getD undef=.pointer (some ⟨g,0,none⟩):=by simpa using hp
 simp[hp',asAddr,run_loadVar_row w g t ty cs fr (.struct fs) hg hu rfl hi]
def Jh(l:List Int)(w:World)(e:Ending)(W':World):Prop :=
 (∃(a:Us) (u:Ur) (er:Int),UP H.IA l (u,er)/\At W' a u/\e=.returned (.tuple #[.agg (Us.cs a),.int .i64 er]))/\Below w.heap.size w W'
theorem Oc(w:World):At w zs zu:=⟨rfl,rfl,rfl,rfl,rfl,rfl,rfl,rfl,rfl,rfl,rfl,rfl,rfl,[],rfl,.inl ⟨rfl,rfl⟩⟩
theorem QV{w:World}{a:Us}{ps:List ByteArray}(h:Strs w a.pv ps):At w a (utl a ps):=⟨rfl,rfl,rfl,rfl,rfl,rfl,rfl,rfl,rfl,rfl,rfl,rfl,rfl,ps,rfl,h⟩
def z24:Array Value:=#[.string ⟨#[]⟩,.string ⟨#[]⟩,.string ⟨#[]⟩,.bool false,.int .u8 0,.string ⟨#[]⟩,.int .u32 0,.int .u16 0,.int .u16 0,.int .u16 0,.int .u16 0,.int .u16 0,.int .u16 0,.int .u16 0,.int .u16 0,.bool false,.int .u16 0,.bool false,.slice none 0 0,.string ⟨#[]⟩,.bool false,.string ⟨#[]⟩,.bool false,.string ⟨#[]⟩]
theorem NM:Us.cs zs=z24:=by kernel_rfl
theorem xk(s:ByteArray)(hs:4096<s.size)(hz:s.size<=400000000)(w:World):Calls prog 11 #[.string s] w fun e W'=>Jh (bn s) w e W':=by
 have hsz:(4096:Int)<(s.size:Int):=by omega
 have HU:Hid (UP H.IA (bn s) (zu,4)):=by show UP _ _ _;unfold UP;rw[if_pos (by rw[aa];exact hs)]
 obtain⟨V0,hV0⟩:=Ex' (w.alloc (.cells zc 29));have A0:V0.heap[w.heap.size]? = some (.cells z24 29 (0,0)):=by rw[<-hV0];exact aA w _ _
 have B0:Below w.heap.size w V0:=by rw[<-hV0];exact(Below.refl _ w).alloc (le_refl _) _
 have HA0:=hid A0;have HB0:=hid B0;have HI:Hid ((prog.info? 29).map (·.size)=some z24.size):=by show _=_;kernel_rfl
 have HO:Hid (z24.all (·.oneCell')=true):=by show _=_;kernel_rfl
 have HSZ:Hid (z24.size=24):=by show _=_;rfl
 clear A0 B0 hs;go_enter func11,ntmps11;go_wp2_with(refine wpList_store_row rfl 29 (.tmp 2) (.tmp 11) rfl w.heap.size z24 rfl rfl 29 z24 HA0.out HI.out rfl HO.out ?_);exact bodyPost_ret (ea results11 _ _ w.heap.size 29 z24 (0,0) _ rfl (setRow_heap V0 w.heap.size _ z24 29 _ HA0.out) underlying29 HI.out) rfl ⟨⟨zs,zu,4,HU.out,Oc _,by rw[NM];rfl⟩,cS HB0.out (le_refl _) _⟩
theorem Oz{w0 W:World}{b:Nat}{r:Rd}{ps:List ByteArray}(h:St w0 b W r ps):W.rangeAt b 0 (Us.cs r.u).toList:=fun j v hv=>by rw[Nat.zero_add,cell_of_row _ _ j _ _ _ h.row];have hj:=(List.getElem?_eq_some_iff.1 hv).1;have hj24:j<24:=hj;rw[<-Array.getElem?_toList,<-hv];show(Rd.cs r).toList[j]? = (Us.cs r.u).toList[j]?;have e:(Rd.cs r).toList=(Us.cs r.u).toList++[.string r.re,.bool r.sp,.string r.sl,.string r.po]:=rfl;rw[e,List.getElem?_append_left hj]
theorem tZ(s:ByteArray)(hs:s.size<=4096)(w:World)(hG:GU w):Calls prog 11 #[.string s] w fun e W'=>Jh (bn s) w e W':=by
 have hsz:¬ (4096:Int)<(s.size:Int):=by omega
 have hl4:¬ 4096<(bn s).length:=by rw[aa];omega
 obtain⟨l,hl⟩:=Ex' (cln (bn s));have HUP:Hid (∀(h:H.Hst) (u:Ur) (er:Int),HQ l h->rdc l h=(u,er)->UP H.IA (bn s) (u,er)):=fun h u er h1 h2=>by show UP _ _ _;unfold UP;rw[if_neg hl4,hl];exact⟨h,h1,h2.symm⟩
 obtain⟨V0,hV0⟩:=Ex' (w.alloc (.cells zc 29));have A0:V0.heap[w.heap.size]? = some (.cells z24 29 (0,0)):=by rw[<-hV0];exact aA w _ _
 have B0:Below w.heap.size w V0:=by rw[<-hV0];exact(Below.refl _ w).alloc (le_refl _) _
 have HA0:=hid A0;have HB0:=hid B0;have HG:=hid hG;have HTD:=hid (Dx s (by omega) V0 (hG.2.below B0));rw[hl]at HTD
 have HLS:Hid (∀ t:ByteArray,bn t=l->t.size<=80000):=fun t ht=>by
  rw[<-aa,ht,<-hl];unfold cln;have h1:=U.cX ((strip (U.dec (bn s))).filter (fun c=>!tab c));have h2:=List.length_filter_le (fun c=>!tab c) (strip (U.dec (bn s)));have h3:(strip (U.dec (bn s))).length<=(U.dec (bn s)).length:=by unfold strip;rw[length_reverse];refine le_trans (iN _) ?_;rw[length_reverse];exact iN _
  have h4:=U.dv (U.bn s).length (U.bn s) (le_refl _) (U.ay s);rw[U.aa]at h4;have h5:(U.dec (bn s)).length<=s.size:=h4;omega
 have HI:Hid ((prog.info? 29).map (·.size)=some z24.size):=by show _=_;kernel_rfl
 have HO:Hid (z24.all (·.oneCell')=true):=by show _=_;kernel_rfl
 clear A0 B0 hs hG hl hl4;go_enter func11,ntmps11;go_wp2_with fail;clear hV0;refine HTD.out.mono ?_;rintro e w1 ⟨⟨t,rfl,ht⟩,B1⟩;have HT:=hid ht;have HB1:=Bt' HB0 B1;have HA1:Hid (w1.heap[w.heap.size]? = some (.cells z24 29 (0,0))):=(B1.block _ (Array.getElem?_eq_some_iff.1 HA0.out).1).trans HA0.out;obtain⟨w2,hw2⟩:=Ex' (w1.alloc (.cells #[.string ⟨#[]⟩,.string ⟨#[]⟩,.string ⟨#[]⟩,.bool false,.int .u8 0,.string ⟨#[]⟩,.int .u32 0,.int .u16 0,.int .u16 0,.int .u16 0,.int .u16 0,.int .u16 0,.int .u16 0,.int .u16 0,.int .u16 0,.bool false,.int .u16 0,.bool false,.slice none 0 0,.string ⟨#[]⟩,.bool false,.string ⟨#[]⟩,.bool false,.string ⟨#[]⟩,.string t,.bool false,.string ⟨#[]⟩,.string ⟨#[]⟩] 56));have A2:w2.heap[w1.heap.size]? = some (.cells (Rd.cs ⟨zs,t,false,em,em⟩) 56 (0,0)):=by rw[<-hw2];exact aA w1 _ _
 have B2:Below w1.heap.size w1 w2:=by rw[<-hw2];exact(Below.refl _ w1).alloc (le_refl _) _
 have Z2:w2.heap.size=w1.heap.size+1:=by rw[<-hw2];simp
 obtain⟨b,hb⟩:=Ex' w1.heap.size;have HSTP:=hid (AJ b w2);have HX:Hid (∀(V:World),(∃ T,V.heap[b+1]? = some (.cells (fns b) T (0,0)))->Below (b+1) w2 V->Sq w1 b l 0 V):=fun V hk hB=>by refine⟨t,HT.out,HLS.out t HT.out,?_,B2.trans (hB.mono (by omega)),by omega,hk,ownsRow_nil _ _ _ _⟩;rw[hB.block b (by omega),<-hb];exact A2
 rw[Z2,hb]at HSTP;have HLO:=hid hb;have HZ2:=hid Z2;clear ht B1 HA0 HB0 HTD HLS A2 B2 Z2;go_wp2_with fail;clear hw2 hb;refine HSTP.out.mono ?_;rintro e w3 ⟨rfl,hk,B3⟩;have HS0:=hid (HX.out w3 hk B3);have HGB:Hid (GU w1):=HG.out.below HB1.out;have HERR:Hid (∀(V:World) (er:Int),Bad l er->Below w1.heap.size w1 V->∀ V',V'=V.setRow w.heap.size z24->V'.heap[w.heap.size]? = some (.cells z24 29 (0,0))/\Jh (bn s) w (.returned (.tuple #[.agg z24,.int .i64 er])) V'):=fun V er ⟨h,h1,h2⟩ hB V' e=>by subst e;have hr:V.heap[w.heap.size]? = some (.cells z24 29 (0,0)):=(hB.block _ (Array.getElem?_eq_some_iff.1 HA1.out).1).trans HA1.out;have hBw:Below w.heap.size w V:=HB1.out.trans (hB.mono HB1.out.size);exact⟨setRow_heap V w.heap.size _ z24 29 _ hr,⟨zs,zu,er,HUP.out h zu er h1 h2,Oc _,by rw[NM]⟩,cS hBw (le_refl _) _⟩
 have HROW:Hid (∀ V:World,Below w1.heap.size w1 V->V.heap[w.heap.size]? = some (.cells z24 29 (0,0))):=fun V hB=>(hB.block _ (Array.getElem?_eq_some_iff.1 HA1.out).1).trans HA1.out
 have HOK:Hid (∀(V:World) (r:Rd) (ps:List ByteArray) (h:H.Hst),St w1 b V r ps->HQ l h->rdc l h=(utl r.u ps,0)->(V.setRow w.heap.size (Us.cs r.u)).heap[w.heap.size]? = some (.cells (Us.cs r.u) 29 (0,0))/\Jh (bn s) w (.returned (.tuple #[.agg (Us.cs r.u),.int .i64 0])) (V.setRow w.heap.size (Us.cs r.u))):=fun V r ps h hS h1 h2=>by
  have hr:=HROW.out V hS.lo;have hBw:Below w.heap.size w V:=HB1.out.trans (hS.lo.mono HB1.out.size);have hlt:w.heap.size<b:=by have h3:=(Array.getElem?_eq_some_iff.1 HA1.out).1;have h4:=HLO.out;omega
  have hst:Strs (V.setRow w.heap.size (Us.cs r.u)) r.u.pv ps:=nj (W:=V.setRow w.heap.size (Us.cs r.u)) hS.ow (fun k hk=>setRow_other V w.heap.size k _ (by omega));exact⟨setRow_heap V w.heap.size _ _ 29 _ hr,⟨r.u,utl r.u ps,0,HUP.out h _ 0 h1 h2,QV hst,rfl⟩,cS hBw (le_refl _) _⟩
 clear HSTP HX hk B3 HT HA1 HB1 HG HUP HLO HZ2;go_wp2_with fail
 go_loopw [6,7,19] (fun _ _ v19 wr=>∃ i:Nat,i<=8/\v19=.int .i64 i/\Hid (Sq w1 b l i wr)) (fun _ _ v19 _=>8 - (intOf v19).toNat)
 case atStart=>exact⟨0,by omega,rfl,HS0.out⟩
 case round =>
  obtain⟨i,hi,rfl,HR⟩:=hrel;clear HS0;by_cases hlt:i<8
  ·have hltz:(i:Int)<8:=by omega
   obtain⟨r,ps,hS⟩:=Sq.st i HR.out;obtain⟨T,hT⟩:=hS.ks;have hcell:wr.cell? ⟨b+1,i,none⟩=some (.func (.func (fno i)) #[.pointer (some ⟨b,0,none⟩)] #[]):=(cell_of_row _ _ i _ _ _ hT).trans (Qj b i hlt);have eg:=xW i hlt;have HD:=hid (DT w1 wr b l i hlt HR.out HGB.out);obtain⟨g,hg⟩:=Ex' (fno i);rw[hg]at hcell eg HD;clear hS hT HR hg;go_wp2_with fail;refine HD.out.mono ?_;clear HD hcell eg;rintro e w4 (⟨rfl,hN⟩ | ⟨er,hne,rfl,hbad,hB⟩)
   ·have HN:=hid hN;clear hN;go_wp2
    go_roundw
    case rel=>exact⟨i+1,by omega,by go_num,HN.out⟩
    case measure=>simp[intOf];omega
   ·have hneb:(er==0)=false:=beq_eq_false_iff_ne.2 hne;have HA4:=hid (HROW.out w4 hB);obtain⟨q1,q2⟩:=HERR.out w4 er hbad hB _ rfl;have HQ1:=hid q1;have HQ2:=hid q2;clear hne hbad hB q1 q2 HERR HROW HOK;go_wp2_with(refine wpList_store_row rfl 29 (.tmp 2) (.tmp 27) rfl w.heap.size z24 rfl rfl 29 z24 HA4.out HI.out rfl HO.out ?_);exact bodyPost_ret (ea results11 _ _ w.heap.size 29 z24 (0,0) _ rfl HQ1.out underlying29 HI.out) rfl HQ2.out
  ·obtain rfl:i=8:=by omega
   obtain⟨r,ps,h,hS,h1,h2⟩:=(HR.out:S8 w1 b l wr);have HA4:=hid (HROW.out wr hS.lo);obtain⟨q1,q2⟩:=HOK.out wr r ps h hS h1 h2;have HQ1:=hid q1;have HQ2:=hid q2;have HRG:=hid (Oz hS);obtain⟨ad,c,hpv⟩:∃ ad c,r.u.pv=.slice ad ps.length c:=ky hS.ow;have HON:Hid ((Us.cs r.u).all (·.oneCell')=true):=by show _=_;have:=Aq r.u ad ps.length c;rw[<-hpv]at this;exact this
   have HIU:=hid (aL r.u);have HIL:Hid ((prog.info? 29).map (·.size)=some (Us.cs r.u).toList.length):=by show _=_;rw[Array.length_toList];exact HIU.out
   obtain⟨cs,hcs⟩:=Ex' (Us.cs r.u);have HSZ:Hid (cs.size=24):=by show _=_;rw[<-hcs];rfl
   rw[hcs]at HQ1 HQ2 HRG HON HIU HIL;clear hS h1 h2 q1 q2 hpv hcs HERR HROW HOK HR
   go_wp2_with(first
     | (refine wpList_load_mid rfl 29 (.tmp 32) rfl b 0 rfl cs.toList _ HRG.out underlying29 rfl HIL.out ?_)
     | (refine wpList_store_row rfl 29 (.tmp 2) (.tmp 33) rfl w.heap.size cs rfl rfl 29 z24 HA4.out HIU.out (by rw[HSZ.out];rfl) HON.out ?_))
   exact bodyPost_ret (ea results11 _ _ w.heap.size 29 cs (0,0) _ rfl HQ1.out underlying29 HIU.out) rfl HQ2.out
theorem xl(s:ByteArray)(hs:s.size<=100000)(w:World)(hG:GU w):Calls prog 11 #[.string s] w fun e W'=>Jh (bn s) w e W':=by
 by_cases h:4096<s.size
 ·exact xk s h (by omega) w
 ·exact tZ s (by omega) w hG
open Go.RowKit Go.Shelf
open F (bn hid)
theorem wH(s:ByteArray)(hs:s.size<=4000000000)(w:World):Calls prog 36 #[.string s] w fun e W'=>e=.returned (.string s)/\Below w.heap.size w W':=by
 have HL:Hid (∀ W,Calls prog 65 #[.string s] W fun e W'=>e=.returned (.string s)/\Below W.heap.size W W'):=fun W=>by
  have hf:Tryz.laysClo_ren.f 25=65:=by kernel_rfl
  have h:=AnyPu.stringslite_Clone Tryz.laysClo s W (by omega);rw[hf]at h;exact h
 go_enter func36,ntmps36;go_wp2_with fail;refine(HL.out _).mono ?_;rintro e W' ⟨rfl,B⟩;have HB:=hid B;clear B;go_wp2;go_ret;exact⟨rfl,HB.out⟩
abbrev Bld(B b:Nat)(l:List UInt8)(w:World):Prop:=Lib.IsBuilder 72 5 B b (Lib.byteCells l) w
theorem Ao(B b:Nat)(l:List UInt8)(c:UInt8)(w:World)(h:Bld B b l w)(hl:l.length<=4000000000)(hB:B<=w.heap.size):Calls prog 37 #[.pointer (some ⟨b,0,none⟩),.int .u8 c.toNat] w fun e W'=>e=.returned .nilIface/\Bld B b (l++[c]) W'/\Below B w W':=by
 have hf:Tryz.laysMap_ren.f 167=37:=by kernel_rfl
 have h72:Tryz.laysMap_ren.t 72=72:=by kernel_rfl
 have h5:Tryz.laysMap_ren.t 5=5:=by kernel_rfl
 have q:=Any.Builder_WriteByte (P:=prog) (ρ:=Tryz.laysMap_ren) { Tryz.laysMap with } Ly B b (Lib.byteCells l) c.toNat w (by rw[h72,h5];exact h) (by rw[Lib.byteCells_length];omega) hB;rw[hf,h72,h5]at q;refine q.mono ?_;rintro e W' ⟨rfl,q1,q2⟩;refine⟨rfl,.inr ?_,q2⟩;have e2:Lib.byteCells (l++[c])=Lib.byteCells l++[.int .u8 c.toNat]:=by unfold Lib.byteCells;rw[map_append];rfl
 rw[e2];exact q1
theorem CN(B b:Nat)(l:List UInt8)(s:ByteArray)(w:World)(h:Bld B b l w)(hl:l.length+s.size<=4000000000)(hB:B<=w.heap.size):Calls prog 38 #[.pointer (some ⟨b,0,none⟩),.string s] w fun e W'=>e=.returned (.tuple #[.int .i64 s.size,.nilIface])/\Bld B b (l++s.data.toList) W'/\Below B w W':=by
 have hf:Tryz.laysMap_ren.f 166=38:=by kernel_rfl
 have h72:Tryz.laysMap_ren.t 72=72:=by kernel_rfl
 have h5:Tryz.laysMap_ren.t 5=5:=by kernel_rfl
 have q:=Any.Builder_WriteString (P:=prog) (ρ:=Tryz.laysMap_ren) { Tryz.laysMap with } Ly B b (Lib.byteCells l) s w (by rw[h72,h5];exact h) (by rw[Lib.byteCells_length];omega) hB;rw[hf,h72,h5]at q;refine q.mono ?_;rintro e W' ⟨rfl,q1,q2⟩;refine⟨rfl,.inr ?_,q2⟩;have e2:Lib.byteCells (l++s.data.toList)=Lib.byteCells l++Lib.strCells s:=by unfold Lib.byteCells;rw[map_append];rfl
 rw[e2];exact q1
theorem IE(B b:Nat)(l:List UInt8)(w:World)(h:Bld B b l w)(hB:B<=w.heap.size):Calls prog 39 #[.pointer (some ⟨b,0,none⟩)] w fun e W'=>e=.returned (.string ⟨l.toArray⟩)/\Below B w W':=by
 have hf:Tryz.laysMap_ren.f 169=39:=by kernel_rfl
 have h72:Tryz.laysMap_ren.t 72=72:=by kernel_rfl
 have h5:Tryz.laysMap_ren.t 5=5:=by kernel_rfl
 have q:=Any.Builder_String_any (P:=prog) (ρ:=Tryz.laysMap_ren) { Tryz.laysMap with } Ly B b l w (by rw[h72,h5];exact h) hB;rw[hf]at q;exact q
def wrt(ps:List ByteArray)(i:Nat):List UInt8:=(ps.take i).flatMap (fun p=>47::p.data.toList)
theorem CP(ps:List ByteArray)(i:Nat)(p:ByteArray)(h:ps[i]? = some p):wrt ps (i+1)=(wrt ps i++[47])++p.data.toList:=by unfold wrt;have hi:=(List.getElem?_eq_some_iff.1 h);rw[List.take_succ_eq_append_getElem hi.1,List.flatMap_append,hi.2];simp
theorem yE(ps:List ByteArray):(wrt ps ps.length).map (fun c:UInt8=>(c.toNat:Int))=(ps.map bn).flatMap (fun p=>47::p):=by unfold wrt;rw[List.take_length,List.map_flatMap,List.flatMap_map];rfl
theorem Jq(ps:List ByteArray)(i:Nat):(wrt ps i).length<=(wrt ps ps.length).length:=by
 have e:wrt ps ps.length=wrt ps i++(ps.drop i).flatMap (fun p=>47::p.data.toList):=by unfold wrt;rw[<-List.flatMap_append,List.take_append_drop,List.take_length]
 rw[e,length_append];omega
def NK(a:Us)(ps:List ByteArray)(w:World)(e:Ending)(W':World):Prop :=
 (∃ t,e=.returned (.string t)/\bn t=if a.op=true then bn a.bo else (ps.map bn).flatMap (fun p=>47::p))/\Below w.heap.size w W'
theorem Ky(a:Us)(ps:List ByteArray)(w:World)(hp:Strs w a.pv ps)(hb:a.bo.size<=4000000000)(hn:ps.length<=1000000)(hl:((ps.map bn).flatMap (fun p=>(47:Int)::p)).length<=900000000):Calls prog 19 #[.agg (Us.cs a)] w fun e W'=>NK a ps w e W':=by
 have hwl:(wrt ps ps.length).length<=900000000:=by have:=congrArg List.length (yE ps);rw[length_map]at this;omega
 obtain⟨V,hV⟩:=Ex' (w.alloc (.cells (Us.cs a) 29));have A0:V.heap[w.heap.size]? = some (.cells (Us.cs a) 29 (0,0)):=by rw[<-hV];exact aA w _ _
 have B0:Below w.heap.size w V:=by rw[<-hV];exact(Below.refl _ w).alloc (le_refl _) _
 have F17:V.cell? ⟨w.heap.size,17,none⟩=some (.bool a.op):=cell_of_row _ _ 17 _ _ _ A0;have HB0:=hid B0;rcases(show a.op=true\/a.op=false by cases a.op <;> simp) with ho | ho
 ·have F19:V.cell? ⟨w.heap.size,19,none⟩=some (.string a.bo):=cell_of_row _ _ 19 _ _ _ A0;rw[ho]at F17;have HO:=hid ho;have HC:=hid (wH a.bo hb V);clear A0 B0 ho hp hwl hl;go_enter func19,ntmps19;go_wp2_with fail;clear hV F17 F19;refine HC.out.mono ?_;rintro e w1 ⟨rfl,B1⟩;have HB:=Bt' HB0 B1;clear B1 HC;go_wp2;go_ret;exact⟨⟨a.bo,rfl,by rw[if_pos HO.out]⟩,HB.out⟩
 ·rw[ho]at F17;have HO:=hid ho;obtain⟨ad,c,hpv,hnc,hq⟩:=(hp.below B0).form;have F18:V.cell? ⟨w.heap.size,18,none⟩=some (.slice ad ps.length c):=(cell_of_row _ _ 18 _ _ _ A0).trans (by show some a.pv=_;rw[hpv]);obtain⟨B,hB⟩:=Ex' V.heap.size;obtain⟨V2,hV2⟩:=Ex' (V.alloc (.cells #[.pointer none,.slice none 0 0] 72));have A2:V2.heap[B]? = some (.cells #[.pointer none,.slice none 0 0] 72 (0,0)):=by rw[<-hV2,<-hB];exact aA V _ _
  have B2:Below B V V2:=by rw[<-hV2,<-hB];exact(Below.refl _ V).alloc (le_refl _) _
  have hw1:w.heap.size<B:=by rw[<-hB];exact(Array.getElem?_eq_some_iff.1 A0).1
  have F18b:V2.cell? ⟨w.heap.size,18,none⟩=some (.slice ad ps.length c):=(B2.cell (p:=⟨w.heap.size,18,none⟩) hw1).trans F18;have HBL:Hid (Bld B B [] V2):=.inl ⟨le_refl _,_,A2,ownsRow_nil _ _ _ _,fun h=>by cases h⟩;have HB2:=hid B2;have HVB:=hid hB
  have HCE:Hid (∀(X:World) (i:Nat),Below B V X->i<ps.length->∃ b o x,ad=some ⟨b,o,none⟩/\ps[i]? = some x/\X.cell? ⟨b,o+i,none⟩=some (.string x)):=fun X i hX hi=>by
   rcases hq with h0 | ⟨b,o,rfl,hc⟩
   ·rw[h0]at hi;simp at hi
   ·refine⟨b,o,ps[i],rfl,List.getElem?_eq_getElem hi,?_⟩;have h1:=hc i hi;rw[List.getElem?_eq_getElem hi]at h1;exact(hX.cell (p:=⟨b,o+i,none⟩) (by rw[<-HVB.out];exact World.block_lt_of_cell? _ _ h1)).trans h1
  obtain⟨n,hn2⟩:=Ex' ps.length;have HN:=hid hn2;have HAL:=hid (yE ps);have HWL:=hid (fun i=>le_trans (Jq ps i) hwl);have HWN:=hid (CP ps);rw[hn2]at F18 F18b hn HCE;clear A0 B0 ho hp hq hpv hnc A2 B2 hn2 hwl hl F18;go_enter func19,ntmps19;go_wp2_with fail;clear hV hV2 F17 hB F18b
  go_loopw [5,14] (fun _ v14 wr=>∃ i:Nat,i<=n/\v14=.int .i64 i/\Hid (Below B V wr/\Bld B B (wrt ps i) wr)) (fun _ v14 _=>n - (intOf v14).toNat)
  case atStart=>exact⟨0,Nat.zero_le _,rfl,HB2.out,HBL.out⟩
  case round =>
   obtain⟨i,hi,rfl,HR⟩:=hrel;clear HBL;by_cases hlt:i<n
   ·have hltz:(i:Int)<(n:Int):=by omega
    obtain⟨bk,o,x,rfl,hx,hcell⟩:=HCE.out wr i HR.out.1 hlt;have hlen:=HWL.out (i+1);have hnx:=HWN.out i x hx;rw[hnx,length_append,length_append]at hlen;have hxl:x.data.toList.length=x.size:=(Lib.size_eq x).symm;have hBs:B<=wr.heap.size:=by rw[<-HVB.out];exact HR.out.1.size
    have HW1:=hid (Ao B B (wrt ps i) 47 wr HR.out.2 (by omega) hBs);have HW2:Hid (∀ X,Bld B B (wrt ps i++[47]) X->B<=X.heap.size->Calls prog 38 #[.pointer (some ⟨B,0,none⟩),.string x] X fun e W'=>e=.returned (.tuple #[.int .i64 x.size,.nilIface])/\Bld B B (wrt ps (i+1)) W'/\Below B X W'):=fun X h1 h2=>by rw[hnx];exact CN B B (wrt ps i++[47]) x X h1 (by rw[length_append];omega) h2
    have HBR:=hid HR.out.1;have HBS:=hid hBs;clear hx hnx hlen hxl hBs HR HCE HWL HWN;go_wp2_with fail;refine HW1.out.mono ?_;rintro e w1 ⟨rfl,q1,q2⟩;have HX2:=hid (HW2.out w1 q1 (le_trans HBS.out q2.size));have HQ2:=hid q2;clear q1 q2 hcell HW1 HW2;go_wp2_with fail;refine HX2.out.mono ?_;rintro e w2 ⟨rfl,q3,q4⟩;have HE:Hid (Below B V w2/\Bld B B (wrt ps (i+1)) w2):=⟨(HBR.out.trans HQ2.out).trans q4,q3⟩;clear q3 q4 HX2;go_wp2
    go_roundw
    case rel=>exact⟨i+1,by omega,by go_num,HE.out⟩
    case measure=>simp[intOf];omega
   ·have hltz:¬ (i:Int)<(n:Int):=by omega
    obtain rfl:i=n:=by omega
    have HS:=hid (IE B B (wrt ps i) wr HR.out.2 (by rw[<-HVB.out];exact HR.out.1.size));have HBR:=hid HR.out.1;clear HR HCE HWL HWN;go_wp2_with fail;refine HS.out.mono ?_;rintro e w1 ⟨rfl,q1⟩;have HE:Hid (Below w.heap.size w w1):=HB0.out.trans ((HBR.out.trans q1).mono (by omega));have HT:Hid (bn ⟨(wrt ps i).toArray⟩=(ps.map bn).flatMap (fun p=>47::p)):=by show(wrt ps i).map (fun c:UInt8=>(c.toNat:Int))=_;rw[<-HN.out];exact HAL.out
    obtain⟨T,hT⟩:=Ex' ((⟨(wrt ps i).toArray⟩:ByteArray):ByteArray);rw[hT]at HT ⊢;clear q1 hT HS;go_wp2;go_ret;exact⟨⟨T,rfl,by rw[if_neg (by rw[HO.out];simp)];exact HT.out⟩,HE.out⟩
end Y
namespace H
section
variable {P : Program} {ops : Array Oper} {S : World -> Prop}
end
end H
end Go.Proofs.YtlmflmdmolcfhaaGreatDoor
namespace Go.Proofs
open Go.Shelf Go.RowKit
shelf_lay LaysM.n288 Nm 288 at Tryz as Tryz.laysAppU
end Go.Proofs
namespace Go.Proofs.YtlmflmdmolcfhaaGreatDoor
open Tryz Go.RowKit
namespace F
theorem Tryz.info5:(prog.info? 5).map (fun i=>(i.zero,i.size,i.bytes))=some (some (.int .u8 0),1,1):=by kernel_rfl
theorem cO{base n:Nat}{v:Value}{X:List Value}{W:World}(h:W.ownsRow base 5 1 v n X):∃ a cap,v=.slice a n cap:=by
 rcases h.2 with⟨rfl,h0⟩ | ⟨g,cap,cur,rfl,_⟩
 ·exact⟨none,0,by rw[h0]⟩
 ·exact⟨_,cap,rfl⟩
def Bytes(l:List Int):Prop:=∀ b∈l,0<=b/\b<=255
theorem dL:∀(ns:List Int),Bytes ns->(((ns.map fun n=>UInt8.ofNat n.toNat).toArray).toList.map fun c=>(c.toNat:Int))=ns
 | [],_=>rfl
 | a::l,h=>by have ih:=dL l (fun b hb=>h b (by simp[hb]));have ha:=h a (by simp);simp only[List.map_cons]at ih ⊢;rw[ih];congr 1;simp only[UInt8.toNat_ofNat'];omega
theorem gx(g j:Nat):((⟨g,0,none⟩:Addr).add j)=⟨g,j,none⟩:=by simp[Addr.add];exact fun h=>h.symm
theorem aV(w:World)(base:Nat)(v:Value)(n:Nat)(ns:List Int)(hn:n=ns.length)(hb:Bytes ns)(ag:w.ownsRow base 5 1 v n (ns.map (Value.int .u8))):
  ∃ t:ByteArray,(convert 42 9 v).run prog w=.ok (.string t) w/\bn t=ns:=by
 subst hn;rcases id ag.2 with⟨rfl,h0⟩ | ⟨g,cap,cur,rfl,_⟩
 ·refine⟨⟨#[]⟩,?_,?_⟩
  ·rw[run_convert_bytes_string w 42 9 5 none 0 0 underlying42 underlying5 underlying9];simp[Conv.bytesToString];rfl
  ·rw[List.length_eq_zero_iff.1 h0];rfl
 ·refine⟨⟨(ns.map fun n=>UInt8.ofNat n.toNat).toArray⟩,?_,?_⟩
  ·have:=run_convert_bytes_back (P:=prog) w 42 9 5 ⟨g,0,none⟩ cap (ns.map fun n=>UInt8.ofNat n.toNat) underlying42 underlying5 underlying9 (by
     intro j hj
     rw[gx,ag.cellAt j (by simpa using hj)]
     have hj':j<ns.length:=by simpa using hj
     have hbj:=hb ns[j] (List.getElem_mem hj')
     rw[List.getElem?_map,List.getElem?_eq_getElem hj']
     simp only[Option.map_some,List.getElem_map,UInt8.toNat_ofNat']
     congr 2
     omega)
   rw[length_map]at this;exact this
  ·unfold bn;simp only;exact dL ns hb
theorem Iw{u:Nat}(h:u<256):Lib.byteCells (Lib.decDigits u)=(wr 10 u).map (Value.int .u8):=by rw[<-yk ⟨u,h⟩];unfold Lib.byteCells;rw[List.map_map];rfl
theorem dv{u:Nat}(h:u<256):(Lib.decDigits u).length=(wr 10 u).length:=by rw[<-yk ⟨u,h⟩,length_map]
theorem CS{u:Nat}(h:u<256):Bytes (wr 10 u):=by rw[<-yk ⟨u,h⟩];intro b hb;obtain⟨c,_,rfl⟩:=List.mem_map.1 hb;have:=c.toNat_lt;omega
theorem jX:∀ u:Fin 256,(wr 10 u.val).length<=3:=by decide +kernel
theorem IV(B m u c:Nat)(a:Option Addr)(X:List Int)(hu:u<256)(w:World)(hp:Pow w)(hB:B<=w.heap.size)(hm:m<=1000)(hown:w.ownsRow B 5 1 (.slice a m c) m (X.map (Value.int .u8))):
  Calls prog 187 #[.slice a m c,.int .u64 u,.int .i64 10] w fun e W'=>(∃ a' c',e=.returned (.slice a' (m+(wr 10 u).length) c')/\W'.ownsRow B 5 1 (.slice a' (m+(wr 10 u).length) c') (m+(wr 10 u).length) ((X++wr 10 u).map (Value.int .u8)))/\Below B w W':=by
 have hf:Tryz.laysAppU_ren.f 288=187:=by kernel_rfl
 have ht:Tryz.laysAppU_ren.t 5=5:=by kernel_rfl
 have key:Calls prog 187 #[.slice a m c,.int .u64 u,.int .i64 10] w fun e w'=>∃ v',e=.returned v'/\w'.ownsRow B 5 1 v' (m+(Lib.decDigits u).length) (X.map (Value.int .u8)++Lib.byteCells (Lib.decDigits u))/\Below B w w':=by
  rw[<-hf,<-ht];rw[<-ht]at hown;by_cases h:u<100
  ·refine(Any.internal_strconv_AppendUint_10_small Tryz.laysAppU B m u h _ _ w hown hB (by omega)).mono ?_;rintro e w' ⟨v,h1,h2,h3,_⟩;exact⟨v,h1,h2,h3⟩
  ·refine(Any.internal_strconv_AppendUint_10_big Tryz.laysAppU B m u (by omega) (by omega) _ _ w hown hB (by omega) ?_).mono ?_
   ·unfold Lib.TabIs World.var?;rw[show prog.globalNamed _=some 2 from by kernel_rfl];exact hp
   ·rintro e w' ⟨v,h1,h2,h3,_⟩;exact⟨v,h1,h2,h3⟩
 refine key.mono ?_;rintro e w' ⟨v,rfl,h2,h3⟩;rw[Iw hu,dv hu,<-map_append]at h2;obtain⟨a',c',rfl⟩:=cO h2;exact⟨⟨a',c',rfl,h2⟩,h3⟩
theorem IU(B m u c:Nat)(a:Option Addr)(X:List Int)(hu:u<256)(w:World)(hp:Pow w)(hB:B<=w.heap.size)(hm:m<=1000)(hown:w.ownsRow B 5 1 (.slice a m c) m (X.map (Value.int .u8))):
  Calls prog 144 #[.slice a m c,.int .u64 u,.int .i64 10] w fun e W'=>(∃ a' c',e=.returned (.slice a' (m+(wr 10 u).length) c')/\W'.ownsRow B 5 1 (.slice a' (m+(wr 10 u).length) c') (m+(wr 10 u).length) ((X++wr 10 u).map (Value.int .u8)))/\Below B w W':=by
 have H:=hid (IV B m u c a X hu w hp hB hm hown);clear hp hown hB;go_enter func144,ntmps144;go_wp2_with(go_at_call 187;refine H.out.mono ?_;rintro e w4 ⟨⟨q4,c4,rfl,r4⟩,B4⟩);go_ret;exact⟨⟨q4,c4,rfl,r4⟩,B4⟩
def pd(a:Nat):Nat->List Int
 | 0=>[]
 | k+1=>pd a k++(if 0<k then [46] else [])++wr 10 (byt a k)
theorem Pl{a:Nat}(ha:a<4294967296):pd a 4=txt a:=by
 have b0:byt a 0=a / 16777216:=by show a / 16777216 % 256=_;omega
 have b1:byt a 1=a / 65536 % 256:=rfl;have b2:byt a 2=a / 256 % 256:=rfl;have b3:byt a 3=a % 256:=by show a / 1 % 256=_;omega
 have e:pd a 4=(((([]++[]++wr 10 (byt a 0))++[46]++wr 10 (byt a 1))++[46])++wr 10 (byt a 2))++[46]++wr 10 (byt a 3):=rfl;have f:txt a=wr 10 (a / 16777216)++46::(wr 10 (a / 65536 % 256)++46::(wr 10 (a / 256 % 256)++46::wr 10 (a % 256))):=rfl;rw[e,f,b0,b1,b2,b3];simp
theorem tX(a:Nat):∀ k,Bytes (pd a k)
 | 0=>fun b hb=>by simp[pd]at hb
 | k+1=>fun b hb=>by
  rw[pd,List.mem_append,List.mem_append]at hb;rcases hb with(hb | hb) | hb
  ·exact tX a k b hb
  ·split at hb
   ·simp at hb;omega
   ·simp at hb
  ·exact CS (mod_lt _ (by decide)) b hb
theorem ng(a:Nat)(ha:a<4294967296)(w:World)(hp:Pow w):
  Calls prog 100 #[.int .u32 a] w fun e W'=>pz a w e W':=by
 obtain⟨i0,hi,hz0,hz1,hz2⟩:=info_parts Tryz.info5;have HAP:=hid IU;have HWS:=hid jX;have HGS:Hid (∀ e W,((∃ t,e=.returned (.string t)/\bn t=pd a 4)/\Below w.heap.size w W)->pz a w e W):=fun e W h=>by rw[Pl ha]at h;exact h
 have hgs:=hp.size;have HPW:Hid (∀ W,Below w.heap.size w W->Pow W):=fun W h=>hp.below hgs h;clear hp;go_enter func100,ntmps100;go_wp2_with fail
 go_loopw [3,5] (fun v3 v5 wr=>∃(k m c:Nat) (q:Option Addr),k<=4/\m<=4 * k/\v3=.slice q m c/\v5=.int .i64 (k:Int)/\Hid (m=(pd a k).length)/\Hid (wr.ownsRow w.heap.size 5 1 (.slice q m c) m ((pd a k).map (Value.int .u8)))/\Hid (Below w.heap.size w wr)) (fun _ v5 _=>(4 - intOf v5).toNat)
 case atStart=>exact⟨0,0,0,none,by omega,by omega,rfl,rfl,rfl,ownsRow_nil _ _ _ _,Below.refl _ _⟩
 case round =>
  obtain⟨k,m,c,q,hk,hmk,rfl,rfl,HM,HR,HB⟩:=hrel;have zj:=HB.out.size;obtain rfl | rfl | rfl | rfl | rfl:k=0\/k=1\/k=2\/k=3\/k=4:=by omega
  ·have HPN:Hid (pd a 1=pd a 0++[]++F.wr 10 (byt a 0)):=rfl;have hb:byt a 0<256:=mod_lt _ (by decide);have hbz:((byt a 0:Nat):Int)=((a:Int) / 16777216) % 256:=by show((a / 16777216 % 256:Nat):Int)=_;omega
   have hws:=HWS.out ⟨byt a 0,hb⟩;have hws':(F.wr 10 (byt a 0)).length<=3:=hws;obtain⟨y,hy⟩:=Ex' (byt a 0);have hmod:((a:Int) / 16777216) % 256=(y:Int):=by rw[<-hbz,hy]
   have hwr:IntKind.u8.wrap ((a:Int) / 16777216)=(y:Int):=by rw[<-hmod];simp[IntKind.wrap,IntKind.bits,IntKind.signed]
   rw[hy]at hb HPN hws';clear hy hbz hws HWS;have hm0:m=0:=by omega
   have HP:=hid (HPW.out _ HB.out);have HA:=hid (HAP.out w.heap.size m y c q (pd a 0) hb wr HP.out HB.out.size (by omega) HR.out);clear hm0;go_wp2_with(go_at_call 144;refine HA.out.mono ?_;rintro e w4 ⟨⟨q4,c4,rfl,r4⟩,B4⟩)
   go_roundw
   case rel=>exact⟨1,_,c4,q4,by omega,by omega,rfl,by go_num,by show _=_;rw[HPN.out,length_append,length_append,HM.out];simp,by show World.ownsRow _ _ _ _ _ _ _;rw[HPN.out,List.append_nil];exact r4,HB.out.trans B4⟩
   case measure=>simp[intOf]
  ·have HPN:Hid (pd a 2=pd a 1++[46]++F.wr 10 (byt a 1)):=rfl;have hb:byt a 1<256:=mod_lt _ (by decide);have hbz:((byt a 1:Nat):Int)=((a:Int) / 65536) % 256:=by show((a / 65536 % 256:Nat):Int)=_;omega
   have hws:=HWS.out ⟨byt a 1,hb⟩;have hws':(F.wr 10 (byt a 1)).length<=3:=hws;obtain⟨y,hy⟩:=Ex' (byt a 1);have hmod:((a:Int) / 65536) % 256=(y:Int):=by rw[<-hbz,hy]
   have hwr:IntKind.u8.wrap ((a:Int) / 65536)=(y:Int):=by rw[<-hmod];simp[IntKind.wrap,IntKind.bits,IntKind.signed]
   rw[hy]at hb HPN hws';clear hy hbz hws HWS
   go_wp2_with(first
     | (at_builtin;refine wpList_append_own _ rfl _ _ 42 rfl w.heap.size 5 i0 (.int .u8 0) 1 1 underlying42 hi hz0 hz1 hz2 rfl (by decide) _ _ _ rfl (HR.out.alloc _) ⟨wr.heap.size,0,none⟩ 1 1 [.int .u8 46] rfl rfl (oh _ _ _) (by simp[Value.oneCell']) (by unfold maxLen;omega) (by omega) (by simp;omega) ?_;intro v3 w3 r3 g3 _;obtain⟨a3,c3,rfl⟩:=cO r3;have HR3:Hid (w3.ownsRow w.heap.size 5 1 (.slice a3 (m+1) c3) (m+1) ((pd a 1++[46]).map (Value.int .u8))):=(by show World.ownsRow _ _ _ _ _ _ _;rw[map_append];exact r3);have HB3:=hid (below_grow (w1:=wr.alloc (.cells #[.int .u8 46] 5)) (HB.out.alloc HB.out.size _) (le_trans HB.out.size (by simp)) (HR.out.alloc _) g3);clear r3 g3)
     | (go_at_call 144;refine(HAP.out w.heap.size (m+1) y c3 a3 (pd a 1++[46]) hb w3 (HPW.out _ HB3.out) HB3.out.size (by omega) HR3.out).mono ?_;rintro e w4 ⟨⟨q4,c4,rfl,r4⟩,B4⟩))
   go_roundw
   case rel=>exact⟨2,_,c4,q4,by omega,by omega,rfl,by go_num,by show _=_;rw[HPN.out,length_append,length_append,HM.out];rfl,by show World.ownsRow _ _ _ _ _ _ _;rw[HPN.out];exact r4,HB3.out.trans B4⟩
   case measure=>simp[intOf]
  ·have HPN:Hid (pd a 3=pd a 2++[46]++F.wr 10 (byt a 2)):=rfl;have hb:byt a 2<256:=mod_lt _ (by decide);have hbz:((byt a 2:Nat):Int)=((a:Int) / 256) % 256:=by show((a / 256 % 256:Nat):Int)=_;omega
   have hws:=HWS.out ⟨byt a 2,hb⟩;have hws':(F.wr 10 (byt a 2)).length<=3:=hws;obtain⟨y,hy⟩:=Ex' (byt a 2);have hmod:((a:Int) / 256) % 256=(y:Int):=by rw[<-hbz,hy]
   have hwr:IntKind.u8.wrap ((a:Int) / 256)=(y:Int):=by rw[<-hmod];simp[IntKind.wrap,IntKind.bits,IntKind.signed]
   rw[hy]at hb HPN hws';clear hy hbz hws HWS
   go_wp2_with(first
     | (at_builtin;refine wpList_append_own _ rfl _ _ 42 rfl w.heap.size 5 i0 (.int .u8 0) 1 1 underlying42 hi hz0 hz1 hz2 rfl (by decide) _ _ _ rfl (HR.out.alloc _) ⟨wr.heap.size,0,none⟩ 1 1 [.int .u8 46] rfl rfl (oh _ _ _) (by simp[Value.oneCell']) (by unfold maxLen;omega) (by omega) (by simp;omega) ?_;intro v3 w3 r3 g3 _;obtain⟨a3,c3,rfl⟩:=cO r3;have HR3:Hid (w3.ownsRow w.heap.size 5 1 (.slice a3 (m+1) c3) (m+1) ((pd a 2++[46]).map (Value.int .u8))):=(by show World.ownsRow _ _ _ _ _ _ _;rw[map_append];exact r3);have HB3:=hid (below_grow (w1:=wr.alloc (.cells #[.int .u8 46] 5)) (HB.out.alloc HB.out.size _) (le_trans HB.out.size (by simp)) (HR.out.alloc _) g3);clear r3 g3)
     | (go_at_call 144;refine(HAP.out w.heap.size (m+1) y c3 a3 (pd a 2++[46]) hb w3 (HPW.out _ HB3.out) HB3.out.size (by omega) HR3.out).mono ?_;rintro e w4 ⟨⟨q4,c4,rfl,r4⟩,B4⟩))
   go_roundw
   case rel=>exact⟨3,_,c4,q4,by omega,by omega,rfl,by go_num,by show _=_;rw[HPN.out,length_append,length_append,HM.out];rfl,by show World.ownsRow _ _ _ _ _ _ _;rw[HPN.out];exact r4,HB3.out.trans B4⟩
   case measure=>simp[intOf]
  ·have HPN:Hid (pd a 4=pd a 3++[46]++F.wr 10 (byt a 3)):=rfl;have hb:byt a 3<256:=mod_lt _ (by decide);have hbz:((byt a 3:Nat):Int)=(a:Int) % 256:=by show((a / 1 % 256:Nat):Int)=_;omega
   have hws:=HWS.out ⟨byt a 3,hb⟩;have hws':(F.wr 10 (byt a 3)).length<=3:=hws;obtain⟨y,hy⟩:=Ex' (byt a 3);have hmod:(a:Int) % 256=(y:Int):=by rw[<-hbz,hy]
   have hwr:IntKind.u8.wrap (a:Int)=(y:Int):=by rw[<-hmod];simp[IntKind.wrap,IntKind.bits,IntKind.signed]
   rw[hy]at hb HPN hws';clear hy hbz hws HWS
   go_wp2_with(first
     | (at_builtin;refine wpList_append_own _ rfl _ _ 42 rfl w.heap.size 5 i0 (.int .u8 0) 1 1 underlying42 hi hz0 hz1 hz2 rfl (by decide) _ _ _ rfl (HR.out.alloc _) ⟨wr.heap.size,0,none⟩ 1 1 [.int .u8 46] rfl rfl (oh _ _ _) (by simp[Value.oneCell']) (by unfold maxLen;omega) (by omega) (by simp;omega) ?_;intro v3 w3 r3 g3 _;obtain⟨a3,c3,rfl⟩:=cO r3;have HR3:Hid (w3.ownsRow w.heap.size 5 1 (.slice a3 (m+1) c3) (m+1) ((pd a 3++[46]).map (Value.int .u8))):=(by show World.ownsRow _ _ _ _ _ _ _;rw[map_append];exact r3);have HB3:=hid (below_grow (w1:=wr.alloc (.cells #[.int .u8 46] 5)) (HB.out.alloc HB.out.size _) (le_trans HB.out.size (by simp)) (HR.out.alloc _) g3);clear r3 g3)
     | (go_at_call 144;refine(HAP.out w.heap.size (m+1) y c3 a3 (pd a 3++[46]) hb w3 (HPW.out _ HB3.out) HB3.out.size (by omega) HR3.out).mono ?_;rintro e w4 ⟨⟨q4,c4,rfl,r4⟩,B4⟩))
   go_roundw
   case rel=>exact⟨4,_,c4,q4,by omega,by omega,rfl,by go_num,by show _=_;rw[HPN.out,length_append,length_append,HM.out];rfl,by show World.ownsRow _ _ _ _ _ _ _;rw[HPN.out];exact r4,HB3.out.trans B4⟩
   case measure=>simp[intOf]
  ·obtain⟨t,hcv,htb⟩:=aV wr w.heap.size _ _ (pd a 4) HM.out (tX a 4) HR.out;have HTB:=hid htb;clear htb HM HR HAP HWS HPW;go_wp2;go_ret;exact HGS.out _ _ ⟨⟨t,rfl,HTB.out⟩,HB.out⟩
end F
namespace X
open F (hid)
def Clr(A X:List Nat)(f i:Nat):Prop:=X.length=8/\∀ j,X[j]?.getD 0=if f<=j/\j<f+i then 0 else A[j]?.getD 0
theorem Clr.start{A:List Nat}{f:Nat}(hA:A.length=8):Clr A A f 0:=⟨hA,fun j=>by rw[if_neg (by omega)]⟩
theorem Clr.step{A X:List Nat}{f i:Nat}(h:Clr A X f i)(hi:f+i<8):Clr A (X.set (f+i) 0) f (i+1):=by
 obtain⟨h8,h⟩:=h;refine⟨by rw[List.length_set];exact h8,fun j=>?_⟩;by_cases e:j=f+i
 ·rw[e,List.getElem?_set_self (by omega),if_pos (by omega)];rfl
 ·rw[List.getElem?_set_ne (by omega),h j];by_cases e2:f<=j/\j<f+i
  ·rw[if_pos e2,if_pos (by omega)]
  ·rw[if_neg e2,if_neg (by omega)]
theorem vY(a0 a1 a2 a3 a4 a5 a6 a7 f n:Nat)(hn:f+n<=8)(w:World):
  Calls prog 188 #[.agg #[.int .u16 a0,.int .u16 a1,.int .u16 a2,.int .u16 a3,.int .u16 a4,.int .u16 a5,.int .u16 a6,.int .u16 a7],.int .i64 (f:Int),.int .i64 (n:Int)] w fun e W'=>(∃ X,Clr [a0,a1,a2,a3,a4,a5,a6,a7] X f n/\e=.returned (.agg (ai X).toArray))/\Below w.heap.size w W':=by
 obtain⟨w1,hw1⟩:=Ex' (w.alloc (.cells #[.int .u16 a0,.int .u16 a1,.int .u16 a2,.int .u16 a3,.int .u16 a4,.int .u16 a5,.int .u16 a6,.int .u16 a7] 24));obtain⟨w3,hw3⟩:=Ex' (w1.alloc (.cells #[.int .u16 0,.int .u16 0,.int .u16 0,.int .u16 0,.int .u16 0,.int .u16 0,.int .u16 0,.int .u16 0] 24));have hz1:w1.heap.size=w.heap.size+1:=by rw[<-hw1];simp
 have B1:Below w1.heap.size w1 w3:=by rw[<-hw3];exact(Below.refl _ _).alloc (le_refl _) _
 have HA:Hid (w3.heap[w.heap.size]? = some (.cells (ai [a0,a1,a2,a3,a4,a5,a6,a7]).toArray 24 (0,0))):=by show _=_;rw[B1.block _ (by omega),<-hw1];exact dM w _ _
 have HR:Hid (w3.heap[w.heap.size+1]? = some (.cells (ai z8).toArray 24 (0,0))):=by show _=_;rw[<-hw3,<-hz1];exact dM w1 _ _
 have HBW:Hid (Below w.heap.size w w3):=by
  have B0:Below w.heap.size w w1:=by rw[<-hw1];exact(Below.refl _ _).alloc (le_refl _) _
  exact B0.trans (B1.mono (by omega))
 have HW:Hid ((w.alloc (.cells #[.int .u16 a0,.int .u16 a1,.int .u16 a2,.int .u16 a3,.int .u16 a4,.int .u16 a5,.int .u16 a6,.int .u16 a7] 24)).alloc (.cells #[.int .u16 0,.int .u16 0,.int .u16 0,.int .u16 0,.int .u16 0,.int .u16 0,.int .u16 0,.int .u16 0] 24)=w3):=by show _=_;rw[hw1,hw3]
 clear hw1 hw3 B1 hz1;have hlA:[a0,a1,a2,a3,a4,a5,a6,a7].length=8:=rfl;obtain⟨A,hA⟩:=Ex' ([a0,a1,a2,a3,a4,a5,a6,a7]);rw[hA]at hlA HA ⊢;have HST:=hid (Clr.start (f:=f) hlA);clear hA hlA;go_enter func188,ntmps188;go_wp2_with fail;rw[HW.out];obtain⟨arg,harg⟩:=Ex' (Value.agg #[.int .u16 a0,.int .u16 a1,.int .u16 a2,.int .u16 a3,.int .u16 a4,.int .u16 a5,.int .u16 a6,.int .u16 a7]:Value);rw[harg];clear HW harg
 go_loopw [9] (fun v9 wr=>∃(i:Nat) (X:List Nat),i<=n/\v9=.int .i64 (i:Int)/\Hid (Clr A X f i)/\Hid (wr.heap[w.heap.size]? = some (.cells (ai X).toArray 24 (0,0)))/\Hid (wr.heap[w.heap.size+1]? = some (.cells (ai z8).toArray 24 (0,0)))/\Hid (Below w.heap.size w wr)) (fun v9 _=>n - (intOf v9).toNat)
 case atStart=>exact⟨0,A,by omega,rfl,HST,HA,HR,HBW⟩
 case round =>
  obtain⟨i,X,hi,rfl,HE,HA,HR,HBW⟩:=hrel;have HXL:=hid HE.out.1;by_cases hlt:i<n
  ·have hltz:(i:Int)<(n:Int):=by omega
   have HE2:=hid (HE.out.step (by omega));obtain⟨k,hk⟩:=Ex' (f+i);have hkz:(f:Int)+(i:Int)=(k:Int):=by omega
   have hk8:k<8:=by omega
   have hk8z:(k:Int)<8:=by omega
   rw[hk]at HE2;have hdst:=cJ HA.out (j:=k) (by rw[HXL.out];exact hk8);have hfz:=frozen_of_row wr w.heap.size k _ _ HA.out;have HA2:Hid ((wr.setCell ⟨w.heap.size,k,none⟩ (.int .u16 ((0:Nat):Int))).heap[w.heap.size]? = some (.cells (ai (X.set k 0)).toArray 24 (0,0))):=by show _=_;rw[heap_setCell_same wr _ k _ _ _ HA.out,mJ]
   have HR2:Hid ((wr.setCell ⟨w.heap.size,k,none⟩ (.int .u16 ((0:Nat):Int))).heap[w.heap.size+1]? = some (.cells (ai z8).toArray 24 (0,0))):=(heap_setCell_other wr _ _ _ (by simp)).trans HR.out;have HW2:=hid (HBW.out.setCell (p:=⟨w.heap.size,k,none⟩) (le_refl _) (.int .u16 ((0:Nat):Int)));clear HE hk;go_wp2_with fail
   go_roundw
   case rel=>exact⟨i+1,X.set k 0,by omega,by go_num,HE2,HA2,HR2,HW2⟩
   case measure=>simp[intOf];omega
  ·have hiq:i=n:=by omega
   have hltz:¬ (i:Int)<(n:Int):=by omega
   have HE2:Hid (Clr A X f n):=by rw[hiq]at HE;exact HE
   clear HE hiq
   go_wp2_with(first
     | (refine wpList_load_row rfl 24 (.tmp 3) rfl w.heap.size rfl 24 (ai X).toArray (0,0) _ HA.out underlying24 rfl (aG HXL.out) ?_)
     | (refine wpList_store_row rfl 24 (.tmp 6) (.tmp 17) rfl (w.heap.size+1) (ai X).toArray rfl rfl 24 (ai z8).toArray HR.out (aG HXL.out) ((aY rfl).trans (aY HXL.out).symm) (dh X) ?_))
   exact bodyPost_ret (results_cell_row results188 _ _ (w.heap.size+1) 24 (ai X).toArray (0,0) _ rfl (aP HR.out) underlying24 rfl (aG HXL.out)) rfl ⟨⟨X,HE2.out,rfl⟩,ax HBW.out (by omega) _⟩
theorem Ir{A X:List Nat}{f n:Nat}(hA:A.length=8)(hn:f+n<=8)(h:Clr A X f n):X=A↔∀ j,f<=j->j<f+n->nv A j=0:=by
 have hv:∀ j,j<8->nv A j=A[j]?.getD 0:=fun j hj=>by unfold nv;rw[List.getElem?_eq_getElem (by omega)];rfl
 constructor
 ·intro e j h1 h2;have:=h.2 j;rw[e,if_pos ⟨h1,h2⟩]at this;rw[hv j (by omega)];exact this
 ·intro hz;refine MI h.1 hA (fun j hj=>?_);rw[h.2 j];split
  ·rename_i hj2;rw[<-hv j hj,hz j hj2.1 hj2.2]
  ·rfl
def st(a:List Nat)(i:Nat):Nat×Nat:=if (bs a i).1<0 then (0,0) else ((bs a i).1.toNat,(bs a i).2)
theorem Ru(a:List Nat)(h8:a.length=8)(i:Nat)(hi:i<=8):(st a i).1<=8/\(st a i).2<=8/\((st a i).2=0\/2<=(st a i).2)/\(st a i).1+(st a i).2<=8:=by
 unfold st;rcases sV a i with⟨h1,h2,_⟩ | ⟨p,h0,h1,h2,h3⟩
 ·rw[h1,if_pos (by decide)];simp
 ·have:=yD a p;rw[h1,h2,if_neg (by omega)];simp only[Int.toNat_natCast];omega
theorem JQ(a:List Nat)(i:Nat):st a (i+1)=if (st a i).2<zr a i/\2<=zr a i then (i,zr a i) else st a i:=by
 unfold st;rw[bs];rcases sV a i with⟨h1,h2,h3⟩ | ⟨p,h0,h1,h2,h3⟩
 ·rw[h1,h2,if_pos (show(-1:Int)<0 by decide)];by_cases h:1<zr a i
  ·rw[if_pos h,if_neg (by simp),if_pos ⟨by simp;omega,by omega⟩];simp
  ·rw[if_neg h,h1,if_pos (by decide),if_neg (by omega)]
 ·rw[h1,h2,if_neg (show ¬ ((p:Int)<0) by omega)];by_cases h:zr a p<zr a i
  ·rw[if_pos h,if_neg (by simp),if_pos ⟨h,by omega⟩];simp
  ·rw[if_neg h,h1,h2,if_neg (by omega),if_neg (fun hh=>h hh.1)]
theorem Om{a:List Nat}{i n:Nat}(h8:a.length=8)(hn:i+n<=8):n<=zr a i↔∀ j,i<=j->j<i+n->nv a j=0:=by
 constructor
 ·intro h j h1 h2;have:=yC (a:=a) (i:=i) (j:=j - i) (by omega)
  rwa [show i+(j - i)=j by omega]at this
 ·intro h;by_cases hle:n<=zr a i
  ·exact hle
  ·exfalso;have hz:=yD a i;have h1:nv a (i+zr a i)=0:=h _ (by omega) (by omega)
   have h2:zr a i=zr a i+1:=by
    have key:∀(l:List Nat),(l.takeWhile (fun v=>decide (v=0))).length<l.length->nv l (l.takeWhile (fun v=>decide (v=0))).length≠0:=by
     intro l
     induction l with
     | nil=>intro h;simp at h
     | cons v l ih =>
      intro hl;by_cases hv:v=0
      ·rw[List.takeWhile_cons_of_pos (by simpa using hv)]at hl ⊢;simp only[length_cons]at hl ⊢;have:=ih (by omega);simpa[nv]using this
      ·rw[List.takeWhile_cons_of_neg (by simpa using hv)];simpa[nv]using hv
    have h3:=key (a.drop i) (by rw[length_drop];unfold zr at hle;omega);rw[my]at h3;exact absurd h1 h3
   omega
def up(a:List Nat)(i n:Nat):Nat×Nat:=if (st a i).2<n - 1/\2<=n - 1 then (i,n - 1) else st a i
theorem CY(a:List Nat)(i:Nat):up a i 2=st a i:=by unfold up;rw[if_neg (by omega)]
theorem Jy{a:List Nat}{i n:Nat}(hn:2<=n):up a i (n+1)=if (up a i n).2<n then (i,n) else up a i n:=by
 unfold up;simp only[Nat.add_sub_cancel];by_cases h:(st a i).2<n - 1/\2<=n - 1
 ·rw[if_pos h,if_pos ⟨by omega,hn⟩,if_pos (by show n - 1<n;omega)]
 ·rw[if_neg h];by_cases h2:(st a i).2<n
  ·rw[if_pos ⟨h2,hn⟩,if_pos h2]
  ·rw[if_neg (fun hh=>h2 hh.1),if_neg h2]
theorem CZ{a:List Nat}{i n:Nat}(hn:2<=n)(h1:n=2\/n - 1<=zr a i)(h2:zr a i<n):up a i n=st a (i+1):=by
 rw[JQ];unfold up;rcases h1 with rfl | h1
 ·rw[if_neg (by omega),if_neg (by omega)]
 ·have e:zr a i=n - 1:=by omega
  rw[e]
structure aH(w:World) where
 W:World
 h:Below w.heap.size w W
theorem aw{P:Program}{id:Nat}{Q:Exit->Act->World->Prop}{a:Act}{w:World}{l:List Oper}(hm:P.follows .mixedOrders=true)(hB:Region.lexB .any l.toArray=true)
  (h:wpQuiet P l.toArray (fun w'=>∃ x:aH w,w'=x.W) (fun a'=>∀ w',(∃ x:aH w,w'=x.W)->Q .normal a' w') l a):(Code.region id l.toArray true).wp P Q a w :=
 wp_region_quiet (C:=fun w'=>∃ x:aH w,w'=x.W) hm hB ⟨⟨{ w with drawn:=w.drawn+1 },⟨rfl,rfl,rfl,le_refl _,fun _ _=>rfl⟩⟩,rfl⟩ (by simpa using h)
theorem aH.call{w:World}{f:FuncId}{args:Array Value}{v:Value}(x:aH w)(h:Calls prog f args x.W fun e w'=>e=.returned v/\Below x.W.heap.size x.W w'):Calls prog f args x.W fun e w'=>e=.returned v/\∃ y:aH w,w'=y.W :=
 h.mono fun _ w' ⟨he,hb⟩=>⟨he,⟨w',x.h.trans (hb.mono x.h.size)⟩,rfl⟩
def vW(A:List Nat)(f n:Nat):List Nat:=(List.range 8).map (fun j=>if f<=j/\j<f+n then 0 else A[j]?.getD 0)
theorem oV(A:List Nat)(f n:Nat):(vW A f n).length=8:=by unfold vW;simp
theorem MX{A X:List Nat}{f n:Nat}(h:Clr A X f n):X=vW A f n:=by refine MI h.1 (oV A f n) (fun j hj=>?_);rw[h.2 j];unfold vW;rw[List.getElem?_map,List.getElem?_range hj];rfl
theorem Is(A:List Nat)(hA:A.length=8)(f n:Nat):Clr A (vW A f n) f n:=by
 refine⟨oV A f n,fun j=>?_⟩;unfold vW;by_cases hj:j<8
 ·rw[List.getElem?_map,List.getElem?_range hj];rfl
 ·rw[List.getElem?_eq_none (by simp;omega),List.getElem?_eq_none (by omega)];simp
theorem Iv(a0 a1 a2 a3 a4 a5 a6 a7 f n:Nat)(hn:f+n<=8)(w:World):
  Calls prog 188 #[.agg #[.int .u16 a0,.int .u16 a1,.int .u16 a2,.int .u16 a3,.int .u16 a4,.int .u16 a5,.int .u16 a6,.int .u16 a7],.int .i64 (f:Int),.int .i64 (n:Int)] w fun e W'=>e=.returned (.agg (ai (vW [a0,a1,a2,a3,a4,a5,a6,a7] f n)).toArray)/\Below w.heap.size w W' :=
 (vY a0 a1 a2 a3 a4 a5 a6 a7 f n hn w).mono (by
   rintro e W' ⟨⟨X,h,rfl⟩,hB⟩
   rw[MX h];exact⟨rfl,hB⟩)
theorem zB{X Y:List Nat}(hX:X.length=8)(hY:Y.length=8)(b:Bool)(hb:decide (X=Y)=!b)(W:World):(binOp .neq 24 (.agg (ai X).toArray) (.agg (ai Y).toArray)).run prog W=.ok (.bool b) W:=by
 rw[run_neq_struct,eq8 9998 _ _ (fun i=>((X[i]?.getD 0:Nat):Int)) (fun i=>((Y[i]?.getD 0:Nat):Int)) (Dd hX) (Dd hY)]
 have h:(List.range 8).all (fun i=>((X[i]?.getD 0:Nat):Int)==((Y[i]?.getD 0:Nat):Int))=decide (X=Y):=by
  rw[Bool.eq_iff_iff,List.all_eq_true,decide_eq_true_iff];constructor
  ·intro h
   exact MI hX hY (fun j hj=>by
     have:=h j (List.mem_range.2 hj)
     exact Int.ofNat.inj (eq_of_beq this))
  ·intro h i _;rw[h];simp
 rw[h,hb];cases b <;> rfl
def Ra(a:List Nat)(e:Ending):Prop:=e=.returned (.tuple #[.int .i64 ((st a 8).1:Int),.int .i64 ((st a 8).2:Int)])
theorem uE(a0 a1 a2 a3 a4 a5 a6 a7:Nat)(w:World):
  Calls prog 145 #[.agg #[.int .u16 a0,.int .u16 a1,.int .u16 a2,.int .u16 a3,.int .u16 a4,.int .u16 a5,.int .u16 a6,.int .u16 a7]] w fun e W'=>Ra [a0,a1,a2,a3,a4,a5,a6,a7] e/\Below w.heap.size w W':=by
 have HB0:Hid (Below w.heap.size w (w.alloc (.cells #[.int .u16 a0,.int .u16 a1,.int .u16 a2,.int .u16 a3,.int .u16 a4,.int .u16 a5,.int .u16 a6,.int .u16 a7] 24))):=(Below.refl _ w).alloc (le_refl _) _;have HZ0:Hid ((w.alloc (.cells #[.int .u16 a0,.int .u16 a1,.int .u16 a2,.int .u16 a3,.int .u16 a4,.int .u16 a5,.int .u16 a6,.int .u16 a7] 24)).heap.size=w.heap.size+1):=by show _=_;simp
 have HCL:=hid (Iv a0 a1 a2 a3 a4 a5 a6 a7);have HA0:Hid (∀ W,Below (w.heap.size+1) (w.alloc (.cells #[.int .u16 a0,.int .u16 a1,.int .u16 a2,.int .u16 a3,.int .u16 a4,.int .u16 a5,.int .u16 a6,.int .u16 a7] 24)) W->W.heap[w.heap.size]? = some (.cells (ai [a0,a1,a2,a3,a4,a5,a6,a7]).toArray 24 (0,0))):=fun W h=>(h.block _ (by omega)).trans (dM w _ _);have HL8:Hid ([a0,a1,a2,a3,a4,a5,a6,a7].length=8):=rfl;have hlen8:[a0,a1,a2,a3,a4,a5,a6,a7].length=8:=rfl;obtain⟨a,ha⟩:=Ex' ([a0,a1,a2,a3,a4,a5,a6,a7]);have HLIT:Hid ((ai a).toArray=#[.int .u16 a0,.int .u16 a1,.int .u16 a2,.int .u16 a3,.int .u16 a4,.int .u16 a5,.int .u16 a6,.int .u16 a7]):=by show _=_;rw[<-ha];rfl
 have HGA:Hid (a[0]?.getD 0=a0/\a[1]?.getD 0=a1/\a[2]?.getD 0=a2/\a[3]?.getD 0=a3/\a[4]?.getD 0=a4/\a[5]?.getD 0=a5/\a[6]?.getD 0=a6/\a[7]?.getD 0=a7):=by rw[<-ha];exact⟨rfl,rfl,rfl,rfl,rfl,rfl,rfl,rfl⟩
 rw[ha]at HCL HA0 HL8 ⊢;have HS0:Hid (st a 0=(0,0)):=rfl;have HSB:=hid (Ru a HL8.out);clear ha hlen8;go_enter func145,ntmps145;go_wp2_with fail;obtain⟨w1,hw1⟩:=Ex' (w.alloc (.cells #[.int .u16 a0,.int .u16 a1,.int .u16 a2,.int .u16 a3,.int .u16 a4,.int .u16 a5,.int .u16 a6,.int .u16 a7] 24));rw[hw1]at HB0 HZ0 HA0 ⊢;obtain⟨arg,harg⟩:=Ex' (Value.agg #[.int .u16 a0,.int .u16 a1,.int .u16 a2,.int .u16 a3,.int .u16 a4,.int .u16 a5,.int .u16 a6,.int .u16 a7]:Value);rw[harg];clear hw1 harg;go_step3;go_wp2_with fail;go_step3;go_wp2_with fail
 go_loopw [2,3,6] (fun v2 v3 v6 wr=>∃(i f m:Nat),i<=8/\f<=8/\m<=8/\v2=.int .i64 (f:Int)/\v3=.int .i64 (m:Int)/\v6=.int .i64 (i:Int)/\Hid (st a i=(f,m))/\Hid (Below w1.heap.size w1 wr)) (fun _ _ v6 _=>8 - (intOf v6).toNat)
 case atStart=>exact⟨0,0,0,by omega,by omega,by omega,rfl,rfl,rfl,HS0,Below.refl _ _⟩
 case round =>
  obtain⟨i,f,m,hi,hf,hm,rfl,rfl,rfl,HS,HB⟩:=hrel;by_cases hlt:i<8
  ·have hltz:(i:Int)<8:=by omega
   go_wp2_with fail;have HU0:Hid (up a i 2=(f,m)):=(CY a i).trans HS.out;have hzr:=yD a i;rw[HL8.out]at hzr
   go_loopw [2,3,5] (fun v2 v3 v5 wq=>∃(n p q:Nat),2<=n/\i+n<=9/\p<=8/\q<=8/\v2=.int .i64 (p:Int)/\v3=.int .i64 (q:Int)/\v5=.int .i64 (n:Int)/\Hid (up a i n=(p,q))/\Hid (n=2\/n - 1<=zr a i)/\Hid (Below w1.heap.size w1 wq)) (fun _ _ v5 _=>10 - (intOf v5).toNat)
   case atStart=>exact⟨2,f,m,by omega,by omega,hf,hm,rfl,rfl,rfl,HU0,.inl rfl,HB⟩
   case round =>
    obtain⟨n,p,q,hn2,hn9,hp,hq,rfl,rfl,rfl,HU,HN,HBq⟩:=hrel;by_cases hr:i+n<=8
    ·have hrz:(i:Int)+(n:Int)<=8:=by omega
     have hne:Nonempty (aH wr):=⟨⟨wr,Below.refl _ _⟩⟩
     have HAx:Hid (∀ x:aH wr,x.W.heap[w.heap.size]? = some (.cells (ai a).toArray 24 (0,0))):=fun x=>HA0.out x.W (by
       have h1:=HBq.out
       have h2:=x.h
       have hz:=HZ0.out
       rw[hz]at h1
       exact h1.trans (h2.mono (by have:=h1.size;omega)))
     have cel:∀(j v:Nat),j<8->a[j]?.getD 0=v->∀ x:aH wr,x.W.cell? ⟨w.heap.size,j,none⟩=some (.int .u16 (v:Int)):=fun j v hj hv x=>by rw[cJ (HAx.out x) (by rw[HL8.out];exact hj),hv]
     obtain⟨q0,q1,q2,q3,q4,q5,q6,q7⟩:=HGA.out;have ya0:=cel 0 a0 (by omega) q0;have ya1:=cel 1 a1 (by omega) q1;have ya2:=cel 2 a2 (by omega) q2;have ya3:=cel 3 a3 (by omega) q3;have ya4:=cel 4 a4 (by omega) q4;have ya5:=cel 5 a5 (by omega) q5;have ya6:=cel 6 a6 (by omega) q6;have ya7:=cel 7 a7 (by omega) q7;have HKC:=hid (fun W=>HCL.out i n hr W);have HCLR:=hid (Ir HL8.out hr (Is a HL8.out i n));have HCLN:=hid (oV a i n);have HZA:=hid (Om (a:=a) (i:=i) (n:=n) HL8.out hr);obtain⟨X,hX⟩:=Ex' (vW a i n);rw[hX]at HKC HCLR HCLN;have HKB:Hid (∀ x:aH wr,Below w1.heap.size w1 x.W):=fun x=>HBq.out.trans (x.h.mono HBq.out.size);clear cel q0 q1 q2 q3 q4 q5 q6 q7 hX HAx;by_cases hz:n<=zr a i
     ·have hXa:X=a:=HCLR.out.2 (HZA.out.1 hz);have hnq:∀ W,(binOp .neq 24 (.agg (ai X).toArray) (.agg #[.int .u16 a0,.int .u16 a1,.int .u16 a2,.int .u16 a3,.int .u16 a4,.int .u16 a5,.int .u16 a6,.int .u16 a7])).run prog W=.ok (.bool false) W:=fun W=>by rw[<-HLIT.out];exact zB HCLN.out HL8.out false (by rw[decide_eq_true hXa];rfl) W
      have HUM:=hid (Jy (a:=a) (i:=i) hn2);rw[HU.out]at HUM;have HN2:Hid (n+1=2\/n+1 - 1<=zr a i):=.inr hz;clear hXa HCLR HZA HU HN hz;go_wp2_with fail;refine aw (by kernel_rfl) (by kernel_rfl) ?_;repeat (go_big_quiet_step ((go_at_call 188;exact aH.call _ (HKC.out _))))
      refine wpQuiet_nil ?_;rintro _ ⟨x,rfl⟩;have HBX:=hid (HKB.out x);obtain⟨w4,hw4⟩:∃ w4,w4=x.W:=⟨_,rfl⟩;rw[<-hw4]at HBX ⊢;clear hw4 x hne HKC HKB ya0 ya1 ya2 ya3 ya4 ya5 ya6 ya7 hnq;by_cases hq:q<n
      ·have hqz:(q:Int)<(n:Int):=by omega
       have HU2:Hid (up a i (n+1)=(i,n)):=by show _=_;rw[HUM.out,if_pos hq]
       clear HUM;go_wp2_with fail
       go_roundw
       case rel=>exact⟨n+1,i,n,by omega,by omega,by omega,by omega,rfl,rfl,by go_num,HU2,HN2,HBX⟩
       case measure=>simp[intOf];omega
      ·have hqz:¬ (q:Int)<(n:Int):=by omega
       have HU2:Hid (up a i (n+1)=(p,q)):=by show _=_;rw[HUM.out,if_neg hq]
       clear HUM;go_wp2_with fail
       go_roundw
       case rel=>exact⟨n+1,p,q,by omega,by omega,by omega,by omega,rfl,rfl,by go_num,HU2,HN2,HBX⟩
       case measure=>simp[intOf];omega
     ·have hXa:X≠a:=fun e=>hz (HZA.out.2 (HCLR.out.1 e));have hnq:∀ W,(binOp .neq 24 (.agg (ai X).toArray) (.agg #[.int .u16 a0,.int .u16 a1,.int .u16 a2,.int .u16 a3,.int .u16 a4,.int .u16 a5,.int .u16 a6,.int .u16 a7])).run prog W=.ok (.bool true) W:=fun W=>by rw[<-HLIT.out];exact zB HCLN.out HL8.out true (by rw[decide_eq_false hXa];rfl) W
      have HS2:Hid (st a (i+1)=(p,q)):=by show _=_;rw[<-CZ hn2 HN.out (by omega)];exact HU.out
      clear hXa HCLR HZA HU HN hz;go_wp2_with fail;refine aw (by kernel_rfl) (by kernel_rfl) ?_;repeat (go_big_quiet_step ((go_at_call 188;exact aH.call _ (HKC.out _))))
      refine wpQuiet_nil ?_;rintro _ ⟨x,rfl⟩;have HBX:=hid (HKB.out x);obtain⟨w4,hw4⟩:∃ w4,w4=x.W:=⟨_,rfl⟩;rw[<-hw4]at HBX ⊢;clear hw4 x hne HKC HKB ya0 ya1 ya2 ya3 ya4 ya5 ya6 ya7 hnq;go_wp2_with fail
      go_roundw
      case rel=>exact⟨i+1,p,q,by omega,hp,hq,rfl,rfl,by go_num,HS2,HBX⟩
      case measure=>simp[intOf];omega
    ·have hrz:¬ (i:Int)+(n:Int)<=8:=by omega
     have HS2:Hid (st a (i+1)=(p,q)):=by show _=_;rw[<-CZ hn2 HN.out (by omega)];exact HU.out
     clear HU HN;go_wp2_with fail
     go_roundw
     case rel=>exact⟨i+1,p,q,by omega,hp,hq,rfl,rfl,by go_num,HS2,HBq⟩
     case measure=>simp[intOf];omega
  ·have hi8:i=8:=by omega
   have HR:Hid (Ra a (.returned (.tuple #[.int .i64 (f:Int),.int .i64 (m:Int)]))):=by show _=_;have:=HS.out;rw[hi8]at this;rw[this]
   have HBF:=hid (HB0.out.trans (HB.out.mono HB0.out.size));have hltz:¬ (i:Int)<8:=by omega
   clear hi8 HS;go_wp2_with fail;go_ret2;exact⟨HR.out,HBF.out⟩
end X
end Go.Proofs.YtlmflmdmolcfhaaGreatDoor
