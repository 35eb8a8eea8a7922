/- Contracts and plain facts. -/
import Derived.Test.YtlmflmdmolcfhaaGreatDoorZ1
import Derived.Laws.StructEq
import Derived.Laws.AppendOwn
import Derived.Shelf.Strings.SlTrimAscii
import Derived.Shelf.Strings.OnBuilder
import Derived.Deep.RegionHeld3
import Derived.Shelf.Strings.FuncGrows
import Derived.Lib.TrimUEq
import Derived.Shelf.Strings.MapGrows
import Derived.Shelf.Unicode.DecodeLast
import Derived.Shelf.Strings.AsciiSet
import Derived.Deep.WholeRow
import Derived.Lib.TrimU
set_option maxRecDepth 100000
set_option maxHeartbeats 16000000
set_option linter.unusedVariables false
set_option linter.unnecessarySimpa false
open Nat (le_refl zero_le sub_zero le_trans)
open ByteArray (size_extract)
open List (mem_of_getElem? getElem?_eq_getElem dropWhile_cons length_take map_cons getElem?_map drop_zero getElem?_cons_succ getD_eq_getElem?_getD contains_iff_mem length_drop map_nil getElem?_eq_none mem_map cons_append drop_drop)
open Go.Lib (data_getElem?)
open Bool (false_eq_true or_eq_true and_eq_true)
open Go.World (block_lt_of_cell? cell?_of_block)
namespace Go.Proofs.YtlmflmdmolcfhaaGreatDoor
open Tryz Go.RowKit
namespace H
open F (bn aa hid)
theorem vU(s:ByteArray)(i:Nat)(hi:i<s.size)(hx:128<=(s[i]'hi).toNat):
  128<=(Utf8.decode s i).1/\U.ab ((Utf8.decode s i).1:Nat)=true/\1<=(Utf8.decode s i).2/\i+(Utf8.decode s i).2<=s.size/\∀ j b,i<=j->j<i+(Utf8.decode s i).2->s.data.toList[j]? = some b->128<=b.toNat:=by
 obtain⟨h1,h2⟩:=decode_high s i hi hx;have h0:s.data.toList[i]? = some (s[i]'hi):=data_getElem? s i hi;have hl:s.size=s.data.toList.length:=Lib.size_eq s;have g0:s.data.toList.getD i 0=s[i]'hi:=by rw[getD_eq_getElem?_getD,h0];rfl
 have hgd:∀ j b,s.data.toList[j]? = some b->s.data.toList.getD j 0=b:=fun j b h=>by rw[getD_eq_getElem?_getD,h];rfl
 rw[Lib.decode_N]at h1 h2 ⊢;rw[g0]at h1 h2 ⊢;have hb0:=(s[i]'hi).toNat_lt;rcases Lib.decodeN_shape (s.data.toList.length - i) (s[i]'hi).toNat (s.data.toList.getD (i+1) 0).toNat (s.data.toList.getD (i+2) 0).toNat (s.data.toList.getD (i+3) 0).toNat with⟨h,_⟩ | ⟨q0,q1,q2,q3,h⟩ | ⟨q0,q1,q2,q3,q4,q5,h⟩ | ⟨q0,q1,q2,q3,q4,q5,q6,h⟩ | h
 ·omega
 ·rw[h]at h1 h2 ⊢;simp only at h1 h2 ⊢;refine⟨h1,?_,by omega,by omega,fun j b hj1 hj2 hb=>?_⟩
  ·unfold U.ab;exact decide_eq_true (by omega)
  ·have hv:=hgd j b hb;obtain rfl | rfl:j=i\/j=i+1:=by omega
   ·rw[g0]at hv;rw[<-hv];exact hx
   ·rw[hv]at q2;omega
 ·rw[h]at h1 h2 ⊢;simp only at h1 h2 ⊢;refine⟨h1,?_,by omega,by omega,fun j b hj1 hj2 hb=>?_⟩
  ·unfold U.ab;exact decide_eq_true (by omega)
  ·have hv:=hgd j b hb;obtain rfl | rfl | rfl:j=i\/j=i+1\/j=i+2:=by omega
   ·rw[g0]at hv;rw[<-hv];exact hx
   ·rw[hv]at q2;omega
   ·rw[hv]at q3;omega
 ·rw[h]at h1 h2 ⊢;simp only at h1 h2 ⊢;refine⟨h1,?_,by omega,by omega,fun j b hj1 hj2 hb=>?_⟩
  ·unfold U.ab;exact decide_eq_true (by omega)
  ·have hv:=hgd j b hb;obtain rfl | rfl | rfl | rfl:j=i\/j=i+1\/j=i+2\/j=i+3:=by omega
   ·rw[g0]at hv;rw[<-hv];exact hx
   ·rw[hv]at q2;omega
   ·rw[hv]at q3;omega
   ·rw[hv]at q4;omega
 ·rw[h]at h1 h2 ⊢;simp only at h1 h2 ⊢;refine⟨h1,by decide,by omega,by omega,fun j b hj1 hj2 hb=>?_⟩;have hv:=hgd j b hb;obtain rfl:j=i:=by omega
  rw[g0]at hv;rw[<-hv];exact hx
theorem Qd(C:ByteArray)(x:UInt8):(U.bn C).contains (x.toNat:Int)=C.data.toList.contains x:=by
 rw[Bool.eq_iff_iff,contains_iff_mem,contains_iff_mem];unfold U.bn;rw[mem_map];constructor
 ·rintro⟨b,hb,he⟩;have:b=x:=UInt8.toNat_inj.1 (by omega);rw[<-this];exact hb
 ·intro h;exact⟨x,h,rfl⟩
theorem Lq{s C:ByteArray}{i n:Nat}(hA:E.Asc C)(h:Lib.NoAny s.data.toList C.data.toList i)(hh:∀ j b,i<=j->j<i+n->s.data.toList[j]? = some b->128<=b.toNat):Lib.NoAny s.data.toList C.data.toList (i+n):=fun j b hj hb=>by
 by_cases hji:j<i
 ·exact h j b hji hb
 ·have h1:=hh j b (by omega) hj hb;rw[Bool.eq_false_iff];intro hc;have:=hA b (List.contains_iff_mem.1 hc);omega
theorem jE(n:Int)(w:World):Calls prog 169 #[.int .i64 n] w fun e W'=>e=.returned (.bool (decide (8<n)))/\W'=w:=by go_enter func169,ntmps169;go_wp2;go_ret;exact⟨rfl,rfl⟩
theorem kC{B:Nat}{a w:World}(h:Below B a w){k:Nat}(hk:B<=k)(s:ByteArray)(p:Nat):Below B a (w.iterAt k s p):=by
 refine⟨h.os,h.tape,h.output,?_,fun j hj=>?_⟩
 ·show _<=(w.heap.setIfInBounds k _).size;rw[Array.size_setIfInBounds];exact h.size
 ·show(w.heap.setIfInBounds k _)[j]? = _;rw[Array.getElem?_setIfInBounds,if_neg (by omega)];exact h.block j hj
theorem rf(s C:ByteArray)(h2:2<=C.size)(hz:C.size<=1000)(hA:E.Asc C)(h8:s.size<=8)(w:World):
  Calls prog 124 #[.string s,.string C] w fun e W'=>e=.returned (.int .i64 (Lib.indexAny s.data.toList C.data.toList))/\Below w.heap.size w W':=by
 have hemp:C.toList.isEmpty=false:=by
  rw[Lib.toList_data];cases h:C.data.toList with
  | nil=>have:=Lib.size_eq C;rw[h,List.length_nil]at this;omega
  | cons _ _=>rfl
 have hn1:((C.size:Int)==1)=false:=beq_eq_false_iff_ne.2 (by omega);have h8z:decide ((8:Int)<(s.size:Int))=false:=decide_eq_false (by omega);have HA:=hid hA;have HLO:Hid (∀(x:UInt8) W,x.toNat<128->∃ z:Int,decide (0<=z)=C.data.toList.contains x/\Calls prog 168 #[.string C,.int .i32 x.toNat] W fun e W'=>e=.returned (.int .i64 z)/\W'=W):=fun x W hx=>by refine⟨_,?_,E.kn C x.toNat (by omega) (by omega) W⟩;rw[E.jc C x.toNat (by omega) (by omega),Qd]
 have HHI:Hid (∀(r:Nat) W,U.ab (r:Int)=true->128<=r->Calls prog 168 #[.string C,.int .i32 r] W fun e W'=>e=.returned (.int .i64 (-1))/\Below W.heap.size W W'):=fun r W hr h1=>by
  by_cases h3:(r:Int)=65533
  ·rw[h3];exact E.ll C hA hz W
  ·exact E.qi C hA hz r hr (by omega) h3 W
 clear hA;go_enter func124,ntmps124;go_wp2_with(go_at_call 169;refine(jE _ _).mono ?_;rintro e w' ⟨rfl,hw⟩;rw[hw,h8z])
 go_loopg [9,10] s.size (fun g _ _ wx=>∃ i:Nat,i+g=s.size/\Hid (wx.heap[w.heap.size]? = some (.stringIter s i))/\Hid (Below w.heap.size w wx)/\Hid (Lib.NoAny s.data.toList C.data.toList i))
 case atStart=>exact⟨0,by omega,World.iter_heap w s 0,(Below.refl _ w).alloc (le_refl _) _,Lib.NoAny.zero _ _⟩
 case round =>
  obtain⟨i,hig,HI,HB,HN⟩:=hrel;by_cases hi:i<s.size
  ·obtain⟨x,hx⟩:=Ex' (s[i]'hi:UInt8);have HX:Hid (s.data.toList[i]? = some x):=by show _=_;rw[<-hx];exact data_getElem? s i hi
   by_cases hxs:x.toNat<128
   ·have hnx:=fun ty=>Lib.run_next_ascii_at (P:=prog) wr w.heap.size s i ty HI.out hi (by rw[hx];exact hxs);rw[hx]at hnx;obtain⟨z,hz1,hz2⟩:=HLO.out x (wr.iterAt w.heap.size s (i+1)) hxs;have HZ:=hid hz2;have HI2:=hid (Lib.iterAt_heap wr w.heap.size s i (i+1) HI.out);have HB2:=hid (kC HB.out (le_refl _) s (i+1));clear hz2 hx;cases hin:C.data.toList.contains x
    ·rw[hin]at hz1;have hlt:¬ (0:Int)<=z:=of_decide_eq_false hz1;have HN2:=hid (HN.out.succ HX.out hin);clear hz1 hin;go_wp2_with(go_at_call 168;refine HZ.out.mono ?_;rintro e w' ⟨rfl,hw⟩;rw[hw])
     go_roundg (gk - 1)
     case measure=>omega
     case rel=>exact⟨i+1,by omega,HI2,HB2,HN2⟩
    ·rw[hin]at hz1;have hge:(0:Int)<=z:=of_decide_eq_true hz1;have HR:Hid (Lib.indexAny s.data.toList C.data.toList=i):=Lib.indexAny_hit HN.out HX.out hin;clear hz1 hin;go_wp2_with(go_at_call 168;refine HZ.out.mono ?_;rintro e w' ⟨rfl,hw⟩;rw[hw]);go_ret;exact⟨by rw[HR.out];rfl,HB2.out⟩
   ·obtain⟨d1,d2,d3,d4,d5⟩:=vU s i hi (by rw[hx];omega);have hnx:=fun ty=>Lib.run_next_any_at (P:=prog) wr w.heap.size s i ty HI.out hi;obtain⟨r,hr⟩:=Ex' ((Utf8.decode s i).1);obtain⟨n,hn⟩:=Ex' ((Utf8.decode s i).2);rw[hr,hn]at hnx;rw[hr]at d1 d2;rw[hn]at d3 d4 d5;have HZ:=hid (HHI.out r (wr.iterAt w.heap.size s (i+n)) d2 d1);have HI2:=hid (Lib.iterAt_heap wr w.heap.size s i (i+n) HI.out);have HB2:=hid (kC HB.out (le_refl _) s (i+n));have HN2:=hid (Lq HA.out HN.out d5);clear d1 d2 d5 hr hn hx hxs;go_wp2_with(go_at_call 168;refine HZ.out.mono ?_;rintro e w' ⟨rfl,hw⟩)
    go_roundg (gk - n)
    case measure=>omega
    case rel=>exact⟨i+n,by omega,hid ((hw.block _ (Array.getElem?_eq_some_iff.1 HI2.out).1).trans HI2.out),Bt' HB2 hw,HN2⟩
  ·obtain rfl:i=s.size:=by omega
   have hnx:=fun ty=>Lib.run_next_end_at (P:=prog) wr w.heap.size s s.size ty HI.out (by omega);go_wp2;go_ret;exact⟨by rw[Lib.indexAny_none (by rw[<-Lib.size_eq];exact HN.out)];rfl,HB.out⟩
def fbs:ByteArray:=⟨#[0,9,10,13,32,35,47,58,60,62,63,64,91,92,93,94,124]⟩
def fds:ByteArray:=⟨#[0,9,10,13,32,35,47,58,60,62,63,64,91,92,93,94,124,37,127]⟩
theorem zP:E.Asc fbs:=by
 intro b hb;have h:fbs.data.toList.all (fun b=>decide (b.toNat<128))=true:=by decide
 exact of_decide_eq_true (List.all_eq_true.1 h b hb)
theorem MH:∀ n:Fin 256,fbs.data.toList.contains (UInt8.ofNat n.val)=fb (n.val:Int):=by decide +kernel
theorem Qn(x:UInt8):fbs.data.toList.contains x=fb (x.toNat:Int):=by have h:=MH ⟨x.toNat,x.toNat_lt⟩;simpa using h
theorem QW(l:List UInt8):decide (0<=Lib.indexAny l fbs.data.toList)=(l.map (fun c=>(c.toNat:Int))).any fb:=by
 induction l with
 | nil=>rfl
 | cons b l ih =>
  have hge:=Lib.indexAny_ge fbs.data.toList l;rw[Lib.indexAny,map_cons,List.any_cons,<-ih,<-Qn];cases hc:fbs.data.toList.contains b with
  | true=>simp
  | false =>
   simp only[false_eq_true,if_false,Bool.false_or];by_cases h:Lib.indexAny l fbs.data.toList=-1
   ·simp[h]
   ·have h':(Lib.indexAny l fbs.data.toList==-1)=false:=by simpa using h
    rw[h'];simp only[false_eq_true,if_false];rw[decide_eq_true (by omega:0<=Lib.indexAny l fbs.data.toList+1),decide_eq_true (by omega:0<=Lib.indexAny l fbs.data.toList)]
theorem mg(s:ByteArray)(hs:s.size<=100000)(w:World):Calls prog 212 #[.string s,.string ⟨#[0,9,10,13,32,35,47,58,60,62,63,64,91,92,93,94,124]⟩] w fun e W'=>e=.returned (.bool ((bn s).any fb))/\Below w.heap.size w W':=by
 have HL:Hid (∀ W,Calls prog 124 #[.string s,.string ⟨#[0,9,10,13,32,35,47,58,60,62,63,64,91,92,93,94,124]⟩] W fun e W'=>e=.returned (.int .i64 (Lib.indexAny s.data.toList fbs.data.toList))/\Below W.heap.size W W'):=fun W=>by
  by_cases h8:s.size<=8
  ·exact rf s fbs (by decide) (by decide) zP h8 W
  ·have hf:Tryz.laysAny_ren.f 153=124:=by kernel_rfl
   have h:=Any.strings_IndexAny_long Tryz.laysAny (fun w=>by kernel_rfl) (by kernel_rfl) s fbs W (by decide) (by omega) (by omega) (by decide) (fun j b hb=>zP b (mem_of_getElem? hb));rw[hf]at h;refine h.mono ?_;rintro e W' ⟨rfl,rfl⟩;exact⟨rfl,((Below.refl _ _).alloc (le_refl _) _).alloc (by simp) _⟩
 have ha:(bn s).any fb=decide (0<=Lib.indexAny s.data.toList fbs.data.toList):=(QW s.data.toList).symm;rw[ha];obtain⟨z,hz⟩:=Ex' (Lib.indexAny s.data.toList fbs.data.toList);rw[hz]at HL ⊢;clear ha hz;go_enter func212,ntmps212;go_wp2_with fail;refine(HL.out _).mono ?_;rintro e W' ⟨rfl,B⟩;have HB:=hid B;clear B;go_wp2;go_ret;exact⟨rfl,HB.out⟩
theorem MD:∀ n:Fin 128,(decide ((n.val:Int)<32)||(U.bn fds).contains (n.val:Int))=fd (n.val:Int):=by decide +kernel
theorem mf(r:Int)(h0:0<=r)(h1:r<128)(w:World):Calls prog 173 #[.string ⟨#[0,9,10,13,32,35,47,58,60,62,63,64,91,92,93,94,124,37,127]⟩,.int .i32 r] w fun e W'=>e=.returned (.bool ((U.bn fds).contains r))/\W'=w:=by have HR:=hid (fun W=>E.kn fds r h0 h1 W);rw[<-E.jc fds r h0 h1];obtain⟨z,hz⟩:=Ex' (firstIdx fds r.toNat.toUInt8);rw[hz]at HR ⊢;clear hz;unfold fds at HR;go_enter func173,ntmps173;go_wp2_with fail;refine(HR.out _).mono ?_;rintro e W' ⟨rfl,rfl⟩;go_wp2;go_ret;exact⟨rfl,rfl⟩
theorem Bj(r:Int)(h0:0<=r)(h1:r<128)(w:World):Calls prog 240 #[.int .i32 r] w fun e W'=>e=.returned (.bool (fd r))/\W'=w:=by
 have hfd:(decide (r<32)||(U.bn fds).contains r)=fd r:=by obtain⟨k,rfl⟩:∃ k:Nat,r=k:=⟨r.toNat,by omega⟩;exact MD ⟨k,by omega⟩
 have HC:=hid (fun W=>mf r h0 h1 W);obtain⟨c,hc⟩:=Ex' ((U.bn fds).contains r);rw[hc]at HC hfd;rw[<-hfd];clear hfd hc;by_cases hl:r<32
 ·rw[decide_eq_true hl];go_enter func240,ntmps240;go_wp2;go_ret;exact⟨rfl,rfl⟩
 ·rw[decide_eq_false hl];go_enter func240,ntmps240;go_wp2_with fail;refine(HC.out _).mono ?_;rintro e W' ⟨rfl,rfl⟩;go_wp2;go_ret;exact⟨rfl,rfl⟩
theorem fQ(s:ByteArray)(hs:s.size<=400000000)(hl:∀ c∈bn s,0<=c/\c<128)(w:World):Calls prog 115 #[.string s,.func (.func 240) #[] #[],.bool true] w fun e W'=>(∃ k:Int,e=.returned (.int .i64 k)/\decide (0<=k)=(bn s).any fd)/\Below w.heap.size w W':=by
 have HL:Hid (∀(i:Nat) (h:i<s.size),(s[i]'h).toNat<128/\(bn s)[i]? = some ((s[i]'h).toNat:Int)):=fun i h=>by
  have e:(bn s)[i]? = some ((s[i]'h).toNat:Int):=by unfold bn;rw[getElem?_map,data_getElem? s i h];rfl
  have:=hl _ (mem_of_getElem? e);exact⟨by omega,e⟩
 have HNO:Hid ((∀ j c,j<s.size->(bn s)[j]? = some c->fd c=false)->(bn s).any fd=false):=fun h=>by rw[List.any_eq_false];intro c hc;obtain⟨j,hj,rfl⟩:=List.mem_iff_getElem.1 hc;rw[h j _ (by rw[<-aa];exact hj) (getElem?_eq_getElem hj)];simp
 have HYE:Hid (∀(j:Nat) c,(bn s)[j]? = some c->fd c=true->(bn s).any fd=true):=fun j c h hc=>List.any_eq_true.2 ⟨c,mem_of_getElem? h,hc⟩;have HF:=hid Bj;obtain⟨R,hR⟩:=Ex' ((bn s).any fd);rw[hR]at HNO HYE ⊢;clear hl hR;go_enter func115,ntmps115;go_wp2_with fail
 go_loopg [7,8] s.size (fun g _ _ wx=>∃ i:Nat,i+g=s.size/\wx=w.iter s i/\Hid (∀ j c,j<i->(bn s)[j]? = some c->fd c=false))
 case atStart=>exact⟨0,by omega,rfl,fun j c hj=>by omega⟩
 case round =>
  obtain⟨i,hig,rfl,HN⟩:=hrel;cases gk with
  | zero =>
   obtain rfl:i=s.size:=by omega
   have hnx:=run_next_end (P:=prog) w s s.size;have HR:=hid (HNO.out HN.out);go_wp2;go_ret;exact⟨⟨-1,rfl,by rw[HR.out];rfl⟩,Below.alloc (Below.refl _ _) (le_refl _) _⟩
  | succ g =>
   have hi:i<s.size:=by omega
   obtain⟨hx,he⟩:=HL.out i hi;have hnx:=fun ty=>run_next_ascii (P:=prog) w s i ty hi hx;obtain⟨x,hxe⟩:=Ex' ((s[i]'hi).toNat:Nat);rw[hxe]at hx hnx he;have HC:=hid (fun W=>HF.out (x:Int) (by omega) (by omega) W);have HE:=hid he;clear hxe he;cases hfx:fd (x:Int)
   ·rw[hfx]at HC
    have HN2:Hid (∀ j c,j<i+1->(bn s)[j]? = some c->fd c=false):=fun j c hj hc=>by
     by_cases e:j=i
     ·rw[e,HE.out]at hc;rw[<-Option.some.inj hc];exact hfx
     ·exact HN.out j c (by omega) hc
    clear hfx;go_wp2_with(go_at_call 240;refine(HC.out _).mono ?_;rintro e w' ⟨rfl,hw⟩;rw[hw])
    go_roundg g
    case measure=>omega
    case rel=>exact⟨i+1,by omega,rfl,HN2⟩
   ·rw[hfx]at HC;have HR:=hid (HYE.out i _ HE.out hfx);clear hfx;go_wp2_with(go_at_call 240;refine(HC.out _).mono ?_;rintro e w' ⟨rfl,hw⟩;rw[hw]);go_ret;exact⟨⟨i,rfl,by rw[HR.out];exact decide_eq_true (by omega)⟩,Below.alloc (Below.refl _ _) (le_refl _) _⟩
theorem dK(s:ByteArray)(hs:s.size<=400000000)(hl:∀ c∈bn s,0<=c/\c<128)(w:World):Calls prog 239 #[.string s,.func (.func 240) #[] #[]] w fun e W'=>e=.returned (.bool ((bn s).any fd))/\Below w.heap.size w W':=by
 have HI:=hid (fun W=>fQ s hs hl W);clear hl;have HJ:Hid (∀ W,Calls prog 175 #[.string s,.func (.func 240) #[] #[]] W fun e W'=>(∃ k:Int,e=.returned (.int .i64 k)/\decide (0<=k)=(bn s).any fd)/\Below W.heap.size W W'):=fun W=>by go_enter func175,ntmps175;go_wp2_with fail;refine(HI.out _).mono ?_;rintro e W' ⟨⟨k,rfl,hk⟩,B⟩;have HB:=hid B;have HK:=hid hk;clear B hk;go_wp2;go_ret;exact⟨⟨k,rfl,HK.out⟩,HB.out⟩
 go_enter func239,ntmps239;go_wp2_with fail;refine(HJ.out _).mono ?_;rintro e W' ⟨⟨k,rfl,hk⟩,B⟩;have HK:=hid hk;have HB:=hid B;clear B hk;go_wp2;go_ret;exact⟨by rw[<-HK.out];rfl,HB.out⟩
end H
namespace Y
def ltr(c:Int):Bool:=decide (65<=c/\c<=90\/97<=c/\c<=122)
def low(c:Int):Int:=if 65<=c/\c<=90 then c+32 else c
def sgs(c:Int):Bool:=ltr c||decide (48<=c/\c<=57\/c=43\/c=45\/c=46)
def blk(c:Int):Bool:=decide (c<=32)
def tab(c:Int):Bool:=decide (c=9\/c=10\/c=13)
def sl(sp:Bool)(c:Int):Bool:=decide (c=47)||(sp&&decide (c=92))
def qm(c:Int):Bool:=decide (c=63)||decide (c=35)
def strip(l:List Int):List Int:=((l.dropWhile blk).reverse.dropWhile blk).reverse
def cln(s:List Int):List Int:=U.aj ((strip (U.dec s)).filter (fun c=>!tab c))
def sch:List Int->Option (List Int×List Int)
 | []=>none
 | c::t=>if ltr c=true then (match t.dropWhile sgs with | d::r=>if d=58 then some ((c::t.takeWhile sgs).map low,r) else none | []=>none) else none
def om:List Int:=[104,116,116,112]
def xB:List Int:=[104,116,116,112,115]
def nWs:List Int:=[119,115]
def PG:List Int:=[119,115,115]
def PH:List Int:=[102,116,112]
def cA:List Int:=[102,105,108,101]
def own(m:List Int):Option Nat:=if m=om\/m=nWs then some 80 else if m=xB\/m=PG then some 443 else if m=PH then some 21 else none
structure Ur where
 sch:List Int
 usr:List Int
 pas:List Int
 hh:Bool
 hst:Nat×List Int×Nat×List Nat
 hp:Bool
 prt:Nat
 opq:Bool
 pth:List (List Int)
 bod:List Int
 hq:Bool
 qry:List Int
 hf:Bool
 frg:List Int
def zu:Ur:=⟨[],[],[],false,(0,[],0,H.z8),false,0,false,[],[],false,[],false,[]⟩
def fr(u:Ur):List Int->Ur
 | []=>u
 | _::r=>{ u with hf:=true,frg:=E.en 1 (U.dec r) }
def eA(c:Int):Bool:=decide (c≠35)
def qf(sp:Bool)(u:Ur):List Int->Ur
 | []=>u
 | c::r=>if c=63 then fr { u with hq:=true,qry:=E.en (if sp=true then 3 else 2) (U.dec (r.takeWhile eA)) } (r.dropWhile eA) else fr u (c::r)
def spl(f:Int->Bool):List Int->List (List Int)
 | []=>[[]]
 | c::t=>if f c=true then []::spl f t else (match spl f t with | a::r=>(c::a)::r | []=>[[c]])
def dot:List Int->List Int
 | []=>[]
 | [a]=>[a]
 | [a,b]=>[a,b]
 | c::a::b::t=>if c=37/\a=50/\(b=101\/b=69) then 46::dot t else c::dot (a::b::t)
def nrm(acc:List (List Int)):List (List Int)->List (List Int)
 | []=>acc
 | x::t =>
  if dot x=[46] then nrm (if t=[] then acc++[[]] else acc) t
  else if dot x=[46,46] then nrm (if t=[] then acc.dropLast++[[]] else acc.dropLast) t
  else nrm (acc++[E.en 4 (U.dec x)]) t
def un(f:Int->Bool):List Int->List Int
 | []=>[]
 | c::t=>if f c=true then t else c::t
def lst(sp:Bool)(p:List Int):List (List Int):=nrm [] (spl (sl sp) (un (sl sp) p))
def npq(c:Int):Bool:=!qm c
def tl(sp has:Bool)(u:Ur)(l:List Int):Ur :=
 qf sp (if sp=true\/(l.takeWhile npq).head? = some 47 then { u with pth:=lst sp (l.takeWhile npq) } else if has=true then u else { u with opq:=true,bod:=E.en 0 (U.dec (l.takeWhile npq)) }) (l.dropWhile npq)
def nau(sp:Bool)(c:Int):Bool:=!(sl sp c||qm c)
def oe(c:Int):Bool:=decide (c≠64)
def dq(c:Int):Bool:=decide (c≠58)
def beh(a:List Int):List Int:=(a.reverse.takeWhile oe).reverse
def ahd(a:List Int):List Int:=((a.reverse.dropWhile oe).drop 1).reverse
def hcut:Bool->List Int->List Int×Option (List Int)
 | _,[]=>([],none)
 | b,c::t=>if c=58/\b=false then ([],some t) else (c::(hcut (if c=91 then true else if c=93 then false else b) t).1,(hcut (if c=91 then true else if c=93 then false else b) t).2)
def ask(sp:Bool)(a:List Int):Option (List Int) :=
 if 64∈a/\beh a=[] then none else if (hcut false (beh a)).1=[]/\((hcut false (beh a)).2.isSome=true\/sp=true) then none else some (hcut false (beh a)).1
def por(o:Option Nat):Option (List Int)->Option (Bool×Nat)
 | none=>some (false,0)
 | some p=>if p=[] then some (false,0) else if p.all F.ten=true/\F.vl 10 p<=65535 then (if o=some (F.vl 10 p) then some (false,0) else some (true,F.vl 10 p)) else none
def ath(m:List Int)(a:List Int)(h:H.Hst):Ur×Int :=
 if ask (own m).isSome a=none then (zu,70) else if h.2.2.2.2≠0 then (zu,h.2.2.2.2) else
 match por (own m) (hcut false (beh a)).2 with
 | none=>(zu,131)
 | some q=>({ zu with sch:=m,usr:=if 64∈a then E.en 5 (U.dec ((ahd a).takeWhile dq)) else [],pas:=if 64∈a then E.en 5 (U.dec (((ahd a).dropWhile dq).drop 1)) else [],hh:=true,hst:=(h.1,h.2.1,h.2.2.1,h.2.2.2.1),hp:=q.1,prt:=q.2 },0)
def aus(m:List Int)(r:List Int):Option (List Int) :=
 if (own m).isSome=true then some (r.dropWhile (sl true)) else if r.take 2=[47,47] then some (r.drop 2) else none
def hqy(l:List Int):Option (List Int×Bool) :=
 match sch l with
 | none=>none
 | some (m,r)=>if m=cA then none else match aus m r with
  | none=>none
  | some b=>(ask (own m).isSome (b.takeWhile (nau (own m).isSome))).map (fun x=>(x,(own m).isSome))
def rdc(l:List Int)(h:H.Hst):Ur×Int :=
 match sch l with
 | none=>(zu,130)
 | some (m,r)=>if m=cA then (zu,130) else match aus m r with
  | none=>(tl false false { zu with sch:=m } r,0)
  | some b=>if (ath m (b.takeWhile (nau (own m).isSome)) h).2≠0 then (zu,(ath m (b.takeWhile (nau (own m).isSome)) h).2) else
   (tl (own m).isSome true (ath m (b.takeWhile (nau (own m).isSome)) h).1 (b.dropWhile (nau (own m).isSome)),0)
def UP(A:List Int->List Int->Int->Prop)(s:List Int)(r:Ur×Int):Prop :=
 if 4096<s.length then r=(zu,4) else ∃ h,(∀ x sp,hqy (cln s)=some (x,sp)->H.HP A x sp h)/\r=rdc (cln s) h
def ptx(u:Ur):List Int:=if u.opq=true then u.bod else u.pth.flatMap (fun p=>47::p)
def utx(u:Ur):List Int:=if u.usr=[]/\u.pas=[] then [] else u.usr++((if u.pas=[] then [] else 58::u.pas)++[64])
def otx(u:Ur):List Int:=if u.hp=true then 58::F.wr 10 u.prt else []
def htx(u:Ur):List Int:=if u.hh=true then [47,47]++(utx u++(H.txt (u.hst.1,u.hst.2.1,u.hst.2.2.1,u.hst.2.2.2,0)++otx u)) else if u.opq=false/\1<u.pth.length/\u.pth.head? = some [] then [47,46] else []
def qtx(u:Ur):List Int:=(if u.hq=true then 63::u.qry else [])++(if u.hf=true then 35::u.frg else [])
def txt(u:Ur):List Int:=u.sch++(58::(htx u++(ptx u++qtx u)))
end Y
namespace H
abbrev hv(k:Int)(n:ByteArray)(f:Int)(a0 a1 a2 a3 a4 a5 a6 a7:Int):Value:=.agg #[.int .u8 k,.string n,.int .u32 f,.int .u16 a0,.int .u16 a1,.int .u16 a2,.int .u16 a3,.int .u16 a4,.int .u16 a5,.int .u16 a6,.int .u16 a7]
end H
namespace Y
open F (bn ak hid)
structure Us where
 sc:ByteArray
 us:ByteArray
 pa:ByteArray
 hh:Bool
 k:Nat
 nm:ByteArray
 f:Nat
 x0:Nat
 x1:Nat
 x2:Nat
 x3:Nat
 x4:Nat
 x5:Nat
 x6:Nat
 x7:Nat
 hp:Bool
 pr:Nat
 op:Bool
 pv:Value
 bo:ByteArray
 hq:Bool
 qu:ByteArray
 hf:Bool
 fg:ByteArray
def Us.cs(a:Us):Array Value:=#[.string a.sc,.string a.us,.string a.pa,.bool a.hh,.int .u8 (a.k:Nat),.string a.nm,.int .u32 (a.f:Nat),.int .u16 (a.x0:Nat),.int .u16 (a.x1:Nat),.int .u16 (a.x2:Nat),.int .u16 (a.x3:Nat),.int .u16 (a.x4:Nat),.int .u16 (a.x5:Nat),.int .u16 (a.x6:Nat),.int .u16 (a.x7:Nat),.bool a.hp,.int .u16 (a.pr:Nat),.bool a.op,a.pv,.string a.bo,.bool a.hq,.string a.qu,.bool a.hf,.string a.fg]
def Strs(w:World)(v:Value)(ps:List ByteArray):Prop:=(ps=[]/\v=.slice none 0 0)\/∃ b off c,v=.slice (some ⟨b,off,none⟩) ps.length c/\ps.length<=c/\∀ i,i<ps.length->w.cell? ⟨b,off+i,none⟩=some (.string (ps[i]?.getD ⟨#[]⟩))
theorem Strs.below{w W:World}{v:Value}{ps:List ByteArray}(h:Strs w v ps)(hb:Below w.heap.size w W):Strs W v ps:=by
 rcases h with h | ⟨b,off,c,rfl,hc,hi⟩
 ·exact .inl h
 ·refine .inr ⟨b,off,c,rfl,hc,fun i hlt=>?_⟩;have h1:=hi i hlt;exact(hb.cell (p:=⟨b,off+i,none⟩) (block_lt_of_cell? w _ h1)).trans h1
theorem Strs.form{w:World}{v:Value}{ps:List ByteArray}(h:Strs w v ps):∃(ad:Option Addr) (c:Nat),v=.slice ad ps.length c/\ps.length<=c/\(ps=[]\/∃ b off,ad=some ⟨b,off,none⟩/\∀ i,i<ps.length->w.cell? ⟨b,off+i,none⟩=some (.string (ps[i]?.getD ⟨#[]⟩))):=by
 rcases h with⟨rfl,rfl⟩ | ⟨b,off,c,rfl,hc,hi⟩
 ·exact⟨none,0,rfl,le_refl _,.inl rfl⟩
 ·exact⟨_,c,rfl,hc,.inr ⟨b,off,rfl,hi⟩⟩
structure At(w:World)(a:Us)(u:Ur):Prop where
 sc:bn a.sc=u.sch
 us:bn a.us=u.usr
 pa:bn a.pa=u.pas
 hh:a.hh=u.hh
 ho:(a.k,bn a.nm,a.f,[a.x0,a.x1,a.x2,a.x3,a.x4,a.x5,a.x6,a.x7])=u.hst
 hp:a.hp=u.hp
 pr:a.pr=u.prt
 op:a.op=u.opq
 bo:bn a.bo=u.bod
 hq:a.hq=u.hq
 qu:bn a.qu=u.qry
 hf:a.hf=u.hf
 fg:bn a.fg=u.frg
 pv:∃ ps,ps.map bn=u.pth/\Strs w a.pv ps
theorem aL(a:Us):(prog.info? 29).map (·.size)=some a.cs.size:=by kernel_rfl
theorem aA(w:World)(cs:Array Value)(t:TypeId):(w.alloc (.cells cs t)).heap[w.heap.size]? = some (.cells cs t (0,0)):=heap_alloc_new w _
theorem nj{w W:World}{B:Nat}{v:Value}{ps:List ByteArray}(h:w.ownsRow B 9 1 v ps.length (ps.map Value.string))(hW:∀ k,B<=k->W.heap[k]? = w.heap[k]?):Strs W v ps:=by
 rcases h.2 with⟨rfl,h0⟩ | ⟨g,cap,cur,rfl,hb,hg,hn,hc,hs,hx⟩
 ·exact .inl ⟨List.length_eq_zero_iff.1 h0,rfl⟩
 ·refine .inr ⟨g,0,cap,rfl,hn,fun i hi=>?_⟩;rw[Nat.zero_add,cell_of_row W g i cur _ _ ((hW g hb).trans hg)];have e:=congrArg (fun l:List Value=>l[i]?) hx;simp only[Nat.mul_one]at e;rw[List.getElem?_take_of_lt hi,getElem?_map,getElem?_eq_getElem hi]at e;rw[getElem?_eq_getElem hi,<-Array.getElem?_toList,e];rfl
theorem Aq(a:Us)(ad:Option Addr)(n c:Nat):(Us.cs { a with pv:=.slice ad n c }).all (·.oneCell')=true:=by simp[Us.cs,Value.oneCell']
theorem cS{B:Nat}{a w:World}(h:Below B a w){g:Nat}(hg:B<=g)(cs:Array Value):Below B a (w.setRow g cs):=by
 refine⟨h.os,h.tape,h.output,?_,fun k hk=>?_⟩
 ·rw[setRow_size];exact h.size
 ·rw[setRow_other w g k cs (by omega)];exact h.block k hk
theorem Le(ps:List ByteArray):∀ u∈ps.map Value.string,u.oneCell'=true:=fun u hu=>by obtain⟨p,_,rfl⟩:=List.mem_map.1 hu;rfl
theorem Rx:(prog.info? 9).map (fun i=>(i.zero,i.size,i.bytes))=some (some (.string ⟨#[]⟩),1,16):=by kernel_rfl
theorem cd{w:World}{ops:Array Oper}{rest:List Oper}{o:Oper}{a:Act}{Q:Exit->Act->World->Prop}(hgd:o.guard=none)(s x:Operand)
  (ho:o.op=.call { callee:=.builtin .append,args:=#[s,x],argTypes:=#[27,27] }) (base:Nat) (v:Value) (n:Nat) (ys:List ByteArray) (hs:a.eval s=v) (hown:w.ownsRow base 9 1 v n (ys.map Value.string))
  (u:Value) (zs:List ByteArray) (hx:a.eval x=u) (hu:Strs w u zs) (hbd:n+zs.length<=1000000000) (hbase:base<=w.heap.size)
  (h:∀ v' w',w'.ownsRow base 9 1 v' (n+zs.length) ((ys++zs).map Value.string)->w.grownBy w' v.ownBlock->wpList prog ops Q rest (a.put o.dst v') w'):wpList prog ops Q (o::rest) a w:=by
 obtain⟨i0,hi,hz0,hz1,hz2⟩:=info_parts Rx;rcases hu with⟨rfl,rfl⟩ | ⟨b,off,c,rfl,hc,hcell⟩
 ·exact wpList_append_own_none hgd s x 27 ho base 9 i0 1 underlying27 hi v n _ hs hown hx (h v w (by simpa using hown) ⟨rfl,rfl,rfl,le_refl _,fun _ _ _=>rfl⟩)
 ·refine wpList_append_own w hgd s x 27 ho base 9 i0 (.string ⟨#[]⟩) 1 16 underlying27 hi hz0 hz1 hz2 rfl (by decide) v n _ hs hown ⟨b,off,none⟩ zs.length c (zs.map Value.string) hx (by simp) ?_ (Le zs) (by unfold maxLen;omega) (by omega) hbase (fun v' w' h1 h2 _=>h v' w' (by simpa using h1) h2);intro j y hj;rw[getElem?_map]at hj;obtain⟨c',hc',rfl⟩:=Option.map_eq_some_iff.1 hj;have hj':=(List.getElem?_eq_some_iff.1 hc').1;have:=hcell j hj';rw[hc']at this;rw[Addr.add_lit];exact this
abbrev zc:Array Value:=#[.string ⟨#[]⟩,.string ⟨#[]⟩,.string ⟨#[]⟩,.bool false,.int .u8 0,.string ⟨#[]⟩,.int .u32 0,.int .u16 0,.int .u16 0,.int .u16 0,.int .u16 0,.int .u16 0,.int .u16 0,.int .u16 0,.int .u16 0,.bool false,.int .u16 0,.bool false,.slice none 0 0,.string ⟨#[]⟩,.bool false,.string ⟨#[]⟩,.bool false,.string ⟨#[]⟩]
open F (aa ak hid aq)
theorem Mn(s C:ByteArray)(h1:1<=C.size)(hz:C.size<=1000)(hA:E.Asc C)(hs:s.size<=400000000)(w:World):Calls prog 124 #[.string s,.string C] w fun e W'=>e=.returned (.int .i64 (Lib.indexAny s.data.toList C.data.toList))/\Below w.heap.size w W':=by
 have hf:Tryz.laysAny_ren.f 153=124:=by kernel_rfl
 have hac:∀(j:Nat) b,C.data.toList[j]? = some b->b.toNat<128:=fun j b hb=>hA b (mem_of_getElem? hb);by_cases h2:C.size=1
 ·have h:=Any.strings_IndexAny_one Tryz.laysAny s C w h2 hac;rw[hf]at h;exact h.mono (fun e W' ⟨h,h'⟩=>⟨h,h' ▸ Below.refl _ _⟩)
 by_cases h8:s.size<=8
 ·exact H.rf s C (by omega) hz hA h8 w
 ·have h:=Any.strings_IndexAny_long Tryz.laysAny (fun w=>by kernel_rfl) (by kernel_rfl) s C w (by omega) (by omega) (by omega) (by omega) hac;rw[hf]at h;refine h.mono ?_;rintro e W' ⟨rfl,rfl⟩;exact⟨rfl,((Below.refl _ _).alloc (le_refl _) _).alloc (by simp) _⟩
theorem Cd(C:ByteArray)(w:World):Calls prog 86 #[.string C] w fun e W'=>e=.returned (.func (.func 123) #[] #[.pointer (some ⟨w.heap.size,0,none⟩)])/\W'=w.alloc (.cells #[.string C] 9):=by go_enter func86,ntmps86;go_wp2;go_ret;exact⟨rfl,rfl⟩
theorem oN(s C:ByteArray)(h1:1<=C.size)(hz:C.size<=1000)(hA:E.Asc C)(hs:s.size<=400000000)(k:Nat)(w:World)(hk:w.cell? ⟨k,0,none⟩=some (.string C)):Calls prog 123 #[.string s,.pointer (some ⟨k,0,none⟩)] w fun e W'=>e=.returned (.int .i64 (Lib.indexAny s.data.toList C.data.toList))/\Below w.heap.size w W':=by have HI:=hid (Mn s C h1 hz hA hs w);obtain⟨z,hz⟩:=Ex' (Lib.indexAny s.data.toList C.data.toList);rw[hz]at HI ⊢;clear hz;go_enter func123,ntmps123;go_wp2_with(go_at_call 124;refine HI.out.mono ?_;rintro e w1 ⟨rfl,B1⟩);have HB:=hid B1;clear B1;go_wp2;go_ret;exact⟨rfl,HB.out⟩
def CK(s:ByteArray)(n:Int)(a r:ByteArray):Prop:=(n=-1/\a=s/\r=⟨#[]⟩)\/∃ k:Nat,n=k/\k<s.size/\a=s.extract 0 k/\r=s.extract k s.size
theorem fw(g:Nat)(lb:Array Value)(eg:∀ args w,(callFunc g args).run prog w=.ok (.enter g args) w)(s a r:ByteArray)(n:Int)(hs:s.size<=400000000)(hc:CK s n a r)(w:World)(hp:Calls prog g (#[.string s]++lb) w fun e W'=>e=.returned (.int .i64 n)/\Below w.heap.size w W'):Calls prog 122 #[.string s,.func (.func g) #[] lb] w fun e W'=>e=.returned (.tuple #[.string a,.string r])/\Below w.heap.size w W':=by
 rcases hc with⟨rfl,rfl,rfl⟩ | ⟨k,rfl,hk,rfl,rfl⟩
 ·go_enter func122,ntmps122;go_wp2_with(go_at_fn g;refine hp.mono ?_;rintro e w1 ⟨rfl,B1⟩);have HB:=hid B1;clear B1;go_wp2;go_ret2;exact⟨rfl,HB.out⟩
 ·have hkz:(k:Int)<(s.size:Int):=by omega
  go_enter func122,ntmps122;go_wp2_with(go_at_fn g;refine hp.mono ?_;rintro e w1 ⟨rfl,B1⟩);have HB:=hid B1;clear B1
  go_region
  all_goals (
    go_wp2
    go_ret2
    exact⟨rfl,HB.out.drew⟩)
theorem jO(g:Nat)(lb:Array Value)(eg:∀ args w,(callFunc g args).run prog w=.ok (.enter g args) w)(s a r:ByteArray)(n:Int)(hs:s.size<=400000000)(hc:CK s n a r)(w:World)(hp:Calls prog g (#[.string s]++lb) w fun e W'=>e=.returned (.int .i64 n)/\Below w.heap.size w W'):Calls prog 85 #[.string s,.func (.func g) #[] lb] w fun e W'=>e=.returned (.tuple #[.string a,.string (r.extract 1 r.size),.bool (decide (0<r.size))])/\Below w.heap.size w W':=by
 have HC:=hid (fw g lb eg s a r n hs hc w hp)
 have hrs:r.size<=400000000:=by
  rcases hc with⟨_,_,rfl⟩ | ⟨k,_,hk,_,rfl⟩
  ·decide
  ·rw[size_extract];omega
 clear hp;by_cases hr:r=⟨#[]⟩
 ·have ha:a=s:=by
   rcases hc with⟨_,h,_⟩ | ⟨k,_,hk,_,rfl⟩
   ·exact h
   ·have:=congrArg ByteArray.size hr;rw[size_extract]at this;have h0:(⟨#[]⟩:ByteArray).size=0:=rfl;omega
  subst ha hr;have e1:((⟨#[]⟩:ByteArray).extract 1 (⟨#[]⟩:ByteArray).size)=⟨#[]⟩:=by decide
  have e2:decide (0<(⟨#[]⟩:ByteArray).size)=false:=by decide
  rw[e1,e2];clear hc e1 e2;go_enter func85,ntmps85;go_wp2_with(go_at_call 122;refine HC.out.mono ?_;rintro e w1 ⟨rfl,B1⟩);have HB:=hid B1;clear B1;go_wp2;go_ret3;exact⟨rfl,HB.out⟩
 ·have hr0:0<r.size:=Nat.pos_of_ne_zero (fun h=>hr (by
    apply ak
    have:=aa r
    rw[h]at this
    rw[List.length_eq_zero_iff.1 this];rfl))
  have hrz:(1:Int)<=(r.size:Int):=by omega
  have he:r.toList.isEmpty=false:=aq r hr0;rw[decide_eq_true hr0];clear hc hr;go_enter func85,ntmps85;go_wp2_with(go_at_call 122;refine HC.out.mono ?_;rintro e w1 ⟨rfl,B1⟩);have HB:=hid B1;clear B1
  go_region
  all_goals (
    go_wp2
    go_ret3
    exact⟨rfl,HB.out.drew⟩)
open F (bn aa hid ar)
structure Rd where
 u:Us
 re:ByteArray
 sp:Bool
 sl:ByteArray
 po:ByteArray
def Rd.cs(r:Rd):Array Value:=#[.string r.u.sc,.string r.u.us,.string r.u.pa,.bool r.u.hh,.int .u8 (r.u.k:Nat),.string r.u.nm,.int .u32 (r.u.f:Nat),.int .u16 (r.u.x0:Nat),.int .u16 (r.u.x1:Nat),.int .u16 (r.u.x2:Nat),.int .u16 (r.u.x3:Nat),.int .u16 (r.u.x4:Nat),.int .u16 (r.u.x5:Nat),.int .u16 (r.u.x6:Nat),.int .u16 (r.u.x7:Nat),.bool r.u.hp,.int .u16 (r.u.pr:Nat),.bool r.u.op,r.u.pv,.string r.u.bo,.bool r.u.hq,.string r.u.qu,.bool r.u.hf,.string r.u.fg,.string r.re,.bool r.sp,.string r.sl,.string r.po]
def fns(b:Nat):Array Value:=#[.func (.func 49) #[.pointer (some ⟨b,0,none⟩)] #[],.func (.func 50) #[.pointer (some ⟨b,0,none⟩)] #[],.func (.func 51) #[.pointer (some ⟨b,0,none⟩)] #[],.func (.func 52) #[.pointer (some ⟨b,0,none⟩)] #[],.func (.func 53) #[.pointer (some ⟨b,0,none⟩)] #[],.func (.func 54) #[.pointer (some ⟨b,0,none⟩)] #[],.func (.func 55) #[.pointer (some ⟨b,0,none⟩)] #[],.func (.func 56) #[.pointer (some ⟨b,0,none⟩)] #[]]
structure St(w0:World)(b:Nat)(W:World)(r:Rd)(ps:List ByteArray):Prop where
 row:W.heap[b]? = some (.cells (Rd.cs r) 56 (0,0))
 lo:Below w0.heap.size w0 W
 hb:w0.heap.size<=b
 ks:∃ T,W.heap[b+1]? = some (.cells (fns b) T (0,0))
 ow:W.ownsRow (b+2) 9 1 r.u.pv ps.length (ps.map Value.string)
theorem St.lt{w0 W:World}{b:Nat}{r:Rd}{ps:List ByteArray}(h:St w0 b W r ps):b<W.heap.size:=(Array.getElem?_eq_some_iff.1 h.row).1
theorem St.below{w0 W W':World}{b:Nat}{r:Rd}{ps:List ByteArray}(h:St w0 b W r ps)(hb:Below W.heap.size W W'):St w0 b W' r ps :=
 ⟨(hb.block b h.lt).trans h.row,h.lo.trans (hb.mono h.lo.size),h.hb,h.ks.imp (fun T k=>(hb.block (b+1) (Array.getElem?_eq_some_iff.1 k).1).trans k),U.an h.ow hb (le_refl _)⟩
theorem St.put{w0 W:World}{b:Nat}{r:Rd}{ps:List ByteArray}(h:St w0 b W r ps)(i:Nat)(v:Value)(r':Rd)(he:(Rd.cs r).setIfInBounds i v=Rd.cs r')(hp:r'.u.pv=r.u.pv):St w0 b (W.setCell ⟨b,i,none⟩ v) r' ps:=by refine⟨(heap_setCell_same W b i _ _ v h.row).trans (by rw[he]),h.lo.setCell (p:=⟨b,i,none⟩) h.hb v,h.hb,h.ks.imp (fun T k=>(heap_setCell_other W ⟨b,i,none⟩ (b+1) v (by show b+1≠b;omega)).trans k),?_⟩;rw[hp];exact ownsRow_setCell_below h.ow (a:=⟨b,i,none⟩) (by show b<b+2;omega) v
theorem St.cell{w0 W:World}{b:Nat}{r:Rd}{ps:List ByteArray}(h:St w0 b W r ps)(i:Nat)(v:Value)(e:(Rd.cs r)[i]? = some v):W.cell? ⟨b,i,none⟩=some v/\W.frozen? ⟨b,i,none⟩=false:=⟨(cell_of_row _ _ i _ _ _ h.row).trans e,frozen_of_row _ _ i _ _ h.row⟩
theorem oT(s C:ByteArray)(f:Int->Bool)(hC:∀ x:UInt8,C.data.toList.contains x=f (x.toNat:Int)):∃ a r,CK s (Lib.indexAny s.data.toList C.data.toList) a r/\bn a=(bn s).takeWhile (fun c=>!f c)/\bn r=(bn s).dropWhile (fun c=>!f c):=by
 have key:∀ l:List UInt8,(Lib.indexAny l C.data.toList=-1/\(l.map fun c:UInt8=>(c.toNat:Int)).takeWhile (fun c=>!f c)=l.map (fun c:UInt8=>(c.toNat:Int))/\(l.map fun c:UInt8=>(c.toNat:Int)).dropWhile (fun c=>!f c)=[])\/∃ k:Nat,Lib.indexAny l C.data.toList=k/\k<l.length/\(l.map fun c:UInt8=>(c.toNat:Int)).takeWhile (fun c=>!f c)=(l.map fun c:UInt8=>(c.toNat:Int)).take k/\(l.map fun c:UInt8=>(c.toNat:Int)).dropWhile (fun c=>!f c)=(l.map fun c:UInt8=>(c.toNat:Int)).drop k:=by
  intro l
  induction l with
  | nil=>exact .inl ⟨rfl,rfl,rfl⟩
  | cons x l ih =>
   rw[map_cons,List.takeWhile_cons,dropWhile_cons];unfold Lib.indexAny;rw[hC];cases hx:f (x.toNat:Int)
   ·simp only[Bool.not_false,if_true,false_eq_true,if_false];rcases ih with⟨h1,h2,h3⟩ | ⟨k,h1,h2,h3,h4⟩
    ·rw[h1,h2,h3];exact .inl ⟨rfl,rfl,rfl⟩
    ·rw[h1,h3,h4];refine .inr ⟨k+1,?_,by simp;omega,rfl,rfl⟩;rw[if_neg (by simp <;> omega)];omega
   ·simp only[Bool.not_true,if_true,false_eq_true,if_false];exact .inr ⟨0,rfl,by simp,rfl,rfl⟩
 have hl:s.size=s.data.toList.length:=Lib.size_eq s;rcases key s.data.toList with⟨h1,h2,h3⟩ | ⟨k,h1,h2,h3,h4⟩
 ·exact⟨s,⟨#[]⟩,.inl ⟨h1,rfl,rfl⟩,h2.symm,h3.symm⟩
 ·refine⟨s.extract 0 k,s.extract k s.size,.inr ⟨k,h1,by omega,rfl,rfl⟩,?_,?_⟩
  ·rw[show bn (s.extract 0 k)=(bn s).take k from by unfold bn;rw[Lib.extract_data,drop_zero,sub_zero,List.map_take]];exact h3.symm
  ·rw[ar];exact h4.symm
theorem DF(g:Nat)(lb:Array Value)(eg:∀ args w,(callFunc g args).run prog w=.ok (.enter g args) w)(a t:ByteArray)(n:Int)(w0 W:World)(b:Nat)(r:Rd)(ps:List ByteArray)(hS:St w0 b W r ps)(hs:r.re.size<=400000000)(hc:CK r.re n a t)
  (hp:Calls prog g (#[.string r.re]++lb) W fun e W'=>e=.returned (.int .i64 n)/\Below W.heap.size W W') :
  Calls prog 92 #[.pointer (some ⟨b,0,none⟩),.func (.func g) #[] lb] W fun e W'=>e=.returned (.string a)/\St w0 b W' { r with re:=t } ps/\∀ j,j<W.heap.size->j≠b->W'.heap[j]? = W.heap[j]? := by
 have HC:=hid (fw g lb eg r.re a t n hs hc W hp);obtain⟨F24,_⟩:=hS.cell 24 (.string r.re) rfl;have HS:=hid hS;obtain⟨x,hx⟩:=Ex' r.re;rw[hx]at HC F24;clear hp hc hS hx;go_enter func92,ntmps92;go_wp2_with fail;refine HC.out.mono ?_;rintro e w1 ⟨rfl,B1⟩;have S1:=HS.out.below B1;obtain⟨G24,Z24⟩:=S1.cell 24 (.string r.re) rfl;have HB:=hid B1;have HS1:=hid S1;clear F24 B1 S1;go_wp2;go_ret;refine⟨rfl,HS1.out.put 24 _ _ rfl rfl,fun j hj hn=>?_⟩;rw[heap_setCell_other _ _ _ _ (by exact hn)];exact HB.out.block j hj
def Fst(C:ByteArray)(f:Int->Bool):Prop:=1<=C.size/\C.size<=1000/\E.Asc C/\∀ x:UInt8,C.data.toList.contains x=f (x.toNat:Int)
theorem jN{C:ByteArray}{f:Int->Bool}(h1:decide (1<=C.size/\C.size<=1000)=true)(h2:∀ n:Fin 256,C.data.toList.contains (UInt8.ofNat n.val)=f (n.val:Int))(h3:∀ n:Fin 256,128<=n.val->f (n.val:Int)=false):Fst C f:=by
 have hx:∀ x:UInt8,C.data.toList.contains x=f (x.toNat:Int):=fun x=>by have:=h2 ⟨x.toNat,x.toNat_lt⟩;simpa using this
 refine⟨(of_decide_eq_true h1).1,(of_decide_eq_true h1).2,fun b hb=>?_,hx⟩;rcases Nat.lt_or_ge b.toNat 128 with h | h
 ·exact h
 ·have e:=h3 ⟨b.toNat,b.toNat_lt⟩ h;rw[<-hx,Bool.eq_false_iff]at e;exact absurd (List.contains_iff_mem.2 hb) e
def Gx(c:Int):Bool:=decide (c=58)
def PX(c:Int):Bool:=decide (c=35)
theorem f58:Fst ⟨#[58]⟩ Gx:=jN (by decide) (by decide +kernel) (by decide +kernel)
theorem f35:Fst ⟨#[35]⟩ PX:=jN (by decide) (by decide +kernel) (by decide +kernel)
theorem fqm:Fst ⟨#[63,35]⟩ qm:=jN (by decide) (by decide +kernel) (by decide +kernel)
def ia(sp:Bool):ByteArray:=if sp=true then ⟨#[47,92]⟩ else ⟨#[47]⟩
theorem fsl(sp:Bool):Fst (ia sp) (Y.sl sp):=by
 cases sp
 ·exact jN (by decide) (by decide +kernel) (by decide +kernel)
 ·exact jN (by decide) (by decide +kernel) (by decide +kernel)
theorem fau(sp:Bool):Fst (ia sp++⟨#[63,35]⟩) (fun c=>Y.sl sp c||qm c):=by
 cases sp
 ·exact jN (by decide) (by decide +kernel) (by decide +kernel)
 ·exact jN (by decide) (by decide +kernel) (by decide +kernel)
theorem dH(C:ByteArray)(w:World):Calls prog 86 #[.string C] w fun e W'=>(∃ k,e=.returned (.func (.func 123) #[] #[.pointer (some ⟨k,0,none⟩)])/\W'.cell? ⟨k,0,none⟩=some (.string C))/\Below w.heap.size w W' :=
 (Cd C w).mono (by
   rintro e W' ⟨rfl,rfl⟩
   exact⟨⟨_,rfl,cell_of_row _ _ 0 _ _ _ (aA w _ _)⟩,(Below.refl _ w).alloc (le_refl _) _⟩)
theorem jg{C:ByteArray}{f:Int->Bool}(hF:Fst C f)(s:ByteArray)(hs:s.size<=400000000):∃(a d:ByteArray) (y:Bool),bn a=(bn s).takeWhile (fun c=>!f c)/\bn d=((bn s).dropWhile (fun c=>!f c)).drop 1/\y=decide ((bn s).dropWhile (fun c=>!f c)≠[])/\∀(W:World) (k:Nat),W.cell? ⟨k,0,none⟩=some (.string C)->Calls prog 85 #[.string s,.func (.func 123) #[] #[.pointer (some ⟨k,0,none⟩)]] W fun e W'=>e=.returned (.tuple #[.string a,.string d,.bool y])/\Below W.heap.size W W':=by
 obtain⟨a,r,hc,h1,h2⟩:=oT s C f hF.2.2.2;refine⟨a,r.extract 1 r.size,decide (0<r.size),h1,by rw[ar,h2],?_,fun W k hk=>?_⟩
 ·rw[<-h2,Bool.eq_iff_iff,decide_eq_true_iff,decide_eq_true_iff,<-aa r];exact List.length_pos_iff
 ·exact jO 123 #[.pointer (some ⟨k,0,none⟩)] (enters_of func123 (by kernel_rfl) rfl) s a r _ hs hc W (oN s C hF.1 hF.2.1 hF.2.2.1 hs k W hk)
theorem gB{C:ByteArray}{f:Int->Bool}(hF:Fst C f)(s:ByteArray)(hs:s.size<=400000000):∃(a t:ByteArray),bn a=(bn s).takeWhile (fun c=>!f c)/\bn t=(bn s).dropWhile (fun c=>!f c)/\∀(w0 W:World) (b:Nat) (r:Rd) (ps:List ByteArray) (k:Nat),r.re=s->St w0 b W r ps->W.cell? ⟨k,0,none⟩=some (.string C)->Calls prog 92 #[.pointer (some ⟨b,0,none⟩),.func (.func 123) #[] #[.pointer (some ⟨k,0,none⟩)]] W fun e W'=>e=.returned (.string a)/\St w0 b W' { r with re:=t } ps/\∀ j,j<W.heap.size->j≠b->W'.heap[j]? = W.heap[j]? := by obtain⟨a,t,hc,h1,h2⟩:=oT s C f hF.2.2.2;refine⟨a,t,h1,h2,fun w0 W b r ps k he hS hk=>?_⟩;subst he;exact DF 123 #[.pointer (some ⟨k,0,none⟩)] (enters_of func123 (by kernel_rfl) rfl) a t _ w0 W b r ps hS hs hc (oN r.re C hF.1 hF.2.1 hF.2.2.1 hs k W hk)
end Y
end Go.Proofs.YtlmflmdmolcfhaaGreatDoor
namespace Go.Proofs
open Go.Shelf Go.RowKit
shelf_lay Lays.n161 Nm 161 at Tryz as Tryz.laysTrL
shelf_lay Lays.n159 Nm 159 at Tryz as Tryz.laysLow
end Go.Proofs
namespace Go.Proofs.YtlmflmdmolcfhaaGreatDoor
open Tryz Go.RowKit
namespace Y
open Go.RowKit Go.Shelf
open F (bn aa hid ar)
def hpr(s p:ByteArray):Bool:=Lib.hasPrefix s.data.toList p.data.toList
theorem oA{a b:UInt8}(h:(a.toNat:Int)=(b.toNat:Int)):a=b:=UInt8.toNat_inj.1 (by omega)
theorem oC(s p:ByteArray):hpr s p=decide ((bn s).take p.size=bn p):=by
 unfold hpr Lib.hasPrefix;rw[Bool.eq_iff_iff,decide_eq_true_iff,List.isPrefixOf_iff_prefix];have hl:p.size=p.data.toList.length:=Lib.size_eq p;unfold bn;rw[<-List.map_take,hl];constructor
 ·rintro⟨t,e⟩;rw[<-e,List.take_left]
 ·intro h
  have hi:∀ {a b:List UInt8},a.map (fun c:UInt8=>(c.toNat:Int))=b.map (fun c:UInt8=>(c.toNat:Int))->a=b:=by
   intro a
   induction a with
   | nil=>intro b h;cases b with
    | nil=>rfl
    | cons _ _=>cases h
   | cons x a ih=>intro b h;cases b with
    | nil=>cases h
    | cons y b =>
     simp only[map_cons,List.cons.injEq]at h;rw[oA h.1,ih h.2]
  rw[<-hi h];exact List.take_prefix _ _
theorem GJ{s p:ByteArray}(h:hpr s p=true):p.size<=s.size:=by rw[oC]at h;have:=congrArg List.length (of_decide_eq_true h);rw[length_take,aa,aa]at this;omega
theorem uC(s p:ByteArray)(w:World):Calls prog 134 #[.string s,.string p] w fun e W'=>e=.returned (.bool (hpr s p))/\W'=w:=by
 have hf:Tryz.laysPre_ren.f 206=134:=by kernel_rfl
 have h:=Any.stringslite_HasPrefix Tryz.laysPre s p w;rw[hf]at h;exact h
theorem mv(s p:ByteArray)(w:World):Calls prog 91 #[.string s,.string p] w fun e W'=>e=.returned (.bool (hpr s p))/\W'=w:=by have HL:=hid (uC s p w);obtain⟨z,hz⟩:=Ex' (hpr s p);rw[hz]at HL ⊢;clear hz;go_enter func91,ntmps91;go_wp2_with(go_at_call 134;refine HL.out.mono ?_;rintro e w' ⟨rfl,hw⟩;obtain rfl:=hw.symm);go_ret;exact⟨rfl,rfl⟩
def cpx(s p:ByteArray):ByteArray:=if hpr s p=true then s.extract p.size s.size else s
theorem oU(s p:ByteArray)(hs:s.size<=400000000)(w:World):Calls prog 90 #[.string s,.string p] w fun e W'=>e=.returned (.tuple #[.string (cpx s p),.bool (hpr s p)])/\W'=w:=by
 have HL:Hid (Calls prog 133 #[.string s,.string p] w fun e W'=>e=.returned (.tuple #[.string (cpx s p),.bool (hpr s p)])/\W'=w):=by
  have HP:=hid (uC s p w);unfold cpx;cases hz:hpr s p
  ·rw[hz]at HP;rw[if_neg (by simp)];clear hz;go_enter func133,ntmps133;go_wp2_with(go_at_call 134;refine HP.out.mono ?_;rintro e w' ⟨rfl,hw⟩;obtain rfl:=hw.symm);go_ret2;exact⟨rfl,rfl⟩
  ·have hzz:(p.size:Int)<=(s.size:Int):=by have:=GJ hz;omega
   rw[hz]at HP;rw[if_pos rfl];clear hz;go_enter func133,ntmps133;go_wp2_with(go_at_call 134;refine HP.out.mono ?_;rintro e w' ⟨rfl,hw⟩;obtain rfl:=hw.symm);go_ret2;exact⟨rfl,rfl⟩
 obtain⟨y,hy⟩:=Ex' (cpx s p);obtain⟨z,hz⟩:=Ex' (hpr s p);rw[hy,hz]at HL ⊢;clear hz hy;go_enter func90,ntmps90;go_wp2_with(go_at_call 133;refine HL.out.mono ?_;rintro e w' ⟨rfl,hw⟩;obtain rfl:=hw.symm);go_ret2;exact⟨rfl,rfl⟩
theorem mB(s:ByteArray)(c:UInt8):hpr s ⟨#[c]⟩=decide ((bn s).head? = some (c.toNat:Int)):=by
 rw[oC];show decide ((bn s).take 1=[(c.toNat:Int)])=_;cases bn s with
 | nil=>rfl
 | cons d l=>rw[Bool.eq_iff_iff,decide_eq_true_iff,decide_eq_true_iff];simp
theorem yn(s p:ByteArray):bn (cpx s p)=if hpr s p=true then (bn s).drop p.size else bn s:=by
 unfold cpx;split
 ·exact ar s _
 ·rfl
def AK:ByteArray:=⟨#[47,92]⟩
theorem ru(s:ByteArray)(w:World):Calls prog 89 #[.string s,.string AK] w fun e W'=>(∃ t,e=.returned (.string t)/\bn t=(bn s).dropWhile (sl true))/\Below w.heap.size w W':=by
 have hf:Tryz.laysTrL_ren.f 161=89:=by kernel_rfl
 have hT:bn ⟨(Lib.trimLeftS s.data.toList AK.data.toList).toArray⟩=(bn s).dropWhile (sl true):=by
  show(Lib.trimLeftS s.data.toList [47,92]).map (fun c:UInt8=>(c.toNat:Int))=(s.data.toList.map (fun c:UInt8=>(c.toNat:Int))).dropWhile (sl true);unfold Lib.trimLeftS;rw[List.dropWhile_map];congr 2;funext c;show([47,92]:List UInt8).contains c=sl true (c.toNat:Int);unfold sl;rw[Bool.eq_iff_iff,contains_iff_mem];simp only[List.mem_cons,List.not_mem_nil,or_false,Bool.true_and,or_eq_true,decide_eq_true_eq];constructor
  ·rintro(rfl | rfl)
   ·left;rfl
   ·right;rfl
  ·rintro(h | h)
   ·left;exact oA h
   ·right;exact oA h
 by_cases h0:s.size=0
 ·have h:=Any.strings_TrimLeft_empty Tryz.laysTrL s AK w (.inl h0);rw[hf]at h;refine h.mono ?_;rintro e W' ⟨rfl,rfl⟩;refine⟨⟨_,rfl,?_⟩,Below.refl _ _⟩;have hb:bn s=[]:=List.length_eq_zero_iff.1 ((aa s).trans h0);rw[hb];rfl
 ·have h:=Any.strings_TrimLeft_set Tryz.laysTrL (fun w=>by kernel_rfl) (by kernel_rfl) s AK w (by decide) (by omega) (by decide) (fun j b hb=>by
    have:=mem_of_getElem? hb
    have h2:b=47\/b=92:=by simpa[AK]using this
    rcases h2 with rfl | rfl <;> decide)
  rw[hf]at h;refine h.mono ?_;rintro e W' ⟨rfl,rfl⟩;exact⟨⟨_,rfl,hT⟩,((Below.refl _ _).alloc (le_refl _) _).alloc (by simp) _⟩
theorem SO:Builder.Extra prog Tryz.laysLow_ren where
 sizeBuilder:=by kernel_rfl
 liesBuilder:=by kernel_rfl
 t5:=by kernel_rfl
 a5:=fun w=>by kernel_rfl
 z5:=fun w=>by kernel_rfl
 v5:=fun w=>by kernel_rfl
 infoByte:=by kernel_rfl
 cellsByte:=by kernel_rfl
 sizeByte:=by kernel_rfl
 neB5:=by decide
theorem si:∀ n:Fin 256,n.val<128->((Lib.lowerB (UInt8.ofNat n.val)).toNat:Int)=low (n.val:Int):=by decide +kernel
theorem PQ(c:UInt8)(h:c.toNat<128):((Lib.lowerB c).toNat:Int)=low (c.toNat:Int):=by have:=si ⟨c.toNat,by have:=c.toNat_lt;omega⟩ h;simpa using this
theorem Bw(s:ByteArray)(hs:s.size<=400000000)(ha:∀ c∈bn s,c<128)(w:World):Calls prog 88 #[.string s] w fun e W'=>(∃ t,e=.returned (.string t)/\bn t=(bn s).map low)/\Below w.heap.size w W':=by
 have hf:Tryz.laysLow_ren.f 159=88:=by kernel_rfl
 have hb:∀ b∈s.data.toList,b.toNat<128:=fun b hb=>by have:=ha (b.toNat:Int) (List.mem_map.2 ⟨b,hb,rfl⟩);omega
 have h:=Any.strings_ToLower_ascii Tryz.laysLow SO s w (by omega) (fun j b h=>hb b (mem_of_getElem? h));rw[hf]at h;refine h.mono ?_;rintro e W' ⟨rfl,hB⟩;refine⟨⟨_,rfl,?_⟩,hB⟩;show(Lib.toLowerA s.data.toList).map (fun c:UInt8=>(c.toNat:Int))=(s.data.toList.map (fun c:UInt8=>(c.toNat:Int))).map low;unfold Lib.toLowerA;rw[List.map_map,List.map_map];exact List.map_congr_left (fun c hc=>PQ c (hb c hc))
open F (bn gC)
set_option linter.unusedSimpArgs false
theorem xH(c:Nat)(w:World):Calls prog 125 #[.int .u8 (c:Int)] w fun e W'=>e=.returned (.bool (ltr (c:Int)))/\W'=w:=by
 have hl:ltr (c:Int)=((decide ((97:Int)<=c)&&decide ((c:Int)<=122))||(decide ((65:Int)<=c)&&decide ((c:Int)<=90))):=by unfold ltr;rw[Bool.eq_iff_iff];simp only[decide_eq_true_eq,or_eq_true,and_eq_true];omega
 rw[hl];clear hl;by_cases h1:(97:Int)<=c
 ·by_cases h2:(c:Int)<=122
  ·have d1:=decide_eq_true h1;have d2:=decide_eq_true h2;go_enter func125,ntmps125;go_wp2;go_ret;exact⟨by simp[d1,d2],rfl⟩
  ·have d1:=decide_eq_true h1;have d2:=decide_eq_false h2;have h3:(65:Int)<=c:=by omega
   have h4:¬ (c:Int)<=90:=by omega
   have d3:=decide_eq_true h3;have d4:=decide_eq_false h4;go_enter func125,ntmps125;go_wp2;go_ret;exact⟨by simp[d1,d2,d3,d4],rfl⟩
 ·have d1:=decide_eq_false h1;by_cases h3:(65:Int)<=c
  ·have d3:=decide_eq_true h3;go_enter func125,ntmps125;go_wp2;go_ret;exact⟨by simp[d1,d3],rfl⟩
  ·have d3:=decide_eq_false h3;go_enter func125,ntmps125;go_wp2;go_ret;exact⟨by simp[d1,d3],rfl⟩
theorem Cm(c:Nat)(w:World):Calls prog 126 #[.int .u8 (c:Int)] w fun e W'=>e=.returned (.bool (decide ((48:Int)<=c/\(c:Int)<=57)))/\W'=w:=by
 by_cases h1:(48:Int)<=c
 ·have d1:=decide_eq_true h1;go_enter func126,ntmps126;go_wp2;go_ret;exact⟨by simp[h1],rfl⟩
 ·have d1:=decide_eq_false h1;go_enter func126,ntmps126;go_wp2;go_ret;exact⟨by simp[h1],rfl⟩
theorem Bt:∀ n:Fin 256,decide (firstIdx ⟨#[43,45,46]⟩ (UInt8.ofNat n.val)<0)=!decide ((n.val:Int)=43\/(n.val:Int)=45\/(n.val:Int)=46):=by decide +kernel
theorem lv(c:Nat)(hc:c<256)(w:World):∃ z:Int,decide (z<0)=(!decide ((c:Int)=43\/(c:Int)=45\/(c:Int)=46))/\Calls prog 127 #[.string ⟨#[43,45,46]⟩,.int .u8 (c:Int)] w fun e W'=>e=.returned (.int .i64 z)/\W'=w :=
 ⟨firstIdx ⟨#[43,45,46]⟩ (UInt8.ofNat c),Bt ⟨c,hc⟩,E.fR ⟨#[43,45,46]⟩ (c:Int) w⟩
theorem iC(s:ByteArray)(l:List UInt8):(s.toList==l)=decide (bn s=l.map fun c:UInt8=>(c.toNat:Int)):=by
 have h:=gC s ⟨l.toArray⟩;have e:(⟨l.toArray⟩:ByteArray).toList=l:=by rw[Lib.toList_data]
 rw[e]at h;exact h
theorem nP(s:ByteArray)(w:World):Calls prog 13 #[.string s] w fun e W'=>e=.returned (.tuple #[.int .u16 (((own (bn s)).getD 0:Nat):Int),.bool (own (bn s)).isSome])/\W'=w:=by
 have q1:(s.toList==[104,116,116,112])=decide (bn s=om):=iC s _;have q2:(s.toList==[119,115])=decide (bn s=nWs):=iC s _;have q3:(s.toList==[104,116,116,112,115])=decide (bn s=xB):=iC s _;have q4:(s.toList==[119,115,115])=decide (bn s=PG):=iC s _;have q5:(s.toList==[102,116,112])=decide (bn s=PH):=iC s _;unfold own;by_cases h1:bn s=om
 ·rw[if_pos (.inl h1)];rw[decide_eq_true h1]at q1;clear q2 q3 q4 q5 h1;go_enter func13,ntmps13;go_wp2;go_ret2;exact⟨rfl,rfl⟩
 rw[decide_eq_false h1]at q1;by_cases h2:bn s=nWs
 ·rw[if_pos (.inr h2)];rw[decide_eq_true h2]at q2;clear q3 q4 q5 h1 h2;go_enter func13,ntmps13;go_wp2;go_ret2;exact⟨rfl,rfl⟩
 rw[if_neg (fun h=>h.elim h1 h2)];rw[decide_eq_false h2]at q2;by_cases h3:bn s=xB
 ·rw[if_pos (.inl h3)];rw[decide_eq_true h3]at q3;clear q4 q5 h1 h2 h3;go_enter func13,ntmps13;go_wp2;go_ret2;exact⟨rfl,rfl⟩
 rw[decide_eq_false h3]at q3;by_cases h4:bn s=PG
 ·rw[if_pos (.inr h4)];rw[decide_eq_true h4]at q4;clear q5 h1 h2 h3 h4;go_enter func13,ntmps13;go_wp2;go_ret2;exact⟨rfl,rfl⟩
 rw[if_neg (fun h=>h.elim h3 h4)];rw[decide_eq_false h4]at q4;by_cases h5:bn s=PH
 ·rw[if_pos h5];rw[decide_eq_true h5]at q5;clear h1 h2 h3 h4 h5;go_enter func13,ntmps13;go_wp2;go_ret2;exact⟨rfl,rfl⟩
 ·rw[if_neg h5];rw[decide_eq_false h5]at q5;clear h1 h2 h3 h4 h5;go_enter func13,ntmps13;go_wp2;go_ret2;exact⟨rfl,rfl⟩
def ifh(h:Bool)(c p:ByteArray):ByteArray:=if h=true then c++p else ⟨#[]⟩
theorem qF(h:Bool)(c p:ByteArray)(hs:c.size+p.size<=4000000000)(w:World):Calls prog 33 #[.bool h,.string c,.string p] w fun e W'=>e=.returned (.string (ifh h c p))/\W'=w:=by
 cases h
 ·go_enter func33,ntmps33;go_wp2;go_ret;exact⟨rfl,rfl⟩
 ·go_enter func33,ntmps33;go_wp2;go_ret;exact⟨rfl,rfl⟩
open F (bn aa hid aq az)
set_option linter.unusedSimpArgs false
def isS:List Int->Bool
 | []=>false
 | c::t=>ltr c&&t.all sgs
theorem iG(c:Int)(t:List Int):isS (c::t)=(ltr c&&t.all sgs):=rfl
def gd(i:Nat)(c:Int):Bool:=if i=0 then ltr c else sgs c
theorem Mi{l:List Int}(hne:l≠[])(h:∀ i c,l[i]? = some c->gd i c=true):isS l=true:=by
 cases l with
 | nil=>exact absurd rfl hne
 | cons c t =>
  have h0:=h 0 c rfl
  have:t.all sgs=true:=List.all_eq_true.2 (fun x hx=>by
    obtain⟨j,hj,rfl⟩:=List.mem_iff_getElem.1 hx
    exact h (j+1) _ (by rw[getElem?_cons_succ,getElem?_eq_getElem hj]))
  rw[iG,this];have:ltr c=true:=h0;rw[this];rfl
theorem Mg{l:List Int}{i:Nat}{c:Int}(h:l[i]? = some c)(hg:gd i c=false):isS l=false:=by
 cases l with
 | nil=>rfl
 | cons d t =>
  rw[iG];cases i with
  | zero =>
   have:d=c:=by simpa using h
   subst this;have:ltr d=false:=hg;rw[this];rfl
  | succ j =>
   rw[getElem?_cons_succ]at h;have:t.all sgs=false:=by rw[List.all_eq_false];exact⟨c,mem_of_getElem? h,by have:sgs c=false:=hg;rw[this];simp⟩
   rw[this,Bool.and_false]
theorem sn(s:ByteArray)(hs:s.size<=400000000)(w:World):Calls prog 87 #[.string s] w fun e W'=>e=.returned (.bool (isS (bn s)))/\W'=w:=by
 have HT:Hid (∀ i c,(bn s)[i]? = some c->gd i c=false->isS (bn s)=false):=fun i c=>Mg
 have HF:Hid ((∀ i c,i<s.size->(bn s)[i]? = some c->gd i c=true)->isS (bn s)=decide (0<s.size)):=fun h=>by
  by_cases h0:0<s.size
  ·rw[decide_eq_true h0];refine Mi (fun e=>?_) (fun i c hc=>h i c ?_ hc)
   ·have:=aa s;rw[e]at this;simp at this;omega
   ·have:=(List.getElem?_eq_some_iff.1 hc).1;rwa [aa]at this
  ·rw[decide_eq_false h0];have:bn s=[]:=List.length_eq_zero_iff.1 (by rw[aa];omega);rw[this];rfl
 have HG:Hid (∀(i:Nat) (h:i<s.size),(bn s)[i]? = some ((s[i]'h).toNat:Int)):=fun i h=>by unfold bn;rw[getElem?_map,data_getElem? s i h];rfl
 obtain⟨R,hR⟩:=Ex' (isS (bn s));rw[hR]at HT HF ⊢;clear hR;go_enter func87,ntmps87;go_wp2_with fail
 go_loopw [3,4,7] (fun _ _ v7 wr=>∃ i:Nat,i<=s.size/\v7=.int .i64 i/\wr=w/\Hid (∀ j c,j<i->(bn s)[j]? = some c->gd j c=true)) (fun _ _ v7 _=>s.size - (intOf v7).toNat)
 case atStart=>exact⟨0,zero_le _,rfl,rfl,fun j c hj=>by omega⟩
 case round =>
  obtain⟨i,hi,rfl,rfl,HN⟩:=hrel;by_cases hlt:i<s.size
  ·have hltz:(i:Int)<(s.size:Int):=by omega
   have HE:=hid (HG.out i hlt);obtain⟨x,hx⟩:=Ex' (s[i]'hlt:UInt8);have hx256:=x.toNat_lt;rw[hx]at HE;have HL:=hid (xH x.toNat wr);have HD:=hid (Cm x.toNat wr);obtain⟨z,hz,hM⟩:=lv x.toNat hx256 wr;have HM:=hid hM;have HZ:=hid hz
   have HN2:Hid (gd i (x.toNat:Int)=true->∀ j d,j<i+1->(bn s)[j]? = some d->gd j d=true):=fun h j d hj hd=>by
    by_cases e:j=i
    ·rw[e,HE.out]at hd;rw[<-Option.some.inj hd,e];exact h
    ·exact HN.out j d (by omega) hd
   clear hM hz HG HN;cases hl:ltr (x.toNat:Int)
   ·rw[hl]at HL;by_cases h0:i=0
    ·have hb:((i:Int)==0)=true:=by subst h0;rfl
     have hR:=HT.out i x.toNat HE.out (by unfold gd;rw[if_pos h0];exact hl);have HR:=hid hR;clear h0 hl hR HD HM HZ HF HT HN2;go_wp2_with(go_at_call 125;refine HL.out.mono ?_;rintro e w1 ⟨rfl,rfl⟩);go_ret;exact⟨by rw[HR.out] <;> rfl,rfl⟩
    ·have hb:((i:Int)==0)=false:=beq_eq_false_iff_ne.2 (by omega);cases hd:decide ((48:Int)<=(x.toNat:Int)/\(x.toNat:Int)<=57)
     ·rw[hd]at HD;cases hm:decide ((x.toNat:Int)=43\/(x.toNat:Int)=45\/(x.toNat:Int)=46)
      ·have hz2:decide (z<0)=true:=by rw[HZ.out,hm];rfl
       have hR:=HT.out i x.toNat HE.out (by
         unfold gd
         rw[if_neg h0]
         unfold sgs
         rw[hl,Bool.false_or]
         have h1:=of_decide_eq_false hd
         have h2:=of_decide_eq_false hm
         exact decide_eq_false (by omega))
       have HR:=hid hR;clear h0 hl hR HZ HF HT HN2 hd hm
       go_wp2_with(first
         | (go_at_call 125;refine HL.out.mono ?_;rintro e w1 ⟨rfl,rfl⟩)
         | (go_at_call 126;refine HD.out.mono ?_;rintro e w1 ⟨rfl,rfl⟩)
         | (go_at_call 127;refine HM.out.mono ?_;rintro e w1 ⟨rfl,rfl⟩))
       go_ret;exact⟨by rw[HR.out] <;> rfl,rfl⟩
      ·have hz2:decide (z<0)=false:=by rw[HZ.out,hm];rfl
       have HG2:=hid (HN2.out (by
         unfold gd
         rw[if_neg h0]
         unfold sgs
         have h2:=of_decide_eq_true hm
         rw[decide_eq_true (by omega),Bool.or_true]))
       clear h0 hl HZ HF HT HN2 hd hm
       go_wp2_with(first
         | (go_at_call 125;refine HL.out.mono ?_;rintro e w1 ⟨rfl,rfl⟩)
         | (go_at_call 126;refine HD.out.mono ?_;rintro e w1 ⟨rfl,rfl⟩)
         | (go_at_call 127;refine HM.out.mono ?_;rintro e w1 ⟨rfl,rfl⟩))
       go_roundw
       case rel=>exact⟨i+1,by omega,by go_num,by first | rfl | trivial,HG2.out⟩
       case measure=>simp[intOf];omega
     ·rw[hd]at HD
      have HG2:=hid (HN2.out (by
        unfold gd
        rw[if_neg h0]
        unfold sgs
        have h2:=of_decide_eq_true hd
        rw[decide_eq_true (by omega),Bool.or_true]))
      clear h0 hl HZ HF HT HN2 hd HM
      go_wp2_with(first
        | (go_at_call 125;refine HL.out.mono ?_;rintro e w1 ⟨rfl,rfl⟩)
        | (go_at_call 126;refine HD.out.mono ?_;rintro e w1 ⟨rfl,rfl⟩))
      go_roundw
      case rel=>exact⟨i+1,by omega,by go_num,by first | rfl | trivial,HG2.out⟩
      case measure=>simp[intOf];omega
   ·rw[hl]at HL;have HG2:=hid (HN2.out (by unfold gd;split;exact hl;unfold sgs;rw[hl];rfl));clear hl;go_wp2_with(go_at_call 125;refine HL.out.mono ?_;rintro e w1 ⟨rfl,rfl⟩)
    go_roundw
    case rel=>exact⟨i+1,by omega,by go_num,by first | rfl | trivial,HG2.out⟩
    case measure=>simp[intOf];omega
  ·have hltz:¬ (i:Int)<(s.size:Int):=by omega
   have hR:=HF.out (fun j c hj hc=>HN.out j c (by omega) hc);have HR:=hid hR;by_cases h0:0<s.size
   ·have he:=aq s h0;have HR2:Hid (R=true):=by rw[HR.out];exact decide_eq_true h0
    clear h0 hR HR HF HT HN;go_wp2;go_ret;exact⟨by rw[HR2.out] <;> rfl,rfl⟩
   ·have he:=az s (by omega);have HR2:Hid (R=false):=by rw[HR.out];exact decide_eq_false h0
    clear h0 hR HR HF HT HN;go_wp2;go_ret;exact⟨by rw[HR2.out] <;> rfl,rfl⟩
theorem bW{f:Int->Bool}{p q:List Int}(hp:∀ c∈p,f c=true)(hq:q=[]\/∃ d r,q=d::r/\f d=false):(p++q).takeWhile f=p/\(p++q).dropWhile f=q:=by
 rw[List.takeWhile_append_of_pos hp,List.dropWhile_append_of_pos hp];rcases hq with rfl | ⟨d,r,rfl,hd⟩
 ·simp
 ·rw[List.takeWhile_cons_of_neg (by rw[hd];simp),List.dropWhile_cons_of_neg (by rw[hd];simp)];simp
theorem cg{f:Int->Bool}:∀ {l:List Int} {c:Int},c∈l.takeWhile f->f c=true/\c∈l
 | [],c,h=>by simp at h
 | d::l,c,h=>by
  rw[List.takeWhile_cons]at h;split at h
  ·rename_i hd;rcases List.mem_cons.1 h with rfl | h
   ·exact⟨hd,by simp⟩
   ·have:=cg h;exact⟨this.1,by simp[this.2]⟩
  ·simp at h
theorem dJ{f:Int->Bool}{l:List Int}{c:Int}(h:c∈l.dropWhile f):c∈l:=(List.dropWhile_suffix f).subset h
def Sg(m:List Int):Prop:=∃ c t,m=c::t/\97<=c/\c<=122/\∀ d∈t,sgs d=true/\low d=d/\33<=d/\d<=126
theorem LU(d:Int):low (low d)=low d:=by unfold low;(repeat' split) <;> omega
theorem yU{d:Int}(h:sgs d=true):sgs (low d)=true/\33<=low d/\low d<=126:=by unfold sgs ltr at *;simp only[or_eq_true,decide_eq_true_eq]at *;unfold low;split <;> omega
theorem wZ{l m r:List Int}(h:sch l=some (m,r)):Sg m/\∃ p,l=p++58::r:=by
 cases l with
 | nil=>cases h
 | cons c t =>
  simp only[sch]at h;split at h
  ·rename_i hc;split at h
   ·rename_i d r' hd;split at h
    ·rename_i h58;cases h;refine⟨⟨low c,(t.takeWhile sgs).map low,by simp,?_,?_,?_⟩,c::t.takeWhile sgs,?_⟩
     ·unfold ltr at hc;have:=of_decide_eq_true hc;unfold low;split <;> omega
     ·unfold ltr at hc;have:=of_decide_eq_true hc;unfold low;split <;> omega
     ·intro d hd;obtain⟨x,hx,rfl⟩:=List.mem_map.1 hd;have h1:=yU (cg hx).1;exact⟨h1.1,LU x,h1.2⟩
     ·have:=List.takeWhile_append_dropWhile (p:=sgs) (l:=t);rw[hd,h58]at this;rw[cons_append,this]
    ·cases h
   ·cases h
  ·cases h
theorem bF(f:Int->Bool)(l:List Int):spl f l≠[]:=by
 cases l with
 | nil=>simp[spl]
 | cons c t =>
  unfold spl;split
  ·simp
  ·split <;> simp
theorem fX{f:Int->Bool}:∀ {l x:List Int},x∈spl f l->∀ c∈x,f c=false/\c∈l
 | [],x,h,c,hc=>by
  simp[spl]at h;rw[h]at hc;simp at hc
 | d::t,x,h,c,hc=>by
  unfold spl at h;split at h
  ·rcases List.mem_cons.1 h with rfl | h
   ·simp at hc
   ·have:=fX h c hc;exact⟨this.1,by simp[this.2]⟩
  ·rename_i hd;have hd':f d=false:=by simpa using hd
   split at h
   ·rename_i a r hs;rcases List.mem_cons.1 h with rfl | h
    ·rcases List.mem_cons.1 hc with rfl | hc
     ·exact⟨hd',by simp⟩
     ·have:=fX (l:=t) (x:=a) (by rw[hs];simp) c hc;exact⟨this.1,by simp[this.2]⟩
    ·have:=fX (l:=t) (x:=x) (by rw[hs];simp[h]) c hc;exact⟨this.1,by simp[this.2]⟩
   ·rename_i hs;exact absurd hs (bF f t)
theorem cu{f:Int->Bool}:∀ {p:List Int},(∀ c∈p,f c=false)->∀ {d:Int} {q:List Int},f d=true->spl f (p++d::q)=p::spl f q
 | [],_,d,q,hd=>by
  show spl f (d::q)=_;rw[spl,if_pos hd]
 | c::p,hp,d,q,hd=>by show spl f (c::(p++d::q))=_;have hc:f c=false:=hp c (by simp);rw[spl,if_neg (by rw[hc];simp),cu (fun x hx=>hp x (by simp[hx])) hd]
theorem rC{f:Int->Bool}:∀ {p:List Int},(∀ c∈p,f c=false)->spl f p=[p]
 | [],_=>rfl
 | c::p,hp=>by have hc:f c=false:=hp c (by simp);rw[spl,if_neg (by rw[hc];simp),rC (fun x hx=>hp x (by simp[hx]))]
open F (bn aa hid)
theorem n58(c:Int):(!Gx c)=dq c:=by unfold Gx dq;by_cases h:c=58 <;> simp[h]
theorem NO{c:Int}(h:sgs c=true\/ltr c=true):dq c=true:=by refine decide_eq_true (fun e=>?_);subst e;rcases h with h | h <;> exact absurd h (by decide)
theorem tN(c:Int)(t:List Int):sch (c::t)=if ltr c=true then (match t.dropWhile sgs with | d::r=>if d=58 then some ((c::t.takeWhile sgs).map low,r) else none | []=>none) else none:=rfl
theorem Kg{a r:List Int}(h:isS a=true):sch (a++58::r)=some (a.map low,r):=by
 cases a with
 | nil=>cases h
 | cons c t =>
  rw[iG,and_eq_true]at h;obtain⟨q1,q2⟩:=bW (f:=sgs) (p:=t) (q:=58::r) (List.all_eq_true.1 h.2) (.inr ⟨58,r,rfl,by decide⟩);show sch (c::(t++58::r))=_;rw[tN,if_pos h.1,q1,q2];rfl
theorem OL{l:List Int}(h:∀ r,l.dropWhile dq=58::r->isS (l.takeWhile dq)=false):sch l=none:=by
 cases l with
 | nil=>rfl
 | cons c t =>
  rw[tN];by_cases hc:ltr c=true
  ·rw[if_pos hc];cases hd:t.dropWhile sgs with
   | nil=>rfl
   | cons d r =>
    show(if d=58 then _ else none)=none;by_cases hd58:d=58
    ·exfalso;subst hd58;have e:c::t=(c::t.takeWhile sgs)++58::r:=by rw[cons_append,<-hd,List.takeWhile_append_dropWhile]
     obtain⟨q1,q2⟩:=bW (f:=dq) (p:=c::t.takeWhile sgs) (q:=58::r) (fun x hx=>by
       rcases List.mem_cons.1 hx with rfl | hx
       · exact NO (.inr hc)
       · exact NO (.inl (cg hx).1)) (.inr ⟨58,r,rfl,by decide⟩)
     rw[<-e]at q1 q2;have:=h r q2;rw[q1,iG,hc,Bool.true_and]at this;have h2:(t.takeWhile sgs).all sgs=true:=List.all_eq_true.2 (fun x hx=>(cg hx).1);rw[h2]at this;cases this
    ·rw[if_neg hd58]
  ·rw[if_neg hc]
theorem Mh{l:List Int}(h:isS l=true):∀ c∈l,c<128:=by
 cases l with
 | nil=>cases h
 | cons d t =>
  rw[iG,and_eq_true]at h;intro c hc;rcases List.mem_cons.1 hc with rfl | hc
  ·have:=of_decide_eq_true h.1;omega
  ·have:=yU (List.all_eq_true.1 h.2 c hc);have h3:=this.2.2;unfold low at h3;split at h3 <;> omega
theorem bK{w W W1 w':World}(h:Below w.heap.size w W)(hb:Below W1.heap.size W1 w')(e:W1.heap=W.heap:=by rfl)(o:W1.os=W.os:=by rfl)(t:W1.tape=W.tape:=by rfl)(p:W1.output=W.output:=by rfl):Below w.heap.size w w':=by have h1:Below w.heap.size w W1:=⟨by rw[o];exact h.os,by rw[t];exact h.tape,by rw[p];exact h.output,by rw[e];exact h.size,fun i hi=>by rw[e];exact h.block i hi⟩;exact h1.trans (hb.mono h1.size)
theorem wY(w0 W:World)(b:Nat)(r:Rd)(ps:List ByteArray)(hS:St w0 b W r ps)(hs:r.re.size<=100000):Calls prog 49 #[.pointer (some ⟨b,0,none⟩)] W fun e W' =>
  (e=.returned (.int .i64 130)/\(sch (bn r.re)=none\/∃ t,sch (bn r.re)=some (cA,t))/\Below w0.heap.size w0 W')\/(∃(m t:ByteArray),e=.returned (.int .i64 0)/\sch (bn r.re)=some (bn m,bn t)/\bn m≠cA/\St w0 b W' { r with u:={ r.u with sc:=m },re:=t,sp:=(own (bn m)).isSome,sl:=ia (own (bn m)).isSome } ps):=by
 obtain⟨a,d,y,ha,hd,hy,HDV⟩:=jg f58 r.re (by omega);have en:(fun c=>!Gx c)=dq:=funext n58;rw[en]at ha hd hy;have HS:=hid hS;obtain⟨F24,_⟩:=hS.cell 24 (.string r.re) rfl;have hasz:a.size<=100000:=by rw[<-aa,ha];exact le_trans (List.takeWhile_prefix _).length_le (by rw[aa];exact hs)
 have HDD:=hid HDV;have HIS:=hid (fun W=>sn a (by omega) W)
 have HNO:Hid (y=false\/isS (bn a)=false->sch (bn r.re)=none):=fun h=>OL (fun t ht=>by
   rcases h with h | h
   · rw[h,ht]at hy
     exact absurd hy.symm (by simp)
   · rw[<-ha];exact h)
 have HYE:Hid (y=true->isS (bn a)=true->∀ m:ByteArray,bn m=(bn a).map low->sch (bn r.re)=some (bn m,bn d)):=fun h1 h2 m hm=>by
  rw[h1]at hy;have hne:(bn r.re).dropWhile dq≠[]:=of_decide_eq_true hy.symm;cases hq:(bn r.re).dropWhile dq with
  | nil=>exact absurd hq hne
  | cons c t =>
   have hc:c=58:=by have:=List.head_dropWhile_not dq hne;simp only[hq,List.head_cons]at this;unfold dq at this;simpa using this
   subst hc;have e:bn r.re=bn a++58::t:=by rw[ha,<-hq,List.takeWhile_append_dropWhile]
   rw[e,Kg h2,hm,hd,hq];rfl
 obtain⟨x,hx⟩:=Ex' r.re;have HX:=hid hx;rw[hx]at F24 HDD;clear hS ha hd hy HDV en hs hx;go_enter func49,ntmps49;go_wp2_with fail;have hBB:Below W.heap.size W W:=Below.refl _ _
 go_region_held3 (fun w'=>w'.cell? ⟨b,24,none⟩=some (.string x))
  (first | go_keep | exact(hb.cell (block_lt_of_cell? _ _ (by assumption))).trans (by assumption))
  ((first
    | (go_at_call 86;refine(dH _ _).mono ?_;rintro e w' ⟨⟨k,rfl,hk⟩,hb⟩;replace hBB:=bK hBB hb)
    | (go_at_call 85;refine(HDD.out _ _ hk).mono ?_;rintro e w' ⟨rfl,hb⟩;replace hBB:=bK hBB hb)))
 have S1:=HS.out.below hBB;have HS1:=hid S1;have HLO:=hid S1.lo;clear hBB hb hk S1 HDD F24 HS;cases y
 ·have HE:=hid (HNO.out (.inl rfl));clear HNO HYE HIS;go_wp2;go_ret;exact .inl ⟨rfl,.inl HE.out,HLO.out⟩
 ·obtain⟨z,hz⟩:=Ex' (isS (bn a));rw[hz]at HIS;cases z
  ·have HE:=hid (HNO.out (.inr hz));clear HNO HYE hz;go_wp2_with(go_at_call 87;refine(HIS.out _).mono ?_;rintro e w2 ⟨rfl,hw⟩;obtain rfl:=hw.symm);go_ret;exact .inl ⟨rfl,.inl HE.out,HLO.out⟩
  ·have HLW:=hid (fun W=>Bw a (by omega) (Mh hz) W);have HY:=hid (HYE.out rfl hz);clear HNO HYE hz
   go_wp2_with(first
     | (go_at_call 87;refine(HIS.out _).mono ?_;rintro e w2 ⟨rfl,hw⟩;obtain rfl:=hw.symm)
     | fail)
   refine(HLW.out _).mono ?_;rintro e w2 ⟨⟨m,rfl,hm⟩,B2⟩;have HSC:=hid (HY.out m hm);have S2:=HS1.out.below B2;have q:=iC m [102,105,108,101];have q':(m.toList==[102,105,108,101])=decide (bn m=cA):=q;by_cases hf:bn m=cA
   ·rw[decide_eq_true hf]at q';have HE:Hid (∃ t,sch (bn r.re)=some (cA,t)):=⟨bn d,by rw[HSC.out,hf]⟩;have HLO2:=hid S2.lo;clear q hf HSC HY HLW HS1 S2 B2 hm;go_wp2;go_ret;exact .inl ⟨rfl,.inr HE.out,HLO2.out⟩
   ·rw[decide_eq_false hf]at q';have HNF:=hid hf;have HP:=hid (fun W=>nP m W);obtain⟨F0,Z0⟩:=S2.cell 0 (.string r.u.sc) rfl;obtain⟨V1,hV1⟩:=Ex' (w2.setCell ⟨b,0,none⟩ (.string m));have S3:=S2.put 0 (.string m) { r with u:={ r.u with sc:=m } } rfl rfl;rw[hV1]at S3;obtain⟨F1,Z1⟩:=S3.cell 24 (.string r.re) rfl;obtain⟨V2,hV2⟩:=Ex' (V1.setCell ⟨b,24,none⟩ (.string d));have S4:=S3.put 24 (.string d) { r with u:={ r.u with sc:=m },re:=d } rfl rfl;rw[hV2]at S4;obtain⟨F2,Z2⟩:=S4.cell 26 (.string r.sl) rfl;obtain⟨V3,hV3⟩:=Ex' (V2.setCell ⟨b,26,none⟩ (.string ⟨#[47]⟩));have S5:=S4.put 26 (.string ⟨#[47]⟩) { r with u:={ r.u with sc:=m },re:=d,sl:=⟨#[47]⟩ } rfl rfl;rw[hV3]at S5;obtain⟨F3,Z3⟩:=S5.cell 25 (.bool r.sp) rfl;have HS5:=hid S5;obtain⟨o,ho⟩:=Ex' ((own (bn m)).isSome);obtain⟨p,hp⟩:=Ex' ((own (bn m)).getD 0:Nat);rw[ho,hp]at HP;have HO:=hid ho;clear q hf HY HLW HS1 S2 S3 S4 S5 B2 hm hp ho HLO HIS;obtain⟨V4,hV4⟩:=Ex' (V3.setCell ⟨b,25,none⟩ (.bool o));have S6:=HS5.out.put 25 (.bool o) { r with u:={ r.u with sc:=m },re:=d,sl:=⟨#[47]⟩,sp:=o } rfl rfl;rw[hV4]at S6;obtain⟨F4,Z4⟩:=S6.cell 25 (.bool o) rfl;cases o
    ·have HS6:=hid S6;clear S6 HS5;go_wp2_with(go_at_call 13;refine(HP.out _).mono ?_;rintro e w3 ⟨rfl,hw⟩;obtain rfl:=hw.symm);go_ret;exact .inr ⟨m,d,rfl,HSC.out,HNF.out,by rw[HO.out];exact HS6.out⟩
    ·obtain⟨F5,Z5⟩:=S6.cell 26 (.string ⟨#[47]⟩) rfl;obtain⟨V5,hV5⟩:=Ex' (V4.setCell ⟨b,26,none⟩ (.string ⟨#[47,92]⟩));have S7:=S6.put 26 (.string ⟨#[47,92]⟩) { r with u:={ r.u with sc:=m },re:=d,sl:=⟨#[47,92]⟩,sp:=true } rfl rfl;rw[hV5]at S7;have HS7:=hid S7;clear S6 S7 HS5;go_wp2_with(go_at_call 13;refine(HP.out _).mono ?_;rintro e w3 ⟨rfl,hw⟩;obtain rfl:=hw.symm);go_ret;exact .inr ⟨m,d,rfl,HSC.out,HNF.out,by rw[HO.out];exact HS7.out⟩
theorem jf{c:Int}(h:U.ab c=true):∃ b t,U.enc c=b::t/\(c<128->b=c)/\(128<=c->192<=b):=by
 have hb:=E.aN h;unfold U.enc;split
 ·exact⟨_,_,rfl,fun _=>rfl,fun h=>by omega⟩
 ·split
  ·exact⟨_,_,rfl,fun h=>by omega,fun h=>by omega⟩
  ·split
   ·exact⟨_,_,rfl,fun h=>by omega,fun h=>by omega⟩
   ·exact⟨_,_,rfl,fun h=>by omega,fun h=>by omega⟩
theorem vJ{c:Int}(h:U.ab c=true):∃ b,(U.enc c).getLast? = some b/\(c<128->b=c)/\(128<=c->128<=b):=by
 have hb:=E.aN h;unfold U.enc;split
 ·exact⟨_,rfl,fun _=>rfl,fun h=>by omega⟩
 ·split
  ·exact⟨128+c % 64,rfl,fun h=>by omega,fun h=>by omega⟩
  ·split
   ·exact⟨128+c % 64,rfl,fun h=>by omega,fun h=>by omega⟩
   ·exact⟨128+c % 64,rfl,fun h=>by omega,fun h=>by omega⟩
theorem pY{l:List Int}{c:Int}(h:c∈strip l):c∈l:=by unfold strip at h;exact dJ (List.mem_reverse.1 (dJ (List.mem_reverse.1 h)))
theorem vX{s:List Int}(hs:U.Bytes s):∀ c∈(strip (U.dec s)).filter (fun c=>!tab c),U.ab c=true:=fun c hc=>List.all_eq_true.1 (U.bJ s.length s (le_refl _) hs) c (pY (List.mem_filter.1 hc).1)
theorem dI{L:List Int}(h:∀ c∈L,U.ab c=true):U.Bytes (U.aj L):=by intro b hb;obtain⟨c,hc,hbc⟩:=List.mem_flatMap.1 (show b∈L.flatMap U.enc from hb);have:=E.aN (h c hc);exact U.cR c this.1 this.2 b hbc
theorem qX{s:List Int}(hs:U.Bytes s):U.Bytes (cln s):=dI (vX hs)
open Go.Lib
def bp(x:Nat):Bool:=decide (x<=32)
def bq(b:UInt8):Bool:=decide (b.toNat<=32)
theorem ja{n b0 b1 b2 b3:Nat}(h:128<=b0\/(decodeN n b0 b1 b2 b3).2≠1):128<=(decodeN n b0 b1 b2 b3).1:=by
 by_cases h0:b0<128
 ·rw[decodeN_ascii _ _ _ _ _ h0]at h;simp only[ne_eq,not_true_eq_false,or_false]at h;omega
 ·clear h;unfold decodeN;rw[if_neg h0];repeat' split
  all_goals (simp only;omega)
theorem Qw(s:ByteArray)(pos:Nat)(h:(s.data.toList.getD pos 0).toNat<128):Utf8.decode s pos=((s.data.toList.getD pos 0).toNat,1):=by rw[decode_N,decodeN_ascii _ _ _ _ _ h]
theorem Qx(s:ByteArray)(pos:Nat)(h:128<=(s.data.toList.getD pos 0).toNat):bp (Utf8.decode s pos).1=false:=by rw[decode_N];have:=ja (n:=s.data.toList.length - pos) (b0:=(s.data.toList.getD pos 0).toNat) (b1:=(s.data.toList.getD (pos+1) 0).toNat) (b2:=(s.data.toList.getD (pos+2) 0).toNat) (b3:=(s.data.toList.getD (pos+3) 0).toNat) (.inl h);unfold bp;exact decide_eq_false (by omega)
theorem drop_cons'{l:List UInt8}{pos:Nat}(h:pos<l.length):l.drop pos=l.getD pos 0::l.drop (pos+1):=by rw[List.drop_eq_getElem_cons h];simp[List.getD,h]
theorem qB(s:ByteArray):∀(f pos:Nat),s.size<=pos+f->(if idxFuncFrom bp false s f pos=-1 then [] else s.data.toList.drop (idxFuncFrom bp false s f pos).toNat)=(s.data.toList.drop pos).dropWhile bq
 | 0,pos,h=>by
  have e:s.data.toList.drop pos=[]:=List.drop_eq_nil_of_le (by rw[<-size_eq];omega);rw[show idxFuncFrom bp false s 0 pos=-1 from rfl,if_pos rfl,e];rfl
 | f+1,pos,h=>by
  unfold idxFuncFrom;by_cases hp:pos<s.size
  ·rw[if_pos hp];have hp':pos<s.data.toList.length:=by rw[<-size_eq];exact hp
   rw[drop_cons' hp',dropWhile_cons];by_cases hl:(s.data.toList.getD pos 0).toNat<128
   ·rw[Qw s pos hl];by_cases hb:(s.data.toList.getD pos 0).toNat<=32
    ·have e1:bp (s.data.toList.getD pos 0).toNat=true:=decide_eq_true hb;have e2:bq (s.data.toList.getD pos 0)=true:=decide_eq_true hb;simp only[e1,e2,if_true,Bool.true_eq_false,if_false];exact qB s f (pos+1) (by omega)
    ·have e1:bp (s.data.toList.getD pos 0).toNat=false:=decide_eq_false hb;have e2:bq (s.data.toList.getD pos 0)=false:=decide_eq_false hb;simp only[e1,e2,if_true,false_eq_true,if_false];rw[if_neg (by omega),Int.toNat_natCast,drop_cons' hp']
   ·have e1:=Qx s pos (by omega);have e2:bq (s.data.toList.getD pos 0)=false:=decide_eq_false (by omega);simp only[e1,e2,if_true,false_eq_true,if_false];rw[if_neg (by omega),Int.toNat_natCast,drop_cons' hp']
  ·rw[if_neg hp,if_pos rfl,List.drop_eq_nil_of_le (by rw[<-size_eq];omega)];rfl
theorem Ax(s:ByteArray):(trimLeftF bp s).data.toList=s.data.toList.dropWhile bq:=by
 have h:=qB s s.size 0 (by omega);rw[drop_zero]at h;rw[<-h];unfold trimLeftF idxFunc;split
 ·rfl
 ·rw[extract_data,List.take_of_length_le (by rw[length_drop,<-size_eq];exact le_refl _)]
def tr(l:List UInt8):List UInt8:=(l.reverse.dropWhile bq).reverse
theorem yK(l:List UInt8)(b:UInt8):tr (l++[b])=if bq b=true then tr l else l++[b]:=by
 unfold tr;rw[List.reverse_append,List.reverse_singleton,List.singleton_append,dropWhile_cons];split
 ·rfl
 ·simp
theorem take_snoc'{l:List UInt8}{i:Nat}(hi:0<i)(hil:i<=l.length):l.take i=l.take (i - 1)++[l.getD (i - 1) 0]:=by obtain⟨k,rfl⟩:∃ k,i=k+1:=⟨i - 1,by omega⟩;rw[Nat.add_sub_cancel,List.take_succ_eq_append_getElem (by omega)];simp[List.getD,show k<l.length by omega]
theorem LZ(l:List UInt8)(i:Nat)(hi:0<i)(hil:i<=l.length)(h:128<=(l.getD (i - 1) 0).toNat):bp (decodeLastL (l.take i)).1=false:=by
 rcases last_cases l i hi hil with⟨ha,_⟩ | ⟨_,hd⟩ | ⟨_,st,hst,hd,hsum⟩
 ·omega
 ·rw[hd];decide
 ·have hk:128<=(decodeL ((l.take i).drop st)).1:=by
   rw[decodeL_N]at hsum ⊢;refine ja ?_;by_cases h1:st=i - 1
   ·left;rw[getD_dropU,Nat.add_zero,getD_takeU l i st hst,h1];exact h
   ·right;omega
  rw[hd];unfold bp;exact decide_eq_false (by omega)
theorem nJ(s:ByteArray):∀(f i:Nat),i<=f->i<=s.data.toList.length->OpenAt s.data.toList i ->
  tr (s.data.toList.take i)=s.data.toList.take (if 0<=lastIdxFuncFrom bp false s f i then (lastIdxFuncFrom bp false s f i).toNat+(decodeL (s.data.toList.drop (lastIdxFuncFrom bp false s f i).toNat)).2 else 0)
 | 0,i,hf,_,_=>by
  obtain rfl:i=0:=by omega
  simp[tr,lastIdxFuncFrom]
 | f+1,i,hf,hil,ho=>by
  by_cases hi:0<i
  ·have hw:=decodeLastL_width (s.data.toList.take i) (by rw[length_take];omega);rw[length_take,Nat.min_eq_left hil]at hw;unfold lastIdxFuncFrom;rw[if_pos hi];have hin:∀(hb:bp (decodeLastL (s.data.toList.take i)).1=false) (hq:bq (s.data.toList.getD (i - 1) 0)=false),tr (s.data.toList.take i)=s.data.toList.take (if 0<=(if bp (decodeLastL (s.data.toList.take i)).1=false then ((i - (decodeLastL (s.data.toList.take i)).2:Nat):Int) else lastIdxFuncFrom bp false s f (i - (decodeLastL (s.data.toList.take i)).2)) then (if bp (decodeLastL (s.data.toList.take i)).1=false then ((i - (decodeLastL (s.data.toList.take i)).2:Nat):Int) else lastIdxFuncFrom bp false s f (i - (decodeLastL (s.data.toList.take i)).2)).toNat+(decodeL (s.data.toList.drop (if bp (decodeLastL (s.data.toList.take i)).1=false then ((i - (decodeLastL (s.data.toList.take i)).2:Nat):Int) else lastIdxFuncFrom bp false s f (i - (decodeLastL (s.data.toList.take i)).2)).toNat)).2 else 0):=fun hb hq=>by simp only[hb,if_true];rw[if_pos (by omega),Int.toNat_natCast,fw_width _ i hi hil ho,Nat.sub_add_cancel hw.2,take_snoc' hi hil,yK,hq,if_neg (by simp)]
   by_cases hl:(s.data.toList.getD (i - 1) 0).toNat<128
   ·have hd:decodeLastL (s.data.toList.take i)=((s.data.toList.getD (i - 1) 0).toNat,1):=by
     rcases last_cases s.data.toList i hi hil with⟨_,hd⟩ | ⟨h,_⟩ | ⟨h,_⟩
     ·exact hd
     ·omega
     ·omega
    by_cases hb:(s.data.toList.getD (i - 1) 0).toNat<=32
    ·have e1:bp (s.data.toList.getD (i - 1) 0).toNat=true:=decide_eq_true hb;have e2:bq (s.data.toList.getD (i - 1) 0)=true:=decide_eq_true hb;rw[hd];simp only[e1,Bool.true_eq_false,if_false];rw[take_snoc' hi hil,yK,e2,if_pos rfl];exact nJ s f (i - 1) (by omega) (by omega) (.inr (by omega))
    ·exact hin (by rw[hd];exact decide_eq_false hb) (decide_eq_false hb)
   ·exact hin (LZ _ i hi hil (by omega)) (decide_eq_false (by omega))
  ·obtain rfl:i=0:=by omega
   rw[lastIdxFuncFrom_zero];simp[tr]
theorem zF(s:ByteArray):∀(f i:Nat),i<=s.size->lastIdxFuncFrom bp false s f i=-1\/lastIdxFuncFrom bp false s f i<i
 | 0,_,_=>.inl rfl
 | f+1,i,hi=>by
  unfold lastIdxFuncFrom;split
  ·rename_i h0;have hw:=decodeLastL_width (s.data.toList.take i) (by rw[length_take,<-size_eq];omega);rw[length_take,<-size_eq,Nat.min_eq_left hi]at hw;split
   ·right;omega
   ·rcases zF s f (i - (decodeLastL (s.data.toList.take i)).2) (by omega) with h | h
    ·exact .inl h
    ·right;omega
  ·exact .inl rfl
theorem wM(s:ByteArray):(trimRightF bp s).data.toList=tr s.data.toList:=by
 have h:=nJ s s.size s.size (le_refl _) (by rw[<-size_eq];exact le_refl _) (.inl (size_eq s));rw[List.take_of_length_le (by rw[<-size_eq];exact le_refl _)]at h;rw[h];unfold trimRightF rightEndF lastIdxFunc;rw[extract_data,drop_zero,sub_zero];congr 1;split
 ·rename_i h0;congr 2;have hx:s.extract (lastIdxFuncFrom bp false s s.size s.size).toNat s.size=⟨(s.data.toList.drop (lastIdxFuncFrom bp false s s.size s.size).toNat).toArray⟩:=by rw[extract_eq,List.take_of_length_le (by rw[length_drop,<-size_eq];exact le_refl _)]
  rw[hx];unfold decodeGoB decodeL;split
  ·rename_i h1;exfalso;have hlt:=zF s s.size s.size (le_refl _);rw[size_eq]at h1;simp only[length_drop]at h1;rw[<-size_eq]at h1;omega
  ·rfl
 ·rfl
def ni(l:List UInt8):List Int:=l.map fun c=>(c.toNat:Int)
theorem QN(c:UInt8):blk (c.toNat:Int)=bq c:=by unfold blk bq;rw[Bool.eq_iff_iff,decide_eq_true_iff,decide_eq_true_iff];omega
theorem se:∀ l:List UInt8,(ni l).dropWhile blk=ni (l.dropWhile bq)
 | []=>rfl
 | c::l=>by
  show((c.toNat:Int)::ni l).dropWhile blk=_;rw[dropWhile_cons,dropWhile_cons,QN];split
  ·exact se l
  ·rfl
theorem FB(l:List UInt8):(ni l).reverse=ni l.reverse:=by unfold ni;rw[List.map_reverse]
theorem Aa(s:ByteArray):F.bn (trimF bp s)=strip (F.bn s):=by show ni (trimF bp s).data.toList=strip (ni s.data.toList);unfold trimF strip;rw[wM,Ax,se,FB,se,FB];rfl
def sR(x:List Int):List Int:=(x.reverse.dropWhile blk).reverse
theorem tB(l:List Int):strip l=sR (l.dropWhile blk):=rfl
theorem qP:∀ {L:List Int},(∀ c∈L,U.ab c=true)->(U.aj L).dropWhile blk=U.aj (L.dropWhile blk)
 | [],_=>rfl
 | c::L,h=>by
  have hc:=h c (by simp);have hb:=E.aN hc;obtain⟨b,t,e,h1,h2⟩:=jf hc;have eL:U.aj (c::L)=b::(t++U.aj L):=by unfold U.aj;rw[List.flatMap_cons,e];rfl
  rw[eL,dropWhile_cons,dropWhile_cons];by_cases hk:blk c=true
  ·have hk':c<=32:=of_decide_eq_true hk;have h3:=h1 (by omega);subst h3;rw[if_pos hk,if_pos hk]
   have:t=[]:=by
    unfold U.enc at e;rw[if_pos (by omega)]at e;injection e with _ e2
    exact e2.symm
   rw[this];exact qP (fun x hx=>h x (by simp[hx]))
  ·have hk':¬ c<=32:=fun hh=>hk (decide_eq_true hh)
   have hb':¬ blk b=true:=fun hh=>by
    have:b<=32:=of_decide_eq_true hh;rcases Int.lt_or_le c 128 with h4 | h4
    ·have:=h1 h4;omega
    ·have:=h2 h4;omega
   rw[if_neg hk,if_neg hb',eL]
theorem rI(l:List Int)(c:Int):sR (l++[c])=if blk c=true then sR l else l++[c]:=by
 unfold sR;rw[List.reverse_append,List.reverse_singleton,List.singleton_append,dropWhile_cons];split
 ·rfl
 ·simp
theorem Kk{l:List Int}{c:Int}(h:l.getLast? = some c)(hc:¬ blk c=true):sR l=l:=by
 rcases List.eq_nil_or_concat l with rfl | ⟨m,d,rfl⟩
 ·cases h
 ·rw[List.concat_eq_append]at h ⊢;rw[List.getLast?_append]at h;simp at h;subst h;rw[rI,if_neg hc]
theorem Kl(L:List Int)(hL:∀ c∈L,U.ab c=true):sR (U.aj L)=U.aj (sR L):=by
 obtain⟨n,hn⟩:=Ex' L.length
 induction n generalizing L with
 | zero=>obtain rfl:=List.length_eq_zero_iff.1 hn;rfl
 | succ n ih =>
  rcases List.eq_nil_or_concat L with rfl | ⟨M,c,rfl⟩
  ·rfl
  ·rw[List.concat_eq_append]at hL hn ⊢;have hc:=hL c (by simp);have hb:=E.aN hc;rw[U.gv,rI];by_cases hk:blk c=true
   ·have hk':c<=32:=of_decide_eq_true hk;have e:U.enc c=[c]:=by unfold U.enc;rw[if_pos (by omega)]
    rw[if_pos hk,e,rI,if_pos hk];exact ih M (fun x hx=>hL x (by simp[hx])) (by simpa using hn)
   ·have hk':¬ c<=32:=fun hh=>hk (decide_eq_true hh);obtain⟨b,e,h1,h2⟩:=vJ hc;rw[if_neg hk]
    rw[Kk (c:=b) (by rw[List.getLast?_append,e];rfl) (fun hh=>by
      have:b<=32:=of_decide_eq_true hh
      rcases Int.lt_or_le c 128 with h4 | h4
      · have:=h1 h4;omega
      · have:=h2 h4;omega),U.gv]
theorem wS{L:List Int}(hL:∀ c∈L,U.ab c=true):strip (U.aj L)=U.aj (strip L):=by rw[tB,tB,qP hL,Kl _ (fun c hc=>hL c (dJ hc))]
def tf(r:Int):Int:=if r=9\/r=10\/r=13 then -1 else r
theorem Hp{c:Int}(h:U.ab c=true):encodeRuneZ c=U.enc c:=by
 have hb:=E.aN h;have hs:c<55296\/57343<c:=by unfold U.ab at h;have:=of_decide_eq_true h;omega
 unfold U.enc;split
 ·exact encodeRuneZ_one (by omega) (by omega)
 ·split
  ·exact encodeRuneZ_two (by omega) (by omega)
  ·split
   ·exact encodeRuneZ_three (by omega)
   ·exact encodeRuneZ_four (by omega) (by omega)
theorem tn:∀ l:List UInt8,(ni l).map (fun x=>x.toNat.toUInt8)=l
 | []=>rfl
 | c::l=>by show((c.toNat:Int).toNat.toUInt8)::(ni l).map _=_;rw[tn l];simp
theorem Ch{c:Int}(h:U.ab c=true){l:List UInt8}(hl:ni l=U.enc c):encodeRune c=l:=by unfold encodeRune;rw[Hp h,<-hl,tn]
theorem sJ{c:Int}(h:U.ab c=true){l m:List UInt8}(hl:ni l=U.enc c):decodeL (l++m)=(c.toNat,l.length):=by
 have hb:=E.aN h;have hs:c<55296\/57343<c:=by unfold U.ab at h;have:=of_decide_eq_true h;omega
 rw[decodeL_N];unfold U.enc at hl;split at hl
 ·have hlen:=congrArg List.length hl;rcases l with _ | ⟨x,_ | ⟨_,_⟩⟩
  all_goals first | (exfalso;simp[ni]at hlen;done) | skip
  simp only[ni,map_cons,map_nil,List.cons.injEq,and_true]at hl;have e0:(([x]++m).getD 0 0).toNat=x.toNat:=rfl;rw[e0,decodeN_ascii _ _ _ _ _ (by omega)];refine Prod.ext ?_ rfl;show x.toNat=c.toNat;omega
 ·split at hl
  ·have hlen:=congrArg List.length hl;rcases l with _ | ⟨x,_ | ⟨y,_ | ⟨_,_⟩⟩⟩
   all_goals first | (exfalso;simp[ni]at hlen;done) | skip
   simp only[ni,map_cons,map_nil,List.cons.injEq,and_true]at hl;obtain⟨h0,h1⟩:=hl;have e0:(([x,y]++m).getD 0 0).toNat=x.toNat:=rfl;have e1:(([x,y]++m).getD 1 0).toNat=y.toNat:=rfl;have el:([x,y]++m).length=m.length+2:=by simp
   rw[e0,e1,el];unfold decodeN;rw[if_neg (by omega),if_pos (by omega),if_pos (by omega)];refine Prod.ext ?_ rfl;show x.toNat % 32 * 64+y.toNat % 64=c.toNat;omega
  ·split at hl
   ·have hlen:=congrArg List.length hl;rcases l with _ | ⟨x,_ | ⟨y,_ | ⟨z,_ | ⟨_,_⟩⟩⟩⟩
    all_goals first | (exfalso;simp[ni]at hlen;done) | skip
    simp only[ni,map_cons,map_nil,List.cons.injEq,and_true]at hl;obtain⟨h0,h1,h2⟩:=hl;have e0:(([x,y,z]++m).getD 0 0).toNat=x.toNat:=rfl;have e1:(([x,y,z]++m).getD 1 0).toNat=y.toNat:=rfl;have e2:(([x,y,z]++m).getD 2 0).toNat=z.toNat:=rfl;have el:([x,y,z]++m).length=m.length+3:=by simp
    rw[e0,e1,e2,el];have hv:x.toNat % 16 * 4096+y.toNat % 64 * 64+z.toNat % 64=c.toNat:=by omega
    unfold decodeN;rw[if_neg (by omega),if_neg (by omega),if_pos (by omega),hv,if_pos (by omega)];rfl
   ·have hlen:=congrArg List.length hl;rcases l with _ | ⟨x,_ | ⟨y,_ | ⟨z,_ | ⟨t,_ | ⟨_,_⟩⟩⟩⟩⟩
    all_goals first | (exfalso;simp[ni]at hlen;done) | skip
    simp only[ni,map_cons,map_nil,List.cons.injEq,and_true]at hl;obtain⟨h0,h1,h2,h3⟩:=hl;have e0:(([x,y,z,t]++m).getD 0 0).toNat=x.toNat:=rfl;have e1:(([x,y,z,t]++m).getD 1 0).toNat=y.toNat:=rfl;have e2:(([x,y,z,t]++m).getD 2 0).toNat=z.toNat:=rfl;have e3:(([x,y,z,t]++m).getD 3 0).toNat=t.toNat:=rfl;have el:([x,y,z,t]++m).length=m.length+4:=by simp
    rw[e0,e1,e2,e3,el];have hv:x.toNat % 8 * 262144+y.toNat % 64 * 4096+z.toNat % 64 * 64+t.toNat % 64=c.toNat:=by omega
    unfold decodeN;rw[if_neg (by omega),if_neg (by omega),if_neg (by omega),if_pos (by omega),hv,if_pos (by omega)];rfl
theorem uB:∀(L:List Int) (l:List UInt8),(∀ c∈L,U.ab c=true)->ni l=U.aj L->ni (mapD tf l)=U.aj (L.filter (fun c=>!tab c))
 | [],l,_,hl=>by
  obtain rfl:l=[]:=by cases l with | nil=>rfl | cons _ _=>cases hl
  rfl
 | c::L,l,h,hl=>by
  have hc:=h c (by simp);have hb:=E.aN hc;have hl':ni l=U.enc c++U.aj L:=hl
  obtain⟨l1,l2,rfl,h1,h2⟩:∃ l1 l2,l=l1++l2/\ni l1=U.enc c/\ni l2=U.aj L:=by
   refine⟨l.take (U.enc c).length,l.drop (U.enc c).length,(List.take_append_drop _ _).symm,?_,?_⟩
   ·show(l.take _).map _=_;rw[List.map_take];show(ni l).take _=_;rw[hl',List.take_left]
   ·show(l.drop _).map _=_;rw[List.map_drop];show(ni l).drop _=_;rw[hl',List.drop_left]
  have hd:=sJ hc (m:=l2) h1;have hen:=U.eG c;have hlen:l1.length=(U.enc c).length:=by rw[<-h1];simp[ni]
  rw[mapD_step tf (l1++l2) (fun e=>by rw[List.append_eq_nil_iff]at e;rw[e.1]at hlen;simp at hlen;omega),hd];show ni ((if 0<=tf (c.toNat:Int) then encodeRune (tf (c.toNat:Int)) else [])++mapD tf ((l1++l2).drop l1.length))=_;rw[List.drop_left,Int.toNat_of_nonneg (by omega),List.filter_cons];have ih:=uB L l2 (fun x hx=>h x (by simp[hx])) h2;have na:∀ a b:List UInt8,ni (a++b)=ni a++ni b:=fun a b=>List.map_append;by_cases ht:tab c=true
  ·have ht':c=9\/c=10\/c=13:=of_decide_eq_true ht;have e:tf c=-1:=by unfold tf;rw[if_pos ht']
   rw[e,if_neg (by omega),na,ih,ht];rfl
  ·have ht':¬ (c=9\/c=10\/c=13):=fun hh=>ht (decide_eq_true hh);have e:tf c=c:=by unfold tf;rw[if_neg ht']
   rw[e,if_pos (by omega),na,ih,Ch hc h1,h1,Bool.eq_false_iff.2 ht];rfl
theorem JL{s t:ByteArray}(ht:F.bn t=U.aj (U.dec (F.bn s))):F.bn ⟨(mapD tf (trimF bp t).data.toList).toArray⟩=cln (F.bn s):=by
 have hs:∀ c∈U.dec (F.bn s),U.ab c=true:=List.all_eq_true.1 (U.bJ _ _ (le_refl _) (U.ay s));have h1:ni (trimF bp t).data.toList=U.aj (strip (U.dec (F.bn s))):=by show F.bn (trimF bp t)=_;rw[Aa,ht,wS hs]
 have h2:=uB _ _ (fun c hc=>hs c (pY hc)) h1;show ni (mapD tf (trimF bp t).data.toList)=_;rw[h2];rfl
end Y
namespace U
open Go.RowKit Go.Shelf
attribute [local go_sem] Oper.semAt_some
theorem qY(s:ByteArray)(hs:s.size<=68719476736)(w:World):
  Calls prog 45 #[.string s] w fun e W'=>(∃ t,e=.returned (.string t)/\bn t=aj (dec (bn s)))/\Below w.heap.size w W':=by
 refine(callsIn_wide (n:=3)).1 ?_;refine callsIn_of_wp_marks func45 rfl trivial ?_ rfl;simp only[ntmps45,List.size_toArray,List.length_cons,List.length_nil,Nat.reduceAdd,Nat.reduceSub,Array.replicate_succ,Array.replicate_zero,List.push_toArray,List.append_toArray,List.nil_append,cons_append];gi_wp2_with fail;refine⟨trivial,?_⟩;refine(nF _ s _).mono ?_;rintro e w' ⟨rfl,rfl⟩;gi_wp2_with fail;have bO:=Boxed.new w 42 (.slice none 0 0);have bN:=Boxed.new (w.alloc (.cells #[.slice none 0 0] 42)) 9 (.string s);rw[World.size_alloc]at bN;have hB0:Below w.heap.size w ((w.alloc (.cells #[.slice none 0 0] 42)).alloc (.cells #[.string s] 9)):=((Below.refl _ w).alloc (le_refl _) _).alloc (by simp) _
 refine wpIn_rangeFunc_ownG rfl (by omega) (gf:=116) (lb:=#[.pointer (some ⟨w.heap.size+1,0,none⟩)]) rfl trivial (enters_of func116 (by kernel_rfl) rfl)
  (oy 2 (by omega) (w.heap.size+1) s (by omega) _ bN) ou (ov (by simp)) (Below.refl _ _) (fun _=>rfl)
  (fun pre W=>((∃ v,Boxed W w.heap.size 42 v/\W.ownsRow w.heap.size 5 1 v (aj (fS pre)).length ((aj (fS pre)).map (Value.int .u8))/\True)/\Boxed W (w.heap.size+1) 9 (.string s))/\Below w.heap.size w W)
  (fun _ _ _=>False)
  (OwnFrom.and (OwnFrom.and (Own.from (holdsRow_own w.heap.size w.heap.size 42 5 1 (fun pre=>(aj (fS pre)).length) (fun pre=>(aj (fS pre)).map (Value.int .u8)) (fun pre v=>True)) _) (Own.from (boxed_own _ _ _) _)) (ownFrom_below (le_refl _) (by simp;omega)))
  (fun _ _ _ _ _ hs _ _=>hs)
  ⟨⟨⟨_,bO.alloc _,World.ownsRow_nil _ _ _ _,trivial⟩,bN⟩,hB0⟩
  (fun x=>{ tmps:=#[.string s,undef,.string { data:=#[] },.pointer (some ⟨w.heap.size,0,none⟩),.int .i32 x.1.1,.string s,.func (.func 116) #[] #[.pointer (some ⟨w.heap.size+1,0,none⟩)],.int .i32 x.1.1,.bool x.1.2,undef,undef,undef,undef,undef],defers:=[] }) ?assign ?body ?done ?stop
 case assign =>
  intro l x W K hK;gi_wp2;exact hK
 case body =>
  rintro l pre x W ⟨⟨⟨v,hv,ag,_⟩,hbs⟩,hB⟩ hlt;have hc:=hv.cell;have hpl:(fS pre).length<=pre.length:=Nat.le_of_eq (vA pre);have hel:=cX (fS pre);gi_wp2_with fail;refine⟨trivial,?_⟩;refine(CallsIn.inRound l (callsIn_wide.2 (pq w.heap.size v _ _ x.1.1 x.2.1 x.2.2 W hB.size (by omega) ag))).mono ?_;rintro e w1 ⟨v',rfl,hown',hgrow⟩
  obtain⟨g',cap',rfl⟩:∃ g cap,v'=.slice (some ⟨g,0,none⟩) ((aj (fS pre)).length+(enc x.1.1).length) cap:=by
   rcases hown'.2 with⟨_,h0⟩ | ⟨g,cap,_,rfl,_⟩
   ·have:=eG x.1.1;omega
   ·exact⟨g,cap,rfl⟩
  obtain⟨hv1,hv2,hr2,hk2,hb2⟩:=gY hv (by decide) ag hB.size (le_refl _) hown' hgrow;have hc1:=hv1.cell;have hf1:=hv1.frozen;gi_wp2;have hbs1:=(hbs.kept hgrow (hbs.not_row (by decide) ag)).other (B':=w.heap.size) (by omega) (.slice (some ⟨g',0,none⟩) ((aj (fS pre)).length+(enc x.1.1).length) cap');exact⟨hk2.from _,fun _=>hbs1,⟨⟨_,hv2,by rw[qG,gv];simpa using hr2,trivial⟩,hbs1⟩,hB.trans hb2⟩
 case done =>
  rintro D ys W hD rfl ⟨⟨⟨v,hv,ag,_⟩,hbs⟩,hB⟩ hK;have hc:=hv.cell;obtain⟨t,hcv,ht⟩:=aV W w.heap.size v _ (aj (fS (scl (bn s)))) rfl (dI _ (Mz _)) ag;gi_wp2;refine⟨by simp,.inl ⟨_,_,rfl,run_takeDeferred hK,?_⟩⟩;exact⟨_,results_tmp rfl _ _ _,⟨t,rfl,ht⟩,hB.trans (belowK_b (w:=w) (le_refl _) W D _ _ (by simp at hD;omega) hK rfl rfl)⟩
 case stop =>
  rintro D c pre W _ _ h _;exact h.elim
end U
end Go.Proofs.YtlmflmdmolcfhaaGreatDoor
namespace Go.Proofs
open Go.Shelf Go.RowKit
shelf_lay Lays.n230 Nm 230 at Tryz as Tryz.laysMap
shelf_lay Lays.n237 Nm 237 at Tryz as Tryz.laysTrF
end Go.Proofs
namespace Go.Proofs.YtlmflmdmolcfhaaGreatDoor
open Tryz Go.RowKit
namespace Y
open Go.RowKit Go.Shelf
open F (bn aa hid)
def Tbs(w:World):Prop:=Lib.Utf8Tabs 0 1 w
theorem Tbs.below{w w':World}(h:Tbs w)(hb:Below w.heap.size w w'):Tbs w':=Utf8Tabs_below h hb
theorem Ly:Builder.Extra prog Tryz.laysMap_ren where
 sizeBuilder:=by kernel_rfl
 liesBuilder:=by kernel_rfl
 t5:=by kernel_rfl
 a5:=fun w=>by kernel_rfl
 z5:=fun w=>by kernel_rfl
 v5:=fun w=>by kernel_rfl
 infoByte:=by kernel_rfl
 cellsByte:=by kernel_rfl
 sizeByte:=by kernel_rfl
 neB5:=by decide
theorem yr(w:World):PredGrows prog 46 #[] bp w:=fun W x hx hb=>by
 show Calls prog 46 #[.int .i32 (x:Int)] W _;have hd:bp x=decide ((x:Int)<=32):=by unfold bp;rw[Bool.eq_iff_iff,decide_eq_true_iff,decide_eq_true_iff];omega
 rw[hd];clear hd;go_enter func46,ntmps46;go_wp2;go_ret;exact⟨rfl,Below.refl _ _⟩
theorem AE(w:World):MapGrows prog 48 #[] tf w:=fun W x hx hb=>by
 show Calls prog 48 #[.int .i32 (x:Int)] W _;by_cases h:x=9\/x=10\/x=13
 ·have e:tf (x:Int)=-1:=by unfold tf;rw[if_pos (by omega)]
  rw[e];clear e;rcases h with rfl | rfl | rfl
  all_goals (
    go_enter func48,ntmps48
    go_wp2
    go_ret
    exact⟨rfl,Below.refl _ _⟩)
 ·have e:tf (x:Int)=x:=by unfold tf;rw[if_neg (by omega)]
  have h1:((x:Int)==9)=false:=beq_eq_false_iff_ne.2 (by omega);have h2:((x:Int)==10)=false:=beq_eq_false_iff_ne.2 (by omega);have h3:((x:Int)==13)=false:=beq_eq_false_iff_ne.2 (by omega);rw[e];clear e h;go_enter func48,ntmps48;go_wp2;go_ret;exact⟨rfl,Below.refl _ _⟩
theorem Av(s:ByteArray)(hs:s.size<=1000000)(w:World)(hT:Tbs w):Calls prog 44 #[.string s,.func (.func 46) #[] #[]] w fun e W'=>e=.returned (.string (Lib.trimF bp s))/\Below w.heap.size w W':=by
 have hf:Tryz.laysTrF_ren.f 237=44:=by kernel_rfl
 have h3:Tryz.laysTrF_ren.g 3=0:=by kernel_rfl
 have h4:Tryz.laysTrF_ren.g 4=1:=by kernel_rfl
 have h:=Any.strings_TrimFunc_grows Tryz.laysTrF 46 #[] (enters_of func46 (by kernel_rfl) rfl) bp s w (by omega) (by rw[h3,h4];exact hT) (yr w);rw[hf]at h;exact h
theorem kA(s:ByteArray)(hs:s.size<=1000000)(w:World)(hT:Tbs w):Calls prog 47 #[.func (.func 48) #[] #[],.string s] w fun e W'=>e=.returned (.string ⟨(Lib.mapD tf s.data.toList).toArray⟩)/\Below w.heap.size w W':=by
 have hf:Tryz.laysMap_ren.f 230=47:=by kernel_rfl
 have h3:Tryz.laysMap_ren.g 3=0:=by kernel_rfl
 have h4:Tryz.laysMap_ren.g 4=1:=by kernel_rfl
 have h:=Any.strings_Map_grows Tryz.laysMap Ly 48 #[] (enters_of func48 (by kernel_rfl) rfl) tf s w (by omega) (AE w) (fun x hx=>by unfold tf;split <;> omega) (by rw[h3,h4];exact hT);rw[hf]at h;exact h
theorem Aw(s:ByteArray):(Lib.trimF bp s).size<=s.size:=by have h:=congrArg List.length (Aa s);rw[aa]at h;rw[h,<-aa s];unfold strip;rw[List.length_reverse];refine le_trans (List.dropWhile_suffix _).length_le ?_;rw[List.length_reverse];exact(List.dropWhile_suffix _).length_le
theorem Dx(s:ByteArray)(hs:s.size<=100000)(w:World)(hT:Tbs w):Calls prog 24 #[.string s] w fun e W'=>(∃ t,e=.returned (.string t)/\bn t=cln (bn s))/\Below w.heap.size w W':=by
 have HC:=hid (U.qY s (by omega) w);have HS:Hid (∀ t,U.bn t=U.aj (U.dec (U.bn s))->t.size<=1000000):=fun t h=>by have h1:=congrArg List.length h;rw[U.aa]at h1;have h2:=U.cX (U.dec (U.bn s));have h3:=U.dv (U.bn s).length (U.bn s) (le_refl _) (U.ay s);rw[U.aa]at h3;omega
 have HT:=hid hT;clear hT;go_enter func24,ntmps24;go_wp2_with fail;refine HC.out.mono ?_;rintro e w1 ⟨⟨t,rfl,ht⟩,B1⟩;have HM:=hid (Av t (HS.out t ht) w1 (HT.out.below B1));have HTS:=hid (HS.out t ht);have HTT:=hid ht;have HB:=hid B1;clear ht B1;go_wp2_with fail;refine HM.out.mono ?_;rintro e w2 ⟨rfl,B2⟩;replace HB:=Bt' HB B2;have HTI:=hid (JL (s:=s) HTT.out);have HMP:=hid (kA (Lib.trimF bp t) (le_trans (Aw t) HTS.out) w2 (HT.out.below HB.out));obtain⟨u,hu⟩:=Ex' (Lib.trimF bp t);rw[hu]at HTI HMP ⊢;clear B2 hu;go_wp2_with fail;refine HMP.out.mono ?_;rintro e w3 ⟨rfl,B3⟩;replace HB:=Bt' HB B3;clear B3 HMP;obtain⟨v,hv⟩:=Ex' ((⟨(Lib.mapD tf u.data.toList).toArray⟩:ByteArray):ByteArray);rw[hv]at HTI ⊢;clear hv;go_wp2;go_ret;exact⟨⟨v,rfl,HTI.out⟩,HB.out⟩
end Y
end Go.Proofs.YtlmflmdmolcfhaaGreatDoor
namespace Go.Proofs
open Go.Shelf Go.RowKit
shelf_lay Lays.n227 Nm 227 at Tryz as Tryz.laysSet
shelf_lay Lays.n228 Nm 228 at Tryz as Tryz.laysHas
shelf_lay Lays.n271 Nm 271 at Tryz as Tryz.laysDcl
end Go.Proofs
namespace Go.Proofs.YtlmflmdmolcfhaaGreatDoor
open Tryz Go.RowKit
namespace Y
open Go.RowKit Go.Shelf
open F (bn hid)
def Clr(l:List UInt8)(i:Nat):Prop:=∀ j,i<=j->l[j]? ≠ some 64
def prd:Nat->Int
 | 0=>-1
 | k+1=>k
def fh(l:List UInt8)(n:Int):Prop:=(n=-1/\Clr l 0)\/∃ k:Nat,n=k/\l[k]? = some 64/\Clr l (k+1)
theorem Clr.step{l:List UInt8}{i:Nat}(h:Clr l (i+1))(hn:l[i]? ≠ some 64):Clr l i:=fun j hj=>by
 by_cases e:j=i
 ·rw[e];exact hn
 ·exact h j (by omega)
theorem An{n b0 b1 b2 b3:Nat}(h:(Lib.decodeN n b0 b1 b2 b3).2≠1):128<=b0/\128<=b1/\((Lib.decodeN n b0 b1 b2 b3).2=2\/128<=b2/\((Lib.decodeN n b0 b1 b2 b3).2=3\/128<=b3/\(Lib.decodeN n b0 b1 b2 b3).2=4)):=by
 rcases Lib.decodeN_shape n b0 b1 b2 b3 with⟨_,e⟩ | ⟨h1,_,h2,_,e⟩ | ⟨h1,_,h2,h3,_,_,e⟩ | ⟨h1,_,h2,h3,h4,_,_,e⟩ | e <;> rw[e]at h ⊢
 ·exact absurd rfl h
 ·exact⟨by omega,by omega,.inl rfl⟩
 ·exact⟨by omega,by omega,.inr ⟨by omega,.inl rfl⟩⟩
 ·exact⟨by omega,by omega,.inr ⟨by omega,.inr ⟨by omega,rfl⟩⟩⟩
 ·exact absurd rfl h
theorem PE{l:List UInt8}{j:Nat}(h:128<=(l.getD j 0).toNat):l[j]? ≠ some 64:=fun e=>by rw[getD_eq_getElem?_getD,e]at h;exact absurd h (by decide)
theorem BI(l:List UInt8)(i:Nat)(hi:0<i)(hil:i<=l.length)(hc:Clr l i):1<=(Lib.decodeLastL (l.take i)).2/\(Lib.decodeLastL (l.take i)).2<=i/\(((Lib.decodeLastL (l.take i)).1=64/\l[i - (Lib.decodeLastL (l.take i)).2]? = some 64/\Clr l (i - (Lib.decodeLastL (l.take i)).2+1))\/((Lib.decodeLastL (l.take i)).1≠64/\Clr l (i - (Lib.decodeLastL (l.take i)).2))):=by
 have hw:=Lib.decodeLastL_width (l.take i) (by rw[length_take];omega);rw[length_take,Nat.min_eq_left hil]at hw;refine⟨hw.1,hw.2,?_⟩;have hg:l[i - 1]? = some (l.getD (i - 1) 0):=by rw[getD_eq_getElem?_getD,getElem?_eq_getElem (show i - 1<l.length by omega)];rfl
 have hc':Clr l (i - 1+1):=by rw[show i - 1+1=i by omega];exact hc
 rcases Lib.last_cases l i hi hil with⟨ha,hd⟩ | ⟨ha,hd⟩ | ⟨ha,st,hst,hd,hsum⟩
 ·rw[hd];by_cases h:(l.getD (i - 1) 0).toNat=64
  ·have e:l.getD (i - 1) 0=64:=UInt8.toNat_inj.1 h;exact .inl ⟨h,by rw[hg,e],hc'⟩
  ·refine .inr ⟨h,Clr.step hc' (fun e=>h ?_)⟩;rw[hg]at e;rw[Option.some.inj e];rfl
 ·rw[hd];exact .inr ⟨by decide,Clr.step hc' (PE ha)⟩
 ·rw[hd];obtain⟨K,hK⟩:=Ex' ((Lib.decodeL ((l.take i).drop st)).2);have hg2:∀ t,st+t<i->((l.take i).drop st).getD t 0=l.getD (st+t) 0:=fun t ht=>by rw[Lib.getD_dropU,Lib.getD_takeU l i _ ht]
  have hKd:=hK;rw[Lib.decodeL_N]at hKd;refine .inr ?_;by_cases h1:K=1
  ·rw[hK]at hsum ⊢;have e:st=i - 1:=by omega
   refine⟨?_,by rw[h1];exact Clr.step hc' (PE ha)⟩;have:=ja (n:=((l.take i).drop st).length) (b0:=(((l.take i).drop st).getD 0 0).toNat) (b1:=(((l.take i).drop st).getD 1 0).toNat) (b2:=(((l.take i).drop st).getD 2 0).toNat) (b3:=(((l.take i).drop st).getD 3 0).toNat) (.inl (by rw[hg2 0 (by omega),Nat.add_zero,e];exact ha));rw[Lib.decodeL_N];omega
  ·have hw2:=An (by rw[hKd];exact h1);have hr:=ja (n:=((l.take i).drop st).length) (b0:=(((l.take i).drop st).getD 0 0).toNat) (b1:=(((l.take i).drop st).getD 1 0).toNat) (b2:=(((l.take i).drop st).getD 2 0).toNat) (b3:=(((l.take i).drop st).getD 3 0).toNat) (.inr (by rw[hKd];exact h1));rw[<-Lib.decodeL_N]at hr;rw[hKd]at hw2;rw[hK]at hsum ⊢;refine⟨by omega,fun j hj=>?_⟩;by_cases hji:i<=j
   ·exact hc j hji
   ·obtain⟨t,rfl⟩:∃ t,j=st+t:=⟨j - st,by omega⟩;refine PE ?_;rw[<-hg2 t (by omega)];have ht:t<K:=by omega
    match t,ht with
    | 0,_=>exact hw2.1
    | 1,_=>exact hw2.2.1
    | 2,h =>
         rcases hw2.2.2 with h' | h'
         ·omega
         ·exact h'.1
    | 3,h =>
         rcases hw2.2.2 with h' | ⟨_,h' | h'⟩
         ·omega
         ·omega
         ·exact h'.1
    | t+4,h=>rcases hw2.2.2 with h' | ⟨_,h' | h'⟩ <;> omega
theorem MT(s:ByteArray)(hs:s.size<=400000000)(w:World)(hT:Tbs w):Calls prog 163 #[.string s] w fun e W'=>e=.returned (.tuple #[.int .i32 (Lib.decodeLastL s.data.toList).1,.int .i64 (Lib.decodeLastL s.data.toList).2])/\Below w.heap.size w W':=by
 have hf:Tryz.laysDcl_ren.f 271=163:=by kernel_rfl
 have h3:Tryz.laysDcl_ren.g 3=0:=by kernel_rfl
 have h4:Tryz.laysDcl_ren.g 4=1:=by kernel_rfl
 have h:=Any.utf8_DecodeLastRuneInString Tryz.laysDcl s w (by omega) (by rw[h3,h4];exact hT);rw[hf]at h;exact h
theorem Oe:E.Asc ⟨#[64]⟩:=fun c hc=>by
 have:c=64:=by simpa using hc
 subst this;decide
theorem xJ(s:ByteArray)(h1:s.size≠1)(h8:s.size<=8)(w:World)(hT:Tbs w):Calls prog 136 #[.string s,.string ⟨#[64]⟩] w fun e W'=>(∃ n,e=.returned (.int .i64 n)/\fh s.data.toList n)/\Below w.heap.size w W':=by
 have hn1:((s.size:Int)==1)=false:=beq_eq_false_iff_ne.2 (by omega);have h8z:decide ((8:Int)<(s.size:Int))=false:=decide_eq_false (by omega);have hl:s.size=s.data.toList.length:=Lib.size_eq s;have HSH:=hid (fun W=>H.jE (s.size:Int) W);rw[h8z]at HSH;have HST:=hid (BI s.data.toList);have HT:=hid hT;have HX:Hid (∀ i,(s.extract 0 i).data.toList=s.data.toList.take i):=fun i=>by rw[Lib.extract_data,drop_zero,sub_zero]
 have HC0:Hid (Clr s.data.toList s.size):=fun j hj=>by rw[getElem?_eq_none (by omega)];simp
 have HD:=hid MT;have HL:=hid hl;have HW:Hid (wrap32 ((((⟨#[64]⟩:ByteArray)[0]'(by decide)).toNat:Nat):Int)=64):=by show _=_;kernel_rfl
 have hlt:wrap32 ((((⟨#[64]⟩:ByteArray)[0]'(by decide)).toNat:Nat):Int)<128:=by rw[HW.out];decide
 clear hT h8z hl;go_enter func136,ntmps136;go_wp2_with(go_at_call 169;refine(HSH.out _).mono ?_;rintro e w' ⟨rfl,hw⟩;obtain rfl:=hw.symm);rw[HW.out];clear hlt HW
 go_loopg [10,11,12] s.size (fun gf v10 _ _ wx=>∃ i:Nat,i<=gf/\i<=s.size/\v10=.int .i64 i/\Hid (Below w.heap.size w wx/\Clr s.data.toList i))
 case atStart=>exact⟨s.size,le_refl _,le_refl _,rfl,Below.refl _ _,HC0.out⟩
 case round =>
  obtain⟨i,hig,his,rfl,HR⟩:=hrel;by_cases h0:0<i
  ·obtain⟨g',rfl⟩:∃ g',gk=g'+1:=⟨gk - 1,by omega⟩;have h0z:(0:Int)<(i:Int):=by omega
   have hisz:(i:Int)<=(s.size:Int):=by omega
   obtain⟨q1,q2,q3⟩:=HST.out i h0 (by have:=HL.out;omega) HR.out.2;have HDC:=hid (HD.out (s.extract 0 i) (by rw[size_extract];omega) wr (HT.out.below HR.out.1));rw[HX.out]at HDC;obtain⟨R,hR⟩:=Ex' ((Lib.decodeLastL (s.data.toList.take i)).1);obtain⟨K,hK⟩:=Ex' ((Lib.decodeLastL (s.data.toList.take i)).2);rw[hR,hK]at HDC q3;rw[hK]at q1 q2;have hsub:(i:Int) - (K:Int)=((i - K:Nat):Int):=by omega
   have HB0:=hid HR.out.1;have HQ:=hid q3;clear hR hK q3 HR HST;by_cases h64:R=64
   ·have hb:((64:Int)==(R:Int))=true:=by subst h64;rfl
    have HE:Hid (s.data.toList[i - K]? = some 64/\Clr s.data.toList (i - K+1)):=by
     rcases HQ.out with⟨_,h,h'⟩ | ⟨h,_⟩
     ·exact⟨h,h'⟩
     ·exact absurd h64 h
    clear HQ h64;go_wp2_with(go_at_call 163;refine HDC.out.mono ?_;rintro e w1 ⟨rfl,B1⟩);have HB:=Bt' HB0 B1;clear B1;go_ret;exact⟨⟨_,rfl,.inr ⟨i - K,by first | rfl | exact hsub,HE.out.1,HE.out.2⟩⟩,HB.out⟩
   ·have hb:((64:Int)==(R:Int))=false:=beq_eq_false_iff_ne.2 (by omega)
    have HE:Hid (Clr s.data.toList (i - K)):=by
     rcases HQ.out with⟨h,_⟩ | ⟨_,h⟩
     ·exact absurd h h64
     ·exact h
    clear HQ h64;go_wp2_with(go_at_call 163;refine HDC.out.mono ?_;rintro e w1 ⟨rfl,B1⟩);have HB:=Bt' HB0 B1;clear B1
    go_roundg g'
    case measure=>omega
    case rel=>exact⟨i - K,by omega,by omega,by first | rfl | rw[hsub],HB.out,HE.out⟩
  ·obtain rfl:i=0:=by omega
   have HE:=hid HR.out;clear HR;go_wp2;go_ret;exact⟨⟨_,rfl,.inl ⟨rfl,HE.out.2⟩⟩,HE.out.1⟩
theorem Gp(s:ByteArray)(h1:s.size=1)(w:World):Calls prog 136 #[.string s,.string ⟨#[64]⟩] w fun e W'=>(∃ n,e=.returned (.int .i64 n)/\fh s.data.toList n)/\Below w.heap.size w W':=by
 have h0:0<s.size:=by omega
 have hl:s.size=s.data.toList.length:=Lib.size_eq s;obtain⟨x,hx⟩:=Ex' (s[0]'h0:UInt8);have hg:s.data.toList[0]? = some x:=by rw[<-hx];exact data_getElem? s 0 h0
 have HNO:Hid (x.toNat≠64->fh s.data.toList (-1)):=fun h=>.inl ⟨rfl,fun j _=>by
   by_cases e:j=0
   · rw[e,hg];intro h';exact h (by rw[Option.some.inj h'];rfl)
   · rw[getElem?_eq_none (by omega)];simp⟩
 have HYE:Hid (x.toNat=64->fh s.data.toList 0):=fun h=>.inr ⟨0,rfl,by rw[hg];exact congrArg some (UInt8.toNat_inj.1 h),fun j hj=>by rw[getElem?_eq_none (by omega)];simp⟩;have hx256:=x.toNat_lt;have hn1:((s.size:Int)==1)=true:=by rw[h1];rfl
 clear hg hl h1;by_cases hlo:x.toNat<128
 ·have hw:wrap32 (x.toNat:Int)=(x.toNat:Int):=IntWalk.wrap32_in _ (by omega);have hge:¬ (128:Int)<=(x.toNat:Int):=by omega
  have HI:=hid (fun W=>E.kn ⟨#[64]⟩ (x.toNat:Int) (by omega) (by omega) W);have HF:=hid (E.jc ⟨#[64]⟩ (x.toNat:Int) (by omega) (by omega));obtain⟨z,hz⟩:=Ex' (firstIdx ⟨#[64]⟩ ((x.toNat:Int)).toNat.toUInt8);rw[hz]at HI HF;clear hz hlo;by_cases h64:x.toNat=64
  ·have hzz:(0:Int)<=z:=by have:=HF.out;rw[h64]at this;exact of_decide_eq_true (this.trans (by decide))
   have HR:=hid (HYE.out h64);clear HF HYE HNO h64;go_enter func136,ntmps136;go_wp2_with(go_at_call 168;refine(HI.out _).mono ?_;rintro e w' ⟨rfl,hw'⟩;obtain rfl:=hw'.symm);go_ret;exact⟨⟨0,rfl,HR.out⟩,Below.refl _ _⟩
  ·have hzz:¬ (0:Int)<=z:=by
    have:=HF.out;have h2:(U.bn ⟨#[64]⟩).contains (x.toNat:Int)=false:=by show([64]:List Int).contains _=_;rw[Bool.eq_false_iff];intro hc;have:=List.contains_iff_mem.1 hc;simp at this;omega
    exact of_decide_eq_false (this.trans h2)
   have HR:=hid (HNO.out h64);clear HF HYE HNO h64;go_enter func136,ntmps136;go_wp2_with(go_at_call 168;refine(HI.out _).mono ?_;rintro e w' ⟨rfl,hw'⟩;obtain rfl:=hw'.symm);go_ret;exact⟨⟨-1,rfl,HR.out⟩,Below.refl _ _⟩
 ·have hw:wrap32 (x.toNat:Int)=(x.toNat:Int):=IntWalk.wrap32_in _ (by omega);have hge:(128:Int)<=(x.toNat:Int):=by omega
  have HI:=hid (fun W=>E.ll ⟨#[64]⟩ Oe (by decide) W);have HR:=hid (HNO.out (by omega));clear HYE HNO hlo;go_enter func136,ntmps136;go_wp2_with(go_at_call 168;refine(HI.out _).mono ?_;rintro e w' ⟨rfl,B1⟩);have HB:=hid B1;clear B1;go_ret;exact⟨⟨-1,rfl,HR.out⟩,HB.out⟩
theorem BM(s:ByteArray)(h8:8<s.size)(hs:s.size<=400000000)(w:World):Calls prog 136 #[.string s,.string ⟨#[64]⟩] w fun e W'=>(∃ n,e=.returned (.int .i64 n)/\fh s.data.toList n)/\Below w.heap.size w W':=by
 have hn1:((s.size:Int)==1)=false:=beq_eq_false_iff_ne.2 (by omega);have h8z:decide ((8:Int)<(s.size:Int))=true:=decide_eq_true (by omega);have HL:=hid (Lib.size_eq s);have hv:∀ w,(zeroValue 154).run prog w=.ok (.agg (Array.replicate 256 (.bool false))) w:=fun w=>by kernel_rfl
 have hi256:(prog.info? 154).map (·.size)=some 256:=by kernel_rfl
 have hz256:∀ w,(Go.sizeOf 154).run prog w=.ok 256 w:=fun w=>by kernel_rfl
 have hfM:Tryz.laysSet_ren.f 227=130:=by kernel_rfl
 have hfC:Tryz.laysHas_ren.f 228=170:=by kernel_rfl
 have hT:Tryz.laysSet_ren.t 116=154:=by kernel_rfl
 have hM:=Any.strings_makeASCIISet Tryz.laysSet (fun w=>by kernel_rfl) (by kernel_rfl) ⟨#[64]⟩ w (by decide) (fun j b hb=>Oe b (mem_of_getElem? hb));rw[hfM,hT]at hM;obtain⟨cs,hcs⟩:=Ex' (Lib.setCells (⟨#[64]⟩:ByteArray).data.toList);have hsz:cs.size=256:=by rw[<-hcs];exact Lib.setCells_size _
 have eb:=Lib.setCells_one (⟨#[64]⟩:ByteArray).data.toList;have hat:∀ x:UInt8,cs[x.toNat]? = some (.bool (([64]:List UInt8).contains x)):=fun x=>by rw[<-hcs];exact Lib.setCells_at _ x
 rw[hcs]at hM eb;have HM:=hid hM;have HSH:=hid (fun W=>H.jE (s.size:Int) W);rw[h8z]at HSH;have hsc:(storeCells ⟨w.heap.size+1,0,none⟩ cs.toList 0).run prog ((w.alloc (.cells cs 154)).alloc (.cells (Array.replicate 256 (.bool false)) 154))=.ok () ((w.alloc (.cells cs 154)).alloc (.cells cs 154)):=by have:=run_storeCells_new (P:=prog) (w.alloc (.cells cs 154)) 154 (Array.replicate 256 (.bool false)) cs (by rw[hsz];exact hi256) (by rw[hsz,Array.size_replicate]) eb;simpa using this
 have HC:Hid (∀ x:UInt8,((w.alloc (.cells cs 154)).alloc (.cells cs 154)).cell? ⟨w.heap.size+1,x.toNat,none⟩=some (.bool (([64]:List UInt8).contains x))):=fun x=>by rw[World.cell?_alloc_at _ _ _ _ (by simp)];exact hat x
 have HCC:Hid (∀(x:UInt8) (v:Bool) (W:World),W.cell? ⟨w.heap.size+1,x.toNat,none⟩=some (.bool v)->Calls prog 170 #[.pointer (some ⟨w.heap.size+1,0,none⟩),.int .u8 x.toNat] W fun e w'=>e=.returned (.bool v)/\w'=W):=fun x v W h=>by
  have:=Any.asciiSet_contains Tryz.laysHas (w.heap.size+1) x v W h
  rwa [hfC]at this
 clear hat hcs eb hM hfM hfC hT h8z;go_enter func136,ntmps136
 go_wp2_with(first
   | (go_at_call 169;refine(HSH.out _).mono ?_;rintro e w' ⟨rfl,hw⟩;obtain rfl:=hw.symm)
   | (go_at_call 130;refine HM.out.mono ?_;rintro e w' ⟨rfl,hw⟩;rw[hw]))
 have HS1:Hid ((s.size:Int) - 1=prd s.size):=by
  cases h:s.size with
  | zero=>omega
  | succ k=>show((k+1:Nat):Int) - 1=(k:Int);omega
 clear hsc hv hi256 hz256 HM HSH
 go_loopg [8] s.size (fun gf v8 wx=>gf<=s.size/\v8=.int .i64 (prd gf)/\wx=((w.alloc (.cells cs 154)).alloc (.cells cs 154))/\Hid (Clr s.data.toList gf))
 case atStart =>
  refine⟨le_refl _,?_,rfl,fun j hj=>by rw[getElem?_eq_none (by have:=HL.out;omega)];simp⟩;rw[<-HS1.out]
 case round =>
  obtain⟨hgs,rfl,rfl,HK⟩:=hrel;cases gk with
  | zero =>
   show Code.wp _ _ _ _ _;have hp:prd 0=-1:=rfl;have HE:=hid HK.out;clear HK HC HCC HS1;go_wp2;go_ret;exact⟨⟨_,rfl,.inl ⟨rfl,HE.out⟩⟩,((Below.refl _ w).alloc (le_refl _) _).alloc (by simp) _⟩
  | succ g =>
   have hp:prd (g+1)=(g:Int):=rfl;have hg:g<s.size:=by omega
   have hgz:(g:Int)<(s.size:Int):=by omega
   obtain⟨x,hx⟩:=Ex' (s[g]'hg:UInt8);have HG:Hid (s.data.toList[g]? = some x):=by rw[<-hx];exact data_getElem? s g hg
   have HCX:=HC.out x;cases hin:([64]:List UInt8).contains x <;> rw[hin]at HCX
   ·have HCA:=hid (HCC.out x false _ HCX)
    have HN:Hid (Clr s.data.toList g):=Clr.step HK.out (fun e=>by
      rw[HG.out]at e
      rw[Option.some.inj e]at hin
      cases hin)
    have hpg:(g:Int) - 1=prd g:=by
     cases g with
     | zero=>rfl
     | succ k=>show((k+1:Nat):Int) - 1=(k:Int);omega
    have HPG:=hid hpg;clear HC HCC HK HS1 HCX hin hpg;go_wp2_with(go_at_call 170;refine HCA.out.mono ?_;rintro e w' ⟨rfl,hw⟩;rw[hw])
    go_roundg g
    case measure=>omega
    case rel=>exact⟨by omega,by rw[<-HPG.out],rfl,HN.out⟩
   ·have HCA:=hid (HCC.out x true _ HCX)
    have HE:Hid (s.data.toList[g]? = some 64/\Clr s.data.toList (g+1)):=⟨by
      rw[HG.out]
      have:=List.contains_iff_mem.1 hin
      simp at this
      rw[this],HK.out⟩
    clear HC HCC HK HS1 HCX hin;go_wp2_with(go_at_call 170;refine HCA.out.mono ?_;rintro e w' ⟨rfl,hw⟩;rw[hw]);go_ret;exact⟨⟨_,rfl,.inr ⟨g,rfl,HE.out.1,HE.out.2⟩⟩,((Below.refl _ w).alloc (le_refl _) _).alloc (by simp) _⟩
theorem Gq(s:ByteArray)(hs:s.size<=400000000)(w:World)(hT:Tbs w):Calls prog 136 #[.string s,.string ⟨#[64]⟩] w fun e W'=>(∃ n,e=.returned (.int .i64 n)/\fh s.data.toList n)/\Below w.heap.size w W':=by
 by_cases h1:s.size=1
 ·exact Gp s h1 w
 by_cases h8:s.size<=8
 ·exact xJ s h1 h8 w hT
 ·exact BM s (by omega) hs w
open F (bn aa hid)
def ins(b:Bool)(c:Int):Bool:=if c=91 then true else if c=93 then false else b
def hix:Bool->List Int->Option Nat
 | _,[]=>none
 | b,c::t=>if c=58/\b=false then some 0 else (hix (ins b c) t).map (·+1)
theorem GK(b:Bool)(c:Int)(t:List Int):hix b (c::t)=if c=58/\b=false then some 0 else (hix (ins b c) t).map (·+1):=rfl
theorem mC:∀(l:List Int) (b:Bool),(hix b l=none/\hcut b l=(l,none))\/∃ k,hix b l=some k/\k<l.length/\hcut b l=(l.take k,some (l.drop (k+1)))
 | [],b=>.inl ⟨rfl,rfl⟩
 | c::t,b=>by
  unfold hix hcut;by_cases h:c=58/\b=false
  ·rw[if_pos h,if_pos h];exact .inr ⟨0,rfl,by simp,rfl⟩
  ·rw[if_neg h,if_neg h];have e:(if c=91 then true else if c=93 then false else b)=ins b c:=rfl;rw[e];rcases mC t (ins b c) with⟨h1,h2⟩ | ⟨k,h1,h2,h3⟩
   ·rw[h1,h2];exact .inl ⟨rfl,rfl⟩
   ·rw[h1,h3];exact .inr ⟨k+1,rfl,by simp;omega,rfl⟩
theorem vm:∀(p t:List Int) (b:Bool),(∀ c∈p,128<=c)->hix b (p++t)=(hix b t).map (·+p.length)
 | [],t,b,_=>by simp
 | c::p,t,b,h=>by
  have hc:=h c (by simp);show hix b (c::(p++t))=_;unfold hix;have e:ins b c=b:=by unfold ins;rw[if_neg (by omega),if_neg (by omega)]
  rw[if_neg (fun hh=>by omega),e,vm p t b (fun x hx=>h x (by simp[hx])),Option.map_map];cases t <;> rfl
def pl(p:Nat):Option Nat->Int
 | none=>-1
 | some k=>((p+k:Nat):Int)
theorem xj(p n:Nat)(o:Option Nat):pl p (o.map (·+n))=pl (p+n) o:=by
 cases o with
 | none=>rfl
 | some k=>show((p+(k+n):Nat):Int)=((p+n+k:Nat):Int);omega
theorem Fl(x:Nat)(hx:U.ab (x:Int)=true)(i k:Nat)(b:Bool)(w:World)(T:TypeId)(hi:w.heap[i]? = some (.cells #[.bool b] T (0,0)))(hk:w.cell? ⟨k,0,none⟩=some (.string ⟨#[58]⟩))(hne:k≠i):
  Calls prog 176 #[.int .i32 (x:Int),.pointer (some ⟨i,0,none⟩),.pointer (some ⟨k,0,none⟩)] w fun e W'=>e=.returned (.bool (!ins b x&&decide ((x:Int)=58)))/\W'.heap[i]? = some (.cells #[.bool (ins b x)] T (0,0))/\Below i w W'/\∀ j,j<w.heap.size->j≠i->W'.heap[j]? = w.heap[j]? := by
 have hsz:i<w.heap.size:=(Array.getElem?_eq_some_iff.1 hi).1;have hc0:w.cell? ⟨i,0,none⟩=some (.bool b):=cell_of_row _ _ 0 _ _ _ hi;have hf0:w.frozen? ⟨i,0,none⟩=false:=frozen_of_row _ _ 0 _ _ hi
 have hasc:E.Asc ⟨#[58]⟩:=fun c hc=>by
  have:c=58:=by simpa using hc
  subst this;decide
 have HCR:=hid (fun W=>E.bS ⟨#[58]⟩ hasc (by decide) (x:Int) hx W);have hd:(U.bn ⟨#[58]⟩).contains (x:Int)=decide ((x:Int)=58):=by show([58]:List Int).contains (x:Int)=_;rw[Bool.eq_iff_iff,contains_iff_mem,decide_eq_true_iff];simp
 rw[hd]at HCR;have HSET:Hid (∀ v:Bool,(w.setCell ⟨i,0,none⟩ (.bool v)).heap[i]? = some (.cells #[.bool v] T (0,0))/\(w.setCell ⟨i,0,none⟩ (.bool v)).cell? ⟨i,0,none⟩=some (.bool v)/\(w.setCell ⟨i,0,none⟩ (.bool v)).cell? ⟨k,0,none⟩=some (.string ⟨#[58]⟩)/\Below i w (w.setCell ⟨i,0,none⟩ (.bool v))/\∀ j,j<w.heap.size->j≠i->(w.setCell ⟨i,0,none⟩ (.bool v)).heap[j]? = w.heap[j]?):=fun v=>by have h1:(w.setCell ⟨i,0,none⟩ (.bool v)).heap[i]? = some (.cells #[.bool v] T (0,0)):=(heap_setCell_same w i 0 _ T (.bool v) hi).trans (by rfl);have h2:∀ j,j≠i->(w.setCell ⟨i,0,none⟩ (.bool v)).heap[j]? = w.heap[j]? := fun j hj=>Below.heap_setCell _ _ _ _ hj;refine⟨h1,cell_of_row _ _ 0 _ _ _ h1,?_,(Below.refl i w).setCell (p:=⟨i,0,none⟩) (le_refl i) _,fun j _ hj=>h2 j hj⟩;rw[cell?_of_block (w:=w) (h2 k hne)];exact hk
 have HEND:Hid (∀(v:Bool) (W W':World),W.heap[i]? = some (.cells #[.bool v] T (0,0))->Below i w W->(∀ j,j<w.heap.size->j≠i->W.heap[j]? = w.heap[j]?)->Below W.heap.size W W'->W'.heap[i]? = some (.cells #[.bool v] T (0,0))/\Below i w W'/\∀ j,j<w.heap.size->j≠i->W'.heap[j]? = w.heap[j]?):=fun v W W' h1 h2 h3 h4=>by have hs:=h2.size;exact⟨(h4.block i (by omega)).trans h1,h2.trans (h4.mono (by omega)),fun j hj hn=>(h4.block j (by omega)).trans (h3 j hj hn)⟩
 have HW:=hid (show w.heap[i]? = some (.cells #[.bool b] T (0,0)) from hi);clear hi hasc hx hd;by_cases h91:(x:Int)=91
 ·have q:((x:Int)==91)=true:=by rw[h91];rfl
  have e:ins b x=true:=by unfold ins;rw[if_pos h91]
  rw[e];obtain⟨s1,s2,s3,s4,s5⟩:=HSET.out true;have H1:=hid s1;have H4:=hid s4;have H5:=hid s5;clear h91 e s1 s4 s5 HSET;go_enter func176,ntmps176;go_wp2_with fail;go_ret;exact⟨rfl,HEND.out true _ _ H1.out H4.out H5.out (Below.refl _ _)⟩
 ·have q:((x:Int)==91)=false:=beq_eq_false_iff_ne.2 h91;by_cases h93:(x:Int)=93
  ·have q2:((x:Int)==93)=true:=by rw[h93];rfl
   have e:ins b x=false:=by unfold ins;rw[if_neg h91,if_pos h93]
   rw[e];obtain⟨s1,s2,s3,s4,s5⟩:=HSET.out false;have H1:=hid s1;have H4:=hid s4;have H5:=hid s5;obtain⟨D,hD⟩:=Ex' (decide ((x:Int)=58));rw[hD]at HCR ⊢;clear h91 h93 e s1 s4 s5 HSET hD;go_enter func176,ntmps176;go_wp2_with(go_at_call 173;refine(HCR.out _).mono ?_;rintro e w1 ⟨rfl,B1⟩);have HB:=hid B1;clear B1;go_wp2;go_ret;exact⟨by simp,HEND.out false _ _ H1.out H4.out H5.out HB.out⟩
  ·have q2:((x:Int)==93)=false:=beq_eq_false_iff_ne.2 h93;have e:ins b x=b:=by unfold ins;rw[if_neg h91,if_neg h93]
   rw[e];obtain⟨D,hD⟩:=Ex' (decide ((x:Int)=58));rw[hD]at HCR ⊢;clear h91 h93 e HSET hD;cases b
   ·go_enter func176,ntmps176;go_wp2_with(go_at_call 173;refine(HCR.out _).mono ?_;rintro e w1 ⟨rfl,B1⟩);have HB:=hid B1;clear B1;go_wp2;go_ret;exact⟨by simp,HEND.out false _ _ HW.out (Below.refl _ _) (fun _ _ _=>rfl) HB.out⟩
   ·go_enter func176,ntmps176;go_wp2_with fail;go_ret;exact⟨by simp,HEND.out true _ _ HW.out (Below.refl _ _) (fun _ _ _=>rfl) (Below.refl _ _)⟩
theorem AN(s:ByteArray)(pos:Nat)(hp:pos<s.size):U.ab ((Utf8.decode s pos).1:Nat)=true/\1<=(Utf8.decode s pos).2/\pos+(Utf8.decode s pos).2<=s.size/\∀ b,if (!ins b ((Utf8.decode s pos).1:Nat)&&decide ((((Utf8.decode s pos).1:Nat):Int)=58))=true then pl pos (hix b ((bn s).drop pos))=pos else pl pos (hix b ((bn s).drop pos))=pl (pos+(Utf8.decode s pos).2) (hix (ins b ((Utf8.decode s pos).1:Nat)) ((bn s).drop (pos+(Utf8.decode s pos).2))):=by
 have hd:=U.fD s pos hp;have hd':(bn s).drop pos=((s[pos]'hp).toNat:Int)::(bn s).drop (pos+1):=hd;have h0:s.data.toList[pos]? = some (s[pos]'hp):=data_getElem? s pos hp;have g0:s.data.toList.getD pos 0=s[pos]'hp:=by rw[getD_eq_getElem?_getD,h0];rfl
 by_cases hx:(s[pos]'hp).toNat<128
 ·have e:Utf8.decode s pos=((s[pos]'hp).toNat,1):=by rw[Lib.decode_N,g0,Lib.decodeN_ascii _ _ _ _ _ hx]
  rw[e];refine⟨by unfold U.ab;exact decide_eq_true (by simp only;omega),le_refl _,hp,fun b=>?_⟩;simp only;rw[hd'];obtain⟨c,hc⟩:=Ex' (((s[pos]'hp).toNat:Int):Int);rw[hc,GK];by_cases h58:c=58
  ·have ei:ins b c=b:=by unfold ins;rw[if_neg (by omega),if_neg (by omega)]
   rw[ei,decide_eq_true h58,Bool.and_true];cases b
   ·rw[if_pos (show(!false)=true from rfl),if_pos ⟨h58,rfl⟩];rfl
   ·rw[if_neg (by simp),if_neg (by simp),xj]
  ·rw[decide_eq_false h58,Bool.and_false,if_neg (by simp),if_neg (fun h=>h58 h.1),xj]
 ·obtain⟨h1,h2,h3,h4,h5⟩:=H.vU s pos hp (by omega);refine⟨h2,h3,h4,fun b=>?_⟩;have ei:ins b ((Utf8.decode s pos).1:Nat)=b:=by unfold ins;rw[if_neg (by omega),if_neg (by omega)]
  rw[ei,decide_eq_false (by omega),Bool.and_false,if_neg (by simp)];have ht:(bn s).drop pos=((bn s).drop pos).take (Utf8.decode s pos).2++(bn s).drop (pos+(Utf8.decode s pos).2):=by rw[<-drop_drop,List.take_append_drop]
  have hl:(((bn s).drop pos).take (Utf8.decode s pos).2).length=(Utf8.decode s pos).2:=by rw[length_take,length_drop,aa];omega
  rw[ht,vm _ _ _ (fun c hc=>?_),xj,hl];obtain⟨j,hj,rfl⟩:=List.mem_iff_getElem.1 hc;rw[hl]at hj;rw[List.getElem_take,List.getElem_drop];have hjs:pos+j<s.size:=by omega
  have hb:=h5 (pos+j) (s[pos+j]'hjs) (by omega) (by omega) (data_getElem? s _ hjs);have hg:(bn s)[pos+j]'(by rw[aa];exact hjs)=((s[pos+j]'hjs).toNat:Int):=by apply Option.some.inj;rw[<-getElem?_eq_getElem];unfold bn;rw[getElem?_map,data_getElem? s _ hjs];rfl
  rw[hg];omega
theorem Fs(s:ByteArray)(hs:s.size<=400000000)(i k:Nat)(w:World)(T:TypeId)(hi:w.heap[i]? = some (.cells #[.bool false] T (0,0)))(hk:w.cell? ⟨k,0,none⟩=some (.string ⟨#[58]⟩))(hne:k≠i):
  Calls prog 115 #[.string s,.func (.func 176) #[] #[.pointer (some ⟨i,0,none⟩),.pointer (some ⟨k,0,none⟩)],.bool true] w fun e W'=>e=.returned (.int .i64 (pl 0 (hix false (bn s))))/\Below i w W':=by
 have hsz:i<w.heap.size:=(Array.getElem?_eq_some_iff.1 hi).1;have hkz:k<w.heap.size:=block_lt_of_cell? w _ hk;obtain⟨A,hA⟩:=Ex' (pl 0 (hix false (bn s)));rw[hA];have HK:=hid hk;have HST:=hid (AN s);have HI:=hid hi;have HA:=hid hA
 have HEI:Hid (∀(W:World) (x:Nat) (b:Bool),U.ab (x:Int)=true->W.heap[i]? = some (.cells #[.bool b] T (0,0))->W.heap[k]? = w.heap[k]? -> Calls prog 176 #[.int .i32 (x:Int),.pointer (some ⟨i,0,none⟩),.pointer (some ⟨k,0,none⟩)] W fun e W'=>e=.returned (.bool (!ins b x&&decide ((x:Int)=58)))/\W'.heap[i]? = some (.cells #[.bool (ins b x)] T (0,0))/\Below i W W'/\∀ j,j<W.heap.size->j≠i->W'.heap[j]? = W.heap[j]?):=fun W x b h1 h2 h3 =>
  Fl x h1 i k b W T h2 ((cell?_of_block (w:=w) h3).trans HK.out) hne
 have HEND:Hid (pl s.size (hix false ((bn s).drop s.size))=-1/\pl s.size (hix true ((bn s).drop s.size))=-1):=by rw[List.drop_eq_nil_of_le (by rw[aa];exact le_refl _)];exact⟨rfl,rfl⟩
 clear hi hk hA;go_enter func115,ntmps115;go_wp2_with fail
 go_loopg [] s.size (fun gf wx=>∃(pos:Nat) (b:Bool),pos<=s.size/\s.size<=pos+gf/\Hid (wx.heap[w.heap.size]? = some (.stringIter s pos)/\wx.heap[i]? = some (.cells #[.bool b] T (0,0))/\(∀ j,j<w.heap.size->j≠i->wx.heap[j]? = w.heap[j]?)/\Below i w wx/\pl pos (hix b ((bn s).drop pos))=A))
 case atStart =>
  refine⟨0,false,zero_le _,by omega,World.iter_heap w s 0,?_,fun j hj _=>Below.heap_alloc _ _ _ hj,(Below.refl i w).alloc (by omega) _,?_⟩
  ·exact(Below.heap_alloc _ _ _ hsz).trans HI.out
  ·rw[drop_zero];exact HA.out
 case round =>
  obtain⟨pos,b,hp,hpg,HR⟩:=hrel;by_cases hps:pos<s.size
  ·obtain⟨g',rfl⟩:∃ g',gk=g'+1:=⟨gk - 1,by omega⟩;have hnx:∀ ty,(Instr.next (.pointer (some ⟨w.heap.size,0,none⟩)) true ty).run prog wr=_:=fun ty=>Lib.run_next_any_at wr w.heap.size s pos ty HR.out.1 hps;obtain⟨q1,q2,q3,q4⟩:=HST.out pos hps;obtain⟨R,hR⟩:=Ex' ((Utf8.decode s pos).1);obtain⟨K,hK⟩:=Ex' ((Utf8.decode s pos).2);rw[hR,hK]at hnx;rw[hR]at q1 q4;rw[hK]at q2 q3 q4;have q5:=q4 b;have hit2:=Lib.iterAt_heap wr w.heap.size s pos (pos+K) HR.out.1;have hbw2:Below w.heap.size wr (wr.iterAt w.heap.size s (pos+K)):=Lib.below_iterAt (Below.refl _ _) (k:=w.heap.size) (le_refl _) s (pos+K);obtain⟨W,hWd⟩:=Ex' (wr.iterAt w.heap.size s (pos+K));rw[hWd]at hnx hit2 hbw2;have HC:=hid (HEI.out W R b q1 ((hbw2.block i hsz).trans HR.out.2.1) ((hbw2.block k hkz).trans (HR.out.2.2.1 k hkz hne)));have HX:Hid (∀ W':World,W'.heap[i]? = some (.cells #[.bool (ins b R)] T (0,0))->Below i W W'->(∀ j,j<W.heap.size->j≠i->W'.heap[j]? = W.heap[j]?)->W'.heap[w.heap.size]? = some (.stringIter s (pos+K))/\W'.heap[i]? = some (.cells #[.bool (ins b R)] T (0,0))/\(∀ j,j<w.heap.size->j≠i->W'.heap[j]? = w.heap[j]?)/\Below i w W'):=fun W' h1 h2 h3=>by have hlt:w.heap.size<W.heap.size:=(Array.getElem?_eq_some_iff.1 hit2).1;refine⟨(h3 _ hlt (by omega)).trans hit2,h1,fun j hj hn=>?_,HR.out.2.2.2.1.trans ((hbw2.mono (by omega)).trans h2)⟩;rw[h3 j (by omega) hn,hbw2.block j hj];exact HR.out.2.2.1 j hj hn
   have HP:=hid HR.out.2.2.2.2;have HQ:=hid q5;have hK1:=q2;clear q4 q5 hR hK hWd hit2 hbw2 HR q1 q2 HEI HST HEND HI HA HK;obtain⟨h,hh⟩:=Ex' ((!ins b R&&decide ((R:Int)=58)));rw[hh]at HC HQ;clear hh;cases h
   ·have hq:=HQ.out;rw[if_neg (by simp)]at hq;have HQ2:=hid hq;clear HQ hq;go_wp2_with(go_at_call 176;refine HC.out.mono ?_;rintro e W' ⟨rfl,r1,r2,r3⟩);have HE:=hid (HX.out W' r1 r2 r3)
    go_roundg g'
    case measure=>omega
    case rel =>
     exact⟨pos+K,ins b R,q3,by omega,HE.out.1,HE.out.2.1,HE.out.2.2.1,HE.out.2.2.2,HQ2.out.symm.trans HP.out⟩
   ·have hq:=HQ.out;rw[if_pos rfl]at hq;have HQ2:=hid hq;clear HQ hq;go_wp2_with(go_at_call 176;refine HC.out.mono ?_;rintro e W' ⟨rfl,r1,r2,r3⟩);have HE:=hid (HX.out W' r1 r2 r3);clear r1 r2 r3;go_ret;exact⟨by rw[<-HP.out,HQ2.out] <;> rfl,HE.out.2.2.2⟩
  ·obtain rfl:pos=s.size:=by omega
   have hnx:∀ ty,(Instr.next (.pointer (some ⟨w.heap.size,0,none⟩)) true ty).run prog wr=_:=fun ty=>Lib.run_next_end_at wr w.heap.size s s.size ty HR.out.1 hps;have HE:Hid (A=-1/\Below i w wr):=⟨by rw[<-HR.out.2.2.2.2];exact(match b with | false=>HEND.out.1 | true=>HEND.out.2),HR.out.2.2.2.1⟩;clear HR HEND HST HEI HI HA HK;go_wp2;go_ret;exact⟨by rw[HE.out.1] <;> rfl,HE.out.2⟩
theorem rT(s:ByteArray)(hs:s.size<=400000000)(k:Nat)(w:World)(hk:w.cell? ⟨k,0,none⟩=some (.string ⟨#[58]⟩)):Calls prog 174 #[.string s,.pointer (some ⟨k,0,none⟩)] w fun e W'=>e=.returned (.int .i64 (pl 0 (hix false (bn s))))/\Below w.heap.size w W':=by
 have hkz:k<w.heap.size:=block_lt_of_cell? w _ hk;have HI:Hid (∀ W:World,W.heap[w.heap.size]? = some (.cells #[.bool false] 4 (0,0))->Below w.heap.size w W->Calls prog 175 #[.string s,.func (.func 176) #[] #[.pointer (some ⟨w.heap.size,0,none⟩),.pointer (some ⟨k,0,none⟩)]] W fun e W'=>e=.returned (.int .i64 (pl 0 (hix false (bn s))))/\Below w.heap.size W W'):=fun W h1 h2=>by have HO:=hid (Fs s hs w.heap.size k W 4 h1 ((cell?_of_block (w:=w) (h2.block k hkz)).trans hk) (by omega));obtain⟨z,hz⟩:=Ex' (pl 0 (hix false (bn s)));rw[hz]at HO ⊢;clear h1 h2 hk hz;go_enter func175,ntmps175;go_wp2_with(go_at_call 115;refine HO.out.mono ?_;rintro e w1 ⟨rfl,B1⟩);have HB:=hid B1;clear B1;go_wp2;go_ret;exact⟨rfl,HB.out⟩
 obtain⟨z,hz⟩:=Ex' (pl 0 (hix false (bn s)));rw[hz]at HI ⊢;have A0:(w.alloc (.cells #[.bool false] 4)).heap[w.heap.size]? = some (.cells #[.bool false] 4 (0,0)):=aA w _ _;have HB0:Hid (Below w.heap.size w (w.alloc (.cells #[.bool false] 4))):=(Below.refl _ w).alloc (le_refl _) _;have HC:=hid (HI.out _ A0 HB0.out);clear hk hz HI A0;go_enter func174,ntmps174;go_wp2_with(go_at_call 175;refine HC.out.mono ?_;rintro e w1 ⟨rfl,B1⟩);have HB:=hid (HB0.out.trans B1);clear B1;go_wp2;go_ret;exact⟨rfl,HB.out⟩
theorem uh(C:ByteArray)(w:World):Calls prog 137 #[.string C] w fun e W'=>e=.returned (.func (.func 174) #[] #[.pointer (some ⟨w.heap.size,0,none⟩)])/\W'=w.alloc (.cells #[.string C] 9):=by go_enter func137,ntmps137;go_wp2;go_ret;exact⟨rfl,rfl⟩
open F (bn aa hid ar)
theorem fh.one{l:List UInt8}{n m:Int}(h:fh l n)(k:fh l m):n=m:=by
 rcases h with⟨rfl,h⟩ | ⟨i,rfl,h1,h2⟩
 ·rcases k with⟨rfl,k⟩ | ⟨j,rfl,k1,_⟩
  ·rfl
  ·exact absurd k1 (h j (zero_le _))
 ·rcases k with⟨rfl,k⟩ | ⟨j,rfl,k1,k2⟩
  ·exact absurd h1 (k i (zero_le _))
  ·rcases Nat.lt_trichotomy i j with q | q | q
   ·exact absurd k1 (h2 j q)
   ·rw[q]
   ·exact absurd h1 (k2 i q)
theorem qC:∀ l:List UInt8,∃ n,fh l n
 | []=>⟨-1,.inl ⟨rfl,fun j _=>by simp⟩⟩
 | c::t=>by
  obtain⟨n,h⟩:=qC t;rcases h with⟨rfl,h⟩ | ⟨i,rfl,h1,h2⟩
  ·by_cases hc:c=64
   ·exact⟨0,.inr ⟨0,rfl,by rw[hc];rfl,fun j hj=>by
      obtain⟨k,rfl⟩:∃ k,j=k+1:=⟨j - 1,by omega⟩
      rw[getElem?_cons_succ];exact h k (zero_le _)⟩⟩
   ·exact⟨-1,.inl ⟨rfl,fun j _=>by
      cases j with
      | zero=>rw[List.getElem?_cons_zero];exact fun e=>hc (Option.some.inj e)
      | succ k=>rw[getElem?_cons_succ];exact h k (zero_le _)⟩⟩
  ·exact⟨((i+1:Nat):Int),.inr ⟨i+1,rfl,by rw[getElem?_cons_succ];exact h1,fun j hj=>by
     obtain⟨k,rfl⟩:∃ k,j=k+1:=⟨j - 1,by omega⟩
     rw[getElem?_cons_succ];exact h2 k (by omega)⟩⟩
theorem Ny{p q:List Int}(h:64∉q):beh (p++64::q)=q/\ahd (p++64::q)=p:=by
 have e:(p++64::q).reverse=q.reverse++64::p.reverse:=by simp
 obtain⟨h1,h2⟩:=bW (f:=oe) (p:=q.reverse) (q:=64::p.reverse) (fun c hc=>by
   have:c≠64:=fun e=>h (by rw[<-e];exact List.mem_reverse.1 hc)
   exact decide_eq_true this) (.inr ⟨64,_,rfl,by decide⟩)
 unfold beh ahd;rw[e,h1,h2];simp
theorem IK{l:List Int}(h:64∉l):beh l=l:=by
 unfold beh
 have:=(bW (f:=oe) (p:=l.reverse) (q:=[]) (fun c hc=>by
   have:c≠64:=fun e=>h (by rw[<-e];exact List.mem_reverse.1 hc)
   exact decide_eq_true this) (.inl rfl)).1
 rw[List.append_nil]at this;rw[this,List.reverse_reverse]
theorem Gl(C:ByteArray)(w:World):Calls prog 93 #[.string C] w fun e W'=>(∃ k,e=.returned (.func (.func 135) #[] #[.pointer (some ⟨k,0,none⟩)])/\W'.cell? ⟨k,0,none⟩=some (.string C))/\Below w.heap.size w W':=by
 have h:Calls prog 93 #[.string C] w fun e W'=>e=.returned (.func (.func 135) #[] #[.pointer (some ⟨w.heap.size,0,none⟩)])/\W'=w.alloc (.cells #[.string C] 9):=by go_enter func93,ntmps93;go_wp2;go_ret;exact⟨rfl,rfl⟩
 refine h.mono ?_;rintro e W' ⟨rfl,rfl⟩;exact⟨⟨_,rfl,cell_of_row _ _ 0 _ _ _ (aA w _ _)⟩,(Below.refl _ w).alloc (le_refl _) _⟩
theorem ug(C:ByteArray)(w:World):Calls prog 137 #[.string C] w fun e W'=>(∃ k,e=.returned (.func (.func 174) #[] #[.pointer (some ⟨k,0,none⟩)])/\W'.cell? ⟨k,0,none⟩=some (.string C))/\Below w.heap.size w W' :=
 (uh C w).mono (by
   rintro e W' ⟨rfl,rfl⟩
   exact⟨⟨_,rfl,cell_of_row _ _ 0 _ _ _ (aA w _ _)⟩,(Below.refl _ w).alloc (le_refl _) _⟩)
theorem BK(s:ByteArray)(hs:s.size<=400000000)(n:Int)(hn:fh s.data.toList n)(k:Nat)(w:World)(hk:w.cell? ⟨k,0,none⟩=some (.string ⟨#[64]⟩))(hT:Tbs w):Calls prog 135 #[.string s,.pointer (some ⟨k,0,none⟩)] w fun e W'=>e=.returned (.int .i64 n)/\Below w.heap.size w W':=by
 have HI:Hid (Calls prog 136 #[.string s,.string ⟨#[64]⟩] w fun e W'=>e=.returned (.int .i64 n)/\Below w.heap.size w W'):=(Gq s hs w hT).mono (by
   rintro e W' ⟨⟨m,rfl,hm⟩,hB⟩
   exact⟨by rw[hn.one hm],hB⟩)
 clear hn hT;go_enter func135,ntmps135;go_wp2_with(go_at_call 136;refine HI.out.mono ?_;rintro e w1 ⟨rfl,B1⟩);have HB:=hid B1;clear B1;go_wp2;go_ret;exact⟨rfl,HB.out⟩
theorem fA(s:ByteArray)(k:Nat):bn (s.extract 0 k)=(bn s).take k:=by unfold bn;rw[Lib.extract_data,drop_zero,sub_zero,List.map_take]
theorem Ie(s:ByteArray)(hs:s.size<=400000000):∃(a d:ByteArray) (y:Bool),(y=false/\64∉bn s\/y=true/\64∈bn s/\bn a=ahd (bn s)/\bn d=beh (bn s))/\∀(W:World) (k:Nat),W.cell? ⟨k,0,none⟩=some (.string ⟨#[64]⟩)->Tbs W->Calls prog 85 #[.string s,.func (.func 135) #[] #[.pointer (some ⟨k,0,none⟩)]] W fun e W'=>e=.returned (.tuple #[.string a,.string d,.bool y])/\Below W.heap.size W W':=by
 obtain⟨n,hn⟩:=qC s.data.toList;have hl:s.size=s.data.toList.length:=Lib.size_eq s
 have hmem:64∈bn s↔∃ j:Nat,s.data.toList[j]? = some (64:UInt8):=by
  unfold bn;rw[mem_map];constructor
  ·rintro⟨c,hc,he⟩;have:c=64:=UInt8.toNat_inj.1 (by show c.toNat=64;omega);subst this;obtain⟨j,hj,e⟩:=List.mem_iff_getElem.1 hc;exact⟨j,by rw[getElem?_eq_getElem hj,e]⟩
  ·rintro⟨j,hj⟩;exact⟨64,mem_of_getElem? hj,rfl⟩
 have key:∀(a r:ByteArray),CK s n a r->∀(W:World) (k:Nat),W.cell? ⟨k,0,none⟩=some (.string ⟨#[64]⟩)->Tbs W->Calls prog 85 #[.string s,.func (.func 135) #[] #[.pointer (some ⟨k,0,none⟩)]] W fun e W'=>e=.returned (.tuple #[.string a,.string (r.extract 1 r.size),.bool (decide (0<r.size))])/\Below W.heap.size W W':=fun a r hc W k hk hT =>
  jO 135 #[.pointer (some ⟨k,0,none⟩)] (enters_of func135 (by kernel_rfl) rfl) s a r n hs hc W (BK s hs n hn k W hk hT)
 rcases hn with⟨rfl,h⟩ | ⟨i,rfl,h1,h2⟩
 ·exact⟨s,_,false,.inl ⟨rfl,fun hh=>by
    obtain⟨j,hj⟩:=hmem.1 hh
    exact h j (zero_le _) hj⟩,key s ⟨#[]⟩ (.inl ⟨rfl,rfl,rfl⟩)⟩
 ·have hi:i<s.size:=by rw[hl];exact(List.getElem?_eq_some_iff.1 h1).1
  have hsz:(s.extract i s.size).size=s.size - i:=by rw[size_extract];omega
  have hgi:(bn s)[i]? = some 64:=by unfold bn;rw[getElem?_map,h1];rfl
  have hb:bn s=(bn s).take i++64::(bn s).drop (i+1):=by
   have hlt:i<(bn s).length:=by rw[aa];exact hi
   have e:=List.getElem_cons_drop hlt;rw[getElem?_eq_getElem hlt]at hgi;rw[Option.some.inj hgi]at e;rw[e,List.take_append_drop]
  have hq:64∉(bn s).drop (i+1):=fun hh=>by unfold bn at hh;rw[<-List.map_drop,mem_map]at hh;obtain⟨c,hc,he⟩:=hh;have:c=64:=UInt8.toNat_inj.1 (by show c.toNat=64;omega);subst this;obtain⟨j,hj,e⟩:=List.mem_iff_getElem.1 hc;rw[List.getElem_drop]at e;exact h2 (i+1+j) (by omega) (by rw[<-e];exact getElem?_eq_getElem _)
  obtain⟨q1,q2⟩:=Ny (p:=(bn s).take i) hq;rw[<-hb]at q1 q2;refine⟨s.extract 0 i,(s.extract i s.size).extract 1 (s.extract i s.size).size,true,.inr ⟨rfl,hmem.2 ⟨i,h1⟩,by rw[fA,q2],by rw[ar,ar,q1,drop_drop]⟩,fun W k hk hT=>?_⟩;have:=key (s.extract 0 i) (s.extract i s.size) (.inr ⟨i,rfl,hi,rfl,rfl⟩) W k hk hT
  rwa [decide_eq_true (by omega:0<(s.extract i s.size).size)]at this
theorem vP(s:ByteArray)(hs:s.size<=400000000):∃(a d:ByteArray) (y:Bool),bn a=(hcut false (bn s)).1/\(y=false/\(hcut false (bn s)).2=none/\bn d=[]\/y=true/\(hcut false (bn s)).2=some (bn d))/\∀(W:World) (k:Nat),W.cell? ⟨k,0,none⟩=some (.string ⟨#[58]⟩)->Calls prog 85 #[.string s,.func (.func 174) #[] #[.pointer (some ⟨k,0,none⟩)]] W fun e W'=>e=.returned (.tuple #[.string a,.string d,.bool y])/\Below W.heap.size W W':=by
 have key:∀(a r:ByteArray),CK s (pl 0 (hix false (bn s))) a r->∀(W:World) (k:Nat),W.cell? ⟨k,0,none⟩=some (.string ⟨#[58]⟩)->Calls prog 85 #[.string s,.func (.func 174) #[] #[.pointer (some ⟨k,0,none⟩)]] W fun e W'=>e=.returned (.tuple #[.string a,.string (r.extract 1 r.size),.bool (decide (0<r.size))])/\Below W.heap.size W W':=fun a r hc W k hk =>
  jO 174 #[.pointer (some ⟨k,0,none⟩)] (enters_of func174 (by kernel_rfl) rfl) s a r _ hs hc W (rT s hs k W hk)
 rcases mC (bn s) false with⟨h1,h2⟩ | ⟨i,h1,h2,h3⟩
 ·rw[h1]at key;rw[h2];exact⟨s,_,false,rfl,.inl ⟨rfl,rfl,by decide⟩,key s ⟨#[]⟩ (.inl ⟨rfl,rfl,rfl⟩)⟩
 ·rw[aa]at h2;rw[h1]at key;have hsz:(s.extract i s.size).size=s.size - i:=by rw[size_extract];omega
  rw[h3];refine⟨s.extract 0 i,(s.extract i s.size).extract 1 (s.extract i s.size).size,true,fA s i,.inr ⟨rfl,by rw[ar,ar,drop_drop]⟩,fun W k hk=>?_⟩;have:=key (s.extract 0 i) (s.extract i s.size) (.inr ⟨i,by show((0+i:Nat):Int)=i;omega,h2,rfl,rfl⟩) W k hk
  rwa [decide_eq_true (by omega:0<(s.extract i s.size).size)]at this
end Y
end Go.Proofs.YtlmflmdmolcfhaaGreatDoor
