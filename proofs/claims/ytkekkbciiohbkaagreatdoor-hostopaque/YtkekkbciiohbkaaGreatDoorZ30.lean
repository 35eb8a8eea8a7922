/- Texts one behind the other: UK EG HF FK FL. -/
import Derived.Test.YtkekkbciiohbkaaGreatDoorZ1
import Derived.Test.YtkekkbciiohbkaaGreatDoorZ2
import Derived.Test.YtkekkbciiohbkaaGreatDoorZ4
import Derived.Test.YtkekkbciiohbkaaGreatDoorZ22
import Derived.Test.YtkekkbciiohbkaaGreatDoorZ19
import Derived.Test.YtkekkbciiohbkaaGreatDoorZ29
import Derived.Test.YtkekkbciiohbkaaGreatDoorProg
import Derived.Test.YtkekkbciiohbkaaGreatDoorZ3
import Derived.Laws.IdiomStrings
import Derived.Laws.OwnMore
import Derived.Lib.AppendStr
import Derived.WalkKit
import Derived.WalkSpells
import Derived.WalkLawsBesides
import Derived.Below
set_option maxRecDepth 100000
set_option maxHeartbeats 16000000
set_option linter.unusedVariables false
set_option linter.unnecessarySimpa false
namespace Go.Proofs.YtkekkbciiohbkaaGreatDoor.U
open Go.RowKit Go.Shelf
attribute [local go_sem] Oper.semAt_some
theorem xd(s:ByteArray)(hs:s.size≤68719476736)(w:World):
  Calls Tryz.prog 77 #[.string s] w fun e W'=>(∃ t,e=.returned (.string t)∧bn t=aL (dec (bn s)))∧Below w.heap.size w W':=by
 refine(callsIn_wide (n:=3)).1 ?_;refine callsIn_of_wp_marks Tryz.func77 rfl trivial ?_ rfl;simp only[Tryz.ntmps77,List.size_toArray,List.length_cons,List.length_nil,Nat.reduceAdd,Nat.reduceSub,Array.replicate_succ,Array.replicate_zero,List.push_toArray,List.append_toArray,List.nil_append,List.cons_append]
 gi_wp2_with fail
 refine⟨trivial,?_⟩;refine(lS _ s _).mono ?_;rintro e w' ⟨rfl,rfl⟩
 gi_wp2_with fail
 have bO:=Boxed.new w 36 (.slice none 0 0);have bN:=Boxed.new (w.alloc (.cells #[.slice none 0 0] 36)) 9 (.string s);rw[World.size_alloc]at bN;have hB0:Below w.heap.size w ((w.alloc (.cells #[.slice none 0 0] 36)).alloc (.cells #[.string s] 9)):=((Below.refl _ w).alloc (Nat.le_refl _) _).alloc (by simp) _
 refine wpIn_rangeFunc_ownG rfl (by omega) (gf:=180) (lb:=#[.pointer (some ⟨w.heap.size+1,0,none⟩)]) rfl trivial (enters_of Tryz.func180 (by kernel_rfl) rfl)
  (my 2 (by omega) (w.heap.size+1) s (by omega) _ bN) mv (mw (by simp)) (Below.refl _ _) (fun _=>rfl)
  (fun pre W=>((∃ v,Boxed W w.heap.size 36 v∧W.ownsRow w.heap.size 5 1 v (aL (fc pre)).length ((aL (fc pre)).map (Value.int .u8))∧True)∧Boxed W (w.heap.size+1) 9 (.string s))∧Below w.heap.size w W)
  (fun _ _ _=>False)
  (OwnFrom.and (OwnFrom.and (Own.from (holdsRow_own w.heap.size w.heap.size 36 5 1 (fun pre=>(aL (fc pre)).length) (fun pre=>(aL (fc pre)).map (Value.int .u8)) (fun pre v=>True)) _) (Own.from (boxed_own _ _ _) _)) (ownFrom_below (Nat.le_refl _) (by simp;omega)))
  (fun _ _ _ _ _ hs _ _=>hs)
  ⟨⟨⟨_,bO.alloc _,World.ownsRow_nil _ _ _ _,trivial⟩,bN⟩,hB0⟩
  (fun x=>{ tmps:=#[.string s,undef,.string { data:=#[] },.pointer (some ⟨w.heap.size,0,none⟩),.int .i32 x.1.1,.string s,.func (.func 180) #[] #[.pointer (some ⟨w.heap.size+1,0,none⟩)],.int .i32 x.1.1,.bool x.1.2,undef,undef,undef,undef,undef],defers:=[] }) ?assign ?body ?done ?stop
 case assign =>
  intro l x W K hK
  gi_wp2
  exact hK
 case body =>
  rintro l pre x W ⟨⟨⟨v,hv,hrow,_⟩,hbs⟩,hB⟩ hlt
  have hc:=hv.cell;have hpl:(fc pre).length≤pre.length:=Nat.le_of_eq (rH pre);have hel:=jF (fc pre)
  gi_wp2_with fail
  refine⟨trivial,?_⟩;refine(CallsIn.inRound l (callsIn_wide.2 (ng w.heap.size v _ _ x.1.1 x.2.1 x.2.2 W hB.size (by omega) hrow))).mono ?_;rintro e w1 ⟨v',rfl,hown',hgrow⟩
  obtain⟨g',cap',rfl⟩:∃ g cap,v'=.slice (some ⟨g,0,none⟩) ((aL (fc pre)).length+(enc x.1.1).length) cap:=by
   rcases hown'.2 with⟨_,h0⟩ | ⟨g,cap,_,rfl,_⟩
   ·have:=fX x.1.1;omega
   ·exact⟨g,cap,rfl⟩
  obtain⟨hv1,hv2,hr2,hk2,hb2⟩:=gj hv (by decide) hrow hB.size (Nat.le_refl _) hown' hgrow;have hc1:=hv1.cell;have hf1:=hv1.frozen
  gi_wp2
  have hbs1:=(hbs.kept hgrow (hbs.not_row (by decide) hrow)).other (B':=w.heap.size) (by omega) (.slice (some ⟨g',0,none⟩) ((aL (fc pre)).length+(enc x.1.1).length) cap');exact⟨hk2.from _,fun _=>hbs1,⟨⟨_,hv2,by rw[ov,ke];simpa using hr2,trivial⟩,hbs1⟩,hB.trans hb2⟩
 case done =>
  rintro D ys W hD rfl ⟨⟨⟨v,hv,hrow,_⟩,hbs⟩,hB⟩ hK
  have hc:=hv.cell;obtain⟨t,hcv,ht⟩:=aO W w.heap.size v _ (aL (fc (scl (bn s)))) rfl (i6 _ (Df _)) hrow
  gi_wp2
  refine⟨by simp,.inl ⟨_,_,rfl,run_takeDeferred hK,?_⟩⟩;exact⟨_,results_tmp rfl _ _ _,⟨t,rfl,ht⟩,hB.trans (belowK_b (w:=w) (Nat.le_refl _) W D _ _ (by simp at hD;omega) hK rfl rfl)⟩
 case stop =>
  rintro D c pre W _ _ h _
  exact h.elim
open Go.RowKit
end Go.Proofs.YtkekkbciiohbkaaGreatDoor.U
namespace Go.Proofs.YtkekkbciiohbkaaGreatDoor.E
open Go.RowKit
def pos(L:List Int)(j:Nat):Nat:=(U.aL (L.take j)).length
theorem rQ(a b:List Int):U.aL (a++b)=U.aL a++U.aL b:=List.flatMap_append
theorem bz(c:Int)(l:List Int):U.aL (c::l)=U.enc c++U.aL l:=List.flatMap_cons
theorem oB(L:List Int)(j:Nat):(U.aL L).drop (pos L j)=U.aL (L.drop j):=by
 have e:U.aL L=U.aL (L.take j)++U.aL (L.drop j):=by rw[←rQ,List.take_append_drop]
 unfold pos;rw[e,List.drop_left]
theorem drop_cons(L:List Int)(j:Nat)(h:j<L.length):L.drop j=L[j]::L.drop (j+1):=List.drop_eq_getElem_cons h
theorem bQ(L:List Int)(j:Nat)(h:j<L.length):L.take (j+1)=L.take j++[L[j]]:=List.take_succ_eq_append_getElem h
theorem yJ(L:List Int)(j:Nat)(h:j<L.length):pos L (j+1)=pos L j+(U.enc L[j]).length:=by
 unfold pos;rw[bQ L j h,U.ke,List.length_append]
theorem Ct(L:List Int):pos L L.length=(U.aL L).length:=by unfold pos;rw[List.take_length]
theorem Fx(L:List Int)(j:Nat):pos L j≤(U.aL L).length:=by
 have e:U.aL L=U.aL (L.take j)++U.aL (L.drop j):=by rw[←rQ,List.take_append_drop]
 unfold pos;rw[e,List.length_append];omega
theorem GU(t:ByteArray)(a b:Nat):U.bn (t.extract a b)=((U.bn t).drop a).take (b - a):=by
 unfold U.bn;rw[ByteArray.data_extract,Array.toList_extract,List.map_take,List.map_drop]
theorem round_facts{L:List Int}{t:ByteArray}(hb:U.bn t=U.aL L)(hs:∀ c∈L,U.az c=true)(k:Nat){j:Nat}(hj:j<L.length):
  ∃ c:Int,U.az c=true∧U.nx (U.bn (t.extract (pos L j) t.size))=(c,(U.enc c).length,true)∧pos L (j+1)=pos L j+(U.enc c).length∧pos L (j+1)≤t.size∧U.bn (t.extract (pos L j) (pos L j+(U.enc c).length))=U.enc c∧en k (L.take (j+1))=en k (L.take j)++tok k c:=by
 have hc:U.az L[j]=true:=hs _ (List.getElem_mem hj);refine⟨L[j],hc,?_,yJ L j hj,?_,?_,?_⟩
 ·rw[U.aj,hb,oB,drop_cons L j hj,bz]
  exact U.pv _ hc _
 ·rw[←U.aa,hb];exact Fx L _
 ·rw[GU,hb,oB,drop_cons L j hj,bz,Nat.add_sub_cancel_left,List.take_left]
 ·rw[bQ L j hj,uU]
theorem qu(u:ByteArray):Lib.strCells u=(U.bn u).map (Value.int .u8):=by
 unfold Lib.strCells U.bn;rw[List.map_map];rfl
theorem BA{k:Nat}{c:Int}(h:inS c k=true):tok k c=(U.enc c).flatMap pe:=by unfold tok;rw[if_pos h]
theorem E6{k:Nat}{c:Int}(h:inS c k=false):tok k c=U.enc c:=by unfold tok;rw[if_neg (by rw[h];decide)]
theorem gE(s:ByteArray)(k:Nat)(w:World)(hs:s.size≤100000)(hk:k≤255):
  Calls Tryz.prog 46 #[.string s,.int .u8 k] w fun e W'=>kN k (U.dec (U.bn s)) w e W':=by
 obtain⟨i0,hi,hz0,hz1,hz2⟩:=info_parts U.Tryz.info5;have HCL:=hid (U.xd s (by omega) w);have hdl:=U.fZ (U.bn s).length (U.bn s) (Nat.le_refl _) (U.aM s);rw[U.aa]at hdl;have HSC:=hid (eN s);obtain⟨L,hL⟩:∃ L,U.dec (U.bn s)=L:=⟨_,rfl⟩;rw[hL]at HCL hdl HSC ⊢;have hel:=U.jF L;obtain⟨n,hn⟩:∃ n,L.length=n:=⟨_,rfl⟩;have HN:=hid hn;rw[hn]at hdl hel;have HGS:Hid (∀ e W,((∃ t,e=.returned (.string t)∧U.bn t=en k L)∧Below w.heap.size w W)→kN k L w e W):=fun e W h=>h
 clear hL hn;go_enter Tryz.func46,Tryz.ntmps46
 go_wp2_with fail;refine HCL.out.mono ?_;rintro e w1 ⟨⟨t,rfl,ht⟩,B1⟩
 have HT:=hid ht
 have hts:t.size≤400000:=by
  have:=congrArg List.length ht;rw[U.aa]at this;omega
 have HRF:Hid (∀ j,j<n→_):=fun j (h:j<n)=>round_facts ht HSC.out k (j:=j) (by rw[HN.out];exact h)
 have HPA:Hid (pos L n=t.size):=by show _=_;rw[←HN.out,Ct,←ht,U.aa]
 have HB1:=hid B1;have z1:=B1.size;clear ht B1 HCL hel
 go_wp2_with fail
 go_loopw [6,7] (fun v6 v7 wr=>∃(j p m c:Nat) (a:Option Addr),j≤n∧p≤t.size∧m≤12 * j∧v6=.slice a m c∧v7=.int .i64 p∧Hid (p=pos L j)∧Hid (m=(en k (L.take j)).length)∧Hid (wr.ownsRow w1.heap.size 5 1 (.slice a m c) m ((en k (L.take j)).map (Value.int .u8)))∧Hid (Below w1.heap.size w1 wr)) (fun _ v7 _=>t.size - (intOf v7).toNat)
 case atStart=>exact⟨0,0,0,0,none,Nat.zero_le _,Nat.zero_le _,Nat.le_refl _,rfl,rfl,rfl,rfl,World.ownsRow_nil _ _ _ _,Below.refl _ _⟩
 case round =>
  obtain⟨j,p,m,c,a,hj,hp,hm,rfl,rfl,HP,HM,HR,HB⟩:=hrel;by_cases hlt:p<t.size
  ·have hjn:j<n:=by
    by_cases e:j=n
    ·have h1:=HP.out
     rw[e,HPA.out]at h1;omega
    ·omega
   obtain⟨x,hx,hnx,hpn,hpt,hcut,hst⟩:=HRF.out j hjn;rw[←HP.out]at hnx hpn hcut;have hel:=U.fX x;have hxb:=bu hx;have HIN:=hid (fun W=>Cu x k W hx)
   have HNX:Hid (∀ W,Calls Tryz.prog 78 #[.string (t.extract p t.size)] W fun e W'=>e=.returned (.tuple #[.int .i32 x,.int .i64 (U.enc x).length,.bool true])∧∃ q,W'=W.drewN q):=fun W=>(U.qW (t.extract p t.size) W (by simp;omega)).mono (by
     rintro e W' ⟨rfl,h⟩
     rw[hnx]
     exact⟨rfl,h⟩)
   obtain⟨q,hq⟩:∃ q,inS x k=q:=⟨_,rfl⟩;have HTY:Hid (q=true→tok k x=(U.enc x).flatMap pe):=fun h=>BA (hq.trans h)
   have HTN:Hid (q=false→tok k x=U.enc x):=fun h=>E6 (hq.trans h)
   rw[hq]at HIN;obtain⟨E,hE⟩:∃ E,U.enc x=E:=⟨_,rfl⟩;rw[hE]at hpn hcut hel HNX HTY HTN;obtain⟨l,hl⟩:∃ l,E.length=l:=⟨_,rfl⟩;rw[hl]at hpn hcut hel HNX;have HCUT:=hid hcut;have HST:=hid hst;have HPN:=hid hpn;have HEL:=hid hl;have hpl:p+l≤t.size:=by omega
   obtain⟨u,hu⟩:∃ u,t.extract p (p+l)=u:=⟨_,rfl⟩;have hus:u.size=l:=by rw[←hu];simp;omega
   rw[hu]at HCUT;have hplz:(p:Int)+(l:Int)≤(t.size:Int):=by omega
   have zr:=HB.out.size;obtain⟨Y,hY⟩:∃ Y,en k (L.take j)=Y:=⟨_,rfl⟩;rw[hY]at HST HM HR;have hm2:m≤2000000:=by omega
   clear hx hnx hpn hpt hcut hst hq hE hl hY hxb HRF
   go_wp2_with fail;refine(HNX.out _).mono ?_;rintro e w2 ⟨rfl,nq,hw2⟩
   have HB2:Hid (Below w1.heap.size w1 w2):=by rw[hw2];exact HB.out.trans ((U.below_drewN _ _ _).mono (Nat.le_refl _))
   have HR2:Hid (w2.ownsRow w1.heap.size 5 1 (.slice a m c) m (Y.map (Value.int .u8))):=U.ax HR.out (B:=wr.heap.size) (by rw[hw2];exact U.below_drewN _ _ _) (Nat.le_refl _);clear hw2 HNX HB HR
   go_wp2_with fail;refine(HIN.out _).mono ?_;rintro e w3 ⟨rfl,B3⟩
   have HB3:=hid (HB2.out.trans (B3.mono HB2.out.size));have HR3:=hid (U.ax HR2.out B3 (Nat.le_refl _));have z3:=HB3.out.size;clear B3 HIN HB2 HR2;cases q with
   | true =>
    have HTK:=hid (HTY.out rfl);have HTO:=hid (xR w1.heap.size a m c Y u w3 HM.out HR3.out z3 (by omega) (by omega));have HZ:Hid (Y++(U.bn u).flatMap pe=en k (L.take (j+1))):=by show _=_;rw[HST.out,HTK.out,HCUT.out]
    have hzl:(Y++(U.bn u).flatMap pe).length=m+3 * l:=by rw[List.length_append,js,U.aa,hus,HM.out]
    have HZL:=hid hzl;obtain⟨Z,hZ⟩:∃ Z,Y++(U.bn u).flatMap pe=Z:=⟨_,rfl⟩;rw[hZ]at HTO HZ hzl HZL;unfold Ba at HTO
    rw[hzl]at HTO;clear HTY HTN hZ hzl
    go_wp2_with fail;refine HTO.out.mono ?_;rintro e w4 ⟨a4,c4,rfl,r4,B4⟩
    have HR4:=hid r4;have HB4:=hid (HB3.out.trans B4);clear r4 B4 HTO
    go_wp2_with fail
    go_roundw
    case rel =>
     refine⟨j+1,p+l,m+3 * l,c4,a4,by omega,by omega,by omega,rfl,by go_num,HPN.out.symm,?_,?_,HB4⟩
     ·show _=_
      rw[←HZ.out,HZL.out]
     ·show World.ownsRow _ _ _ _ _ _ _
      rw[←HZ.out];exact HR4.out
    case measure=>simp[intOf];omega
   | false =>
    have HTK:=hid (HTN.out rfl);have HZ:Hid (en k (L.take (j+1))=Y++U.bn u):=by show _=_;rw[HST.out,HTK.out,HCUT.out]
    have HUS:=hid hus;clear HTY HTN
    go_wp2_with(at_builtin;refine Lib.wpList_append_own_string _ rfl _ _ 36 9 rfl w1.heap.size 5 i0 Tryz.underlying36 Tryz.underlying9 hi hz0 hz1 hz2 _ _ _ rfl HR3.out u (congrArg Value.string hu) (by unfold maxLen;omega) (by omega) z3 ?_;intro v4 w4 r4 g4 _;obtain⟨a4,c4,rfl⟩:=cq r4)
    rw[HUS.out]at r4;have HR4:=hid r4;have HB4:=hid (U.below_grow HB3.out z3 HR3.out g4);clear r4 g4
    go_wp2_with fail
    go_roundw
    case rel =>
     refine⟨j+1,p+l,m+l,c4,a4,by omega,by omega,by omega,rfl,by go_num,HPN.out.symm,?_,?_,HB4⟩
     ·show _=_
      rw[HZ.out,List.length_append,←HM.out,U.aa,HUS.out]
     ·show World.ownsRow _ _ _ _ _ _ _
      rw[HZ.out,List.map_append,←qu];exact HR4.out
    case measure=>simp[intOf];omega
  ·obtain rfl:p=t.size:=by omega
   have hjn:j=n:=by
    by_cases e:j=n
    ·exact e
    ·exfalso
     obtain⟨x,hx,hnx,hpn,hpt,hcut,hst⟩:=HRF.out j (by omega);rw[←HP.out]at hpn;have:=U.fX x;omega
   have ht:L.take j=L:=List.take_of_length_le (by rw[HN.out];omega);rw[ht]at HM HR;have HBW:=hid (HB1.out.trans (HB.out.mono z1));obtain⟨r,hcv,htb⟩:=U.aO wr w1.heap.size _ _ (en k L) HM.out (mQ HSC.out) HR.out;have HTB:=hid htb;clear ht htb HM HR hjn;go_wp2;go_ret;exact HGS.out _ _ ⟨⟨r,rfl,HTB.out⟩,HBW.out⟩
end Go.Proofs.YtkekkbciiohbkaaGreatDoor.E
namespace Go.Proofs.YtkekkbciiohbkaaGreatDoor.F
open Go.RowKit
def vv(c:Int):Int:=if hx c<0 then 16 else hx c
theorem cj(c:Int)(h0:0≤c)(h1:c≤255)(w:World):Calls Tryz.prog 221 #[.int .u8 c] w fun e W'=>e=.returned (.int .u64 (vv c))∧W'=w:=by
 by_cases a1:48≤c∧c≤57
 ·obtain⟨x1,x2⟩:=a1
  have hv:vv c=c - 48:=by unfold vv hx;(repeat' split) <;> omega
  rw[hv];clear hv;go_enter Tryz.func221,Tryz.ntmps221
  go_wp2;go_ret;exact⟨aX (by omega),rfl⟩
 by_cases a2:97≤c∧c≤102
 ·obtain⟨x1,x2⟩:=a2
  have hv:vv c=c - 87:=by unfold vv hx;(repeat' split) <;> omega
  rw[hv];clear hv;go_enter Tryz.func221,Tryz.ntmps221
  go_wp2;go_ret;exact⟨aX (by omega),rfl⟩
 by_cases a3:65≤c∧c≤70
 ·obtain⟨x1,x2⟩:=a3
  have hv:vv c=c - 55:=by unfold vv hx;(repeat' split) <;> omega
  rw[hv];clear hv;go_enter Tryz.func221,Tryz.ntmps221
  go_wp2;go_ret;exact⟨aX (by omega),rfl⟩
 have hm:vv c=16:=by unfold vv hx;(repeat' split) <;> omega
 rw[hm];go_enter Tryz.func221,Tryz.ntmps221
 go_wp2
 all_goals first
  | (go_ret;exact⟨rfl,rfl⟩)
  | (exfalso;omega)
  | (go_ret;exact⟨aX (by omega),rfl⟩)
theorem B9{a b:Int}(h:a=b):Ending.returned (.tuple #[.int .u64 a,.bool true])=.returned (.tuple #[.int .u64 b,.bool true]):=by rw[h]
def Ey(B:Nat):Value:=.func (.func 220) #[] #[.pointer (some ⟨B,0,none⟩)]
theorem DU(w:World)(t:TypeId)(v:Value):(w.alloc (.cells #[v] t)).cell? ⟨w.heap.size,0,none⟩=some v:=by
 have hb:(w.alloc (.cells #[v] t)).heap[w.heap.size]? = some (.cells #[v] t):=heap_alloc_new w _
 generalize w.alloc (.cells #[v] t)=W at hb ⊢
 simp[World.cell?,hb]
theorem iS(b:Int)(w:World):Calls Tryz.prog 169 #[.int .u64 b] w fun e W'=>e=.returned (Ey w.heap.size)∧W'.cell? ⟨w.heap.size,0,none⟩=some (.int .u64 b)∧Below w.heap.size w W':=by
 go_enter Tryz.func169,Tryz.ntmps169
 go_wp2;go_ret;exact⟨rfl,DU w _ _,(Below.refl _ w).alloc (Nat.le_refl _) _⟩
theorem yw(b n:Nat)(c:Int)(B:Nat)(w:World)(h0:0≤c)(h1:c≤255)(hb:b≤16)(hg:bW b c=false)(hc:w.cell? ⟨B,0,none⟩=some (.int .u64 b)):
  Calls Tryz.prog 220 #[.int .u64 n,.int .u8 c,.pointer (some ⟨B,0,none⟩)] w fun e W'=>e=.returned (.tuple #[.int .u64 0,.bool false])∧W'=w:=by
 have hv:((b:Int)≤vv c):=by
  have:=of_decide_eq_false hg;have q:=bw c;unfold vv;split <;> omega
 have HV:=hid (cj c h0 h1);obtain⟨y,hy⟩:∃ y,vv c=y:=⟨_,rfl⟩;rw[hy]at hv HV;clear hg hy;go_enter Tryz.func220,Tryz.ntmps220
 go_wp2_with(go_at_call 221;refine(HV.out _).mono ?_;rintro e w2 ⟨rfl,hw2⟩;obtain rfl:=hw2.symm)
 go_ret2;exact⟨rfl,rfl⟩
theorem vL(b n:Nat)(c:Int)(B:Nat)(w:World)(h0:0≤c)(h1:c≤255)(hb:b≤16)(hn:n≤4294967296)(hg:bW b c=true)(hc:w.cell? ⟨B,0,none⟩=some (.int .u64 b)):
  Calls Tryz.prog 220 #[.int .u64 n,.int .u8 c,.pointer (some ⟨B,0,none⟩)] w fun e W'=>e=.returned (.tuple #[.int .u64 ((min (n * b+(hx c).toNat) 4294967296:Nat):Int),.bool true])∧W'=w:=by
 have hgd:=of_decide_eq_true hg;obtain⟨x,hx'⟩:∃ x:Nat,hx c=(x:Int):=⟨(hx c).toNat,by omega⟩;have hv:vv c=x:=by unfold vv;rw[if_neg (by omega),hx']
 have HV:=hid (cj c h0 h1);rw[hv]at HV;rw[hx']at hgd ⊢;have hxb:¬ ((b:Int)≤(x:Int)):=by omega
 have hm:n * b≤4294967296 * 16:=Nat.mul_le_mul hn hb;obtain⟨m,hm'⟩:∃ m,n * b=m:=⟨_,rfl⟩;have hmz:(n:Int) * (b:Int)=(m:Int):=by rw[←hm'];simp
 rw[hm']at hm ⊢;clear hg hx' hv hgd hm';go_enter Tryz.func220,Tryz.ntmps220
 go_wp2_with(go_at_call 221;refine(HV.out _).mono ?_;rintro e w2 ⟨rfl,hw2⟩;obtain rfl:=hw2.symm)
 all_goals
  go_ret2;refine⟨?_,rfl⟩;show Ending.returned (.tuple #[.int .u64 _,.bool true])=Ending.returned (.tuple #[.int .u64 _,.bool true])
  exact B9 (by omega)
theorem Iw(a b:UInt8):(⟨#[a,b]⟩:ByteArray).toList=[a,b]:=by rw[ByteArray.toList_eq]
theorem xK(s:ByteArray)(h2:2≤s.size)(a b:UInt8):((s.extract 0 2).toList==[a,b])=decide ((bn s)[0]?.getD 0=(a.toNat:Int)∧(bn s)[1]?.getD 0=(b.toNat:Int)):=by
 rw[←Iw,aR]
 have e:bn (s.extract 0 2)=(bn s).take 2:=by
  unfold bn;rw[ByteArray.data_extract,Array.toList_extract,List.extract_eq_take_drop,List.map_take,List.map_drop];rfl
 rw[e];have hl:=aa s
 generalize bn s=l at *
 match l,hl with
 | [],hl=>simp at hl;omega
 | [x],hl=>simp at hl;omega
 | x::y::r,hl =>
  apply decide_eq_decide.2;simp[bn]
theorem Gj(s:ByteArray)(h2:2≤s.size):isX (bn s)=((s.extract 0 2).toList==[48,120]||(s.extract 0 2).toList==[48,88]):=by
 rw[xK s h2,xK s h2,←Bool.decide_or];unfold isX;rw[aa];apply decide_eq_decide.2
 constructor
 ·rintro⟨_,h1,h3 | h3⟩
  ·exact .inl ⟨h1,h3⟩
  ·exact .inr ⟨h1,h3⟩
 ·rintro(⟨h1,h3⟩ | ⟨h1,h3⟩)
  ·exact⟨h2,h1,.inl h3⟩
  ·exact⟨h2,h1,.inr h3⟩
theorem kn(s:ByteArray)(w:World)(hs:s.size≤400000000):Calls Tryz.prog 120 #[.string s] w fun e W'=>e=.returned (.bool (isX (bn s)))∧W'=w:=by
 by_cases h2:2≤s.size
 ·have h2z:(2:Int)≤(s.size:Int):=by omega
  rw[Gj s h2];by_cases q1:(s.extract 0 2).toList=[48,120]
  ·go_enter Tryz.func120,Tryz.ntmps120
   go_wp2;go_ret;refine⟨?_,rfl⟩;rw[q1];rfl
  ·go_enter Tryz.func120,Tryz.ntmps120
   go_wp2;go_ret;exact⟨rfl,rfl⟩
 ·have h2z:¬ (2:Int)≤(s.size:Int):=by omega
  have hX:isX (bn s)=false:=by unfold isX;exact decide_eq_false (fun h=>h2 (by have:=h.1;rw[aa]at this;exact this))
  rw[hX];clear hX;go_enter Tryz.func120,Tryz.ntmps120
  go_wp2;go_ret;exact⟨rfl,rfl⟩
theorem jL(s:ByteArray)(w:World)(hs:s.size≤400000000)(h0:0<s.size):Calls Tryz.prog 168 #[.string s] w fun e W'=>e=.returned (.tuple #[.string (tail s),.int .u64 (base (bn s):Nat)])∧W'=w:=by
 have HX:=hid (fun W=>kn s W hs);have HT:Hid (tail s=if isX (bn s)=true then s.extract 2 s.size else if isO (bn s)=true then s.extract 1 s.size else s):=rfl;have HB:Hid (base (bn s)=if isX (bn s)=true then 16 else if isO (bn s)=true then 8 else 10):=rfl;have h2X:Hid (isX (bn s)=true→2≤s.size):=fun h=>by have:=(of_decide_eq_true h).1;rw[aa]at this;exact this
 have hO:Hid (isO (bn s)=decide (2≤s.size∧(bn s)[0]?.getD 0=48)):=by show _=_;unfold isO;rw[aa]
 have hg:=(aq s 0 h0).symm;obtain⟨y,hy⟩:∃ y,(bn s)[0]?.getD 0=y:=⟨_,rfl⟩;rw[hy]at hg hO;clear hy;cases hX:isX (bn s) with
 | true =>
  rw[hX]at HX HT HB;rw[HT.out,HB.out];have h2:=h2X.out hX;clear HT HB hO h2X hX hg;go_enter Tryz.func168,Tryz.ntmps168
  go_wp2_with(go_at_call 120;refine(HX.out _).mono ?_;rintro e w2 ⟨rfl,hw2⟩;obtain rfl:=hw2.symm)
  go_ret2;exact⟨rfl,rfl⟩
 | false =>
  rw[hX]at HX HT HB;rw[HT.out,HB.out];clear HT HB h2X hX;by_cases h2:2≤s.size
  ·have h2z:(1:Int)<(s.size:Int):=by omega
   by_cases h48:y=48
   ·have hb:(y==48)=true:=by simpa using h48
    have hO':isO (bn s)=true:=by rw[hO.out];exact decide_eq_true ⟨h2,h48⟩
    rw[hO'];clear hO hO' h48;go_enter Tryz.func168,Tryz.ntmps168
    go_wp2_with(go_at_call 120;refine(HX.out _).mono ?_;rintro e w2 ⟨rfl,hw2⟩;obtain rfl:=hw2.symm)
    go_ret2;exact⟨rfl,rfl⟩
   ·have hb:(y==48)=false:=by simpa using h48
    have hO':isO (bn s)=false:=by rw[hO.out];exact decide_eq_false (fun h=>h48 h.2)
    rw[hO'];clear hO hO' h48;go_enter Tryz.func168,Tryz.ntmps168
    go_wp2_with(go_at_call 120;refine(HX.out _).mono ?_;rintro e w2 ⟨rfl,hw2⟩;obtain rfl:=hw2.symm)
    go_ret2;exact⟨rfl,rfl⟩
  ·have h2z:¬ (1:Int)<(s.size:Int):=by omega
   have hO':isO (bn s)=false:=by rw[hO.out];exact decide_eq_false (fun h=>h2 h.1)
   rw[hO'];clear hO hO';go_enter Tryz.func168,Tryz.ntmps168
   go_wp2_with(go_at_call 120;refine(HX.out _).mono ?_;rintro e w2 ⟨rfl,hw2⟩;obtain rfl:=hw2.symm)
   go_ret2;exact⟨rfl,rfl⟩
theorem di(s:ByteArray)(w:World)(hs:s.size≤400000000):
  Calls Tryz.prog 121 #[.string s] w fun e W'=>cX (bn s) e∧Below w.heap.size w W':=by
 by_cases h0:s.size=0
 ·have he:s.toList.isEmpty=true:=ah s h0
  have hn:num (bn s)=(0,8):=by
   have:bn s=[]:=List.length_eq_zero_iff.1 (by rw[aa];exact h0);rw[this];rfl
  have HR:Hid (∀ e,e=.returned (.tuple #[.int .u64 0,.int .i64 8])→cX (bn s) e):=fun e h=>by unfold cX;rw[hn];exact h
  clear hn;go_enter Tryz.func121,Tryz.ntmps121
  go_wp2
  go_ret2;exact⟨HR.out _ rfl,Below.refl _ _⟩
 ·have he:s.toList.isEmpty=false:=ab s (by omega)
  have hl:bn s≠[]:=fun e=>h0 (by rw[←aa,e];rfl)
  have HTS:Hid (bn (tail s)=rest (bn s)):=ig s;have HTZ:=ie s;have HCU:=hid (fun W=>jL s W hs (by omega));have hb16:base (bn s)≤16:=by unfold base;(repeat' split) <;> omega
  have HB1:=hid (AN (bn s));have HBAD:Hid (∀ k,k<(tail s).size→bW (base (bn s)) ((bn (tail s))[k]?.getD 0)=false→num (bn s)=(0,8)):=fun k hk h=>ir hl (by rw[←HTS.out];exact cO (by rw[aa];exact hk) h)
  have HEND:Hid (ok (base (bn s)) (bn (tail s))=true→num (bn s)=if 4294967296≤cap (base (bn s)) (bn (tail s)) then (0,4) else (cap (base (bn s)) (bn (tail s)),0)):=fun h=>by
   rw[HTS.out]at h ⊢;exact iq hl h
  have HNR:Hid (∀(x:Nat) (y:Int) e,num (bn s)=(x,y)→e=.returned (.tuple #[.int .u64 x,.int .i64 y])→cX (bn s) e):=fun x y e h he=>by unfold cX;rw[h];exact he
  obtain⟨b,hb⟩:∃ b,base (bn s)=b:=⟨_,rfl⟩;obtain⟨T,hT⟩:∃ T,tail s=T:=⟨_,rfl⟩;rw[hb]at HCU hb16 HB1 HBAD HEND;rw[hT]at HCU HTZ HBAD HEND;clear hb hT HTS hl;have hTs:T.size≤400000000:=by omega
  have HBD:=hid (fun j (h:j<T.size)=>ar (s:=T) h);have HGT:=hid (aq T);have HLN:=hid (aa T);go_enter Tryz.func121,Tryz.ntmps121
  go_wp2_with(first
    | (go_at_call 168;refine(HCU.out _).mono ?_;rintro e w2 ⟨rfl,hw2⟩;obtain rfl:=hw2.symm)
    | (go_at_call 169;refine(iS _ _).mono ?_;rintro e w3 ⟨rfl,hc3,B3⟩;unfold Ey))
  have HC3:=hid hc3;have HB3:=hid B3;have HRB:=hid (yw b);have HRG:=hid (vL b);clear hc3 B3 HCU
  go_loop [2,21] (fun v2 v21=>∃(k n:Nat),k≤T.size∧n≤4294967296∧v2=.int .u64 n∧v21=.int .i64 k∧Hid (n=cap b ((bn T).take k))∧Hid (ok b ((bn T).take k)=true)) (fun _ v21=>T.size - (intOf v21).toNat)
  case atStart=>exact⟨0,0,Nat.zero_le _,by omega,rfl,rfl,rfl,rfl⟩
  case round =>
   obtain⟨k,n,hk,hn,rfl,rfl,HC,HO⟩:=hrel;by_cases hlt:k<T.size
   ·have hg:=(HGT.out k hlt).symm
    obtain⟨hb0,hb1⟩:=HBD.out k hlt;have HBK:=hid (HBAD.out k hlt);have HTK:=hid (take_one (bn T) k (by rw[HLN.out];exact hlt));have HCS:Hid (cap b ((bn T).take (k+1))=min (n * b+(hx ((bn T)[k]?.getD 0)).toNat) 4294967296):=by show _=_;rw[HTK.out,fA HB1.out,←HC.out]
    have HOS:Hid (ok b ((bn T).take (k+1))=bW b ((bn T)[k]?.getD 0)):=by show _=_;rw[HTK.out,eJ,HO.out,Bool.true_and]
    have hltz:(k:Int)<(T.size:Int):=by omega
    obtain⟨y,hy⟩:∃ y,(bn T)[k]?.getD 0=y:=⟨_,rfl⟩;rw[hy]at hg hb0 hb1 HBK HCS HOS;clear hy HTK HGT HBD HBAD HEND;cases hG:bW b y with
    | false =>
     have HR:=hid (HBK.out hG);have HX:=hid (HRB.out n y w.heap.size w3 hb0 hb1 hb16 hG HC3.out);clear HBK HCS HOS HC HO hG HRB HRG
     go_wp2_with(go_at_call 220;refine HX.out.mono ?_;rintro e w4 ⟨rfl,hw4⟩;obtain rfl:=hw4.symm)
     go_ret2;exact⟨HNR.out _ _ _ HR.out rfl,HB3.out⟩
    | true =>
     have HX:=hid (HRG.out n y w.heap.size w3 hb0 hb1 hb16 hn hG HC3.out);have HGT':=hid hG;obtain⟨z,hz⟩:∃ z,min (n * b+(hx y).toNat) 4294967296=z:=⟨_,rfl⟩;rw[hz]at HX HCS;have hz2:z≤4294967296:=by omega
     clear hz HBK HC HO hG HRB HRG
     go_wp2_with(go_at_call 220;refine HX.out.mono ?_;rintro e w4 ⟨rfl,hw4⟩;obtain rfl:=hw4.symm)
     refine⟨⟨k+1,z,by omega,hz2,rfl,by go_num,?_,?_⟩,by simp[intOf];omega⟩
     ·show _=_
      rw[HCS.out]
     ·show _=_
      rw[HOS.out,HGT'.out]
   ·have ht:(bn T).take k=bn T:=List.take_of_length_le (by rw[HLN.out];omega)
    rw[ht]at HC HO;have HR:=hid (HEND.out HO.out);rw[←HC.out]at HR;have hltz:¬ (k:Int)<(T.size:Int):=by omega
    clear ht HC HO HBAD HEND HGT HBD HRB HRG;by_cases hnl:4294967296≤n
    ·have HR':=hid (HR.out.trans (if_pos hnl))
     have hnz:(4294967296:Int)≤(n:Int):=by omega
     clear HR;go_wp2
     go_ret2;exact⟨HNR.out _ _ _ HR'.out rfl,HB3.out⟩
    ·have HR':=hid (HR.out.trans (if_neg hnl))
     have hnz:¬ (4294967296:Int)≤(n:Int):=by omega
     clear HR;go_wp2
     go_ret2;exact⟨HNR.out _ _ _ HR'.out rfl,HB3.out⟩
end Go.Proofs.YtkekkbciiohbkaaGreatDoor.F
