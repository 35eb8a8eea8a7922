/- Contracts and plain facts. -/
import Derived.Test.YtlmflmdmolcfhaaGreatDoorZ7
import Derived.Shelf.Strings.LastIndex
import Derived.Shelf.Strings.Split
import Derived.Shelf.Pu.ParseUintPublic10
import Derived.Lib.ConvBytes
import Derived.Lib.IfaceEq
set_option maxRecDepth 100000
set_option maxHeartbeats 16000000
set_option linter.unusedVariables false
set_option linter.unnecessarySimpa false
open List (getElem?_eq_getElem length_map length_cons getElem_mem getElem?_map getLast?_cons_cons drop_eq_getElem_cons map_append all_eq_true foldl_cons map_cons length_append drop_zero mem_cons_of_mem ext_getElem map_map)
open Nat (le_refl le_succ zero_le)
open Go.ByteArray (toList_eq)
open ByteArray (data_extract)
open Go.IntKind (wrap_u64)
open Option (getD_some)
namespace Go.Proofs.YtlmflmdmolcfhaaGreatDoor
open Tryz Go.RowKit
namespace I
theorem lq{xs:List (List Int×Int)}{ts:List ByteArray}(h:ck xs ts):¬ tg xs:=by
 rintro⟨x,hx,hb⟩;obtain⟨i,hi,rfl⟩:=List.mem_iff_getElem.1 hx;have h1:=h.2 i hi;rw[getElem?_eq_getElem hi]at h1;rcases hb with hb | hb
 ·exact hb h1.1
 ·exact hb ⟨_,h1.2⟩
theorem ln(X:List Int)(hy:Bool)(hX:X.length<=10000)(hs:Scs X):∀ x∈prc X hy,(0<=x.2/\x.2<=768)/\x.1.length<=10000/\Scs x.1:=by
 have k:∀ x∈(spl X).map (fun l=>one l hy),0<=x.2/\x.2<=512/\x.1.length<=10000:=fun x hx=>by obtain⟨l,hl,rfl⟩:=List.mem_map.1 hx;exact⟨one_nonneg l hy,one_le l hy,rU l hy (by have:=tG X l hl;omega)⟩
 intro x hx;have hsc:=EF hy hs x hx;unfold prc at hx;split at hx
 ·obtain⟨y,hy',rfl⟩:=List.mem_map.1 hx;have:=k y hy';refine⟨⟨?_,?_⟩,this.2.2,hsc⟩
  ·unfold eI;simp only;split <;> omega
  ·unfold eI;simp only;split <;> omega
 ·have:=k x hx;exact⟨⟨this.1,by omega⟩,this.2.2,hsc⟩
theorem zi(X:List Int)(hy:Bool):0<(prc X hy).length:=by rw[mw];obtain⟨a,t,h⟩:=bF X;rw[h];simp
theorem gI{xs:List (List Int×Int)}{ts:List ByteArray}(h:ck xs ts)(hx:∀ x∈xs,x.1.length<=10000):∀ t∈ts,t.size<=20000:=by
 intro t ht;obtain⟨i,hi,rfl⟩:=List.mem_iff_getElem.1 ht;have hi':i<xs.length:=by rw[<-h.1];exact hi
 have h1:=(h.2 i hi').2;rw[getElem?_eq_getElem hi',getElem?_eq_getElem hi]at h1;have h2:=Fg h1;have h3:=hx _ (getElem_mem hi');rw[<-U.aa];simp only[getD_some]at h2;omega
theorem Su{w0 w:World}{vo vf:Value}{n:Nat}{vs:List Value}{xs:List (List Int×Int)}(hn:n<=10000)(hp:0<n)(hb:∀ x∈xs,(0<=x.2/\x.2<=768)/\x.1.length<=10000/\Scs x.1)(hP:Pr w0 w vo vf n vs xs)(hbad:tg xs):
  Calls prog 234 #[vo,vf] w fun e W'=>e=.panicked (gz 70)/\Below w.heap.size w W' :=
 (iT w0 w vo vf n vs xs hn hp hb hP).mono (by
   rintro e W' ⟨⟨ts,cap,h,_⟩ | ⟨_,h⟩,hB⟩
   · exact absurd hbad (lq h)
   · exact⟨h,hB⟩)
theorem QQ{w0 w:World}{vo vf:Value}{n:Nat}{vs:List Value}{xs:List (List Int×Int)}(hn:n<=10000)(hp:0<n)(hb:∀ x∈xs,(0<=x.2/\x.2<=768)/\x.1.length<=10000/\Scs x.1)(hP:Pr w0 w vo vf n vs xs)(hbad:¬ tg xs):
  Calls prog 234 #[vo,vf] w fun e W'=>(∃ ts cap,ck xs ts/\e=.returned (.slice (some ⟨w.heap.size,0,none⟩) n cap)/\W'.ownsRow w.heap.size 9 1 (.slice (some ⟨w.heap.size,0,none⟩) n cap) n (ts.map Value.string))/\Below w.heap.size w W' :=
 (iT w0 w vo vf n vs xs hn hp hb hP).mono (by
   rintro e W' ⟨h | ⟨h,_⟩,hB⟩
   · exact⟨h,hB⟩
   · exact absurd h hbad)
theorem Ae{W:World}{Bn Be:Nat}{t:ByteArray}{r:Int}(hn:Boxed W Bn 9 (.string t))(he:Boxed W Be 32 (.int .i64 r))(tmps:Array Value)(h6:tmps.getD 6 undef=.pointer (some ⟨Bn,0,none⟩))(h7:tmps.getD 7 undef=.pointer (some ⟨Be,0,none⟩)):
  (results Tryz.f209 tmps).run prog W=.ok (.tuple #[.string t,.int .i64 r]) W:=by
 have c1:=hn.cell;have c2:=he.cell;rw[fL (p:=6) (u:=7) (ty:=9) (tz:=32) rfl,h6,h7];have hl1:(loadVar 9 ⟨Bn,0,none⟩).run prog W=.ok (.string t) W:=by go_simp
 have hl2:(loadVar 32 ⟨Be,0,none⟩).run prog W=.ok (.int .i64 r) W:=by go_simp
 simp[asAddr,Result.andThen,hl1,hl2]
theorem pj{R:Ending->World->Prop}{Bn Be B:Nat}{x:ByteArray}{y r:Int}{w:World}(tmps:Array Value)(h6:tmps.getD 6 undef=.pointer (some ⟨Bn,0,none⟩))(h7:tmps.getD 7 undef=.pointer (some ⟨Be,0,none⟩))(b1:B<=Bn)(b2:B<=Be)(hn:Boxed w Bn 9 (.string x))(he:Boxed w Be 32 (.int .i64 y))
  (h:∀ w',Below B w w'->R (.returned (.tuple #[.string ⟨#[]⟩,.int .i64 r])) w') :
  Leaves prog Tryz.f209 tmps R [{ target:=.fn (.func 233) #[.pointer (some ⟨Bn,0,none⟩),.pointer (some ⟨Be,0,none⟩)],args:=#[] }] (.panicking (gz r)) w:=by
 refine leaves_cons (f:=233) (args:=#[.pointer (some ⟨Bn,0,none⟩),.pointer (some ⟨Be,0,none⟩)]) (by simp) (by simp[go_sem]) ?_;refine(mh B Bn Be b1 b2 x y r w hn he).mono ?_;rintro e u' w' ⟨rfl,rfl,h1,h2,hB⟩;show Leaves _ _ _ _ [] (settle _) w';simp only[settle];exact⟨_,Ae h1 h2 tmps h6 h7,h w' hB⟩
theorem wt{R:Ending->World->Prop}{Bn Be:Nat}{t:ByteArray}{r:Int}{w:World}(tmps:Array Value)(h6:tmps.getD 6 undef=.pointer (some ⟨Bn,0,none⟩))(h7:tmps.getD 7 undef=.pointer (some ⟨Be,0,none⟩))(hn:Boxed w Bn 9 (.string t))(he:Boxed w Be 32 (.int .i64 r))
  (h:R (.returned (.tuple #[.string t,.int .i64 r])) w) :
  Leaves prog Tryz.f209 tmps R [{ target:=.fn (.func 233) #[.pointer (some ⟨Bn,0,none⟩),.pointer (some ⟨Be,0,none⟩)],args:=#[] }] .returning w:=by
 refine leaves_cons (f:=233) (args:=#[.pointer (some ⟨Bn,0,none⟩),.pointer (some ⟨Be,0,none⟩)]) (by simp) (by simp[go_sem]) ?_;refine(yp Bn Be w).mono ?_;rintro e u' w' ⟨rfl,rfl,rfl⟩;show Leaves _ _ _ _ [] (settle _) w';simp only[settle];exact⟨_,Ae hn he tmps h6 h7,h⟩
theorem RZ{g n c:Nat}{ts:List ByteArray}{w:World}(hn:ts.length=n)(hp:0<n)(hnc:n<=c)(hnb:n<=10000)(hb:∀ t∈ts,t.size<=20000)(hc:∀ j,j<n->w.cell? ⟨g,j,none⟩=some (.string (ts[j]?.getD ⟨#[]⟩)))(hbad:fU (ts.map U.bn)):
  Calls prog 236 #[.slice (some ⟨g,0,none⟩) n c] w fun e W'=>e=.panicked (gz 4)/\Below w.heap.size w W' :=
 (lP g n c ts w hn hp hnc hnb hb hc).mono (by
   rintro e W' ⟨⟨h,_⟩ | ⟨_,h⟩,hB⟩
   · exact absurd hbad h
   · exact⟨h,hB⟩)
theorem PJ{g n c:Nat}{ts:List ByteArray}{w:World}(hn:ts.length=n)(hp:0<n)(hnc:n<=c)(hnb:n<=10000)(hb:∀ t∈ts,t.size<=20000)(hc:∀ j,j<n->w.cell? ⟨g,j,none⟩=some (.string (ts[j]?.getD ⟨#[]⟩)))(hbad:¬ fU (ts.map U.bn)):
  Calls prog 236 #[.slice (some ⟨g,0,none⟩) n c] w fun e W'=>e=.returned (.tuple #[])/\Below w.heap.size w W' :=
 (lP g n c ts w hn hp hnc hnb hb hc).mono (by
   rintro e W' ⟨⟨_,h⟩ | ⟨h,_⟩,hB⟩
   · exact⟨h,hB⟩
   · exact absurd h hbad)
theorem Cz(s:ByteArray)(hy long:Bool)(w:World)(hs:s.size<=4096)(hbad:tg (prc (Mp (U.dec (U.bn s))) hy)):
  Calls prog 209 #[.string s,.bool hy,.bool long] w fun e W'=>Rf (prc (Mp (U.dec (U.bn s))) hy) long w e W':=by
 have hmf:∀(fn:Fn) (first cap:Array Value) (w:World),(Instr.makeFunc fn first cap).run prog w=.ok (.func fn first cap) w:=fun _ _ _ _=>rfl;have HPR:=hid (fun W=>lM s hy W hs);have hml:=mN (U.bn s) (U.ay s);rw[U.aa]at hml;have HSX:=mM _ (jh _ (U.ay s));have HEA:=hid (ln _ hy (by omega) HSX);have hpos:=zi (Mp (U.dec (U.bn s))) hy;have hxl:=mw (Mp (U.dec (U.bn s))) hy;have hsl:=eM (Mp (U.dec (U.bn s)));have HBAD:=hid hbad;obtain⟨xs,hxs⟩:=Ex' (prc (Mp (U.dec (U.bn s))) hy);rw[hxs]at HPR HEA hpos hxl HBAD ⊢;obtain⟨n,hn⟩:=Ex' xs.length;unfold Jg at HPR;rw[hn]at HPR hpos hxl;have hnb:n<=8193:=by omega
 clear hxs hn hxl hsl hml hbad HSX
 go_enter_defers func209,ntmps209
 go_wp2_with(first
   | (go_at_call 234;refine(Su (by omega) hpos HEA.out HP.out HBAD.out).mono ?_;rintro e w4 ⟨rfl,B4⟩;have HB4:=hid B4;clear B4)
   | (go_at_call 235;refine(HPR.out _).mono ?_;rintro e w3 ⟨v3,f3,vs,rfl,hP⟩;have HP:=hid hP;obtain⟨a1,c1,rfl⟩:=dT hP.out;obtain⟨a2,c2,rfl⟩:=dU hP.flt;clear hP))
 have bN:=(Boxed.new w 9 (.string ⟨#[]⟩)).alloc (.cells #[.int .i64 0] 32);have bE:=Boxed.new (w.alloc (.cells #[.string ⟨#[]⟩] 9)) 32 (.int .i64 0);rw[World.size_alloc]at bE;have hb0:Below w.heap.size w ((w.alloc (.cells #[.string ⟨#[]⟩] 9)).alloc (.cells #[.int .i64 0] 32)):=((Below.refl _ w).alloc (le_refl _) _).alloc (by simp) _;have hB3:=HP.out.be;have hB4:=hB3.trans (HB4.out.mono hB3.size);have bN4:Boxed w4 _ _ _:=(hB4.block _ bN.lt).trans bN;have bE4:Boxed w4 _ _ _:=(hB4.block _ bE.lt).trans bE;have hB:=hb0.trans (hB4.mono (by simp;omega));refine pj _ rfl rfl (le_refl _) (le_succ _) bN4 bE4 (fun w' hw'=>?_);exact⟨⟨_,_,rfl,.inl ⟨HBAD.out,rfl,rfl⟩⟩,hB.trans hw'⟩
theorem yv(s:ByteArray)(hy long:Bool)(w:World)(hs:s.size<=4096)(hbad:¬ tg (prc (Mp (U.dec (U.bn s))) hy)):
  Calls prog 209 #[.string s,.bool hy,.bool long] w fun e W'=>Rf (prc (Mp (U.dec (U.bn s))) hy) long w e W':=by
 have hmf:∀(fn:Fn) (first cap:Array Value) (w:World),(Instr.makeFunc fn first cap).run prog w=.ok (.func fn first cap) w:=fun _ _ _ _=>rfl;have HPR:=hid (fun W=>lM s hy W hs);have hml:=mN (U.bn s) (U.ay s);rw[U.aa]at hml;have HSX:=mM _ (jh _ (U.ay s));have HEA:=hid (ln _ hy (by omega) HSX);have hpos:=zi (Mp (U.dec (U.bn s))) hy;have hxl:=mw (Mp (U.dec (U.bn s))) hy;have hsl:=eM (Mp (U.dec (U.bn s)));have HBAD:=hid hbad;obtain⟨xs,hxs⟩:=Ex' (prc (Mp (U.dec (U.bn s))) hy);rw[hxs]at HPR HEA hpos hxl HBAD ⊢;obtain⟨n,hn⟩:=Ex' xs.length;have HN:=hid hn;unfold Jg at HPR;rw[hn]at HPR hpos hxl;have hnb:n<=8193:=by omega
 clear hxs hn hxl hsl hml hbad HSX
 go_enter_defers func209,ntmps209
 go_upto_if 19 with(first
   | (go_at_call 234;refine(QQ (by omega) hpos HEA.out HP.out HBAD.out).mono ?_;rintro e w4 ⟨⟨ts,cap,hpt,rfl,hr⟩,B4⟩;have HB4:=hid B4;have HPT:=hid hpt;have HR:=hid hr;clear B4 hpt hr)
   | (go_at_call 235;refine(HPR.out _).mono ?_;rintro e w3 ⟨v3,f3,vs,rfl,hP⟩;have HP:=hid hP;obtain⟨a1,c1,rfl⟩:=dT hP.out;obtain⟨a2,c2,rfl⟩:=dU hP.flt;clear hP))
 have bN:=(Boxed.new w 9 (.string ⟨#[]⟩)).alloc (.cells #[.int .i64 0] 32);have bE:=Boxed.new (w.alloc (.cells #[.string ⟨#[]⟩] 9)) 32 (.int .i64 0);rw[World.size_alloc]at bE;have hb0:Below w.heap.size w ((w.alloc (.cells #[.string ⟨#[]⟩] 9)).alloc (.cells #[.int .i64 0] 32)):=((Below.refl _ w).alloc (le_refl _) _).alloc (by simp) _;have hB3:=HP.out.be;have hB4:=hB3.trans (HB4.out.mono hB3.size);have HBN:=hid (show Boxed w4 _ _ _ from(hB4.block _ bN.lt).trans bN);have HBE:=hid (show Boxed w4 _ _ _ from(hB4.block _ bE.lt).trans bE);have HBB:=hid (hb0.trans (hB4.mono (by simp;omega)));have HTL:Hid (ts.length=n):=by show _=_;have h1:=HPT.out.1;have h2:=HN.out;omega
 have HSZ:=hid (gI HPT.out (fun x hx=>(HEA.out x hx).2.1));have HCC:Hid (∀ j,j<n->w4.cell? ⟨w3.heap.size,j,none⟩=some (.string (ts[j]?.getD ⟨#[]⟩))):=fun j hj=>by have h1:=HR.out.cellAt j (by omega);rw[getElem?_map,getElem?_eq_getElem (show j<ts.length by have:=HTL.out;omega)]at h1;rw[getElem?_eq_getElem (show j<ts.length by have:=HTL.out;omega)];exact h1
 have hcapp:n<=cap:=by
  rcases HR.out.2 with⟨h,_⟩ | ⟨g,cap',cur,h,_,_,hnc,_⟩
  ·cases h
  ·cases h;exact hnc
 have HJL:Hid ((join (ts.map U.bn)).length<=1000000000):=by
  show _<=_
  have h1:=cW (ts.map U.bn) 20000 (fun l hl=>by
    obtain⟨t,ht,rfl⟩:=List.mem_map.1 hl
    rw[U.aa]
    exact HSZ.out t ht)
  rw[length_map,HTL.out]at h1;have h2:n * (20000+1)<=10000 * 20001:=Nat.mul_le_mul (by omega) (by omega);omega
 clear bN bE hb0 hB3 hB4 HR HP HB4 HEA HPR;cases long with
 | false =>
  have HJ:=hid (iE w3.heap.size cap n ts HTL.out w4 HCC.out hpos hcapp (by omega) HJL.out);go_wp2_with(go_at_call 237;refine HJ.out.mono ?_;rintro e w6 ⟨⟨t,rfl,ht⟩,B6⟩;have HT:=hid ht;have bN6:Boxed w6 _ _ _:=((B6.block _ HBN.out.lt).trans HBN.out);have bE6:Boxed w6 _ _ _:=((B6.block _ HBE.out.lt).trans HBE.out);have cn6:=bN6.cell;have fn6:=bN6.frozen;have ce6:=bE6.cell;have fe6:=bE6.frozen;have ce7:=(bw bE6 bN6 (by decide) (.string t)).cell;have fe7:=(bw bE6 bN6 (by decide) (.string t)).frozen;have HN6:=hid bN6;have HE6:=hid bE6;have HB6:=Bt' HBB B6;clear ht B6 bN6 bE6);have xE:=bw HE6.out HN6.out (by decide) (.string t);have xN:=HN6.out.set (.string t);refine wt _ rfl rfl (bw xN xE (by decide) (.int .i64 0)) (xE.set (.int .i64 0)) ?_;exact⟨⟨_,_,rfl,.inr ⟨ts,HPT.out,.inr ⟨fun h=>absurd h.1 (by decide),HT.out,rfl⟩⟩⟩,(HB6.out.setCell (p:=⟨w.heap.size,0,none⟩) (le_refl _) _).setCell (p:=⟨w.heap.size+1,0,none⟩) (le_succ _) _⟩
 | true =>
  by_cases hbl:fU (ts.map U.bn)
  ·have HM:=hid (RZ HTL.out hpos hcapp (by omega) HSZ.out HCC.out hbl);have HBL:=hid hbl;clear hbl;go_wp2_with(go_at_call 236;refine HM.out.mono ?_;rintro e w5 ⟨rfl,B5⟩;have HB5:=hid B5;clear B5);have bN5:Boxed w5 _ _ _:=(HB5.out.block _ HBN.out.lt).trans HBN.out;have bE5:Boxed w5 _ _ _:=(HB5.out.block _ HBE.out.lt).trans HBE.out;refine pj _ rfl rfl (le_refl _) (le_succ _) bN5 bE5 (fun w' hw'=>?_);exact⟨⟨_,_,rfl,.inr ⟨ts,HPT.out,.inl ⟨rfl,HBL.out,rfl,rfl⟩⟩⟩,(HBB.out.trans (HB5.out.mono HBB.out.size)).trans hw'⟩
  ·have HM:=hid (PJ HTL.out hpos hcapp (by omega) HSZ.out HCC.out hbl);have HBL:=hid hbl;clear hbl
   have HJW:Hid (∀ W,Below w4.heap.size w4 W->Calls prog 237 #[.slice (some ⟨w3.heap.size,0,none⟩) n cap,.string ⟨#[46]⟩] W fun e W'=>(∃ t,e=.returned (.string t)/\U.bn t=join (ts.map U.bn))/\Below W.heap.size W W'):=fun W hW =>
    iE w3.heap.size cap n ts HTL.out W (fun j hj=>(hW.cell (p:=⟨w3.heap.size,j,none⟩) (U.lt_of_cell (HCC.out j hj))).trans (HCC.out j hj)) hpos hcapp (by omega) HJL.out
   go_upto_region 7 with(go_at_call 236;refine HM.out.mono ?_;rintro e w5 ⟨rfl,B5⟩;have HB5:=hid B5;clear B5)
   have HJ:=hid (HJW.out w5 HB5.out);replace HBN:=hid (show Boxed w5 _ _ _ from(HB5.out.block _ HBN.out.lt).trans HBN.out);replace HBE:=hid (show Boxed w5 _ _ _ from(HB5.out.block _ HBE.out.lt).trans HBE.out);replace HBB:=hid (HBB.out.trans (HB5.out.mono HBB.out.size));go_wp2_with(go_at_call 237;refine HJ.out.mono ?_;rintro e w6 ⟨⟨t,rfl,ht⟩,B6⟩;have HT:=hid ht;have bN6:Boxed w6 _ _ _:=((B6.block _ HBN.out.lt).trans HBN.out);have bE6:Boxed w6 _ _ _:=((B6.block _ HBE.out.lt).trans HBE.out);have cn6:=bN6.cell;have fn6:=bN6.frozen;have ce6:=bE6.cell;have fe6:=bE6.frozen;have ce7:=(bw bE6 bN6 (by decide) (.string t)).cell;have fe7:=(bw bE6 bN6 (by decide) (.string t)).frozen;have HN6:=hid bN6;have HE6:=hid bE6;have HB6:=Bt' HBB B6;clear ht B6 bN6 bE6);have xE:=bw HE6.out HN6.out (by decide) (.string t);have xN:=HN6.out.set (.string t);refine wt _ rfl rfl (bw xN xE (by decide) (.int .i64 0)) (xE.set (.int .i64 0)) ?_;exact⟨⟨_,_,rfl,.inr ⟨ts,HPT.out,.inr ⟨fun h=>HBL.out h.2,HT.out,rfl⟩⟩⟩,(HB6.out.setCell (p:=⟨w.heap.size,0,none⟩) (le_refl _) _).setCell (p:=⟨w.heap.size+1,0,none⟩) (le_succ _) _⟩
theorem CA(s:ByteArray)(hy long:Bool)(w:World)(hs:s.size<=4096):
  Calls prog 209 #[.string s,.bool hy,.bool long] w fun e W'=>Rf (prc (Mp (U.dec (U.bn s))) hy) long w e W':=by
 by_cases h:tg (prc (Mp (U.dec (U.bn s))) hy)
 ·exact Cz s hy long w hs h
 ·exact yv s hy long w hs h
theorem kv{l p q:List Int}(h:Part l p)(k:Part l q):p=q:=by
 rcases h with⟨h1,rfl⟩ | ⟨h1,T,hE,_,_,_,rfl⟩
 ·exact((nQ h1 q).1 k).symm
 ·rcases k with⟨k1,_⟩ | ⟨_,T',hE',_,_,_,rfl⟩
  ·rw[h1]at k1;cases k1
  ·rw[hE.one hE']
theorem pK{xs:List (List Int×Int)}{ts us:List ByteArray}(h:ck xs ts)(k:ck xs us):ts.map U.bn=us.map U.bn:=by
 apply ext_getElem
 ·simp[h.1,k.1]
 ·intro i h1 h2;rw[length_map]at h1 h2;have hi:i<xs.length:=by rw[<-h.1];exact h1
  have a:=(h.2 i hi).2;have b:=(k.2 i hi).2;rw[getElem?_eq_getElem hi,getElem?_eq_getElem h1]at a;rw[getElem?_eq_getElem hi,getElem?_eq_getElem h2]at b;simp only[List.getElem_map];exact kv a b
def yB(xs:List (List Int×Int))(long:Bool)(t:ByteArray)(r:Int):Prop :=
 (tg xs/\t=⟨#[]⟩/\r=70)\/(∃ ts,ck xs ts/\((long=true/\fU (ts.map U.bn)/\t=⟨#[]⟩/\r=4)\/(¬ (long=true/\fU (ts.map U.bn))/\U.bn t=join (ts.map U.bn)/\r=0)))
theorem wo{xs:List (List Int×Int)}{long:Bool}{t u:ByteArray}{r q:Int}(h:yB xs long t r)(k:yB xs long u q):t=u/\r=q:=by
 rcases h with⟨h1,rfl,rfl⟩ | ⟨ts,h1,h2⟩
 ·rcases k with⟨k1,rfl,rfl⟩ | ⟨us,k1,_⟩
  ·exact⟨rfl,rfl⟩
  ·exact absurd h1 (lq k1)
 ·rcases k with⟨k1,_⟩ | ⟨us,k1,k2⟩
  ·exact absurd k1 (lq h1)
  ·rw[pK h1 k1]at h2;rcases h2 with⟨a,b,rfl,rfl⟩ | ⟨a,b,rfl⟩
   ·rcases k2 with⟨_,_,rfl,rfl⟩ | ⟨c,_⟩
    ·exact⟨rfl,rfl⟩
    ·exact absurd ⟨a,b⟩ c
   ·rcases k2 with⟨c,d,_⟩ | ⟨c,d,rfl⟩
    ·exact absurd ⟨c,d⟩ a
    ·exact⟨P.ak (b.trans d.symm),rfl⟩
theorem yu(s:ByteArray)(hy long:Bool)(w:World)(hs:s.size<=4096):
  Calls prog 209 #[.string s,.bool hy,.bool long] w fun e W'=>(∃ t r,e=.returned (.tuple #[.string t,.int .i64 r])/\yB (prc (Mp (U.dec (U.bn s))) hy) long t r)/\Below w.heap.size w W':=CA s hy long w hs
theorem qq{xs:List (List Int×Int)}{ts:List ByteArray}(h:ck xs ts):noF xs=true:=by unfold noF;rw[all_eq_true];intro x hx;obtain⟨i,hi,rfl⟩:=List.mem_iff_getElem.1 hx;have h1:=(h.2 i hi).1;rw[getElem?_eq_getElem hi]at h1;exact decide_eq_true h1
theorem Qo:∃ f:List Int->List Int,∀ l p,Part l p->f l=p:=by
 classical
 refine⟨fun l=>if h:∃ p,Part l p then h.choose else [],fun l p h=>?_⟩;have hex:∃ p,Part l p:=⟨p,h⟩;show(if h:∃ p,Part l p then h.choose else [])=p;rw[dif_pos hex];exact kv hex.choose_spec h
theorem Ba{prt:List Int->List Int}(prt_is:∀ l p,Part l p->prt l=p){xs:List (List Int×Int)}{ts:List ByteArray}(h:ck xs ts):(xs.map (·.1)).map prt=ts.map U.bn/\∀ l∈xs.map (·.1),Part l (prt l):=by
 have key:∀ i (hi:i<xs.length),Part xs[i].1 (U.bn (ts[i]'(by rw[h.1];exact hi))):=fun i hi=>by have h1:=(h.2 i hi).2;rw[getElem?_eq_getElem hi,getElem?_eq_getElem (show i<ts.length by rw[h.1];exact hi)]at h1;exact h1
 constructor
 ·apply ext_getElem
  ·simp[h.1]
  ·intro i h1 h2;simp only[length_map]at h1 h2;simp only[List.getElem_map];exact prt_is _ _ (key i h1)
 ·intro l hl;obtain⟨x,hx,rfl⟩:=List.mem_map.1 hl;obtain⟨i,hi,rfl⟩:=List.mem_iff_getElem.1 hx;rw[prt_is _ _ (key i hi)];exact key i hi
theorem tQ{l:List Int}{hy:Bool}{ts:List ByteArray}(h:ck (prc (Mp (U.dec l)) hy) ts):
  prc (Mp (U.dec (join (ts.map U.bn)))) hy=prc (Mp (U.dec l)) hy/\∀ c∈join (ts.map U.bn),0<=c/\c<128:=by
 obtain⟨hok,hxs⟩:=Pg (qq h);obtain⟨prt,hprt⟩:=Qo;obtain⟨e1,hp⟩:=Ba hprt h;have hch:∀ c∈join (ts.map U.bn),0<=c/\c<128:=by rw[<-e1];refine ox (p:=fun c=>0<=c/\c<128) ⟨by omega,by omega⟩ _ (fun a ha=>?_);obtain⟨y,hy',rfl⟩:=List.mem_map.1 ha;intro c hc;exact((aJ (hok.flt y hy') (hp y hy')).2.2 c hc).1
 constructor
 ·have hd:U.dec (join (ts.map U.bn))=join (ts.map U.bn):=P.mH _ (fun c hc=>by have:=hch c hc;omega) (by
    unfold P.asc
    rw[all_eq_true]
    intro c hc
    exact decide_eq_true (hch c hc).2)
  rw[hd,<-e1,OQ hok prt hp];exact hxs.symm
 ·exact hch
theorem ze{l:List Int}{a:ByteArray}{hy long:Bool}(h:yB (prc (Mp (U.dec l)) hy) long a 0):yB (prc (Mp (U.dec (U.bn a))) hy) long a 0/\∀ c∈U.bn a,0<=c/\c<128:=by
 rcases h with⟨_,_,h⟩ | ⟨ts,hp,⟨_,_,_,h⟩ | ⟨hnb,hj,_⟩⟩
 ·cases h
 ·cases h
 ·have hr:=tQ hp;refine⟨?_,?_⟩
  ·rw[hj,hr.1];exact .inr ⟨ts,hp,.inr ⟨hnb,hj,rfl⟩⟩
  ·rw[hj];exact hr.2
theorem Hn(l:List Int)(h:U.Bytes l):∃ t:ByteArray,U.bn t=l:=by
 refine⟨⟨(l.map fun c=>UInt8.ofNat c.toNat).toArray⟩,?_⟩;unfold U.bn;rw[List.toList_toArray,map_map]
 conv=>rhs;rw[<-List.map_id l]
 apply List.map_congr_left;intro c hc;have:=h c hc;show(((UInt8.ofNat c.toNat).toNat:Nat):Int)=c;rw[UInt8.toNat_ofNat',Nat.mod_eq_of_lt (by omega)];omega
theorem Hm:∀(ls:List (List Int)),(∀ l∈ls,U.Bytes l)->∃ ts:List ByteArray,ts.map U.bn=ls
 | [],_=>⟨[],rfl⟩
 | l::ls,h=>by obtain⟨t,ht⟩:=Hn l (h l (by simp));obtain⟨ts,hts⟩:=Hm ls (fun x hx=>h x (by simp[hx]));exact⟨t::ts,by rw[map_cons,ht,hts]⟩
def ldd(c:Int):Prop:=ld c\/c=46
theorem LY{l:List Int}(h:∀ c∈l,ldd c)(hy:Bool):prc (Mp (U.dec l)) hy=(spl l).map fun x=>(x,0):=by
 have hasc:∀ c∈l,0<=c/\c<128:=fun c hc=>by have:=h c hc;unfold ldd ld at this;omega
 have hd:U.dec l=l:=P.mH _ (fun c hc=>by have:=hasc c hc;omega) (by
   unfold P.asc
   rw[all_eq_true]
   intro c hc
   exact decide_eq_true (hasc c hc).2)
 have hM:Mp l=l:=by unfold Mp;rw[lx _ (fun r hr=>.inl (gh r (by have:=h r hr;unfold ldd ld at this;omega)))];exact(jl l hasc).1
 have hl:∀ x∈spl l,∀ c∈x,ld c:=fun x hx c hc=>by
  have h1:=tH l x hx
  have key:∀(ls:List (List Int)),x∈ls->c∈join ls:=by
   intro ls
   induction ls with
   | nil=>intro h;simp at h
   | cons b t ih =>
    intro hm;cases t with
    | nil=>simp at hm;rw[<-hm];exact hc
    | cons d t =>
     rw[join];rcases List.mem_cons.1 hm with rfl | hm
     ·simp[hc]
     ·have:=ih hm;simp[this]
  have h2:=h c (by rw[<-iD l];exact key _ hx);rcases h2 with h2 | rfl
  ·exact h2
  ·exact absurd hc h1
 have hm:(spl l).map (fun x=>one x hy)=(spl l).map fun x=>(x,0):=List.map_congr_left (fun x hx=>um (PS x hy (hl x hx)));rw[hd,hM];unfold prc;rw[hm];have hr:jV ((spl l).map fun x=>(x,(0:Int)))=false:=by unfold jV;rw[any_map,List.any_eq_false];intro x hx;have:=Gk x (hl x hx);simp[this]
 rw[if_neg (by rw[hr];decide)]
theorem uH{t:ByteArray}(h:∀ c∈U.bn t,ldd c)(hy:Bool):yB (prc (Mp (U.dec (U.bn t))) hy) false t 0:=by
 rw[LY h hy]
 have hpl:∀ x∈spl (U.bn t),∀ c∈x,0<=c/\c<128:=fun x hx c hc=>by
  have key:∀(ls:List (List Int)),x∈ls->c∈join ls:=by
   intro ls
   induction ls with
   | nil=>intro h;simp at h
   | cons b t ih =>
    intro hm;cases t with
    | nil=>simp at hm;rw[<-hm];exact hc
    | cons d t =>
     rw[join];rcases List.mem_cons.1 hm with rfl | hm
     ·simp[hc]
     ·have:=ih hm;simp[this]
  have h2:=h c (by rw[<-iD (U.bn t)];exact key _ hx);unfold ldd ld at h2;omega
 ·obtain⟨ts,hts⟩:=Hm (spl (U.bn t)) (fun x hx c hc=>by have:=hpl x hx c hc;omega);refine .inr ⟨ts,⟨?_,fun i hi=>?_⟩,.inr ⟨fun h=>absurd h.1 (by decide),by rw[hts,iD],rfl⟩⟩
  ·rw[length_map,<-hts,length_map]
  ·rw[length_map]at hi;have hit:i<ts.length:=by have:=congrArg List.length hts;rw[length_map]at this;omega
   rw[getElem?_map,getElem?_eq_getElem hi,getElem?_eq_getElem hit];refine⟨rfl,.inl ⟨cM.2 (hpl _ (getElem_mem hi)),?_⟩⟩;have:(ts.map U.bn)[i]? = (spl (U.bn t))[i]? := by rw[hts]
   rw[getElem?_map,getElem?_eq_getElem hit,getElem?_eq_getElem hi]at this;exact Option.some.inj this
end I
namespace H
def IA(s t:List Int)(r:Int):Prop:=∃ T:ByteArray,U.bn T=t/\I.yB (I.prc (I.Mp (U.dec s)) false) false T r
theorem asc:Asc IA where
 one:=by rintro s t u r q ⟨T,rfl,h⟩ ⟨V,rfl,k⟩;obtain⟨rfl,rfl⟩:=I.wo h k;exact⟨rfl,rfl⟩
 rest:=by rintro s t ⟨T,rfl,h⟩;exact⟨T,rfl,(I.ze h).1⟩
 low:=by rintro s t ⟨T,rfl,h⟩;exact(I.ze h).2
 num:=by
  intro t ht;obtain⟨T,rfl⟩:=I.Hn t (fun c hc=>by have:=ht c hc;omega)
  exact⟨T,rfl,I.uH (fun c hc=>by
    unfold I.ldd I.ld
    have:=ht c hc
    omega) false⟩
 cap:=by
  obtain⟨T,hT⟩:=I.Hn [101,120,97,109,112,108,101,46,99,111,109] (fun c hc=>by simp at hc;omega);refine⟨T,hT,?_⟩
  have h:=I.uH (t:=T) (fun c hc=>by
    rw[hT]at hc
    unfold I.ldd I.ld
    simp at hc
    omega) false
  have ha:I.cC (U.bn T) [69,88,65,77,80,76,69,46,99,111,109]:=by rw[hT];exact I.cC.cons (I.Alt.cap 101 (by decide)) (I.cC.cons (I.Alt.cap 120 (by decide)) (I.cC.cons (I.Alt.cap 97 (by decide)) (I.cC.cons (I.Alt.cap 109 (by decide)) (I.cC.cons (I.Alt.cap 112 (by decide)) (I.cC.cons (I.Alt.cap 108 (by decide)) (I.cC.cons (I.Alt.cap 101 (by decide)) (I.cC.cons (I.Alt.same 46) (I.cC.cons (I.Alt.same 99) (I.cC.cons (I.Alt.same 111) (I.cC.cons (I.Alt.same 109) I.cC.nil))))))))))
  have e:=I.px (U.bn T).length (U.bn T) _ (le_refl _) (U.ay T) ha;unfold I.Mp at h ⊢;rw[e];exact h
 len:=by
  rintro s t ⟨T,rfl,h⟩ hb hl;rcases h with⟨_,_,h⟩ | ⟨ts,hp,⟨_,_,_,h⟩ | ⟨_,hj,_⟩⟩
  ·cases h
  ·cases h
  ·have hX:=I.mN s hb;have hsc:=I.mM _ (I.jh s hb);have he:=I.ln (I.Mp (U.dec s)) false (by omega) hsc;have hz:=I.gI hp (fun x hx=>(he x hx).2.1);have hn:ts.length<=8193:=by rw[hp.1];rw[I.mw];have:=I.eM (I.Mp (U.dec s));omega
   rw[hj]
   have hjl:=I.join_len' (ts.map U.bn) 20000 (fun l hl=>by
     obtain⟨t,ht,rfl⟩:=List.mem_map.1 hl
     rw[U.aa];exact hz t ht)
   rw[length_map]at hjl;have h2:ts.length * (20000+1)<=8193 * (20000+1):=Nat.mul_le_mul_right _ hn;omega
 bln:=by
  rintro d r ⟨T,rfl,h⟩;left;have e:I.prc (I.Mp (U.dec [97,32,98])) false=[([97,32,98],64)]:=by decide +kernel
  rw[e]at h;rcases h with⟨_,_,rfl⟩ | ⟨ts,hp,_⟩
  ·decide
  ·exact absurd (I.qq hp) (by decide)
end H
namespace F
def vv(c:Int):Int:=if hx c<0 then 16 else hx c
theorem cL(c:Int)(h0:0<=c)(h1:c<=255)(w:World):Calls prog 318 #[.int .u8 c] w fun e W'=>e=.returned (.int .u64 (vv c))/\W'=w:=by
 by_cases a1:48<=c/\c<=57
 ·obtain⟨x1,x2⟩:=a1;have hv:vv c=c - 48:=by unfold vv hx;(repeat' split) <;> omega
  rw[hv];clear hv;go_enter func318,ntmps318;go_wp2;go_ret;exact⟨cw (by omega),rfl⟩
 by_cases a2:97<=c/\c<=102
 ·obtain⟨x1,x2⟩:=a2;have hv:vv c=c - 87:=by unfold vv hx;(repeat' split) <;> omega
  rw[hv];clear hv;go_enter func318,ntmps318;go_wp2;go_ret;exact⟨cw (by omega),rfl⟩
 by_cases a3:65<=c/\c<=70
 ·obtain⟨x1,x2⟩:=a3;have hv:vv c=c - 55:=by unfold vv hx;(repeat' split) <;> omega
  rw[hv];clear hv;go_enter func318,ntmps318;go_wp2;go_ret;exact⟨cw (by omega),rfl⟩
 have hm:vv c=16:=by unfold vv hx;(repeat' split) <;> omega
 rw[hm];go_enter func318,ntmps318;go_wp2
 all_goals first
  | (go_ret;exact⟨rfl,rfl⟩)
  | (exfalso;omega)
  | (go_ret;exact⟨cw (by omega),rfl⟩)
theorem Ko{a b:Int}(h:a=b):Ending.returned (.tuple #[.int .u64 a,.bool true])=.returned (.tuple #[.int .u64 b,.bool true]):=by rw[h]
def NP(B:Nat):Value:=.func (.func 317) #[] #[.pointer (some ⟨B,0,none⟩)]
theorem Nd(w:World)(t:TypeId)(v:Value):(w.alloc (.cells #[v] t)).cell? ⟨w.heap.size,0,none⟩=some v:=by have hb:(w.alloc (.cells #[v] t)).heap[w.heap.size]? = some (.cells #[v] t):=heap_alloc_new w _;generalize w.alloc (.cells #[v] t)=W at hb ⊢;simp[World.cell?,hb]
theorem jI(b:Int)(w:World):Calls prog 294 #[.int .u64 b] w fun e W'=>e=.returned (NP w.heap.size)/\W'.cell? ⟨w.heap.size,0,none⟩=some (.int .u64 b)/\Below w.heap.size w W':=by go_enter func294,ntmps294;go_wp2;go_ret;exact⟨rfl,Nd w _ _,(Below.refl _ w).alloc (le_refl _) _⟩
theorem Es(b n:Nat)(c:Int)(B:Nat)(w:World)(h0:0<=c)(h1:c<=255)(hb:b<=16)(hg:lB b c=false)(hc:w.cell? ⟨B,0,none⟩=some (.int .u64 b)):
  Calls prog 317 #[.int .u64 n,.int .u8 c,.pointer (some ⟨B,0,none⟩)] w fun e W'=>e=.returned (.tuple #[.int .u64 0,.bool false])/\W'=w:=by
 have hv:((b:Int)<=vv c):=by have:=of_decide_eq_false hg;have q:=iI c;unfold vv;split <;> omega
 have HV:=hid (cL c h0 h1);obtain⟨y,hy⟩:=Ex' (vv c);rw[hy]at hv HV;clear hg hy;go_enter func317,ntmps317;go_wp2_with(go_at_call 318;refine(HV.out _).mono ?_;rintro e w2 ⟨rfl,hw2⟩;obtain rfl:=hw2.symm);go_ret2;exact⟨rfl,rfl⟩
theorem AR(b n:Nat)(c:Int)(B:Nat)(w:World)(h0:0<=c)(h1:c<=255)(hb:b<=16)(hn:n<=4294967296)(hg:lB b c=true)(hc:w.cell? ⟨B,0,none⟩=some (.int .u64 b)):
  Calls prog 317 #[.int .u64 n,.int .u8 c,.pointer (some ⟨B,0,none⟩)] w fun e W'=>e=.returned (.tuple #[.int .u64 ((min (n * b+(hx c).toNat) 4294967296:Nat):Int),.bool true])/\W'=w:=by
 have hgd:=of_decide_eq_true hg;obtain⟨x,hx'⟩:∃ x:Nat,hx c=(x:Int):=⟨(hx c).toNat,by omega⟩;have hv:vv c=x:=by unfold vv;rw[if_neg (by omega),hx']
 have HV:=hid (cL c h0 h1);rw[hv]at HV;rw[hx']at hgd ⊢;have hxb:¬ ((b:Int)<=(x:Int)):=by omega
 have hm:n * b<=4294967296 * 16:=Nat.mul_le_mul hn hb;obtain⟨m,hm'⟩:=Ex' (n * b);have hmz:(n:Int) * (b:Int)=(m:Int):=by rw[<-hm'];simp
 rw[hm']at hm ⊢;clear hg hx' hv hgd hm';go_enter func317,ntmps317;go_wp2_with(go_at_call 318;refine(HV.out _).mono ?_;rintro e w2 ⟨rfl,hw2⟩;obtain rfl:=hw2.symm)
 all_goals
  go_ret2;refine⟨?_,rfl⟩;show Ending.returned (.tuple #[.int .u64 _,.bool true])=Ending.returned (.tuple #[.int .u64 _,.bool true]);exact Ko (by omega)
theorem SP(a b:UInt8):(⟨#[a,b]⟩:ByteArray).toList=[a,b]:=by rw[toList_eq]
theorem Dh(s:ByteArray)(h2:2<=s.size)(a b:UInt8):((s.extract 0 2).toList==[a,b])=decide ((bn s)[0]?.getD 0=(a.toNat:Int)/\(bn s)[1]?.getD 0=(b.toNat:Int)):=by
 rw[<-SP,gC];have e:bn (s.extract 0 2)=(bn s).take 2:=by unfold bn;rw[data_extract,Array.toList_extract,List.extract_eq_take_drop,List.map_take,List.map_drop];rfl
 rw[e];have hl:=aa s;generalize bn s=l at *;match l,hl with
 | [],hl=>simp at hl;omega
 | [x],hl=>simp at hl;omega
 | x::y::r,hl =>
  apply decide_eq_decide.2;simp[bn]
theorem PW(s:ByteArray)(h2:2<=s.size):isX (bn s)=((s.extract 0 2).toList==[48,120]||(s.extract 0 2).toList==[48,88]):=by
 rw[Dh s h2,Dh s h2,<-Bool.decide_or];unfold isX;rw[aa];apply decide_eq_decide.2;constructor
 ·rintro⟨_,h1,h3 | h3⟩
  ·exact .inl ⟨h1,h3⟩
  ·exact .inr ⟨h1,h3⟩
 ·rintro(⟨h1,h3⟩ | ⟨h1,h3⟩)
  ·exact⟨h2,h1,.inl h3⟩
  ·exact⟨h2,h1,.inr h3⟩
theorem lL(s:ByteArray)(w:World)(hs:s.size<=400000000):Calls prog 268 #[.string s] w fun e W'=>e=.returned (.bool (isX (bn s)))/\W'=w:=by
 by_cases h2:2<=s.size
 ·have h2z:(2:Int)<=(s.size:Int):=by omega
  rw[PW s h2];by_cases q1:(s.extract 0 2).toList=[48,120]
  ·go_enter func268,ntmps268;go_wp2;go_ret;refine⟨?_,rfl⟩;rw[q1];rfl
  ·go_enter func268,ntmps268;go_wp2;go_ret;exact⟨rfl,rfl⟩
 ·have h2z:¬ (2:Int)<=(s.size:Int):=by omega
  have hX:isX (bn s)=false:=by unfold isX;exact decide_eq_false (fun h=>h2 (by have:=h.1;rw[aa]at this;exact this))
  rw[hX];clear hX;go_enter func268,ntmps268;go_wp2;go_ret;exact⟨rfl,rfl⟩
theorem fw(s:ByteArray)(w:World)(hs:s.size<=400000000)(h0:0<s.size):Calls prog 293 #[.string s] w fun e W'=>e=.returned (.tuple #[.string (tail s),.int .u64 (base (bn s):Nat)])/\W'=w:=by
 have HX:=hid (fun W=>lL s W hs);have HT:Hid (tail s=if isX (bn s)=true then s.extract 2 s.size else if isO (bn s)=true then s.extract 1 s.size else s):=rfl;have HB:Hid (base (bn s)=if isX (bn s)=true then 16 else if isO (bn s)=true then 8 else 10):=rfl;have h2X:Hid (isX (bn s)=true->2<=s.size):=fun h=>by have:=(of_decide_eq_true h).1;rw[aa]at this;exact this
 have hO:Hid (isO (bn s)=decide (2<=s.size/\(bn s)[0]?.getD 0=48)):=by show _=_;unfold isO;rw[aa]
 have hg:=(bz s 0 h0).symm;obtain⟨y,hy⟩:=Ex' ((bn s)[0]?.getD 0);rw[hy]at hg hO;clear hy;cases hX:isX (bn s) with
 | true =>
  rw[hX]at HX HT HB;rw[HT.out,HB.out];have h2:=h2X.out hX;clear HT HB hO h2X hX hg;go_enter func293,ntmps293;go_wp2_with(go_at_call 268;refine(HX.out _).mono ?_;rintro e w2 ⟨rfl,hw2⟩;obtain rfl:=hw2.symm);go_ret2;exact⟨rfl,rfl⟩
 | false =>
  rw[hX]at HX HT HB;rw[HT.out,HB.out];clear HT HB h2X hX;by_cases h2:2<=s.size
  ·have h2z:(1:Int)<(s.size:Int):=by omega
   by_cases h48:y=48
   ·have hb:(y==48)=true:=by simpa using h48
    have hO':isO (bn s)=true:=by rw[hO.out];exact decide_eq_true ⟨h2,h48⟩
    rw[hO'];clear hO hO' h48;go_enter func293,ntmps293;go_wp2_with(go_at_call 268;refine(HX.out _).mono ?_;rintro e w2 ⟨rfl,hw2⟩;obtain rfl:=hw2.symm);go_ret2;exact⟨rfl,rfl⟩
   ·have hb:(y==48)=false:=by simpa using h48
    have hO':isO (bn s)=false:=by rw[hO.out];exact decide_eq_false (fun h=>h48 h.2)
    rw[hO'];clear hO hO' h48;go_enter func293,ntmps293;go_wp2_with(go_at_call 268;refine(HX.out _).mono ?_;rintro e w2 ⟨rfl,hw2⟩;obtain rfl:=hw2.symm);go_ret2;exact⟨rfl,rfl⟩
  ·have h2z:¬ (1:Int)<(s.size:Int):=by omega
   have hO':isO (bn s)=false:=by rw[hO.out];exact decide_eq_false (fun h=>h2 h.1)
   rw[hO'];clear hO hO';go_enter func293,ntmps293;go_wp2_with(go_at_call 268;refine(HX.out _).mono ?_;rintro e w2 ⟨rfl,hw2⟩;obtain rfl:=hw2.symm);go_ret2;exact⟨rfl,rfl⟩
theorem dF(s:ByteArray)(w:World)(hs:s.size<=400000000):
  Calls prog 269 #[.string s] w fun e W'=>jW (bn s) e/\Below w.heap.size w W':=by
 by_cases h0:s.size=0
 ·have he:s.toList.isEmpty=true:=az s h0;have hn:num (bn s)=(0,8):=by have:bn s=[]:=List.length_eq_zero_iff.1 (by rw[aa];exact h0);rw[this];rfl
  have HR:Hid (∀ e,e=.returned (.tuple #[.int .u64 0,.int .i64 8])->jW (bn s) e):=fun e h=>by unfold jW;rw[hn];exact h
  clear hn;go_enter func269,ntmps269;go_wp2;go_ret2;exact⟨HR.out _ rfl,Below.refl _ _⟩
 ·have he:s.toList.isEmpty=false:=aq s (by omega);have hl:bn s≠[]:=fun e=>h0 (by rw[<-aa,e];rfl);have HTS:Hid (bn (tail s)=rest (bn s)):=JM s;have HTZ:=AD s;have HCU:=hid (fun W=>fw s W hs (by omega));have hb16:base (bn s)<=16:=by unfold base;(repeat' split) <;> omega
  have HB1:=hid (IL (bn s));have HBAD:Hid (∀ k,k<(tail s).size->lB (base (bn s)) ((bn (tail s))[k]?.getD 0)=false->num (bn s)=(0,8)):=fun k hk h=>Lm hl (by rw[<-HTS.out];exact uo (by rw[aa];exact hk) h);have HEND:Hid (ok (base (bn s)) (bn (tail s))=true->num (bn s)=if 4294967296<=cap (base (bn s)) (bn (tail s)) then (0,4) else (cap (base (bn s)) (bn (tail s)),0)):=fun h=>by rw[HTS.out]at h ⊢;exact Ll hl h
  have HNR:Hid (∀(x:Nat) (y:Int) e,num (bn s)=(x,y)->e=.returned (.tuple #[.int .u64 x,.int .i64 y])->jW (bn s) e):=fun x y e h he=>by unfold jW;rw[h];exact he
  obtain⟨b,hb⟩:=Ex' (base (bn s));obtain⟨T,hT⟩:=Ex' (tail s);rw[hb]at HCU hb16 HB1 HBAD HEND;rw[hT]at HCU HTZ HBAD HEND;clear hb hT HTS hl;have hTs:T.size<=400000000:=by omega
  have HBD:=hid (fun j (h:j<T.size)=>cj (s:=T) h);have HGT:=hid (bz T);have HLN:=hid (aa T);go_enter func269,ntmps269
  go_wp2_with(first
    | (go_at_call 293;refine(HCU.out _).mono ?_;rintro e w2 ⟨rfl,hw2⟩;obtain rfl:=hw2.symm)
    | (go_at_call 294;refine(jI _ _).mono ?_;rintro e w3 ⟨rfl,hc3,B3⟩;unfold NP))
  have HC3:=hid hc3;have HB3:=hid B3;have HRB:=hid (Es b);have HRG:=hid (AR b);clear hc3 B3 HCU
  go_loop [2,21] (fun v2 v21=>∃(k n:Nat),k<=T.size/\n<=4294967296/\v2=.int .u64 n/\v21=.int .i64 k/\Hid (n=cap b ((bn T).take k))/\Hid (ok b ((bn T).take k)=true)) (fun _ v21=>T.size - (intOf v21).toNat)
  case atStart=>exact⟨0,0,zero_le _,by omega,rfl,rfl,rfl,rfl⟩
  case round =>
   obtain⟨k,n,hk,hn,rfl,rfl,HC,HO⟩:=hrel;by_cases hlt:k<T.size
   ·have hg:=(HGT.out k hlt).symm;obtain⟨hb0,hb1⟩:=HBD.out k hlt;have HBK:=hid (HBAD.out k hlt);have HTK:=hid (take_one (bn T) k (by rw[HLN.out];exact hlt));have HCS:Hid (cap b ((bn T).take (k+1))=min (n * b+(hx ((bn T)[k]?.getD 0)).toNat) 4294967296):=by show _=_;rw[HTK.out,Iy HB1.out,<-HC.out]
    have HOS:Hid (ok b ((bn T).take (k+1))=lB b ((bn T)[k]?.getD 0)):=by show _=_;rw[HTK.out,zp,HO.out,Bool.true_and]
    have hltz:(k:Int)<(T.size:Int):=by omega
    obtain⟨y,hy⟩:=Ex' ((bn T)[k]?.getD 0);rw[hy]at hg hb0 hb1 HBK HCS HOS;clear hy HTK HGT HBD HBAD HEND;cases hG:lB b y with
    | false =>
     have HR:=hid (HBK.out hG);have HX:=hid (HRB.out n y w.heap.size w3 hb0 hb1 hb16 hG HC3.out);clear HBK HCS HOS HC HO hG HRB HRG;go_wp2_with(go_at_call 317;refine HX.out.mono ?_;rintro e w4 ⟨rfl,hw4⟩;obtain rfl:=hw4.symm);go_ret2;exact⟨HNR.out _ _ _ HR.out rfl,HB3.out⟩
    | true =>
     have HX:=hid (HRG.out n y w.heap.size w3 hb0 hb1 hb16 hn hG HC3.out);have HGT':=hid hG;obtain⟨z,hz⟩:=Ex' (min (n * b+(hx y).toNat) 4294967296);rw[hz]at HX HCS;have hz2:z<=4294967296:=by omega
     clear hz HBK HC HO hG HRB HRG;go_wp2_with(go_at_call 317;refine HX.out.mono ?_;rintro e w4 ⟨rfl,hw4⟩;obtain rfl:=hw4.symm);refine⟨⟨k+1,z,by omega,hz2,rfl,by go_num,?_,?_⟩,by simp[intOf];omega⟩
     ·show _=_;rw[HCS.out]
     ·show _=_;rw[HOS.out,HGT'.out]
   ·have ht:(bn T).take k=bn T:=List.take_of_length_le (by rw[HLN.out];omega);rw[ht]at HC HO;have HR:=hid (HEND.out HO.out);rw[<-HC.out]at HR;have hltz:¬ (k:Int)<(T.size:Int):=by omega
    clear ht HC HO HBAD HEND HGT HBD HRB HRG;by_cases hnl:4294967296<=n
    ·have HR':=hid (HR.out.trans (if_pos hnl));have hnz:(4294967296:Int)<=(n:Int):=by omega
     clear HR;go_wp2;go_ret2;exact⟨HNR.out _ _ _ HR'.out rfl,HB3.out⟩
    ·have HR':=hid (HR.out.trans (if_neg hnl));have hnz:¬ (4294967296:Int)<=(n:Int):=by omega
     clear HR;go_wp2;go_ret2;exact⟨HNR.out _ _ _ HR'.out rfl,HB3.out⟩
end F
end Go.Proofs.YtlmflmdmolcfhaaGreatDoor
namespace Go.Proofs
open Go.Shelf Go.RowKit
shelf_lay Lays.n149 Nm 149 at Tryz as Tryz.laysLast
shelf_lay Lays.n160 Nm 160 at Tryz as Tryz.laysTrim
end Go.Proofs
namespace Go.Proofs.YtlmflmdmolcfhaaGreatDoor
open Tryz Go.RowKit
namespace F
def ud(l:List Int):List Int:=if l.getLast? = some 46 then l.dropLast else l
theorem kh:∀ l:List Int,spl (l++[46])=spl l++[[]]
 | []=>rfl
 | c::l=>by
  show spl (c::(l++[46]))=_;rw[spl,kh l]
  conv=>rhs;rw[spl]
  split
  ·rfl
  ·have h:=bF l;cases hs:spl l with
   | nil=>exact absurd hs h
   | cons a t=>rfl
theorem lJ:∀ l:List Int,l≠[]->l.getLast? ≠ some 46->(spl l).getLast? ≠ some []
 | [],h,_=>absurd rfl h
 | [c],_,h=>by
  have hc:c≠46:=fun e=>h (by rw[e];rfl);rw[spl,if_neg hc];simp[spl]
 | c::d::l,_,h=>by
  have ih:=lJ (d::l) (by simp) (by rw[getLast?_cons_cons]at h;exact h);rw[spl];have h0:=bF (d::l);split
  ·cases hs:spl (d::l) with
   | nil=>exact absurd hs h0
   | cons a t=>rw[getLast?_cons_cons];rw[hs]at ih;exact ih
  ·cases hs:spl (d::l) with
   | nil=>exact absurd hs h0
   | cons a t =>
    rw[hs]at ih;cases t with
    | nil=>simp
    | cons b u =>
     show((c::a)::b::u).getLast? ≠ _;rw[getLast?_cons_cons]at ih ⊢;exact ih
theorem Ex(l:List Int):prt l=spl (ud l):=by
 unfold prt ud;by_cases h:l.getLast? = some 46
 ·have hne:l≠[]:=fun e=>by rw[e]at h;cases h
  have e:l=l.dropLast++[46]:=by have h2:=List.dropLast_concat_getLast hne;rw[List.getLast?_eq_some_getLast hne]at h;rw[Option.some.inj h]at h2;exact h2.symm
  have e2:spl l=spl l.dropLast++[[]]:=by
   conv=>lhs;rw[e]
   exact kh _
  have hp:=List.length_pos_iff.2 (bF l.dropLast);rw[if_pos h,e2,if_pos ⟨by rw[length_append];simp;omega,by simp⟩];simp
 ·rw[if_neg h];by_cases hl:l=[]
  ·rw[hl];rfl
  ·rw[if_neg (fun hh=>lJ l hl h hh.2)]
theorem tF:∀(a b:List Int),¬ 46∈b->(spl (a++46::b)).getLast? = some b
 | [],b,h=>by
  show(spl (46::b)).getLast? = _;rw[mo,cu b h];rfl
 | c::a,b,h=>by
  have ih:=tF a b h;show(spl (c::(a++46::b))).getLast? = _;have h0:=bF (a++46::b)
  have hlen:2<=(spl (a++46::b)).length:=by
   clear ih h h0
   induction a with
   | nil=>show 2<=(spl (46::b)).length;rw[mo];have:=List.length_pos_iff.2 (bF b);simp;omega
   | cons d a ih2 =>
    show 2<=(spl (d::(a++46::b))).length;rw[spl];split
    ·simp;omega
    ·simp;omega
  rw[spl];cases hs:spl (a++46::b) with
  | nil=>exact absurd hs h0
  | cons x t =>
   rw[hs]at ih hlen;cases t with
   | nil=>simp at hlen
   | cons y u =>
    rw[getLast?_cons_cons]at ih;split
    ·rw[getLast?_cons_cons,getLast?_cons_cons];exact ih
    ·show((c::x)::y::u).getLast? = _;rw[getLast?_cons_cons];exact ih
def me(s:ByteArray):ByteArray:=if (bn s).getLast? = some 46 then s.extract 0 (s.size - 1) else s
theorem yG(s:ByteArray):bn (me s)=ud (bn s):=by
 unfold me ud;split
 ·rw[yq s 0 (s.size - 1) (zero_le _) (by omega),drop_zero,Nat.sub_zero,List.dropLast_eq_take,aa]
 ·rfl
theorem pW(s:ByteArray):(me s).size<=s.size:=by
 unfold me;split
 ·simp
 ·exact le_refl _
theorem SQ(a:UInt8):(⟨#[a]⟩:ByteArray).toList=[a]:=by rw[toList_eq]
theorem Ma(s:ByteArray)(h:0<s.size):((s.extract (s.size - 1) s.size).toList==[46])=decide ((bn s).getLast? = some 46):=by
 rw[<-SQ,gC,ar];apply decide_eq_decide.2;rw[List.getLast?_eq_getElem?,<-aa] ;rw[<-aa]at h;generalize bn s=l at *;have hd:l.drop (l.length - 1)=[l[l.length - 1]'(by omega)]:=by rw[drop_eq_getElem_cons (by omega),show l.length - 1+1=l.length by omega,List.drop_length]
 rw[hd,getElem?_eq_getElem (by omega)];simp[bn]
theorem eo(s:ByteArray)(w:World)(hs:s.size<=400000000):Calls prog 267 #[.string s] w fun e W'=>e=.returned (.string (me s))/\W'=w:=by
 by_cases h1:1<=s.size
 ·have h1z:(1:Int)<=(s.size:Int):=by omega
  have he:=Ma s h1;have HU:Hid (me s=if (bn s).getLast? = some 46 then s.extract 0 (s.size - 1) else s):=rfl;by_cases hq:(bn s).getLast? = some 46
  ·rw[decide_eq_true hq]at he;rw[HU.out,if_pos hq];clear HU hq;go_enter func267,ntmps267;go_wp2;go_ret;exact⟨rfl,rfl⟩
  ·rw[decide_eq_false hq]at he;rw[HU.out,if_neg hq];clear HU hq;go_enter func267,ntmps267;go_wp2;go_ret;exact⟨rfl,rfl⟩
 ·have h1z:¬ (1:Int)<=(s.size:Int):=by omega
  have hu:me s=s:=by unfold me;have:bn s=[]:=List.length_eq_zero_iff.1 (by rw[aa];omega);rw[this,if_neg (by simp)]
  rw[hu];clear hu;go_enter func267,ntmps267;go_wp2;go_ret;exact⟨rfl,rfl⟩
theorem BF(s:ByteArray)(w:World)(hs:s.size<=400000000):Calls prog 254 #[.string s,.int .u8 46] w fun e W'=>e=.returned (.int .i64 (Lib.lastIndexByte s 46))/\W'=w:=by
 have h:=Any.strings_LastIndexByte Tryz.laysLast s 46 (by omega) w;have hf:Tryz.laysLast_ren.f 149=254:=by kernel_rfl
 rw[hf]at h;exact h
def pO:ByteArray:=⟨#[48,49,50,51,52,53,54,55,56,57]⟩
theorem Dm(s:ByteArray)(w:World)(hs:s.size<=400000000):Calls prog 270 #[.string s,.string pO] w fun e W'=>e=.returned (.string ⟨(Lib.trimS s.data.toList pO.data.toList).toArray⟩)/\Below w.heap.size w W':=by
 have h:=Any.strings_Trim_laid Tryz.laysTrim (by kernel_rfl) s pO w (by omega) (by decide) (ascii_of_all (by decide));have hf:Tryz.laysTrim_ren.f 160=270:=by kernel_rfl
 rw[hf]at h;exact h
theorem sY(s:ByteArray)(j:Nat)(h:j<s.size):((s.data[j]!).toNat:Int)=(bn s)[j]?.getD 0:=by rw[bz s j h];have:s.data[j]! = s[j]:=LastIndex.byteBang s j h;rw[this]
theorem BJ(s:ByteArray):∃ k:Nat,k<=s.size/\Lib.lastIndexByte s 46=(k:Int) - 1/\(spl (bn s)).getLast? = some (bn (s.extract k s.size)):=by
 rcases Lib.lastIndexByte_spec s 46 with⟨h1,h2⟩ | ⟨i,hi,h1,h2,h3⟩
 ·refine⟨0,zero_le _,by rw[h1];rfl,?_⟩;rw[ar,drop_zero];have hn:¬ 46∈bn s:=by intro hm;obtain⟨j,hj,e⟩:=List.mem_iff_getElem.1 hm;rw[aa]at hj;refine h2 j hj ?_;rw[sY s j hj,getElem?_eq_getElem (by rw[aa];exact hj),e];rfl
  rw[cu _ hn];rfl
 ·refine⟨i+1,by omega,by rw[h1];omega,?_⟩;rw[ar];rw[sY s i hi]at h2
  have e:bn s=(bn s).take i++46::(bn s).drop (i+1):=by
   have h4:i<(bn s).length:=by rw[aa];exact hi
   have h5:(bn s).drop i=46::(bn s).drop (i+1):=by rw[drop_eq_getElem_cons h4];rw[getElem?_eq_getElem h4]at h2;rw[show(bn s)[i]=46 from h2]
   rw[<-h5,List.take_append_drop]
  have hn:¬ 46∈(bn s).drop (i+1):=by intro hm;obtain⟨j,hj,e⟩:=List.mem_iff_getElem.1 hm;rw[List.length_drop,aa]at hj;refine h3 (i+1+j) (by omega) (by omega) ?_;rw[sY s _ (by omega),getElem?_eq_getElem (by rw[aa];omega)];rw[List.getElem_drop]at e;exact e
  conv=>lhs;rw[e]
  exact tF _ _ hn
theorem sS:∀ n:Fin 256,(pO.data.toList.contains (UInt8.ofNat n.val))=ten (n.val:Int):=by decide +kernel
theorem kR(b:UInt8):pO.data.toList.contains b=ten (b.toNat:Int):=by have h:=sS ⟨b.toNat,b.toNat_lt⟩;simp only[UInt8.ofNat_toNat]at h;exact h
theorem ye{p:UInt8->Bool}:∀ {l:List UInt8},l.dropWhile p=[]↔∀ b∈l,p b=true
 | []=>by simp
 | a::l=>by
  rw[List.dropWhile_cons];cases h:p a with
  | true=>rw[if_pos rfl,ye];simp[h]
  | false=>simp[h]
theorem cg{p:UInt8->Bool}{b:UInt8}:∀ {l:List UInt8},b∈l.takeWhile p->p b=true
 | [],h=>by simp at h
 | a::l,h=>by
  rw[List.takeWhile_cons]at h;cases hp:p a with
  | true =>
   rw[hp,if_pos rfl,List.mem_cons]at h;rcases h with rfl | h
   ·exact hp
   ·exact cg h
  | false=>rw[hp]at h;simp at h
theorem Ta(y:Int):(y != 8)=decide (y≠8):=by by_cases h:y=8 <;> simp[h]
theorem Dl(l cs:List UInt8):(Lib.trimS l cs=[])↔∀ b∈l,cs.contains b=true:=by
 unfold Lib.trimS Lib.trimLeftS Lib.trimRightS;constructor
 ·intro h b hb;rw[ye]at h;have h2:=List.takeWhile_append_dropWhile (p:=(cs.contains ·)) (l:=l.reverse);have hb':b∈l.reverse:=List.mem_reverse.2 hb;rw[<-h2,List.mem_append]at hb';rcases hb' with hb' | hb'
  ·exact cg hb'
  ·exact h b (List.mem_reverse.2 hb')
 ·intro h;have:l.reverse.dropWhile (cs.contains ·)=[]:=ye.2 (fun b hb=>h b (List.mem_reverse.1 hb));rw[this];rfl
theorem Dk(s:ByteArray):(⟨(Lib.trimS s.data.toList pO.data.toList).toArray⟩:ByteArray).toList.isEmpty=(bn s).all ten:=by
 rw[toList_eq,Bool.eq_iff_iff,List.isEmpty_iff,all_eq_true];show Lib.trimS _ _=[]↔_;rw[Dl];unfold bn;constructor
 ·intro h x hx;obtain⟨b,hb,rfl⟩:=List.mem_map.1 hx;rw[<-kR];exact h b hb
 ·intro h b hb;rw[kR];exact h _ (List.mem_map.2 ⟨b,hb,rfl⟩)
theorem Qp{p:List Int}(h:isX p=true):sD p=decide ((num p).2≠8):=by
 unfold sD;have hx:=of_decide_eq_true h
 have:p.all ten=false:=by
  rw[Bool.eq_false_iff];intro ha;match p,hx with
  | [],hx=>simp at hx
  | [a],hx=>simp at hx
  | a::b::r,hx =>
   have h1:=List.all_eq_true.1 ha b (by simp);have h2:=of_decide_eq_true h1;have h3:b=120\/b=88:=by simpa using hx.2.2
   omega
 rw[this,h,Bool.and_false,Bool.false_or,Bool.true_and]
theorem Qq{p:List Int}(h:isX p=false):sD p=(decide (p≠[])&&p.all ten):=by unfold sD;rw[h];simp
theorem Ho(s:ByteArray)(w:World)(hs:s.size<=400000000):
  Calls prog 241 #[.string s] w fun e W'=>e=.returned (.bool (ends (bn s)))/\Below w.heap.size w W':=by
 have HU:=hid (fun W=>eo s W hs);have hus:=pW s;have HE:Hid (ends (bn s)=sD ((spl (bn (me s))).getLast?.getD [])):=by show _=_;unfold ends;rw[Ex,yG]
 obtain⟨U,hU⟩:=Ex' (me s);rw[hU]at HU hus HE;clear hU;have HLI:=hid (fun W=>BF U W (by omega));obtain⟨k,hk,hli,hlp⟩:=BJ U;rw[hli]at HLI;rw[hlp]at HE;clear hli hlp;obtain⟨D,hD⟩:=Ex' (U.extract k U.size);have hDs:D.size<=400000000:=by rw[<-hD];simp;omega
 rw[hD]at HE;have HSX:=hid (fun W=>lL D W hDs);have HNU:=hid (fun W=>dF D W hDs);have HTR:=hid (fun W=>Dm D W hDs);have HTT:=hid (Dk D);have HEX:=hid (Qp (p:=bn D));have HEN:=hid (Qq (p:=bn D));have hkz:(k:Int) - 1+1=(k:Int):=by omega
 have HB:Hid (Below w.heap.size w w):=Below.refl _ _;rw[HE.out];clear HE;show Calls _ _ _ _ fun e W'=>e=.returned (.bool (sD (bn D)))/\_;cases hX:isX (bn D) with
 | true =>
  rw[HEX.out hX];rw[hX]at HSX;unfold jW at HNU;obtain⟨⟨x,y⟩,hxy⟩:∃ p,num (bn D)=p:=⟨_,rfl⟩;rw[hxy]at HNU ⊢;clear HEX HEN hX hxy HTR HTT;go_enter func241,ntmps241
  go_wp2_with(first
    | (go_at_call 267;refine(HU.out _).mono ?_;rintro e w2 ⟨rfl,hw2⟩;obtain rfl:=hw2.symm)
    | (go_at_call 254;refine(HLI.out _).mono ?_;rintro e w2 ⟨rfl,hw2⟩;obtain rfl:=hw2.symm)
    | (go_at_call 268;refine(HSX.out _).mono ?_;rintro e w2 ⟨rfl,hw2⟩;obtain rfl:=hw2.symm)
    | (go_at_call 269;refine(HNU.out _).mono ?_;rintro e w2 ⟨rfl,B2⟩))
  go_ret;exact⟨by rw[<-Ta];rfl,B2⟩
 | false =>
  rw[HEN.out hX];rw[hX]at HSX;rw[<-HTT.out];clear HEX HEN hX HTT HNU;by_cases hd0:D.size=0
  ·have he:D.toList.isEmpty=true:=az D hd0;have hn:decide (bn D≠[])=false:=decide_eq_false (fun h=>h (List.length_eq_zero_iff.1 (by rw[aa];exact hd0)));rw[hn,Bool.false_and];clear hn HTR hd0;go_enter func241,ntmps241
   go_wp2_with(first
     | (go_at_call 267;refine(HU.out _).mono ?_;rintro e w2 ⟨rfl,hw2⟩;obtain rfl:=hw2.symm)
     | (go_at_call 254;refine(HLI.out _).mono ?_;rintro e w2 ⟨rfl,hw2⟩;obtain rfl:=hw2.symm)
     | (go_at_call 268;refine(HSX.out _).mono ?_;rintro e w2 ⟨rfl,hw2⟩;obtain rfl:=hw2.symm))
   go_ret;exact⟨rfl,HB.out⟩
  ·have he:D.toList.isEmpty=false:=aq D (by omega);have hn:decide (bn D≠[])=true:=decide_eq_true (fun h=>hd0 (by rw[<-aa,h];rfl));rw[hn,Bool.true_and];clear hn hd0;obtain⟨T,hT⟩:=Ex' ((⟨(Lib.trimS D.data.toList pO.data.toList).toArray⟩:ByteArray):ByteArray);rw[hT]at HTR ⊢;clear hT;unfold pO at HTR;go_enter func241,ntmps241
   go_wp2_with(first
     | (go_at_call 267;refine(HU.out _).mono ?_;rintro e w2 ⟨rfl,hw2⟩;obtain rfl:=hw2.symm)
     | (go_at_call 254;refine(HLI.out _).mono ?_;rintro e w2 ⟨rfl,hw2⟩;obtain rfl:=hw2.symm)
     | (go_at_call 268;refine(HSX.out _).mono ?_;rintro e w2 ⟨rfl,hw2⟩;obtain rfl:=hw2.symm)
     | (go_at_call 270;refine(HTR.out _).mono ?_;rintro e w2 ⟨rfl,B2⟩))
   go_ret;exact⟨rfl,B2⟩
end F
end Go.Proofs.YtlmflmdmolcfhaaGreatDoor
namespace Go.Proofs
open Go.Shelf Go.RowKit
shelf_lay Lays.n147 Nm 147 at Tryz as Tryz.laysSplN
end Go.Proofs
namespace Go.Proofs.YtlmflmdmolcfhaaGreatDoor
open Tryz Go.RowKit
namespace F
def Max(W:World):Prop:=∃ m:Int,W.cell? ⟨3,0,none⟩=some (.int .i64 m)
theorem Max.below{w w':World}(h:Max w)(hb:Below w.heap.size w w'):Max w':=by obtain⟨m,hm⟩:=h;exact⟨m,(hb.cell (p:=⟨3,0,none⟩) (mz hm)).trans hm⟩
def nn(l:List UInt8):List Int:=l.map fun c=>(c.toNat:Int)
theorem fM{l:List UInt8}:46∈nn l↔46∈l:=by
 unfold nn;rw[List.mem_map];constructor
 ·rintro⟨c,hc,e⟩;have:c=46:=UInt8.toNat_inj.1 (by have h:(46:UInt8).toNat=46:=rfl;omega);rw[<-this];exact hc
 ·intro h;exact⟨46,h,rfl⟩
theorem JR{l:List Int}(h:46∈l):2<=(spl l).length:=by
 obtain⟨a,b,rfl⟩:=List.append_of_mem h;clear h
 induction a with
 | nil =>
  show 2<=(spl (46::b)).length;rw[mo];have:=List.length_pos_iff.2 (bF b);rw[length_cons];omega
 | cons d a ih =>
  show 2<=(spl (d::(a++46::b))).length;rw[spl];split
  ·rw[length_cons];omega
  ·rw[length_cons,List.length_tail];omega
theorem Rv:∀(k:Nat) (l:List UInt8),((spl (nn l)).length<=k+1/\(Lib.splitK [46] 0 k l).map nn=spl (nn l))\/(k+1<(spl (nn l)).length/\(Lib.splitK [46] 0 k l).length=k+1)
 | 0,l=>by
  by_cases h:46∈l
  ·right;have:=JR (fM.2 h);exact⟨by omega,rfl⟩
  ·left;have hs:=cu (nn l) (fun hh=>h (fM.1 hh));rw[hs];exact⟨by simp,rfl⟩
 | k+1,l=>by
  have hge:=Lib.indexByte_ge l 46;have hi1:=Lib.index_one l 46;by_cases hm:Lib.indexByte l 46=-1
  ·left;have hn:=Lib.indexByte_none hm;have h:¬ 46∈l:=fun hh=>by obtain⟨j,hj,e⟩:=List.mem_iff_getElem.1 hh;exact hn j (by rw[getElem?_eq_getElem hj,e])
   have hs:=cu (nn l) (fun hh=>h (fM.1 hh));rw[hs];refine⟨by simp,?_⟩;rw[Lib.splitK,hi1,hm];rfl
  ·obtain⟨i,hi⟩:∃ i:Nat,Lib.indexByte l 46=i:=⟨(Lib.indexByte l 46).toNat,by omega⟩;obtain⟨h1,h2⟩:=Lib.indexByte_some hi;have hil:i<l.length:=(List.getElem?_eq_some_iff.1 h1).1
   have e:l=l.take i++46::l.drop (i+1):=by
    have h5:l.drop i=46::l.drop (i+1):=by rw[drop_eq_getElem_cons hil];rw[getElem?_eq_getElem hil]at h1;rw[Option.some.inj h1]
    rw[<-h5,List.take_append_drop]
   have hn:¬ 46∈l.take i:=fun hh=>by obtain⟨j,hj,e⟩:=List.mem_iff_getElem.1 hh;rw[List.length_take]at hj;rw[List.getElem_take]at e;exact h2 j (by omega) (by rw[getElem?_eq_getElem (by omega),e])
   have es:spl (nn l)=nn (l.take i)::spl (nn (l.drop (i+1))):=by
    conv=>lhs;rw[e]
    rw[show nn (l.take i++46::l.drop (i+1))=nn (l.take i)++46::nn (l.drop (i+1)) by unfold nn;rw[map_append];rfl];exact fW _ _ (fun hh=>hn (fM.1 hh))
   have ek:Lib.splitK [46] 0 (k+1) l=l.take i::Lib.splitK [46] 0 k (l.drop (i+1)):=by rw[Lib.splitK,hi1,hi,if_neg (by simp)];simp
   rw[es,ek];rcases Rv k (l.drop (i+1)) with⟨g1,g2⟩ | ⟨g1,g2⟩
   ·left;exact⟨by rw[length_cons];omega,by rw[map_cons,g2]⟩
   ·right;exact⟨by rw[length_cons];omega,by rw[length_cons,g2]⟩
theorem iq(U:ByteArray)(qs:List ByteArray)(hq:qs=Lib.splitB ⟨#[46]⟩ 0 (min 5 (U.size+1) - 1) U):((spl (bn U)).length<=4/\qs.map bn=spl (bn U))\/(4<(spl (bn U)).length/\4<qs.length):=by
 have hd:=Lib.splitB_data ⟨#[46]⟩ 0 (min 5 (U.size+1) - 1) U;rw[<-hq]at hd
 have hb:qs.map bn=(Lib.splitK [46] 0 (min 5 (U.size+1) - 1) U.data.toList).map nn:=by
  have h2:qs.map bn=(qs.map (·.data.toList)).map nn:=by rw[map_map];rfl
  rw[h2,hd]
 have hl:qs.length=(Lib.splitK [46] 0 (min 5 (U.size+1) - 1) U.data.toList).length:=by
  have:=congrArg List.length hb
  rwa [length_map,length_map]at this
 have hc:=yP (bn U);rw[aa]at hc;rcases Rv (min 5 (U.size+1) - 1) U.data.toList with⟨g1,g2⟩ | ⟨g1,g2⟩
 ·have g1':(spl (bn U)).length<=min 5 (U.size+1) - 1+1:=g1;have g2':qs.map bn=spl (bn U):=hb.trans g2;by_cases h4:(spl (bn U)).length<=4
  ·exact .inl ⟨h4,g2'⟩
  ·right;refine⟨by omega,?_⟩;have:=congrArg List.length g2';rw[length_map]at this;omega
 ·have g1':min 5 (U.size+1) - 1+1<(spl (bn U)).length:=g1;right;rw[hl,g2];omega
theorem jS{done:List ByteArray}{N j:Nat}(h:j<done.length):(Lib.cellsOf done N)[j]? = some (.string (done[j]?.getD ⟨#[]⟩)):=by unfold Lib.cellsOf;rw[List.getElem?_toArray,List.getElem?_append_left (by simpa using h),getElem?_map,getElem?_eq_getElem h];rfl
theorem iQ(w:World)(t:TypeId)(cs:Array Value)(j:Nat):(w.alloc (.cells cs t)).cell? ⟨w.heap.size,j,none⟩=cs[j]? := by have hb:(w.alloc (.cells cs t)).heap[w.heap.size]? = some (.cells cs t):=heap_alloc_new w _;generalize w.alloc (.cells cs t)=W at hb ⊢;simp[World.cell?,hb]
theorem gE(U:ByteArray)(w:World)(hU:U.size<=400000000)(hM:Max w):
  Calls prog 258 #[.string U,.string ⟨#[46]⟩,.int .i64 5] w fun e W'=>(∃(b c:Nat) (qs:List ByteArray),e=.returned (.slice (some ⟨b,0,none⟩) qs.length c)/\(∀ j,j<qs.length->W'.cell? ⟨b,j,none⟩=some (.string (qs[j]?.getD ⟨#[]⟩)))/\(((spl (bn U)).length<=4/\qs.map bn=spl (bn U))\/(4<(spl (bn U)).length/\4<qs.length)))/\Below w.heap.size w W':=by
 obtain⟨m,hm⟩:=hM;have hf:Tryz.laysSplN_ren.f 147=258:=by kernel_rfl
 have hg:Tryz.laysSplN_ren.g 1=3:=by kernel_rfl
 have h:=Any.strings_SplitN Tryz.laysSplN (by kernel_rfl) U ⟨#[46]⟩ 5 m w (by omega) (by rw[hg];exact hm) (by decide) (by decide) (by decide);rw[hf]at h;refine h.mono ?_;rintro e W' ⟨rfl,rfl⟩;refine⟨⟨_,_,_,rfl,fun j hj=>?_,iq U _ rfl⟩,(Below.refl _ w).alloc (le_refl _) _⟩;rw[iQ];exact jS hj
theorem LV{t j:Nat}{xs:List (Nat×Int)}(h:j+1<xs.length):sm j (xs.drop j)=(xs[j]?.getD (0,0)).1 * 256 ^ (3 - j)+sm (j+1) (xs.drop (j+1))/\lg t (xs.drop j)=(decide ((xs[j]?.getD (0,0)).2=4)||decide (255<(xs[j]?.getD (0,0)).1)||lg t (xs.drop (j+1))):=by rw[drop_eq_getElem_cons (by omega:j<xs.length),drop_eq_getElem_cons h,getElem?_eq_getElem (by omega:j<xs.length)];exact⟨rfl,rfl⟩
theorem LW{t j:Nat}{xs:List (Nat×Int)}(h:j+1=xs.length):sm j (xs.drop j)=(xs[j]?.getD (0,0)).1/\lg t (xs.drop j)=(decide ((xs[j]?.getD (0,0)).2=4)||decide (256 ^ (5 - t)<=(xs[j]?.getD (0,0)).1)):=by rw[drop_eq_getElem_cons (by omega:j<xs.length),h,List.drop_length,getElem?_eq_getElem (by omega:j<xs.length)];exact⟨rfl,rfl⟩
theorem lr(s:ByteArray)(w:World)(hs:s.size<=400000000)(hM:Max w):
  Calls prog 271 #[.string s] w fun e W'=>kW (bn s) w e W':=by
 have HUD:=hid (fun W=>eo s W hs);have hus:=pW s;have HPD:Hid (prt (bn s)=spl (bn (me s))):=by show _=_;rw[Ex,yG]
 obtain⟨U,hU⟩:=Ex' (me s);rw[hU]at HUD hus HPD;clear hU;have HSP:=hid (gE U w (by omega) hM);rw[<-HPD.out]at HSP;clear HPD hM;have HRT:Hid (∀(x:Nat) (y:Int) e W,prs (bn s)=(x,y)->e=.returned (.tuple #[.int .u32 x,.int .i64 y])->Below w.heap.size w W->kW (bn s) w e W):=fun x y e W h he hB=>by unfold kW;rw[h];exact⟨he,hB⟩
 go_enter func271,ntmps271
 go_wp2_with(first
   | (go_at_call 267;refine(HUD.out _).mono ?_;rintro e w2 ⟨rfl,hw2⟩;obtain rfl:=hw2.symm))
 refine HSP.out.mono ?_;rintro e w1 ⟨⟨b,c,qs,rfl,hcb,hor⟩,B1⟩;have HB1:=hid B1;clear B1 HSP HUD;rcases hor with⟨h4,hqs⟩ | ⟨h5,h6⟩
 ·have HLN:Hid (((prt (bn s)).map num).length=qs.length):=by show _=_;rw[length_map,<-hqs,length_map]
  have HNM:Hid (∀ i,i<qs.length->((prt (bn s)).map num)[i]?.getD (0,0)=num (bn (qs[i]?.getD ⟨#[]⟩))):=fun i hi=>by rw[<-hqs,getElem?_map,getElem?_map,getElem?_eq_getElem hi];rfl
  have HSZ:Hid (∀ i,i<qs.length->(qs[i]?.getD ⟨#[]⟩).size<=400000000):=fun i hi=>by
   have h1:qs[i]?.getD ⟨#[]⟩∈qs:=by rw[getElem?_eq_getElem hi];exact getElem_mem _
   exact Nat.le_trans (gI hqs h1) hs
  have hl:(prt (bn s)).length=qs.length:=by rw[<-hqs,length_map]
  have HPR:Hid (prs (bn s)=if IY ((prt (bn s)).map num)=true then (0,8) else if lg qs.length ((prt (bn s)).map num)=true then (0,4) else (sm 0 ((prt (bn s)).map num),0)):=by show _=_;unfold prs adr;rw[if_neg (by omega),hl];rfl
  have hq1:0<qs.length:=by
   rw[<-hl];unfold prt;have h1:=List.length_pos_iff.2 (bF (bn s));split
   ·rw[List.length_dropLast];omega
   ·exact h1
  rw[hl]at h4;have HCB:=hid hcb;obtain⟨xs,hxs⟩:=Ex' ((prt (bn s)).map num);rw[hxs]at HLN HNM HPR;obtain⟨t,ht⟩:=Ex' qs.length;rw[ht]at HLN HNM HPR HSZ HCB hq1 h4 ⊢;clear hxs ht hqs hcb hl;have h4z:¬ (4:Int)<(t:Int):=by omega
  have HSM:Hid (lg t xs=false->sm 0 xs<4294967296):=fun h=>by rw[oq]at h;rw[wX];refine qd (by rw[length_map,HLN.out];exact hq1) (by rw[length_map,HLN.out];exact h4) ?_;rw[length_map,HLN.out];exact(Bool.or_eq_false_iff.1 h).2
  go_wp2_with fail
  go_loopw [5,6,20] (fun v5 v6 v20 wr=>∃(j acc:Nat) (g:Bool),j<=t/\acc<=j * 72057594037927936/\v5=.int .u64 (acc:Int)/\v6=.bool g/\v20=.int .i64 (j:Int)/\Hid (IY (xs.take j)=false)/\Hid (lg t xs=(g||lg t (xs.drop j)))/\Hid (sm 0 xs=acc+sm j (xs.drop j))/\Hid (Below w1.heap.size w1 wr)) (fun _ _ v20 _=>t - (intOf v20).toNat)
  case atStart=>exact⟨0,0,false,zero_le _,by omega,rfl,rfl,rfl,rfl,by show _=_;rw[drop_zero];rfl,by show _=_;rw[drop_zero,Nat.zero_add],Below.refl _ _⟩
  case round =>
   obtain⟨j,acc,g,hj,hac,rfl,rfl,rfl,H8,HL,HA,HB⟩:=hrel;have zj:=HB.out.size;by_cases hlt:j<t
   ·have hcw:=HCB.out j hlt;have hcr:wr.cell? ⟨b,j,none⟩=some (.string (qs[j]?.getD ⟨#[]⟩)):=(HB.out.cell (p:=⟨b,j,none⟩) (mz hcw)).trans hcw;have HNU:Hid (Calls prog 269 #[.string (qs[j]?.getD ⟨#[]⟩)] wr fun e W'=>e=.returned (.tuple #[.int .u64 ((num (bn (qs[j]?.getD ⟨#[]⟩))).1:Nat),.int .i64 (num (bn (qs[j]?.getD ⟨#[]⟩))).2])/\Below wr.heap.size wr W'):=dF _ wr (HSZ.out j hlt);have hxi:j<xs.length:=by rw[HLN.out];exact hlt
    have HS8:=hid (IW (p:=fun x=>decide (x.2=8)) xs j hxi);have HAL:Hid ((xs[j]?.getD (0,0)).2=8->IY xs=true):=fun h=>by refine List.any_eq_true.2 ⟨xs[j],getElem_mem hxi,?_⟩;rw[getElem?_eq_getElem hxi]at h;exact decide_eq_true h
    have HMO:=hid (fun h=>LV (t:=t) (xs:=xs) (j:=j) h);have HLS:=hid (fun h=>LW (t:=t) (xs:=xs) (j:=j) h);rw[HLN.out]at HMO HLS;rw[<-HNM.out j hlt]at HNU;have hbd:(xs[j]?.getD (0,0)).1<4294967296:=by rw[HNM.out j hlt];exact PC _
    obtain⟨D,hD⟩:=Ex' (qs[j]?.getD ⟨#[]⟩);rw[hD]at hcr HNU;obtain⟨y,hy⟩:=Ex' (xs[j]?.getD (0,0));rw[hy]at HNU HS8 HAL hbd HMO HLS;obtain⟨x,q⟩:=y;simp only at HNU HS8 HAL hbd HMO HLS;have hltz:(j:Int)<(t:Int):=by omega
    clear hD hy hcw HCB HNM HSZ hxi;by_cases hq8:q=8
    ·have HP:=hid (HPR.out.trans (if_pos (HAL.out hq8)));have hqb:(q==8)=true:=by simpa using hq8
     have HQ8:=hid hq8;clear hq8 HAL HPR HMO HLS HS8 HL HA H8 HSM;go_wp2_with(go_at_call 269;refine HNU.out.mono ?_;rintro e w4 ⟨rfl,B4⟩);go_ret2;exact HRT.out _ _ _ _ HP.out (by rw[HQ8.out];rfl) (HB1.out.trans ((HB.out.trans (B4.mono HB.out.size)).mono HB1.out.size))
    ·have hqb:(q==8)=false:=by simpa using hq8
     have H82:Hid (IY (xs.take (j+1))=false):=by show _=_;unfold IY at H8 ⊢;rw[HS8.out,H8.out];simp[hq8]
     clear HS8 HAL HPR hq8 H8 HSM;by_cases hlast:j+1<t
     ·obtain⟨hs1,hs2⟩:=HMO.out hlast;have HA2:Hid (sm 0 xs=(acc+x * 256 ^ (3 - j))+sm (j+1) (xs.drop (j+1))):=by show _=_;rw[HA.out,hs1];omega
      have HL2:Hid (lg t xs=((g||(decide (q=4)||decide (255<x)))||lg t (xs.drop (j+1)))):=by show _=_;rw[HL.out,hs2];cases g <;> cases decide (q=4) <;> rfl
      have hne:((j:Int)==(t:Int) - 1)=false:=by simp;omega
      clear hs1 hs2 HMO HLS HA HL;obtain rfl | rfl | rfl:j=0\/j=1\/j=2:=by omega
      ·have hsh:acc+x * 256 ^ (3 - 0)=acc+x * 16777216:=rfl;rw[hsh]at HA2;clear hsh;have hac2:acc<=0:=by omega
       clear hac;cases g with
       | true =>
        have HL3:Hid (lg t xs=(true||lg t (xs.drop 1))):=HL2.out;clear HL2;go_wp2_with(go_at_call 269;refine HNU.out.mono ?_;rintro e w4 ⟨rfl,B4⟩)
        go_roundw
        case rel=>exact⟨1,acc+x * 16777216,true,by omega,by omega,by go_num,rfl,by go_num,H82,HL3,HA2,HB.out.trans (B4.mono HB.out.size)⟩
        case measure=>simp[intOf];omega
       | false =>
        by_cases hq4:q=4
        ·have hq4b:(q==4)=true:=by simpa using hq4
         have HL3:Hid (lg t xs=(true||lg t (xs.drop 1))):=by show _=_;rw[HL2.out,decide_eq_true hq4];rfl
         clear HL2 hq4;go_wp2_with(go_at_call 269;refine HNU.out.mono ?_;rintro e w4 ⟨rfl,B4⟩)
         go_roundw
         case rel=>exact⟨1,acc+x * 16777216,true,by omega,by omega,by go_num,rfl,by go_num,H82,HL3,HA2,HB.out.trans (B4.mono HB.out.size)⟩
         case measure=>simp[intOf];omega
        ·have hq4b:(q==4)=false:=by simpa using hq4
         have hdd:decide (255<x)=decide ((0:Int)<(x:Int) / 256):=decide_eq_decide.2 ⟨fun h=>by omega,fun h=>by omega⟩;have HL3:Hid (lg t xs=(decide ((0:Int)<(x:Int) / 256)||lg t (xs.drop 1))):=by show _=_;rw[HL2.out,decide_eq_false hq4,hdd];rfl
         clear HL2 hq4 hdd;go_wp2_with(go_at_call 269;refine HNU.out.mono ?_;rintro e w4 ⟨rfl,B4⟩)
         go_roundw
         case rel=>exact⟨1,acc+x * 16777216,decide ((0:Int)<(x:Int) / 256),by omega,by omega,by go_num,rfl,by go_num,H82,HL3,HA2,HB.out.trans (B4.mono HB.out.size)⟩
         case measure=>simp[intOf];omega
      ·have hsh:acc+x * 256 ^ (3 - 1)=acc+x * 65536:=rfl;rw[hsh]at HA2;clear hsh;have hac2:acc<=72057594037927936:=by omega
       clear hac;cases g with
       | true =>
        have HL3:Hid (lg t xs=(true||lg t (xs.drop 2))):=HL2.out;clear HL2;go_wp2_with(go_at_call 269;refine HNU.out.mono ?_;rintro e w4 ⟨rfl,B4⟩)
        go_roundw
        case rel=>exact⟨2,acc+x * 65536,true,by omega,by omega,by go_num,rfl,by go_num,H82,HL3,HA2,HB.out.trans (B4.mono HB.out.size)⟩
        case measure=>simp[intOf];omega
       | false =>
        by_cases hq4:q=4
        ·have hq4b:(q==4)=true:=by simpa using hq4
         have HL3:Hid (lg t xs=(true||lg t (xs.drop 2))):=by show _=_;rw[HL2.out,decide_eq_true hq4];rfl
         clear HL2 hq4;go_wp2_with(go_at_call 269;refine HNU.out.mono ?_;rintro e w4 ⟨rfl,B4⟩)
         go_roundw
         case rel=>exact⟨2,acc+x * 65536,true,by omega,by omega,by go_num,rfl,by go_num,H82,HL3,HA2,HB.out.trans (B4.mono HB.out.size)⟩
         case measure=>simp[intOf];omega
        ·have hq4b:(q==4)=false:=by simpa using hq4
         have hdd:decide (255<x)=decide ((0:Int)<(x:Int) / 256):=decide_eq_decide.2 ⟨fun h=>by omega,fun h=>by omega⟩;have HL3:Hid (lg t xs=(decide ((0:Int)<(x:Int) / 256)||lg t (xs.drop 2))):=by show _=_;rw[HL2.out,decide_eq_false hq4,hdd];rfl
         clear HL2 hq4 hdd;go_wp2_with(go_at_call 269;refine HNU.out.mono ?_;rintro e w4 ⟨rfl,B4⟩)
         go_roundw
         case rel=>exact⟨2,acc+x * 65536,decide ((0:Int)<(x:Int) / 256),by omega,by omega,by go_num,rfl,by go_num,H82,HL3,HA2,HB.out.trans (B4.mono HB.out.size)⟩
         case measure=>simp[intOf];omega
      ·have hsh:acc+x * 256 ^ (3 - 2)=acc+x * 256:=rfl;rw[hsh]at HA2;clear hsh;have hac2:acc<=144115188075855872:=by omega
       clear hac;cases g with
       | true =>
        have HL3:Hid (lg t xs=(true||lg t (xs.drop 3))):=HL2.out;clear HL2;go_wp2_with(go_at_call 269;refine HNU.out.mono ?_;rintro e w4 ⟨rfl,B4⟩)
        go_roundw
        case rel=>exact⟨3,acc+x * 256,true,by omega,by omega,by go_num,rfl,by go_num,H82,HL3,HA2,HB.out.trans (B4.mono HB.out.size)⟩
        case measure=>simp[intOf];omega
       | false =>
        by_cases hq4:q=4
        ·have hq4b:(q==4)=true:=by simpa using hq4
         have HL3:Hid (lg t xs=(true||lg t (xs.drop 3))):=by show _=_;rw[HL2.out,decide_eq_true hq4];rfl
         clear HL2 hq4;go_wp2_with(go_at_call 269;refine HNU.out.mono ?_;rintro e w4 ⟨rfl,B4⟩)
         go_roundw
         case rel=>exact⟨3,acc+x * 256,true,by omega,by omega,by go_num,rfl,by go_num,H82,HL3,HA2,HB.out.trans (B4.mono HB.out.size)⟩
         case measure=>simp[intOf];omega
        ·have hq4b:(q==4)=false:=by simpa using hq4
         have hdd:decide (255<x)=decide ((0:Int)<(x:Int) / 256):=decide_eq_decide.2 ⟨fun h=>by omega,fun h=>by omega⟩;have HL3:Hid (lg t xs=(decide ((0:Int)<(x:Int) / 256)||lg t (xs.drop 3))):=by show _=_;rw[HL2.out,decide_eq_false hq4,hdd];rfl
         clear HL2 hq4 hdd;go_wp2_with(go_at_call 269;refine HNU.out.mono ?_;rintro e w4 ⟨rfl,B4⟩)
         go_roundw
         case rel=>exact⟨3,acc+x * 256,decide ((0:Int)<(x:Int) / 256),by omega,by omega,by go_num,rfl,by go_num,H82,HL3,HA2,HB.out.trans (B4.mono HB.out.size)⟩
         case measure=>simp[intOf];omega
     ·have hjt:j+1=t:=by omega
      obtain⟨hs1,hs2⟩:=HLS.out hjt;have HA2:Hid (sm 0 xs=(acc+x)+sm (j+1) (xs.drop (j+1))):=by show _=_;have he:xs.drop (j+1)=[]:=List.drop_eq_nil_of_le (by rw[HLN.out];omega);rw[HA.out,hs1,he];rfl
      have HL2:Hid (lg t xs=((g||(decide (q=4)||decide (256 ^ (5 - t)<=x)))||lg t (xs.drop (j+1)))):=by show _=_;have he:xs.drop (j+1)=[]:=List.drop_eq_nil_of_le (by rw[HLN.out];omega);rw[HL.out,hs2,he];show _=(_||false);rw[Bool.or_false]
      have he5:5 - t=4 - j:=by omega
      rw[he5]at HL2;have hne:((j:Int)==(t:Int) - 1)=true:=by simp;omega
      clear hs1 hs2 HMO HLS HA HL he5 hjt;obtain rfl | rfl | rfl | rfl:j=0\/j=1\/j=2\/j=3:=by omega
      ·have hsh:acc+x=acc+x:=rfl;rw[hsh]at HA2;clear hsh;have hac2:acc<=0:=by omega
       clear hac;cases g with
       | true =>
        have HL3:Hid (lg t xs=(true||lg t (xs.drop 1))):=HL2.out;clear HL2;go_wp2_with(go_at_call 269;refine HNU.out.mono ?_;rintro e w4 ⟨rfl,B4⟩)
        go_roundw
        case rel=>exact⟨1,acc+x,true,by omega,by omega,by go_num,rfl,by go_num,H82,HL3,HA2,HB.out.trans (B4.mono HB.out.size)⟩
        case measure=>simp[intOf];omega
       | false =>
        by_cases hq4:q=4
        ·have hq4b:(q==4)=true:=by simpa using hq4
         have HL3:Hid (lg t xs=(true||lg t (xs.drop 1))):=by show _=_;rw[HL2.out,decide_eq_true hq4];rfl
         clear HL2 hq4;go_wp2_with(go_at_call 269;refine HNU.out.mono ?_;rintro e w4 ⟨rfl,B4⟩)
         go_roundw
         case rel=>exact⟨1,acc+x,true,by omega,by omega,by go_num,rfl,by go_num,H82,HL3,HA2,HB.out.trans (B4.mono HB.out.size)⟩
         case measure=>simp[intOf];omega
        ·have hq4b:(q==4)=false:=by simpa using hq4
         have hdd:decide (256 ^ (4 - 0)<=x)=decide ((0:Int)<(x:Int) / 4294967296):=decide_eq_decide.2 ⟨fun h=>by omega,fun h=>by omega⟩;have HL3:Hid (lg t xs=(decide ((0:Int)<(x:Int) / 4294967296)||lg t (xs.drop 1))):=by show _=_;rw[HL2.out,decide_eq_false hq4,hdd];rfl
         clear HL2 hq4 hdd;go_wp2_with(go_at_call 269;refine HNU.out.mono ?_;rintro e w4 ⟨rfl,B4⟩)
         go_roundw
         case rel=>exact⟨1,acc+x,decide ((0:Int)<(x:Int) / 4294967296),by omega,by omega,by go_num,rfl,by go_num,H82,HL3,HA2,HB.out.trans (B4.mono HB.out.size)⟩
         case measure=>simp[intOf];omega
      ·have hsh:acc+x=acc+x:=rfl;rw[hsh]at HA2;clear hsh;have hac2:acc<=72057594037927936:=by omega
       clear hac;cases g with
       | true =>
        have HL3:Hid (lg t xs=(true||lg t (xs.drop 2))):=HL2.out;clear HL2;go_wp2_with(go_at_call 269;refine HNU.out.mono ?_;rintro e w4 ⟨rfl,B4⟩)
        go_roundw
        case rel=>exact⟨2,acc+x,true,by omega,by omega,by go_num,rfl,by go_num,H82,HL3,HA2,HB.out.trans (B4.mono HB.out.size)⟩
        case measure=>simp[intOf];omega
       | false =>
        by_cases hq4:q=4
        ·have hq4b:(q==4)=true:=by simpa using hq4
         have HL3:Hid (lg t xs=(true||lg t (xs.drop 2))):=by show _=_;rw[HL2.out,decide_eq_true hq4];rfl
         clear HL2 hq4;go_wp2_with(go_at_call 269;refine HNU.out.mono ?_;rintro e w4 ⟨rfl,B4⟩)
         go_roundw
         case rel=>exact⟨2,acc+x,true,by omega,by omega,by go_num,rfl,by go_num,H82,HL3,HA2,HB.out.trans (B4.mono HB.out.size)⟩
         case measure=>simp[intOf];omega
        ·have hq4b:(q==4)=false:=by simpa using hq4
         have hdd:decide (256 ^ (4 - 1)<=x)=decide ((0:Int)<(x:Int) / 16777216):=decide_eq_decide.2 ⟨fun h=>by omega,fun h=>by omega⟩;have HL3:Hid (lg t xs=(decide ((0:Int)<(x:Int) / 16777216)||lg t (xs.drop 2))):=by show _=_;rw[HL2.out,decide_eq_false hq4,hdd];rfl
         clear HL2 hq4 hdd;go_wp2_with(go_at_call 269;refine HNU.out.mono ?_;rintro e w4 ⟨rfl,B4⟩)
         go_roundw
         case rel=>exact⟨2,acc+x,decide ((0:Int)<(x:Int) / 16777216),by omega,by omega,by go_num,rfl,by go_num,H82,HL3,HA2,HB.out.trans (B4.mono HB.out.size)⟩
         case measure=>simp[intOf];omega
      ·have hsh:acc+x=acc+x:=rfl;rw[hsh]at HA2;clear hsh;have hac2:acc<=144115188075855872:=by omega
       clear hac;cases g with
       | true =>
        have HL3:Hid (lg t xs=(true||lg t (xs.drop 3))):=HL2.out;clear HL2;go_wp2_with(go_at_call 269;refine HNU.out.mono ?_;rintro e w4 ⟨rfl,B4⟩)
        go_roundw
        case rel=>exact⟨3,acc+x,true,by omega,by omega,by go_num,rfl,by go_num,H82,HL3,HA2,HB.out.trans (B4.mono HB.out.size)⟩
        case measure=>simp[intOf];omega
       | false =>
        by_cases hq4:q=4
        ·have hq4b:(q==4)=true:=by simpa using hq4
         have HL3:Hid (lg t xs=(true||lg t (xs.drop 3))):=by show _=_;rw[HL2.out,decide_eq_true hq4];rfl
         clear HL2 hq4;go_wp2_with(go_at_call 269;refine HNU.out.mono ?_;rintro e w4 ⟨rfl,B4⟩)
         go_roundw
         case rel=>exact⟨3,acc+x,true,by omega,by omega,by go_num,rfl,by go_num,H82,HL3,HA2,HB.out.trans (B4.mono HB.out.size)⟩
         case measure=>simp[intOf];omega
        ·have hq4b:(q==4)=false:=by simpa using hq4
         have hdd:decide (256 ^ (4 - 2)<=x)=decide ((0:Int)<(x:Int) / 65536):=decide_eq_decide.2 ⟨fun h=>by omega,fun h=>by omega⟩;have HL3:Hid (lg t xs=(decide ((0:Int)<(x:Int) / 65536)||lg t (xs.drop 3))):=by show _=_;rw[HL2.out,decide_eq_false hq4,hdd];rfl
         clear HL2 hq4 hdd;go_wp2_with(go_at_call 269;refine HNU.out.mono ?_;rintro e w4 ⟨rfl,B4⟩)
         go_roundw
         case rel=>exact⟨3,acc+x,decide ((0:Int)<(x:Int) / 65536),by omega,by omega,by go_num,rfl,by go_num,H82,HL3,HA2,HB.out.trans (B4.mono HB.out.size)⟩
         case measure=>simp[intOf];omega
      ·have hsh:acc+x=acc+x:=rfl;rw[hsh]at HA2;clear hsh;have hac2:acc<=216172782113783808:=by omega
       clear hac;cases g with
       | true =>
        have HL3:Hid (lg t xs=(true||lg t (xs.drop 4))):=HL2.out;clear HL2;go_wp2_with(go_at_call 269;refine HNU.out.mono ?_;rintro e w4 ⟨rfl,B4⟩)
        go_roundw
        case rel=>exact⟨4,acc+x,true,by omega,by omega,by go_num,rfl,by go_num,H82,HL3,HA2,HB.out.trans (B4.mono HB.out.size)⟩
        case measure=>simp[intOf];omega
       | false =>
        by_cases hq4:q=4
        ·have hq4b:(q==4)=true:=by simpa using hq4
         have HL3:Hid (lg t xs=(true||lg t (xs.drop 4))):=by show _=_;rw[HL2.out,decide_eq_true hq4];rfl
         clear HL2 hq4;go_wp2_with(go_at_call 269;refine HNU.out.mono ?_;rintro e w4 ⟨rfl,B4⟩)
         go_roundw
         case rel=>exact⟨4,acc+x,true,by omega,by omega,by go_num,rfl,by go_num,H82,HL3,HA2,HB.out.trans (B4.mono HB.out.size)⟩
         case measure=>simp[intOf];omega
        ·have hq4b:(q==4)=false:=by simpa using hq4
         have hdd:decide (256 ^ (4 - 3)<=x)=decide ((0:Int)<(x:Int) / 256):=decide_eq_decide.2 ⟨fun h=>by omega,fun h=>by omega⟩;have HL3:Hid (lg t xs=(decide ((0:Int)<(x:Int) / 256)||lg t (xs.drop 4))):=by show _=_;rw[HL2.out,decide_eq_false hq4,hdd];rfl
         clear HL2 hq4 hdd;go_wp2_with(go_at_call 269;refine HNU.out.mono ?_;rintro e w4 ⟨rfl,B4⟩)
         go_roundw
         case rel=>exact⟨4,acc+x,decide ((0:Int)<(x:Int) / 256),by omega,by omega,by go_num,rfl,by go_num,H82,HL3,HA2,HB.out.trans (B4.mono HB.out.size)⟩
         case measure=>simp[intOf];omega
   ·obtain rfl:j=t:=by omega
    have he:xs.drop j=[]:=List.drop_eq_nil_of_le (by rw[HLN.out];exact le_refl _);have ht:xs.take j=xs:=List.take_of_length_le (by rw[HLN.out];exact le_refl _);rw[ht]at H8;rw[he]at HL HA;have HL2:Hid (lg j xs=g):=by show _=_;rw[HL.out];exact Bool.or_false _
    have HA2:Hid (sm 0 xs=acc):=by show _=_;rw[HA.out];rfl
    have HP:=hid (HPR.out.trans (if_neg (by rw[H8.out];simp)));rw[HL2.out,HA2.out]at HP;rw[HL2.out,HA2.out]at HSM;have hltz:¬ (j:Int)<(j:Int):=by omega
    clear he ht H8 HL HA HPR HL2 HA2 HCB HNM HSZ HLN;cases g with
    | true =>
     have HP2:=hid (HP.out.trans (if_pos rfl));clear HP HSM;go_wp2;go_ret2;exact HRT.out _ _ _ _ HP2.out rfl (HB1.out.trans (HB.out.mono HB1.out.size))
    | false =>
     have HP2:=hid (HP.out.trans (if_neg (by simp)));have hsm:=HSM.out rfl;clear HP HSM hac;go_wp2;go_ret2;exact HRT.out _ _ _ _ HP2.out rfl (HB1.out.trans (HB.out.mono HB1.out.size))
 ·have h4z:(4:Int)<(qs.length:Int):=by omega
  have HP:Hid (prs (bn s)=(0,8)):=by show _=_;unfold prs adr;rw[if_pos h5]
  clear h5 h6 hcb;go_wp2;go_ret2;exact HRT.out _ _ _ _ HP.out rfl HB1.out
end F
end Go.Proofs.YtlmflmdmolcfhaaGreatDoor
namespace Go.Proofs
open Go.Shelf Go.RowKit
shelf_lay LaysPu.n14 Mp 14 at Tryz as Tryz.laysPu
end Go.Proofs
namespace Go.Proofs.YtlmflmdmolcfhaaGreatDoor
open Tryz Go.RowKit
namespace X
open F (hx vl mi bn aa bz cj hid aq)
theorem si:∀ c:Fin 256,(65<=c.val/\c.val<=70->c.val ||| 32=c.val+32)/\(97<=c.val/\c.val<=102->c.val ||| 32=c.val)/\(97<=c.val ||| 32/\c.val ||| 32<=102->(97<=c.val/\c.val<=102)\/(65<=c.val/\c.val<=70))/\c.val ||| 32<=255:=by decide +kernel
theorem By(c:Int)(h0:0<=c)(h1:c<=255):∃ d:Int,bits .or .u8 c 32=d/\0<=d/\d<=255/\(65<=c/\c<=70->d=c+32)/\(97<=c/\c<=102->d=c)/\(97<=d/\d<=102->(97<=c/\c<=102)\/(65<=c/\c<=70)):=by
 obtain⟨n,rfl⟩:∃ n:Nat,c=(n:Int):=⟨c.toNat,by omega⟩;have h:=si ⟨n,by omega⟩;simp only at h;refine⟨((n ||| 32:Nat):Int),u8_or_nat n 32 (by omega) (by omega),by omega,by omega,fun q=>?_,fun q=>?_,fun q=>?_⟩
 ·have:=h.1 (by omega);omega
 ·have:=h.2.1 (by omega);omega
 ·have:=h.2.2.1 (by omega);omega
theorem sj(c d:Int)(h:bits .or .u8 c 32=d)(w:World):Calls prog 180 #[.int .u8 c] w fun e w'=>e=.returned (.int .u8 d)/\w'=w:=by subst h;go_enter func180,ntmps180;go_wp2;go_ret;exact⟨rfl,rfl⟩
def uT(l:List Int):Value:=if l.all hxd=true then .tuple #[.int .u64 (vl 16 l),.nilIface] else .tuple #[.int .u64 0,.iface 192 (.int .i64 2)]
def wQ(k a:Nat):Prop:=(k=0/\a<=0)\/(k=1/\a<=15)\/(k=2/\a<=255)\/(k=3/\a<=4095)\/(k=4/\a<=65535)
theorem AF{k a d:Nat}(h:wQ k a)(hk:k<4)(hd:d<=15):wQ (k+1) (a * 16+d)/\a<=4095:=by unfold wQ at *;omega
theorem pX(l:List Int)(k:Nat)(h:k<l.length):l.take (k+1)=l.take k++[l[k]?.getD 0]:=by rw[List.take_add_one,getElem?_eq_getElem h];rfl
def kX(l:List Int)(k acc:Nat):Prop:=(l.take k).all hxd=true/\vl 16 (l.take k)=acc
theorem kX.step{l:List Int}{k acc:Nat}{c:Int}(h:kX l k acc)(hk:k<l.length)(hc:l[k]?.getD 0=c)(hx0:0<=hx c):kX l (k+1) (acc * 16+(hx c).toNat):=by unfold kX at *;rw[pX l k hk,hc,mi,List.all_append,h.1,h.2];refine⟨?_,rfl⟩;simp[hxd,hx0]
theorem kX.bad{l:List Int}{k acc:Nat}{c:Int}(h:kX l k acc)(hk:k<l.length)(hc:l[k]?.getD 0=c)(hx0:¬ 0<=hx c):uT l=.tuple #[.int .u64 0,.iface 192 (.int .i64 2)]:=by
 unfold uT;rw[if_neg];intro ha;rw[all_eq_true]at ha;have hm:c∈l:=by rw[getElem?_eq_getElem hk]at hc;exact hc ▸ getElem_mem hk
 have:=ha c hm;unfold hxd at this;exact hx0 (of_decide_eq_true this)
theorem kX.all{l:List Int}{acc:Nat}(h:kX l l.length acc):uT l=.tuple #[.int .u64 acc,.nilIface]:=by unfold kX at h;rw[List.take_length]at h;unfold uT;rw[if_pos h.1,h.2]
theorem GC{c:Int}(h:48<=c/\c<=57):hx c=c - 48:=by unfold hx;rw[if_pos h]
theorem GB{c:Int}(h:97<=c/\c<=102):hx c=c - 87:=by unfold hx;rw[if_neg (by omega),if_pos h]
theorem xQ{c:Int}(h:65<=c/\c<=70):hx c=c - 55:=by unfold hx;rw[if_neg (by omega),if_neg (by omega),if_pos h]
theorem Mo{c:Int}(h1:¬ (48<=c/\c<=57))(h2:¬ (97<=c/\c<=102))(h3:¬ (65<=c/\c<=70)):¬ 0<=hx c:=by unfold hx;rw[if_neg h1,if_neg h2,if_neg h3];decide
theorem qt(t:ByteArray)(hne:t.size≠0)(h4:t.size<=4)(w:World):
  Calls prog 139 #[.string t,.int .i64 16,.int .i64 16] w fun e w'=>e=.returned (uT (bn t))/\Below w.heap.size w w':=by
 have hemp:=aq t (by omega);have hcv:=Lib.run_convert_string_bytes (P:=prog) w 9 42 5 t (u:=.string) underlying9 underlying42 underlying5;have hB:∀ j,j<t.size->(Lib.bytesWorld w 5 t).cell? ⟨w.heap.size,j,none⟩=some (.int .u8 ((bn t)[j]?.getD 0)):=fun j hj=>by rw[Lib.bytesWorld_cell w 5 t j hj,bz t j hj];congr 2;have h5:j<t.data.size:=hj;simp only[List.getD,Array.getElem?_toList,Array.getElem?_eq_getElem h5,getD_some];rfl
 have hBel:Below w.heap.size w (Lib.bytesWorld w 5 t):=⟨rfl,rfl,rfl,by rw[Lib.bytesWorld_size];omega,fun k hk=>Lib.bytesWorld_at_old w 5 t k hk⟩;obtain⟨W1,hW1⟩:∃ W1,W1=Lib.bytesWorld w 5 t:=⟨_,rfl⟩;rw[<-hW1]at hcv hB hBel;clear hW1;have hmv:IntKind.u64.wrap (IntKind.u64.wrap 65536 - 1)=65535:=by rw[wrap_u64,wrap_u64];decide
 have hbl:=aa t;have HBL:=hid hBel;have HLN:=hid hbl;clear hBel hbl;go_enter func139,ntmps139;go_wp2
 go_loop [12,13,101] (fun vu vn vi=>∃(k acc:Nat) (a:Int),vu=.bool false/\vn=.int .u64 a/\vi=.int .i64 k/\k<=t.size/\Hid (a=(acc:Int)/\wQ k acc/\kX (bn t) k acc))
  (fun _ _ vi=>t.size - (intOf vi).toNat)
 case atStart=>exact⟨0,0,0,rfl,rfl,rfl,by omega,rfl,.inl ⟨rfl,by omega⟩,by unfold kX;exact⟨rfl,rfl⟩⟩
 case round =>
  obtain⟨k,acc,a,rfl,rfl,rfl,hk,hh⟩:=hrel;obtain⟨ha,hsz,hdig⟩:=hh.out;clear hh;by_cases hkn:k<t.size
  ·have hc:=hB k hkn;have hcb:=cj hkn;have hkl:k<(bn t).length:=by rw[HLN.out];exact hkn
   obtain⟨c,hcc⟩:=Ex' ((bn t)[k]?.getD 0);rw[hcc]at hc hcb;obtain⟨c0,c1⟩:=hcb;have hst:=fun(d:Nat) (hd:d<=15)=>AF (d:=d) hsz (by omega) hd;have a1:a<=4095:=by have:=(hst 0 (by omega)).2;omega
   have a0:0<=a:=by omega
   by_cases hd:48<=c/\c<=57
   ·have hxc:=GC hd;have hN:=hdig.step hkl hcc (by omega);have HN:Hid (a * 16+(c - 48)=((acc * 16+(hx c).toNat:Nat):Int)/\wQ (k+1) (acc * 16+(hx c).toNat)/\kX (bn t) (k+1) (acc * 16+(hx c).toNat)):=hid ⟨by omega,(hst _ (by omega)).1,hN⟩;obtain⟨d0,d1⟩:=hd;have iov:a * 16+(c - 48)<=65535:=by omega
    clear hN hxc hst hdig hsz ha hcc hkl hB;go_wp2;refine⟨⟨k+1,_,a * 16+(c - 48),rfl,(by first | rfl | (congr 1;omega)),(by first | rfl | (congr 1;omega)),by omega,HN⟩,by simp[intOf];omega⟩
   ·obtain⟨d,hor,e0,e1,l1,l2,l3⟩:=By c c0 c1;by_cases hl:97<=d/\d<=102
    ·have hxc:hx c=d - 87:=by
      rcases l3 hl with q | q
      ·rw[GB q,l2 q]
      ·rw[xQ q,l1 q];omega
     have hN:=hdig.step hkl hcc (by omega);have HN:Hid (a * 16+(d - 97+10)=((acc * 16+(hx c).toNat:Nat):Int)/\wQ (k+1) (acc * 16+(hx c).toNat)/\kX (bn t) (k+1) (acc * 16+(hx c).toNat)):=hid ⟨by omega,(hst _ (by omega)).1,hN⟩;obtain⟨d0,d1⟩:=hl;have iov:a * 16+(d - 97+10)<=65535:=by omega
     have hnu:c≠95:=by intro e;rcases l3 ⟨d0,d1⟩ with q | q <;> omega
     have hnd:c<48\/57<c:=by omega
     have HOR:=hid hor;clear hN hxc hst hdig hsz ha hcc hkl hB l1 l2 l3 hor hd;rcases hnd with hnd | hnd
     all_goals
      go_wp2_with(go_at_call 180;refine(sj c d HOR.out _).mono ?_;rintro e w' ⟨rfl,rfl⟩);refine⟨⟨k+1,_,a * 16+(d - 97+10),rfl,(by first | rfl | (congr 1;omega)),(by first | rfl | (congr 1;omega)),by omega,HN⟩,by simp[intOf];omega⟩
    ·have hbad:=hdig.bad hkl hcc (Mo hd (fun q=>hl (by rw[l2 q];exact q)) (fun q=>hl (by rw[l1 q];omega)));have HBAD:=hid hbad;have HOR:=hid hor;have hnd:c<48\/57<c:=by omega
     have hnl:d<97\/102<d:=by omega
     clear hbad hst hdig hsz ha hcc hkl hB l1 l2 l3 hor hd hl;by_cases h95:c=95
     ·subst h95;rcases hnl with hnl | hnl
      all_goals
       go_wp2_with(go_at_call 180;refine(sj 95 d HOR.out _).mono ?_;rintro e w' ⟨rfl,rfl⟩);all_goals go_ret2
       all_goals exact⟨by rw[HBAD.out] <;> rfl,HBL.out⟩
     ·rcases hnd with hnd | hnd <;> rcases hnl with hnl | hnl
      all_goals
       go_wp2_with(go_at_call 180;refine(sj c d HOR.out _).mono ?_;rintro e w' ⟨rfl,rfl⟩);all_goals go_ret2
       all_goals exact⟨by rw[HBAD.out] <;> rfl,HBL.out⟩
  ·have hkk:k=t.size:=by omega
   subst hkk;have hfin:=kX.all (l:=bn t) (acc:=acc) (by rw[HLN.out];exact hdig);have HFIN:=hid hfin;subst ha;have a1:acc<=65535:=by unfold wQ at hsz;omega
   clear hfin hdig hsz hB;go_wp2;go_ret2;exact⟨by rw[HFIN.out] <;> rfl,HBL.out⟩
theorem lO(w:World):Calls prog 139 #[.string ⟨#[]⟩,.int .i64 16,.int .i64 16] w fun e w'=>e=.returned (.tuple #[.int .u64 0,.iface 192 (.int .i64 2)])/\w'=w:=by go_enter func139,ntmps139;go_wp2;go_ret2;exact⟨rfl,rfl⟩
open F (hx iI vl bn aa ak)
def Rc(ev:Value):Prop:=ev=.nilIface\/∃ te pe,ev=.iface te pe
def Er(w:World):Prop:=(∃ ev,w.cell? ⟨5,0,none⟩=some ev/\Rc ev)/\(∃ ev,w.cell? ⟨6,0,none⟩=some ev/\Rc ev)
theorem Er.below{w w':World}(h:Er w)(hb:Below w.heap.size w w'):Er w':=by obtain⟨⟨a,h1,h2⟩,⟨b,h3,h4⟩⟩:=h;exact⟨⟨a,(hb.cell (p:=⟨5,0,none⟩) (Lib.lt_of_cell h1)).trans h1,h2⟩,⟨b,(hb.cell (p:=⟨6,0,none⟩) (Lib.lt_of_cell h3)).trans h3,h4⟩⟩
theorem kZ(t:ByteArray)(hs:t.size<=1000000000)(b c:Int)(w:World)(hE:Er w):Calls prog 140 #[.string ⟨#[80,97,114,115,101,85,105,110,116]⟩,.string t,.int .i64 b,.int .i64 c,.iface 192 (.int .i64 2)] w fun e w'=>(∃ T p,e=.returned (.iface T p))/\Below w.heap.size w w':=by
 obtain⟨⟨ev,h1,h2⟩,_⟩:=hE;have heq:∀ W,(binOp .eql 74 (.iface 192 (.int .i64 2)) (.iface 192 (.int .i64 2))).run prog W=.ok (.bool true) W:=fun W=>Lib.run_eql_iface_int W 2 2 underlying74 (by kernel_rfl) underlying192;have HSX:Hid (Calls prog 182 #[.string ⟨#[80,97,114,115,101,85,105,110,116]⟩,.string t] w fun e w'=>(∃ N,e=.returned (.pointer (some ⟨N,0,none⟩)))/\Below w.heap.size w w'):=by have hq:=AnyPu.strconv_syntaxError { Tryz.laysPu with } ⟨#[80,97,114,115,101,85,105,110,116]⟩ t ev w (by omega) h1 h2;refine Calls.mono (show Calls prog 182 #[.string ⟨#[80,97,114,115,101,85,105,110,116]⟩,.string t] w _ from hq) ?_;rintro e w' ⟨N,rfl,_,_,h⟩;exact⟨⟨N,rfl⟩,h⟩
 clear h1 h2;go_enter func140,ntmps140;go_wp2_with fail;refine HSX.out.mono ?_;rintro e w2 ⟨⟨N,rfl⟩,h3⟩;go_wp2;go_ret;exact⟨⟨_,_,rfl⟩,h3⟩
theorem qI:∀(l:List Int) (x:Nat),l.foldl (fun n c=>n * 16+(hx c).toNat) x<(x+1) * 16 ^ l.length
 | [],x=>by simp
 | c::l,x=>by
  have ih:=qI l (x * 16+(hx c).toNat);have hc:=iI c;have h1:(x * 16+(hx c).toNat+1) * 16 ^ l.length<=((x+1) * 16) * 16 ^ l.length:=Nat.mul_le_mul_right _ (by omega);have e:(x+1) * 16 ^ (c::l).length=((x+1) * 16) * 16 ^ l.length:=by rw[length_cons,Nat.pow_succ,Nat.mul_assoc,Nat.mul_comm 16]
  rw[foldl_cons,e];omega
theorem Jv(l:List Int):vl 16 l<16 ^ l.length:=by have:=qI l 0;unfold vl;omega
theorem NR{l:List Int}{v:Nat}(h:pc l=some v):uT l=.tuple #[.int .u64 v,.nilIface]/\l≠[]/\l.length<=4/\v<65536:=by
 unfold pc at h;split at h
 ·rename_i hh;cases h;refine⟨by unfold uT;rw[if_pos hh.2.2],fun e=>by rw[e]at hh;simp at hh,hh.2.1,?_⟩;have hb:=Jv;have h2:=hb l;have h3:(16:Nat) ^ l.length<=16 ^ 4:=Nat.pow_le_pow_right (by decide) hh.2.1;have h4:(16:Nat) ^ 4=65536:=rfl;omega
 ·cases h
theorem RJ{l:List Int}(h:pc l=none):l=[]\/4<l.length\/uT l=.tuple #[.int .u64 0,.iface 192 (.int .i64 2)]:=by
 unfold pc at h;split at h
 ·cases h
 ·rename_i hh;by_cases h1:l=[]
  ·exact .inl h1
  ·by_cases h2:4<l.length
   ·exact .inr (.inl h2)
   ·right;right;unfold uT;rw[if_neg];intro h3;have:=List.length_pos_iff.2 h1;exact hh ⟨by omega,by omega,h3⟩
theorem Kv(t:ByteArray)(v:Nat)(h:pc (bn t)=some v)(w:World):Calls prog 96 #[.string t,.int .i64 16,.int .i64 16] w fun e W'=>e=.returned (.tuple #[.int .u64 v,.nilIface])/\Below w.heap.size w W':=by obtain⟨h1,h2,h3,_⟩:=NR h;have hl:=aa t;have hne:t.size≠0:=fun e=>h2 (List.eq_nil_of_length_eq_zero (by omega));have hI:=qt t hne (by omega) w;rw[h1]at hI;clear h h1 h2 h3 hl;go_enter func96,ntmps96;go_wp2_with fail;refine hI.mono ?_;rintro e w1 ⟨rfl,hb⟩;go_wp2;go_ret2;exact⟨rfl,hb⟩
theorem rR(t:ByteArray)(h:pc (bn t)=none)(h4:t.size<=4)(w:World)(hE:Er w):Calls prog 96 #[.string t,.int .i64 16,.int .i64 16] w fun e W'=>(∃ T p,e=.returned (.tuple #[.int .u64 0,.iface T p]))/\Below w.heap.size w W':=by
 have hl:=aa t
 have hI:Calls prog 139 #[.string t,.int .i64 16,.int .i64 16] w fun e w'=>e=.returned (.tuple #[.int .u64 0,.iface 192 (.int .i64 2)])/\Below w.heap.size w w':=by
  rcases RJ h with h1 | h1 | h1
  ·have:t=⟨#[]⟩:=ak (by rw[h1];rfl);subst this;exact(lO w).mono (by rintro e w' ⟨rfl,rfl⟩;exact⟨rfl,Below.refl _ _⟩)
  ·omega
  ·by_cases h0:t.size=0
   ·have:t=⟨#[]⟩:=ak (by rw[List.eq_nil_of_length_eq_zero (by omega:(bn t).length=0)];rfl);subst this;exact(lO w).mono (by rintro e w' ⟨rfl,rfl⟩;exact⟨rfl,Below.refl _ _⟩)
   ·have:=qt t h0 h4 w
    rwa [h1]at this
 clear h hl;go_enter func96,ntmps96;go_wp2_with fail;refine hI.mono ?_;rintro e w1 ⟨rfl,hb⟩;go_wp2_with fail;refine(kZ t (by omega) 16 16 w1 (hE.below hb)).mono ?_;rintro e w2 ⟨⟨T,p,rfl⟩,hb2⟩;have hb3:Below w.heap.size w w2:=hb.trans (hb2.mono hb.size);go_wp2;go_ret2;exact⟨⟨T,p,rfl⟩,hb3⟩
theorem EV(t:ByteArray)(v:Nat)(h:pc (bn t)=some v)(w:World):Calls prog 259 #[.string t] w fun e W'=>e=.returned (.tuple #[.int .u16 v,.bool true])/\Below w.heap.size w W':=by
 obtain⟨_,_,h3,hv⟩:=NR h;have hl:=aa t;have h4:t.size<=4:=by omega
 have hwr:IntKind.u16.wrap (v:Int)=(v:Int):=by simp[IntKind.wrap,IntKind.bits,IntKind.signed];omega
 have hI:=Kv t v h w;clear h h3 hl;go_enter func259,ntmps259;go_wp2_with fail;refine hI.mono ?_;rintro e w1 ⟨rfl,hb⟩;go_wp2_with fail
 go_quiet (fail)
 go_wp2;go_ret2;exact⟨rfl,⟨hb.os,hb.tape,hb.output,hb.size,hb.block⟩⟩
theorem EU(t:ByteArray)(h:pc (bn t)=none)(hs:t.size<=1000000000)(w:World)(hE:Er w):Calls prog 259 #[.string t] w fun e W'=>e=.returned (.tuple #[.int .u16 0,.bool false])/\Below w.heap.size w W':=by
 by_cases h4:t.size<=4
 ·have hI:=rR t h h4 w hE;clear h;go_enter func259,ntmps259;go_wp2_with fail;refine hI.mono ?_;rintro e w1 ⟨⟨T,p,rfl⟩,hb⟩;go_wp2_with fail
  go_quiet (fail)
  go_wp2;go_ret2;exact⟨rfl,⟨hb.os,hb.tape,hb.output,hb.size,hb.block⟩⟩
 ·clear h;go_enter func259,ntmps259;go_wp2;go_ret2;exact⟨rfl,Below.refl _ _⟩
end X
end Go.Proofs.YtlmflmdmolcfhaaGreatDoor
namespace Go.Proofs
open Go.Shelf Go.RowKit
shelf_lay Lays.n147 Nm 147 at Tryz as Tryz.laysSplX
end Go.Proofs
namespace Go.Proofs.YtlmflmdmolcfhaaGreatDoor
open Tryz Go.RowKit
namespace X
open F (hx vl bn aa bz hid)
def nn(l:List UInt8):List Int:=l.map fun c=>(c.toNat:Int)
theorem so{c:Int}(h:48<=c/\c<=57):hx c=c - 48:=by unfold hx;rw[if_pos h]
theorem RM:∀(l:List UInt8) (acc:Nat),acc<=255->((nn l).all ten=true/\(nn l).foldl (fun n c=>n * 10+(hx c).toNat) acc<=255/\Lib.parseUintM 255 acc l=.ok ((nn l).foldl (fun n c=>n * 10+(hx c).toNat) acc))\/(¬ ((nn l).all ten=true/\(nn l).foldl (fun n c=>n * 10+(hx c).toNat) acc<=255)/\∀ u,Lib.parseUintM 255 acc l≠.ok u)
 | [],acc,h=>.inl ⟨rfl,h,rfl⟩
 | c::l,acc,h=>by
  have e0:nn (c::l)=(c.toNat:Int)::nn l:=rfl;rw[e0,List.all_cons,foldl_cons];by_cases hd:48<=c.toNat/\c.toNat<=57
  ·have hx1:(hx (c.toNat:Int)).toNat=c.toNat - 48:=by rw[so (by omega)];omega
   have ht:ten (c.toNat:Int)=true:=by unfold ten;exact decide_eq_true (by omega)
   rw[hx1,ht,Bool.true_and];have hcut:¬ 1844674407370955162<=acc:=by omega
   by_cases hov:255<acc * 10+(c.toNat - 48)
   ·right;have hp:Lib.parseUintM 255 acc (c::l)=.range:=by rw[Lib.parseUintM,if_pos hd,if_neg hcut,if_pos hov]
    refine⟨fun hh=>?_,fun u e=>by rw[hp]at e;cases e⟩
    have mono:∀(m:List Int) (x:Nat),255<x->255<m.foldl (fun n c=>n * 10+(hx c).toNat) x:=by
     intro m
     induction m with
     | nil=>intro x h;exact h
     | cons d m ih=>intro x h;rw[foldl_cons];exact ih _ (by omega)
    have:=mono (nn l) _ hov;omega
   ·have hp:Lib.parseUintM 255 acc (c::l)=Lib.parseUintM 255 (acc * 10+(c.toNat - 48)) l:=by rw[Lib.parseUintM,if_pos hd,if_neg hcut,if_neg hov]
    rw[hp];exact RM l _ (by omega)
  ·right;have ht:ten (c.toNat:Int)=false:=by unfold ten;exact decide_eq_false (by omega)
   rw[ht];exact⟨by simp,fun u e=>by rw[Lib.parseUintM,if_neg hd]at e;cases e⟩
theorem LX{l:List Int}(h:l.all ten=true)(hv:vl 10 l<=255)(h0:¬ (1<l.length/\l[0]?.getD 0=48)):l.length<=3:=by
 have grow:∀(m:List Int) (x:Nat),x * 10 ^ m.length<=m.foldl (fun n c=>n * 10+(hx c).toNat) x:=by
  intro m
  induction m with
  | nil=>intro x;simp
  | cons d m ih =>
   intro x;rw[foldl_cons,length_cons];refine Nat.le_trans ?_ (ih _);rw[Nat.pow_succ,Nat.mul_comm (10 ^ m.length),<-Nat.mul_assoc];exact Nat.mul_le_mul_right _ (by omega)
 cases l with
 | nil=>simp
 | cons c m =>
  by_cases hl:(c::m).length<=3
  ·exact hl
  ·exfalso;rw[List.all_cons,Bool.and_eq_true]at h;have hc:48<=c/\c<=57:=of_decide_eq_true h.1;have h48:c≠48:=fun e=>h0 ⟨by omega,by simpa using e⟩;unfold vl at hv;rw[foldl_cons,so hc]at hv;have:=grow m (0 * 10+(c - 48).toNat);have hp:10 ^ 3<=10 ^ m.length:=Nat.pow_le_pow_right (by decide) (by simp at hl;omega);have h1:1 * 10 ^ m.length<=(0 * 10+(c - 48).toNat) * 10 ^ m.length:=Nat.mul_le_mul_right _ (by omega);omega
theorem Ic(t:ByteArray)(h0:¬ (1<(bn t).length/\(bn t)[0]?.getD 0=48)):(∃ v,dn (bn t)=some v/\v<=255/\Lib.parseUintB 8 t.data.toList=.ok v)\/(dn (bn t)=none/\∀ u,Lib.parseUintB 8 t.data.toList≠.ok u):=by
 have hl:=aa t;by_cases he:t.data.toList=[]
 ·right;have hb:bn t=[]:=by unfold bn;rw[he];rfl
  refine⟨by rw[hb];rfl,fun u e=>by unfold Lib.parseUintB at e;rw[if_pos he]at e;cases e⟩
 ·have hne:(bn t).length≠0:=fun e=>he (by
    have:=List.eq_nil_of_length_eq_zero e
    unfold bn at this
    exact List.map_eq_nil_iff.1 this)
  have hB:Lib.parseUintB 8 t.data.toList=Lib.parseUintM 255 0 t.data.toList:=by unfold Lib.parseUintB;rw[if_neg he]
  rw[hB];rcases RM t.data.toList 0 (by omega) with⟨a,b,c⟩ | ⟨a,b⟩
  ·left;have b':vl 10 (bn t)<=255:=b;refine⟨vl 10 (bn t),?_,b',c⟩;unfold dn;rw[if_pos ⟨by omega,LX a b' h0,h0,a,b'⟩]
  ·right;refine⟨?_,b⟩;unfold dn;rw[if_neg (fun hh=>a ⟨hh.2.2.2.1,hh.2.2.2.2⟩)]
theorem Kw(t:ByteArray)(hs:t.size<=1000000000)(v:Nat)(h:Lib.parseUintB 8 t.data.toList=.ok v)(w:World):Calls prog 96 #[.string t,.int .i64 10,.int .i64 8] w fun e W'=>e=.returned (.tuple #[.int .u64 v,.nilIface])/\Below w.heap.size w W':=by
 have hq:=Any.strconv_ParseUint_10_at8_ok Tryz.laysPu t (by omega) v h w;refine Calls.mono (show Calls prog 96 #[.string t,.int .i64 10,.int .i64 8] w _ from hq) ?_;rintro e W' ⟨rfl,hW⟩;refine⟨rfl,?_⟩;rcases hW with rfl | rfl
 ·exact Below.refl _ _
 ·exact⟨rfl,rfl,rfl,by rw[Lib.bytesWorld_size];omega,fun k hk=>Lib.bytesWorld_at_old w _ t k hk⟩
theorem Kx(t:ByteArray)(hs:t.size<=1000000000)(h:∀ u,Lib.parseUintB 8 t.data.toList≠.ok u)(w:World)(hE:Er w):Calls prog 96 #[.string t,.int .i64 10,.int .i64 8] w fun e W'=>(∃(x:Nat) (T:TypeId) (p:Value),x<=255/\e=.returned (.tuple #[.int .u64 x,.iface T p]))/\Below w.heap.size w W':=by
 obtain⟨⟨ev,h1,h2⟩,⟨ev',h3,h4⟩⟩:=hE;cases hx:Lib.parseUintB 8 t.data.toList
 ·exact absurd hx (h _)
 ·have hI:Calls prog 139 #[.string t,.int .i64 10,.int .i64 8] w fun e w'=>e=.returned (.tuple #[.int .u64 0,.iface 192 (.int .i64 2)])/\Below w.heap.size w w':=by
   have hq:=AnyPu.internal_strconv_ParseUint_10_at8 { Tryz.laysPu with } t (by omega) w;rw[hx]at hq;refine Calls.mono (show Calls prog 139 #[.string t,.int .i64 10,.int .i64 8] w _ from hq) ?_;rintro e W' ⟨rfl,hW⟩;refine⟨rfl,?_⟩;rcases hW with rfl | rfl
   ·exact Below.refl _ _
   ·exact⟨rfl,rfl,rfl,by rw[Lib.bytesWorld_size];omega,fun k hk=>Lib.bytesWorld_at_old w _ t k hk⟩
  have HER:Hid (Er w):=⟨⟨ev,h1,h2⟩,⟨ev',h3,h4⟩⟩;clear hx h h1 h2 h3 h4;go_enter func96,ntmps96;go_wp2_with fail;refine hI.mono ?_;rintro e w1 ⟨rfl,hb⟩;go_wp2_with fail;refine(kZ t hs 10 8 w1 (HER.out.below hb)).mono ?_;rintro e w2 ⟨⟨T,p,rfl⟩,hb2⟩;have hb3:Below w.heap.size w w2:=hb.trans (hb2.mono hb.size);go_wp2;go_ret2;exact⟨⟨0,T,p,by omega,rfl⟩,hb3⟩
 ·have hq:=Any.strconv_ParseUint_10_at8_range Tryz.laysPu t (by omega) hx ev' w h3 h4;refine Calls.mono (show Calls prog 96 #[.string t,.int .i64 10,.int .i64 8] w _ from hq) ?_;rintro e W' ⟨N,rfl,_,_,hb⟩;exact⟨⟨255,_,_,by omega,rfl⟩,hb⟩
def jW(o:Option Nat)(e:Ending):Prop:=(∃ v:Nat,o=some v/\v<=255/\e=.returned (.tuple #[.int .u32 v,.bool true]))\/(o=none/\∃ x:Nat,e=.returned (.tuple #[.int .u32 x,.bool false]))
theorem uw(t:ByteArray)(hs:t.size<=1000000000)(h0:¬ (1<(bn t).length/\(bn t)[0]?.getD 0=48))(w:World)(hE:Er w):
  Calls prog 277 #[.string t] w fun e W'=>jW (dn (bn t)) e/\Below w.heap.size w W':=by
 have hok:∀ v:Nat,v<=255->dn (bn t)=some v->jW (dn (bn t)) (.returned (.tuple #[.int .u32 v,.bool true])):=fun v h1 h2=>.inl ⟨v,h2,h1,rfl⟩;have hno:dn (bn t)=none->∀ x:Nat,jW (dn (bn t)) (.returned (.tuple #[.int .u32 x,.bool false])):=fun h x=>.inr ⟨h,x,rfl⟩;obtain⟨o,ho⟩:=Ex' (dn (bn t));rw[ho]at hok hno ⊢;have hbl:=aa t
 have hcase:t.size<=1\/(1<t.size/\(bn t)[0]?.getD 0≠48):=by
  by_cases h:t.size<=1
  ·exact .inl h
  ·exact .inr ⟨by omega,fun e=>h0 ⟨by omega,e⟩⟩
 rcases Ic t h0 with⟨v,hd,hv,hp⟩ | ⟨hd,hp⟩ <;> rw[ho]at hd <;> clear ho
 ·have HPU:=hid (Kw t hs v hp w);have HOK:=hid (hok v hv hd);have hwr:IntKind.u32.wrap (v:Int)=(v:Int):=by simp[IntKind.wrap,IntKind.bits,IntKind.signed];omega
  clear hok hno hp hd h0 hbl;rcases hcase with hc | ⟨hc,hc2⟩
  ·go_enter func277,ntmps277;go_wp2_with fail;refine HPU.out.mono ?_;rintro e w1 ⟨rfl,hb⟩;go_wp2_with fail
   go_quiet (fail)
   go_wp2;go_ret2;exact⟨HOK.out,hb.os,hb.tape,hb.output,hb.size,hb.block⟩
  ·rw[bz t 0 (by omega)]at hc2;have hq:(((t[0].toNat:Nat):Int)==48)=false:=by simpa using hc2
   clear hc2;go_enter func277,ntmps277;go_wp2_with fail;refine HPU.out.mono ?_;rintro e w1 ⟨rfl,hb⟩;go_wp2_with fail
   go_quiet (fail)
   go_wp2;go_ret2;exact⟨HOK.out,hb.os,hb.tape,hb.output,hb.size,hb.block⟩
 ·have HPU:=hid (Kx t hs hp w hE);have HNO:=hid (hno hd);clear hok hno hp hd h0 hbl;rcases hcase with hc | ⟨hc,hc2⟩
  ·go_enter func277,ntmps277;go_wp2_with fail;refine HPU.out.mono ?_;rintro e w1 ⟨⟨x,T,p,hx,rfl⟩,hb⟩;have hwr:IntKind.u32.wrap (x:Int)=(x:Int):=by simp[IntKind.wrap,IntKind.bits,IntKind.signed];omega
   go_wp2_with fail
   go_quiet (fail)
   go_wp2;go_ret2;exact⟨HNO.out x,hb.os,hb.tape,hb.output,hb.size,hb.block⟩
  ·rw[bz t 0 (by omega)]at hc2;have hq:(((t[0].toNat:Nat):Int)==48)=false:=by simpa using hc2
   clear hc2;go_enter func277,ntmps277;go_wp2_with fail;refine HPU.out.mono ?_;rintro e w1 ⟨⟨x,T,p,hx,rfl⟩,hb⟩;have hwr:IntKind.u32.wrap (x:Int)=(x:Int):=by simp[IntKind.wrap,IntKind.bits,IntKind.signed];omega
   go_wp2_with fail
   go_quiet (fail)
   go_wp2;go_ret2;exact⟨HNO.out x,hb.os,hb.tape,hb.output,hb.size,hb.block⟩
theorem dF(t:ByteArray)(hs:t.size<=1000000000)(w:World)(hE:Er w):
  Calls prog 277 #[.string t] w fun e W'=>jW (dn (bn t)) e/\Below w.heap.size w W':=by
 by_cases h0:1<(bn t).length/\(bn t)[0]?.getD 0=48
 ·have hd:dn (bn t)=none:=by unfold dn;rw[if_neg (fun hh=>hh.2.2.1 h0)]
  have hbl:=aa t;obtain⟨h1,h2⟩:=h0;rw[hbl]at h1;have hpos:0<t.size:=by omega
  rw[bz t 0 hpos]at h2;have hq:(((t[0].toNat:Nat):Int)==48)=true:=by simpa using h2
  have HR:=hid (show jW (dn (bn t)) (.returned (.tuple #[.int .u32 (0:Nat),.bool false])) from .inr ⟨hd,0,rfl⟩);clear h2 hd hbl;obtain⟨o,ho⟩:=Ex' (dn (bn t));rw[ho]at HR ⊢;clear ho;go_enter func277,ntmps277;go_wp2;go_ret2;exact⟨HR.out,Below.refl _ _⟩
 ·exact uw t hs h0 w hE
open F (hx bn aa hid)
theorem fM{b:UInt8}{l:List UInt8}:(b.toNat:Int)∈nn l↔b∈l:=by
 unfold nn;rw[List.mem_map];constructor
 ·rintro⟨c,hc,e⟩;have:c=b:=UInt8.toNat_inj.1 (by omega);rw[<-this];exact hc
 ·intro h;exact⟨b,h,rfl⟩
theorem lh(b:Int):∀ l:List Int,spB b l≠[]
 | []=>by simp[spB]
 | c::l=>by rw[spB];split <;> simp
theorem lf(b:Int):∀(A B:List Int),spB b (A++b::B)=spB b A++spB b B
 | [],B=>by
  have h:spB b (b::B)=[]::spB b B:=if_pos rfl;exact h
 | c::A,B=>by
  have ih:=lf b A B;show spB b (c::(A++b::B))=_;rw[spB,spB];by_cases h:c=b
  ·rw[if_pos h,if_pos h,ih];rfl
  ·rw[if_neg h,if_neg h,ih];cases hs:spB b A with
   | nil=>exact absurd hs (lh b A)
   | cons x y=>rfl
theorem wW(b:Int)(A B:List Int):(spB b (A++b::B)).length=(spB b A).length+(spB b B).length:=by rw[lf,length_append]
theorem yT(b:Int):∀ l:List Int,(spB b l).length<=l.length+1
 | []=>by simp[spB]
 | c::l=>by
  have ih:=yT b l;have hp:=List.length_pos_iff.2 (lh b l);rw[spB];split
  ·rw[length_cons,length_cons];omega
  ·rw[length_cons,List.length_tail,length_cons];omega
theorem nB(b:Int):∀(l p:List Int),p∈spB b l->p.length<=l.length/\¬ b∈p/\∀ c∈p,c∈l
 | [],p,h=>by simp[spB]at h;subst h;simp
 | c::l,p,h=>by
  rw[spB]at h;split at h
  ·rcases List.mem_cons.1 h with rfl | h
   ·simp
   ·obtain⟨h1,h2,h3⟩:=nB b l p h;exact⟨by rw[length_cons];omega,h2,fun x hx=>mem_cons_of_mem _ (h3 x hx)⟩
  ·rename_i hcb;cases hs:spB b l with
   | nil=>exact absurd hs (lh b l)
   | cons x y =>
    rw[hs]at h;rcases List.mem_cons.1 h with rfl | h
    ·obtain⟨h1,h2,h3⟩:=nB b l x (by rw[hs];simp);refine⟨by simpa using h1,fun hh=>?_,fun z hz=>?_⟩
     ·rcases List.mem_cons.1 hh with e | hh
      ·exact hcb e.symm
      ·exact h2 hh
     ·rcases List.mem_cons.1 hz with e | hz
      ·rw[e];simp
      ·exact mem_cons_of_mem _ (h3 z hz)
    ·obtain⟨h1,h2,h3⟩:=nB b l p (by rw[hs];exact mem_cons_of_mem _ h);exact⟨by rw[length_cons];omega,h2,fun z hz=>mem_cons_of_mem _ (h3 z hz)⟩
theorem spK(b:UInt8):∀(k:Nat) (l:List UInt8),((spB b.toNat (nn l)).length<=k+1/\(Lib.splitK [b] 0 k l).map nn=spB b.toNat (nn l))\/(k+1<(spB b.toNat (nn l)).length/\(Lib.splitK [b] 0 k l).length=k+1)
 | 0,l=>by
  by_cases h:b∈l
  ·right;obtain⟨A,B,e⟩:=List.append_of_mem (fM.2 h);have h1:=List.length_pos_iff.2 (lh b.toNat A);have h2:=List.length_pos_iff.2 (lh b.toNat B);rw[e,wW];exact⟨by omega,rfl⟩
  ·left;have hs:=fK b.toNat (nn l) (fun hh=>h (fM.1 hh));rw[hs];exact⟨by simp,rfl⟩
 | k+1,l=>by
  have hge:=Lib.indexByte_ge l b;have hi1:=Lib.index_one l b;by_cases hm:Lib.indexByte l b=-1
  ·left;have hn:=Lib.indexByte_none hm;have h:¬ b∈l:=fun hh=>by obtain⟨j,hj,e⟩:=List.mem_iff_getElem.1 hh;exact hn j (by rw[getElem?_eq_getElem hj,e])
   have hs:=fK b.toNat (nn l) (fun hh=>h (fM.1 hh));rw[hs];refine⟨by simp,?_⟩;rw[Lib.splitK,hi1,hm];rfl
  ·obtain⟨i,hi⟩:∃ i:Nat,Lib.indexByte l b=i:=⟨(Lib.indexByte l b).toNat,by omega⟩;obtain⟨h1,h2⟩:=Lib.indexByte_some hi;have hil:i<l.length:=(List.getElem?_eq_some_iff.1 h1).1
   have e:l=l.take i++b::l.drop (i+1):=by
    have h5:l.drop i=b::l.drop (i+1):=by rw[drop_eq_getElem_cons hil];rw[getElem?_eq_getElem hil]at h1;rw[Option.some.inj h1]
    rw[<-h5,List.take_append_drop]
   have hn:¬ b∈l.take i:=fun hh=>by obtain⟨j,hj,e⟩:=List.mem_iff_getElem.1 hh;rw[List.length_take]at hj;rw[List.getElem_take]at e;exact h2 j (by omega) (by rw[getElem?_eq_getElem (by omega),e])
   have es:spB b.toNat (nn l)=nn (l.take i)::spB b.toNat (nn (l.drop (i+1))):=by
    conv=>lhs;rw[e]
    rw[show nn (l.take i++b::l.drop (i+1))=nn (l.take i)++(b.toNat:Int)::nn (l.drop (i+1)) by unfold nn;rw[map_append];rfl];exact nA _ _ _ (fun hh=>hn (fM.1 hh))
   have ek:Lib.splitK [b] 0 (k+1) l=l.take i::Lib.splitK [b] 0 k (l.drop (i+1)):=by rw[Lib.splitK,hi1,hi,if_neg (by simp)];simp
   rw[es,ek];rcases spK b k (l.drop (i+1)) with⟨g1,g2⟩ | ⟨g1,g2⟩
   ·left;exact⟨by rw[length_cons];omega,by rw[map_cons,g2]⟩
   ·right;exact⟨by rw[length_cons];omega,by rw[length_cons,g2]⟩
theorem iq(b:UInt8)(M:Nat)(U:ByteArray)(qs:List ByteArray)(hq:qs=Lib.splitB ⟨#[b]⟩ 0 (min (M+1) (U.size+1) - 1) U):((spB b.toNat (bn U)).length<=M/\qs.map bn=spB b.toNat (bn U))\/(M<(spB b.toNat (bn U)).length/\M<qs.length):=by
 have hd:=Lib.splitB_data ⟨#[b]⟩ 0 (min (M+1) (U.size+1) - 1) U;rw[<-hq]at hd
 have hb:qs.map bn=(Lib.splitK [b] 0 (min (M+1) (U.size+1) - 1) U.data.toList).map nn:=by
  have h2:qs.map bn=(qs.map (·.data.toList)).map nn:=by rw[map_map];rfl
  rw[h2,hd]
 have hl:qs.length=(Lib.splitK [b] 0 (min (M+1) (U.size+1) - 1) U.data.toList).length:=by
  have:=congrArg List.length hb
  rwa [length_map,length_map]at this
 have hc:=yT b.toNat (bn U);rw[aa]at hc;rcases spK b (min (M+1) (U.size+1) - 1) U.data.toList with⟨g1,g2⟩ | ⟨g1,g2⟩
 ·have g1':(spB b.toNat (bn U)).length<=min (M+1) (U.size+1) - 1+1:=g1;have g2':qs.map bn=spB b.toNat (bn U):=hb.trans g2;by_cases h4:(spB b.toNat (bn U)).length<=M
  ·exact .inl ⟨h4,g2'⟩
  ·right;refine⟨by omega,?_⟩;have:=congrArg List.length g2';rw[length_map]at this;omega
 ·have g1':min (M+1) (U.size+1) - 1+1<(spB b.toNat (bn U)).length:=g1;right;rw[hl,g2];omega
theorem jS{done:List ByteArray}{N j:Nat}(h:j<done.length):(Lib.cellsOf done N)[j]? = some (.string (done[j]?.getD ⟨#[]⟩)):=by unfold Lib.cellsOf;rw[List.getElem?_toArray,List.getElem?_append_left (by simpa using h),getElem?_map,getElem?_eq_getElem h];rfl
theorem iQ(w:World)(t:TypeId)(cs:Array Value)(j:Nat):(w.alloc (.cells cs t)).cell? ⟨w.heap.size,j,none⟩=cs[j]? := by have hb:(w.alloc (.cells cs t)).heap[w.heap.size]? = some (.cells cs t):=heap_alloc_new w _;generalize w.alloc (.cells cs t)=W at hb ⊢;simp[World.cell?,hb]
def Mx(W:World):Prop:=∃ m:Int,W.cell? ⟨3,0,none⟩=some (.int .i64 m)
theorem Mx.below{w w':World}(h:Mx w)(hb:Below w.heap.size w w'):Mx w':=by obtain⟨m,hm⟩:=h;exact⟨m,(hb.cell (p:=⟨3,0,none⟩) (Lib.lt_of_cell hm)).trans hm⟩
def QX(b:UInt8)(M:Nat)(U:ByteArray)(w:World)(e:Ending)(W':World):Prop:=(∃(g c:Nat) (qs:List ByteArray),e=.returned (.slice (some ⟨g,0,none⟩) qs.length c)/\(∀ j,j<qs.length->W'.cell? ⟨g,j,none⟩=some (.string (qs[j]?.getD ⟨#[]⟩)))/\(((spB b.toNat (bn U)).length<=M/\qs.map bn=spB b.toNat (bn U))\/(M<(spB b.toNat (bn U)).length/\M<qs.length/\qs.length<=U.size+1)))/\Below w.heap.size w W'
theorem wV(b:UInt8)(n:Nat)(U:ByteArray)(h:n<=U.size):(Lib.splitB ⟨#[b]⟩ 0 n U).length<=U.size+1:=by
 have hd:=congrArg List.length (Lib.splitB_data ⟨#[b]⟩ 0 n U);rw[length_map]at hd;have e:(⟨#[b]⟩:ByteArray).data.toList=[b]:=rfl;rw[e]at hd;rcases spK b n U.data.toList with⟨g1,g2⟩ | ⟨_,g2⟩
 ·have:=congrArg List.length g2;rw[length_map]at this;omega
 ·omega
theorem gE(b:UInt8)(M:Nat)(hM1:M<=100)(U:ByteArray)(w:World)(hU:U.size<=1000000000)(hM:Mx w):
  Calls prog 258 #[.string U,.string ⟨#[b]⟩,.int .i64 ((M+1:Nat):Int)] w fun e W'=>QX b M U w e W':=by
 obtain⟨m,hm⟩:=hM;have hf:Tryz.laysSplX_ren.f 147=258:=by kernel_rfl
 have hg:Tryz.laysSplX_ren.g 1=3:=by kernel_rfl
 have h:=Any.strings_SplitN Tryz.laysSplX (by kernel_rfl) U ⟨#[b]⟩ (M+1) m w (by omega) (by rw[hg];exact hm) (le_refl 1) (by omega) (by omega);rw[hf]at h;refine h.mono ?_;rintro e W' ⟨rfl,rfl⟩;refine⟨⟨_,_,_,rfl,fun j hj=>?_,?_⟩,(Below.refl _ w).alloc (le_refl _) _⟩
 ·rw[iQ];exact jS hj
 ·rcases iq b M U _ rfl with h1 | ⟨h1,h2⟩
  ·exact .inl h1
  ·exact .inr ⟨h1,h2,wV b _ U (by omega)⟩
def ac(ds:List Nat):Nat:=ds.foldl (fun n d=>n * 256+d) 0
theorem NI(ds:List Nat)(d:Nat):ac (ds++[d])=ac ds * 256+d:=by unfold ac;rw[List.foldl_append];rfl
def sz8(j a:Nat):Prop:=(j=0/\a=0)\/(j=1/\a<=255)\/(j=2/\a<=65535)\/(j=3/\a<=16777215)\/(j=4/\a<=4294967295)
theorem DK{j a d:Nat}(h:sz8 j a)(hj:j<4)(hd:d<=255):sz8 (j+1) (a * 256+d)/\a<=16777215:=by unfold sz8 at *;omega
theorem Po(a d:Nat)(ha:a<=16777215)(hd:d<=255):bits .or .u32 ((a:Int) * 256) (d:Int)=((a * 256+d:Nat):Int):=by
 have h:=u32_or_nat (a * 256) d (by omega) (by omega);have e:a * 256 ||| d=a * 256+d:=by have:=Nat.shiftLeft_add_eq_or_of_lt (b:=d) (i:=8) (by omega) a;rw[Nat.shiftLeft_eq]at this;exact this.symm
 rw[e]at h;exact h
theorem xV{l:List (Option Nat)}(h:none∈l):ma l=none:=by
 match l,h with
 | [some a,some b,some c,some d],h=>simp at h
 | [],_=>rfl
 | [x],_=>cases x <;> rfl
 | [x,y],_=>cases x <;> cases y <;> rfl
 | [x,y,z],_=>cases x <;> cases y <;> cases z <;> rfl
 | none::_::_::_::_,_=>rfl
 | some _::none::_::_::_,_=>rfl
 | some _::some _::none::_::_,_=>rfl
 | some _::some _::some _::none::_,_=>rfl
 | some _::some _::some _::some _::_::_,_=>rfl
theorem qH{l:List (Option Nat)}(h:l.length≠4):ma l=none:=by
 match l,h with
 | [a,b,c,d],h=>simp at h
 | [],_=>rfl
 | [x],_=>cases x <;> rfl
 | [x,y],_=>cases x <;> cases y <;> rfl
 | [x,y,z],_=>cases x <;> cases y <;> cases z <;> rfl
 | none::_::_::_::_::_,_=>rfl
 | some _::none::_::_::_::_,_=>rfl
 | some _::some _::none::_::_::_,_=>rfl
 | some _::some _::some _::none::_::_,_=>rfl
 | some _::some _::some _::some _::_::_,_=>rfl
def Ji(o:Option (List Nat))(e:Ending):Prop:=(∃ h l:Nat,o=some [h,l]/\h<65536/\l<65536/\e=.returned (.tuple #[.int .u16 h,.int .u16 l,.bool true]))\/(o=none/\e=.returned (.tuple #[.int .u16 0,.int .u16 0,.bool false]))
theorem Bc{ps:List (List Int)}{ds:List Nat}(hl:ds.length=4)(h:ps.map dn=ds.map some)(ha:ac ds<=4294967295):∃ H L:Nat,ma (ps.map dn)=some [H,L]/\H<65536/\L<65536/\ac ds / 65536=H/\ac ds % 65536=L:=by
 match ds,hl with
 | [a,b,c,d],_ =>
  rw[h];have e:ac [a,b,c,d]=((a * 256+b) * 256+c) * 256+d:=by simp[ac]
  have hb:∀ x:Nat,some x∈ps.map dn->x<=255:=by
   intro x hx;obtain⟨p,_,hp⟩:=List.mem_map.1 hx;unfold dn at hp;split at hp
   ·rename_i hh;cases hp;exact hh.2.2.2.2
   ·cases hp
  rw[h]at hb;have ba:=hb a (by simp);have bb:=hb b (by simp);have bc:=hb c (by simp);have bd:=hb d (by simp);refine⟨a * 256+b,c * 256+d,rfl,by omega,by omega,?_,?_⟩ <;> rw[e] <;> omega
theorem nS(U:ByteArray)(hU:U.size<=1000000)(w:World)(hE:Er w)(hM:Mx w):Calls prog 256 #[.string U] w fun e W'=>Ji (dt (bn U)) e/\Below w.heap.size w W':=by
 have HSP:Hid (Calls prog 258 #[.string U,.string ⟨#[46]⟩,.int .i64 5] w fun e W'=>QX 46 4 U w e W'):=gE 46 4 (by omega) U w (by omega) hM;have HE:=hid (fun W hb=>hE.below (w':=W) hb);have HNO:Hid (dt (bn U)=none->Ji (dt (bn U)) (.returned (.tuple #[.int .u16 0,.int .u16 0,.bool false]))):=fun h=>.inr ⟨h,rfl⟩;have HDT:Hid (dt (bn U)=ma ((spB 46 (bn U)).map dn)):=rfl;have hmem:=nB 46 (bn U);rw[aa]at hmem;have HMEM:=hid hmem;obtain⟨o,ho⟩:=Ex' (dt (bn U));rw[ho]at HNO HDT ⊢;clear ho hmem hE hM;go_enter func256,ntmps256;go_wp2_with fail;refine HSP.out.mono ?_;rintro e w1 ⟨⟨g,c,qs,rfl,hcb,hor⟩,B1⟩;have HB1:=hid B1;have HCB:=hid hcb;have HER:=hid (HE.out w1 B1);clear B1 HSP HE hcb;by_cases h4:qs.length=4
 ·have hqs:qs.map bn=spB 46 (bn U):=by
   rcases hor with h | h
   ·exact h.2
   ·omega
  have hsz:∀ i,i<qs.length->(qs[i]?.getD ⟨#[]⟩).size<=1000000:=fun i hi=>by
   have h1:bn (qs[i]?.getD ⟨#[]⟩)∈spB 46 (bn U):=by rw[<-hqs,getElem?_eq_getElem hi];exact List.mem_map_of_mem (getElem_mem hi)
   have:=(HMEM.out _ h1).1;rw[aa]at this;omega
  have HSZ:=hid hsz;have HQS:=hid hqs;rw[<-hqs]at HDT;clear hor hqs hsz HMEM;have HL4:=hid h4;rw[h4]at HCB HSZ ⊢;clear h4;go_wp2_with fail
  go_loopw [6,18] (fun v6 v18 wr=>∃(j:Nat) (ds:List Nat) (a:Nat),j<=4/\v6=.int .u32 (a:Int)/\v18=.int .i64 (j:Int)/\Hid (ds.length=j/\ac ds=a/\sz8 j a/\((qs.take j).map bn).map dn=ds.map some)/\Hid (Below w1.heap.size w1 wr)) (fun _ v18 _=>4 - (intOf v18).toNat)
  case atStart=>exact⟨0,[],0,by omega,rfl,rfl,⟨rfl,rfl,.inl ⟨rfl,rfl⟩,rfl⟩,Below.refl _ _⟩
  case round =>
   obtain⟨j,ds,a,hj,rfl,rfl,HH,HB⟩:=hrel;by_cases hlt:j<4
   ·have hcw:=HCB.out j hlt;have hcr:wr.cell? ⟨g,j,none⟩=some (.string (qs[j]?.getD ⟨#[]⟩)):=(HB.out.cell (p:=⟨g,j,none⟩) (Lib.lt_of_cell hcw)).trans hcw;have HNU:Hid (Calls prog 277 #[.string (qs[j]?.getD ⟨#[]⟩)] wr fun e W'=>jW (dn (bn (qs[j]?.getD ⟨#[]⟩))) e/\Below wr.heap.size wr W'):=dF _ (by have:=HSZ.out j hlt;omega) wr (HER.out.below HB.out);have hjq:j<qs.length:=by rw[HL4.out];exact hlt
    have htk:qs.take (j+1)=qs.take j++[qs[j]?.getD ⟨#[]⟩]:=by rw[List.take_add_one,getElem?_eq_getElem hjq];rfl
    have hmm:bn (qs[j]?.getD ⟨#[]⟩)∈qs.map bn:=by rw[getElem?_eq_getElem hjq];exact List.mem_map_of_mem (getElem_mem hjq)
    obtain⟨D,hD⟩:=Ex' (qs[j]?.getD ⟨#[]⟩);rw[hD]at hcr HNU htk hmm;have HTK:=hid htk;have HMM:=hid hmm;have hltz:(j:Int)<4:=by omega
    clear hD hcw htk hmm hjq;obtain⟨o2,ho2⟩:=Ex' (dn (bn D));have HO2:=hid ho2;rw[ho2]at HNU;clear ho2;go_wp2_with fail;refine HNU.out.mono ?_;rintro e w2 ⟨hn,B2⟩;have HB2:=Bt' HB B2;clear B2 HNU;rcases hn with⟨v,hv,hv5,rfl⟩ | ⟨hv,x,rfl⟩
    ·obtain⟨q1,q2,q3,q4⟩:=HH.out;have hst:=DK q3 hlt hv5;have HN:Hid ((ds++[v]).length=j+1/\ac (ds++[v])=a * 256+v/\sz8 (j+1) (a * 256+v)/\((qs.take (j+1)).map bn).map dn=(ds++[v]).map some):=by refine⟨by rw[length_append,q1];rfl,by rw[NI,q2],hst.1,?_⟩;rw[HTK.out,map_append,map_append,q4,map_append];congr 1;show [dn (bn D)]=[some v];rw[HO2.out,hv]
     have ha:=hst.2;have hor2:=Po a v ha hv5;clear q1 q2 q3 q4 hst HH HO2 hv;go_wp2_with fail
     go_roundw
     case rel=>exact⟨j+1,ds++[v],a * 256+v,by omega,by first | rfl | go_num,by go_num,HN,HB2⟩
     case measure=>simp[intOf];omega
    ·have hnone:o=none:=by rw[HDT.out];refine xV (List.mem_map.2 ⟨bn D,HMM.out,?_⟩);rw[HO2.out,hv]
     have HR:=hid (HNO.out hnone);clear hnone HNO HO2 HH hv;go_wp2;go_ret3;exact⟨HR.out,HB1.out.trans (HB2.out.mono HB1.out.size)⟩
   ·have hj4:j=4:=by omega
    subst hj4;obtain⟨q1,q2,q3,q4⟩:=HH.out;have ha:a<=4294967295:=by unfold sz8 at q3;omega
    rw[List.take_of_length_le (by rw[HL4.out];omega)]at q4;obtain⟨H,L,f1,f2,f3,f4,f5⟩:=Bc q1 q4 (by omega);rw[q2]at f4 f5;have HR:Hid (Ji o (.returned (.tuple #[.int .u16 H,.int .u16 L,.bool true]))):=.inl ⟨H,L,by rw[HDT.out,f1],f2,f3,rfl⟩;have hw1:IntKind.u16.wrap ((a:Int) / 65536)=(H:Int):=by simp[IntKind.wrap,IntKind.bits,IntKind.signed];omega
    have hw2:IntKind.u16.wrap (a:Int)=(L:Int):=by simp[IntKind.wrap,IntKind.bits,IntKind.signed];omega
    clear q1 q2 q3 q4 f1 f2 f3 f4 f5 HH HNO HDT;go_wp2;go_ret3;exact⟨HR.out,HB1.out.trans (HB.out.mono HB1.out.size)⟩
 ·have hnone:o=none:=by
   rw[HDT.out];apply qH;rw[length_map];rcases hor with⟨_,h⟩ | ⟨h,_⟩
   ·have h5:=congrArg List.length h;rw[length_map]at h5;have h6:(spB 46 (bn U)).length=qs.length:=h5.symm;omega
   ·have h6:4<(spB 46 (bn U)).length:=h;omega
  have hle:qs.length<=1000001:=by
   rcases hor with⟨h,h5⟩ | ⟨_,_,h⟩
   ·have:=congrArg List.length h5;rw[length_map]at this;omega
   ·omega
  have HR:=hid (HNO.out hnone);have h4z:((qs.length:Int)==4)=false:=by simp;omega
  obtain⟨n,hn⟩:=Ex' qs.length;rw[hn]at h4z hle ⊢;clear hnone HNO hor HCB hn h4 HMEM HDT;go_wp2;go_ret3;exact⟨HR.out,HB1.out⟩
open F (hx bn aa hid)
theorem yq(s:ByteArray)(i j:Nat)(hij:i<=j)(hj:j<=s.size):bn (s.extract i j)=((bn s).drop i).take (j - i):=by unfold bn;rw[data_extract,Array.toList_extract,List.extract_eq_take_drop,List.map_take,List.map_drop]
open F (hx bn aa hid)
theorem mz{w:World}{p:Addr}{v:Value}(h:w.cell? p=some v):p.block<w.heap.size:=by
 rcases Nat.lt_or_ge p.block w.heap.size with hb | hb
 ·exact hb
 ·simp[World.cell?,Array.getElem?_eq_none hb]at h
open F (bn aa hid aq az)
def ai(L:List Nat):List Value:=L.map (fun x:Nat=>Value.int .u16 x)
open F (hx bn aa hid)
def z8:List Nat:=[0,0,0,0,0,0,0,0]
theorem tj(L:List Nat):(ai L).length=L.length:=by unfold ai;simp
theorem mJ(X:List Nat)(i v:Nat):(ai X).toArray.setIfInBounds i (.int .u16 (v:Nat))=(ai (X.set i v)).toArray:=by unfold ai;rw[List.map_set];simp
theorem cJ{W:World}{g:Nat}{t:TypeId}{X:List Nat}(h:W.heap[g]? = some (.cells (ai X).toArray t (0,0))){j:Nat}(hj:j<X.length):W.cell? ⟨g,j,none⟩=some (.int .u16 ((X[j]?.getD 0:Nat):Int)):=by simp only[World.cell?,h];unfold ai;simp[hj]
theorem dh(X:List Nat):(ai X).toArray.all (·.oneCell')=true:=by simp[ai,Value.oneCell']
theorem Sh:(prog.info? 24).map (·.size)=some 8:=by kernel_rfl
theorem aG{X:List Nat}(h:X.length=8):(prog.info? 24).map (·.size)=some (ai X).toArray.size:=by rw[Sh];simp[tj,h]
theorem aY{X:List Nat}(h:X.length=8):(ai X).toArray.size=8:=by simp[tj,h]
theorem aP{w:World}{g:Nat}{cs old:Array Value}{t:TypeId}(h:w.heap[g]? = some (.cells old t (0,0))):(w.setRow g cs).heap[g]? = some (.cells cs t (0,0)):=setRow_heap w g old cs t _ h
theorem bG{fn:Func}{p u:Tmp}{ty:TypeId}(h:fn.results=#[.cell p ty,.tmp u])(tmps:Array Value)(w:World)(g:Nat)(t:TypeId)(cs:Array Value)(fr:Nat×Nat)(n:Nat)(e:TypeId)
  (hp:tmps.getD p undef=.pointer (some ⟨g,0,none⟩)) (hg:w.heap[g]? = some (.cells cs t fr))
  (hu:prog.underlying ty=some (.array n e)) (hi:(prog.info? ty).map (·.size)=some cs.size) :
  (results fn tmps).run prog w=.ok (.tuple #[.agg cs,tmps.getD u undef]) w:=by
 rw[results_cell_tmp h];have hp':tmps[p]?.getD undef=.pointer (some ⟨g,0,none⟩):=by simpa using hp
 simp[hp',asAddr,run_loadVar_row w g t ty cs fr (.array n e) hg hu rfl hi]
theorem jT(w:World)(g i b j:Nat)(v:Value)(h:b≠g):(w.setCell ⟨g,i,none⟩ v).cell? ⟨b,j,none⟩=w.cell? ⟨b,j,none⟩:=by have e:=heap_setCell_other w ⟨g,i,none⟩ b v h;simp only[World.cell?,e]
theorem MI{X L:List Nat}(hx:X.length=8)(hl:L.length=8)(h:∀ j,j<8->X[j]?.getD 0=L[j]?.getD 0):X=L:=by apply ext_getElem (by omega);intro j h1 h2;have:=h j (by omega);rw[getElem?_eq_getElem h1,getElem?_eq_getElem h2]at this;exact this
theorem ax{B:Nat}{w w':World}(h:Below B w w'){g:Nat}(hg:B<=g)(cs:Array Value):Below B w (w'.setRow g cs):=by
 refine⟨h.os,h.tape,h.output,?_,fun k hk=>?_⟩
 ·show w.heap.size<=(w'.setRow g cs).heap.size;have e:(w'.setRow g cs).heap.size=w'.heap.size:=by unfold World.setRow;simp
  rw[e];exact h.size
 ·have e:(w'.setRow g cs).heap[k]? = w'.heap[k]? := by unfold World.setRow;simp only[Array.getElem?_modify];rw[if_neg (by omega)]
  rw[e];exact h.block k hk
def al:List (List Int)->Option (List Nat)
 | []=>some []
 | p::r=>put (pc p) (al r)
theorem NG{p:List Int}{r:List (List Int)}{L:List Nat}(h:al (p::r)=some L):∃ v M,pc p=some v/\al r=some M/\L=v::M:=by
 have h':put (pc p) (al r)=some L:=h;cases hp:pc p with
 | none=>rw[hp]at h';simp[put]at h'
 | some v =>
  cases hq:al r with
  | none=>rw[hp,hq]at h';simp[put]at h'
  | some M=>rw[hp,hq]at h';simp[put]at h';exact⟨v,M,rfl,rfl,h'.symm⟩
theorem yx:∀(ps:List (List Int)) (L:List Nat),al ps=some L->L.length=ps.length
 | [],L,h=>by cases h;rfl
 | p::r,L,h=>by obtain⟨v,M,_,h2,rfl⟩:=NG h;rw[length_cons,yx r M h2];rfl
theorem Ag{ps:List (List Int)}{p:List Int}(h:p∈ps)(hp:pc p=none):al ps=none:=by
 induction ps with
 | nil=>cases h
 | cons q r ih =>
  rcases List.mem_cons.1 h with rfl | h
  ·show put (pc p) (al r)=none;rw[hp];rfl
  ·show put (pc q) (al r)=none;rw[ih h];cases pc q <;> rfl
theorem Jb:∀(ps:List (List Int)) (L:List Nat),ps.map pc=L.map some->al ps=some L
 | [],[],_=>rfl
 | [],_::_,h=>by simp at h
 | _::_,[],h=>by simp at h
 | p::r,v::M,h=>by simp only[map_cons,List.cons.injEq]at h;show put (pc p) (al r)=_;rw[h.1,Jb r M h.2];rfl
def rwd(l:List Int):Option (List Nat):=if l=[] then some [] else if (spB 58 l).length<=8 then al (spB 58 l) else none
def z(n:Nat):List Nat:=List.replicate n 0
theorem Km{l:List Int}{L:List Nat}(h:rwd l=some L):L.length<=8:=by
 unfold rwd at h;split at h
 ·cases h;simp
 ·split at h
  ·rename_i h8;rw[yx _ L h];exact h8
  ·cases h
def NJ(o:Option (List Nat))(e:Ending):Prop:=(∃ v:List Nat,o=some v/\v.length<=8/\e=.returned (.tuple #[.agg (ai (v++z (8 - v.length))).toArray,.int .i64 (v.length:Int),.bool true]))\/(o=none/\∃ X:List Nat,X.length=8/\e=.returned (.tuple #[.agg (ai X).toArray,.int .i64 0,.bool false]))
theorem eu{fn:Func}{p u v:Tmp}{ty:TypeId}(h:fn.results=#[.cell p ty,.tmp u,.tmp v])(tmps:Array Value)(w:World)(g:Nat)(t:TypeId)(cs:Array Value)(fr:Nat×Nat)(n:Nat)(e:TypeId)
  (hp:tmps.getD p undef=.pointer (some ⟨g,0,none⟩)) (hg:w.heap[g]? = some (.cells cs t fr))
  (hu:prog.underlying ty=some (.array n e)) (hi:(prog.info? ty).map (·.size)=some cs.size) :
  (results fn tmps).run prog w=.ok (.tuple #[.agg cs,tmps.getD u undef,tmps.getD v undef]) w:=by
 simp only[results,h];have hp':tmps[p]?.getD undef=.pointer (some ⟨g,0,none⟩):=by simpa using hp
 simp[Result.andThen,hp',asAddr,run_loadVar_row w g t ty cs fr (.array n e) hg hu rfl hi]
def Fil(ps:List (List Int))(i:Nat)(X:List Nat):Prop:=X.length=8/\∃ L:List Nat,L.length=i/\(ps.take i).map pc=L.map some/\X=L++z (8 - i)
theorem Fil.start(ps:List (List Int)):Fil ps 0 z8:=⟨rfl,[],rfl,rfl,rfl⟩
theorem Fil.step{ps:List (List Int)}{i:Nat}{X:List Nat}{v:Nat}{p:List Int}(h:Fil ps i X)(hi:i<8)(hp:ps[i]? = some p)(hv:pc p=some v):Fil ps (i+1) (X.set i v):=by
 obtain⟨h8,L,h1,h2,h3⟩:=h;refine⟨by rw[List.length_set];exact h8,L++[v],by rw[length_append,h1];rfl,?_,?_⟩
 ·rw[List.take_add_one,hp,map_append,h2,map_append];simp[hv]
 ·rw[h3];have e:z (8 - i)=0::z (8 - (i+1)):=by unfold z;rw[show 8 - i=(8 - (i+1))+1 by omega,List.replicate_succ]
  rw[e,List.set_append_right _ _ (by omega),h1,Nat.sub_self];simp
theorem Fil.all{ps:List (List Int)}{X:List Nat}{i:Nat}(h:Fil ps i X)(hi:i=ps.length):∃ L:List Nat,al ps=some L/\L.length=ps.length/\X=L++z (8 - L.length):=by obtain⟨_,L,h1,h2,h3⟩:=h;subst hi;rw[List.take_length]at h2;exact⟨L,Jb _ _ h2,h1,by rw[h1];exact h3⟩
theorem zd(U:ByteArray)(hU:U.size<=1000000)(w:World)(hE:Er w)(hM:Mx w):Calls prog 231 #[.string U] w fun e W'=>NJ (rwd (bn U)) e/\Below w.heap.size w W':=by
 have HNO:Hid (∀ X:List Nat,rwd (bn U)=none->X.length=8->NJ (rwd (bn U)) (.returned (.tuple #[.agg (ai X).toArray,.int .i64 0,.bool false]))):=fun X h h8=>.inr ⟨h,X,h8,rfl⟩;have HYES:Hid (∀ v:List Nat,rwd (bn U)=some v->NJ (rwd (bn U)) (.returned (.tuple #[.agg (ai (v++z (8 - v.length))).toArray,.int .i64 (v.length:Int),.bool true]))):=fun v h=>.inl ⟨v,h,Km h,rfl⟩;have HB0:Hid (Below w.heap.size w (w.alloc (.cells (ai z8).toArray 24))):=(Below.refl _ w).alloc (le_refl _) _;have HA0:Hid ((w.alloc (.cells (ai z8).toArray 24)).heap[w.heap.size]? = some (.cells (ai z8).toArray 24 (0,0))):=heap_alloc_new _ _;have HZ0:Hid ((w.alloc (.cells (ai z8).toArray 24)).heap.size=w.heap.size+1):=by show _=_;simp
 have HWE:Hid (w.alloc (.cells (ai z8).toArray 24)=w.alloc (.cells #[.int .u16 0,.int .u16 0,.int .u16 0,.int .u16 0,.int .u16 0,.int .u16 0,.int .u16 0,.int .u16 0] 24)):=rfl;have HRW:Hid (U.size≠0->rwd (bn U)=if (spB 58 (bn U)).length<=8 then al (spB 58 (bn U)) else none):=fun h=>by unfold rwd;rw[if_neg (fun e=>h (by rw[<-aa,e];rfl))]
 have HRE:Hid (U.size=0->rwd (bn U)=some []):=fun h=>by unfold rwd;rw[if_pos (List.eq_nil_of_length_eq_zero (by rw[aa];exact h))]
 have hmem:=nB 58 (bn U);rw[aa]at hmem;have HMEM:=hid hmem;have HEM:=hid (aq U);have HEM0:=hid (az U);obtain⟨o,ho⟩:=Ex' (rwd (bn U));rw[ho]at HNO HYES HRW HRE ⊢;clear ho hmem;have HXL:Hid (z8.length=8):=rfl;by_cases h0:U.size=0
 ·have HR:=hid (HYES.out [] (HRE.out h0));have hem:=HEM0.out h0;clear HYES HRE HNO HRW h0 HEM HEM0;go_enter func231,ntmps231
  go_wp2_with(first
    | (refine wpList_load_row rfl 24 (.tmp 2) rfl w.heap.size rfl 24 (ai z8).toArray (0,0) _ HA0.out underlying24 rfl (aG HXL.out) ?_)
    | (refine wpList_store_row rfl 24 (.tmp 2) (.tmp 10) rfl w.heap.size (ai z8).toArray rfl rfl 24 (ai z8).toArray HA0.out (aG HXL.out) ((aY rfl).trans (aY HXL.out).symm) (dh z8) ?_))
  exact bodyPost_ret (eu results231 _ _ w.heap.size 24 (ai z8).toArray (0,0) _ _ rfl (aP HA0.out) underlying24 (aG HXL.out)) rfl ⟨HR.out,ax HB0.out (le_refl _) _⟩
 ·have hem:=HEM.out (by omega);have HRW2:=hid (HRW.out h0);have HSP:Hid (∀ W,Mx W->Calls prog 258 #[.string U,.string ⟨#[58]⟩,.int .i64 9] W fun e W'=>QX 58 8 U W e W'):=fun W hM=>gE 58 8 (by omega) U W (by omega) hM;have HMX:=hid (hM.below HB0.out);have HER:=hid (hE.below HB0.out);clear HRW HRE HEM HEM0 h0 hE hM;go_enter func231,ntmps231;go_wp2_with fail;rw[<-HWE.out];obtain⟨w1,hw1⟩:=Ex' (w.alloc (.cells (ai z8).toArray 24));rw[hw1]at HB0 HA0 HZ0 HMX HER ⊢;clear hw1 HWE;refine(HSP.out w1 HMX.out).mono ?_;rintro e w2 ⟨⟨g,c,qs,rfl,hcb,hor⟩,B1⟩;have HB1:=Bt' HB0 B1;have HER2:=hid (HER.out.below B1);have HA1:Hid (w2.heap[w.heap.size]? = some (.cells (ai z8).toArray 24 (0,0))):=(B1.block _ (by rw[HZ0.out];omega)).trans HA0.out;have HCB:=hid hcb;have hz2:w.heap.size<w2.heap.size:=by have:=HZ0.out;have:=B1.size;omega
  clear B1 HSP hcb HMX HER HA0 HB0 HZ0;by_cases h8:qs.length<=8
  ·have hqs:qs.map bn=spB 58 (bn U):=by
    rcases hor with h | h
    ·exact h.2
    ·omega
   have HSZ:Hid (∀ i,i<qs.length->(qs[i]?.getD ⟨#[]⟩).size<=1000000):=fun i hi=>by
    have h1:bn (qs[i]?.getD ⟨#[]⟩)∈spB 58 (bn U):=by rw[<-hqs,getElem?_eq_getElem hi];exact List.mem_map_of_mem (getElem_mem hi)
    have:=(HMEM.out _ h1).1;rw[aa]at this;omega
   have HO:Hid (o=al (qs.map bn)):=by show _=_;rw[HRW2.out,<-hqs,if_pos (by rw[length_map];exact h8)]
   have HLN:Hid ((qs.map bn).length=qs.length):=by show _=_;rw[length_map]
   have HPS:Hid (∀ i,i<qs.length->(qs.map bn)[i]? = some (bn (qs[i]?.getD ⟨#[]⟩))):=fun i hi=>by rw[getElem?_map,getElem?_eq_getElem hi];rfl
   obtain⟨ps,hps⟩:=Ex' (qs.map bn);rw[hps]at HO HLN HPS;obtain⟨n,hn⟩:=Ex' qs.length;rw[hn]at HCB HSZ HLN HPS h8 ⊢;clear hor hqs HMEM HRW2 hps hn;have h8z:¬ (8:Int)<(n:Int):=by omega
   have HF0:=hid (Fil.start ps);go_wp2_with fail
   go_loopw [4,19] (fun v4 v19 wr=>∃(i:Nat) (b:Bool) (X:List Nat),i<=n/\v4=.bool b/\v19=.int .i64 (i:Int)/\Hid (Fil ps i X)/\Hid (wr.heap[w.heap.size]? = some (.cells (ai X).toArray 24 (0,0)))/\Hid (∀ j,j<n->wr.cell? ⟨g,j,none⟩=some (.string (qs[j]?.getD ⟨#[]⟩)))/\Hid (Er wr)/\Hid (Below w.heap.size w wr)) (fun _ v19 _=>n - (intOf v19).toNat)
   case atStart=>exact⟨0,false,z8,by omega,rfl,rfl,HF0,HA1,HCB,HER2,HB1⟩
   case round =>
    obtain⟨i,b,X,hi,rfl,rfl,HF,HA,HC,HEr,HB⟩:=hrel;have HXL2:=hid HF.out.1;by_cases hlt:i<n
    ·have hcr:=HC.out i hlt;have HPI:=HPS.out i hlt;have HSI:=HSZ.out i hlt;obtain⟨D,hD⟩:=Ex' (qs[i]?.getD ⟨#[]⟩);rw[hD]at hcr HPI HSI;have HPP:=hid HPI;have hltz:(i:Int)<(n:Int):=by omega
     have hi8:i<8:=by omega
     have hi8z:(i:Int)<8:=by omega
     have hgb:g≠w.heap.size:=by intro e;subst e;have h1:=HC.out 0 (by omega);rw[cJ HA.out (by rw[HXL2.out];omega)]at h1;cases h1
     have hz:=Lib.lt_of_cell hcr
     have hzA:w.heap.size<wr.heap.size:=by
      rcases Nat.lt_or_ge w.heap.size wr.heap.size with h | h
      ·exact h
      ·have h5:=HA.out;rw[Array.getElem?_eq_none h]at h5;cases h5
     clear hD HPI;cases hp:pc (bn D) with
     | none =>
      have HN:Hid (o=none):=by show _=_;rw[HO.out];exact Ag (List.mem_of_getElem? HPP.out) hp
      have HPC:=hid (EU D hp (by omega) wr HEr.out);clear hp HPP HO HPS HSZ HCB HF0 HB1 HER2 HA1;go_wp2_with fail;refine HPC.out.mono ?_;rintro e w4 ⟨rfl,B4⟩;have HA4:Hid (w4.heap[w.heap.size]? = some (.cells (ai X).toArray 24 (0,0))):=(B4.block _ hzA).trans HA.out;have HB4:=Bt' HB B4;have hdst:=cJ HA4.out (j:=i) (by rw[HXL2.out];exact hi8);have hfz:=frozen_of_row w4 w.heap.size i _ _ HA4.out;have HA5:Hid ((w4.setCell ⟨w.heap.size,i,none⟩ (.int .u16 ((0:Nat):Int))).heap[w.heap.size]? = some (.cells (ai (X.set i 0)).toArray 24 (0,0))):=by show _=_;rw[heap_setCell_same w4 _ i _ _ _ HA4.out,mJ]
      have HB5:=hid (HB4.out.setCell (p:=⟨w.heap.size,i,none⟩) (le_refl _) (.int .u16 ((0:Nat):Int)));have HX5:Hid ((X.set i 0).length=8):=by show _=_;rw[List.length_set];exact HXL2.out
      clear HF HA HC HPC B4 HB HEr HXL2
      go_wp2_with(first
        | (refine wpList_load_row rfl 24 (.tmp 2) rfl w.heap.size rfl 24 (ai (X.set i 0)).toArray (0,0) _ HA5.out underlying24 rfl (aG HX5.out) ?_)
        | (refine wpList_store_row rfl 24 (.tmp 2) (.tmp 33) rfl w.heap.size (ai (X.set i 0)).toArray rfl rfl 24 (ai (X.set i 0)).toArray HA5.out (aG HX5.out) ((aY HX5.out).trans (aY HX5.out).symm) (dh (X.set i 0)) ?_))
      exact bodyPost_ret (eu results231 _ _ w.heap.size 24 (ai (X.set i 0)).toArray (0,0) _ _ rfl (aP HA5.out) underlying24 (aG HX5.out)) rfl ⟨HNO.out _ HN.out HX5.out,ax HB5.out (le_refl _) _⟩
     | some v =>
      have HF2:=hid (HF.out.step hi8 HPP.out hp);have HPC:=hid (EV D v hp wr);clear hp HPP HF;go_wp2_with fail;refine HPC.out.mono ?_;rintro e w4 ⟨rfl,B4⟩;have HA4:Hid (w4.heap[w.heap.size]? = some (.cells (ai X).toArray 24 (0,0))):=(B4.block _ hzA).trans HA.out;have HB4:=Bt' HB B4;have HE4:=hid (HEr.out.below B4);have HC4:Hid (∀ j,j<n->w4.cell? ⟨g,j,none⟩=some (.string (qs[j]?.getD ⟨#[]⟩))):=fun j hj=>(B4.cell (p:=⟨g,j,none⟩) (Lib.lt_of_cell (HC.out j hj))).trans (HC.out j hj);have hdst:=cJ HA4.out (j:=i) (by rw[HXL2.out];exact hi8);have hfz:=frozen_of_row w4 w.heap.size i _ _ HA4.out;have HA5:Hid ((w4.setCell ⟨w.heap.size,i,none⟩ (.int .u16 (v:Nat))).heap[w.heap.size]? = some (.cells (ai (X.set i v)).toArray 24 (0,0))):=by show _=_;rw[heap_setCell_same w4 _ i _ _ _ HA4.out,mJ]
      have HC5:Hid (∀ j,j<n->(w4.setCell ⟨w.heap.size,i,none⟩ (.int .u16 (v:Nat))).cell? ⟨g,j,none⟩=some (.string (qs[j]?.getD ⟨#[]⟩))):=fun j hj=>(jT w4 _ i g j _ hgb).trans (HC4.out j hj);have HB5:=hid (HB4.out.setCell (p:=⟨w.heap.size,i,none⟩) (le_refl _) (.int .u16 (v:Nat)))
      have HE5:Hid (Er (w4.setCell ⟨w.heap.size,i,none⟩ (.int .u16 (v:Nat)))):=by
       obtain⟨⟨a,h1,h2⟩,⟨a',h3,h4⟩⟩:=HE4.out;refine⟨⟨a,?_,h2⟩,⟨a',?_,h4⟩⟩
       ·refine(jT w4 _ i _ 0 _ (fun e=>?_)).trans h1;rw[e,cJ HA4.out (by rw[HXL2.out];omega)]at h1;rcases h2 with rfl | ⟨_,_,rfl⟩ <;> cases h1
       ·refine(jT w4 _ i _ 0 _ (fun e=>?_)).trans h3;rw[e,cJ HA4.out (by rw[HXL2.out];omega)]at h3;rcases h4 with rfl | ⟨_,_,rfl⟩ <;> cases h3
      clear HA HC HC4 HPC B4 HB HEr HE4 HXL2;go_wp2_with fail
      go_roundw
      case rel=>exact⟨i+1,true,X.set i v,by omega,rfl,by go_num,HF2,HA5,HC5,HE5,HB5⟩
      case measure=>simp[intOf];omega
    ·have hin:i=n:=by omega
     have hltz:¬ (i:Int)<(n:Int):=by omega
     obtain⟨L,l1,l2,l3⟩:=HF.out.all (by rw[HLN.out];exact hin);have HR:Hid (NJ o (.returned (.tuple #[.agg (ai X).toArray,.int .i64 (n:Int),.bool true]))):=by have h5:=HYES.out L (HO.out.trans l1);rw[<-l3,l2,HLN.out]at h5;exact h5
     clear l1 l2 l3 HO HPS HSZ HCB HF0 HB1 HER2 HA1 HF HC HEr HNO HYES hin
     go_wp2_with(first
       | (refine wpList_load_row rfl 24 (.tmp 2) rfl w.heap.size rfl 24 (ai X).toArray (0,0) _ HA.out underlying24 rfl (aG HXL2.out) ?_)
       | (refine wpList_store_row rfl 24 (.tmp 2) (.tmp 35) rfl w.heap.size (ai X).toArray rfl rfl 24 (ai X).toArray HA.out (aG HXL2.out) ((aY HXL2.out).trans (aY HXL2.out).symm) (dh X) ?_))
     exact bodyPost_ret (eu results231 _ _ w.heap.size 24 (ai X).toArray (0,0) _ _ rfl (aP HA.out) underlying24 (aG HXL2.out)) rfl ⟨HR.out,ax HB.out (le_refl _) _⟩
  ·have HN:Hid (o=none):=by
    show _=_;rw[HRW2.out,if_neg];rcases hor with⟨h,h5⟩ | ⟨h,_⟩
    ·have:=congrArg List.length h5;rw[length_map]at this;have h6:(spB 58 (bn U)).length=qs.length:=this.symm;omega
    ·have h6:8<(spB 58 (bn U)).length:=h;omega
   have hle:qs.length<=1000001:=by
    rcases hor with⟨h,h5⟩ | ⟨_,_,h⟩
    ·have:=congrArg List.length h5;rw[length_map]at this;omega
    ·omega
   have h8z:(8:Int)<(qs.length:Int):=by omega
   obtain⟨n,hn⟩:=Ex' qs.length;rw[hn]at h8z hle ⊢;clear hor HCB hn h8 HMEM HRW2 HYES
   go_wp2_with(first
     | (refine wpList_load_row rfl 24 (.tmp 2) rfl w.heap.size rfl 24 (ai z8).toArray (0,0) _ HA1.out underlying24 rfl (aG HXL.out) ?_)
     | (refine wpList_store_row rfl 24 (.tmp 2) (.tmp 16) rfl w.heap.size (ai z8).toArray rfl rfl 24 (ai z8).toArray HA1.out (aG HXL.out) ((aY rfl).trans (aY HXL.out).symm) (dh z8) ?_))
   exact bodyPost_ret (eu results231 _ _ w.heap.size 24 (ai z8).toArray (0,0) _ _ rfl (aP HA1.out) underlying24 (aG HXL.out)) rfl ⟨HNO.out _ HN.out HXL.out,ax HB1.out (le_refl _) _⟩
end X
end Go.Proofs.YtlmflmdmolcfhaaGreatDoor
