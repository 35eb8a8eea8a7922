/- Texts one behind the other: KN VQ VA. -/
import Derived.Test.YtkekkbciiohbkaaGreatDoorZ24
import Derived.Test.YtkekkbciiohbkaaGreatDoorZ27
import Derived.Test.YtkekkbciiohbkaaGreatDoorZ19
import Derived.Test.YtkekkbciiohbkaaGreatDoorZ4
set_option maxRecDepth 100000
set_option maxHeartbeats 16000000
set_option linter.unusedVariables false
set_option linter.unnecessarySimpa false
namespace Go.Proofs.YtkekkbciiohbkaaGreatDoor.I
open Go.RowKit
theorem j4{xs:List (List Int×Int)}{ts:List ByteArray}(h:bU xs ts):¬ qg xs:=by
 rintro⟨x,hx,hb⟩
 obtain⟨i,hi,rfl⟩:=List.mem_iff_getElem.1 hx;have h1:=h.2 i hi;rw[List.getElem?_eq_getElem hi]at h1;rcases hb with hb | hb
 ·exact hb h1.1
 ·exact hb ⟨_,h1.2⟩
theorem jZ(X:List Int)(hy:Bool)(hX:X.length≤10000)(hs:Scs X):∀ x∈prc X hy,(0≤x.2∧x.2≤768)∧x.1.length≤10000∧Scs x.1:=by
 have k:∀ x∈(spl X).map (fun l=>one l hy),0≤x.2∧x.2≤512∧x.1.length≤10000:=fun x hx=>by
  obtain⟨l,hl,rfl⟩:=List.mem_map.1 hx;exact⟨one_nonneg l hy,one_le l hy,pk l hy (by have:=qx X l hl;omega)⟩
 intro x hx
 have hsc:=yF hy hs x hx;unfold prc at hx
 split at hx
 ·obtain⟨y,hy',rfl⟩:=List.mem_map.1 hx
  have:=k y hy';refine⟨⟨?_,?_⟩,this.2.2,hsc⟩
  ·unfold dU
   simp only;split <;> omega
  ·unfold dU
   simp only;split <;> omega
 ·have:=k x hx
  exact⟨⟨this.1,by omega⟩,this.2.2,hsc⟩
theorem um(X:List Int)(hy:Bool):0<(prc X hy).length:=by
 rw[kS];obtain⟨a,t,h⟩:=bL X;rw[h];simp
theorem eo{xs:List (List Int×Int)}{ts:List ByteArray}(h:bU xs ts)(hx:∀ x∈xs,x.1.length≤10000):∀ t∈ts,t.size≤20000:=by
 intro t ht
 obtain⟨i,hi,rfl⟩:=List.mem_iff_getElem.1 ht;have hi':i<xs.length:=by rw[←h.1];exact hi
 have h1:=(h.2 i hi').2;rw[List.getElem?_eq_getElem hi',List.getElem?_eq_getElem hi]at h1;have h2:=yY h1;have h3:=hx _ (List.getElem_mem hi');rw[←U.aa];simp only[Option.getD_some]at h2;omega
theorem Ik{w0 w:World}{vo vf:Value}{n:Nat}{vs:List Value}{xs:List (List Int×Int)}(hn:n≤10000)(hp:0<n)(hb:∀ x∈xs,(0≤x.2∧x.2≤768)∧x.1.length≤10000∧Scs x.1)(hP:Pr w0 w vo vf n vs xs)(hbad:qg xs):
  Calls Tryz.prog 67 #[vo,vf] w fun e W'=>e=.panicked (fD 70)∧Below w.heap.size w W' :=
 (gY w0 w vo vf n vs xs hn hp hb hP).mono (by
   rintro e W' ⟨⟨ts,cap,h,_⟩ | ⟨_,h⟩,hB⟩
   · exact absurd hbad (j4 h)
   · exact⟨h,hB⟩)
theorem GY{w0 w:World}{vo vf:Value}{n:Nat}{vs:List Value}{xs:List (List Int×Int)}(hn:n≤10000)(hp:0<n)(hb:∀ x∈xs,(0≤x.2∧x.2≤768)∧x.1.length≤10000∧Scs x.1)(hP:Pr w0 w vo vf n vs xs)(hbad:¬ qg xs):
  Calls Tryz.prog 67 #[vo,vf] w fun e W'=>(∃ ts cap,bU xs ts∧e=.returned (.slice (some ⟨w.heap.size,0,none⟩) n cap)∧W'.ownsRow w.heap.size 9 1 (.slice (some ⟨w.heap.size,0,none⟩) n cap) n (ts.map Value.string))∧Below w.heap.size w W' :=
 (gY w0 w vo vf n vs xs hn hp hb hP).mono (by
   rintro e W' ⟨h | ⟨h,_⟩,hB⟩
   · exact⟨h,hB⟩
   · exact absurd h hbad)
theorem uY{W:World}{Bn Be:Nat}{t:ByteArray}{r:Int}(hn:Boxed W Bn 9 (.string t))(he:Boxed W Be 28 (.int .i64 r))(tmps:Array Value)(h6:tmps.getD 6 undef=.pointer (some ⟨Bn,0,none⟩))(h7:tmps.getD 7 undef=.pointer (some ⟨Be,0,none⟩)):
  (results Tryz.f42 tmps).run Tryz.prog W=.ok (.tuple #[.string t,.int .i64 r]) W:=by
 have c1:=hn.cell;have c2:=he.cell;rw[eZ (p:=6) (u:=7) (ty:=9) (tz:=28) rfl,h6,h7];have hl1:(loadVar 9 ⟨Bn,0,none⟩).run Tryz.prog W=.ok (.string t) W:=by go_simp
 have hl2:(loadVar 28 ⟨Be,0,none⟩).run Tryz.prog W=.ok (.int .i64 r) W:=by go_simp
 simp[asAddr,Result.andThen,hl1,hl2]
theorem nf{R:Ending→World→Prop}{Bn Be B:Nat}{x:ByteArray}{y r:Int}{w:World}(tmps:Array Value)(h6:tmps.getD 6 undef=.pointer (some ⟨Bn,0,none⟩))(h7:tmps.getD 7 undef=.pointer (some ⟨Be,0,none⟩))(b1:B≤Bn)(b2:B≤Be)(hn:Boxed w Bn 9 (.string x))(he:Boxed w Be 28 (.int .i64 y))
  (h:∀ w',Below B w w'→R (.returned (.tuple #[.string ⟨#[]⟩,.int .i64 r])) w') :
  Leaves Tryz.prog Tryz.f42 tmps R [{ target:=.fn (.func 66) #[.pointer (some ⟨Bn,0,none⟩),.pointer (some ⟨Be,0,none⟩)],args:=#[] }] (.panicking (fD r)) w:=by
 refine leaves_cons (f:=66) (args:=#[.pointer (some ⟨Bn,0,none⟩),.pointer (some ⟨Be,0,none⟩)]) (by simp) (by simp[go_sem]) ?_;refine(kL B Bn Be b1 b2 x y r w hn he).mono ?_;rintro e u' w' ⟨rfl,rfl,h1,h2,hB⟩
 show Leaves _ _ _ _ [] (settle _) w'
 simp only[settle];exact⟨_,uY h1 h2 tmps h6 h7,h w' hB⟩
theorem sj{R:Ending→World→Prop}{Bn Be:Nat}{t:ByteArray}{r:Int}{w:World}(tmps:Array Value)(h6:tmps.getD 6 undef=.pointer (some ⟨Bn,0,none⟩))(h7:tmps.getD 7 undef=.pointer (some ⟨Be,0,none⟩))(hn:Boxed w Bn 9 (.string t))(he:Boxed w Be 28 (.int .i64 r))
  (h:R (.returned (.tuple #[.string t,.int .i64 r])) w) :
  Leaves Tryz.prog Tryz.f42 tmps R [{ target:=.fn (.func 66) #[.pointer (some ⟨Bn,0,none⟩),.pointer (some ⟨Be,0,none⟩)],args:=#[] }] .returning w:=by
 refine leaves_cons (f:=66) (args:=#[.pointer (some ⟨Bn,0,none⟩),.pointer (some ⟨Be,0,none⟩)]) (by simp) (by simp[go_sem]) ?_;refine(tw Bn Be w).mono ?_;rintro e u' w' ⟨rfl,rfl,rfl⟩
 show Leaves _ _ _ _ [] (settle _) w'
 simp only[settle];exact⟨_,uY hn he tmps h6 h7,h⟩
theorem Hy{g n c:Nat}{ts:List ByteArray}{w:World}(hn:ts.length=n)(hp:0<n)(hnc:n≤c)(hnb:n≤10000)(hb:∀ t∈ts,t.size≤20000)(hc:∀ j,j<n→w.cell? ⟨g,j,none⟩=some (.string (ts[j]?.getD ⟨#[]⟩)))(hbad:ff (ts.map U.bn)):
  Calls Tryz.prog 69 #[.slice (some ⟨g,0,none⟩) n c] w fun e W'=>e=.panicked (fD 4)∧Below w.heap.size w W' :=
 (kx g n c ts w hn hp hnc hnb hb hc).mono (by
   rintro e W' ⟨⟨h,_⟩ | ⟨_,h⟩,hB⟩
   · exact absurd hbad h
   · exact⟨h,hB⟩)
theorem Ga{g n c:Nat}{ts:List ByteArray}{w:World}(hn:ts.length=n)(hp:0<n)(hnc:n≤c)(hnb:n≤10000)(hb:∀ t∈ts,t.size≤20000)(hc:∀ j,j<n→w.cell? ⟨g,j,none⟩=some (.string (ts[j]?.getD ⟨#[]⟩)))(hbad:¬ ff (ts.map U.bn)):
  Calls Tryz.prog 69 #[.slice (some ⟨g,0,none⟩) n c] w fun e W'=>e=.returned (.tuple #[])∧Below w.heap.size w W' :=
 (kx g n c ts w hn hp hnc hnb hb hc).mono (by
   rintro e W' ⟨⟨_,h⟩ | ⟨h,_⟩,hB⟩
   · exact⟨h,hB⟩
   · exact absurd h hbad)
theorem xh(s:ByteArray)(hy long:Bool)(w:World)(hs:s.size≤4096)(hbad:qg (prc (Mp (U.dec (U.bn s))) hy)):
  Calls Tryz.prog 42 #[.string s,.bool hy,.bool long] w fun e W'=>G8 (prc (Mp (U.dec (U.bn s))) hy) long w e W':=by
 have hmf:∀(fn:Fn) (first cap:Array Value) (w:World),(Instr.makeFunc fn first cap).run Tryz.prog w=.ok (.func fn first cap) w:=fun _ _ _ _=>rfl
 have HPR:=hid (fun W=>kr s hy W hs);have hml:=lf (U.bn s) (U.aM s);rw[U.aa]at hml;have HSX:=k9 _ (eN _ (U.aM s));have HEA:=hid (jZ _ hy (by omega) HSX);have hpos:=um (Mp (U.dec (U.bn s))) hy;have hxl:=kS (Mp (U.dec (U.bn s))) hy;have hsl:=ef (Mp (U.dec (U.bn s)));have HBAD:=hid hbad;obtain⟨xs,hxs⟩:∃ xs,prc (Mp (U.dec (U.bn s))) hy=xs:=⟨_,rfl⟩;rw[hxs]at HPR HEA hpos hxl HBAD ⊢;obtain⟨n,hn⟩:∃ n,xs.length=n:=⟨_,rfl⟩;unfold Bd at HPR
 rw[hn]at HPR hpos hxl;have hnb:n≤8193:=by omega
 clear hxs hn hxl hsl hml hbad HSX
 go_enter_defers Tryz.func42,Tryz.ntmps42
 go_wp2_with(first
   | (go_at_call 67;refine(Ik (by omega) hpos HEA.out HP.out HBAD.out).mono ?_;rintro e w4 ⟨rfl,B4⟩;have HB4:=hid B4;clear B4)
   | (go_at_call 68;refine(HPR.out _).mono ?_;rintro e w3 ⟨v3,f3,vs,rfl,hP⟩;have HP:=hid hP;obtain⟨a1,c1,rfl⟩:=dB hP.out;obtain⟨a2,c2,rfl⟩:=dC hP.flt;clear hP))
 have bN:=(Boxed.new w 9 (.string ⟨#[]⟩)).alloc (.cells #[.int .i64 0] 28);have bE:=Boxed.new (w.alloc (.cells #[.string ⟨#[]⟩] 9)) 28 (.int .i64 0);rw[World.size_alloc]at bE;have hb0:Below w.heap.size w ((w.alloc (.cells #[.string ⟨#[]⟩] 9)).alloc (.cells #[.int .i64 0] 28)):=((Below.refl _ w).alloc (Nat.le_refl _) _).alloc (by simp) _;have hB3:=HP.out.be;have hB4:=hB3.trans (HB4.out.mono hB3.size);have bN4:Boxed w4 _ _ _:=(hB4.block _ bN.lt).trans bN;have bE4:Boxed w4 _ _ _:=(hB4.block _ bE.lt).trans bE;have hB:=hb0.trans (hB4.mono (by simp;omega));refine nf _ rfl rfl (Nat.le_refl _) (Nat.le_succ _) bN4 bE4 (fun w' hw'=>?_);exact⟨⟨_,_,rfl,.inl ⟨HBAD.out,rfl,rfl⟩⟩,hB.trans hw'⟩
theorem tC(s:ByteArray)(hy long:Bool)(w:World)(hs:s.size≤4096)(hbad:¬ qg (prc (Mp (U.dec (U.bn s))) hy)):
  Calls Tryz.prog 42 #[.string s,.bool hy,.bool long] w fun e W'=>G8 (prc (Mp (U.dec (U.bn s))) hy) long w e W':=by
 have hmf:∀(fn:Fn) (first cap:Array Value) (w:World),(Instr.makeFunc fn first cap).run Tryz.prog w=.ok (.func fn first cap) w:=fun _ _ _ _=>rfl
 have HPR:=hid (fun W=>kr s hy W hs);have hml:=lf (U.bn s) (U.aM s);rw[U.aa]at hml;have HSX:=k9 _ (eN _ (U.aM s));have HEA:=hid (jZ _ hy (by omega) HSX);have hpos:=um (Mp (U.dec (U.bn s))) hy;have hxl:=kS (Mp (U.dec (U.bn s))) hy;have hsl:=ef (Mp (U.dec (U.bn s)));have HBAD:=hid hbad;obtain⟨xs,hxs⟩:∃ xs,prc (Mp (U.dec (U.bn s))) hy=xs:=⟨_,rfl⟩;rw[hxs]at HPR HEA hpos hxl HBAD ⊢;obtain⟨n,hn⟩:∃ n,xs.length=n:=⟨_,rfl⟩;have HN:=hid hn;unfold Bd at HPR
 rw[hn]at HPR hpos hxl;have hnb:n≤8193:=by omega
 clear hxs hn hxl hsl hml hbad HSX
 go_enter_defers Tryz.func42,Tryz.ntmps42
 go_upto_if 19 with(first
   | (go_at_call 67;refine(GY (by omega) hpos HEA.out HP.out HBAD.out).mono ?_;rintro e w4 ⟨⟨ts,cap,hpt,rfl,hr⟩,B4⟩;have HB4:=hid B4;have HPT:=hid hpt;have HR:=hid hr;clear B4 hpt hr)
   | (go_at_call 68;refine(HPR.out _).mono ?_;rintro e w3 ⟨v3,f3,vs,rfl,hP⟩;have HP:=hid hP;obtain⟨a1,c1,rfl⟩:=dB hP.out;obtain⟨a2,c2,rfl⟩:=dC hP.flt;clear hP))
 have bN:=(Boxed.new w 9 (.string ⟨#[]⟩)).alloc (.cells #[.int .i64 0] 28);have bE:=Boxed.new (w.alloc (.cells #[.string ⟨#[]⟩] 9)) 28 (.int .i64 0);rw[World.size_alloc]at bE;have hb0:Below w.heap.size w ((w.alloc (.cells #[.string ⟨#[]⟩] 9)).alloc (.cells #[.int .i64 0] 28)):=((Below.refl _ w).alloc (Nat.le_refl _) _).alloc (by simp) _;have hB3:=HP.out.be;have hB4:=hB3.trans (HB4.out.mono hB3.size);have HBN:=hid (show Boxed w4 _ _ _ from(hB4.block _ bN.lt).trans bN);have HBE:=hid (show Boxed w4 _ _ _ from(hB4.block _ bE.lt).trans bE);have HBB:=hid (hb0.trans (hB4.mono (by simp;omega)))
 have HTL:Hid (ts.length=n):=by
  show _=_
  have h1:=HPT.out.1;have h2:=HN.out;omega
 have HSZ:=hid (eo HPT.out (fun x hx=>(HEA.out x hx).2.1))
 have HCC:Hid (∀ j,j<n→w4.cell? ⟨w3.heap.size,j,none⟩=some (.string (ts[j]?.getD ⟨#[]⟩))):=fun j hj=>by
  have h1:=HR.out.cellAt j (by omega);rw[List.getElem?_map,List.getElem?_eq_getElem (show j<ts.length by have:=HTL.out;omega)]at h1;rw[List.getElem?_eq_getElem (show j<ts.length by have:=HTL.out;omega)];exact h1
 have hcapp:n≤cap:=by
  rcases HR.out.2 with⟨h,_⟩ | ⟨g,cap',cur,h,_,_,hnc,_⟩
  ·cases h
  ·cases h;exact hnc
 have HJL:Hid ((join (ts.map U.bn)).length≤1000000000):=by
  show _≤_
  have h1:=cH (ts.map U.bn) 20000 (fun l hl=>by
    obtain⟨t,ht,rfl⟩:=List.mem_map.1 hl
    rw[U.aa]
    exact HSZ.out t ht)
  rw[List.length_map,HTL.out]at h1;have h2:n * (20000+1)≤10000 * 20001:=Nat.mul_le_mul (by omega) (by omega);omega
 clear bN bE hb0 hB3 hB4 HR HP HB4 HEA HPR;cases long with
 | false =>
  have HJ:=hid (gM w3.heap.size cap n ts HTL.out w4 HCC.out hpos hcapp (by omega) HJL.out)
  go_wp2_with(go_at_call 70;refine HJ.out.mono ?_;rintro e w6 ⟨⟨t,rfl,ht⟩,B6⟩;have HT:=hid ht;have bN6:Boxed w6 _ _ _:=((B6.block _ HBN.out.lt).trans HBN.out);have bE6:Boxed w6 _ _ _:=((B6.block _ HBE.out.lt).trans HBE.out);have cn6:=bN6.cell;have fn6:=bN6.frozen;have ce6:=bE6.cell;have fe6:=bE6.frozen;have ce7:=(bj bE6 bN6 (by decide) (.string t)).cell;have fe7:=(bj bE6 bN6 (by decide) (.string t)).frozen;have HN6:=hid bN6;have HE6:=hid bE6;have HB6:=hid (HBB.out.trans (B6.mono HBB.out.size));clear ht B6 bN6 bE6)
  have xE:=bj HE6.out HN6.out (by decide) (.string t);have xN:=HN6.out.set (.string t);refine sj _ rfl rfl (bj xN xE (by decide) (.int .i64 0)) (xE.set (.int .i64 0)) ?_;exact⟨⟨_,_,rfl,.inr ⟨ts,HPT.out,.inr ⟨fun h=>absurd h.1 (by decide),HT.out,rfl⟩⟩⟩,(HB6.out.setCell (p:=⟨w.heap.size,0,none⟩) (Nat.le_refl _) _).setCell (p:=⟨w.heap.size+1,0,none⟩) (Nat.le_succ _) _⟩
 | true =>
  by_cases hbl:ff (ts.map U.bn)
  ·have HM:=hid (Hy HTL.out hpos hcapp (by omega) HSZ.out HCC.out hbl)
   have HBL:=hid hbl;clear hbl
   go_wp2_with(go_at_call 69;refine HM.out.mono ?_;rintro e w5 ⟨rfl,B5⟩;have HB5:=hid B5;clear B5)
   have bN5:Boxed w5 _ _ _:=(HB5.out.block _ HBN.out.lt).trans HBN.out;have bE5:Boxed w5 _ _ _:=(HB5.out.block _ HBE.out.lt).trans HBE.out;refine nf _ rfl rfl (Nat.le_refl _) (Nat.le_succ _) bN5 bE5 (fun w' hw'=>?_);exact⟨⟨_,_,rfl,.inr ⟨ts,HPT.out,.inl ⟨rfl,HBL.out,rfl,rfl⟩⟩⟩,(HBB.out.trans (HB5.out.mono HBB.out.size)).trans hw'⟩
  ·have HM:=hid (Ga HTL.out hpos hcapp (by omega) HSZ.out HCC.out hbl)
   have HBL:=hid hbl;clear hbl
   have HJW:Hid (∀ W,Below w4.heap.size w4 W→Calls Tryz.prog 70 #[.slice (some ⟨w3.heap.size,0,none⟩) n cap,.string ⟨#[46]⟩] W fun e W'=>(∃ t,e=.returned (.string t)∧U.bn t=join (ts.map U.bn))∧Below W.heap.size W W'):=fun W hW =>
    gM w3.heap.size cap n ts HTL.out W (fun j hj=>(hW.cell (p:=⟨w3.heap.size,j,none⟩) (U.lt_of_cell (HCC.out j hj))).trans (HCC.out j hj)) hpos hcapp (by omega) HJL.out
   go_upto_region 7 with(go_at_call 69;refine HM.out.mono ?_;rintro e w5 ⟨rfl,B5⟩;have HB5:=hid B5;clear B5)
   have HJ:=hid (HJW.out w5 HB5.out)
   replace HBN:=hid (show Boxed w5 _ _ _ from(HB5.out.block _ HBN.out.lt).trans HBN.out)
   replace HBE:=hid (show Boxed w5 _ _ _ from(HB5.out.block _ HBE.out.lt).trans HBE.out)
   replace HBB:=hid (HBB.out.trans (HB5.out.mono HBB.out.size))
   go_wp2_with(go_at_call 70;refine HJ.out.mono ?_;rintro e w6 ⟨⟨t,rfl,ht⟩,B6⟩;have HT:=hid ht;have bN6:Boxed w6 _ _ _:=((B6.block _ HBN.out.lt).trans HBN.out);have bE6:Boxed w6 _ _ _:=((B6.block _ HBE.out.lt).trans HBE.out);have cn6:=bN6.cell;have fn6:=bN6.frozen;have ce6:=bE6.cell;have fe6:=bE6.frozen;have ce7:=(bj bE6 bN6 (by decide) (.string t)).cell;have fe7:=(bj bE6 bN6 (by decide) (.string t)).frozen;have HN6:=hid bN6;have HE6:=hid bE6;have HB6:=hid (HBB.out.trans (B6.mono HBB.out.size));clear ht B6 bN6 bE6)
   have xE:=bj HE6.out HN6.out (by decide) (.string t);have xN:=HN6.out.set (.string t);refine sj _ rfl rfl (bj xN xE (by decide) (.int .i64 0)) (xE.set (.int .i64 0)) ?_;exact⟨⟨_,_,rfl,.inr ⟨ts,HPT.out,.inr ⟨fun h=>HBL.out h.2,HT.out,rfl⟩⟩⟩,(HB6.out.setCell (p:=⟨w.heap.size,0,none⟩) (Nat.le_refl _) _).setCell (p:=⟨w.heap.size+1,0,none⟩) (Nat.le_succ _) _⟩
theorem xi(s:ByteArray)(hy long:Bool)(w:World)(hs:s.size≤4096):
  Calls Tryz.prog 42 #[.string s,.bool hy,.bool long] w fun e W'=>G8 (prc (Mp (U.dec (U.bn s))) hy) long w e W':=by
 by_cases h:qg (prc (Mp (U.dec (U.bn s))) hy)
 ·exact xh s hy long w hs h
 ·exact tC s hy long w hs h
theorem jt{l p q:List Int}(h:Part l p)(k:Part l q):p=q:=by
 rcases h with⟨h1,rfl⟩ | ⟨h1,T,hE,_,_,_,rfl⟩
 ·exact((l9 h1 q).1 k).symm
 ·rcases k with⟨k1,_⟩ | ⟨_,T',hE',_,_,_,rfl⟩
  ·rw[h1]at k1;cases k1
  ·rw[hE.one hE']
theorem nC{xs:List (List Int×Int)}{ts us:List ByteArray}(h:bU xs ts)(k:bU xs us):ts.map U.bn=us.map U.bn:=by
 apply List.ext_getElem
 ·simp[h.1,k.1]
 ·intro i h1 h2
  rw[List.length_map]at h1 h2;have hi:i<xs.length:=by rw[←h.1];exact h1
  have a:=(h.2 i hi).2;have b:=(k.2 i hi).2;rw[List.getElem?_eq_getElem hi,List.getElem?_eq_getElem h1]at a;rw[List.getElem?_eq_getElem hi,List.getElem?_eq_getElem h2]at b;simp only[List.getElem_map];exact jt a b
def tH(xs:List (List Int×Int))(long:Bool)(t:ByteArray)(r:Int):Prop :=
 (qg xs∧t=⟨#[]⟩∧r=70)∨(∃ ts,bU xs ts∧((long=true∧ff (ts.map U.bn)∧t=⟨#[]⟩∧r=4)∨(¬ (long=true∧ff (ts.map U.bn))∧U.bn t=join (ts.map U.bn)∧r=0)))
theorem si{xs:List (List Int×Int)}{long:Bool}{t u:ByteArray}{r q:Int}(h:tH xs long t r)(k:tH xs long u q):t=u∧r=q:=by
 rcases h with⟨h1,rfl,rfl⟩ | ⟨ts,h1,h2⟩
 ·rcases k with⟨k1,rfl,rfl⟩ | ⟨us,k1,_⟩
  ·exact⟨rfl,rfl⟩
  ·exact absurd h1 (j4 k1)
 ·rcases k with⟨k1,_⟩ | ⟨us,k1,k2⟩
  ·exact absurd k1 (j4 h1)
  ·rw[nC h1 k1]at h2
   rcases h2 with⟨a,b,rfl,rfl⟩ | ⟨a,b,rfl⟩
   ·rcases k2 with⟨_,_,rfl,rfl⟩ | ⟨c,_⟩
    ·exact⟨rfl,rfl⟩
    ·exact absurd ⟨a,b⟩ c
   ·rcases k2 with⟨c,d,_⟩ | ⟨c,d,rfl⟩
    ·exact absurd ⟨c,d⟩ a
    ·exact⟨P.av (b.trans d.symm),rfl⟩
theorem tB(s:ByteArray)(hy long:Bool)(w:World)(hs:s.size≤4096):
  Calls Tryz.prog 42 #[.string s,.bool hy,.bool long] w fun e W'=>(∃ t r,e=.returned (.tuple #[.string t,.int .i64 r])∧tH (prc (Mp (U.dec (U.bn s))) hy) long t r)∧Below w.heap.size w W':=xi s hy long w hs
theorem oa{xs:List (List Int×Int)}{ts:List ByteArray}(h:bU xs ts):noF xs=true:=by
 unfold noF;rw[List.all_eq_true];intro x hx
 obtain⟨i,hi,rfl⟩:=List.mem_iff_getElem.1 hx;have h1:=(h.2 i hi).1;rw[List.getElem?_eq_getElem hi]at h1;exact decide_eq_true h1
theorem GA:∃ f:List Int→List Int,∀ l p,Part l p→f l=p:=by
 classical
 refine⟨fun l=>if h:∃ p,Part l p then h.choose else [],fun l p h=>?_⟩;have hex:∃ p,Part l p:=⟨p,h⟩;show(if h:∃ p,Part l p then h.choose else [])=p
 rw[dif_pos hex];exact jt hex.choose_spec h
theorem vR{prt:List Int→List Int}(prt_is:∀ l p,Part l p→prt l=p){xs:List (List Int×Int)}{ts:List ByteArray}(h:bU xs ts):(xs.map (·.1)).map prt=ts.map U.bn∧∀ l∈xs.map (·.1),Part l (prt l):=by
 have key:∀ i (hi:i<xs.length),Part xs[i].1 (U.bn (ts[i]'(by rw[h.1];exact hi))):=fun i hi=>by
  have h1:=(h.2 i hi).2;rw[List.getElem?_eq_getElem hi,List.getElem?_eq_getElem (show i<ts.length by rw[h.1];exact hi)]at h1;exact h1
 constructor
 ·apply List.ext_getElem
  ·simp[h.1]
  ·intro i h1 h2
   simp only[List.length_map]at h1 h2;simp only[List.getElem_map];exact prt_is _ _ (key i h1)
 ·intro l hl
  obtain⟨x,hx,rfl⟩:=List.mem_map.1 hl;obtain⟨i,hi,rfl⟩:=List.mem_iff_getElem.1 hx;rw[prt_is _ _ (key i hi)];exact key i hi
theorem qC{l:List Int}{hy:Bool}{ts:List ByteArray}(h:bU (prc (Mp (U.dec l)) hy) ts):
  prc (Mp (U.dec (join (ts.map U.bn)))) hy=prc (Mp (U.dec l)) hy∧∀ c∈join (ts.map U.bn),0≤c∧c<128:=by
 obtain⟨hok,hxs⟩:=Fv (oa h);obtain⟨prt,hprt⟩:=GA;obtain⟨e1,hp⟩:=vR hprt h
 have hch:∀ c∈join (ts.map U.bn),0≤c∧c<128:=by
  rw[←e1];refine mx (p:=fun c=>0≤c∧c<128) ⟨by omega,by omega⟩ _ (fun a ha=>?_);obtain⟨y,hy',rfl⟩:=List.mem_map.1 ha;intro c hc
  exact((cU (hok.flt y hy') (hp y hy')).2.2 c hc).1
 constructor
 ·have hd:U.dec (join (ts.map U.bn))=join (ts.map U.bn):=P.k7 _ (fun c hc=>by have:=hch c hc;omega) (by
    unfold P.asc
    rw[List.all_eq_true]
    intro c hc
    exact decide_eq_true (hch c hc).2)
  rw[hd,←e1,Fh hok prt hp];exact hxs.symm
 ·exact hch
theorem uh{l:List Int}{a:ByteArray}{hy long:Bool}(h:tH (prc (Mp (U.dec l)) hy) long a 0):tH (prc (Mp (U.dec (U.bn a))) hy) long a 0∧∀ c∈U.bn a,0≤c∧c<128:=by
 rcases h with⟨_,_,h⟩ | ⟨ts,hp,⟨_,_,_,h⟩ | ⟨hnb,hj,_⟩⟩
 ·cases h
 ·cases h
 ·have hr:=qC hp
  refine⟨?_,?_⟩
  ·rw[hj,hr.1]
   exact .inr ⟨ts,hp,.inr ⟨hnb,hj,rfl⟩⟩
  ·rw[hj];exact hr.2
theorem uP(l:List Int)(h:U.Bytes l):∃ t:ByteArray,U.bn t=l:=by
 refine⟨⟨(l.map fun c=>UInt8.ofNat c.toNat).toArray⟩,?_⟩;unfold U.bn;rw[List.toList_toArray,List.map_map]
 conv=>rhs;rw[←List.map_id l]
 apply List.map_congr_left;intro c hc
 have:=h c hc;show(((UInt8.ofNat c.toNat).toNat:Nat):Int)=c
 rw[UInt8.toNat_ofNat',Nat.mod_eq_of_lt (by omega)];omega
theorem Ag:∀(ls:List (List Int)),(∀ l∈ls,U.Bytes l)→∃ ts:List ByteArray,ts.map U.bn=ls
 | [],_=>⟨[],rfl⟩
 | l::ls,h=>by
  obtain⟨t,ht⟩:=uP l (h l (by simp));obtain⟨ts,hts⟩:=Ag ls (fun x hx=>h x (by simp[hx]));exact⟨t::ts,by rw[List.map_cons,ht,hts]⟩
def ldd(c:Int):Prop:=ld c∨c=46
theorem CV{l:List Int}(h:∀ c∈l,ldd c)(hy:Bool):prc (Mp (U.dec l)) hy=(spl l).map fun x=>(x,0):=by
 have hasc:∀ c∈l,0≤c∧c<128:=fun c hc=>by
  have:=h c hc;unfold ldd ld at this
  omega
 have hd:U.dec l=l:=P.k7 _ (fun c hc=>by have:=hasc c hc;omega) (by
   unfold P.asc
   rw[List.all_eq_true]
   intro c hc
   exact decide_eq_true (hasc c hc).2)
 have hM:Mp l=l:=by
  unfold Mp;rw[j8 _ (fun r hr=>.inl (fl r (by have:=h r hr;unfold ldd ld at this;omega)))];exact(iA l hasc).1
 have hl:∀ x∈spl l,∀ c∈x,ld c:=fun x hx c hc=>by
  have h1:=qy l x hx
  have key:∀(ls:List (List Int)),x∈ls→c∈join ls:=by
   intro ls
   induction ls with
   | nil=>intro h;simp at h
   | cons b t ih =>
    intro hm
    cases t with
    | nil=>simp at hm;rw[←hm];exact hc
    | cons d t =>
     rw[join];rcases List.mem_cons.1 hm with rfl | hm
     ·simp[hc]
     ·have:=ih hm
      simp[this]
  have h2:=h c (by rw[←gL l];exact key _ hx);rcases h2 with h2 | rfl
  ·exact h2
  ·exact absurd hc h1
 have hm:(spl l).map (fun x=>one x hy)=(spl l).map fun x=>(x,0):=List.map_congr_left (fun x hx=>qS (Gf x hy (hl x hx)))
 rw[hd,hM];unfold prc;rw[hm]
 have hr:jb ((spl l).map fun x=>(x,(0:Int)))=false:=by
  unfold jb;rw[any_map,List.any_eq_false];intro x hx
  have:=zC x (hl x hx);simp[this]
 rw[if_neg (by rw[hr];decide)]
theorem rf{t:ByteArray}(h:∀ c∈U.bn t,ldd c)(hy:Bool):tH (prc (Mp (U.dec (U.bn t))) hy) false t 0:=by
 rw[CV h hy]
 have hpl:∀ x∈spl (U.bn t),∀ c∈x,0≤c∧c<128:=fun x hx c hc=>by
  have key:∀(ls:List (List Int)),x∈ls→c∈join ls:=by
   intro ls
   induction ls with
   | nil=>intro h;simp at h
   | cons b t ih =>
    intro hm
    cases t with
    | nil=>simp at hm;rw[←hm];exact hc
    | cons d t =>
     rw[join];rcases List.mem_cons.1 hm with rfl | hm
     ·simp[hc]
     ·have:=ih hm
      simp[this]
  have h2:=h c (by rw[←gL (U.bn t)];exact key _ hx);unfold ldd ld at h2
  omega
 ·obtain⟨ts,hts⟩:=Ag (spl (U.bn t)) (fun x hx c hc=>by have:=hpl x hx c hc;omega)
  refine .inr ⟨ts,⟨?_,fun i hi=>?_⟩,.inr ⟨fun h=>absurd h.1 (by decide),by rw[hts,gL],rfl⟩⟩
  ·rw[List.length_map,←hts,List.length_map]
  ·rw[List.length_map]at hi
   have hit:i<ts.length:=by have:=congrArg List.length hts;rw[List.length_map]at this;omega
   rw[List.getElem?_map,List.getElem?_eq_getElem hi,List.getElem?_eq_getElem hit];refine⟨rfl,.inl ⟨cn.2 (hpl _ (List.getElem_mem hi)),?_⟩⟩;have:(ts.map U.bn)[i]? = (spl (U.bn t))[i]? := by rw[hts]
   rw[List.getElem?_map,List.getElem?_eq_getElem hit,List.getElem?_eq_getElem hi]at this;exact Option.some.inj this
end Go.Proofs.YtkekkbciiohbkaaGreatDoor.I
namespace Go.Proofs.YtkekkbciiohbkaaGreatDoor.H
open Go.RowKit
def IA(s t:List Int)(r:Int):Prop:=∃ T:ByteArray,U.bn T=t∧I.tH (I.prc (I.Mp (U.dec s)) false) false T r
theorem asc:Asc IA where
 one:=by
  rintro s t u r q ⟨T,rfl,h⟩ ⟨V,rfl,k⟩
  obtain⟨rfl,rfl⟩:=I.si h k;exact⟨rfl,rfl⟩
 rest:=by
  rintro s t ⟨T,rfl,h⟩
  exact⟨T,rfl,(I.uh h).1⟩
 low:=by
  rintro s t ⟨T,rfl,h⟩
  exact(I.uh h).2
 num:=by
  intro t ht
  obtain⟨T,rfl⟩:=I.uP t (fun c hc=>by have:=ht c hc;omega)
  exact⟨T,rfl,I.rf (fun c hc=>by
    unfold I.ldd I.ld
    have:=ht c hc
    omega) false⟩
 cap:=by
  obtain⟨T,hT⟩:=I.uP [101,120,97,109,112,108,101,46,99,111,109] (fun c hc=>by simp at hc;omega);refine⟨T,hT,?_⟩
  have h:=I.rf (t:=T) (fun c hc=>by
    rw[hT]at hc
    unfold I.ldd I.ld
    simp at hc
    omega) false
  have ha:I.bC (U.bn T) [69,88,65,77,80,76,69,46,99,111,109]:=by
   rw[hT];exact I.bC.cons (I.Alt.cap 101 (by decide)) (I.bC.cons (I.Alt.cap 120 (by decide)) (I.bC.cons (I.Alt.cap 97 (by decide)) (I.bC.cons (I.Alt.cap 109 (by decide)) (I.bC.cons (I.Alt.cap 112 (by decide)) (I.bC.cons (I.Alt.cap 108 (by decide)) (I.bC.cons (I.Alt.cap 101 (by decide)) (I.bC.cons (I.Alt.same 46) (I.bC.cons (I.Alt.same 99) (I.bC.cons (I.Alt.same 111) (I.bC.cons (I.Alt.same 109) I.bC.nil))))))))))
  have e:=I.jR (U.bn T).length (U.bn T) _ (Nat.le_refl _) (U.aM T) ha;unfold I.Mp at h ⊢
  rw[e];exact h
 len:=by
  rintro s t ⟨T,rfl,h⟩ hb hl
  rcases h with⟨_,_,h⟩ | ⟨ts,hp,⟨_,_,_,h⟩ | ⟨_,hj,_⟩⟩
  ·cases h
  ·cases h
  ·have hX:=I.lf s hb
   have hsc:=I.k9 _ (I.eN s hb);have he:=I.jZ (I.Mp (U.dec s)) false (by omega) hsc;have hz:=I.eo hp (fun x hx=>(he x hx).2.1)
   have hn:ts.length≤8193:=by
    rw[hp.1];rw[I.kS];have:=I.ef (I.Mp (U.dec s));omega
   rw[hj]
   have hjl:=I.join_len' (ts.map U.bn) 20000 (fun l hl=>by
     obtain⟨t,ht,rfl⟩:=List.mem_map.1 hl
     rw[U.aa];exact hz t ht)
   rw[List.length_map]at hjl;have h2:ts.length * (20000+1)≤8193 * (20000+1):=Nat.mul_le_mul_right _ hn;omega
 bln:=by
  rintro d r ⟨T,rfl,h⟩
  left
  have e:I.prc (I.Mp (U.dec [97,32,98])) false=[([97,32,98],64)]:=by decide +kernel
  rw[e]at h;rcases h with⟨_,_,rfl⟩ | ⟨ts,hp,_⟩
  ·decide
  ·exact absurd (I.oa hp) (by decide)
def ver(s:List Int)(i:Nat):Prop:=s[i]?.getD 0=37∨(1≤i∧s[i - 1]?.getD 0=37)∨(2≤i∧s[i - 2]?.getD 0=37)
def Sp(c:Int)(g:List Int):Prop:=g=[c]∨(c≠37∧∃ a b,g=[37,a,b]∧0≤E.hx a∧0≤E.hx b∧16 * E.hx a+E.hx b=c)∨((97≤c∧c≤122)∧g=[c - 32])
end Go.Proofs.YtkekkbciiohbkaaGreatDoor.H
