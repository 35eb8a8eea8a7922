/- Texts one behind the other: KB KH KI. -/
import Derived.Test.YtkekkbciiohbkaaGreatDoorZ20
import Derived.Test.YtkekkbciiohbkaaGreatDoorZ22
import Derived.Test.YtkekkbciiohbkaaGreatDoorZ24
import Derived.Test.YtkekkbciiohbkaaGreatDoorZ26
import Derived.Test.YtkekkbciiohbkaaGreatDoorZ21
set_option maxRecDepth 100000
set_option maxHeartbeats 16000000
set_option linter.unusedVariables false
set_option linter.unnecessarySimpa false
namespace Go.Proofs.YtkekkbciiohbkaaGreatDoor.I
open Go.RowKit
theorem pA(s:ByteArray)(w:World)(hs:s.size≤4096):
  Calls Tryz.prog 109 #[.string s] w fun e W'=>N.nk (Mp (U.dec (U.bn s))) w e W':=by
 have hdl:=U.fZ (U.bn s).length (U.bn s) (Nat.le_refl _) (U.aM s);have hml:=CL (U.bn s) (U.aM s);rw[U.aa]at hdl hml;have HDEC:=hid (U.mS s (by omega) w);have HMP:Hid (Mp (U.dec (U.bn s))=N.cK ((U.dec (U.bn s)).flatMap mpx)):=rfl;obtain⟨l,hl⟩:∃ l,U.dec (U.bn s)=l:=⟨_,rfl⟩;rw[hl]at HDEC HMP hdl hml ⊢;obtain⟨M,hM⟩:∃ M,Mp l=M:=⟨_,rfl⟩;rw[hM]at HMP ⊢;obtain⟨n,hn⟩:∃ n,l.length=n:=⟨_,rfl⟩;have HN:=hid hn;have HML:=hid hml;rw[hn]at HDEC hdl;clear hl hM hn hml;go_enter Tryz.func109,Tryz.ntmps109
 go_wp2_with fail;refine HDEC.out.mono ?_;rintro e w1 ⟨v1,rfl,r1,B1⟩
 obtain⟨a1,c1,rfl⟩:=bG r1;have HI:=hid (U.au.own HN.out.symm r1);obtain⟨a,c,he,hf⟩:=L.aF HI.out;rw[HN.out]at he hf;cases he
 have HF:=hid hf;have HB1:=hid B1;clear r1 B1 HDEC hf
 go_wp2_with fail
 go_loopw [3,9] (fun v4 v5 wr=>∃(k m c:Nat) (a:Option Addr),k≤n∧m≤8 * k∧v4=.slice a m c∧v5=.int .i64 k∧Hid (m=((l.take k).flatMap mpx).length)∧Hid (wr.ownsRow w1.heap.size 21 1 (.slice a m c) m (((l.take k).flatMap mpx).map (Value.int .i32)))∧Hid (Below w1.heap.size w1 wr)) (fun _ v5 _=>n - (intOf v5).toNat)
 case atStart=>exact⟨0,0,0,none,Nat.zero_le _,Nat.le_refl _,rfl,rfl,rfl,World.ownsRow_nil _ _ _ _,Below.refl _ _⟩
 case round =>
  obtain⟨k,m,c,a,hk,hmk,rfl,rfl,HM,HR,HB⟩:=hrel;by_cases hlt:k<n
  ·obtain⟨b,off,rfl,hck⟩:=L.dS HF.out HB.out k hlt
   have HT:=hid (zu l k (by rw[HN.out];exact hlt));have hml:=CK (l[k]?.getD 0);have HST:=hid (fun W=>D.lN (l[k]?.getD 0) W);have HRM:=hid (fun W=>D.pA (l[k]?.getD 0) W);have HMX:Hid (mpx (l[k]?.getD 0)=if (D.fnd (l[k]?.getD 0)).2.2.1=0 then [l[k]?.getD 0] else D.mp (l[k]?.getD 0)):=rfl;obtain⟨y2,h2⟩:∃ y,(D.fnd (l[k]?.getD 0)).2.2.1=y:=⟨_,rfl⟩;rw[h2]at HMX HST;obtain⟨Z,hZ⟩:∃ Z,mpx (l[k]?.getD 0)=Z:=⟨_,rfl⟩;rw[hZ]at HT HMX hml;obtain⟨x,hx⟩:∃ x,l[k]?.getD 0=x:=⟨_,rfl⟩;rw[hx]at hck HRM HMX HST;obtain⟨Y,hY⟩:∃ Y,(l.take k).flatMap mpx=Y:=⟨_,rfl⟩;rw[hY]at HT HM HR;clear h2 hx hZ hY;have z1:=HB.out.size;by_cases h0:y2=0
   ·subst h0
    have HZ:Hid (Z=[x]):=by show _=_;rw[HMX.out,if_pos rfl]
    clear HMX
    go_wp2_with(first
      | (at_builtin;refine U.bF rfl _ _ rfl w1.heap.size _ m Y rfl (R2.out.alloc _) _ [x] rfl (.inr ⟨⟨w2.heap.size,0,none⟩,1,rfl,fun j hj=>by(have hj0:j=0:=by(simp only[List.length_cons,List.length_nil]at hj;omega));subst hj0;rw[U.dZ];exact(Boxed.new w2 21 (.int .i32 x)).cell⟩) (by simp only[List.length_cons,List.length_nil];omega) (by simp;omega) ?_;intro v3 w3 r3 g3;simp only[List.length_cons,List.length_nil,Nat.zero_add]at r3;obtain⟨a3,c3,rfl⟩:=bG r3)
      | (go_at_call 155;refine(HST.out _).mono ?_;rintro e w2 ⟨rfl,B2⟩;have R2:=hid (U.ax HR.out B2 (Nat.le_refl _));have HB2:=hid (HB.out.trans (B2.mono HB.out.size));have z2:=HB2.out.size;clear B2))
    go_roundw
    case rel =>
     refine⟨k+1,m+1,c3,a3,by omega,by omega,rfl,by go_num,by show _=_;rw[HT.out,HZ.out,List.length_append,←HM.out];rfl,?_,U.below_grow (w1:=w2.alloc (.cells #[.int .i32 x] 21)) (HB2.out.alloc HB2.out.size _) (Nat.le_trans HB2.out.size (by simp)) (R2.out.alloc _) g3⟩;show World.ownsRow _ _ _ _ _ _ _
     rw[HT.out,HZ.out];exact r3
    case measure=>simp[intOf];omega
   ·have h0b:(y2==0)=false:=by simpa using h0
    have hZ:Z=D.mp x:=by rw[HMX.out,if_neg h0]
    rw[←hZ]at HRM;obtain⟨q,hq⟩:∃ q,Z.length=q:=⟨_,rfl⟩;have HQ:=hid hq;rw[hq]at hml;clear HMX hZ hq
    go_wp2_with(first
      | (at_builtin;refine U.bF rfl _ _ rfl w1.heap.size _ m Y rfl R3.out _ Z rfl S3.out (by have:=HQ.out;omega) HB3.out.size ?_;intro v4 w4 r4 g4;rw[HQ.out]at r4;obtain⟨a4,c4,rfl⟩:=bG r4)
      | (go_at_call 156;refine(HRM.out _).mono ?_;rintro e w3 ⟨⟨v3,rfl,hI3⟩,B3⟩;have R3:=hid (U.ax R2.out B3 (Nat.le_refl _));have HB3:=hid (HB2.out.trans (B3.mono HB2.out.size));have S3:=hid (Eo hI3);obtain⟨a3,c3,hv3,_,_⟩:=id hI3;rw[HQ.out]at hv3;subst hv3;clear hI3 B3)
      | (go_at_call 155;refine(HST.out _).mono ?_;rintro e w2 ⟨rfl,B2⟩;have R2:=hid (U.ax HR.out B2 (Nat.le_refl _));have HB2:=hid (HB.out.trans (B2.mono HB.out.size));have z2:=HB2.out.size;clear B2))
    go_roundw
    case rel =>
     refine⟨k+1,m+q,c4,a4,by omega,by omega,rfl,by go_num,by show _=_;rw[HT.out,List.length_append,←HM.out,HQ.out],?_,U.below_grow HB3.out HB3.out.size R3.out g4⟩;show World.ownsRow _ _ _ _ _ _ _
     rw[HT.out];exact r4
    case measure=>simp[intOf];omega
  ·have hkk:l.take k=l:=List.take_of_length_le (by rw[HN.out];omega)
   rw[hkk]at HM HR;have hl8:=HML.out;have HC:=hid (N.uA _ (l.flatMap mpx) wr (by omega) (N.bA.of_own HM.out HR.out));clear hkk
   go_wp2_with fail;refine HC.out.mono ?_;rintro e w2 ⟨v2,rfl,r2,B2⟩
   rw[←HMP.out]at r2;obtain⟨a2,c2,rfl⟩:=bG r2;have R2:=hid r2;have BB:=hid (HB1.out.trans (((HB.out.trans (B2.mono HB.out.size))).mono HB1.out.size));have z1:=HB1.out.size;have z2:=HB.out.size;clear r2 B2;go_wp2;go_ret;exact⟨_,rfl,N.mc R2.out (by omega),BB.out⟩
open Go.RowKit Go.Shelf
theorem aB{W:World}{B B':Nat}{t t':TypeId}{v x:Value}(h:Boxed W B t v)(h':Boxed W B' t' x)(ht:t≠t')(u:Value):Boxed (W.setCell ⟨B',0,none⟩ u) B t v :=
 h.other (fun e=>by subst e;have h1:W.heap[B]? = _:=h;have h2:W.heap[B]? = _:=h';rw[h1]at h2;cases h2;exact ht rfl) u
structure Pf(w W:World)(B0 Bh Bf Br:Nat)(hy rt:Bool)(vf:Value)(fs:List Int):Prop where
 bh:Boxed W Bh 4 (.bool hy)
 bf:Boxed W Bf 66 vf
 br:Boxed W Br 4 (.bool rt)
 flt:W.ownsRow B0 23 1 vf fs.length (fs.map (Value.int .u16))
 n1:Bh≠Br
 n2:w.heap.size≤Bf
 n3:w.heap.size≤Br
theorem Pf.below{w W W':World}{B0 Bh Bf Br:Nat}{hy rt:Bool}{vf:Value}{fs:List Int}(h:Pf w W B0 Bh Bf Br hy rt vf fs)(hb:Below W.heap.size W W'):Pf w W' B0 Bh Bf Br hy rt vf fs :=
 ⟨(hb.block _ h.bh.lt).trans h.bh,(hb.block _ h.bf.lt).trans h.bf,(hb.block _ h.br.lt).trans h.br,U.ax h.flt hb (Nat.le_refl _),h.n1,h.n2,h.n3⟩
theorem Pf.from_other{w W W':World}{B0 Bh Bf Br:Nat}{hy rt:Bool}{vf:Value}{fs:List Int}{row:Option Nat}(h:Pf w W B0 Bh Bf Br hy rt vf fs)(hg:W.grownBy W' row)(hr:∀ r,row=some r→∃ o:Obj,W.heap[r]? = some o∧o.isCells=false):Pf w W' B0 Bh Bf Br hy rt vf fs :=
 ⟨ch h.bh hg hr,ch h.bf hg hr,ch h.br hg hr,il h.flt hg hr,h.n1,h.n2,h.n3⟩
theorem Pf.pushO{w W w1:World}{B0 Bh Bf Br Bo m:Nat}{hy rt:Bool}{vf vo:Value}{fs:List Int}{vs:List Value}{u:Value}(h:Pf w W B0 Bh Bf Br hy rt vf fs)(ho:W.ownsRow B0 58 1 vo m vs)
  (hg:(W.alloc (.cells #[u] 58)).grownBy w1 vo.ownBlock) (hbo:Boxed w1 Bo 69 vo) (x:Value):Pf w (w1.setCell ⟨Bo,0,none⟩ x) B0 Bh Bf Br hy rt vf fs:=by
 have ho':=ho.alloc (.cells #[u] 58);have k:∀ {B:Nat} {t:TypeId} {v:Value},Boxed W B t v→t≠58→Boxed w1 B t v:=fun hb ht=>(hb.alloc _).kept hg ((hb.alloc _).not_row ht ho')
 have hf:=gH (h.flt.alloc (.cells #[u] 58)) ho' (by decide) hg;exact⟨aB (k h.bh (by decide)) hbo (by decide) _,aB (k h.bf (by decide)) hbo (by decide) _,aB (k h.br (by decide)) hbo (by decide) _,dw hf hbo (by decide) _,h.n1,h.n2,h.n3⟩
theorem Ez{w W w1:World}{B0 Bl Bo Bh Bf Br:Nat}{v vo vf vf':Value}{l:List Int}{vs:List Value}{ls:List (List Int)}{hy rt:Bool}{fs:List Int}{f:Int}(hs:So w W B0 Bl Bo v l vo vs ls)(h:Pf w W B0 Bh Bf Br hy rt vf fs)
  (hown:w1.ownsRow B0 23 1 vf' (fs.length+1) (fs.map (Value.int .u16)++[.int .u16 f])) (hg:(W.alloc (.cells #[.int .u16 f] 23)).grownBy w1 vf.ownBlock) :
  Boxed w1 Bf 66 vf∧So w (w1.setCell ⟨Bf,0,none⟩ vf') B0 Bl Bo v l vo vs ls∧Pf w (w1.setCell ⟨Bf,0,none⟩ vf') B0 Bh Bf Br hy rt vf' (fs++[f]):=by
 have ba:=dH W (.cells #[.int .u16 f] 23);have ho:=h.flt.alloc (.cells #[.int .u16 f] 23);have k:∀ {B:Nat} {t:TypeId} {v:Value},Boxed W B t v→t≠23→Boxed w1 B t v:=fun hb ht=>(hb.alloc _).kept hg ((hb.alloc _).not_row ht ho)
 have kbf:=k h.bf (by decide);have hbe:Below w.heap.size w w1:=(hs.be.alloc hs.be.size _).grown hg (Nat.le_trans hs.be.size (by simp)) (fun k e=>Nat.le_trans hs.b3 (ho.lt k e).1);have hels:=(hs.els.below ba).kept ho (by decide) hg;have hel:=(hs.bx.el.below ba).kept ho (by decide) hg;have hout:=gH (hs.out.alloc (.cells #[.int .u16 f] 23)) ho (by decide) hg
 refine⟨kbf,⟨⟨aB (k hs.bx.box (by decide)) kbf (by decide) _,hel.set kbf (by decide) _⟩,aB (k hs.bo (by decide)) kbf (by decide) _,dw hout kbf (by decide) _,hels.set kbf (by decide) _,hbe.setCell (p:=⟨Bf,0,none⟩) h.n2 _,hs.b1,hs.b2,hs.b3,?_⟩,
   ⟨aB (k h.bh (by decide)) kbf (by decide) _,kbf.set _,aB (k h.br (by decide)) kbf (by decide) _,?_,h.n1,h.n2,h.n3⟩⟩
 ·have h1:=hg.size
  have h2:=hs.b4;simp at h1 ⊢
  omega
 ·rw[List.length_append,List.map_append]
  exact dw hown kbf (by decide) _
theorem Hf{w W:World}{B0 Bl Bo Bh Bf Br:Nat}{v vo vf:Value}{l:List Int}{vs:List Value}{ls:List (List Int)}{hy rt:Bool}{fs:List Int}(hs:So w W B0 Bl Bo v l vo vs ls)(h:Pf w W B0 Bh Bf Br hy rt vf fs)(b:Bool):
  So w (W.setCell ⟨Br,0,none⟩ (.bool b)) B0 Bl Bo v l vo vs ls∧Pf w (W.setCell ⟨Br,0,none⟩ (.bool b)) B0 Bh Bf Br hy b vf fs :=
 ⟨⟨⟨aB hs.bx.box h.br (by decide) _,hs.bx.el.set h.br (by decide) _⟩,aB hs.bo h.br (by decide) _,dw hs.out h.br (by decide) _,hs.els.set h.br (by decide) _,hs.be.setCell (p:=⟨Br,0,none⟩) h.n3 _,hs.b1,hs.b2,hs.b3,by have:=hs.b4;simp;omega⟩,
   ⟨h.bh.other h.n1 _,aB h.bf h.br (by decide) _,h.br.set _,dw h.flt h.br (by decide) _,h.n1,h.n2,h.n3⟩⟩
structure Qr(B0:Nat)(W:World)(vo vf:Value)(m:Nat)(vs:List Value)(ys:List (List Int×Int)):Prop where
 out:W.ownsRow B0 58 1 vo m vs
 els:Els W vs (ys.map (·.1))
 flt:W.ownsRow B0 23 1 vf m (ys.map fun y=>Value.int .u16 y.2)
 len:m=ys.length
theorem Qr.below{B0:Nat}{W W':World}{vo vf:Value}{m:Nat}{vs:List Value}{ys:List (List Int×Int)}(h:Qr B0 W vo vf m vs ys)(hb:Below W.heap.size W W'):Qr B0 W' vo vf m vs ys :=
 ⟨U.ax h.out hb (Nat.le_refl _),h.els.below hb,U.ax h.flt hb (Nat.le_refl _),h.len⟩
theorem Hr:∀ x:Fin 256,bits .or .u16 (x.val:Int) 256=(x.val:Int)+256:=by decide +kernel
theorem FF(x:Int)(h:0≤x∧x≤255∨x=512):bits .or .u16 x 256=x+256:=by
 rcases h with h | rfl
 ·obtain⟨k,rfl⟩:∃ k:Nat,x=k:=⟨x.toNat,by omega⟩
  exact Hr ⟨k,by omega⟩
 ·decide +kernel
theorem Hs(l:List Int)(hy:Bool):0≤(one l hy).2∧(one l hy).2≤255∨(one l hy).2=512:=by
 have h:=pI l hy;have h0:=fU l hy;unfold one;split
 ·exact .inl ⟨h0,h⟩
 ·split
  ·exact .inr rfl
  ·split
   ·exact .inr rfl
   ·rename_i m _
    split
    ·exact .inr rfl
    ·exact .inl ⟨fU m hy,pI m hy⟩
theorem sr(B0:Nat)(vo vf:Value)(m:Nat)(vs:List Value)(ys:List (List Int×Int))(w:World)(hm:m≤100000)(hB:B0≤w.heap.size)(hf:∀ y∈ys,(0≤y.2∧y.2≤255∨y.2=512)∧y.1.length≤10000)(hq:Qr B0 w vo vf m vs ys):
  Calls Tryz.prog 112 #[vo,vf] w fun e W'=>e=.returned (.tuple #[])∧Qr B0 W' vo vf m vs (ys.map dU)∧Below B0 w W'∧KeepsOthers w W':=by
 have HYB:=hid hf;have HYL:=hid hq.len;have HQ0:Hid (Qr B0 w vo vf m vs (iN ys 0)):=hq
 have HEND:Hid (iN ys m=ys.map dU):=by
  show _=_
  unfold iN;rw[List.take_of_length_le (by rw[hq.len];exact Nat.le_refl _),List.drop_of_length_le (by rw[hq.len];exact Nat.le_refl _),List.append_nil]
 obtain⟨ao,co,rfl⟩:=dB hq.out;obtain⟨af,cf,rfl⟩:=dC hq.flt;clear hq hf;go_enter Tryz.func112,Tryz.ntmps112
 go_wp2_with fail
 go_loopw [8] (fun v8 wq=>∃ k2:Nat,k2≤m∧v8=.int .i64 k2∧Hid (Below B0 w wq)∧Hid (KeepsOthers w wq)∧Hid (Qr B0 wq (.slice ao m co) (.slice af m cf) m vs (iN ys k2))) (fun v8 _=>m - (intOf v8).toNat)
 case atStart=>exact⟨0,Nat.zero_le _,rfl,Below.refl _ _,KeepsOthers.refl _,HQ0⟩
 case round =>
  clear HQ0;obtain⟨k2,hk2,rfl,HB,HKO,HQ2⟩:=hrel;by_cases hlt2:k2<m
  ·have hky:k2<ys.length:=by rw[←HYL.out];exact hlt2
   have hb:=HYB.out ys[k2] (List.getElem_mem hky);obtain⟨go,rfl,hco,-⟩:=fi HQ2.out.out k2 hlt2;obtain⟨gf,rfl,hcf,hff⟩:=fi HQ2.out.flt k2 hlt2;have hel:=HQ2.out.els.2 k2 (by rw[ll,List.length_map];exact hky);rw[ll,List.getElem?_map,List.getElem?_eq_getElem hky]at hel
   replace hel:El wr (vs[k2]?.getD undef) ys[k2].1:=hel
   rw[List.getElem?_map,ET ys k2 hky]at hcf
   replace hcf:wr.cell? ⟨gf,k2,none⟩=some (.int .u16 ys[k2].2):=hcf
   obtain⟨ae,ce,hue⟩:=jG hel;rw[hue]at hco hel;have HBD:=hid (L.mW _ ys[k2].1 wr (by omega) hel.ints);have HZO:=hid (G9 ys k2 hky);have HZB:=hid (EU ys k2 hky);have HOR:=hid (FF ys[k2].2 hb.1);obtain⟨bo,hbo⟩:∃ bo,L.dJ ys[k2].1=bo:=⟨_,rfl⟩;rw[hbo]at HBD HZO HZB;obtain⟨f2,hf2⟩:∃ f2,ys[k2].2=f2:=⟨_,rfl⟩;rw[hf2]at HZB hcf hb HOR;obtain⟨p2,hp2⟩:∃ p2,ys[k2].1.length=p2:=⟨_,rfl⟩;rw[hp2]at hco HBD;have hb0:0≤f2:=by omega
   have hb1:f2≤512:=by omega
   clear hel hue hbo hf2 hp2 hb;have z1:=HB.out.size;cases bo with
   | true =>
    have HZ:=hid (HZO.out rfl)
    go_wp2_with(go_at_call 162;refine HBD.out.mono ?_;rintro e w5 ⟨rfl,B5⟩)
    go_roundw
    case rel=>exact⟨k2+1,by omega,by go_num,HB.out.trans (B5.mono (by omega)),HKO.out.trans (L.bJ B5),by show Qr _ _ _ _ _ _ _;rw[HZ.out];exact HQ2.out.below B5⟩
    case measure=>simp[intOf];omega
   | false =>
    have HZ:=hid (HZB.out rfl)
    go_upto_if 15 with(go_at_call 162;refine HBD.out.mono ?_;rintro e w5 ⟨rfl,B5⟩)
    have HQ5:=hid (HQ2.out.below B5);have HB5:=hid (HB.out.trans (B5.mono (by omega)));have hcf5:w5.cell? ⟨gf,k2,none⟩=some (.int .u16 f2):=(B5.cell (p:=⟨gf,k2,none⟩) (U.lt_of_cell hcf)).trans hcf;obtain⟨g',e',-,hff5⟩:=fi HQ5.out.flt k2 hlt2;cases e'
    have hst:=HQ5.out.flt.stored k2 (.int .u16 (f2+256));have HST:=hid hst;have hor:=HOR.out;have HKB:=hid (HKO.out.trans (L.bJ B5));clear B5 hcf hff hco hst;go_wp2
    go_roundw
    case rel =>
     refine⟨k2+1,by omega,by go_num,HB5.out.setCell (p:=⟨gf,k2,none⟩) (by have:=(HQ5.out.flt.lt gf rfl).1;exact this) _,HKB.out.trans (KeepsOthers.setCell _ _ _),?_⟩;show Qr _ _ _ _ _ _ _
     refine⟨gH HQ5.out.out HQ5.out.flt (by decide) HST.out.2,?_,by rw[HZ.out];exact HST.out.1,by rw[ES];exact HYL.out⟩;rw[ll,←ll ys k2];exact HQ5.out.els.kept HQ5.out.flt (by decide) HST.out.2
    case measure=>simp[intOf];omega
  ·obtain rfl:k2=m:=by omega
   rw[HEND.out]at HQ2;go_wp2
   go_end0
   exact⟨rfl,HQ2.out,HB.out,HKO.out⟩
theorem oA{w W:World}{B0 Bo Bf D:Nat}{vo vf:Value}{m:Nat}{vs:List Value}{xs:List (List Int×Int)}(hq:Qr B0 W vo vf m vs xs)(hbo:Boxed W Bo 69 vo)(hbf:Boxed W Bf 66 vf)(hbe:Below w.heap.size w W)
  (h1:w.heap.size≤Bo) (h2:w.heap.size≤Bf) (h3:w.heap.size≤B0) (hD:w.heap.size≤D) (hK:W.heap[D]? = some (.deferred (some []))) :
  ((W.setCell ⟨Bo,0,none⟩ vo).setCell ⟨Bf,0,none⟩ vf).heap[D]? = some (.deferred (some [])) ∧
  Boxed (((W.setCell ⟨Bo,0,none⟩ vo).setCell ⟨Bf,0,none⟩ vf).putObj D (.deferred none)) Bo 69 vo∧Boxed (((W.setCell ⟨Bo,0,none⟩ vo).setCell ⟨Bf,0,none⟩ vf).putObj D (.deferred none)) Bf 66 vf ∧
  Pr w (((W.setCell ⟨Bo,0,none⟩ vo).setCell ⟨Bf,0,none⟩ vf).putObj D (.deferred none)) vo vf m vs xs:=by
 have k1:=(KeepsOthers.setCell W ⟨Bo,0,none⟩ vo).same D _ hK rfl;have k2:=(KeepsOthers.setCell (W.setCell ⟨Bo,0,none⟩ vo) ⟨Bf,0,none⟩ vf).same D _ k1 rfl;have o1:=hbo.set vo;have f1:=aB hbf hbo (by decide) vo;have o2:=aB o1 f1 (by decide) vf;have f2:=f1.set vf;have e1:=dw (dw hq.out hbo (by decide) vo) f1 (by decide) vf;have e2:=dw (dw hq.flt hbo (by decide) vo) f1 (by decide) vf;have e3:=(hq.els.set hbo (by decide) vo).set f1 (by decide) vf;have e4:Below w.heap.size w ((W.setCell ⟨Bo,0,none⟩ vo).setCell ⟨Bf,0,none⟩ vf):=(hbe.setCell (p:=⟨Bo,0,none⟩) h1 _).setCell (p:=⟨Bf,0,none⟩) h2 _;have hg:=grownBy_putObj' ((W.setCell ⟨Bo,0,none⟩ vo).setCell ⟨Bf,0,none⟩ vf) D (.deferred none);have hr:∀ r,some D=some r→∃ o:Obj,((W.setCell ⟨Bo,0,none⟩ vo).setCell ⟨Bf,0,none⟩ vf).heap[r]? = some o∧o.isCells=false:=fun r e=>by cases e;exact⟨_,k2,rfl⟩
 exact⟨k2,ch o2 hg hr,ch f2 hg hr,own_base' (il e1 hg hr) h3,e3.other hg hr,own_base' (il e2 hg hr) h3,e4.grown hg e4.size (fun k e=>by cases e;exact hD),hq.len⟩
attribute [local go_sem] Oper.semAt_some
theorem eZ{fn:Func}{p u:Tmp}{ty tz:TypeId}(h:fn.results=#[.cell p ty,.cell u tz])(tmps:Array Value)(P:Program)(w:World):
  (results fn tmps).run P w =
   ((asAddr (tmps.getD p undef)).run P w).andThen fun a w₁=>((loadVar ty a).run P w₁).andThen fun v w₂=>((asAddr (tmps.getD u undef)).run P w₂).andThen fun b w₃=>((loadVar tz b).run P w₃).andThen fun x w₄=>.ok (.tuple #[v,x]) w₄:=by
 simp only[results,h];simp[Sem.run_bind,Result.andThen]
theorem Els.mu{W:World}{vs:List Value}{ls:List (List Int)}{u:Value}{l:List Int}{m:Nat}(h:Els W (vs++[u]) (ls++[l]))(hm:ls.length=m):El W u l:=by
 have hv:vs.length=ls.length:=by have:=h.1;simpa using this
 have:=h.2 ls.length (by simp);rw[List.getElem?_append_right (by rw[hv];exact Nat.le_refl _),List.getElem?_append_right (Nat.le_refl _),hv,Nat.sub_self]at this;exact this
def ysP(n:Nat)(X:List Int)(hy:Bool)(pre:List (Pc n)):List (List Int×Int):=pre.map fun p=>one (lab X p.1) hy
theorem xw(n:Nat)(X:List Int)(hy:Bool)(pre:List (Pc n))(x:Pc n):ysP n X hy (pre++[x])=ysP n X hy pre++[one (lab X x.1) hy]:=by simp[ysP]
theorem zF{X:List Int}(h:Scs X)(p:Nat×Nat):Scs (lab X p):=fun c hc=>h c (List.mem_of_mem_drop (List.mem_of_mem_take hc))
theorem Qr.of{w W:World}{B0 Bl Bo Bh Bf Br:Nat}{v vo vf:Value}{l:List Int}{vs:List Value}{hy rt:Bool}{ys:List (List Int×Int)}(hs:So w W B0 Bl Bo v l vo vs (ys.map (·.1)))(h:Pf w W B0 Bh Bf Br hy rt vf (ys.map (·.2))):Qr B0 W vo vf ys.length vs ys :=
 ⟨by have:=hs.out;rwa [List.length_map]at this,hs.els,by have:=h.flt;rw[List.length_map,List.map_map]at this;exact this,rfl⟩
theorem kr(s:ByteArray)(hy:Bool)(w:World)(hs:s.size≤4096):
  Calls Tryz.prog 68 #[.string s,.bool hy] w fun e W'=>Bd (prc (Mp (U.dec (U.bn s))) hy) w e W':=by
 obtain⟨i0,hi,hz0,hz1,hz2⟩:=info_parts Ia;obtain⟨i1,hj,hy0,hy1,hy2⟩:=info_parts C5;have HMP:=hid (fun W=>pA s W hs);have hml:=lf (U.bn s) (U.aM s);have HSX:=hid (k9 _ (eN _ (U.aM s)));rw[U.aa]at hml;obtain⟨X,hX⟩:∃ X,Mp (U.dec (U.bn s))=X:=⟨_,rfl⟩;rw[hX]at HMP hml HSX ⊢;obtain⟨n,hn⟩:∃ n,X.length=n:=⟨_,rfl⟩;have HN:=hid hn;have HCUT:=hid (Ax n X hn);unfold N.nk at HMP
 rw[hn]at hml HMP;have hnb:n≤8192:=by omega
 clear hX hn hml;refine(callsIn_wide (n:=3)).1 ?_;refine callsIn_of_wp_marks Tryz.func68 rfl trivial ?_ rfl;simp only[Tryz.ntmps68,List.size_toArray,List.length_cons,List.length_nil,Nat.reduceAdd,Nat.reduceSub,Array.replicate_succ,Array.replicate_zero,List.push_toArray,List.append_toArray,List.nil_append,List.cons_append]
 gi_wp2_with fail
 refine⟨trivial,?_⟩;refine(callsIn_wide.2 (HMP.out _)).mono ?_;rintro e w5 ⟨v5,rfl,r5,B5⟩
 obtain⟨a,c,rfl⟩:=bG r5
 gi_wp2_with fail
 refine⟨trivial,?_⟩;refine(wU _ _ _ ⟨_,_,_,rfl⟩).mono ?_;rintro e w' ⟨rfl,rfl⟩
 gi_wp2_with fail
 have b0:=Boxed.new w 4 (.bool hy);have b1:=Boxed.new (w.alloc (.cells #[.bool hy] 4)) 69 (.slice none 0 0);have b2:=Boxed.new ((w.alloc (.cells #[.bool hy] 4)).alloc (.cells #[.slice none 0 0] 69)) 66 (.slice none 0 0);have b3:=Boxed.new (((w.alloc (.cells #[.bool hy] 4)).alloc (.cells #[.slice none 0 0] 69)).alloc (.cells #[.slice none 0 0] 66)) 4 (.bool false);simp only[World.size_alloc]at b1 b2 b3
 replace b0:=((b0.alloc (.cells #[.slice none 0 0] 69)).alloc (.cells #[.slice none 0 0] 66)).alloc (.cells #[.bool false] 4)
 replace b1:=(b1.alloc (.cells #[.slice none 0 0] 66)).alloc (.cells #[.bool false] 4)
 replace b2:=b2.alloc (.cells #[.bool false] 4)
 have bb:Below w.heap.size w ((((w.alloc (.cells #[.bool hy] 4)).alloc (.cells #[.slice none 0 0] 69)).alloc (.cells #[.slice none 0 0] 66)).alloc (.cells #[.bool false] 4)) :=
  ((((Below.refl _ w).alloc (Nat.le_refl _) _).alloc (by simp) _).alloc (by simp;omega) _).alloc (by simp;omega) _
 have hw4:((((w.alloc (.cells #[.bool hy] 4)).alloc (.cells #[.slice none 0 0] 69)).alloc (.cells #[.slice none 0 0] 66)).alloc (.cells #[.bool false] 4)).heap.size=w.heap.size+4:=by simp
 obtain⟨w4,hw⟩:∃ w4,(((w.alloc (.cells #[.bool hy] 4)).alloc (.cells #[.slice none 0 0] 69)).alloc (.cells #[.slice none 0 0] 66)).alloc (.cells #[.bool false] 4)=w4:=⟨_,rfl⟩;rw[hw]at b0 b1 b2 b3 bb hw4 r5 B5;have hz5:=B5.size;have c0:=(B5.block _ b0.lt).trans b0;have c1:=(B5.block _ b1.lt).trans b1;have c2:=(B5.block _ b2.lt).trans b2;have c3:=(B5.block _ b3.lt).trans b3;have bl:=Boxed.new w5 58 (.slice a n c);have b5:=bb.trans (B5.mono (by omega));have el5:=El.own HN.out.symm r5;have ba:=dH w5 (.cells #[.slice a n c] 58);obtain⟨W0,hW0⟩:∃ W0,w5.alloc (.cells #[.slice a n c] 58)=W0:=⟨_,rfl⟩;have hs0:W0.heap.size=w5.heap.size+1:=by rw[←hW0];simp
 rw[hW0]at bl ba ⊢;have d0:Boxed W0 _ _ _:=(ba.block _ (Array.getElem?_eq_some_iff.1 c0).1).trans c0;have d1:Boxed W0 _ _ _:=(ba.block _ (Array.getElem?_eq_some_iff.1 c1).1).trans c1;have d2:Boxed W0 _ _ _:=(ba.block _ (Array.getElem?_eq_some_iff.1 c2).1).trans c2;have d3:Boxed W0 _ _ _:=(ba.block _ (Array.getElem?_eq_some_iff.1 c3).1).trans c3;have hB0:=b5.trans (ba.mono (by omega));have hbx:Bx w5.heap.size (.slice a n c) X W0:=⟨bl,el5.below ba⟩
 have hSo:So w W0 W0.heap.size w5.heap.size (w.heap.size+1) (.slice a n c) X (.slice none 0 0) [] ((ysP n X hy []).map (·.1)) :=
  ⟨hbx,d1,World.ownsRow_nil _ _ _ _,Els.nil _,hB0,by omega,by omega,by omega,Nat.le_refl _⟩
 have hPf:Pf w W0 W0.heap.size w.heap.size (w.heap.size+1+1) (w.heap.size+1+1+1) hy (jb (ysP n X hy [])) (.slice none 0 0) ((ysP n X hy []).map (·.2)) :=
  ⟨d0,d2,d3,World.ownsRow_nil _ _ _ _,by omega,by omega,by omega⟩
 have hzz:w.heap.size+4≤w5.heap.size:=by omega
 have HB0:=hid hB0;clear b0 b1 b2 b3 bb hw4 hw r5 B5 c0 c1 c2 c3 bl b5 el5 ba hW0 d0 d1 d2 d3 hB0 HMP hz5
 refine wpIn_rangeFunc_ownG rfl (by omega) (gf:=153) (lb:=#[.pointer (some ⟨w5.heap.size,0,none⟩)]) rfl trivial (enters_of Tryz.func153 (by kernel_rfl) rfl)
  (ti 2 (by omega) w5.heap.size a n c X HN.out (by omega) W0 hbx) zI (zJ (w:=W0)) (Below.refl _ _) (fun _=>rfl)
  (fun pre W=>∃ vo vf vs,So w W W0.heap.size w5.heap.size (w.heap.size+1) (.slice a n c) X vo vs ((ysP n X hy pre).map (·.1))∧Pf w W W0.heap.size w.heap.size (w.heap.size+1+1) (w.heap.size+1+1+1) hy (jb (ysP n X hy pre)) vf ((ysP n X hy pre).map (·.2)))
  (fun _ _ _=>False)
  (fun s X Y row hs hg hr=>by obtain⟨vo,vf,vs,h,h'⟩:=hs;exact⟨vo,vf,vs,h.from_other hg hr,h'.from_other hg (fun r e=>(hr r e).2)⟩)
  (fun _ _ _ _ _ hs _ _=>hs)
  ⟨_,_,_,hSo,hPf⟩
  (fun x=>{ tmps:=#[.string s,.bool hy,undef,.pointer (some ⟨w.heap.size,0,none⟩),.pointer (some ⟨w.heap.size+1,0,none⟩),.pointer (some ⟨w.heap.size+1+1,0,none⟩),.pointer (some ⟨w.heap.size+1+1+1,0,none⟩),pcv a x.1,undef,undef,.string s,.slice a n c,.func (.func 153) #[] #[.pointer (some ⟨w5.heap.size,0,none⟩)],pcv a x.1,undef,undef,undef,undef,undef,undef,undef,undef,undef,undef,undef,undef,undef,undef,undef,undef,undef,undef,undef,undef,undef,undef,undef,undef,undef],defers:=[] }) ?assign ?body ?done ?stop
 case assign =>
  intro lp x W K hK
  obtain⟨a',k',c',hu⟩:=yQ a x.1;rw[hu]at hK
  gi_wp2
  first | exact hK | (rw[hu];exact hK)
 case body =>
  rintro lp pre x W ⟨vo,vf,vs,hS,hP⟩ hlt
  have hel:=hS.bx.el.piece HN.out x;have hll:=uH X n x;have HONE:=hid (vD _ _ hy W (by omega) (zF HSX.out x.1) hel);have HYS:=hid (xw n X hy pre x);have HAS:=hid (xo (ysP n X hy pre) (one (lab X x.1) hy));have hpl:(ysP n X hy pre).length=pre.length:=by simp[ysP]
  have hol:=pk (lab X x.1) hy (by omega);have ho0:=one_nonneg (lab X x.1) hy;have ho1:=one_le (lab X x.1) hy;obtain⟨a',k',c',hu⟩:=yQ a x.1;rw[hu]at HONE ⊢;unfold xu at HONE
  obtain⟨⟨l',f⟩,hlf⟩:∃ y,one (lab X x.1) hy=y:=⟨_,rfl⟩;rw[hlf]at HONE HYS HAS hol ho0 ho1;simp only at HONE hol ho0 ho1 HAS
  obtain⟨q,hq⟩:∃ q,l'.length=q:=⟨_,rfl⟩;have HQ:=hid hq;rw[hq]at hol;obtain⟨Ys,hYs⟩:∃ Ys,ysP n X hy pre=Ys:=⟨_,rfl⟩;rw[hYs]at hS hP HYS HAS hpl;obtain⟨Y1,hY1⟩:∃ Y1,Ys.map (·.1)=Y1:=⟨_,rfl⟩;obtain⟨Y2,hY2⟩:∃ Y2,Ys.map (·.2)=Y2:=⟨_,rfl⟩;have HY1:=hid hY1;have HY2:=hid hY2;rw[hY1]at hS;rw[hY2]at hP;obtain⟨m,hm⟩:∃ m,Ys.length=m:=⟨_,rfl⟩;have HM1:Hid (Y1.length=m):=by show _=_;rw[←hY1,List.length_map];exact hm
  have HM2:Hid (Y2.length=m):=by show _=_;rw[←hY2,List.length_map];exact hm
  have hmb:m≤8193:=by omega
  have HS:=hid hS;have HP:=hid hP;obtain⟨ao,co,hvo⟩:=dB HS.out.out;rw[HM1.out]at hvo;subst hvo;obtain⟨af,cf,hvf⟩:=dC HP.out.flt;rw[HM2.out]at hvf;subst hvf;have hch:=HP.out.bh.cell;obtain⟨rt,hrt⟩:∃ rt,jb Ys=rt:=⟨_,rfl⟩;rw[hrt]at HP HAS;clear hu hlf hq hYs hY1 hY2 hm hel hS hP hpl hll hrt hSo hPf hbx;obtain⟨gr,hgr⟩:∃ gr,L.kE l'=gr:=⟨_,rfl⟩;have HGR:=hid hgr;rw[hgr]at HAS;have HAS':Hid (jb (ysP n X hy (pre++[x]))=(rt||gr)):=by show _=_;rw[HYS.out];exact HAS.out
  clear hgr;cases rt with
  | true =>
   gi_wp2_with (first
   | (gi_at_builtin;refine wpListIn_append_own _ rfl _ _ 66 rfl W0.heap.size 23 i1 (.int .u16 0) 1 2 Tryz.underlying66 hj hy0 hy1 hy2 rfl (by decide) _ m (Y2.map (Value.int .u16)) rfl (by have h:=HP1.out.flt.alloc (.cells #[.int .u16 f] 23);rw[HM2.out]at h;exact h) ⟨w3.heap.size,0,none⟩ 1 1 [.int .u16 f] rfl rfl (by have h:=cell_one_new (w3.setCell ⟨w.heap.size+1,0,none⟩ (.slice a3 (m+1) c3)) (.int .u16 f) 23;rw[show(w3.setCell ⟨w.heap.size+1,0,none⟩ (.slice a3 (m+1) c3)).heap.size=w3.heap.size by simp]at h;exact h) (by simp[Value.oneCell']) (by unfold maxLen;omega) (by omega) (by have:=HS1.out.b4;simp at this ⊢;omega) ?_;intro v4 w4 r4 g4 _;obtain⟨a4,c4,rfl⟩:=dC r4;have HPU2:=hid (Ez HS1.out HP1.out (by rw[HM2.out];exact r4) g4);have HK2:=hid (((HK1.out.trans (KeepsOthers.alloc _ _)).trans (eL (HP1.out.flt.alloc (.cells #[.int .u16 f] 23)) (by first | exact g4 | (rw[HM2.out];exact g4)))).trans (KeepsOthers.setCell _ ⟨w.heap.size+1+1,0,none⟩ (.slice a4 (m+1) c4)));have hc4:=HPU2.out.1.cell;have hf4:=HPU2.out.1.frozen;have hcr:=HPU2.out.2.2.br.cell;have hfr:=HPU2.out.2.2.br.frozen;have HE4:=hid (HPU2.out.2.1.els.mu HM1.out);clear r4 g4)
   | (gi_at_builtin;refine wpListIn_append_own _ rfl _ _ 69 rfl W0.heap.size 58 i0 (.slice none 0 0) 1 24 Tryz.underlying69 hi hz0 hz1 hz2 rfl (by decide) _ m vs rfl (by have h:=HS2.out.out.alloc (.cells #[.slice a2 q c2] 58);rw[HM1.out]at h;exact h) ⟨w2.heap.size,0,none⟩ 1 1 [.slice a2 q c2] rfl rfl (cell_one_new _ _ _) (by simp[Value.oneCell']) (by unfold maxLen;omega) (by omega) (by have:=HS2.out.b4;simp;omega) ?_;intro v3 w3 r3 g3 _;obtain⟨a3,c3,rfl⟩:=dB r3;have HPU:=hid (HS2.out.push HE2.out (by rw[HM1.out];exact r3) g3);have HS1:=hid HPU.out.2;have HP1:=hid (HP2.out.pushO HS2.out.out g3 HPU.out.1 (.slice a3 (m+1) c3));have HK1:=hid (((HK0.out.trans (KeepsOthers.alloc _ _)).trans (eL (HS2.out.out.alloc (.cells #[.slice a2 q c2] 58)) (by first | exact g3 | (rw[HM1.out];exact g3)))).trans (KeepsOthers.setCell _ ⟨w.heap.size+1,0,none⟩ (.slice a3 (m+1) c3)));have hc3:=HPU.out.1.cell;have hf3:=HPU.out.1.frozen;have hcf:=HP1.out.bf.cell;clear r3 g3)
   | (refine⟨trivial,?_⟩;gi_at_call 110;refine(CallsIn.inRound lp (callsIn_wide.2 HONE.out)).mono ?_;rintro e w2 ⟨u,rfl,hu,B2⟩;obtain⟨a2,c2,hue⟩:=jG hu;rw[HQ.out]at hue;subst hue;have HE2:=hid hu;have HS2:=hid (HS.out.below B2);have HP2:=hid (HP.out.below B2);have HK0:=hid (L.bJ B2);have hc2:=HS2.out.bo.cell;clear hu B2))
   refine⟨trivial,?_⟩
   gi_wp2
   have HR:=hid (Hf HPU2.out.2.1 HPU2.out.2.2 true);exact⟨(HK2.out.trans (KeepsOthers.setCell _ _ _)).from _,fun _=>HR.out.1.bx,_,_,_,by rw[HYS.out,List.map_append,HY1.out];exact HR.out.1,by rw[HAS'.out];rw[HYS.out,List.map_append,HY2.out];exact HR.out.2⟩
  | false =>
   gi_wp2_with (first
   | (gi_at_builtin;refine wpListIn_append_own _ rfl _ _ 66 rfl W0.heap.size 23 i1 (.int .u16 0) 1 2 Tryz.underlying66 hj hy0 hy1 hy2 rfl (by decide) _ m (Y2.map (Value.int .u16)) rfl (by have h:=HP1.out.flt.alloc (.cells #[.int .u16 f] 23);rw[HM2.out]at h;exact h) ⟨w3.heap.size,0,none⟩ 1 1 [.int .u16 f] rfl rfl (by have h:=cell_one_new (w3.setCell ⟨w.heap.size+1,0,none⟩ (.slice a3 (m+1) c3)) (.int .u16 f) 23;rw[show(w3.setCell ⟨w.heap.size+1,0,none⟩ (.slice a3 (m+1) c3)).heap.size=w3.heap.size by simp]at h;exact h) (by simp[Value.oneCell']) (by unfold maxLen;omega) (by omega) (by have:=HS1.out.b4;simp at this ⊢;omega) ?_;intro v4 w4 r4 g4 _;obtain⟨a4,c4,rfl⟩:=dC r4;have HPU2:=hid (Ez HS1.out HP1.out (by rw[HM2.out];exact r4) g4);have HK2:=hid (((HK1.out.trans (KeepsOthers.alloc _ _)).trans (eL (HP1.out.flt.alloc (.cells #[.int .u16 f] 23)) (by first | exact g4 | (rw[HM2.out];exact g4)))).trans (KeepsOthers.setCell _ ⟨w.heap.size+1+1,0,none⟩ (.slice a4 (m+1) c4)));have hc4:=HPU2.out.1.cell;have hf4:=HPU2.out.1.frozen;have hcr:=HPU2.out.2.2.br.cell;have hfr:=HPU2.out.2.2.br.frozen;have HE4:=hid (HPU2.out.2.1.els.mu HM1.out);clear r4 g4)
   | (gi_at_builtin;refine wpListIn_append_own _ rfl _ _ 69 rfl W0.heap.size 58 i0 (.slice none 0 0) 1 24 Tryz.underlying69 hi hz0 hz1 hz2 rfl (by decide) _ m vs rfl (by have h:=HS2.out.out.alloc (.cells #[.slice a2 q c2] 58);rw[HM1.out]at h;exact h) ⟨w2.heap.size,0,none⟩ 1 1 [.slice a2 q c2] rfl rfl (cell_one_new _ _ _) (by simp[Value.oneCell']) (by unfold maxLen;omega) (by omega) (by have:=HS2.out.b4;simp;omega) ?_;intro v3 w3 r3 g3 _;obtain⟨a3,c3,rfl⟩:=dB r3;have HPU:=hid (HS2.out.push HE2.out (by rw[HM1.out];exact r3) g3);have HS1:=hid HPU.out.2;have HP1:=hid (HP2.out.pushO HS2.out.out g3 HPU.out.1 (.slice a3 (m+1) c3));have HK1:=hid (((HK0.out.trans (KeepsOthers.alloc _ _)).trans (eL (HS2.out.out.alloc (.cells #[.slice a2 q c2] 58)) (by first | exact g3 | (rw[HM1.out];exact g3)))).trans (KeepsOthers.setCell _ ⟨w.heap.size+1,0,none⟩ (.slice a3 (m+1) c3)));have hc3:=HPU.out.1.cell;have hf3:=HPU.out.1.frozen;have hcf:=HP1.out.bf.cell;clear r3 g3)
   | (refine⟨trivial,?_⟩;gi_at_call 111;refine(CallsIn.inRound lp (callsIn_wide.2 (L.vJ _ l' _ (by have:=HQ.out;omega) (HE4.out.ints)))).mono ?_;rw[HGR.out];rintro e w7 ⟨rfl,B7⟩;have HB7:=hid B7;have hcr7:=(HPU2.out.2.2.below B7).br.cell;have hfr7:=(HPU2.out.2.2.below B7).br.frozen;clear B7)
   | (refine⟨trivial,?_⟩;gi_at_call 110;refine(CallsIn.inRound lp (callsIn_wide.2 HONE.out)).mono ?_;rintro e w2 ⟨u,rfl,hu,B2⟩;obtain⟨a2,c2,hue⟩:=jG hu;rw[HQ.out]at hue;subst hue;have HE2:=hid hu;have HS2:=hid (HS.out.below B2);have HP2:=hid (HP.out.below B2);have HK0:=hid (L.bJ B2);have hc2:=HS2.out.bo.cell;clear hu B2))
   have HR:=hid (Hf (HPU2.out.2.1.below HB7.out) (HPU2.out.2.2.below HB7.out) gr);exact⟨((HK2.out.trans (L.bJ HB7.out)).trans (KeepsOthers.setCell _ _ _)).from _,fun _=>HR.out.1.bx,_,_,_,by rw[HYS.out,List.map_append,HY1.out];exact HR.out.1,by rw[HAS'.out];rw[HYS.out,List.map_append,HY2.out];exact HR.out.2⟩
 case done =>
  rintro D ys W hD rfl ⟨vo,vf,vs,hS,hP⟩ hK
  have HYS:Hid (ysP n X hy (i7 n X)=(spl X).map fun l=>one l hy):=by
   show _=_
   rw[←HCUT.out,List.map_map];rfl
  have HPRC:Hid (prc X hy=if jb (ysP n X hy (i7 n X))=true then (ysP n X hy (i7 n X)).map dU else ysP n X hy (i7 n X)):=by
   show _=_
   rw[HYS.out];rfl
  have HYB:Hid (∀ y∈ysP n X hy (i7 n X),(0≤y.2∧y.2≤255∨y.2=512)∧y.1.length≤10000):=fun y hy'=>by
   obtain⟨p,hp,rfl⟩:=List.mem_map.1 hy';exact⟨Hs _ hy,pk _ hy (by have:=uH X n p;omega)⟩
  have HYN:Hid ((ysP n X hy (i7 n X)).length≤8193):=by
   show _≤_
   rw[HYS.out,List.length_map];have:=ef X;rw[HN.out]at this;omega
  obtain⟨Ys,hYs⟩:∃ Ys,ysP n X hy (i7 n X)=Ys:=⟨_,rfl⟩;rw[hYs]at hS hP HPRC HYB HYN;have HQ:=hid (Qr.of hS hP);obtain⟨m,hm⟩:∃ m,Ys.length=m:=⟨_,rfl⟩;rw[hm]at HQ HYN;have HM:=hid hm;obtain⟨ao,co,hvo⟩:=dB HQ.out.out;subst hvo;obtain⟨af,cf,hvf⟩:=dC HQ.out.flt;subst hvf;have HBO:=hid hS.bo;have HBF:=hid hP.bf;have HBE:=hid hS.be;have hb4:=hS.b4;have hcr:=hP.br.cell;have hco:=hS.bo.cell;have hcf:=hP.bf.cell;obtain⟨rt,hrt⟩:∃ rt,jb Ys=rt:=⟨_,rfl⟩;rw[hrt]at HPRC hcr;have HK:=hid hK;clear hYs hm hrt hS hP HYS hSo hPf hbx;cases rt with
  | true =>
   have HPX:Hid (prc X hy=Ys.map dU):=HPRC.out;have hmz:m≤100000:=by have:=HYN.out;omega
   gi_wp2_with (refine⟨trivial,?_⟩;gi_at_call 112;refine(callsIn_wide.2 (sr W0.heap.size _ _ m vs Ys W hmz hb4 HYB.out HQ.out)).mono ?_;rintro e w7 ⟨rfl,hq7,B7,K7⟩;have HQ7:=hid hq7;have HB7:=hid B7;have HK7:=hid K7;clear hq7 B7 K7)
   have HBO7:=hid ((HB7.out.block _ (by omega)).trans HBO.out);have HBF7:=hid ((HB7.out.block _ (by omega)).trans HBF.out);have HBE7:=hid (HBE.out.trans (HB7.out.mono (by omega)));have hK7:=hid (HK7.out.same D _ HK.out rfl);have h1:w7.cell? ⟨w.heap.size+1,0,none⟩=some (.slice ao m co):=Boxed.cell HBO7.out;have h2:w7.cell? ⟨w.heap.size+1+1,0,none⟩=some (.slice af m cf):=Boxed.cell HBF7.out;have h3:w7.frozen? ⟨w.heap.size+1,0,none⟩=false:=Boxed.frozen HBO7.out;have h4:w7.frozen? ⟨w.heap.size+1+1,0,none⟩=false:=Boxed.frozen HBF7.out;have h5:=(aB (t:=66) (t':=69) HBF7.out HBO7.out (by decide) (.slice ao m co)).cell;have h6:=(aB (t:=66) (t':=69) HBF7.out HBO7.out (by decide) (.slice ao m co)).frozen;have HFW:=hid (oA HQ7.out HBO7.out HBF7.out HBE7.out (by omega) (by omega) (by omega) (by omega) hK7.out)
   gi_region
   all_goals gi_wp2
   obtain⟨z1,z2,z3,z4⟩:=HFW.out;refine⟨by simp,.inl ⟨_,_,rfl,run_takeDeferred (by exact z1),?_⟩⟩;have y4:=z4.below ((Below.refl _ _).drew);obtain⟨V,hV⟩:∃ V,((w7.setCell ⟨w.heap.size+1,0,none⟩ (.slice ao m co)).setCell ⟨w.heap.size+1+1,0,none⟩ (.slice af m cf)).drew.putObj D (.deferred none)=V:=⟨_,rfl⟩;have y2:V.cell? ⟨w.heap.size+1,0,none⟩=some (.slice ao m co):=by rw[←hV];exact z2.cell
   have y3:V.cell? ⟨w.heap.size+1+1,0,none⟩=some (.slice af m cf):=by rw[←hV];exact z3.cell
   have y5:Pr w V (.slice ao m co) (.slice af m cf) m vs (Ys.map dU):=by rw[←hV];exact y4
   rw[hV];clear hV z1 z2 z3 z4 y4;refine⟨.tuple #[.slice ao m co,.slice af m cf],?_,⟨_,_,vs,rfl,?_⟩⟩
   ·rw[eZ (p:=4) (u:=5) (ty:=69) (tz:=66) rfl]
    have hl1:(loadVar 69 ⟨w.heap.size+1,0,none⟩).run Tryz.prog V=.ok (.slice ao m co) V:=by go_simp
    have hl2:(loadVar 66 ⟨w.heap.size+1+1,0,none⟩).run Tryz.prog V=.ok (.slice af m cf) V:=by go_simp
    simp[asAddr,Result.andThen,hl1,hl2]
   ·rw[HPX.out,List.length_map,HM.out];exact y5
  | false =>
   have HPX:Hid (prc X hy=Ys):=by show _=_;rw[HPRC.out];rfl
   gi_wp2_with fail
   have h1:W.cell? ⟨w.heap.size+1,0,none⟩=some (.slice ao m co):=Boxed.cell HBO.out;have h2:W.cell? ⟨w.heap.size+1+1,0,none⟩=some (.slice af m cf):=Boxed.cell HBF.out;have h3:W.frozen? ⟨w.heap.size+1,0,none⟩=false:=Boxed.frozen HBO.out;have h4:W.frozen? ⟨w.heap.size+1+1,0,none⟩=false:=Boxed.frozen HBF.out;have h5:=(aB (t:=66) (t':=69) HBF.out HBO.out (by decide) (.slice ao m co)).cell;have h6:=(aB (t:=66) (t':=69) HBF.out HBO.out (by decide) (.slice ao m co)).frozen;have HFW:=hid (oA HQ.out HBO.out HBF.out HBE.out (by omega) (by omega) (by omega) (by omega) HK.out)
   gi_region
   all_goals gi_wp2
   obtain⟨z1,z2,z3,z4⟩:=HFW.out;refine⟨by simp,.inl ⟨_,_,rfl,run_takeDeferred (by exact z1),?_⟩⟩;have y4:=z4.below ((Below.refl _ _).drew);obtain⟨V,hV⟩:∃ V,((W.setCell ⟨w.heap.size+1,0,none⟩ (.slice ao m co)).setCell ⟨w.heap.size+1+1,0,none⟩ (.slice af m cf)).drew.putObj D (.deferred none)=V:=⟨_,rfl⟩;have y2:V.cell? ⟨w.heap.size+1,0,none⟩=some (.slice ao m co):=by rw[←hV];exact z2.cell
   have y3:V.cell? ⟨w.heap.size+1+1,0,none⟩=some (.slice af m cf):=by rw[←hV];exact z3.cell
   have y5:Pr w V (.slice ao m co) (.slice af m cf) m vs Ys:=by rw[←hV];exact y4
   rw[hV];clear hV z1 z2 z3 z4 y4;refine⟨.tuple #[.slice ao m co,.slice af m cf],?_,⟨_,_,vs,rfl,?_⟩⟩
   ·rw[eZ (p:=4) (u:=5) (ty:=69) (tz:=66) rfl]
    have hl1:(loadVar 69 ⟨w.heap.size+1,0,none⟩).run Tryz.prog V=.ok (.slice ao m co) V:=by go_simp
    have hl2:(loadVar 66 ⟨w.heap.size+1+1,0,none⟩).run Tryz.prog V=.ok (.slice af m cf) V:=by go_simp
    simp[asAddr,Result.andThen,hl1,hl2]
   ·rw[HPX.out,HM.out];exact y5
 case stop =>
  rintro D c pre W _ _ h _
  exact h.elim
end Go.Proofs.YtkekkbciiohbkaaGreatDoor.I
