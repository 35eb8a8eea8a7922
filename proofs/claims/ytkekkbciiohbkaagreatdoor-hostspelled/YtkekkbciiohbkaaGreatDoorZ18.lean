/- Texts one behind the other: PCD PCE PCF PPD. -/
import Derived.Test.YtkekkbciiohbkaaGreatDoorZ17
import Derived.Test.YtkekkbciiohbkaaGreatDoorZ16
import Derived.Test.YtkekkbciiohbkaaGreatDoorZ2
set_option maxRecDepth 100000
set_option maxHeartbeats 16000000
set_option linter.unusedVariables false
set_option linter.unnecessarySimpa false
namespace Go.Proofs.YtkekkbciiohbkaaGreatDoor.P
open Go.RowKit U
theorem ju{w:World}{base g n cap:Nat}{f:Nat→Value}{xs:List Value}(h:w.rowIs g 21 cap f)(hn:n≤cap)(hc:cap≤maxLen)(hb:base≤g)(hl:xs.length=n)(hx:∀ j,j<n→xs[j]? = some (f j)):
  w.ownsRow base 21 1 (.slice (some ⟨g,0,none⟩) n cap) n xs:=by
 obtain⟨cur,h1,h2,h3⟩:=h;refine⟨by omega,.inr ⟨g,cap,cur,rfl,hb,h1,hn,hc,by omega,?_⟩⟩;rw[Nat.mul_one];apply List.ext_getElem?;intro j
 rw[List.getElem?_take];by_cases hj:j<n
 ·rw[if_pos hj,Array.getElem?_toList,h3 j (by omega),hx j hj]
 ·rw[if_neg hj,List.getElem?_eq_none (by omega)]
theorem fu(g:Nat):∀(vs:List Value) (o:Nat) (w:World),w.grownBy (w.setCells g o vs) (some g)
 | [],_,w=>⟨rfl,rfl,rfl,Nat.le_refl _,fun _ _ _=>rfl⟩
 | v::r,o,w=>by
  have h:w.grownBy (w.setCell ⟨g,o,none⟩ v) (some g):=⟨rfl,rfl,rfl,(KeepsWalks.setCell w _ v).size,fun k _ hk=>Below.heap_setCell _ _ _ k (fun e=>hk (by rw[e]))⟩;have k:=fu g r (o+1) (w.setCell ⟨g,o,none⟩ v);exact⟨k.os.trans h.os,k.tape.trans h.tape,k.output.trans h.output,Nat.le_trans h.size k.size,fun i hi hr=>(k.block i (Nat.lt_of_lt_of_le hi h.size) hr).trans (h.block i hi hr)⟩
theorem mG{a b c:World}{row:Option Nat}(h:a.grownBy b row)(k:b.grownBy c row):a.grownBy c row :=
 ⟨k.os.trans h.os,k.tape.trans h.tape,k.output.trans h.output,Nat.le_trans h.size k.size,fun i hi hr=>(k.block i (Nat.lt_of_lt_of_le hi h.size) hr).trans (h.block i hi hr)⟩
theorem uj(cs:List Value)(x:Value)(i n j:Nat)(hl:cs.length=n)(hi:i≤n)(hj:j<n+1):
  (cs.take i++x::cs.drop i)[j]? = some (if j<i then cs[j]?.getD default else if j=i then x else cs[j - 1]?.getD default):=by
 have ht:(cs.take i).length=i:=by rw[List.length_take];omega
 by_cases h1:j<i
 ·rw[if_pos h1,List.getElem?_append_left (by omega),List.getElem?_take,if_pos h1,List.getElem?_eq_getElem (by omega)];rfl
 ·rw[if_neg h1,List.getElem?_append_right (by omega),ht]
  by_cases h2:j=i
  ·rw[if_pos h2,h2,Nat.sub_self];rfl
  ·rw[if_neg h2,show j - i=(j - i - 1)+1 by omega,List.getElem?_cons_succ,List.getElem?_drop,show i+(j - i - 1)=j - 1 by omega,List.getElem?_eq_getElem (by omega)];rfl
theorem s5(base:Nat)(a:Option Addr)(n c vb:Nat)(zs:List Int)(x:Int)(w:World)(hl:zs.length=n)(hn:n≤1000000)(hrow:w.ownsRow base 21 1 (.slice a n c) n (zs.map (Value.int .i32)))(hb:base≤w.heap.size)(hx:Boxed w vb 21 (.int .i32 x)):
  Calls Tryz.prog 277 #[.slice a n c,.int .i64 n,.slice (some ⟨vb,0,none⟩) 1 1] w fun e w'=>∃ v',e=.returned v'∧w'.ownsRow base 21 1 v' (n+1) ((zs++[x]).map (Value.int .i32))∧w.grownBy w' (Value.slice a n c).ownBlock:=by
 have hs:dV w (.slice (some ⟨vb,0,none⟩) 1 1) [x]:=.inr ⟨⟨vb,0,none⟩,1,rfl,fun j hj=>by
   obtain rfl:j=0:=by simp at hj;exact hj
   rw[Addr.add_lit];exact hx.cell⟩
 rcases hrow.2 with⟨e,h0⟩ | ⟨g,cap,cur,e,hbg,hgb,hnc,hcm,_⟩
 ·cases e
  have H:=hid' hrow;go_enter Tryz.func277,Tryz.ntmps277
  go_wp2_with(at_builtin;refine bF rfl _ _ rfl base _ 0 zs rfl H.out _ [x] rfl hs (by simp only[List.length_cons,List.length_nil];omega) hb ?_;intro v' w1 r1 g1)
  go_ret;exact⟨v',rfl,by simpa using r1,g1⟩
 ·cases e
  unfold maxLen at hcm
  have H:=hid' hrow;clear hrow hgb;go_enter Tryz.func277,Tryz.ntmps277
  go_wp2_with(at_builtin;refine bF rfl _ _ rfl base _ n zs rfl H.out _ [x] rfl hs (by simp only[List.length_cons,List.length_nil];omega) hb ?_;intro v' w1 r1 g1)
  all_goals (go_ret;exact⟨_,rfl,by simpa using(by assumption:World.ownsRow _ _ _ _ _ _ ((zs++[x]).map (Value.int .i32))),by assumption⟩)
theorem s6(base:Nat)(v:Value)(zs:List Int)(i vb:Nat)(x:Int)(w:World)(hi:i≤zs.length)(hn:zs.length≤1000000)(hrow:w.ownsRow base 21 1 v zs.length (zs.map (Value.int .i32)))(hb:base≤w.heap.size)
  (hx:Boxed w vb 21 (.int .i32 x)) (hvb:some vb≠v.ownBlock) :
  Calls Tryz.prog 277 #[v,.int .i64 i,.slice (some ⟨vb,0,none⟩) 1 1] w fun e w'=>∃ v',e=.returned v'∧w'.ownsRow base 21 1 v' (zs.length+1) ((zs.take i++x::zs.drop i).map (Value.int .i32))∧w.grownBy w' v.ownBlock:=by
 by_cases hin:i=zs.length
 ·subst hin
  obtain⟨a,c,rfl⟩:∃ a c,v=.slice a zs.length c:=by
   rcases hrow.2 with⟨rfl,h0⟩ | ⟨g,cap,cur,rfl,_⟩
   ·exact⟨none,0,by rw[h0]⟩
   ·exact⟨_,cap,rfl⟩
  rw[List.take_length,List.drop_length];exact s5 base a _ c vb zs x w rfl hn hrow hb hx
 ·have hlt:i<zs.length:=by omega
  have hrow0:=hrow;rcases hrow.2 with⟨rfl,h0⟩ | ⟨g,cap,cur,rfl,hbg,hgb,hnc,hcm,hcs,hct⟩
  ·omega
  ·rw[Nat.mul_one]at hcs hct
   have hcur:∀ j,j<zs.length→cur[j]? = some (.int .i32 (zs[j]?.getD 0)):=fun j hj=>by
    have:=congrArg (fun l=>l[j]?) hct;simp only[List.getElem?_take,if_pos hj,List.getElem?_map,Array.getElem?_toList]at this;rw[this,List.getElem?_eq_getElem hj];rfl
   have R:w.rowIs g 21 cap (fun j=>cur[j]?.getD default):=⟨cur,hgb,hcs,fun j hj=>by show _=some (cur[j]?.getD default);rw[Array.getElem?_eq_getElem (by omega)];rfl⟩
   have hF:∀ j v,(zs.map (Value.int .i32))[j]? = some v→cur[j]?.getD default=v:=fun j v hj=>by
    have hjl:=(List.getElem?_eq_some_iff.1 hj).1;rw[List.length_map]at hjl;rw[hcur j hjl];rw[List.getElem?_map,List.getElem?_eq_getElem hjl]at hj;rw[List.getElem?_eq_getElem hjl]
    simpa using hj
   have eD:∀ v∈zs.map (Value.int .i32),v.oneCell'=true:=fun v hv=>by
    obtain⟨z,_,rfl⟩:=List.mem_map.1 hv;rfl
   have hml:(zs.map (Value.int .i32)).length=zs.length:=List.length_map ..;have hmap:(zs.take i++x::zs.drop i).map (Value.int .i32)=(zs.map (Value.int .i32)).take i++.int .i32 x::(zs.map (Value.int .i32)).drop i:=by simp[List.map_take,List.map_drop]
   have hgv:vb≠g:=fun e=>hvb (by rw[e];rfl)
   unfold maxLen at hcm
   by_cases hroom:zs.length+1≤cap
   ·refine(ry g zs.length cap i vb (zs.map (Value.int .i32)) (.int .i32 x) _ w hlt hroom (by omega) hgv hml R hF hx eD rfl).mono ?_
    rintro e w' ⟨rfl,rfl⟩
    refine⟨_,rfl,?_,?_⟩
    ·have R2:=rowIs_setCells [.int .i32 x] i _ _ (rowIs_setCells ((zs.map (Value.int .i32)).drop i) (i+1) w.drew _ R.drew)
     rw[hmap];refine ju R2 hroom (by unfold maxLen;omega) hbg (by simp;omega) (fun j hj=>?_);rw[uj _ _ i zs.length j hml (by omega) hj]
     congr 1
     by_cases h1:j<i
     ·rw[if_pos h1,if_neg (by omega),if_neg (by omega)]
      exact(hF j _ (by rw[List.getElem?_eq_getElem (by omega)];rfl)).symm
     ·rw[if_neg h1]
      by_cases h2:j=i
      ·rw[if_pos h2,if_pos (by simp;omega),h2,Nat.sub_self];rfl
      ·rw[if_neg h2,if_neg (by simp;omega),if_pos (by simp;omega),List.getElem?_drop,show i+(j - (i+1))=j - 1 by omega]
    ·exact mG (mG (b:=w.drew) ⟨rfl,rfl,rfl,Nat.le_refl _,fun _ _ _=>rfl⟩ (fu g _ _ w.drew)) (fu g _ _ _)
   ·refine(rz g zs.length cap i vb (zs.map (Value.int .i32)) (.int .i32 x) _ w hlt hnc (by omega) hn hml R hF hx eD rfl).mono ?_
    rintro e w' ⟨G,ROW,hG,hG63,hRs,hRt,rfl,rfl⟩
    refine⟨_,rfl,?_,?_⟩
    ·have R1:(w.alloc (.cells ROW 21)).drew.rowIs w.heap.size 21 G (fun j=>ROW[j]?.getD default):=by
      have:=World.rowIs_alloc w ROW 21 (fun j=>ROW[j]?.getD default) (fun j hj=>by rw[Array.getElem?_eq_getElem hj];rfl);rw[hRs]at this;exact this.drew
     have R2:=rowIs_setCells ((zs.map (Value.int .i32)).drop i) (i+1) _ _ (rowIs_setCells [.int .i32 x] i _ _ R1).drew;rw[hmap];refine ju R2 hG (by unfold maxLen;omega) (by omega) (by simp;omega) (fun j hj=>?_);rw[uj _ _ i zs.length j hml (by omega) hj]
     congr 1
     by_cases h1:j<i
     ·rw[if_pos h1,if_neg (by omega),if_neg (by omega)]
      have:=congrArg (fun l=>l[j]?) hRt;simp only[List.getElem?_take,if_pos h1,Array.getElem?_toList]at this;rw[this]
     ·rw[if_neg h1]
      by_cases h2:j=i
      ·rw[if_pos h2,if_neg (by omega),if_pos (by simp;omega),h2,Nat.sub_self];rfl
      ·rw[if_neg h2,if_pos (by simp;omega),List.getElem?_drop,show i+(j - (i+1))=j - 1 by omega]
    ·have g0:=World.grownBy_alloc w (.cells ROW 21) none
     have g1:w.grownBy (w.alloc (.cells ROW 21)).drew none:=⟨g0.os,g0.tape,g0.output,g0.size,g0.block⟩;have s1:=fu w.heap.size [.int .i32 x] i (w.alloc (.cells ROW 21)).drew;have s2:=fu w.heap.size ((zs.map (Value.int .i32)).drop i) (i+1) ((w.alloc (.cells ROW 21)).drew.setCells w.heap.size i [.int .i32 x]).drew;refine⟨s2.os.trans (s1.os.trans g1.os),s2.tape.trans (s1.tape.trans g1.tape),s2.output.trans (s1.output.trans g1.output),Nat.le_trans g1.size (Nat.le_trans s1.size s2.size),fun k hk hr=>?_⟩;have hne:some k≠some w.heap.size:=by intro e;cases e;omega
     exact(s2.block k (Nat.lt_of_lt_of_le hk (Nat.le_trans g1.size s1.size)) hne).trans ((s1.block k (Nat.lt_of_lt_of_le hk g1.size) hne).trans (g1.block k hk (by simp)))
theorem yr(n:Int)(h:1114111<n):az n=false:=by unfold az;simp;omega
theorem mz(n:Int)(h0:0≤n)(h1:n≤1099511627776)(w:World):
  Calls Tryz.prog 276 #[.int .i64 n] w fun e W'=>e=.returned (.bool (az n))∧Below w.heap.size w W':=by
 go_enter Tryz.func276,Tryz.ntmps276
 by_cases hb:1114111<n
 ·have HS:=hid' (yr n hb)
  go_wp2;go_ret;rw[HS.out];exact⟨rfl,Below.refl _ _⟩
 ·have hI:au (w.alloc (.cells #[.int .i32 n] 21)) (.slice (some ⟨w.heap.size,0,none⟩) 1 1) [n]:=by
   refine .inr ⟨by simp,_,_,_,rfl,fun j hj=>?_⟩;obtain rfl:j=0:=by simp at hj;exact hj
   exact(Boxed.new w 21 (.int .i32 n)).cell
  have HI:=hid' hI;clear hI
  go_wp2_with(go_at_call 151;refine(fW _ [n] (by simp) _ HI.out).mono ?_;rintro e w1 ⟨⟨t,r,rfl,hr⟩,B1⟩)
  have B2:Below w.heap.size w w1:=((Below.refl _ w).alloc (Nat.le_refl _) (.cells #[.int .i32 n] 21)).trans (B1.mono (by simp));rcases hr with⟨q1,rfl,q3⟩ | ⟨q1,rfl,q3⟩
  ·have HQ:Hid (az n=true):=by show _=_;simpa using q1
   clear q1 q3;go_wp2;go_ret;rw[HQ.out];exact⟨rfl,B2⟩
  ·have HQ:Hid (az n=false):=by show _=_;simpa using q1
   clear q1 q3;go_wp2;go_ret;rw[HQ.out];exact⟨rfl,B2⟩
theorem step_eq(s:St)(j:Nat)(h:s.i≤j):s.step (j - s.i)=⟨s.n+((j / (s.pts.length+1):Nat):Int),j % (s.pts.length+1)+1,s.pts.take (j % (s.pts.length+1))++(s.n+((j / (s.pts.length+1):Nat):Int))::s.pts.drop (j % (s.pts.length+1))⟩:=by
 unfold St.step;rw[show s.i+(j - s.i)=j by omega]
def Im(o:Option (List Int))(e:Ending)(base:Nat)(w':World):Prop :=
 match o with
 | none=>e=.returned (.tuple #[.slice none 0 0,.bool false])
 | some pts=>∃ v',e=.returned (.tuple #[v',.bool true])∧w'.ownsRow base 21 1 v' pts.length (pts.map (Value.int .i32))
structure Rs(base:Nat)(w wr:World)(Bs Bl:Nat)(o:Option (List Int))(v:Value)(n:Int)(i p b:Nat)(pts:List Int)(t:ByteArray):Prop where
 row:wr.ownsRow base 21 1 v p (pts.map (Value.int .i32))
 len:pts.length=p
 rdr:Rdr base wr Bs Bl t
 eq:o=RD ⟨n,i,pts⟩ b (bn t)
 be:Below base w wr
theorem bG{base n:Nat}{v:Value}{X:List Value}{W:World}(h:W.ownsRow base 21 1 v n X):∃ a cap,v=.slice a n cap:=by
 rcases h.2 with⟨rfl,h0⟩ | ⟨g,cap,cur,rfl,_⟩
 ·exact⟨none,0,by rw[h0]⟩
 ·exact⟨_,cap,rfl⟩
theorem mY{base Bs:Nat}{w wr w2:World}(hB:Below base w wr)(hg:wr.grownBy w2 (some Bs))(hs:base≤Bs)(hz:base≤wr.heap.size):Below base w w2 :=
 hB.grown hg hz (fun j ej=>by cases ej;exact hs)
theorem Rdr.kept{base base':Nat}{w w':World}{Bs Bl:Nat}{s:ByteArray}{v:Value}{n:Nat}{X:List Value}(h:Rdr base w Bs Bl s)(hrow:w.ownsRow base' 21 1 v n X)(hg:w.grownBy w' v.ownBlock):Rdr base w' Bs Bl s :=
 ⟨h.s.kept hg (h.s.not_row (by decide) hrow),h.l.kept hg (h.l.not_row (by decide) hrow),h.hs⟩
theorem j6{w w':World}{base:Nat}(h:Below base w w')(hb:base≤w.heap.size):base≤w'.heap.size:=Nat.le_trans hb h.size
theorem yx(base:Nat)(a0:Option Addr)(c0 p0:Nat)(zs:List Int)(s:ByteArray)(w:World)(hl:zs.length=p0)(hp:p0≤1024)(hs:s.size≤1024)(hrow:w.ownsRow base 21 1 (.slice a0 p0 c0) p0 (zs.map (Value.int .i32)))(hb:base≤w.heap.size):
  Calls Tryz.prog 214 #[.slice a0 p0 c0,.string s] w fun e W'=>Im (RD (run zs []) 72 (bn s)) e base W'∧Below base w W':=by
 have HR:=hid' hrow;have HL:=hid' hl;obtain⟨o,ho⟩:∃ o,RD (run zs []) 72 (bn s)=o:=⟨_,rfl⟩;have HO0:=hid' ho;rw[ho];clear hrow hl ho;go_enter Tryz.func214,Tryz.ntmps214
 go_wp2_with fail;refine(iS s w).mono ?_;rintro e w1 ⟨Bs,Bl,rfl,R1,B1⟩
 have HR1:Hid (Rs base w w1 Bs Bl o (.slice a0 p0 c0) 128 0 p0 72 zs s) :=
  ⟨ax HR.out B1 (Nat.le_refl _),HL.out,⟨R1.s,R1.l,Nat.le_trans hb R1.hs⟩,HO0.out.symm,B1.mono hb⟩
 clear R1 B1;unfold re mn
 go_wp2_with fail
 go_loopw [0,5,8,9,10] (fun v0 v5 v8 v9 v10 wr=>∃(a:Option Addr) (c:Nat) (ok:Bool) (n:Int) (i p b:Nat) (pts:List Int) (t:ByteArray),v0=.slice a p c∧v5=.bool ok∧v8=.int .i64 n∧v9=.int .i64 i∧v10=.int .i64 b ∧
     128≤n∧n≤1114111∧i≤p∧t.size≤s.size∧p+t.size≤p0+s.size∧b≤100000000000∧Hid (Rs base w wr Bs Bl o (.slice a p c) n i p b pts t))
  (fun _ _ _ _ _ wr=>oY wr Bs)
 case atStart=>exact⟨a0,c0,false,128,0,p0,72,zs,s,rfl,rfl,rfl,rfl,rfl,by omega,by omega,Nat.zero_le _,Nat.le_refl _,Nat.le_refl _,by omega,HR1⟩
 case round =>
  obtain⟨a,c,ok,n,i,p,b,pts,t,rfl,rfl,rfl,rfl,rfl,h1,h2,h3,h3',h4,h5,H⟩:=hrel;by_cases ht:t.size=0
  ·have hd:decide (0<t.size)=false:=by rw[ht];rfl
   have HO:Hid (o=some pts):=by
    show _=_
    rw[H.out.eq,show bn t=[] from List.eq_nil_of_length_eq_zero (by rw[aa];exact ht)];rfl
   go_wp2_with(go_at_call 300;refine(dj base _ Bs Bl t H.out.rdr).mono ?_;rw[hd];rintro e w' ⟨rfl,rfl⟩)
   go_ret2;rw[HO.out];exact⟨⟨_,rfl,by rw[H.out.len];exact H.out.row⟩,H.out.be⟩
  ·have ht0:0<t.size:=by omega
   have hd:decide (0<t.size)=true:=by simpa using ht0
   have HN:=hid' (di base wr Bs Bl i b t (by omega) (by omega) (by omega) H.out.rdr);have HSZ:=hid' (ij H.out.rdr.s)
   have HNE:Hid (bn t≠[]):=by
    show _≠_
    intro e
    have:=aa t;rw[e]at this;simp at this;omega
   unfold mn at HN
   cases hr:rn b 36 i 1 (bn t) with
   | none =>
    have HRn:=hid' hr;rw[hr]at HN;clear hr
    have HO:Hid (o=none):=by
     show _=_
     rw[H.out.eq,u7 _ _ _ HNE.out HRn.out]
    go_wp2_with(first
      | (go_at_call 300;refine(dj base _ Bs Bl t H.out.rdr).mono ?_;rw[hd];rintro e w' ⟨rfl,hw'⟩;obtain rfl:=hw'.symm)
      | (go_at_call 274;refine HN.out.mono ?_;rintro e w2 ⟨⟨rfl,-⟩,B2⟩))
    go_ret2;rw[HO.out];exact⟨rfl,mY H.out.be B2 H.out.rdr.hs (j6 H.out.be hb)⟩
   | some jr =>
    obtain⟨j,rest⟩:=jr;have HRn:=hid' hr;rw[hr]at HN;obtain⟨j1,j2,⟨q,j3,_⟩,_⟩:=lX _ _ _ _ _ _ _ hr;clear hr;have hij:i≤j:=by omega
    rw[aa]at j2;clear j3;obtain⟨P,hP⟩:∃ P,p+1=P:=⟨_,rfl⟩;have hP1:1≤P:=by omega
    have hP2:P≤3000:=by omega
    have q1:=Nat.div_le_self j P;have r1:=Nat.mod_lt j (show 0<P by omega)
    have HST:Hid ((⟨n,i,pts⟩:St).step (j - i)=⟨n+((j / P:Nat):Int),j % P+1,pts.take (j % P)++(n+((j / P:Nat):Int))::pts.drop (j % P)⟩):=by
     show _=_
     have:=step_eq ⟨n,i,pts⟩ j hij;rw[show(⟨n,i,pts⟩:St).pts.length+1=P by show pts.length+1=P;rw[H.out.len];exact hP]at this;exact this
    obtain⟨Q,hQ⟩:∃ Q,j / P=Q:=⟨_,rfl⟩;obtain⟨R,hR⟩:∃ R,j % P=R:=⟨_,rfl⟩;have eQ:(j:Int) / ((p:Int)+1)=(Q:Int):=by rw[←hQ,←hP];push_cast;rfl
    have eR:(j:Int) % ((p:Int)+1)=(R:Int):=by rw[←hR,←hP];push_cast;rfl
    rw[hQ,hR]at HST;rw[hQ]at q1;rw[hR]at r1;have rp:R≤p:=by omega
    have HP:=hid' hP;clear hQ hR hP;obtain⟨d,hd'⟩:∃ d,j - i=d:=⟨_,rfl⟩;have ed:(j:Int) - (i:Int)=(d:Int):=by omega
    have d1:d≤2147483647:=by omega
    rw[hd']at HST;have HD:=hid' hd';clear hd';have HAL:=hid' (su d (p+1));have HA:=hid' (fun(f:Bool) (w:World)=>(show Calls Tryz.prog 275 #[.int .i64 d,.int .i64 ((p:Int)+1),.bool f] w _ from oJ d (p+1) f (by omega) (by omega) (by omega) w));cases hsc:az (n+(Q:Int)) with
    | false =>
     have HO:Hid (o=none):=by
      show _=_
      rw[H.out.eq];exact Bc _ _ _ _ _ HRn.out (by show az ((⟨n,i,pts⟩:St).step (j - i)).n=false;rw[HD.out,HST.out];exact hsc)
     have HSC:=hid' hsc;clear hsc
     go_wp2_with(first
       | (go_at_call 300;refine(dj base _ Bs Bl t H.out.rdr).mono ?_;rw[hd];rintro e w' ⟨rfl,hw'⟩;obtain rfl:=hw'.symm)
       | (go_at_call 274;refine HN.out.mono ?_;rintro e w2 ⟨⟨rfl,-⟩,B2⟩)
       | (go_at_call 275;refine(HA.out _ _).mono ?_;rintro e w' ⟨rfl,hw'⟩;obtain rfl:=hw'.symm)
       | (go_at_call 276;refine(mz _ (by omega) (by omega) _).mono ?_;rw[HSC.out];rintro e w3 ⟨rfl,B3⟩))
     go_ret2;rw[HO.out];have b2:=mY H.out.be B2 H.out.rdr.hs (j6 H.out.be hb);exact⟨rfl,b2.trans (B3.mono (j6 b2 hb))⟩
    | true =>
     have hsl:=kQ hsc
     have HO:Hid (o=RD ⟨n+(Q:Int),R+1,pts.take R++(n+(Q:Int))::pts.drop R⟩ (adapt d (p+1) (i==0)) rest):=by
      show _=_
      have e:=qf _ _ _ _ _ HRn.out (by show az ((⟨n,i,pts⟩:St).step (j - i)).n=true;rw[HD.out,HST.out];exact hsc);rw[H.out.eq,e];show RD ((⟨n,i,pts⟩:St).step (j - i)) (adapt (j - i) (pts.length+1) (i==0)) rest=_
      rw[HD.out,HST.out,H.out.len]
     have HSC:=hid' hsc;clear hsc
     go_wp2_with(first
       | (go_at_call 300;refine(dj base _ Bs Bl t H.out.rdr).mono ?_;rw[hd];rintro e w' ⟨rfl,hw'⟩;obtain rfl:=hw'.symm)
       | (go_at_call 274;refine HN.out.mono ?_;rintro e w2 ⟨⟨rfl,hex⟩,B2⟩)
       | (go_at_call 275;refine(HA.out _ _).mono ?_;rintro e w' ⟨rfl,hw'⟩;obtain rfl:=hw'.symm)
       | (go_at_call 276;refine(mz _ (by omega) (by omega) _).mono ?_;rw[HSC.out];rintro e w3 ⟨rfl,B3⟩))
     obtain⟨t',RD2,HRt,ht'⟩:=hex;have HRt':=hid' HRt;have htl:t'.size<t.size:=by rw[←aa t',HRt];exact j2
     clear HRt;have r2:=H.out.row.kept B2 (.inr (H.out.rdr.s.not_row (by decide) H.out.row).symm);have b2:=mY H.out.be B2 H.out.rdr.hs (j6 H.out.be hb);have r3:=ax r2 B3 (Nat.le_refl _);have RD3:=RD2.below B3 (Nat.le_refl _);have b3:=b2.trans (B3.mono (j6 b2 hb));have z3:=j6 b3 hb;have r4:=r3.alloc (.cells #[.int .i32 (n+(Q:Int))] 21);have RD4:Rdr base (w3.alloc (.cells #[.int .i32 (n+(Q:Int))] 21)) Bs Bl t':=⟨RD3.s.alloc _,RD3.l.alloc _,RD3.hs⟩
     have HI:=s6 base (.slice a p c) pts R w3.heap.size (n+(Q:Int)) (w3.alloc (.cells #[.int .i32 (n+(Q:Int))] 21)) (by rw[H.out.len];exact rp) (by rw[H.out.len];omega) (by rw[H.out.len];exact r4) (by simp;omega)
      (Boxed.new w3 21 _) (fun e=>absurd (r3.lt _ e.symm).2 (Nat.lt_irrefl _))
     rw[H.out.len]at HI;refine HI.mono ?_;rintro e w5 ⟨v5,rfl,r5,g5⟩
     obtain⟨a5,c5,rfl⟩:=bG r5;have be5:Below base w w5:=(b3.alloc z3 (.cells #[.int .i32 (n+(Q:Int))] 21)).grown g5 (by simp;omega) (fun k ek=>(r3.lt _ ek).1);have RD5:=hid' (RD4.kept r4 g5);have R5:=hid' r5;have BE5:=hid' be5
     have HBB:Hid ((((i:Int)==0):Bool)=(i==0)):=by
      show _=_
      cases i with
      | zero=>rfl
      | succ k=>simp;omega
     have hal:=HAL.out ((i:Int)==0) (by omega);clear HI r5 g5 be5 r4 RD4 r3 RD3 b3 b2 r2 RD2 B2 B3;go_wp2
     go_roundw
     case rel =>
      refine⟨a5,c5,true,n+(Q:Int),R+1,p+1,adapt d (p+1) ((i:Int)==0),pts.take R++(n+(Q:Int))::pts.drop R,t',rfl,rfl,rfl,by go_num,by first | rfl | go_num,by omega,by omega,by omega,by omega,by omega,by omega,⟨R5.out,?_,RD5.out,?_,BE5.out⟩⟩
      ·have:=H.out.len
       simp;omega
      ·rw[HO.out,HBB.out,HRt'.out]
     case measure =>
      rw[ij RD5.out.s,HSZ.out];exact htl
theorem k7:∀(l:List Int),Bytes l→asc l=true→dec l=l
 | [],_,_=>rfl
 | a::t,hb,ha=>by
  simp only[asc,List.all_cons,Bool.and_eq_true]at ha;have h1:a<128:=by simpa using ha.1
  rw[bg (a::t) (by simp) hb,kv a t h1];show a::dec ((a::t).drop 1)=_
  rw[List.drop_one,List.tail_cons,k7 t (fun b hb'=>hb b (by simp[hb'])) ha.2]
theorem AP(l:List Int)(k:Nat)(h:asc l=true):asc (l.take k)=true:=by
 unfold asc at *
 rw[List.all_eq_true]at *;exact fun x hx=>h x (List.mem_of_mem_take hx)
theorem mc{base b:Nat}{v:Value}{n:Nat}{X:List Value}{W:World}(h:W.ownsRow base 21 1 v n X)(hb:b≤base):W.ownsRow b 21 1 v n X:=by
 rcases h with⟨h1,h2 | ⟨g,cap,cur,rfl,hbg,h3⟩⟩
 ·exact⟨h1,.inl h2⟩
 ·exact⟨h1,.inr ⟨g,cap,cur,rfl,Nat.le_trans hb hbg,h3⟩⟩
def nt(l:List Int):Option (List Int):=RD (run (dR l) []) 72 (aft l)
def nr(l:List Int)(w':World)(base:Nat)(v:Value)(e:Int):Prop :=
 (63<l.length∧v=.slice none 0 0∧e=4)∨(l.length≤63∧(asc l=false∨nt l=none)∧v=.slice none 0 0∧e=8) ∨
  (l.length≤63∧asc l=true∧∃ pts,nt l=some pts∧e=0∧w'.ownsRow base 21 1 v pts.length (pts.map (Value.int .i32)))
theorem gF(s:ByteArray)(w:World):
  Calls Tryz.prog 160 #[.string s] w fun e W'=>(∃ v r,e=.returned (.tuple #[v,.int .i64 r])∧nr (bn s) W' w.heap.size v r)∧Below w.heap.size w W':=by
 go_enter Tryz.func160,Tryz.ntmps160
 by_cases h1:63<s.size
 ·go_wp2
  go_ret2;exact⟨⟨_,_,rfl,.inl ⟨by rw[aa];exact h1,rfl,rfl⟩⟩,Below.refl _ _⟩
 ·have HL:Hid ((bn s).length≤63):=by show _≤_;rw[aa];omega
  cases ha:asc (bn s) with
  | false =>
   have HA:=hid' ha;clear ha
   go_wp2_with(go_at_call 212;refine(kC s (by omega) _).mono ?_;rw[HA.out];rintro e w' ⟨rfl,rfl⟩)
   go_ret2;exact⟨⟨_,_,rfl,.inr (.inl ⟨HL.out,.inl HA.out,rfl,rfl⟩)⟩,Below.refl _ _⟩
  | true =>
   have HA:=hid' ha;clear ha
   go_wp2_with(first
     | (go_at_call 212;refine(kC s (by omega) _).mono ?_;rw[HA.out];rintro e w' ⟨rfl,hw'⟩;obtain rfl:=hw'.symm)
     | (go_at_call 213;refine(s9 s (by omega) _).mono ?_;rintro e w1 ⟨x,y,rfl,e1,e2,s1,s2,B1⟩))
   have HD:Hid (dec (bn x)=dR (bn s)):=by
    show _=_
    rw[k7 (bn x) (aM x) (by rw[e1];exact AP _ _ HA.out),e1]
   have HE2:=hid' e2;clear e1 e2;refine(mS x (by omega) _).mono ?_;rintro e w2 ⟨v2,rfl,r2,B2⟩
   rw[HD.out]at r2;obtain⟨a2,c2,rfl⟩:=bG r2;have hfl:(dR (bn s)).length≤s.size:=by unfold dR;rw[List.length_take,aa];omega
   obtain⟨p,hp⟩:∃ p,(dR (bn s)).length=p:=⟨_,rfl⟩;rw[hp]at r2 hfl ⊢;have HP:=hid' hp;have R2:=hid' r2;have s12:=B1.size;clear hp r2
   go_wp2_with fail;refine(yx w1.heap.size a2 c2 p (dR (bn s)) y w2 HP.out (by omega) (by omega) R2.out B2.size).mono ?_;rw[HE2.out];rintro e w3 ⟨hr,B3⟩
   have BB:Below w.heap.size w w3:=(B1.trans (B2.mono B1.size)).trans (B3.mono s12);cases ho:RD (run (dR (bn s)) []) 72 (aft (bn s)) with
   | none =>
    rw[ho]at hr;obtain rfl:=hr;have HO:=hid' ho;clear ho;go_wp2
    go_ret2;exact⟨⟨_,_,rfl,.inr (.inl ⟨HL.out,.inr HO.out,rfl,rfl⟩)⟩,BB⟩
   | some pts =>
    rw[ho]at hr;obtain⟨v3,rfl,r3⟩:=hr;obtain⟨a3,c3,rfl⟩:=bG r3;have HO:=hid' ho;have R3:=hid' r3;clear ho r3;go_wp2
    go_ret2;exact⟨⟨_,_,rfl,.inr (.inr ⟨HL.out,HA.out,pts,HO.out,rfl,mc R3.out s12⟩)⟩,BB⟩
theorem oF(l:List Int)(h:∀ c∈l,c≠45):∀ k,k≤l.length→gV l k=0
 | 0,_=>rfl
 | k+1,hk=>by
  rw[gV,if_neg,oF l h k (by omega)];rw[List.getElem?_eq_getElem (by omega)];exact h _ (List.getElem_mem _)
theorem oE(l:List Int)(m:Nat)(h:∀ k,m≤k→k<l.length→l[k]?.getD 0≠45):∀ k,m≤k→k≤l.length→gV l k=gV l m
 | 0,h1,_=>by rw[show m=0 by omega]
 | k+1,h1,h2=>by
  by_cases e:m=k+1
  ·rw[e]
  ·rw[gV,if_neg (h k (by omega) (by omega)),oE l m h k (by omega) (by omega)]
theorem GI(p t:List Int)(hp:0<p.length)(ht:∀ c∈t,45<c):cutAt (p++[45]++t)=p.length:=by
 have hl:(p++[45]++t).length=p.length+1+t.length:=by simp;omega
 unfold cutAt;rw[oE _ (p.length+1) ?_ _ (by omega) (Nat.le_refl _)]
 ·rw[gV,if_pos]
  rw[List.append_assoc,List.getElem?_append_right (Nat.le_refl _),Nat.sub_self];rfl
 ·intro k h1 h2
  rw[hl]at h2;rw[List.getElem?_append_right (by simp;omega)];have hk:k - (p++[45]).length<t.length:=by simp;omega
  rw[List.getElem?_eq_getElem hk];have:=ht _ (List.getElem_mem hk);show t[k - (p++[45]).length]≠45
  omega
theorem yV(p t:List Int)(ht:∀ c∈t,45<c):dR (hd p++t)=p∧aft (hd p++t)=t:=by
 by_cases hp:p.length=0
 ·have e:p=[]:=List.eq_nil_of_length_eq_zero hp
  subst e;have hc:cutAt t=0:=oF t (fun c hc=>by have:=ht c hc;omega) _ (Nat.le_refl _);simp only[hd,List.length_nil,if_true,List.nil_append];exact⟨by rw[dR,hc];rfl,by rw[aft,if_pos hc]⟩
 ·have e:hd p++t=p++[45]++t:=by unfold hd;rw[if_neg hp]
  rw[e];have hc:=GI p t (by omega) ht
  constructor
  ·rw[dR,hc,List.append_assoc,List.take_left]
  ·rw[aft,hc,if_neg hp]
   have:p.length+1=(p++[45]).length:=by simp
   rw[this,List.drop_left]
theorem DF{l T:List Int}(h:Enc l T)(hs:l.all az=true)(hl:l.length≤63):nt T=some l∧asc T=true:=by
 have hsc:∀ x∈l,az x=true:=List.all_eq_true.1 hs;have h0:∀ x∈l,0≤x:=fun x hx=>(kQ (hsc x hx)).1
 constructor
 ·obtain⟨ds,rfl,hr⟩:=h
  obtain⟨e1,e2⟩:=yV (plain l) (tx (plain l).length ds) (fun c hc=>(lD _ ds c hc).1);unfold nt;rw[e1,e2];have hlen:=dv (plain l) ds;rw[hr]at hlen;have:=ER (plain l) (ma l) [] ds (by rw[hr];exact hsc) (by omega) [];rw[List.append_nil]at this;exact this.trans (by rw[G1,hr])
 ·unfold asc
  rw[List.all_eq_true];intro c hc
  have:=h.ascii h0 c hc;simp;omega
def lower(L:List Int):List Int:=if cutAt L=0 then L.map low else L.take (cutAt L+1)++(L.drop (cutAt L+1)).map low
theorem kZ{L pts:List Int}(h:nt L=some pts)(ha:asc L=true)(hb:Bytes L)(hl:L.length≤63):Enc pts (lower L)∧pts.all az=true∧pts.length≤63:=by
 have hf:∀ x∈dR L,0≤x∧x<128:=fun x hx=>by
  have hm:=List.mem_of_mem_take hx;have h1:=List.all_eq_true.1 ha x hm;exact⟨(hb x hm).1,by simpa using h1⟩
 obtain⟨es,h1,h2,h3⟩:=u0 (dR L) hf (aft L).length (aft L) [] pts (Nat.le_refl _) (fun x hx=>yq (hf x hx).1 (hf x hx).2) h;have hpl:plain pts=dR L:=by rw[←h1];exact ue (dR L) (fun x hx=>(hf x hx).2) es
 have hlow:lower L=hd (dR L)++(aft L).map low:=by
  unfold lower hd aft dR;by_cases hc:cutAt L=0
  ·rw[if_pos hc,hc,if_pos (by simp),if_pos rfl];rfl
  ·have hk:=pT L L.length hc
   change L[cutAt L]?.getD 0=45∧cutAt L<L.length at hk
   rw[if_neg hc,if_neg hc,if_neg (by rw[List.length_take];omega),bQ L _ hk.2,hk.1]
 have htx:tx (dR L).length es=(aft L).map low:=by rw[h2];simp[tx]
 have hE:Enc pts (lower L):=⟨es,by rw[hpl,hlow,htx],by rw[hpl];exact h1⟩;refine⟨hE,List.all_eq_true.2 h3,?_⟩;have l1:=dv (dR L) es;rw[h1]at l1;have l2:=xJ (dR L).length es;rw[htx,List.length_map]at l2
 have l3:(dR L).length+(aft L).length≤L.length:=by
  unfold dR aft;split
  ·rename_i hc;rw[hc];simp
  ·rw[List.length_take,List.length_drop];omega
 omega
end Go.Proofs.YtkekkbciiohbkaaGreatDoor.P
