/- Texts one behind the other: NCB NCC LA DV DE. -/
import Derived.Test.YtkekkbciiohbkaaGreatDoorZ12
import Derived.Test.YtkekkbciiohbkaaGreatDoorZ2
import Derived.Test.YtkekkbciiohbkaaGreatDoorZ8
import Derived.Test.YtkekkbciiohbkaaGreatDoorZ7
import Derived.Deep.Cut
import Derived.Deep.CutRange
import Derived.Laws.BitsAllLaws
import Derived.Laws.Cover4
set_option maxRecDepth 100000
set_option maxHeartbeats 16000000
set_option linter.unusedVariables false
set_option linter.unnecessarySimpa false
namespace Go.Proofs.YtkekkbciiohbkaaGreatDoor.N
open Go.RowKit
abbrev TS:=Option (List Pt×Pt)×List Pt
def aU:TS→List Pt
 | (none,B)=>B
 | (some (A,s),B)=>A++s::B
def qp:TS→Int
 | (none,_)=>-1
 | (some (A,_),_)=>(A.length:Nat)
def pr(a b:Int):Int×Bool:=D.prf D.prs a b
def bD(t:TS)(c:Pt):TS:=match t with
 | (none,B)=>if c.2=0 then (some (B,c),[]) else (none,B++[c])
 | (some (A,s),B)=>if rch B c=true∧(pr s.1 c.1).2=true then (some (A,((pr s.1 c.1).1,s.2)),B) else if c.2=0 then (some (A++s::B,c),[]) else (some (A,s),B++[c])
def tst(l:List Pt):TS:=l.foldl bD (none,[])
def comp(l:List Pt):List Pt:=aU (tst l)
theorem qm(l:List Pt)(c:Pt):tst (l++[c])=bD (tst l) c:=by simp[tst,List.foldl_append]
theorem ql(l:List Pt)(k:Nat)(hk:k<l.length):tst (l.take (k+1))=bD (tst (l.take k)) (l[k]?.getD z2):=by
 rw[List.take_succ_eq_append_getElem hk,qm,List.getElem?_eq_getElem hk];rfl
theorem vA(t:TS)(c:Pt):(aU (bD t c)).length≤(aU t).length+1:=by
 obtain⟨_ | ⟨A,s⟩,B⟩:=t
 ·unfold bD;dsimp only;split <;> simp[aU]
 ·unfold bD;dsimp only
  split
  ·simp[aU]
  ·split <;> simp[aU] <;> omega
theorem oQ(l:List Pt):(aU (tst l)).length≤l.length:=by
 induction l using lP with
 | h0=>simp[tst,aU]
 | h1 l c ih=>rw[qm];have:=vA (tst l) c;simp;omega
theorem wN(A:List Pt)(s:Pt)(B:List Pt)(y:Int):(aY (A++s::B)).set (A.length * 2) (.int .i32 y)=aY (A++(y,s.2)::B):=by
 have e:∀ p:Pt,aY (A++p::B)=aY A++([.int .i32 p.1,.int .u8 p.2]++aY B):=fun p=>by simp[aY,c2]
 rw[e,e,List.set_append_right _ _ (by rw[cw];omega),cw,Nat.sub_self];rfl
theorem oU{base m cap g:Nat}{A B:List Pt}{s:Pt}{W:World}(hrow:W.ownsRow base 252 2 (.slice (some ⟨g,0,none⟩) m cap) m (aY (A++s::B)))(hm:m≤100000)(c:Pt):
  ∃ v',(∀ W2,(Instr.slice 201 (.slice (some ⟨g,0,none⟩) m cap) (some (.int .i64 ((A.length:Int)+1))) none none).run Tryz.prog W2=.ok v' W2) ∧
   ∀ x:aE W,Calls Tryz.prog 254 #[v',.agg #[.int .i32 c.1,.int .u8 c.2]] x.W fun e W'=>e=.returned (.bool (rch B c))∧Below x.W.heap.size x.W W':=by
 have hl:A.length+1+B.length=m:=by have:=hrow.1;rw[cw]at this;simp at this;omega
 have hmc:m≤cap:=by
  rcases hrow.2 with⟨h,_⟩ | ⟨g',cap',cur,h,_,_,hnc,_⟩
  ·cases h
  ·cases h;exact hnc
 have hp:Pts W g ((A.length+1) * 2) B:=by
  have:=eI (O:=A++[s]) (S:=B) (by simpa using hrow)
  simpa using this
 refine⟨.slice (if cap=A.length+1 then some ⟨g,0,none⟩ else some ⟨g,(A.length+1) * 2,none⟩) B.length (cap - (A.length+1)),fun W2=>?_,fun x=>?_⟩
 ·rw[run_slice_l W2 201 (some ⟨g,0,none⟩) m cap (by kernel_rfl) .i64 ((A.length:Int)+1) (by omega) (by omega),Tryz.sizeOf252' W2]
  have e1:((A.length:Int)+1).toNat=A.length+1:=by omega
  have e2:m - (A.length+1)=B.length:=by omega
  simp only[Result.andThen,sliced,e1,e2];split <;> simp[Addr.add]
 ·cases hB:B.getLast? with
  | none =>
   have hB0:B=[]:=by simpa using hB
   subst hB0;refine(pg _ _ c x.W).mono ?_;rintro e W' ⟨rfl,h⟩
   exact⟨rfl,h⟩
  | some b =>
   have hbb:B=B.dropLast++[b]:=by
    have hne:B≠[]:=fun h=>by rw[h]at hB;cases hB
    have:=List.dropLast_concat_getLast hne;rw[List.getLast?_eq_some_getLast hne]at hB;cases hB;exact this.symm
   have hlen:B.length=B.dropLast.length+1:=by
    have:=congrArg List.length hbb
    simpa using this
   rw[if_neg (by omega),hlen];have hpx:Pts x.W g ((A.length+1) * 2) (B.dropLast++[b]):=by rw[←hbb];exact hp.below x.h hp.lt
   refine(o9 g _ _ _ B.dropLast b c x.W rfl (by omega) hpx).mono ?_;rintro e W' ⟨rfl,h⟩
   exact⟨by unfold rch;rw[hB],h⟩
theorem qN{base m:Nat}{v:Value}{X:List Value}{W:World}(h:W.ownsRow base 252 2 v m X)(hm:0<m):∃ g cap,v=.slice (some ⟨g,0,none⟩) m cap:=by
 rcases h.2 with⟨rfl,h0⟩ | ⟨g,cap,cur,rfl,_⟩
 ·omega
 ·exact⟨g,cap,rfl⟩
def reach(t:TS)(c:Pt):Bool:=match t with
 | (none,_)=>false
 | (some _,B)=>rch B c
def app(t:TS)(c:Pt):TS:=if c.2=0 then (some (aU t,c),[]) else (t.1,t.2++[c])
theorem qd(t:TS)(c:Pt):aU (app t c)=aU t++[c]:=by
 obtain⟨_ | ⟨A,s⟩,B⟩:=t <;> unfold app <;> split <;> simp[aU]
theorem xl(t:TS)(c:Pt)(h:c.2=0):qp (app t c)=((aU t).length:Nat):=by unfold app;rw[if_pos h];rfl
theorem xk(t:TS)(c:Pt)(h:¬ c.2=0):qp (app t c)=qp t:=by
 obtain⟨_ | ⟨A,s⟩,B⟩:=t <;> unfold app <;> rw[if_neg h] <;> rfl
theorem lG{t:TS}{c:Pt}(h:reach t c=false):bD t c=app t c:=by
 obtain⟨_ | ⟨A,s⟩,B⟩:=t
 ·unfold bD app;rfl
 ·have hr:rch B c=false:=h
  unfold bD app
  dsimp only
  rw[if_neg (by rw[hr];simp)];rfl
theorem sB{A:List Pt}{s:Pt}{B:List Pt}{c:Pt}(h:(pr s.1 c.1).2=false):bD (some (A,s),B) c=app (some (A,s),B) c:=by
 unfold bD app
 dsimp only
 rw[if_neg (by rw[h];simp)];rfl
theorem lF{A:List Pt}{s:Pt}{B:List Pt}{c:Pt}{q:Int}(h:reach (some (A,s),B) c=true)(hq:pr s.1 c.1=(q,true)):bD (some (A,s),B) c=(some (A,(q,s.2)),B):=by
 have hr:rch B c=true:=h;unfold bD
 dsimp only
 rw[if_pos ⟨hr,by rw[hq]⟩,hq]
theorem oR(v:Value)(l:List Pt)(w:World)(hlen:l.length≤50000)(hr:xt w v l):
  Calls Tryz.prog 208 #[v] w fun e W'=>∃ v',e=.returned v'∧W'.ownsRow w.heap.size 252 2 v' (comp l).length (aY (comp l))∧Below w.heap.size w W':=by
 obtain⟨a,cap0,rfl,hf⟩:=hr;obtain⟨i0,hi,hz0,hz1,hz2⟩:=info_parts Tryz.info252;obtain⟨n,hn⟩:∃ n,l.length=n:=⟨_,rfl⟩;have HF:=hid hf;rw[hn]at hlen ⊢;have HN:=hid hn;clear hf hn;go_enter Tryz.func208,Tryz.ntmps208
 go_wp2_with fail
 go_loopw [3,4,11] (fun v3 v4 i wr=>∃(k:Nat) (t:TS),k≤n∧i=.int .i64 k∧v4=.int .i64 (qp t)∧wr.ownsRow w.heap.size 252 2 v3 (aU t).length (aY (aU t))∧(aU t).length≤k∧Hid (t=tst (l.take k))∧Below w.heap.size w wr) (fun _ _ i _=>n - (intOf i).toNat)
 case atStart=>exact⟨0,(none,[]),Nat.zero_le _,rfl,rfl,World.ownsRow_nil _ _ _ _,Nat.le_refl _,rfl,Below.refl _ _⟩
 case round =>
  obtain⟨k,t,hk,rfl,rfl,hrow,htl,HT,hB⟩:=hrel;by_cases hlt:k<n
  ·obtain⟨g0,rfl,hp⟩:=HF.out (by have:=HN.out;omega)
   have hp':=hp.below hB hp.lt;have hkl:k<l.length:=by have:=HN.out;omega
   have e0:=hp'.c0 k hkl;have e1:=hp'.c1 k hkl;have HT2:Hid (tst (l.take (k+1))=bD t (l[k]?.getD z2)):=by show _=_;rw[ql l k hkl,HT.out]
   obtain⟨c,hce⟩:∃ c,l[k]?.getD z2=c:=⟨_,rfl⟩;rw[hce]at e0 e1 HT2;simp only[Nat.zero_add]at e0 e1;have hltz:(k:Int)<(n:Int):=by omega
   have hBs:=hB.size;obtain⟨wa,hwa⟩:∃ wa,wa=wr.alloc (.cells #[.int .i32 c.1,.int .u8 c.2] 252):=⟨_,rfl⟩;have hBa:Below w.heap.size w wa:=by rw[hwa];exact hB.alloc hB.size _
   have hPa:wa.heap[wr.heap.size]? = some (.cells #[.int .i32 c.1,.int .u8 c.2] 252 (0,0)):=by rw[hwa];exact heap_alloc_last wr _
   have hra:wa.ownsRow w.heap.size 252 2 u3 (aU t).length (aY (aU t)):=by rw[hwa];exact hrow.alloc _
   have hsa:wa.heap.size=wr.heap.size+1:=by rw[hwa];simp
   clear hp hp' hce hrow hB;have HRA:=hid hra;have HPA:=hid hPa;have HBA:=hid hBa;have HWA:=hid hwa;have hPlt:wr.heap.size<wa.heap.size:=by omega
   clear hra hPa hBa;obtain⟨tl,htl4⟩:∃ tl,qp t=tl:=⟨_,rfl⟩;obtain⟨m,hm⟩:∃ m,(aU t).length=m:=⟨_,rfl⟩;rw[htl4];rw[hm]at htl;have HTL:=hid htl4;have HM:=hid hm;rw[hm]at HRA;clear htl4 hm
   go_wp2_with fail;rw[←hwa];clear hwa hsa e0 e1
   go_cut [11,24] from 11 to 51 (fun v11 v24 wc=>v11=.int .i64 k∧v24=.bool (reach t c)∧Hid (Below wa.heap.size wa wc))
   case first =>
    obtain⟨_ | ⟨A,s⟩,B⟩:=t
    ·obtain rfl:tl=-1:=HTL.out.symm
     have hg1:¬ (0:Int)≤-1:=by omega
     go_region
     go_wp2
     go_meet
     case rel=>exact⟨rfl,rfl,(Below.refl _ wa).drew⟩
    ·obtain⟨la,hla⟩:∃ la,A.length=la:=⟨_,rfl⟩
     obtain rfl:tl=(la:Int):=by rw[←hla];exact HTL.out.symm
     have hmA:la+1+B.length=m:=by have:=HM.out;simp[aU]at this;omega
     have hra:wa.ownsRow w.heap.size 252 2 u3 m (aY (A++s::B)):=HRA.out;obtain⟨g,cap,rfl⟩:=qN hra (by omega);obtain⟨v',hsl,hreach⟩:=oU hra (by omega) c;rw[hla]at hsl;have hlam:la≤50000:=by omega
     have HMA:=hid hmA;have HRE:=hid hreach;have hre:reach (some (A,s),B) c=rch B c:=rfl;have HRR:=hid hre
     have x0:∀ u:aE wa,u.W.cell? ⟨wr.heap.size,0,none⟩=some (.int .i32 c.1):=fun u=>by
      rw[u.h.cell (p:=⟨wr.heap.size,0,none⟩) hPlt];simp[World.cell?,HPA.out]
     have x1:∀ u:aE wa,u.W.cell? ⟨wr.heap.size,1,none⟩=some (.int .u8 c.2):=fun u=>by
      rw[u.h.cell (p:=⟨wr.heap.size,1,none⟩) hPlt];simp[World.cell?,HPA.out]
     have hne:Nonempty (aE wa):=⟨⟨wa,Below.refl _ _⟩⟩;have hg1:(0:Int)≤(la:Int):=by omega
     clear hreach hra hre hmA hla
     generalize rch B c=rc at HRE HRR
     refine ay (by kernel_rfl) (by kernel_rfl) ?_
     repeat (go_big_quiet_step ((go_at_call 254;exact aE.call _ (HRE.out _))))
     refine wpQuiet_nil ?_;rintro _ ⟨u,rfl⟩
     have hu:=hid u.h;clear x0 x1 hne hsl HRE
     generalize u.W=wu at hu ⊢
     go_wp2
     go_meet
     case rel=>exact⟨rfl,by rw[HRR.out],hu⟩
   case rest =>
    obtain⟨rfl,rfl,hBc⟩:=hcut;obtain⟨rb,hrb⟩:∃ rb,reach t c=rb:=⟨_,rfl⟩;rw[hrb];have HRB:=hid hrb;clear hrb
    go_upto_if 24 with fail
    go_cut [11] from 11 to 51 (fun v11 wd=>v11=.int .i64 k∧Hid (Below wa.heap.size wa wd)∧Hid (bD t c=app t c))
    case first =>
     cases rb with
     | false =>
      go_wp2
      go_meet
      case rel=>exact⟨rfl,hBc,lG HRB.out⟩
     | true =>
      obtain⟨_ | ⟨A,s⟩,B⟩:=t
      ·exact absurd HRB.out (by simp[reach])
      ·obtain⟨la,hla⟩:∃ la,A.length=la:=⟨_,rfl⟩
       obtain rfl:tl=(la:Int):=by rw[←hla];exact HTL.out.symm
       have hmA:la+1+B.length=m:=by have:=HM.out;simp[aU]at this;omega
       have hra:wa.ownsRow w.heap.size 252 2 u3 m (aY (A++s::B)):=HRA.out;obtain⟨g,cap,rfl⟩:=qN hra (by omega);have hrc:=ax hra hBc.out (Nat.le_refl _)
       have hpA:Pts wc g 0 (A++s::B):=by
        have:=eI (O:=[]) (S:=A++s::B) (by simpa using hrc)
        simpa using this
       have s0:=hpA.c0 la (by simp;omega);rw[dQ _ _ _ _ hla]at s0;simp only[Nat.zero_add]at s0;have hglt:=hpA.lt;have hAm:(la:Int)<(m:Int):=by omega
       have HLA:=hid hla;have HMA:=hid hmA;have hlm:la<m:=by omega
       have hg1:(0:Int)≤(la:Int):=by omega
       have hwc:=hBc.out.size
       have y0:∀ z:aE wc,z.W.cell? ⟨wr.heap.size,0,none⟩=some (.int .i32 c.1):=fun z=>by
        rw[z.h.cell (p:=⟨wr.heap.size,0,none⟩) (by show wr.heap.size<_;omega),hBc.out.cell (p:=⟨wr.heap.size,0,none⟩) hPlt];simp[World.cell?,HPA.out]
       have y1:∀ z:aE wc,z.W.cell? ⟨g,la * 2,none⟩=some (.int .i32 s.1):=fun z=>(z.h.cell (p:=⟨g,la * 2,none⟩) hglt).trans s0
       have hne2:Nonempty (aE wc):=⟨⟨wc,Below.refl _ _⟩⟩;have hpair:=D.mb s.1 c.1;have hprr:D.prf D.prs s.1 c.1=pr s.1 c.1:=rfl;rw[hprr]at hpair;obtain⟨⟨q,is⟩,hq⟩:∃ q,pr s.1 c.1=q:=⟨_,rfl⟩;rw[hq]at hpair
       dsimp only at hpair
       have HQ:=hid hq;have HPAIR:=hid hpair;have HRC:=hid hrc;clear hpair hprr hq hra hpA s0 hrc hla hmA
       go_wp2_with fail;refine ay (by kernel_rfl) (by kernel_rfl) ?_
       repeat (go_big_quiet_step ((go_at_call 255;exact aE.call _ (HPAIR.out _))))
       refine wpQuiet_nil ?_;rintro _ ⟨z,rfl⟩
       have hz:=hid (hBc.out.trans (z.h.mono hwc));have sy:=y1 z;have HRZ:=hid (ax HRC.out z.h (Nat.le_refl _));clear y0 y1 hne2 HPAIR HRC
       generalize z.W=wz at hz sy HRZ ⊢
       cases is with
       | false =>
        go_wp2
        go_meet
        case rel=>exact⟨rfl,hz,sB (by rw[HQ.out])⟩
       | true =>
        have fy:wz.frozen? ⟨g,la * 2,none⟩=false:=by
         rcases HRZ.out.2 with⟨h,_⟩ | ⟨g',cap',cur,h,_,hg,_⟩
         ·cases h
         ·cases h;simp[World.frozen?,hg]
        have hst:=HRZ.out.stored (la * 2) (.int .i32 q);have hg2:w.heap.size≤g:=(HRZ.out.lt g rfl).1;have hB6:=hid ((HBA.out.trans (hz.out.mono HBA.out.size)).setCell (p:=⟨g,la * 2,none⟩) hg2 (.int .i32 q))
        have H6:Hid ((wz.setCell ⟨g,la * 2,none⟩ (.int .i32 q)).ownsRow w.heap.size 252 2 (.slice (some ⟨g,0,none⟩) m cap) (aU (some (A,(q,s.2)),B)).length (aY (aU (some (A,(q,s.2)),B)))):=by
         have h1:=hst.1;rw[←HLA.out,wN]at h1;have e1:(aU (some (A,(q,s.2)),B)).length=m:=by have:=HLA.out;have:=HMA.out;simp[aU];omega
         show World.ownsRow _ _ _ _ _ _ _
         rw[e1,←HLA.out];exact h1
        have HLK:Hid ((aU (some (A,(q,s.2)),B)).length≤k+1):=by show _≤_;have:=HLA.out;have:=HMA.out;simp[aU];omega
        clear hst;go_wp2
        go_roundw
        case rel=>exact⟨k+1,(some (A,(q,s.2)),B),by omega,by go_num,by show _=Value.int .i64 ((A.length:Nat):Int);rw[HLA.out],H6.out,HLK.out,by show _=_;rw[HT2.out];exact(lF HRB.out HQ.out).symm,hB6.out⟩
        case measure=>simp[intOf] <;> omega
    case rest =>
     obtain⟨rfl,hz,HAPP⟩:=hcut;have hRy:=hid (ax HRA.out hz.out (Nat.le_refl _));have hPy:Hid (wc.heap[wr.heap.size]? = some (.cells #[.int .i32 c.1,.int .u8 c.2] 252 (0,0))):=(hz.out.block _ hPlt).trans HPA.out;have hBy:=hid (HBA.out.trans (hz.out.mono HBA.out.size));have hSy:wr.heap.size+1≤wc.heap.size:=by have:=hz.out.size;omega
     have hO:=hid (qd t c);have p1:wc.cell? ⟨wr.heap.size,1,none⟩=some (.int .u8 c.2):=by simp[World.cell?,hPy.out]
     have p0:wc.cell? ⟨wr.heap.size,0,none⟩=some (.int .i32 c.1):=by simp[World.cell?,hPy.out]
     have hln:=uF hRy.out;have hrow5:=hRy.out.alloc (.cells #[.int .i32 c.1,.int .u8 c.2] 252);have hnews:=zq wc (.int .i32 c.1) (.int .u8 c.2) wc.heap.size rfl;have hbs:w.heap.size≤wc.heap.size:=hBy.out.size;clear hBc HRB HPA HRA HBA HWA;by_cases hc:c.2=0
     ·have HC0:=hid hc
      clear hc;have hcz:(c.2==0)=true:=by simpa using HC0.out
      have HL:=hid (xl t c HC0.out)
      go_wp2_with((at_builtin;refine wpList_append_own _ rfl _ _ 201 rfl w.heap.size 252 i0 (.agg #[.int .i32 0,.int .u8 0]) 2 8 Tryz.underlying201 hi hz0 hz1 hz2 rfl (by decide) _ _ _ rfl hrow5 _ 1 1 [.int .i32 c.1,.int .u8 c.2] rfl rfl hnews (by simp[Value.oneCell']) (by unfold maxLen;omega) (by omega) (by simp;omega) ?_;intro v2 w5 hown5 hgrow5 _))
      have hB5:Below w.heap.size w w5:=(hBy.out.alloc hBy.out.size _).grown hgrow5 (by simp;omega) (fun k e=>(hrow5.lt k e).1)
      have h5:w5.ownsRow w.heap.size 252 2 v2 (aU (app t c)).length (aY (aU (app t c))):=by
       rw[hO.out,show c=(c.1,c.2) from rfl,fV];have e2:(aU t++[(c.1,c.2)]).length=m+1:=by rw[←HM.out];simp
       rw[e2];exact hown5
      have HLK:Hid ((aU (app t c)).length≤k+1):=by show _≤_;rw[hO.out];have:=HM.out;simp;omega
      have H5:=hid h5;have HB5:=hid hB5;clear hown5 hgrow5 h5 hB5 hrow5 hnews hln p0 p1;go_wp2
      go_roundw
      case rel=>exact⟨k+1,app t c,by omega,by go_num,by rw[HL.out,HM.out],H5.out,HLK.out,by show _=_;rw[HT2.out];exact HAPP.out.symm,HB5.out⟩
      case measure=>simp[intOf] <;> omega
     ·have HC0:=hid hc
      clear hc;have hcz:(c.2==0)=false:=by simpa using HC0.out
      have HL:=hid (xk t c HC0.out)
      go_wp2_with((at_builtin;refine wpList_append_own _ rfl _ _ 201 rfl w.heap.size 252 i0 (.agg #[.int .i32 0,.int .u8 0]) 2 8 Tryz.underlying201 hi hz0 hz1 hz2 rfl (by decide) _ _ _ rfl hrow5 _ 1 1 [.int .i32 c.1,.int .u8 c.2] rfl rfl hnews (by simp[Value.oneCell']) (by unfold maxLen;omega) (by omega) (by simp;omega) ?_;intro v2 w5 hown5 hgrow5 _))
      have hB5:Below w.heap.size w w5:=(hBy.out.alloc hBy.out.size _).grown hgrow5 (by simp;omega) (fun k e=>(hrow5.lt k e).1)
      have h5:w5.ownsRow w.heap.size 252 2 v2 (aU (app t c)).length (aY (aU (app t c))):=by
       rw[hO.out,show c=(c.1,c.2) from rfl,fV];have e2:(aU t++[(c.1,c.2)]).length=m+1:=by rw[←HM.out];simp
       rw[e2];exact hown5
      have HLK:Hid ((aU (app t c)).length≤k+1):=by show _≤_;rw[hO.out];have:=HM.out;simp;omega
      have H5:=hid h5;have HB5:=hid hB5;clear hown5 hgrow5 h5 hB5 hrow5 hnews hln p0 p1;go_wp2
      go_roundw
      case rel=>exact⟨k+1,app t c,by omega,by go_num,by rw[HL.out,HTL.out],H5.out,HLK.out,by show _=_;rw[HT2.out];exact HAPP.out.symm,HB5.out⟩
      case measure=>simp[intOf] <;> omega
  ·have hltz:¬ (k:Int)<(n:Int):=by omega
   have HE:Hid (t=tst l):=by
    show _=_
    rw[HT.out,List.take_of_length_le (by have:=HN.out;omega)]
   go_wp2;go_ret;refine⟨_,rfl,?_,hB⟩;have h:=hrow;rw[HE.out]at h;exact h
theorem uu(l:List Pt):(ord l).length=l.length:=by
 unfold ord;rw[List.length_append,(cu _).len];exact yj l
def Iv(L:List Int):List Int:=(ord (L.map pt)).map (·.1)
def zm(L:List Int):List Int:=(ord ((L.flatMap fd).map pt)).map (·.1)
def cK(L:List Int):List Int:=(comp (ord ((L.flatMap fd).map pt))).map (·.1)
theorem zl(L:List Int):(zm L).length≤L.length * 3:=by unfold zm;rw[List.length_map,uu,List.length_map];exact uN L
theorem zp(L:List Int):(cK L).length≤(zm L).length:=by unfold cK zm;rw[List.length_map,List.length_map];exact oQ _
def nk(L:List Int)(w:World)(e:Ending)(W':World):Prop:=∃ v,e=.returned v∧W'.ownsRow w.heap.size 21 1 v L.length (L.map (Value.int .i32))∧Below w.heap.size w W'
theorem bA.below{W W':World}{v:Value}{zs:List Int}(h:bA W v zs)(hb:Below W.heap.size W W'):bA W' v zs:=h.kp (Kp.below (B:=0) hb)
theorem Aa{L:List Int}{w w1 W':World}{v:Value}{l:List Pt}(hL:L=l.map (·.1))(hb:Below w.heap.size w w1)(h:W'.ownsRow w1.heap.size 21 1 v l.length ((l.map (·.1)).map (Value.int .i32)))(hb2:Below w1.heap.size w1 W'):nk L w (.returned v) W':=by
 subst hL;refine⟨v,rfl,?_,hb.trans (hb2.mono hb.size)⟩;rw[List.length_map];obtain⟨h1,h2⟩:=h;refine⟨h1,?_⟩;rcases h2 with h2 | ⟨g,cap,cur,e,hg,h3⟩
 ·exact .inl h2
 ·exact .inr ⟨g,cap,cur,e,Nat.le_trans hb.size hg,h3⟩
theorem uA(v:Value)(L:List Int)(w:World)(hlen:L.length≤10000)(hv:bA w v L):Calls Tryz.prog 157 #[v] w fun e W'=>nk (cK L) w e W':=by
 have hsh:∃ a m c,v=.slice a m c:=by obtain⟨a,c,e,_⟩:=hv;exact⟨a,_,c,e⟩
 have hval:=callsIn_wide.1 (sq 3 v w hsh);have hbx:=Boxed.new w 58 v;obtain⟨w1,hw1⟩:∃ w1,w1=w.alloc (.cells #[v] 58):=⟨_,rfl⟩;rw[←hw1]at hval hbx;have hB1:Below w.heap.size w w1:=by rw[hw1];exact(Below.refl _ w).alloc (Nat.le_refl _) _
 have hfl:=uN L;have hord:=qP 258 #[.pointer (some ⟨w.heap.size,0,none⟩)] (L.flatMap fd) w1 (by omega) (enters_of Tryz.func258 (by kernel_rfl) rfl) (xq w1 w.heap.size v L (by omega) hbx (hv.below hB1));have HV:=hid hval;have HO:=hid hord;have HB1:=hid hB1;obtain⟨a,m,c,rfl⟩:=hsh;clear hval hord hB1 hbx hv hw1;go_enter Tryz.func157,Tryz.ntmps157
 go_wp2_with fail;refine(show Calls _ _ _ _ _ from HV.out).mono ?_;rintro e w' ⟨rfl,rfl⟩
 go_wp2_with fail;refine(show Calls _ _ _ _ _ from HO.out).mono ?_;rintro e w2 ⟨v2,rfl,hr2,hB2⟩
 have hB12:=HB1.out.trans (hB2.mono HB1.out.size);have hol:(ord ((L.flatMap fd).map pt)).length≤30000:=by rw[uu,List.length_map];omega
 have htog:=oR v2 (ord ((L.flatMap fd).map pt)) w2 (by omega) (xt.of_own hr2);have HTG:=hid htog;have HB12:=hid hB12;clear htog hr2 hB2 hB12
 go_wp2_with fail;refine(show Calls _ _ _ _ _ from HTG.out).mono ?_;rintro e w3 ⟨v3,rfl,hr3,hB3⟩
 have hB13:=HB12.out.trans (hB3.mono HB12.out.size);have hrun:=vI v3 (comp (ord ((L.flatMap fd).map pt))) w3 (by have:=oQ (ord ((L.flatMap fd).map pt));unfold comp;omega) (xt.of_own hr3);have HR:=hid hrun;have HB13:=hid hB13;clear hrun hr3 hB3 hB13
 go_wp2_with fail;refine(show Calls _ _ _ _ _ from HR.out).mono ?_;rintro e w4 ⟨v4,rfl,hr4,hB4⟩
 go_wp2;go_ret;exact Aa rfl HB13.out hr4 hB4
theorem Gi(v:Value)(L:List Int)(w:World)(hlen:L.length≤10000)(hv:bA w v L):Calls Tryz.prog 261 #[v] w fun e W'=>e=.returned (.bool (decide (cK L=L)))∧Below w.heap.size w W':=by
 have hc:=uA v L w hlen hv;have hsh:∃ a m c,v=.slice a m c:=by obtain⟨a,c,e,_⟩:=hv;exact⟨a,_,c,e⟩
 have HC:=hid hc;have HV:=hid hv;obtain⟨a,m,c,rfl⟩:=hsh;have hl1:=zp L;have hl2:=zl L;clear hc hv;go_enter Tryz.func261,Tryz.ntmps261
 go_wp2_with fail;refine(show Calls _ _ _ _ _ from HC.out).mono ?_;rintro e w1 ⟨v1,rfl,hr1,hB1⟩
 have heq:=wP v1 (.slice a m c) (cK L) L w1 (by omega) (bA.of_own rfl hr1) (HV.out.below hB1);have HE:=hid heq;have HB1:=hid hB1;clear heq hr1 hB1
 go_wp2_with fail;refine(show Calls _ _ _ _ _ from HE.out).mono ?_;rintro e w2 ⟨rfl,hB2⟩
 go_wp2;go_ret;exact⟨rfl,HB1.out.trans (hB2.mono HB1.out.size)⟩
end Go.Proofs.YtkekkbciiohbkaaGreatDoor.N
namespace Go.Proofs.YtkekkbciiohbkaaGreatDoor.L
open Go.RowKit
theorem hid{p:Prop}(h:p):Hid p:=h
def sts(r:Int):Int:=(D.fnd r).2.2.1
def bid(r:Int):Int:=(D.fnd r).2.2.2.2.1
def joi(r:Int):Int:=(D.fnd r).2.2.2.2.2.2.2
def cls(r:Int):Int:=(D.fnd r).2.2.2.2.2.1
def mrk(r:Int):Bool:=(D.fnd r).2.2.2.2.2.2.1
theorem pH(P:D.Rw→Prop)(h0:P D.zr)(ht:∀ x∈D.tab,P x)(r:Int):P (D.fnd r):=by
 rw[D.Dh];unfold D.bM;cases h:D.tab.find? (D.fq r) with
 | none=>exact h0
 | some x=>exact ht x (List.mem_of_find?_eq_some h)
theorem mX(r:Int):0≤bid r∧bid r≤9 :=
 pH (fun x=>0≤x.2.2.2.2.1∧x.2.2.2.2.1≤9) (by decide +kernel) (by decide +kernel) r
theorem GK(r:Int):0≤cls r∧cls r≤255 :=
 pH (fun x=>0≤x.2.2.2.2.2.1∧x.2.2.2.2.2.1≤255) (by decide +kernel) (by decide +kernel) r
def dir(r:Int):Nat:=2 ^ (bid r).toNat
def fY(l:List Int):Nat:=l.foldl (fun a r=>a ||| dir r) 0
theorem wV(l:List Int)(r:Int):fY (l++[r])=fY l ||| dir r:=by simp[fY]
theorem mR(r:Int):dir r<1024:=by
 have h:=mX r;have:(bid r).toNat≤9:=by omega
 have h2:=Nat.pow_le_pow_right (show 0<2 by omega) this;unfold dir;omega
theorem jC:∀(l:List Int) (a:Nat),a<1024→l.foldl (fun a r=>a ||| dir r) a<1024
 | [],a,h=>h
 | r::l,a,h=>jC l _ (Nat.or_lt_two_pow (n:=10) h (mR r))
theorem jJ(l:List Int):fY l<1024:=jC l 0 (by omega)
def has(l:List Int)(b:Int):Bool:=l.any fun r=>decide (bid r=b)
theorem jK(r:Int)(b:Nat):(dir r).testBit b=decide (bid r=b):=by
 have h:=mX r;unfold dir;rw[Nat.testBit_two_pow]
 congr 1
 exact propext ⟨fun h=>by omega,fun h=>by omega⟩
theorem rI(b:Nat):∀(l:List Int) (a:Nat),(l.foldl (fun a r=>a ||| dir r) a).testBit b=(a.testBit b||has l b)
 | [],a=>by simp[has]
 | r::l,a=>by
  rw[List.foldl_cons,rI b l,Nat.testBit_or,jK,has,has,List.any_cons,Bool.or_assoc]
theorem rV(l:List Int)(b:Nat):(fY l).testBit b=has l b:=by
 unfold fY;rw[rI b l 0,Nat.zero_testBit,Bool.false_or]
def rh(l:List Int):Option Int:=l.reverse.find? fun r=>decide (bid r≠8)
def gn(l:List Int):Nat:=((rh l).map dir).getD 0
theorem rj(l:List Int):gn l<1024:=by
 unfold gn;cases rh l with
 | none=>simp
 | some r=>exact mR r
def kA(l:List Int):Int:=((rh l).map bid).getD 8
def kE(l:List Int):Bool:=has l 2||has l 3||has l 7
def dJ:List Int→Bool
 | []=>true
 | r::t=>if bid r=2∨bid r=3 then !has (r::t) 1&&!(has (r::t) 4&&has (r::t) 7)&&(decide (kA (r::t)=2)||decide (kA (r::t)=3)||decide (kA (r::t)=4)||decide (kA (r::t)=7))
  else if bid r=1 then !has (r::t) 2&&!has (r::t) 3&&!has (r::t) 7&&(decide (kA (r::t)=1)||decide (kA (r::t)=4)) else false
theorem GV:∀ x:Fin 1024,(bits .and .u16 (x.val:Int) 140 != 0)=(x.val.testBit 2||x.val.testBit 3||x.val.testBit 7):=by decide +kernel
theorem Ee:∀ x:Fin 1024,(bits .andNot .u16 (x.val:Int) 1021==0)=!x.val.testBit 1:=by decide +kernel
theorem Ec:∀ x:Fin 1024,(bits .and .u16 (x.val:Int) 156 != 0)=(x.val.testBit 2||x.val.testBit 3||x.val.testBit 4||x.val.testBit 7):=by decide +kernel
theorem Eb:∀ x:Fin 1024,(bits .and .u16 (x.val:Int) 144 != 144)=!(x.val.testBit 4&&x.val.testBit 7):=by decide +kernel
theorem Ef:∀ x:Fin 1024,(bits .andNot .u16 (x.val:Int) 883==0)=(!x.val.testBit 2&&!x.val.testBit 3&&!x.val.testBit 7):=by decide +kernel
theorem Ed:∀ x:Fin 1024,(bits .and .u16 (x.val:Int) 18 != 0)=(x.val.testBit 1||x.val.testBit 4):=by decide +kernel
theorem Ea:∀ x:Fin 1024,(bits .and .u16 (x.val:Int) 12 != 0)=(x.val.testBit 2||x.val.testBit 3):=by decide +kernel
theorem fm(l:List Int)(b:Nat)(hb:b≠8):(gn l).testBit b=decide (kA l=b):=by
 unfold gn kA;cases rh l with
 | none=>simp;omega
 | some r=>simp[jK]
def rem(L:List Int)(st a:Int):List Int:=if st=1 then L.drop a.toNat else (L.take (a+1).toNat).reverse
theorem Fi(L:List Int)(st a:Int)(hst:st=1∨st=-1)(h0:0≤a)(h1:a<L.length):rem L st a=L[a.toNat]?.getD 0::rem L st (a+st):=by
 obtain⟨k,rfl⟩:∃ k:Nat,a=k:=⟨a.toNat,by omega⟩;have hk:k<L.length:=by omega
 rcases hst with rfl | rfl
 ·simp only[rem,if_true]
  rw[show((k:Int)+1).toNat=k+1 by omega,Int.toNat_natCast,List.drop_eq_getElem_cons hk,List.getElem?_eq_getElem hk];rfl
 ·simp only[rem,show ¬ ((-1:Int)=1) by omega,if_false]
  rw[show((k:Int)+1).toNat=k+1 by omega,show((k:Int)+-1+1).toNat=k by omega,Int.toNat_natCast,List.take_succ_eq_append_getElem hk,List.reverse_append,List.getElem?_eq_getElem hk];rfl
theorem Ca(L:List Int)(st a:Int)(h:(st=1∧(L.length:Int)≤a)∨(st=-1∧a<0)):rem L st a=[]:=by
 rcases h with⟨rfl,h⟩ | ⟨rfl,h⟩
 ·simp only[rem,if_true]
  exact List.drop_of_length_le (by omega)
 ·simp only[rem,show ¬ ((-1:Int)=1) by omega,if_false]
  rw[show(a+1).toNat=0 by omega];rfl
def nb(L:List Int)(i st:Int):Int:=(((rem L st (i+st)).find? fun r=>decide (joi r≠4)).map joi).getD 0
def may(L:List Int)(i:Nat):Bool :=
 (decide (0<i)&&decide (cls (L[i - 1]?.getD 0)=9))||(decide (L[i]?.getD 0=8204)&&((decide (nb L i (-1)=1)||decide (nb L i (-1)=3))&&(decide (nb L i 1=2)||decide (nb L i 1=3))))
def jat(L:List Int)(i:Nat):Bool:=!(decide (L[i]?.getD 0=8204)||decide (L[i]?.getD 0=8205))||may L i
def jok(L:List Int):Bool:=(List.range L.length).all (jat L)
theorem Gg(L:List Int)(i:Nat)(hi:i<L.length)(h:jat L i=false):jok L=false:=by
 unfold jok;rw[Bool.eq_false_iff];intro hc
 have:=List.all_eq_true.1 hc i (List.mem_range.2 hi);rw[h]at this;cases this
theorem CZ(L:List Int)(h:∀ i,i<L.length→jat L i=true):jok L=true :=
 List.all_eq_true.2 fun i hi=>h i (List.mem_range.1 hi)
def et(r:Int):Bool:=decide (sts r≠1)&&decide (sts r≠4)
def dh(L:List Int):Bool:=decide (L.take 4=[120,110,45,45])
def qs(L:List Int)(hy:Bool):List Bool :=
 [!decide (N.cK L=L),hy&&decide (4≤L.length)&&decide (L[2]?.getD 0=45)&&decide (L[3]?.getD 0=45),hy&&(decide (L[0]?.getD 0=45)||decide (L[L.length - 1]?.getD 0=45)),
   dh L,L.any (fun r=>decide (r=46)),mrk (L[0]?.getD 0),L.any et,!jok L]
def bt(b:Bool)(v:Int):Int:=if b then v else 0
def sm:Nat→List Bool→Int
 | _,[]=>0
 | k,b::l=>bt b (2 ^ k)+sm (k+1) l
def flt(L:List Int)(hy:Bool):Int:=if L.length=0 then 0 else sm 0 (qs L hy)
end Go.Proofs.YtkekkbciiohbkaaGreatDoor.L
namespace Go.Proofs.YtkekkbciiohbkaaGreatDoor.D
open Go.RowKit Go.Lib Go.Sort Go.Shelf
theorem ru(r:Int)(w:World):Calls Tryz.prog 253 #[.int .i32 r] w fun e W'=>Ans (inst r) w e W':=by
 obtain⟨L,hL⟩:∃ L,L=inst r:=⟨_,rfl⟩;have HL:=hid' hL;rw[←hL];clear hL;go_enter Tryz.func253,Tryz.ntmps253
 go_wp2
 all_goals go_ret
 all_goals first | refine Ans.one ?_ (Below.refl _ _) | refine Ans.two ?_ (Below.refl _ _) | refine Ans.nil ?_ (Below.refl _ _)
 all_goals rw[HL.out]
 all_goals clear HL
 all_goals first | (rename_i h;obtain rfl:=eq_of_beq h;rfl) | (simp[inst,kD,List.lookup, *];done)
theorem jH(r:Int)(w:World):Calls Tryz.prog 252 #[.int .i32 r] w fun e W'=>e=.returned (.int .i32 (jI r))∧W'=w:=by
 obtain⟨L,hL⟩:∃ L,L=jI r:=⟨_,rfl⟩;have HL:=hid' hL;rw[←hL];clear hL;go_enter Tryz.func252,Tryz.ntmps252
 go_wp2
 all_goals go_ret
 all_goals refine⟨?_,rfl⟩
 all_goals rw[HL.out]
 all_goals clear HL
 all_goals first | (rename_i h;obtain rfl:=eq_of_beq h;rfl) | (simp[jI,uV,List.lookup, *];done)
theorem ez{α:Type}:∀ {l:List (Int×α)} {r:Int} {v:α},l.lookup r=some v→(r,v)∈l
 | [],r,v,h=>by simp[List.lookup]at h
 | (a,b)::l,r,v,h=>by
  unfold List.lookup at h
  split at h
  ·rename_i hb
   obtain rfl:=eq_of_beq hb;cases h
   exact List.mem_cons_self
  ·exact List.mem_cons_of_mem _ (ez h)
theorem Du(r:Int):-65248≤jI r∧jI r≤80:=by
 unfold jI;cases h:uV.lookup r with
 | none=>simp
 | some v =>
  have hm:=ez h;have:∀ p∈uV,-65248≤p.2∧p.2≤80:=by decide
  exact this _ hm
theorem jq(d:List Rw)(r:Int):bM d r=zr∨(bM d r∈d∧(bM d r).1≤r∧r≤(bM d r).2.1):=by
 unfold bM;cases h:d.find? (fq r) with
 | none=>exact .inl rfl
 | some x =>
  refine .inr ⟨List.mem_of_find?_eq_some h,?_⟩;have:=List.find?_some h
  simpa[fq]using this
theorem pG(r:Int):fnd r=zr∨(fnd r∈tab∧(fnd r).1≤r∧r≤(fnd r).2.1):=by
 unfold fnd tab;split
 ·rcases jq eK r with h | ⟨h,g⟩
  ·exact .inl h
  ·exact .inr ⟨by simp[h],g⟩
 ·split
  ·rcases jq eA r with h | ⟨h,g⟩
   ·exact .inl h
   ·exact .inr ⟨by simp[h],g⟩
  ·split
   ·rcases jq cL r with h | ⟨h,g⟩
    ·exact .inl h
    ·exact .inr ⟨by simp[h],g⟩
   ·rcases jq later r with h | ⟨h,g⟩
    ·exact .inl h
    ·exact .inr ⟨by simp[h],g⟩
theorem xZ:∀ x∈tab,0≤x.1∧x.2.1≤200000∧0≤x.2.2.1∧x.2.2.1≤4:=by decide
theorem Gx{r:Int}(h:(fnd r).2.2.1≠0):0≤r∧r≤200000:=by
 rcases pG r with e | ⟨hm,h1,h2⟩
 ·rw[e]at h;exact absurd rfl h
 ·have:=xZ _ hm
  omega
def mpd(lo r:Int):List Int:=if jI lo≠0 then [r+jI lo] else inst r
def mp(r:Int):List Int:=if (fnd r).2.2.1=0∨(fnd r).2.2.1=2 then [] else if (fnd r).2.2.1=3 then mpd (fnd r).1 r else [r]
theorem sW(lo r:Int)(h0:0≤r)(h1:r≤200000)(w:World):Calls Tryz.prog 206 #[.int .i32 lo,.int .i32 r] w fun e W'=>Ans (mpd lo r) w e W':=by
 obtain⟨L,hL⟩:∃ L,L=mpd lo r:=⟨_,rfl⟩;have HL:=hid' hL;rw[←hL];clear hL;obtain⟨D,hD⟩:∃ D,D=jI lo:=⟨_,rfl⟩;have hb:=Du lo;rw[←hD]at hb;have HD:=hid' hD;clear hD;obtain⟨hb1,hb2⟩:=hb;by_cases hd0:D=0
 ·have HL2:Hid (L=inst r):=by show _=_;rw[HL.out];unfold mpd;rw[←HD.out,if_neg (by simpa using hd0)]
  subst hd0;clear HL;go_enter Tryz.func206,Tryz.ntmps206
  go_wp2_with fail;refine(jH lo w).mono ?_;rw[←HD.out];rintro e w1 ⟨rfl,rfl⟩
  go_wp2_with fail;refine(ru r _).mono ?_;rw[←HL2.out];rintro e w2 ⟨⟨v,rfl,hv⟩,hB⟩
  go_wp2;go_ret;exact⟨⟨v,rfl,hv⟩,hB⟩
 ·have HL2:Hid (L=[r+D]):=by show _=_;rw[HL.out];unfold mpd;rw[←HD.out,if_pos hd0]
  have hdb:(D != 0)=true:=by simpa using hd0
  have hdb2:(D==0)=false:=by simpa using hd0
  clear HL;go_enter Tryz.func206,Tryz.ntmps206
  go_wp2_with fail;refine(jH lo w).mono ?_;rw[←HD.out];rintro e w1 ⟨rfl,rfl⟩
  go_wp2;go_ret;exact Ans.one HL2.out (Below.refl _ _)
theorem pA(r:Int)(w:World):Calls Tryz.prog 156 #[.int .i32 r] w fun e W'=>Ans (mp r) w e W':=by
 obtain⟨L,hL⟩:∃ L,L=mp r:=⟨_,rfl⟩;have HL:=hid' hL;rw[←hL];clear hL;have hbd:=@Gx r;have hcall:=fw r
 have hst:0≤(fnd r).2.2.1∧(fnd r).2.2.1≤4:=by
  rcases pG r with e | ⟨hm,_⟩
  ·rw[e];decide
  ·have:=xZ _ hm;omega
 unfold mp at HL
 obtain⟨⟨x0,x1,x2,x3,x4,x5,x6,x7⟩,hx⟩:∃ x,x=fnd r:=⟨_,rfl⟩;rw[←hx]at hbd hcall hst HL
 dsimp only at hbd hst HL
 have HC:=hid' hcall;have HBD:=hid' hbd;clear hcall hx hbd;have HI:Hid ((Tryz.prog.info? 197).map (·.size)=some 8):=by show _=_;kernel_rfl
 go_enter Tryz.func156,Tryz.ntmps156
 go_wp2_with fail;refine(HC.out _).mono ?_;simp only[cd];rintro e w1 ⟨rfl,hB1⟩
 clear HC
 go_wp2_with((refine wpList_store_row rfl 197 (.tmp 3) (.tmp 5) rfl w1.heap.size #[.int .i32 x0,.int .i32 x1,.int .u8 x2,.int .u8 x3,.int .u8 x4,.int .u8 x5,.bool x6,.int .u8 x7] rfl rfl 197 _ (by exact heap_alloc_last w1 _) (by exact HI.out) (by rfl) (by kernel_rfl) (wpList_nil ?_);rw[World.setRow_alloc_new]))
 ·rename_i h
  have h2:x2=0:=eq_of_beq h;go_ret;exact Ans.nil (by rw[HL.out,if_pos (.inl h2)]) (hB1.alloc hB1.size _)
 ·rename_i h
  have h2:x2=2:=eq_of_beq h;go_ret;exact Ans.nil (by rw[HL.out,if_pos (.inr h2)]) (hB1.alloc hB1.size _)
 ·have h3:x2=3:=by
   apply eq_of_beq
   assumption
  have hr:=HBD.out (by omega);have HL2:Hid (L=mpd x0 r):=by show _=_;rw[HL.out,if_neg (by omega),if_pos h3]
  have hB2:=hB1.alloc hB1.size (.cells #[.int .i32 x0,.int .i32 x1,.int .u8 x2,.int .u8 x3,.int .u8 x4,.int .u8 x5,.bool x6,.int .u8 x7] 197);refine(sW x0 r hr.1 hr.2 _).mono ?_;rw[←HL2.out];rintro e w2 ⟨⟨v,rfl,hv⟩,hB⟩
  have hB3:Below w.heap.size w w2:=hB2.trans (hB.mono hB2.size);clear hB hB2 hB1 HL HL2 h3;go_wp2;go_ret;exact⟨⟨v,rfl,hv⟩,hB3⟩
 ·have h0:¬ x2=0:=by intro h;subst h;simp_all
  have h2:¬ x2=2:=by intro h;subst h;simp_all
  have h3:¬ x2=3:=by intro h;subst h;simp_all
  go_ret;have hL1:L=[r]:=by rw[HL.out,if_neg (by omega),if_neg h3]
  have:=Ans.one (w:=w) (W:=w1.alloc (.cells #[.int .i32 x0,.int .i32 x1,.int .u8 x2,.int .u8 x3,.int .u8 x4,.int .u8 x5,.bool x6,.int .u8 x7] 197)) hL1 (hB1.alloc hB1.size _);rw[World.size_alloc]at this;exact this
end Go.Proofs.YtkekkbciiohbkaaGreatDoor.D
