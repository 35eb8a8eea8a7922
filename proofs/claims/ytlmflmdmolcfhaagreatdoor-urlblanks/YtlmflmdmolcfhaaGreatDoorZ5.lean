/- Contracts and plain facts. -/
import Derived.Test.YtlmflmdmolcfhaaGreatDoorZ4
import Derived.Deep.CutRange
import Derived.Laws.BitsAllLaws
import Derived.Laws.Cover4
import Derived.RowKit
import Derived.OpenShut
import Derived.Deep.AppendLies
import Derived.Deep.RegionLaw
import Derived.Lib.LazyBuf
import Derived.Lib.Overlaps
import Derived.Lib.AppendZeros
import Derived.Lib.AppendZerosOnto
import Derived.Laws.Externs
import Derived.Laws.IdiomCopy
set_option maxRecDepth 100000
set_option maxHeartbeats 16000000
set_option linter.unusedVariables false
set_option linter.unnecessarySimpa false
open Nat (le_refl div_le_self zero_le zero_add mod_lt not_lt_zero mul_comm div_add_mod min_def le_trans)
open List (length_cons length_append foldl_cons append_assoc filter_append getElem?_eq_getElem length_map map_append take_append_drop length_take take_of_length_le length_filter_le foldl_append cons_append mem_of_mem_drop getElem?_drop append_nil nil_append length_nil length_drop)
open ByteArray (size_extract)
open Go.World (ownsRow_nil)
open Go.IntKind (wrap_i64)
open Int (ofNat_sub)
namespace Go.Proofs.YtlmflmdmolcfhaaGreatDoor
open Tryz Go.RowKit
namespace N
abbrev TS:=Option (List Pt×Pt)×List Pt
def bB:TS->List Pt
 | (none,B)=>B
 | (some (A,s),B)=>A++s::B
def tt:TS->Int
 | (none,_)=>-1
 | (some (A,_),_)=>(A.length:Nat)
def pr(a b:Int):Int×Bool:=D.prf D.prs a b
def bH(t:TS)(c:Pt):TS:=match t with
 | (none,B)=>if c.2=0 then (some (B,c),[]) else (none,B++[c])
 | (some (A,s),B)=>if rch B c=true/\(pr s.1 c.1).2=true then (some (A,((pr s.1 c.1).1,s.2)),B) else if c.2=0 then (some (A++s::B,c),[]) else (some (A,s),B++[c])
def tst(l:List Pt):TS:=l.foldl bH (none,[])
def comp(l:List Pt):List Pt:=bB (tst l)
theorem tk(l:List Pt)(c:Pt):tst (l++[c])=bH (tst l) c:=by simp[tst,foldl_append]
theorem Dj(l:List Pt)(k:Nat)(hk:k<l.length):tst (l.take (k+1))=bH (tst (l.take k)) (l[k]?.getD z2):=by rw[List.take_succ_eq_append_getElem hk,tk,getElem?_eq_getElem hk];rfl
theorem Au(t:TS)(c:Pt):(bB (bH t c)).length<=(bB t).length+1:=by
 obtain⟨_ | ⟨A,s⟩,B⟩:=t
 ·unfold bH;dsimp only;split <;> simp[bB]
 ·unfold bH;dsimp only;split
  ·simp[bB]
  ·split <;> simp[bB] <;> omega
theorem yJ(l:List Pt):(bB (tst l)).length<=l.length:=by
 induction l using nC with
 | h0=>simp[tst,bB]
 | h1 l c ih=>rw[tk];have:=Au (tst l) c;simp;omega
theorem Cb(A:List Pt)(s:Pt)(B:List Pt)(y:Int):(bg (A++s::B)).set (A.length * 2) (.int .i32 y)=bg (A++(y,s.2)::B):=by
 have e:∀ p:Pt,bg (A++p::B)=bg A++([.int .i32 p.1,.int .u8 p.2]++bg B):=fun p=>by simp[bg,c2]
 rw[e,e,List.set_append_right _ _ (by rw[cQ];omega),cQ,Nat.sub_self];rfl
theorem rA{base m cap g:Nat}{A B:List Pt}{s:Pt}{W:World}(ag:W.ownsRow base 312 2 (.slice (some ⟨g,0,none⟩) m cap) m (bg (A++s::B)))(hm:m<=100000)(c:Pt):
  ∃ v',(∀ W2,(Instr.slice 280 (.slice (some ⟨g,0,none⟩) m cap) (some (.int .i64 ((A.length:Int)+1))) none none).run prog W2=.ok v' W2) /\
   ∀ x:aH W,Calls prog 330 #[v',.agg #[.int .i32 c.1,.int .u8 c.2]] x.W fun e W'=>e=.returned (.bool (rch B c))/\Below x.W.heap.size x.W W':=by
 have hl:A.length+1+B.length=m:=by have:=ag.1;rw[cQ]at this;simp at this;omega
 have hmc:m<=cap:=by
  rcases ag.2 with⟨h,_⟩ | ⟨g',cap',cur,h,_,_,hnc,_⟩
  ·cases h
  ·cases h;exact hnc
 have hp:Pts W g ((A.length+1) * 2) B:=by have:=fp (O:=A++[s]) (S:=B) (by simpa using ag);simpa using this
 refine⟨.slice (if cap=A.length+1 then some ⟨g,0,none⟩ else some ⟨g,(A.length+1) * 2,none⟩) B.length (cap - (A.length+1)),fun W2=>?_,fun x=>?_⟩
 ·rw[run_slice_l W2 280 (some ⟨g,0,none⟩) m cap (by kernel_rfl) .i64 ((A.length:Int)+1) (by omega) (by omega),Tryz.sizeOf312' W2];have e1:((A.length:Int)+1).toNat=A.length+1:=by omega
  have e2:m - (A.length+1)=B.length:=by omega
  simp only[Result.andThen,sliced,e1,e2];split <;> simp[Addr.add]
 ·cases hB:B.getLast? with
  | none =>
   have hB0:B=[]:=by simpa using hB
   subst hB0;refine(rQ _ _ c x.W).mono ?_;rintro e W' ⟨rfl,h⟩;exact⟨rfl,h⟩
  | some b =>
   have hbb:B=B.dropLast++[b]:=by
    have hne:B≠[]:=fun h=>by rw[h]at hB;cases hB
    have:=List.dropLast_concat_getLast hne;rw[List.getLast?_eq_some_getLast hne]at hB;cases hB;exact this.symm
   have hlen:B.length=B.dropLast.length+1:=by have:=congrArg List.length hbb;simpa using this
   rw[if_neg (by omega),hlen];have hpx:Pts x.W g ((A.length+1) * 2) (B.dropLast++[b]):=by rw[<-hbb];exact hp.below x.h hp.lt
   refine(rP g _ _ _ B.dropLast b c x.W rfl (by omega) hpx).mono ?_;rintro e W' ⟨rfl,h⟩;exact⟨by unfold rch;rw[hB],h⟩
theorem uf{base m:Nat}{v:Value}{X:List Value}{W:World}(h:W.ownsRow base 312 2 v m X)(hm:0<m):∃ g cap,v=.slice (some ⟨g,0,none⟩) m cap:=by
 rcases h.2 with⟨rfl,h0⟩ | ⟨g,cap,cur,rfl,_⟩
 ·omega
 ·exact⟨g,cap,rfl⟩
def reach(t:TS)(c:Pt):Bool:=match t with
 | (none,_)=>false
 | (some _,B)=>rch B c
def app(t:TS)(c:Pt):TS:=if c.2=0 then (some (bB t,c),[]) else (t.1,t.2++[c])
theorem sZ(t:TS)(c:Pt):bB (app t c)=bB t++[c]:=by obtain⟨_ | ⟨A,s⟩,B⟩:=t <;> unfold app <;> split <;> simp[bB]
theorem CD(t:TS)(c:Pt)(h:c.2=0):tt (app t c)=((bB t).length:Nat):=by unfold app;rw[if_pos h];rfl
theorem CC(t:TS)(c:Pt)(h:¬ c.2=0):tt (app t c)=tt t:=by obtain⟨_ | ⟨A,s⟩,B⟩:=t <;> unfold app <;> rw[if_neg h] <;> rfl
theorem nc{t:TS}{c:Pt}(h:reach t c=false):bH t c=app t c:=by
 obtain⟨_ | ⟨A,s⟩,B⟩:=t
 ·unfold bH app;rfl
 ·have hr:rch B c=false:=h;unfold bH app;dsimp only;rw[if_neg (by rw[hr];simp)];rfl
theorem wL{A:List Pt}{s:Pt}{B:List Pt}{c:Pt}(h:(pr s.1 c.1).2=false):bH (some (A,s),B) c=app (some (A,s),B) c:=by unfold bH app;dsimp only;rw[if_neg (by rw[h];simp)];rfl
theorem wK{A:List Pt}{s:Pt}{B:List Pt}{c:Pt}{q:Int}(h:reach (some (A,s),B) c=true)(hq:pr s.1 c.1=(q,true)):bH (some (A,s),B) c=(some (A,(q,s.2)),B):=by have hr:rch B c=true:=h;unfold bH;dsimp only;rw[if_pos ⟨hr,by rw[hq]⟩,hq]
theorem ry(v:Value)(l:List Pt)(w:World)(hlen:l.length<=50000)(hr:CH w v l):
  Calls prog 307 #[v] w fun e W'=>∃ v',e=.returned v'/\W'.ownsRow w.heap.size 312 2 v' (comp l).length (bg (comp l))/\Below w.heap.size w W':=by
 obtain⟨a,cap0,rfl,hf⟩:=hr;obtain⟨i0,hi,hz0,hz1,hz2⟩:=info_parts Tryz.info312;obtain⟨n,hn⟩:=Ex' l.length;have HF:=hid hf;rw[hn]at hlen ⊢;have HN:=hid hn;clear hf hn;go_enter func307,ntmps307;go_wp2_with fail
 go_loopw [3,4,11] (fun v3 v4 i wr=>∃(k:Nat) (t:TS),k<=n/\i=.int .i64 k/\v4=.int .i64 (tt t)/\wr.ownsRow w.heap.size 312 2 v3 (bB t).length (bg (bB t))/\(bB t).length<=k/\Hid (t=tst (l.take k))/\Below w.heap.size w wr) (fun _ _ i _=>n - (intOf i).toNat)
 case atStart=>exact⟨0,(none,[]),zero_le _,rfl,rfl,ownsRow_nil _ _ _ _,le_refl _,rfl,Below.refl _ _⟩
 case round =>
  obtain⟨k,t,hk,rfl,rfl,ag,htl,HT,hB⟩:=hrel;by_cases hlt:k<n
  ·obtain⟨g0,rfl,hp⟩:=HF.out (by have:=HN.out;omega);have hp':=hp.below hB hp.lt;have hkl:k<l.length:=by have:=HN.out;omega
   have e0:=hp'.c0 k hkl;have e1:=hp'.c1 k hkl;have HT2:Hid (tst (l.take (k+1))=bH t (l[k]?.getD z2)):=by show _=_;rw[Dj l k hkl,HT.out]
   obtain⟨c,hce⟩:=Ex' (l[k]?.getD z2);rw[hce]at e0 e1 HT2;simp only[zero_add]at e0 e1;have hltz:(k:Int)<(n:Int):=by omega
   have hBs:=hB.size;obtain⟨wa,hwa⟩:∃ wa,wa=wr.alloc (.cells #[.int .i32 c.1,.int .u8 c.2] 312):=⟨_,rfl⟩;have hBa:Below w.heap.size w wa:=by rw[hwa];exact hB.alloc hB.size _
   have hPa:wa.heap[wr.heap.size]? = some (.cells #[.int .i32 c.1,.int .u8 c.2] 312 (0,0)):=by rw[hwa];exact heap_alloc_last wr _
   have hra:wa.ownsRow w.heap.size 312 2 u3 (bB t).length (bg (bB t)):=by rw[hwa];exact ag.alloc _
   have hsa:wa.heap.size=wr.heap.size+1:=by rw[hwa];simp
   clear hp hp' hce ag hB;have HRA:=hid hra;have HPA:=hid hPa;have HBA:=hid hBa;have HWA:=hid hwa;have hPlt:wr.heap.size<wa.heap.size:=by omega
   clear hra hPa hBa;obtain⟨tl,htl4⟩:=Ex' (tt t);obtain⟨m,hm⟩:=Ex' ((bB t).length);rw[htl4];rw[hm]at htl;have HTL:=hid htl4;have HM:=hid hm;rw[hm]at HRA;clear htl4 hm;go_wp2_with fail;rw[<-hwa];clear hwa hsa e0 e1
   go_cut [11,24] from 11 to 51 (fun v11 v24 wc=>v11=.int .i64 k/\v24=.bool (reach t c)/\Hid (Below wa.heap.size wa wc))
   case first =>
    obtain⟨_ | ⟨A,s⟩,B⟩:=t
    ·obtain rfl:tl=-1:=HTL.out.symm;have hg1:¬ (0:Int)<=-1:=by omega
     go_region
     go_wp2
     go_meet
     case rel=>exact⟨rfl,rfl,(Below.refl _ wa).drew⟩
    ·obtain⟨la,hla⟩:=Ex' A.length;obtain rfl:tl=(la:Int):=by rw[<-hla];exact HTL.out.symm
     have hmA:la+1+B.length=m:=by have:=HM.out;simp[bB]at this;omega
     have hra:wa.ownsRow w.heap.size 312 2 u3 m (bg (A++s::B)):=HRA.out;obtain⟨g,cap,rfl⟩:=uf hra (by omega);obtain⟨v',hsl,hreach⟩:=rA hra (by omega) c;rw[hla]at hsl;have hlam:la<=50000:=by omega
     have HMA:=hid hmA;have HRE:=hid hreach;have hre:reach (some (A,s),B) c=rch B c:=rfl;have HRR:=hid hre;have x0:∀ u:aH wa,u.W.cell? ⟨wr.heap.size,0,none⟩=some (.int .i32 c.1):=fun u=>by rw[u.h.cell (p:=⟨wr.heap.size,0,none⟩) hPlt];simp[World.cell?,HPA.out]
     have x1:∀ u:aH wa,u.W.cell? ⟨wr.heap.size,1,none⟩=some (.int .u8 c.2):=fun u=>by rw[u.h.cell (p:=⟨wr.heap.size,1,none⟩) hPlt];simp[World.cell?,HPA.out]
     have hne:Nonempty (aH wa):=⟨⟨wa,Below.refl _ _⟩⟩;have hg1:(0:Int)<=(la:Int):=by omega
     clear hreach hra hre hmA hla;generalize rch B c=rc at HRE HRR;refine aw (by kernel_rfl) (by kernel_rfl) ?_;repeat (go_big_quiet_step ((go_at_call 330;exact aH.call _ (HRE.out _))))
     refine wpQuiet_nil ?_;rintro _ ⟨u,rfl⟩;have hu:=hid u.h;clear x0 x1 hne hsl HRE;generalize u.W=wu at hu ⊢;go_wp2
     go_meet
     case rel=>exact⟨rfl,by rw[HRR.out],hu⟩
   case rest =>
    obtain⟨rfl,rfl,hBc⟩:=hcut;obtain⟨rb,hrb⟩:=Ex' (reach t c);rw[hrb];have HRB:=hid hrb;clear hrb
    go_upto_if 24 with fail
    go_cut [11] from 11 to 51 (fun v11 wd=>v11=.int .i64 k/\Hid (Below wa.heap.size wa wd)/\Hid (bH t c=app t c))
    case first =>
     cases rb with
     | false =>
      go_wp2
      go_meet
      case rel=>exact⟨rfl,hBc,nc HRB.out⟩
     | true =>
      obtain⟨_ | ⟨A,s⟩,B⟩:=t
      ·exact absurd HRB.out (by simp[reach])
      ·obtain⟨la,hla⟩:=Ex' A.length;obtain rfl:tl=(la:Int):=by rw[<-hla];exact HTL.out.symm
       have hmA:la+1+B.length=m:=by have:=HM.out;simp[bB]at this;omega
       have hra:wa.ownsRow w.heap.size 312 2 u3 m (bg (A++s::B)):=HRA.out;obtain⟨g,cap,rfl⟩:=uf hra (by omega);have hrc:=an hra hBc.out (le_refl _);have hpA:Pts wc g 0 (A++s::B):=by have:=fp (O:=[]) (S:=A++s::B) (by simpa using hrc);simpa using this
       have s0:=hpA.c0 la (by simp;omega);rw[eE _ _ _ _ hla]at s0;simp only[zero_add]at s0;have hglt:=hpA.lt;have hAm:(la:Int)<(m:Int):=by omega
       have HLA:=hid hla;have HMA:=hid hmA;have hlm:la<m:=by omega
       have hg1:(0:Int)<=(la:Int):=by omega
       have hwc:=hBc.out.size;have y0:∀ z:aH wc,z.W.cell? ⟨wr.heap.size,0,none⟩=some (.int .i32 c.1):=fun z=>by rw[z.h.cell (p:=⟨wr.heap.size,0,none⟩) (by show wr.heap.size<_;omega),hBc.out.cell (p:=⟨wr.heap.size,0,none⟩) hPlt];simp[World.cell?,HPA.out]
       have y1:∀ z:aH wc,z.W.cell? ⟨g,la * 2,none⟩=some (.int .i32 s.1):=fun z=>(z.h.cell (p:=⟨g,la * 2,none⟩) hglt).trans s0;have hne2:Nonempty (aH wc):=⟨⟨wc,Below.refl _ _⟩⟩;have hpair:=D.nS s.1 c.1;have hprr:D.prf D.prs s.1 c.1=pr s.1 c.1:=rfl;rw[hprr]at hpair;obtain⟨⟨q,is⟩,hq⟩:∃ q,pr s.1 c.1=q:=⟨_,rfl⟩;rw[hq]at hpair;dsimp only at hpair;have HQ:=hid hq;have HPAIR:=hid hpair;have HRC:=hid hrc;clear hpair hprr hq hra hpA s0 hrc hla hmA;go_wp2_with fail;refine aw (by kernel_rfl) (by kernel_rfl) ?_;repeat (go_big_quiet_step ((go_at_call 331;exact aH.call _ (HPAIR.out _))))
       refine wpQuiet_nil ?_;rintro _ ⟨z,rfl⟩;have hz:=hid (hBc.out.trans (z.h.mono hwc));have sy:=y1 z;have HRZ:=hid (an HRC.out z.h (le_refl _));clear y0 y1 hne2 HPAIR HRC;generalize z.W=wz at hz sy HRZ ⊢;cases is with
       | false =>
        go_wp2
        go_meet
        case rel=>exact⟨rfl,hz,wL (by rw[HQ.out])⟩
       | true =>
        have fy:wz.frozen? ⟨g,la * 2,none⟩=false:=by
         rcases HRZ.out.2 with⟨h,_⟩ | ⟨g',cap',cur,h,_,hg,_⟩
         ·cases h
         ·cases h;simp[World.frozen?,hg]
        have hst:=HRZ.out.stored (la * 2) (.int .i32 q);have hg2:w.heap.size<=g:=(HRZ.out.lt g rfl).1;have hB6:=hid ((HBA.out.trans (hz.out.mono HBA.out.size)).setCell (p:=⟨g,la * 2,none⟩) hg2 (.int .i32 q))
        have H6:Hid ((wz.setCell ⟨g,la * 2,none⟩ (.int .i32 q)).ownsRow w.heap.size 312 2 (.slice (some ⟨g,0,none⟩) m cap) (bB (some (A,(q,s.2)),B)).length (bg (bB (some (A,(q,s.2)),B)))):=by
         have h1:=hst.1;rw[<-HLA.out,Cb]at h1;have e1:(bB (some (A,(q,s.2)),B)).length=m:=by have:=HLA.out;have:=HMA.out;simp[bB];omega
         show World.ownsRow _ _ _ _ _ _ _;rw[e1,<-HLA.out];exact h1
        have HLK:Hid ((bB (some (A,(q,s.2)),B)).length<=k+1):=by show _<=_;have:=HLA.out;have:=HMA.out;simp[bB];omega
        clear hst;go_wp2
        go_roundw
        case rel=>exact⟨k+1,(some (A,(q,s.2)),B),by omega,by go_num,by show _=Value.int .i64 ((A.length:Nat):Int);rw[HLA.out],H6.out,HLK.out,by show _=_;rw[HT2.out];exact(wK HRB.out HQ.out).symm,hB6.out⟩
        case measure=>simp[intOf] <;> omega
    case rest =>
     obtain⟨rfl,hz,HAPP⟩:=hcut;have hRy:=hid (an HRA.out hz.out (le_refl _));have hPy:Hid (wc.heap[wr.heap.size]? = some (.cells #[.int .i32 c.1,.int .u8 c.2] 312 (0,0))):=(hz.out.block _ hPlt).trans HPA.out;have hBy:=hid (HBA.out.trans (hz.out.mono HBA.out.size));have hSy:wr.heap.size+1<=wc.heap.size:=by have:=hz.out.size;omega
     have hO:=hid (sZ t c);have p1:wc.cell? ⟨wr.heap.size,1,none⟩=some (.int .u8 c.2):=by simp[World.cell?,hPy.out]
     have p0:wc.cell? ⟨wr.heap.size,0,none⟩=some (.int .i32 c.1):=by simp[World.cell?,hPy.out]
     have hln:=zE hRy.out;have hrow5:=hRy.out.alloc (.cells #[.int .i32 c.1,.int .u8 c.2] 312);have hnews:=FY wc (.int .i32 c.1) (.int .u8 c.2) wc.heap.size rfl;have hbs:w.heap.size<=wc.heap.size:=hBy.out.size;clear hBc HRB HPA HRA HBA HWA;by_cases hc:c.2=0
     ·have HC0:=hid hc;clear hc;have hcz:(c.2==0)=true:=by simpa using HC0.out
      have HL:=hid (CD t c HC0.out);go_wp2_with((at_builtin;refine wpList_append_own _ rfl _ _ 280 rfl w.heap.size 312 i0 (.agg #[.int .i32 0,.int .u8 0]) 2 8 underlying280 hi hz0 hz1 hz2 rfl (by decide) _ _ _ rfl hrow5 _ 1 1 [.int .i32 c.1,.int .u8 c.2] rfl rfl hnews (by simp[Value.oneCell']) (by unfold maxLen;omega) (by omega) (by simp;omega) ?_;intro v2 w5 hown5 hgrow5 _));have hB5:Below w.heap.size w w5:=(hBy.out.alloc hBy.out.size _).grown hgrow5 (by simp;omega) (fun k e=>(hrow5.lt k e).1)
      have h5:w5.ownsRow w.heap.size 312 2 v2 (bB (app t c)).length (bg (bB (app t c))):=by
       rw[hO.out,show c=(c.1,c.2) from rfl,gS];have e2:(bB t++[(c.1,c.2)]).length=m+1:=by rw[<-HM.out];simp
       rw[e2];exact hown5
      have HLK:Hid ((bB (app t c)).length<=k+1):=by show _<=_;rw[hO.out];have:=HM.out;simp;omega
      have H5:=hid h5;have HB5:=hid hB5;clear hown5 hgrow5 h5 hB5 hrow5 hnews hln p0 p1;go_wp2
      go_roundw
      case rel=>exact⟨k+1,app t c,by omega,by go_num,by rw[HL.out,HM.out],H5.out,HLK.out,by show _=_;rw[HT2.out];exact HAPP.out.symm,HB5.out⟩
      case measure=>simp[intOf] <;> omega
     ·have HC0:=hid hc;clear hc;have hcz:(c.2==0)=false:=by simpa using HC0.out
      have HL:=hid (CC t c HC0.out);go_wp2_with((at_builtin;refine wpList_append_own _ rfl _ _ 280 rfl w.heap.size 312 i0 (.agg #[.int .i32 0,.int .u8 0]) 2 8 underlying280 hi hz0 hz1 hz2 rfl (by decide) _ _ _ rfl hrow5 _ 1 1 [.int .i32 c.1,.int .u8 c.2] rfl rfl hnews (by simp[Value.oneCell']) (by unfold maxLen;omega) (by omega) (by simp;omega) ?_;intro v2 w5 hown5 hgrow5 _));have hB5:Below w.heap.size w w5:=(hBy.out.alloc hBy.out.size _).grown hgrow5 (by simp;omega) (fun k e=>(hrow5.lt k e).1)
      have h5:w5.ownsRow w.heap.size 312 2 v2 (bB (app t c)).length (bg (bB (app t c))):=by
       rw[hO.out,show c=(c.1,c.2) from rfl,gS];have e2:(bB t++[(c.1,c.2)]).length=m+1:=by rw[<-HM.out];simp
       rw[e2];exact hown5
      have HLK:Hid ((bB (app t c)).length<=k+1):=by show _<=_;rw[hO.out];have:=HM.out;simp;omega
      have H5:=hid h5;have HB5:=hid hB5;clear hown5 hgrow5 h5 hB5 hrow5 hnews hln p0 p1;go_wp2
      go_roundw
      case rel=>exact⟨k+1,app t c,by omega,by go_num,by rw[HL.out,HTL.out],H5.out,HLK.out,by show _=_;rw[HT2.out];exact HAPP.out.symm,HB5.out⟩
      case measure=>simp[intOf] <;> omega
  ·have hltz:¬ (k:Int)<(n:Int):=by omega
   have HE:Hid (t=tst l):=by show _=_;rw[HT.out,take_of_length_le (by have:=HN.out;omega)]
   go_wp2;go_ret;refine⟨_,rfl,?_,hB⟩;have h:=ag;rw[HE.out]at h;exact h
theorem zo(l:List Pt):(ord l).length=l.length:=by unfold ord;rw[length_append,(cP _).len];exact DY l
def Lr(L:List Int):List Int:=(ord ((L.flatMap fd).map pt)).map (·.1)
def dA(L:List Int):List Int:=(comp (ord ((L.flatMap fd).map pt))).map (·.1)
theorem FC(L:List Int):(Lr L).length<=L.length * 3:=by unfold Lr;rw[length_map,zo,length_map];exact zO L
theorem FJ(L:List Int):(dA L).length<=(Lr L).length:=by unfold dA Lr;rw[length_map,length_map];exact yJ _
def pC(L:List Int)(w:World)(e:Ending)(W':World):Prop:=∃ v,e=.returned v/\W'.ownsRow w.heap.size 21 1 v L.length (L.map (Value.int .i32))/\Below w.heap.size w W'
theorem bU.below{W W':World}{v:Value}{zs:List Int}(h:bU W v zs)(hb:Below W.heap.size W W'):bU W' v zs:=h.kp (Kp.below (B:=0) hb)
theorem Ha{L:List Int}{w w1 W':World}{v:Value}{l:List Pt}(hL:L=l.map (·.1))(hb:Below w.heap.size w w1)(h:W'.ownsRow w1.heap.size 21 1 v l.length ((l.map (·.1)).map (Value.int .i32)))(hb2:Below w1.heap.size w1 W'):pC L w (.returned v) W':=by
 subst hL;refine⟨v,rfl,?_,hb.trans (hb2.mono hb.size)⟩;rw[length_map];obtain⟨h1,h2⟩:=h;refine⟨h1,?_⟩;rcases h2 with h2 | ⟨g,cap,cur,e,hg,h3⟩
 ·exact .inl h2
 ·exact .inr ⟨g,cap,cur,e,le_trans hb.size hg,h3⟩
theorem zA(v:Value)(L:List Int)(w:World)(hlen:L.length<=10000)(hv:bU w v L):Calls prog 286 #[v] w fun e W'=>pC (dA L) w e W':=by
 have hsh:∃ a m c,v=.slice a m c:=by obtain⟨a,c,e,_⟩:=hv;exact⟨a,_,c,e⟩
 have hval:=callsIn_wide.1 (wC 3 v w hsh);have hbx:=Boxed.new w 43 v;obtain⟨w1,hw1⟩:∃ w1,w1=w.alloc (.cells #[v] 43):=⟨_,rfl⟩;rw[<-hw1]at hval hbx;have hB1:Below w.heap.size w w1:=by rw[hw1];exact(Below.refl _ w).alloc (le_refl _) _
 have hfl:=zO L;have hord:=ui 334 #[.pointer (some ⟨w.heap.size,0,none⟩)] (L.flatMap fd) w1 (by omega) (enters_of func334 (by kernel_rfl) rfl) (CF w1 w.heap.size v L (by omega) hbx (hv.below hB1));have HV:=hid hval;have HO:=hid hord;have HB1:=hid hB1;obtain⟨a,m,c,rfl⟩:=hsh;clear hval hord hB1 hbx hv hw1;go_enter func286,ntmps286;go_wp2_with fail;refine(show Calls _ _ _ _ _ from HV.out).mono ?_;rintro e w' ⟨rfl,rfl⟩;go_wp2_with fail;refine(show Calls _ _ _ _ _ from HO.out).mono ?_;rintro e w2 ⟨v2,rfl,hr2,hB2⟩;have hB12:=HB1.out.trans (hB2.mono HB1.out.size);have hol:(ord ((L.flatMap fd).map pt)).length<=30000:=by rw[zo,length_map];omega
 have htog:=ry v2 (ord ((L.flatMap fd).map pt)) w2 (by omega) (CH.of_own hr2);have HTG:=hid htog;have HB12:=hid hB12;clear htog hr2 hB2 hB12;go_wp2_with fail;refine(show Calls _ _ _ _ _ from HTG.out).mono ?_;rintro e w3 ⟨v3,rfl,hr3,hB3⟩;have hB13:=HB12.out.trans (hB3.mono HB12.out.size);have hrun:=AM v3 (comp (ord ((L.flatMap fd).map pt))) w3 (by have:=yJ (ord ((L.flatMap fd).map pt));unfold comp;omega) (CH.of_own hr3);have HR:=hid hrun;have HB13:=hid hB13;clear hrun hr3 hB3 hB13;go_wp2_with fail;refine(show Calls _ _ _ _ _ from HR.out).mono ?_;rintro e w4 ⟨v4,rfl,hr4,hB4⟩;go_wp2;go_ret;exact Ha rfl HB13.out hr4 hB4
theorem PV(v:Value)(L:List Int)(w:World)(hlen:L.length<=10000)(hv:bU w v L):Calls prog 337 #[v] w fun e W'=>e=.returned (.bool (decide (dA L=L)))/\Below w.heap.size w W':=by
 have hc:=zA v L w hlen hv;have hsh:∃ a m c,v=.slice a m c:=by obtain⟨a,c,e,_⟩:=hv;exact⟨a,_,c,e⟩
 have HC:=hid hc;have HV:=hid hv;obtain⟨a,m,c,rfl⟩:=hsh;have hl1:=FJ L;have hl2:=FC L;clear hc hv;go_enter func337,ntmps337;go_wp2_with fail;refine(show Calls _ _ _ _ _ from HC.out).mono ?_;rintro e w1 ⟨v1,rfl,hr1,hB1⟩;have heq:=Ce v1 (.slice a m c) (dA L) L w1 (by omega) (bU.of_own rfl hr1) (HV.out.below hB1);have HE:=hid heq;have HB1:=hid hB1;clear heq hr1 hB1;go_wp2_with fail;refine(show Calls _ _ _ _ _ from HE.out).mono ?_;rintro e w2 ⟨rfl,hB2⟩;go_wp2;go_ret;exact⟨rfl,HB1.out.trans (hB2.mono HB1.out.size)⟩
end N
namespace L
theorem hid{p:Prop}(h:p):Hid p:=h
def sts(r:Int):Int:=(D.fnd r).2.2.1
def bid(r:Int):Int:=(D.fnd r).2.2.2.2.1
def joi(r:Int):Int:=(D.fnd r).2.2.2.2.2.2.2
def cls(r:Int):Int:=(D.fnd r).2.2.2.2.2.1
def mrk(r:Int):Bool:=(D.fnd r).2.2.2.2.2.2.1
theorem sB(P:D.Rw->Prop)(h0:P D.zr)(ht:∀ x∈D.tab,P x)(r:Int):P (D.fnd r):=by
 rw[D.MB];unfold D.bV;cases h:D.tab.find? (D.gl r) with
 | none=>exact h0
 | some x=>exact ht x (List.mem_of_find?_eq_some h)
theorem oX(r:Int):0<=bid r/\bid r<=9 :=
 sB (fun x=>0<=x.2.2.2.2.1/\x.2.2.2.2.1<=9) (by decide +kernel) (by decide +kernel) r
theorem QC(r:Int):0<=cls r/\cls r<=255 :=
 sB (fun x=>0<=x.2.2.2.2.2.1/\x.2.2.2.2.2.1<=255) (by decide +kernel) (by decide +kernel) r
def dir(r:Int):Nat:=2 ^ (bid r).toNat
def gV(l:List Int):Nat:=l.foldl (fun a r=>a ||| dir r) 0
theorem Cl(l:List Int)(r:Int):gV (l++[r])=gV l ||| dir r:=by simp[gV]
theorem oQ(r:Int):dir r<1024:=by
 have h:=oX r;have:(bid r).toNat<=9:=by omega
 have h2:=Nat.pow_le_pow_right (show 0<2 by omega) this;unfold dir;omega
theorem kG:∀(l:List Int) (a:Nat),a<1024->l.foldl (fun a r=>a ||| dir r) a<1024
 | [],a,h=>h
 | r::l,a,h=>kG l _ (Nat.or_lt_two_pow (n:=10) h (oQ r))
theorem kO(l:List Int):gV l<1024:=kG l 0 (by omega)
def has(l:List Int)(b:Int):Bool:=l.any fun r=>decide (bid r=b)
theorem kP(r:Int)(b:Nat):(dir r).testBit b=decide (bid r=b):=by have h:=oX r;unfold dir;rw[Nat.testBit_two_pow];congr 1;exact propext ⟨fun h=>by omega,fun h=>by omega⟩
theorem vB(b:Nat):∀(l:List Int) (a:Nat),(l.foldl (fun a r=>a ||| dir r) a).testBit b=(a.testBit b||has l b)
 | [],a=>by simp[has]
 | r::l,a=>by rw[foldl_cons,vB b l,Nat.testBit_or,kP,has,has,List.any_cons,Bool.or_assoc]
theorem vQ(l:List Int)(b:Nat):(gV l).testBit b=has l b:=by unfold gV;rw[vB b l 0,Nat.zero_testBit,Bool.false_or]
def uI(l:List Int):Option Int:=l.reverse.find? fun r=>decide (bid r≠8)
def ib(l:List Int):Nat:=((uI l).map dir).getD 0
theorem uK(l:List Int):ib l<1024:=by
 unfold ib;cases uI l with
 | none=>simp
 | some r=>exact oQ r
def lS(l:List Int):Int:=((uI l).map bid).getD 8
def lY(l:List Int):Bool:=has l 2||has l 3||has l 7
def ef:List Int->Bool
 | []=>true
 | r::t=>if bid r=2\/bid r=3 then !has (r::t) 1&&!(has (r::t) 4&&has (r::t) 7)&&(decide (lS (r::t)=2)||decide (lS (r::t)=3)||decide (lS (r::t)=4)||decide (lS (r::t)=7))
  else if bid r=1 then !has (r::t) 2&&!has (r::t) 3&&!has (r::t) 7&&(decide (lS (r::t)=1)||decide (lS (r::t)=4)) else false
theorem QO:∀ x:Fin 1024,(bits .and .u16 (x.val:Int) 140 != 0)=(x.val.testBit 2||x.val.testBit 3||x.val.testBit 7):=by decide +kernel
theorem Nl:∀ x:Fin 1024,(bits .andNot .u16 (x.val:Int) 1021==0)=!x.val.testBit 1:=by decide +kernel
theorem Nj:∀ x:Fin 1024,(bits .and .u16 (x.val:Int) 156 != 0)=(x.val.testBit 2||x.val.testBit 3||x.val.testBit 4||x.val.testBit 7):=by decide +kernel
theorem Ni:∀ x:Fin 1024,(bits .and .u16 (x.val:Int) 144 != 144)=!(x.val.testBit 4&&x.val.testBit 7):=by decide +kernel
theorem Nn:∀ x:Fin 1024,(bits .andNot .u16 (x.val:Int) 883==0)=(!x.val.testBit 2&&!x.val.testBit 3&&!x.val.testBit 7):=by decide +kernel
theorem Nk:∀ x:Fin 1024,(bits .and .u16 (x.val:Int) 18 != 0)=(x.val.testBit 1||x.val.testBit 4):=by decide +kernel
theorem Nh:∀ x:Fin 1024,(bits .and .u16 (x.val:Int) 12 != 0)=(x.val.testBit 2||x.val.testBit 3):=by decide +kernel
theorem gi(l:List Int)(b:Nat)(hb:b≠8):(ib l).testBit b=decide (lS l=b):=by
 unfold ib lS;cases uI l with
 | none=>simp;omega
 | some r=>simp[kP]
def rem(L:List Int)(st a:Int):List Int:=if st=1 then L.drop a.toNat else (L.take (a+1).toNat).reverse
theorem OR(L:List Int)(st a:Int)(hst:st=1\/st=-1)(h0:0<=a)(h1:a<L.length):rem L st a=L[a.toNat]?.getD 0::rem L st (a+st):=by
 obtain⟨k,rfl⟩:∃ k:Nat,a=k:=⟨a.toNat,by omega⟩;have hk:k<L.length:=by omega
 rcases hst with rfl | rfl
 ·simp only[rem,if_true];rw[show((k:Int)+1).toNat=k+1 by omega,Int.toNat_natCast,List.drop_eq_getElem_cons hk,getElem?_eq_getElem hk];rfl
 ·simp only[rem,show ¬ ((-1:Int)=1) by omega,if_false];rw[show((k:Int)+1).toNat=k+1 by omega,show((k:Int)+-1+1).toNat=k by omega,Int.toNat_natCast,List.take_succ_eq_append_getElem hk,List.reverse_append,getElem?_eq_getElem hk];rfl
theorem Kq(L:List Int)(st a:Int)(h:(st=1/\(L.length:Int)<=a)\/(st=-1/\a<0)):rem L st a=[]:=by
 rcases h with⟨rfl,h⟩ | ⟨rfl,h⟩
 ·simp only[rem,if_true];exact List.drop_of_length_le (by omega)
 ·simp only[rem,show ¬ ((-1:Int)=1) by omega,if_false];rw[show(a+1).toNat=0 by omega];rfl
def nb(L:List Int)(i st:Int):Int:=(((rem L st (i+st)).find? fun r=>decide (joi r≠4)).map joi).getD 0
def may(L:List Int)(i:Nat):Bool :=
 (decide (0<i)&&decide (cls (L[i - 1]?.getD 0)=9))||(decide (L[i]?.getD 0=8204)&&((decide (nb L i (-1)=1)||decide (nb L i (-1)=3))&&(decide (nb L i 1=2)||decide (nb L i 1=3))))
def jat(L:List Int)(i:Nat):Bool:=!(decide (L[i]?.getD 0=8204)||decide (L[i]?.getD 0=8205))||may L i
def jok(L:List Int):Bool:=(List.range L.length).all (jat L)
theorem PT(L:List Int)(i:Nat)(hi:i<L.length)(h:jat L i=false):jok L=false:=by unfold jok;rw[Bool.eq_false_iff];intro hc;have:=List.all_eq_true.1 hc i (List.mem_range.2 hi);rw[h]at this;cases this
theorem Me(L:List Int)(h:∀ i,i<L.length->jat L i=true):jok L=true :=
 List.all_eq_true.2 fun i hi=>h i (List.mem_range.1 hi)
def eS(r:Int):Bool:=decide (sts r≠1)&&decide (sts r≠4)
def dE(L:List Int):Bool:=decide (L.take 4=[120,110,45,45])
def qs(L:List Int)(hy:Bool):List Bool :=
 [!decide (N.dA L=L),hy&&decide (4<=L.length)&&decide (L[2]?.getD 0=45)&&decide (L[3]?.getD 0=45),hy&&(decide (L[0]?.getD 0=45)||decide (L[L.length - 1]?.getD 0=45)),
   dE L,L.any (fun r=>decide (r=46)),mrk (L[0]?.getD 0),L.any eS,!jok L]
def bt(b:Bool)(v:Int):Int:=if b then v else 0
def sm:Nat->List Bool->Int
 | _,[]=>0
 | k,b::l=>bt b (2 ^ k)+sm (k+1) l
def flt(L:List Int)(hy:Bool):Int:=if L.length=0 then 0 else sm 0 (qs L hy)
end L
namespace D
open Go.RowKit Go.Lib Go.Sort Go.Shelf
theorem uQ(r:Int)(w:World):Calls prog 329 #[.int .i32 r] w fun e W'=>Ans (inst r) w e W':=by
 obtain⟨L,hL⟩:∃ L,L=inst r:=⟨_,rfl⟩;have HL:=hid' hL;rw[<-hL];clear hL;go_enter func329,ntmps329;go_wp2;all_goals go_ret
 all_goals first | refine Ans.one ?_ (Below.refl _ _) | refine Ans.two ?_ (Below.refl _ _) | refine Ans.nil ?_ (Below.refl _ _)
 all_goals rw[HL.out]
 all_goals clear HL
 all_goals first | (rename_i h;obtain rfl:=eq_of_beq h;rfl) | (simp[inst,lX,List.lookup, *];done)
theorem kM(r:Int)(w:World):Calls prog 328 #[.int .i32 r] w fun e W'=>e=.returned (.int .i32 (kN r))/\W'=w:=by
 obtain⟨L,hL⟩:∃ L,L=kN r:=⟨_,rfl⟩;have HL:=hid' hL;rw[<-hL];clear hL;go_enter func328,ntmps328;go_wp2;all_goals go_ret
 all_goals refine⟨?_,rfl⟩
 all_goals rw[HL.out]
 all_goals clear HL
 all_goals first | (rename_i h;obtain rfl:=eq_of_beq h;rfl) | (simp[kN,zT,List.lookup, *];done)
theorem eV{α:Type}:∀ {l:List (Int×α)} {r:Int} {v:α},l.lookup r=some v->(r,v)∈l
 | [],r,v,h=>by simp[List.lookup]at h
 | (a,b)::l,r,v,h=>by
  unfold List.lookup at h;split at h
  ·rename_i hb;obtain rfl:=eq_of_beq hb;cases h;exact List.mem_cons_self
  ·exact List.mem_cons_of_mem _ (eV h)
theorem MN(r:Int):-65248<=kN r/\kN r<=80:=by
 unfold kN;cases h:zT.lookup r with
 | none=>simp
 | some v =>
  have hm:=eV h;have:∀ p∈zT,-65248<=p.2/\p.2<=80:=by decide
  exact this _ hm
theorem kt(d:List Rw)(r:Int):bV d r=zr\/(bV d r∈d/\(bV d r).1<=r/\r<=(bV d r).2.1):=by
 unfold bV;cases h:d.find? (gl r) with
 | none=>exact .inl rfl
 | some x =>
  refine .inr ⟨List.mem_of_find?_eq_some h,?_⟩;have:=List.find?_some h;simpa[gl]using this
theorem sA(r:Int):fnd r=zr\/(fnd r∈tab/\(fnd r).1<=r/\r<=(fnd r).2.1):=by
 unfold fnd tab;split
 ·rcases kt fq r with h | ⟨h,g⟩
  ·exact .inl h
  ·exact .inr ⟨by simp[h],g⟩
 ·split
  ·rcases kt eW r with h | ⟨h,g⟩
   ·exact .inl h
   ·exact .inr ⟨by simp[h],g⟩
  ·split
   ·rcases kt df r with h | ⟨h,g⟩
    ·exact .inl h
    ·exact .inr ⟨by simp[h],g⟩
   ·rcases kt later r with h | ⟨h,g⟩
    ·exact .inl h
    ·exact .inr ⟨by simp[h],g⟩
theorem DI:∀ x∈tab,0<=x.1/\x.2.1<=200000/\0<=x.2.2.1/\x.2.2.1<=4:=by decide
theorem Ql{r:Int}(h:(fnd r).2.2.1≠0):0<=r/\r<=200000:=by
 rcases sA r with e | ⟨hm,h1,h2⟩
 ·rw[e]at h;exact absurd rfl h
 ·have:=DI _ hm;omega
def mpd(lo r:Int):List Int:=if kN lo≠0 then [r+kN lo] else inst r
def mp(r:Int):List Int:=if (fnd r).2.2.1=0\/(fnd r).2.2.1=2 then [] else if (fnd r).2.2.1=3 then mpd (fnd r).1 r else [r]
theorem xD(lo r:Int)(h0:0<=r)(h1:r<=200000)(w:World):Calls prog 305 #[.int .i32 lo,.int .i32 r] w fun e W'=>Ans (mpd lo r) w e W':=by
 obtain⟨L,hL⟩:∃ L,L=mpd lo r:=⟨_,rfl⟩;have HL:=hid' hL;rw[<-hL];clear hL;obtain⟨D,hD⟩:∃ D,D=kN lo:=⟨_,rfl⟩;have hb:=MN lo;rw[<-hD]at hb;have HD:=hid' hD;clear hD;obtain⟨hb1,hb2⟩:=hb;by_cases hd0:D=0
 ·have HL2:Hid (L=inst r):=by show _=_;rw[HL.out];unfold mpd;rw[<-HD.out,if_neg (by simpa using hd0)]
  subst hd0;clear HL;go_enter func305,ntmps305;go_wp2_with fail;refine(kM lo w).mono ?_;rw[<-HD.out];rintro e w1 ⟨rfl,rfl⟩;go_wp2_with fail;refine(uQ r _).mono ?_;rw[<-HL2.out];rintro e w2 ⟨⟨v,rfl,hv⟩,hB⟩;go_wp2;go_ret;exact⟨⟨v,rfl,hv⟩,hB⟩
 ·have HL2:Hid (L=[r+D]):=by show _=_;rw[HL.out];unfold mpd;rw[<-HD.out,if_pos hd0]
  have hdb:(D != 0)=true:=by simpa using hd0
  have hdb2:(D==0)=false:=by simpa using hd0
  clear HL;go_enter func305,ntmps305;go_wp2_with fail;refine(kM lo w).mono ?_;rw[<-HD.out];rintro e w1 ⟨rfl,rfl⟩;go_wp2;go_ret;exact Ans.one HL2.out (Below.refl _ _)
theorem kA(r:Int)(w:World):Calls prog 285 #[.int .i32 r] w fun e W'=>Ans (mp r) w e W':=by
 obtain⟨L,hL⟩:∃ L,L=mp r:=⟨_,rfl⟩;have HL:=hid' hL;rw[<-hL];clear hL;have hbd:=@Ql r;have hcall:=gu r
 have hst:0<=(fnd r).2.2.1/\(fnd r).2.2.1<=4:=by
  rcases sA r with e | ⟨hm,_⟩
  ·rw[e];decide
  ·have:=DI _ hm;omega
 unfold mp at HL;obtain⟨⟨x0,x1,x2,x3,x4,x5,x6,x7⟩,hx⟩:∃ x,x=fnd r:=⟨_,rfl⟩;rw[<-hx]at hbd hcall hst HL;dsimp only at hbd hst HL;have HC:=hid' hcall;have HBD:=hid' hbd;clear hcall hx hbd;have HI:Hid ((prog.info? 276).map (·.size)=some 8):=by show _=_;kernel_rfl
 go_enter func285,ntmps285;go_wp2_with fail;refine(HC.out _).mono ?_;simp only[cI];rintro e w1 ⟨rfl,hB1⟩;clear HC;go_wp2_with((refine wpList_store_row rfl 276 (.tmp 3) (.tmp 5) rfl w1.heap.size #[.int .i32 x0,.int .i32 x1,.int .u8 x2,.int .u8 x3,.int .u8 x4,.int .u8 x5,.bool x6,.int .u8 x7] rfl rfl 276 _ (by exact heap_alloc_last w1 _) (by exact HI.out) (by rfl) (by kernel_rfl) (wpList_nil ?_);rw[World.setRow_alloc_new]))
 ·rename_i h;have h2:x2=0:=eq_of_beq h;go_ret;exact Ans.nil (by rw[HL.out,if_pos (.inl h2)]) (hB1.alloc hB1.size _)
 ·rename_i h;have h2:x2=2:=eq_of_beq h;go_ret;exact Ans.nil (by rw[HL.out,if_pos (.inr h2)]) (hB1.alloc hB1.size _)
 ·have h3:x2=3:=by apply eq_of_beq;assumption
  have hr:=HBD.out (by omega);have HL2:Hid (L=mpd x0 r):=by show _=_;rw[HL.out,if_neg (by omega),if_pos h3]
  have hB2:=hB1.alloc hB1.size (.cells #[.int .i32 x0,.int .i32 x1,.int .u8 x2,.int .u8 x3,.int .u8 x4,.int .u8 x5,.bool x6,.int .u8 x7] 276);refine(xD x0 r hr.1 hr.2 _).mono ?_;rw[<-HL2.out];rintro e w2 ⟨⟨v,rfl,hv⟩,hB⟩;have hB3:Below w.heap.size w w2:=hB2.trans (hB.mono hB2.size);clear hB hB2 hB1 HL HL2 h3;go_wp2;go_ret;exact⟨⟨v,rfl,hv⟩,hB3⟩
 ·have h0:¬ x2=0:=by intro h;subst h;simp_all
  have h2:¬ x2=2:=by intro h;subst h;simp_all
  have h3:¬ x2=3:=by intro h;subst h;simp_all
  go_ret;have hL1:L=[r]:=by rw[HL.out,if_neg (by omega),if_neg h3]
  have:=Ans.one (w:=w) (W:=w1.alloc (.cells #[.int .i32 x0,.int .i32 x1,.int .u8 x2,.int .u8 x3,.int .u8 x4,.int .u8 x5,.bool x6,.int .u8 x7] 276)) hL1 (hB1.alloc hB1.size _);rw[World.size_alloc]at this;exact this
end D
namespace N
theorem qc(y:List Pt):∀(A O S:List Pt),y.foldl stp (A++O,S)=(A++(y.foldl stp (O,S)).1,(y.foldl stp (O,S)).2):=by
 induction y with
 | nil=>intro A O S;rfl
 | cons p y ih =>
  intro A O S;rw[foldl_cons,foldl_cons];by_cases hp:p.2=0
  ·have e1:stp (A++O,S) p=(A++(O++di S++[p]),[]):=by simp[stp,hp]
   have e2:stp (O,S) p=(O++di S++[p],[]):=by simp[stp,hp]
   rw[e1,e2,ih]
  ·have e1:stp (A++O,S) p=(A++O,S++[p]):=by simp[stp,hp]
   have e2:stp (O,S) p=(O,S++[p]):=by simp[stp,hp]
   rw[e1,e2,ih]
theorem Fo(x y:List Pt)(h:y=[]\/∃ p y',y=p::y'/\p.2=0):ord (x++y)=ord x++ord y:=by
 rcases h with rfl | ⟨p,y',rfl,hp⟩
 ·simp[ord,st,di]
 ·unfold ord st;rw[foldl_append];obtain⟨O,S⟩:=x.foldl stp ([],[]);rw[foldl_cons,foldl_cons];have e1:stp (O,S) p=((O++di S)++[p],[]):=by simp[stp,hp]
  have e2:stp ([],[]) p=([p],[]):=by simp[stp,hp,di]
  rw[e1,e2,qc];simp
theorem Fp(p:Pt)(y:List Pt)(hp:p.2=0):∃ z,ord (p::y)=p::z:=by
 unfold ord st;rw[foldl_cons];have e2:stp ([],[]) p=([p]++[],[]):=by simp[stp,hp,di]
 rw[e2,qc];exact⟨_,rfl⟩
theorem uj(l:List Pt):(ord l).Perm l:=by
 have h:∀ l:List Pt,((st l).1++(st l).2).Perm l:=by
  intro l
  induction l using nC with
  | h0=>exact .refl _
  | h1 l p ih =>
   rw[rB];unfold stp;split
   ·dsimp only;rw[append_nil];exact(((List.Perm.refl _).append (cP _).perm).trans ih).append (.refl [p])
   ·dsimp only;rw[<-append_assoc];exact ih.append (.refl [p])
 unfold ord;exact((List.Perm.refl _).append (cP _).perm).trans (h l)
def Pure(l:List Pt):Prop:=∀ x∈l,x=pt x.1
theorem Ev(L:List Int):Pure (L.map pt):=fun x hx=>by obtain⟨r,_,rfl⟩:=List.mem_map.1 hx;rfl
def okp(p:D.Tri):Bool:=decide (cl p.2.1=0)&&decide (cl p.2.2≠0)&&decide (cl p.1=0)&&decide (D.dcp p.1=[p.2.1,p.2.2])
theorem Lf:D.prs.all okp=true:=by kernel_rfl
theorem EK{a b q:Int}(h:pr a b=(q,true)):cl a=0/\cl b≠0/\cl q=0/\D.dcp q=[a,b]:=by
 unfold pr D.prf at h;cases he:D.prs.find? (fun x=>x.2.1==a&&x.2.2==b) with
 | none=>rw[he]at h;simp at h
 | some p =>
  rw[he]at h;have hm:=List.mem_of_find?_eq_some he;have hf:=List.find?_some he;simp only[Bool.and_eq_true,beq_iff_eq]at hf;have:=List.all_eq_true.1 Lf _ hm;simp only[okp,Bool.and_eq_true,decide_eq_true_eq]at this;obtain⟨⟨⟨h1,h2⟩,h3⟩,h4⟩:=this;simp only[Prod.mk.injEq,and_true]at h;rw[hf.1]at h1 h4;rw[hf.2]at h2 h4;rw[h]at h3 h4;exact⟨h1,h2,h3,h4⟩
theorem im(t:TS)(c:Pt):bH t c=app t c\/∃ A s B q,t=(some (A,s),B)/\rch B c=true/\pr s.1 c.1=(q,true)/\bH t c=(some (A,(q,s.2)),B):=by
 obtain⟨_ | ⟨A,s⟩,B⟩:=t
 ·exact .inl (nc rfl)
 ·by_cases h:rch B c=true/\(pr s.1 c.1).2=true
  ·refine .inr ⟨A,s,B,(pr s.1 c.1).1,rfl,h.1,by rw[<-h.2],?_⟩;unfold bH;dsimp only;rw[if_pos h]
  ·left;unfold bH app;dsimp only;rw[if_neg h];rfl
theorem xx(b:List Int)(h:b=[]\/∃ r b',b=r::b'/\cl r=0):(b.flatMap fd).map pt=[]\/∃ p y',(b.flatMap fd).map pt=p::y'/\p.2=0:=by
 rcases h with rfl | ⟨r,b',rfl,hr⟩
 ·exact .inl rfl
 ·have h1:=(Hl r).1;have h2:=MF hr;cases hf:fd r with
  | nil=>rw[hf]at h1;simp at h1
  | cons c l =>
   rw[hf]at h2;exact .inr ⟨pt c,(l++b'.flatMap fd).map pt,by simp[hf],h2⟩
def pre(X:List Pt):TS->TS
 | (some (A,s),B)=>(some (X++A,s),B)
 | (none,B)=>(none,X++B)
theorem As(X A B:List Pt)(s c:Pt):bH (some (X++A,s),B) c=pre X (bH (some (A,s),B) c)/\∃ A' s' B',bH (some (A,s),B) c=(some (A',s'),B'):=by
 unfold bH;dsimp only;split
 ·exact⟨rfl,_,_,_,rfl⟩
 ·split
  ·exact⟨by simp[pre],_,_,_,rfl⟩
  ·exact⟨rfl,_,_,_,rfl⟩
theorem Az(y:List Pt):∀(X A B:List Pt) (s:Pt),bB (y.foldl bH (some (X++A,s),B))=X++bB (y.foldl bH (some (A,s),B)):=by
 induction y with
 | nil=>intro X A B s;simp[bB]
 | cons c y ih =>
  intro X A B s;rw[foldl_cons,foldl_cons];obtain⟨h1,A',s',B',h2⟩:=As X A B s c;rw[h1,h2];exact ih X A' B' s'
theorem mZ(t:TS)(p:Pt)(hp:p=pt p.1)(h0:p.2=0):bH t p=(some (bB t,p),[]):=by
 rcases im t p with h | ⟨A,s,B,q,ht,hr,hq,h⟩
 ·rw[h];unfold app;rw[if_pos h0]
 ·have:=(EK hq).2.1;have h2:p.2=cl p.1:=by rw[hp];rfl
  omega
theorem Cr(x y:List Pt)(h:y=[]\/∃ p y',y=p::y'/\p.2=0/\p=pt p.1):comp (x++y)=comp x++comp y:=by
 rcases h with rfl | ⟨p,y',rfl,h0,hp⟩
 ·simp[comp,tst,bB]
 ·unfold comp tst;rw[foldl_append,foldl_cons,foldl_cons,mZ _ p hp h0,mZ _ p hp h0];have:=Az y' (bB (x.foldl bH (none,[]))) [] [] p;rw[append_nil]at this;exact this
theorem FI(a b:List Int)(h:b=[]\/∃ r b',b=r::b'/\cl r=0):dA (a++b)=dA a++dA b:=by
 unfold dA;have hb:=xx b h;rw[List.flatMap_append,map_append,Fo _ _ hb,Cr,map_append];rcases hb with hb | ⟨p,y',hb,h0⟩
 ·rw[hb];exact .inl rfl
 ·have hp:p=pt p.1:=Ev _ p (by rw[hb];simp);rw[hb];obtain⟨z,hz⟩:=Fp p y' h0;exact .inr ⟨p,z,hz,h0,hp⟩
end N
namespace I
def join:List (List Int)->List Int
 | []=>[]
 | [a]=>a
 | a::b::l=>a++46::join (b::l)
def spl:List Int->List (List Int)
 | []=>[[]]
 | c::l=>if c=46 then []::spl l else match spl l with
  | []=>[[c]]
  | a::t=>(c::a)::t
theorem bF:∀ l,∃ a t,spl l=a::t
 | []=>⟨[],[],rfl⟩
 | c::l=>by
  obtain⟨a,t,h⟩:=bF l;by_cases hc:c=46
  ·exact⟨[],spl l,by rw[spl,if_pos hc]⟩
  ·exact⟨c::a,t,by rw[spl,if_neg hc,h]⟩
theorem yQ:∀(a l:List Int),46∉a->spl (a++46::l)=a::spl l
 | [],l,_=>by rw[nil_append,spl,if_pos rfl]
 | c::a,l,h=>by have h1:¬ c=46:=fun e=>h (by simp[e]);rw[cons_append,spl,if_neg h1,yQ a l (fun hm=>h (by simp[hm]))]
theorem cu:∀(a:List Int),46∉a->spl a=[a]
 | [],_=>rfl
 | c::a,h=>by have h1:¬ c=46:=fun e=>h (by simp[e]);rw[spl,if_neg h1,cu a (fun hm=>h (by simp[hm]))]
theorem dp:∀ ls:List (List Int),ls≠[]->(∀ a∈ls,46∉a)->spl (join ls)=ls
 | [],h,_=>absurd rfl h
 | [a],_,h=>cu a (h a (by simp))
 | a::b::l,_,h=>by rw[join,yQ a _ (h a (by simp)),dp (b::l) (by simp) (fun x hx=>h x (by simp at hx ⊢;exact .inr hx))]
theorem tH:∀(l:List Int),∀ a∈spl l,46∉a
 | [],a,h=>by simp[spl]at h;simp[h]
 | c::l,a,h=>by
  obtain⟨b,t,hb⟩:=bF l;have ih:=tH l;by_cases hc:c=46
  ·rw[spl,if_pos hc]at h;rcases List.mem_cons.1 h with rfl | h
   ·simp
   ·exact ih a h
  ·rw[spl,if_neg hc,hb]at h;rw[hb]at ih;rcases List.mem_cons.1 h with rfl | h
   ·intro hm;rcases List.mem_cons.1 hm with e | hm
    ·exact hc e.symm
    ·exact ih b (by simp) hm
   ·exact ih a (by simp[h])
theorem iD:∀(l:List Int),join (spl l)=l
 | []=>rfl
 | c::l=>by
  obtain⟨b,t,hb⟩:=bF l;have ih:=iD l;by_cases hc:c=46
  ·rw[spl,if_pos hc,hb];rw[hb]at ih;rw[join,ih,hc];rfl
  ·rw[spl,if_neg hc,hb];rw[hb]at ih;cases t with
   | nil=>rw[join]at ih ⊢;rw[ih]
   | cons d t=>rw[join]at ih ⊢;rw[cons_append,ih]
def mpx(r:Int):List Int:=if L.sts r=0 then [r] else D.mp r
def Mp(l:List Int):List Int:=N.dA (l.flatMap mpx)
theorem qy(r:Int)(h:L.sts r=1\/L.sts r=4):mpx r=[r]:=by have e:L.sts r=(D.fnd r).2.2.1:=rfl;unfold mpx D.mp;rw[<-e,if_neg (by omega),if_neg (by omega),if_neg (by omega)]
theorem lx:∀(l:List Int),(∀ r∈l,L.sts r=1\/L.sts r=4)->l.flatMap mpx=l
 | [],_=>rfl
 | r::l,h=>by rw[List.flatMap_cons,qy r (h r (by simp)),lx l (fun x hx=>h x (by simp[hx]))];rfl
theorem Lx(r:Int)(h:L.mrk r=false):N.cl r=0 :=
 L.sB (fun x=>x.2.2.2.2.2.2.1=false->x.2.2.2.2.2.1=0) (by decide +kernel) (by decide +kernel) r h
def Beg(X:List Int):Prop:=X=[]\/∃ r b',X=r::b'/\N.cl r=0
def plain(l:List Int):Bool:=l.all fun c=>decide (0<=c)&&decide (c<128)
theorem cM{l:List Int}:plain l=true↔∀ c∈l,0<=c/\c<128:=by unfold plain;rw[List.all_eq_true];exact⟨fun h c hc=>by simpa using h c hc,fun h c hc=>by simpa using h c hc⟩
theorem Cy:∀ c:Fin 128,N.dA [(c.val:Int)]=[(c.val:Int)]/\N.cl (c.val:Int)=0:=by decide +kernel
theorem IQ(c:Int)(h:0<=c/\c<128):N.dA [c]=[c]/\N.cl c=0:=by obtain⟨k,rfl⟩:∃ k:Nat,c=k:=⟨c.toNat,by omega⟩;exact Cy ⟨k,by omega⟩
theorem jl:∀(l:List Int),(∀ c∈l,0<=c/\c<128)->N.dA l=l/\Beg l
 | [],_=>⟨rfl,.inl rfl⟩
 | c::l,h=>by have hc:=IQ c (h c (by simp));have ih:=jl l (fun x hx=>h x (by simp[hx]));refine⟨?_,.inr ⟨c,l,rfl,hc.2⟩⟩;have:c::l=[c]++l:=rfl;rw[this,N.FI [c] l ih.2,hc.1,ih.1]
theorem PR:∀ c:Fin 128,(97<=c.val/\c.val<=122\/48<=c.val/\c.val<=57\/c.val=45\/c.val=46)->L.sts (c.val:Int)=1:=by decide +kernel
theorem gh(c:Int)(h:97<=c/\c<=122\/48<=c/\c<=57\/c=45\/c=46):L.sts c=1:=by obtain⟨k,rfl⟩:∃ k:Nat,c=k:=⟨c.toNat,by omega⟩;exact PR ⟨k,by omega⟩ (by simp only;omega)
theorem kT{b:Bool}{v:Int}(hv:0<v)(h:L.bt b v=0):b=false:=by
 cases b
 ·rfl
 ·simp[L.bt]at h;omega
theorem cU(b:Bool)(v:Int)(hv:0<v):0<=L.bt b v:=by unfold L.bt;split <;> omega
theorem mE(l:List Int)(hy:Bool)(h:¬ l.length=0):L.flt l hy=L.bt (!decide (N.dA l=l)) 1+L.bt (hy&&decide (4<=l.length)&&decide (l[2]?.getD 0=45)&&decide (l[3]?.getD 0=45)) 2+L.bt (hy&&(decide (l[0]?.getD 0=45)||decide (l[l.length - 1]?.getD 0=45))) 4 +
  (L.bt (L.dE l) 8+L.bt (l.any (fun r=>decide (r=46))) 16)+L.bt (L.mrk (l[0]?.getD 0)) 32+(L.bt (l.any L.eS) 64+L.bt (!L.jok l) 128):=by
 unfold L.flt L.qs;rw[if_neg h];simp only[L.sm,Nat.reduceAdd,zero_add,Int.reducePow];omega
theorem gR(l:List Int)(hy:Bool):0<=L.flt l hy:=by
 by_cases h:l.length=0
 ·unfold L.flt;rw[if_pos h];exact Int.le_refl _
 ·rw[mE l hy h];have h1:=cU (!decide (N.dA l=l)) 1 (by omega);have h2:=cU (hy&&decide (4<=l.length)&&decide (l[2]?.getD 0=45)&&decide (l[3]?.getD 0=45)) 2 (by omega);have h3:=cU (hy&&(decide (l[0]?.getD 0=45)||decide (l[l.length - 1]?.getD 0=45))) 4 (by omega);have h4:=cU (L.dE l) 8 (by omega);have h5:=cU (l.any (fun r=>decide (r=46))) 16 (by omega);have h6:=cU (L.mrk (l[0]?.getD 0)) 32 (by omega);have h7:=cU (l.any L.eS) 64 (by omega);have h8:=cU (!L.jok l) 128 (by omega);omega
structure CJ(l:List Int):Prop where
 nfc:N.dA l=l
 beg:Beg l
 pre:L.dE l=false
 dot:46∉l
 val:∀ r∈l,L.sts r=1\/L.sts r=4
theorem zN{l:List Int}{hy:Bool}(h:L.flt l hy=0):CJ l:=by
 by_cases h0:l.length=0
 ·obtain rfl:l=[]:=List.length_eq_zero_iff.1 h0;exact⟨rfl,.inl rfl,by decide,by simp,by simp⟩
 ·rw[mE l hy h0]at h;have h1:=cU (!decide (N.dA l=l)) 1 (by omega);have h2:=cU (hy&&decide (4<=l.length)&&decide (l[2]?.getD 0=45)&&decide (l[3]?.getD 0=45)) 2 (by omega);have h3:=cU (hy&&(decide (l[0]?.getD 0=45)||decide (l[l.length - 1]?.getD 0=45))) 4 (by omega);have h4:=cU (L.dE l) 8 (by omega);have h5:=cU (l.any (fun r=>decide (r=46))) 16 (by omega);have h6:=cU (L.mrk (l[0]?.getD 0)) 32 (by omega);have h7:=cU (l.any L.eS) 64 (by omega);have h8:=cU (!L.jok l) 128 (by omega);have e1:=kT (v:=1) (by omega) (show L.bt (!decide (N.dA l=l)) 1=0 by omega);have e4:=kT (v:=8) (by omega) (show L.bt (L.dE l) 8=0 by omega);have e5:=kT (v:=16) (by omega) (show L.bt (l.any (fun r=>decide (r=46))) 16=0 by omega);have e6:=kT (v:=32) (by omega) (show L.bt (L.mrk (l[0]?.getD 0)) 32=0 by omega);have e7:=kT (v:=64) (by omega) (show L.bt (l.any L.eS) 64=0 by omega);refine⟨by simpa using e1,?_,e4,?_,?_⟩
  ·cases l with
   | nil=>exact .inl rfl
   | cons r t=>exact .inr ⟨r,t,rfl,Lx r e6⟩
  ·intro hm;have:=List.any_eq_false.1 e5 46 hm;simp at this
  ·intro r hr;have:=List.any_eq_false.1 e7 r hr;simp[L.eS]at this;omega
end I
namespace P
def thr(k b:Nat):Nat:=if k<=b then 1 else if b+26<=k then 26 else k - b
theorem fH(k b:Nat):1<=thr k b:=by unfold thr;split;omega;split <;> omega
theorem jD(k b:Nat):thr k b<=26:=by unfold thr;split;omega;split <;> omega
def lR:Nat->Nat->Nat->Nat
 | 0,d,k=>k+36 * d / (d+38)
 | f+1,d,k=>if d > 455 then lR f (d / 35) (k+36) else k+36 * d / (d+38)
def iB(d k:Nat):Nat:=lR (d+1) d k
theorem qA:∀(f g d k:Nat),d<f->d<g->lR f d k=lR g d k
 | 0,_,_,_,h,_=>absurd h (not_lt_zero _)
 | _+1,0,_,_,_,h=>absurd h (not_lt_zero _)
 | f+1,g+1,d,k,h1,h2=>by
  rw[lR,lR];split
  ·exact qA f g _ _ (by omega) (by omega)
  ·rfl
theorem uD(d k:Nat):iB d k=if d > 455 then iB (d / 35) (k+36) else k+36 * d / (d+38):=by
 show lR (d+1) d k=_;rw[lR];split
 ·exact qA _ _ _ _ (by omega) (by omega)
 ·rfl
def adapt(d p:Nat)(first:Bool):Nat:=iB ((if first then d / 700 else d / 2)+(if first then d / 700 else d / 2) / p) 0
def sgn(d:Nat):Int:=if d<26 then 97+d else 22+d
def wnF(b:Nat):Nat->Nat->Nat->List Int
 | 0,_,q=>[sgn q]
 | f+1,k,q=>if q<thr k b then [sgn q] else sgn (thr k b+(q - thr k b) % (36 - thr k b))::wnF b f (k+36) ((q - thr k b) / (36 - thr k b))
def wn(b k q:Nat):List Int:=wnF b (q+1) k q
theorem yF(b:Nat):∀(f g k q:Nat),q<f->q<g->wnF b f k q=wnF b g k q
 | 0,_,_,_,h,_=>absurd h (not_lt_zero _)
 | _+1,0,_,_,_,h=>absurd h (not_lt_zero _)
 | f+1,g+1,k,q,h1,h2=>by
  have h3:=fH k b;have h4:=div_le_self (q - thr k b) (36 - thr k b);rw[wnF,wnF];split
  ·rfl
  ·rw[yF b f g _ _ (by omega) (by omega)]
theorem jZ(b k q:Nat):wn b k q=if q<thr k b then [sgn q] else sgn (thr k b+(q - thr k b) % (36 - thr k b))::wn b (k+36) ((q - thr k b) / (36 - thr k b)):=by
 have h3:=fH k b;have h4:=div_le_self (q - thr k b) (36 - thr k b);show wnF b (q+1) k q=_;rw[wnF];split
 ·rfl
 ·rw[yF b q ((q - thr k b) / (36 - thr k b)+1) _ _ (by omega) (Nat.lt_succ_self _)];rfl
def dg(c:Int):Option Nat :=
 if 97<=c/\c<=122 then some (c - 97).toNat else if 65<=c/\c<=90 then some (c - 65).toNat else if 48<=c/\c<=57 then some (c - 22).toNat else none
def low(c:Int):Int:=if 65<=c/\c<=90 then c+32 else c
def rn(b k i w:Nat):List Int->Option (Nat×List Int)
 | []=>none
 | c::cs=>match dg c with
  | none=>none
  | some d=>if 2147483647<i+d * w then none else if d<thr k b then some (i+d * w,cs)
   else if 2147483647<w * (36 - thr k b) then none else rn b (k+36) (i+d * w) (w * (36 - thr k b)) cs
theorem Ih(d:Nat)(h:d<36):dg (sgn d)=some d:=by
 unfold dg sgn;by_cases h1:d<26
 ·rw[if_pos h1,if_pos (by omega)];congr 1;omega
 ·rw[if_neg h1,if_neg (by omega),if_neg (by omega),if_pos (by omega)];congr 1;omega
theorem Eg(c:Int)(d:Nat)(h:dg c=some d):low c=sgn d/\d<36:=by
 unfold dg at h;unfold low sgn;split at h
 ·obtain rfl:=Option.some.inj h;rw[if_neg (by omega),if_pos (by omega)];omega
 ·split at h
  ·obtain rfl:=Option.some.inj h;rw[if_pos (by omega),if_pos (by omega)];omega
  ·split at h
   ·obtain rfl:=Option.some.inj h;rw[if_neg (by omega),if_neg (by omega)];omega
   ·cases h
theorem rH(d:Nat)(h:d<36):45<sgn d/\sgn d<128:=by unfold sgn;split <;> omega
theorem mU(b k q:Nat)(h:¬ q<thr k b):thr k b+(q - thr k b) % (36 - thr k b)<36:=by have h1:=fH k b;have h2:=jD k b;have:=mod_lt (q - thr k b) (show 0<36 - thr k b by omega);omega
theorem CV(b k q:Nat):∀ c∈wn b k q,45<c/\c<128:=by
 induction q using Nat.strongRecOn generalizing k with
 | ind q ih =>
  intro c hc;have h1:=fH k b;have h2:=jD k b;rw[jZ]at hc;split at hc
  ·simp at hc;subst hc;exact rH _ (by omega)
  ·rename_i hq;rcases List.mem_cons.mp hc with rfl | hc
   ·exact rH _ (mU b k q hq)
   ·have:=div_le_self (q - thr k b) (36 - thr k b);exact ih _ (by omega) _ c hc
theorem Ot(b k q:Nat):1<=(wn b k q).length:=by rw[jZ];split <;> simp
theorem RB(b:Nat)(rest:List Int):∀(q k i w:Nat),1<=w->i+q * w<=2147483647->q * w<=71303168->(k<=b+36->∃ j,k=36 * (j+1)/\w=35 ^ j) ->
  rn b k i w (wn b k q++rest)=some (i+q * w,rest):=by
 intro q
 induction q using Nat.strongRecOn with
 | ind q ih =>
  intro k i w hw hs hb hinv;have h1:=fH k b;have h2:=jD k b;rw[jZ];by_cases hq:q<thr k b
  ·rw[if_pos hq];simp only[cons_append,nil_append,rn,Ih q (by omega)];rw[if_neg (by omega),if_pos hq]
  ·rw[if_neg hq];have hd:=mU b k q hq;generalize ht:thr k b=t at *;have hmod:=Nat.mod_add_div (q - t) (36 - t);have hlt:=mod_lt (q - t) (show 0<36 - t by omega);generalize hr:(q - t) % (36 - t)=r at *;generalize hQ:(q - t) / (36 - t)=Q at *;have hQq:Q<q:=by have:=div_le_self (q - t) (36 - t);omega
   have e:q=t+r+(36 - t) * Q:=by omega
   have eqw:q * w=(t+r) * w+Q * (w * (36 - t)):=by rw[e,Nat.add_mul];congr 1;rw[mul_comm (36 - t) Q,Nat.mul_assoc,mul_comm w]
   simp only[cons_append,rn,Ih _ hd]
   have hw':w * (36 - t)<=2147483647:=by
    have hwq:w<=q * w:=by have:1 * w<=q * w:=Nat.mul_le_mul_right w (by omega);omega
    by_cases h6:t<6
    ·have hk:k<b+6:=by
      unfold thr at ht;split at ht
      ·omega
      ·split at ht <;> omega
     obtain⟨j,hkj,hwj⟩:=hinv (by omega)
     have hj:j<=5:=by
      apply Nat.le_of_not_lt;intro hj;have:35 ^ 6<=35 ^ j:=Nat.pow_le_pow_right (by omega) hj;have e6:(35:Nat) ^ 6=1838265625:=by decide
      omega
     have h5:35 ^ j<=35 ^ 5:=Nat.pow_le_pow_right (by omega) hj;have e5:(35:Nat) ^ 5=52521875:=by decide
     have:w * (36 - t)<=52521875 * 35:=Nat.mul_le_mul (by omega) (by omega);omega
    ·have:w * (36 - t)<=71303168 * 30:=Nat.mul_le_mul (by omega) (by omega);omega
   rw[ht,if_neg (by omega),if_neg (by omega),if_neg (by omega),ih Q hQq (k+36) _ _ (Nat.mul_pos hw (by omega)) (by omega) (by omega) ?_]
   ·congr 2;omega
   ·intro hk;have hkb:k<=b:=by omega
    obtain⟨j,hkj,hwj⟩:=hinv (by omega);refine⟨j+1,by omega,?_⟩;have:t=1:=by unfold thr at ht;rw[if_pos hkb]at ht;omega
    rw[this,hwj,Nat.pow_succ]
theorem nH(b:Nat):∀(cs:List Int) (k i w j:Nat) (rest:List Int),rn b k i w cs=some (j,rest) ->
  j<=2147483647/\rest.length<cs.length/\(∃ q,j=i+q * w/\cs.map low=wn b k q++rest.map low)/\∃ m,rest=cs.drop m
 | [],_,_,_,_,_,h=>by simp[rn]at h
 | c::cs,k,i,w,j,rest,h=>by
  rw[rn]at h;cases hd:dg c with
  | none=>simp[hd]at h
  | some d =>
   obtain⟨hl,hlt⟩:=Eg c d hd;rw[hd]at h;simp only at h;split at h
   ·cases h
   ·split at h
    ·rename_i h1 h2;obtain⟨rfl,rfl⟩:=Prod.mk.inj (Option.some.inj h);refine⟨by omega,by simp,⟨d,rfl,?_⟩,1,rfl⟩;rw[jZ,if_pos h2,List.map_cons,hl];rfl
    ·split at h
     ·cases h
     ·rename_i h1 h2 h3;obtain⟨a1,a2,⟨q,rfl,a4⟩,m,a5⟩:=nH b cs _ _ _ _ _ h;refine⟨a1,by simp;omega,⟨d+(36 - thr k b) * q,?_,?_⟩,m+1,by simpa using a5⟩
      ·rw[Nat.add_mul,mul_comm (36 - thr k b) q,Nat.mul_assoc,mul_comm (36 - thr k b) w,Nat.add_assoc]
      ·have t1:=fH k b;have t2:=jD k b;have hn:¬ d+(36 - thr k b) * q<thr k b:=by omega
       rw[jZ,if_neg hn,List.map_cons,hl];generalize thr k b=t at *;have e:d+(36 - t) * q - t=(d - t)+(36 - t) * q:=by omega
       have e1:(d+(36 - t) * q - t) % (36 - t)=d - t:=by rw[e,Nat.add_mul_mod_self_left,Nat.mod_eq_of_lt (by omega)]
       have e2:(d+(36 - t) * q - t) / (36 - t)=q:=by rw[e,Nat.add_mul_div_left _ _ (by omega),Nat.div_eq_of_lt (by omega),zero_add]
       rw[e1,e2,show t+(d - t)=d by omega,a4];rfl
structure St where
 n:Int
 i:Nat
 pts:List Int
def St.step(s:St)(d:Nat):St :=
 ⟨s.n+((s.i+d) / (s.pts.length+1):Nat),(s.i+d) % (s.pts.length+1)+1,
   s.pts.take ((s.i+d) % (s.pts.length+1))++(s.n+((s.i+d) / (s.pts.length+1):Nat))::s.pts.drop ((s.i+d) % (s.pts.length+1))⟩
def run(pl:List Int):List Nat->St
 | []=>⟨128,0,pl⟩
 | d::ds=>(run pl ds).step d
def bia(p:Nat):List Nat->Nat
 | []=>72
 | d::ds=>adapt d (p+ds.length+1) ds.isEmpty
def tx(p:Nat):List Nat->List Int
 | []=>[]
 | d::ds=>tx p ds++wn (bia p ds) 36 d
theorem mY(p:Nat):∀ ds,∀ c∈tx p ds,45<c/\c<128
 | [],c,h=>by simp[tx]at h
 | d::ds,c,h=>by
  rcases List.mem_append.mp h with h | h
  ·exact mY p ds c h
  ·exact CV _ _ _ c h
theorem Dg(p:Nat):∀ ds,ds.length<=(tx p ds).length
 | []=>by simp
 | d::ds=>by have:=Dg p ds;have:=Ot (bia p ds) 36 d;simp[tx];omega
theorem tE(s:St)(d:Nat):(s.step d).pts.length=s.pts.length+1:=by have:=mod_lt (s.i+d) (show 0<s.pts.length+1 by omega);simp[St.step];omega
theorem dO(pl:List Int):∀ ds,(run pl ds).pts.length=pl.length+ds.length
 | []=>rfl
 | d::ds=>by rw[run,tE,dO pl ds];simp;omega
theorem Rz(pl:List Int)(ds:List Nat):((run pl ds).i==0)=ds.isEmpty:=by
 cases ds with
 | nil=>rfl
 | cons d ds=>simp[run,St.step]
theorem kg(s:St)(d:Nat):∀ x,x∈(s.step d).pts↔x=(s.step d).n\/x∈s.pts:=by
 intro x;simp only[St.step,List.mem_append,List.mem_cons];have e:=take_append_drop ((s.i+d) % (s.pts.length+1)) s.pts
 have:x∈s.pts↔x∈s.pts.take ((s.i+d) % (s.pts.length+1))\/x∈s.pts.drop ((s.i+d) % (s.pts.length+1)):=by
  conv=>lhs;rw[<-e]
  exact List.mem_append
 rw[this];constructor
 ·rintro(h | h | h) <;> simp[h]
 ·rintro(h | h | h) <;> simp[h]
structure Fits(s:St):Prop where
 le:s.i<=s.pts.length
 lo:∀ x∈s.pts.take s.i,x<=s.n
 hi:∀ x∈s.pts.drop s.i,x<s.n
theorem Fits.all{s:St}(h:Fits s):∀ x∈s.pts,x<=s.n:=by
 intro x hx;rw[<-take_append_drop s.i s.pts]at hx;rcases List.mem_append.mp hx with hx | hx
 ·exact h.lo x hx
 ·exact Int.le_of_lt (h.hi x hx)
theorem Fits.step{s:St}(h:Fits s)(d:Nat):Fits (s.step d):=by
 have hlt:=mod_lt (s.i+d) (show 0<s.pts.length+1 by omega);have hdm:=div_add_mod (s.i+d) (s.pts.length+1);unfold St.step;generalize (s.i+d) % (s.pts.length+1)=r at *;generalize (s.i+d) / (s.pts.length+1)=q at *;have hl:(s.pts.take r).length=r:=by rw[length_take];omega
 refine⟨by simp;omega,?_,?_⟩
 ·intro x hx;have hx:x∈(s.pts.take r++(s.n+(q:Int))::s.pts.drop r).take (r+1):=hx;have e:(s.pts.take r++(s.n+(q:Int))::s.pts.drop r).take (r+1)=s.pts.take r++[s.n+(q:Int)]:=by rw[List.take_append,hl,take_of_length_le (by omega)];simp
  rw[e]at hx;show x<=s.n+(q:Int);rcases List.mem_append.mp hx with hx | hx
  ·have:=h.all x (List.mem_of_mem_take hx);omega
  ·simp at hx;omega
 ·intro x hx0;have hx:x∈(s.pts.take r++(s.n+(q:Int))::s.pts.drop r).drop (r+1):=hx0;have e:(s.pts.take r++(s.n+(q:Int))::s.pts.drop r).drop (r+1)=s.pts.drop r:=by rw[List.drop_append,hl,List.drop_of_length_le (by omega)];simp
  rw[e]at hx;clear hx0 e;show x<s.n+(q:Int);by_cases hq:q=0
  ·rw[hq]at hdm;have:s.i<=r:=by simp at hdm;omega
   have hy:x∈s.pts.drop s.i:=by obtain⟨u,rfl⟩:∃ u,r=s.i+u:=⟨r - s.i,by omega⟩;rw[<-List.drop_drop]at hx;exact mem_of_mem_drop hx
   have:=h.hi x hy;omega
  ·have:=h.all x (mem_of_mem_drop hx);omega
theorem kH(pl:List Int)(h:∀ x∈pl,x<128):∀ ds,Fits (run pl ds)
 | []=>⟨zero_le _,by simp[run],by simpa[run]using h⟩
 | d::ds=>(kH pl h ds).step d
theorem yY(pl:List Int):∀ ds,128<=(run pl ds).n
 | []=>by simp[run]
 | d::ds=>by have:=yY pl ds;show 128<=(run pl ds).n+((((run pl ds).i+d) / ((run pl ds).pts.length+1):Nat):Int);have:=Int.natCast_nonneg (((run pl ds).i+d) / ((run pl ds).pts.length+1));generalize ((((run pl ds).i+d) / ((run pl ds).pts.length+1):Nat):Int)=z at *;omega
theorem yZ(pl:List Int)(h:∀ x∈pl,x<128):∀ ds,(run pl ds).pts.filter (fun x=>decide (x<128))=pl
 | []=>by
  rw[run,List.filter_eq_self];intro x hx;simpa using h x hx
 | d::ds=>by have ih:=yZ pl h ds;have hn:=yY pl (d::ds);rw[run]at hn ⊢;simp only[St.step]at hn ⊢;generalize (run pl ds).n+(((run pl ds).i+d) / ((run pl ds).pts.length+1):Nat)=n at *;rw[filter_append,List.filter_cons,if_neg (by simp;omega),<-filter_append,take_append_drop,ih]
theorem za(pl:List Int)(h:∀ x∈pl,x<128):∀ ds es:List Nat,(run pl ds).pts=(run pl es).pts->ds=es
 | [],es,e=>by
  have:=congrArg List.length e;rw[dO,dO]at this;have:es.length=0:=by rw[length_nil]at this;omega
  exact(List.eq_nil_of_length_eq_zero this).symm
 | d::ds,[],e=>by
  have:=congrArg List.length e;rw[dO,dO]at this;simp at this
 | d::ds,f::es,e=>by
  have A:=kH pl h (d::ds);have B:=kH pl h (f::es);have am:(run pl (d::ds)).n∈(run pl (d::ds)).pts:=(kg _ _ _).mpr (.inl rfl);have bm:(run pl (f::es)).n∈(run pl (f::es)).pts:=(kg _ _ _).mpr (.inl rfl);have en:(run pl (d::ds)).n=(run pl (f::es)).n:=by have:=A.all _ (e ▸ bm);have:=B.all _ (e ▸ am);omega
  have place:∀(s:St) (d:Nat),∃ k,(s.step d).i=k+1/\k<(s.step d).pts.length/\(s.step d).pts[k]? = some (s.step d).n/\k<=s.pts.length/\s.pts=(s.step d).pts.take k++(s.step d).pts.drop (k+1):=by
   intro s d;have hlt:=mod_lt (s.i+d) (show 0<s.pts.length+1 by omega);refine⟨(s.i+d) % (s.pts.length+1),rfl,by rw[tE];omega,?_,by omega,?_⟩
   ·simp only[St.step];rw[List.getElem?_append_right (by rw[length_take];omega),length_take,show(s.i+d) % (s.pts.length+1) - min ((s.i+d) % (s.pts.length+1)) s.pts.length=0 by omega];rfl
   ·simp only[St.step];generalize (s.i+d) % (s.pts.length+1)=r at *;have hl:(s.pts.take r).length=r:=by rw[length_take];omega
    have e1:(s.pts.take r++(s.n+((s.i+d) / (s.pts.length+1):Nat))::s.pts.drop r).drop (r+1)=s.pts.drop r:=by rw[List.drop_append,hl,List.drop_of_length_le (by omega)];simp
    have e2:(s.pts.take r++(s.n+((s.i+d) / (s.pts.length+1):Nat))::s.pts.drop r).take r=s.pts.take r:=by rw[List.take_append,hl,take_of_length_le (by omega)];simp
    rw[e1,e2,take_append_drop]
  obtain⟨k,hk,hkl,hkn,hk2,hkp⟩:=place (run pl ds) d;obtain⟨m,hm,hml,hmn,hm2,hmp⟩:=place (run pl es) f;have hA:=A.hi;have hB:=B.hi;simp only[run]at e en hA hB;rw[hk]at hA;rw[hm]at hB
  have ekm:k=m:=by
   rcases Nat.lt_trichotomy k m with hlt | heq | hlt
   ·exfalso
    have:((run pl es).step f).n<((run pl ds).step d).n:=hA _ (by
      rw[List.mem_iff_getElem?]
      refine⟨m - (k+1),?_⟩
      rw[getElem?_drop,e,show k+1+(m - (k+1))=m by omega];exact hmn)
    omega
   ·exact heq
   ·exfalso
    have:((run pl ds).step d).n<((run pl es).step f).n:=hB _ (by
      rw[List.mem_iff_getElem?]
      refine⟨k - (m+1),?_⟩
      rw[getElem?_drop,<-e,show m+1+(k - (m+1))=k by omega];exact hkn)
    omega
  subst ekm;have ep:(run pl ds).pts=(run pl es).pts:=by rw[hkp,hmp,e]
  obtain rfl:=za pl h ds es ep;have e1:=en;simp only[St.step]at e1;have e2:((run pl ds).i+d) % ((run pl ds).pts.length+1)=((run pl ds).i+f) % ((run pl ds).pts.length+1):=by have:=hk.trans hm.symm;simp only[St.step]at this;omega
  have e3:((run pl ds).i+d) / ((run pl ds).pts.length+1)=((run pl ds).i+f) / ((run pl ds).pts.length+1):=by omega
  have a1:=div_add_mod ((run pl ds).i+d) ((run pl ds).pts.length+1);have a2:=div_add_mod ((run pl ds).i+f) ((run pl ds).pts.length+1);rw[e2,e3]at a1;have:d=f:=by omega
  rw[this]
open U
def rd:Nat->St->Nat->List Int->Option (List Int)
 | _,s,_,[]=>some s.pts
 | 0,_,_,_::_=>none
 | f+1,s,b,c::cs=>match rn b 36 s.i 1 (c::cs) with
  | none=>none
  | some (j,rest)=>if ab (s.step (j - s.i)).n=true then rd f (s.step (j - s.i)) (adapt (j - s.i) (s.pts.length+1) (s.i==0)) rest else none
def RD(s:St)(b:Nat)(cs:List Int):Option (List Int):=rd cs.length s b cs
theorem zf:∀(f g:Nat) (s:St) (b:Nat) (cs:List Int),cs.length<=f->cs.length<=g->rd f s b cs=rd g s b cs
 | f,g,s,b,[],_,_=>by cases f <;> cases g <;> rfl
 | 0,_,_,_,c::cs,h,_=>by simp at h
 | f+1,0,_,_,c::cs,_,h=>by simp at h
 | f+1,g+1,s,b,c::cs,hf,hg=>by
  rw[rd,rd];cases hr:rn b 36 s.i 1 (c::cs) with
  | none=>rfl
  | some p =>
   obtain⟨j,rest⟩:=p;have:=(nH b _ _ _ _ _ _ hr).2.1;simp only[length_cons]at this hf hg;simp only;rw[zf f g _ _ rest (by omega) (by omega)]
theorem QY(s:St)(b:Nat):RD s b []=some s.pts:=rfl
theorem Ai(s:St)(b:Nat)(cs:List Int)(hne:cs≠[])(h:rn b 36 s.i 1 cs=none):RD s b cs=none:=by
 cases cs with
 | nil=>exact absurd rfl hne
 | cons c cs=>rw[RD,length_cons,rd,h]
theorem Jf(s:St)(b:Nat)(cs:List Int)(j:Nat)(rest:List Int)(h:rn b 36 s.i 1 cs=some (j,rest))(hb:ab (s.step (j - s.i)).n=false):RD s b cs=none:=by
 cases cs with
 | nil=>simp[rn]at h
 | cons c cs=>rw[RD,length_cons,rd,h];simp[hb]
theorem tb(s:St)(b:Nat)(cs:List Int)(j:Nat)(rest:List Int)(h:rn b 36 s.i 1 cs=some (j,rest))(hb:ab (s.step (j - s.i)).n=true):
  RD s b cs=RD (s.step (j - s.i)) (adapt (j - s.i) (s.pts.length+1) (s.i==0)) rest:=by
 have hl:=(nH b _ _ _ _ _ _ h).2.1;cases cs with
 | nil=>simp[rn]at h
 | cons c cs =>
  rw[RD,length_cons,rd,h];simp only[hb,if_true,RD];simp only[length_cons]at hl;exact zf _ _ _ _ _ (by omega) (le_refl _)
theorem wm(pl:List Int)(ds:List Nat)(d:Nat):adapt d ((run pl ds).pts.length+1) ((run pl ds).i==0)=bia pl.length (d::ds):=by rw[bia,dO,Rz]
theorem mq{n:Int}(h:ab n=true):0<=n/\n<=1114111:=by unfold ab at h;simp at h;omega
theorem Og(pl:List Int)(hpl:∀ x∈pl,x<128)(rest:List Int):∀ ds:List Nat,(∀ x∈(run pl ds).pts,ab x=true)->pl.length+ds.length<=63->∀ rest:List Int,
  RD (run pl []) (bia pl.length []) (tx pl.length ds++rest)=RD (run pl ds) (bia pl.length ds) rest
 | [],_,_,rest=>rfl
 | d::ds,hs,hl,rest=>by
  have hm:=kg (run pl ds) d;rw[tx,append_assoc,Og pl hpl rest ds (fun x hx=>hs x ((hm x).mpr (.inr hx))) (by simp at hl;omega)];have hn:=hs _ ((hm _).mpr (.inl rfl));have hb:=mq hn;have h128:=yY pl ds;have hi:=(kH pl hpl ds).le;have hL:=dO pl ds;have hdm:=div_add_mod ((run pl ds).i+d) ((run pl ds).pts.length+1);have hlt:=mod_lt ((run pl ds).i+d) (show 0<(run pl ds).pts.length+1 by omega);have hnn:(run pl ds).n+((((run pl ds).i+d) / ((run pl ds).pts.length+1):Nat):Int)<=1114111:=hb.2;have hq:((run pl ds).i+d) / ((run pl ds).pts.length+1)<=1113983:=by omega
  have hprod:((run pl ds).pts.length+1) * (((run pl ds).i+d) / ((run pl ds).pts.length+1))<=63 * 1113983:=Nat.mul_le_mul (by simp at hl;omega) hq;simp only[length_cons]at hl;have hd:(run pl ds).i+d<=70180929+64:=by omega
  have hrn:=RB (bia pl.length ds) rest d 36 (run pl ds).i 1 (le_refl _) (by omega) (by omega) (fun _=>⟨0,rfl,rfl⟩);rw[Nat.mul_one]at hrn;have e:(run pl ds).i+d - (run pl ds).i=d:=by omega
  rw[tb _ _ _ _ _ hrn (by rw[e];exact hn),e,wm];rfl
theorem Ei{x:Int}(h0:0<=x)(h:x<128):ab x=true:=by unfold ab;simp;omega
theorem Ah(pl:List Int)(hpl:∀ x∈pl,0<=x/\x<128):∀(f:Nat) (cs:List Int) (ds:List Nat) (pts:List Int),cs.length<=f->(∀ x∈(run pl ds).pts,ab x=true) ->
  RD (run pl ds) (bia pl.length ds) cs=some pts->∃ es,(run pl es).pts=pts/\tx pl.length es=tx pl.length ds++cs.map low/\∀ x∈pts,ab x=true
 | f,[],ds,pts,_,hs,h=>by
  obtain rfl:=Option.some.inj h;exact⟨ds,rfl,by simp,hs⟩
 | 0,c::cs,_,_,hf,_,_=>by simp at hf
 | f+1,c::cs,ds,pts,hf,hs,h=>by
  cases hr:rn (bia pl.length ds) 36 (run pl ds).i 1 (c::cs) with
  | none=>rw[Ai _ _ _ (by simp) hr]at h;cases h
  | some p =>
   obtain⟨j,rest⟩:=p;obtain⟨h1,h2,⟨q,h3,h4⟩,_⟩:=nH _ _ _ _ _ _ _ hr;have e:j - (run pl ds).i=q:=by omega
   by_cases hb:ab ((run pl ds).step (j - (run pl ds).i)).n=true
   ·rw[tb _ _ _ _ _ hr hb,e,wm]at h;rw[e]at hb
    obtain⟨es,a1,a2,a3⟩:=Ah pl hpl f rest (q::ds) pts (by simp only[length_cons]at h2 hf;omega) (fun x hx=>by
      rcases(kg _ _ _).mp hx with rfl | hx
      · exact hb
      · exact hs x hx) h
    exact⟨es,a1,by rw[a2,h4,tx,append_assoc],a3⟩
   ·rw[Jf _ _ _ _ _ hr (by simpa using hb)]at h;cases h
def plain(l:List Int):List Int:=l.filter fun x=>decide (x<128)
def hd(p:List Int):List Int:=if p.length=0 then [] else p++[45]
def had(l:List Int)(n:Int)(j:Nat):List Int:=(l.take j).filter (fun x=>decide (x<=n))++(l.drop j).filter (fun x=>decide (x<n))
def cnt(l:List Int)(n:Int)(j:Nat):Nat:=((l.take j).filter fun x=>decide (x<=n)).length
structure EI(l:List Int)(n:Int)(j:Nat)(dl:Nat)(ds:List Nat):Prop where
 pts:(run (plain l) ds).pts=had l n j
 le:(run (plain l) ds).n<=n
 eq:(dl:Int)+(run (plain l) ds).n * ((had l n j).length+1)+(run (plain l) ds).i=n * ((had l n j).length+1)+cnt l n j
theorem nR(l:List Int):∀ x∈plain l,x<128:=fun x hx=>by simpa using(List.mem_filter.mp hx).2
theorem EI.start(l:List Int):EI l 128 0 0 []:=by
 have:had l 128 0=plain l:=by simp[had,plain]
 exact⟨this.symm,by simp[run],by simp[run,cnt]⟩
theorem EI.len{l:List Int}{n:Int}{j dl:Nat}{ds:List Nat}(h:EI l n j dl ds):(had l n j).length=(plain l).length+ds.length:=by rw[<-h.pts,dO]
theorem bX(l:List Int)(j:Nat)(hj:j<l.length):l.take (j+1)=l.take j++[l[j]?.getD 0]:=by rw[List.take_add_one,getElem?_eq_getElem hj];rfl
theorem lE(l:List Int)(j:Nat)(hj:j<l.length):l.drop j=l[j]?.getD 0::l.drop (j+1):=by rw[List.drop_eq_getElem_cons hj,getElem?_eq_getElem hj];rfl
theorem GV(l:List Int)(n:Int)(j:Nat)(hj:j<l.length)(h:l[j]?.getD 0<n):had l n (j+1)=had l n j/\cnt l n (j+1)=cnt l n j+1:=by unfold had cnt;rw[bX l j hj,lE l j hj,filter_append];simp[h,Int.le_of_lt h]
theorem GS(l:List Int)(n:Int)(j:Nat)(hj:j<l.length)(h:n<l[j]?.getD 0):had l n (j+1)=had l n j/\cnt l n (j+1)=cnt l n j:=by
 unfold had cnt;rw[bX l j hj,lE l j hj,filter_append];have h1:¬ l[j]?.getD 0<=n:=by omega
 have h2:¬ l[j]?.getD 0<n:=by omega
 simp[h1,h2]
theorem EI.less{l:List Int}{n:Int}{j dl:Nat}{ds:List Nat}(h:EI l n j dl ds)(hj:j<l.length)(hx:l[j]?.getD 0<n):EI l n (j+1) (dl+1) ds:=by
 obtain⟨e1,e2⟩:=GV l n j hj hx;refine⟨by rw[e1];exact h.pts,h.le,?_⟩;have:=h.eq;rw[e1,e2]
 push_cast at *
 omega
theorem EI.more{l:List Int}{n:Int}{j dl:Nat}{ds:List Nat}(h:EI l n j dl ds)(hj:j<l.length)(hx:n<l[j]?.getD 0):EI l n (j+1) dl ds:=by obtain⟨e1,e2⟩:=GS l n j hj hx;exact⟨by rw[e1];exact h.pts,h.le,by rw[e1,e2];exact h.eq⟩
theorem Iq(l:List Int)(n:Int)(j:Nat):cnt l n j<=(had l n j).length:=by unfold had cnt;rw[length_append];omega
theorem GW(l:List Int)(n:Int)(j:Nat):(had l n j).length<=l.length:=by
 unfold had;rw[length_append];have a:=length_filter_le (fun x=>decide (x<=n)) (l.take j);have b:=length_filter_le (fun x=>decide (x<n)) (l.drop j);have:(l.take j).length+(l.drop j).length=l.length:=by rw[<-length_append,take_append_drop]
 omega
theorem EI.split{l:List Int}{n:Int}{j dl:Nat}{ds:List Nat}(h:EI l n j dl ds):
  (run (plain l) ds).n+((((run (plain l) ds).i+dl) / ((run (plain l) ds).pts.length+1):Nat):Int)=n/\((run (plain l) ds).i+dl) % ((run (plain l) ds).pts.length+1)=cnt l n j:=by
 have hc:=Iq l n j;have he:=h.eq;have hle:=h.le;rw[h.pts];generalize (run (plain l) ds).n=m at *;generalize (run (plain l) ds).i=i at *;generalize (had l n j).length=p at *;generalize cnt l n j=c at *;obtain⟨u,rfl⟩:∃ u:Nat,n=m+u:=⟨(n - m).toNat,by omega⟩
 have e:i+dl=c+(p+1) * u:=by
  have:((i+dl:Nat):Int)=((c+(p+1) * u:Nat):Int):=by
   push_cast
   have:(m+(u:Int)) * ((p:Int)+1)=m * ((p:Int)+1)+((p:Int)+1) * u:=by rw[Int.add_mul,Int.mul_comm (u:Int)]
   omega
  exact_mod_cast this
 rw[e,Nat.add_mul_div_left _ _ (by omega),Nat.add_mul_mod_self_left,Nat.div_eq_of_lt (by omega),Nat.mod_eq_of_lt (by omega),zero_add];exact⟨rfl,rfl⟩
theorem EI.put{l:List Int}{n:Int}{j dl:Nat}{ds:List Nat}(h:EI l n j dl ds)(hj:j<l.length)(hx:l[j]?.getD 0=n):EI l n (j+1) 0 (dl::ds):=by
 obtain⟨e1,e2⟩:=h.split;have hp:=h.pts;have hh:had l n (j+1)=(l.take j).filter (fun x=>decide (x<=n))++n::(l.drop (j+1)).filter (fun x=>decide (x<n)):=by unfold had;rw[bX l j hj,filter_append,hx];simp
 have hh0:had l n j=(l.take j).filter (fun x=>decide (x<=n))++(l.drop (j+1)).filter (fun x=>decide (x<n)):=by unfold had;rw[lE l j hj,hx];simp
 have hc:cnt l n (j+1)=cnt l n j+1:=by unfold cnt;rw[bX l j hj,filter_append,hx];simp
 have rn':(run (plain l) (dl::ds)).n=n:=e1;have ri':(run (plain l) (dl::ds)).i=cnt l n j+1:=by show _ % _+1=_;rw[e2]
 refine⟨?_,by rw[rn'];exact Int.le_refl _,by rw[rn',ri',hc];push_cast;omega⟩;show(run (plain l) ds).pts.take _++_::(run (plain l) ds).pts.drop _=_;rw[e1,e2,hp,hh,hh0];have ec:cnt l n j=((l.take j).filter (fun x=>decide (x<=n))).length:=rfl;rw[ec,List.take_left,List.drop_left]
theorem EI.pass{l:List Int}{n:Int}{dl:Nat}{ds:List Nat}(h:EI l n l.length dl ds):EI l (n+1) 0 (dl+1) ds:=by
 have e:had l (n+1) 0=had l n l.length:=by unfold had;simp;exact List.filter_congr (fun x _=>by simp;omega)
 have ec:cnt l n l.length=(had l n l.length).length:=by unfold had cnt;simp
 refine⟨by rw[e];exact h.pts,by have:=h.le;omega,?_⟩;have:=h.eq;rw[e];rw[ec]at this;rw[show cnt l (n+1) 0=0 by simp[cnt]];have e2:(n+1) * (((had l n l.length).length:Int)+1)=n * (((had l n l.length).length:Int)+1)+(had l n l.length).length+1:=by rw[Int.add_mul];omega
 push_cast at *
 omega
theorem EI.jump{l:List Int}{n m:Int}{dl:Nat}{ds:List Nat}(h:EI l n 0 dl ds)(hm:n<=m)(hno:∀ x∈l,¬ (n<=x/\x<m)):
  ∀ D:Nat,(D:Int)=dl+(m - n) * ((had l n 0).length+1)->EI l m 0 D ds:=by
 intro D hD;have e:had l m 0=had l n 0:=by unfold had;simp;exact List.filter_congr (fun x hx=>by have:=hno x hx;simp;omega)
 refine⟨by rw[e];exact h.pts,by have:=h.le;omega,?_⟩;have:=h.eq;rw[e,hD];rw[show cnt l n 0=0 by simp[cnt]]at this;rw[show cnt l m 0=0 by simp[cnt]];rw[Int.sub_mul];omega
theorem EI.fin{l:List Int}{n:Int}{dl:Nat}{ds:List Nat}(h:EI l n 0 dl ds)(hl:l.length<=(had l n 0).length):(run (plain l) ds).pts=l:=by
 rw[h.pts];have e:had l n 0=l.filter fun x=>decide (x<n):=by simp[had]
 rw[e]at hl ⊢;have:(l.filter fun x=>decide (x<n)).length=l.length:=by have:=length_filter_le (fun x=>decide (x<n)) l;omega
 exact(List.filter_sublist (p:=fun x=>decide (x<n)) (l:=l)).eq_of_length this
theorem EI.left{l:List Int}{n:Int}{dl:Nat}{ds:List Nat}(hl:(had l n 0).length<l.length):∃ x∈l,n<=x:=by
 apply Classical.byContradiction;intro hno;have e:had l n 0=l:=by simp only[had,List.take_zero,List.filter_nil,nil_append,List.drop_zero];rw[List.filter_eq_self];intro x hx;have:¬ n<=x:=fun hc=>hno ⟨x,hx,hc⟩;simp;omega
 rw[e]at hl;omega
theorem EI.bound{l:List Int}{n:Int}{j dl:Nat}{ds:List Nat}(h:EI l n j dl ds)(hn:n<=1114112)(hl:l.length<=63):dl<=71303231:=by have h1:=h.eq;have hc:=Iq l n j;have hh:=GW l n j;have h128:=yY (plain l) ds;generalize (run (plain l) ds).n=m at *;generalize (run (plain l) ds).i=i at *;generalize (had l n j).length=p at *;have a:n * ((p:Int)+1)<=1114112 * ((p:Int)+1):=Int.mul_le_mul_of_nonneg_right hn (by omega);have b:0<=m * ((p:Int)+1):=Int.mul_nonneg (by omega) (by omega);omega
def Enc(l T:List Int):Prop:=∃ ds,T=hd (plain l)++tx (plain l).length ds/\(run (plain l) ds).pts=l
theorem Enc.one{l T T':List Int}(h:Enc l T)(h':Enc l T'):T=T':=by obtain⟨ds,rfl,e⟩:=h;obtain⟨es,rfl,e'⟩:=h';rw[za (plain l) (nR l) ds es (e.trans e'.symm)]
open Go.RowKit U
theorem jJ(A K:Nat)(h:455<A):iB A K=iB (A / 35) (K+36):=by rw[uD,if_pos h]
theorem jK(A K:Nat)(h:¬ 455<A):iB A K=K+36 * A / (A+38):=by rw[uD,if_neg h]
theorem mu(d p k:Nat):(d:Int) / (k:Int) / (p:Int)=((d / k / p:Nat):Int):=by push_cast;rfl
theorem ri(d p:Nat)(first:Bool)(hd:d<=1099511627776)(hp:1<=p)(hp2:p<=9223372036854775807)(w:World):
  Calls prog 351 #[.int .i64 d,.int .i64 p,.bool first] w fun e w'=>e=.returned (.int .i64 (adapt d p first))/\w'=w:=by
 go_enter func351,ntmps351;cases first
 ·have H:Hid (adapt d p false=iB (d / 2+d / 2 / p) 0):=rfl;have b1:d / 2 / p<=d / 2:=div_le_self _ _;have q:(d:Int) / 2 / (p:Int)=((d / 2 / p:Nat):Int):=mu d p 2;have q0:0<=(d:Int) / 2 / (p:Int):=by rw[q];exact Int.natCast_nonneg _
  have q1:(d:Int) / 2 / (p:Int)<=1099511627776:=by rw[q];generalize d / 2 / p=z at *;omega
  clear q;have Q:Hid ((d:Int) / 2 / (p:Int)=((d / 2 / p:Nat):Int)):=mu d p 2;go_wp2
  go_loop [0,7] (fun a k=>∃(A K:Nat),a=.int .i64 A/\k=.int .i64 K/\A<=2199023255552/\K+A<=2199023255552/\Hid (adapt d p false=iB A K)) (fun a _=>(intOf a).toNat)
  case atStart=>exact⟨d / 2+d / 2 / p,0,by first | rfl | (congr 1;done) | (congr 1;have:=Q.out;push_cast;omega),rfl,by omega,by omega,H⟩
  case round =>
   obtain⟨A,K,rfl,rfl,h1,h2,h3⟩:=hrel;have c1:=div_le_self (36 * A) (A+38);have c0:0<=36 * (A:Int) / ((A:Int)+38):=Int.ediv_nonneg (by omega) (by omega)
   have c2:36 * (A:Int) / ((A:Int)+38)<=36 * 2199023255552:=by
    have:36 * (A:Int) / ((A:Int)+38)=((36 * A / (A+38):Nat):Int):=by push_cast;rfl
    omega
   by_cases hA:455<A
   ·go_wp2;refine⟨⟨A / 35,K+36,by go_num,by go_num,by omega,by omega,h3.out.trans (jJ A K hA)⟩,?_⟩;simp[intOf];omega
   ·go_wp2;go_ret;refine⟨cw ?_,rfl⟩;rw[h3.out,jK A K hA]
    push_cast;rfl
 ·have H:Hid (adapt d p true=iB (d / 700+d / 700 / p) 0):=rfl;have b1:d / 700 / p<=d / 700:=div_le_self _ _;have q:(d:Int) / 700 / (p:Int)=((d / 700 / p:Nat):Int):=mu d p 700;have q0:0<=(d:Int) / 700 / (p:Int):=by rw[q];exact Int.natCast_nonneg _
  have q1:(d:Int) / 700 / (p:Int)<=1099511627776:=by rw[q];generalize d / 700 / p=z at *;omega
  clear q;have Q:Hid ((d:Int) / 700 / (p:Int)=((d / 700 / p:Nat):Int)):=mu d p 700;go_wp2
  go_loop [0,7] (fun a k=>∃(A K:Nat),a=.int .i64 A/\k=.int .i64 K/\A<=2199023255552/\K+A<=2199023255552/\Hid (adapt d p true=iB A K)) (fun a _=>(intOf a).toNat)
  case atStart=>exact⟨d / 700+d / 700 / p,0,by first | rfl | (congr 1;done) | (congr 1;have:=Q.out;push_cast;omega),rfl,by omega,by omega,H⟩
  case round =>
   obtain⟨A,K,rfl,rfl,h1,h2,h3⟩:=hrel;have c1:=div_le_self (36 * A) (A+38);have c0:0<=36 * (A:Int) / ((A:Int)+38):=Int.ediv_nonneg (by omega) (by omega)
   have c2:36 * (A:Int) / ((A:Int)+38)<=36 * 2199023255552:=by
    have:36 * (A:Int) / ((A:Int)+38)=((36 * A / (A+38):Nat):Int):=by push_cast;rfl
    omega
   by_cases hA:455<A
   ·go_wp2;refine⟨⟨A / 35,K+36,by go_num,by go_num,by omega,by omega,h3.out.trans (jJ A K hA)⟩,?_⟩;simp[intOf];omega
   ·go_wp2;go_ret;refine⟨cw ?_,rfl⟩;rw[h3.out,jK A K hA]
    push_cast;rfl
theorem ka(k b:Nat)(hk:k<=1099511627776)(hb:b<=1099511627776)(w:World):
  Calls prog 357 #[.int .i64 k,.int .i64 b] w fun e w'=>e=.returned (.int .i64 (thr k b))/\w'=w:=by
 go_enter func357,ntmps357;go_wp2;all_goals (go_ret;exact⟨cw (by unfold thr;(repeat' split) <;> omega),rfl⟩)
theorem tJ(d:Nat)(hd:d<36)(w:World):
  Calls prog 358 #[.int .i64 d] w fun e w'=>e=.returned (.int .u8 (sgn d))/\w'=w:=by
 go_enter func358,ntmps358;go_wp2;all_goals (go_ret;exact⟨cw (by unfold sgn;(repeat' split) <;> omega),rfl⟩)
theorem MQ(c:Int)(h:dg c=none):¬ (97<=c/\c<=122)/\¬ (65<=c/\c<=90)/\¬ (48<=c/\c<=57):=by unfold dg at h;(repeat' split at h) <;> first | (cases h;done) | exact⟨by assumption,by assumption,by assumption⟩
theorem MP(c:Int)(d:Nat)(h:dg c=some d):(97<=c/\c<=122/\(d:Int)=c - 97)\/(65<=c/\c<=90/\(d:Int)=c - 65)\/(48<=c/\c<=57/\(d:Int)=c - 22):=by unfold dg at h;(repeat' split at h) <;> first | (cases h;done) | (obtain rfl:=Option.some.inj h;omega)
theorem yh(c:Int)(h0:0<=c)(h1:c<=255)(h:dg c=none)(w:World):
  Calls prog 372 #[.int .u8 c] w fun e w'=>e=.returned (.tuple #[.int .i64 0,.bool false])/\w'=w:=by
 obtain⟨a1,a2,a3⟩:=MQ c h;go_enter func372,ntmps372;go_wp2;all_goals first | (exfalso;omega) | (go_ret2;exact⟨rfl,rfl⟩)
theorem yg(c:Int)(d:Nat)(h:dg c=some d)(w:World):
  Calls prog 372 #[.int .u8 c] w fun e w'=>e=.returned (.tuple #[.int .i64 d,.bool true])/\w'=w:=by
 have H:=MP c d h;have e:Hid (c - 48+26=c - 22):=by show c - 48+26=c - 22;omega
 clear h;go_enter func372,ntmps372;rcases H with⟨a1,a2,a3⟩ | ⟨a1,a2,a3⟩ | ⟨a1,a2,a3⟩
 all_goals (rw[a3];clear a3;go_wp2;go_ret2;first | exact⟨rfl,rfl⟩ | (rw[e.out];exact⟨rfl,rfl⟩))
end P
namespace U
end U
namespace P
open Go.RowKit U
theorem hid{p:Prop}(h:p):Hid p:=h
theorem xi(l:List Int)(k:Nat)(h:k<l.length):plain (l.take (k+1))=plain (l.take k)++(if l[k]?.getD 0<128 then [l[k]?.getD 0] else []):=by unfold plain;rw[bX l k h,filter_append];congr 1;by_cases hx:l[k]?.getD 0<128 <;> simp[hx]
theorem ql(l:List Int):(plain l).length<=l.length:=length_filter_le _ _
theorem lN(v:Value)(l:List Int)(hlen:l.length<=1024)(hnn:∀ x∈l,0<=x)(w:World)(hv:av w v l):
  Calls prog 320 #[v] w fun e W'=>∃ v',e=.returned v'/\W'.ownsRow w.heap.size 5 1 v' (plain l).length ((plain l).map (Value.int .u8))/\Below w.heap.size w W':=by
 obtain⟨i0,hi,hz0,hz1,hz2⟩:=info_parts Tryz.info5;rcases hv with⟨rfl,a,cap,rfl⟩ | ⟨hp,b,off,cap,rfl,hc⟩
 ·go_enter func320,ntmps320;go_wp2_with fail;refine wp_loop_rounds 1 ?_;rw[rounds_succ];go_wp2;go_ret;exact⟨_,rfl,ownsRow_nil _ _ _ _,Below.refl _ _⟩
 ·have hb:b<w.heap.size:=lt_of_cell (hc 0 hp);go_enter func320,ntmps320;go_wp2_with fail
  go_loopw [3,8] (fun v i wr=>∃ k:Nat,k<=l.length/\i=.int .i64 k/\wr.ownsRow w.heap.size 5 1 v (plain (l.take k)).length ((plain (l.take k)).map (Value.int .u8))/\Below w.heap.size w wr)
   (fun _ i _=>l.length - (intOf i).toNat)
  case atStart=>exact⟨0,zero_le _,rfl,ownsRow_nil _ _ _ _,Below.refl _ _⟩
  case round =>
   obtain⟨k,hk,rfl,ag,hB⟩:=hrel;by_cases hlt:k<l.length
   ·have hck:wr.cell? ⟨b,off+k,none⟩=some (.int .i32 (l[k]?.getD 0)):=(hB.cell (p:=⟨b,off+k,none⟩) hb).trans (hc k hlt);have hpl:=ql (l.take k);have htl:(l.take k).length<=k:=List.length_take_le _ _;have hx0:=hnn (l[k]?.getD 0) (by rw[getElem?_eq_getElem hlt];exact List.getElem_mem _);have HP:=hid (xi l k hlt);obtain⟨m,hm⟩:∃ m,m=(plain (l.take k)).length:=⟨_,rfl⟩;have HM:=hid hm;have hm2:m<=1024:=by omega
    rw[<-hm]at ag;clear hm hpl htl hc hnn;obtain⟨c,hcc⟩:∃ c,c=l[k]?.getD 0:=⟨_,rfl⟩;rw[<-hcc]at hck hx0 HP;clear hcc;by_cases hx:c<128
    ·go_wp2_with(at_builtin;refine wpList_append_own _ rfl _ _ 42 rfl w.heap.size 5 i0 (.int .u8 0) 1 1 underlying42 hi hz0 hz1 hz2 rfl (by decide) _ _ _ rfl (ag.alloc _) ⟨wr.heap.size,0,none⟩ 1 1 [.int .u8 c] rfl rfl (cZ _ _ _) (by simp[Value.oneCell']) (by unfold maxLen;omega) (by omega) (by have:=hB.size;simp;omega) ?_;intro v' w1 hown' hgrow _)
     go_roundw
     case rel =>
      have e:plain (l.take (k+1))=plain (l.take k)++[c]:=by rw[HP.out,if_pos hx]
      refine⟨k+1,by omega,by go_num,?_,?_⟩
      ·rw[e,length_append,<-HM.out,map_append];exact hown'
      ·exact below_grow (w1:=wr.alloc (.cells #[.int .u8 c] 5)) (hB.alloc hB.size _) (le_trans hB.size (by simp)) (ag.alloc _) hgrow
     case measure=>simp[intOf];omega
    ·go_wp2
     go_roundw
     case rel =>
      have e:plain (l.take (k+1))=plain (l.take k):=by rw[HP.out,if_neg hx,append_nil]
      refine⟨k+1,by omega,by go_num,?_,hB⟩;rw[e,<-HM.out];exact ag
     case measure=>simp[intOf];omega
   ·have hkk:k=l.length:=by omega
    rw[hkk,List.take_length]at ag;go_wp2;go_ret;exact⟨_,rfl,ag,hB⟩
def tc(l:List Int)(n m:Int):Prop:=m∈l/\n<=m/\∀ x∈l,¬ (n<=x/\x<m)
def lst(l:List Int)(n:Int):Int:=(l.filter fun x=>decide (n<=x)).foldl min 1114111
theorem foldl_min(l:List Int):∀ a:Int,l.foldl min a<=a/\(∀ x∈l,l.foldl min a<=x)/\(l.foldl min a=a\/l.foldl min a∈l):=by
 induction l with
 | nil=>intro a;simp
 | cons b l ih =>
  intro a;obtain⟨h1,h2,h3⟩:=ih (min a b);rw[foldl_cons];refine⟨by omega,fun x hx=>?_,?_⟩
  ·rcases List.mem_cons.mp hx with rfl | hx
   ·omega
   ·exact h2 x hx
  ·rcases h3 with h3 | h3
   ·by_cases hab:a<=b
    ·left;omega
    ·right;rw[h3,show min a b=b by omega];simp
   ·right;simp[h3]
theorem Bv(l:List Int)(n:Int)(hl:∀ x∈l,x<=1114111)(hex:∃ x∈l,n<=x):tc l n (lst l n):=by
 obtain⟨h1,h2,h3⟩:=foldl_min (l.filter fun x=>decide (n<=x)) 1114111;change lst l n<=1114111 at h1
 have mem:lst l n∈l.filter fun x=>decide (n<=x):=by
  rcases h3 with h3 | h3
  ·obtain⟨x,hx,hnx⟩:=hex;have hxm:x∈l.filter fun x=>decide (n<=x):=List.mem_filter.mpr ⟨hx,by simpa using hnx⟩;have:=h2 x hxm;have:=hl x hx;have e:lst l n=x:=by unfold lst;omega
   rw[e];exact hxm
  ·exact h3
 obtain⟨m1,m2⟩:=List.mem_filter.mp mem;refine⟨m1,by simpa using m2,fun x hx hb=>?_⟩;have:=h2 x (List.mem_filter.mpr ⟨hx,by simpa using hb.1⟩);have e:lst l n=(l.filter fun x=>decide (n<=x)).foldl min 1114111:=rfl;omega
theorem Gg(l:List Int)(n:Int)(k:Nat)(h:k<l.length):lst (l.take (k+1)) n=if n<=l[k]?.getD 0 then min (lst (l.take k) n) (l[k]?.getD 0) else lst (l.take k) n:=by unfold lst;rw[bX l k h,filter_append,foldl_append];by_cases hx:n<=l[k]?.getD 0 <;> simp[hx]
theorem BC(b off cap:Nat)(l:List Int)(n:Int)(hlen:l.length<=1024)(hp:0<l.length)(w:World)(hc:∀ j,j<l.length->w.cell? ⟨b,off+j,none⟩=some (.int .i32 (l[j]?.getD 0))):
  Calls prog 322 #[.slice (some ⟨b,off,none⟩) l.length cap,.int .i32 n] w fun e w'=>e=.returned (.int .i32 (lst l n))/\w'=w:=by
 go_enter func322,ntmps322;go_wp2_with fail
 go_loop [5,10] (fun m i=>∃ k:Nat,k<=l.length/\i=.int .i64 k/\m=.int .i32 (lst (l.take k) n)) (fun _ i=>l.length - (intOf i).toNat)
 case atStart=>exact⟨0,zero_le _,rfl,rfl⟩
 case round =>
  obtain⟨k,hk,rfl,rfl⟩:=hrel;by_cases hlt:k<l.length
  ·have hck:=hc k hlt;have HP:=hid (Gg l n k hlt);obtain⟨c,hcc⟩:∃ c,c=l[k]?.getD 0:=⟨_,rfl⟩;rw[<-hcc]at hck HP;clear hcc hc;by_cases hx:n<=c
   ·go_wp2;refine⟨⟨k+1,by omega,by go_num,?_⟩,by simp[intOf];omega⟩;rw[HP.out,if_pos hx];all_goals (congr 1;split <;> omega)
   ·go_wp2;refine⟨⟨k+1,by omega,by go_num,?_⟩,by simp[intOf];omega⟩;rw[HP.out,if_neg hx]
  ·have hkk:k=l.length:=by omega
   subst hkk;go_wp2;go_ret;first | exact⟨rfl,rfl⟩ | (rw[List.take_length];exact⟨rfl,rfl⟩)
structure Pen(base:Nat)(w:World)(Bb Bp Bn Bf Bo:Nat)(bias pts:Nat)(first:Bool)(v:Value)(k:Nat)(xs:List Value):Prop where
 b:Boxed w Bb 3 (.int .i64 bias)
 p:Boxed w Bp 299 (.pointer (some ⟨Bo,0,none⟩))
 n:Boxed w Bn 3 (.int .i64 pts)
 f:Boxed w Bf 4 (.bool first)
 o:Boxed w Bo 42 v
 row:w.ownsRow base 5 1 v k xs
 ne:Bb≠Bn
 hb:base<=Bb
 hn:base<=Bn
 hf:base<=Bf
 ho:base<=Bo
 sz:base<=w.heap.size
theorem bZ{W:World}{B C:Nat}{t u:TypeId}{x y:Value}(h:Boxed W B t x)(k:Boxed W C u y)(hne:t≠u):B≠C:=by intro e;unfold Boxed at h k;rw[e,k]at h;simp at h;exact hne h.2.symm
theorem aC{W:World}{B C:Nat}{t:TypeId}{x:Value}(h:Boxed W B t x)(hne:B≠C)(y:Value):Boxed (W.setCell ⟨C,0,none⟩ y) B t x :=
 h.kept (grownBy_setCell' W C y) (by simpa using hne)
theorem Pen.add{base:Nat}{w w0 w1:World}{Bb Bp Bn Bf Bo bias pts:Nat}{first:Bool}{v v':Value}{k:Nat}{xs ys:List Value}(h:Pen base w Bb Bp Bn Bf Bo bias pts first v k xs)(ob:Obj)(hw0:w0=(w.alloc ob).drew)
  (hown:w1.ownsRow base 5 1 v' (k+1) ys) (hg:w0.grownBy w1 v.ownBlock) :
  Pen base (w1.setCell ⟨Bo,0,none⟩ v') Bb Bp Bn Bf Bo bias pts first v' (k+1) ys/\Below base w (w1.setCell ⟨Bo,0,none⟩ v'):=by
 have g:w.grownBy w1 v.ownBlock:=by subst hw0;have g0:=World.grownBy_alloc w ob none;exact dY (⟨g0.os,g0.tape,g0.output,g0.size,g0.block⟩:w.grownBy (w.alloc ob).drew none) hg
 have ho:=gY (t:=42) (e:=5) (n₀:=base) h.o (by decide) h.row h.sz h.ho hown g
 have kb:∀ {B:Nat} {t:TypeId} {x:Value},Boxed w B t x->t≠5->t≠42->Boxed (w1.setCell ⟨Bo,0,none⟩ v') B t x:=fun hx h5 h34 =>
  aC (hx.kept g (hx.not_row h5 h.row)) (bZ hx h.o h34) v'
 exact⟨⟨kb h.b (by decide) (by decide),kb h.p (by decide) (by decide),kb h.n (by decide) (by decide),kb h.f (by decide) (by decide),ho.2.1,ho.2.2.1,h.ne,h.hb,h.hn,h.hf,h.ho,le_trans h.sz ho.2.2.2.2.size⟩,ho.2.2.2.2⟩
theorem rJ{w:World}{base C:Nat}{t:TypeId}{x v:Value}{k:Nat}{xs:List Value}(h:w.ownsRow base 5 1 v k xs)(hx:Boxed w C t x)(hte:t≠5)(y:Value):(w.setCell ⟨C,0,none⟩ y).ownsRow base 5 1 v k xs :=
 h.kept (grownBy_setCell' w C y) (.inr (hx.not_row hte h).symm)
theorem Pen.fin{base:Nat}{w:World}{Bb Bp Bn Bf Bo bias pts:Nat}{first:Bool}{v:Value}{k:Nat}{xs:List Value}(h:Pen base w Bb Bp Bn Bf Bo bias pts first v k xs)(A:Nat):
  Pen base (((w.setCell ⟨Bn,0,none⟩ (.int .i64 ((pts:Int)+1))).setCell ⟨Bb,0,none⟩ (.int .i64 A)).setCell ⟨Bf,0,none⟩ (.bool false)) Bb Bp Bn Bf Bo A (pts+1) false v k xs /\
   Below base w (((w.setCell ⟨Bn,0,none⟩ (.int .i64 ((pts:Int)+1))).setCell ⟨Bb,0,none⟩ (.int .i64 A)).setCell ⟨Bf,0,none⟩ (.bool false)):=by
 have fb:=bZ h.f h.b (by decide);have fn:=bZ h.f h.n (by decide);have pb:=bZ h.p h.b (by decide);have pn:=bZ h.p h.n (by decide);have pf:=bZ h.p h.f (by decide);have ob:=bZ h.o h.b (by decide);have on:=bZ h.o h.n (by decide);have of:=bZ h.o h.f (by decide);have b1:=aC h.b h.ne (.int .i64 ((pts:Int)+1));have n1:=h.n.set (.int .i64 ((pts:Int)+1));have f1:=aC h.f fn (.int .i64 ((pts:Int)+1));have r1:=rJ h.row h.n (by decide) (.int .i64 ((pts:Int)+1));have f2:=aC f1 fb (.int .i64 A);have r2:=rJ r1 b1 (by decide) (.int .i64 A);have r3:=rJ r2 f2 (by decide) (.bool false);refine⟨⟨aC (b1.set _) (fun e=>fb e.symm) _,aC (aC (aC h.p pn _) pb _) pf _,aC (aC n1 (fun e=>h.ne e.symm) _) (fun e=>fn e.symm) _,f2.set _,aC (aC (aC h.o on _) ob _) of _,r3,h.ne,h.hb,h.hn,h.hf,h.ho,?_⟩,?_⟩
 ·simpa using h.sz
 ·exact(((Below.refl base w).setCell (p:=⟨Bn,0,none⟩) h.hn _).setCell (p:=⟨Bb,0,none⟩) h.hb _).setCell (p:=⟨Bf,0,none⟩) h.hf _
theorem Ju(b k q:Nat)(h:q<thr k b):wn b k q=[sgn q]:=by rw[jZ,if_pos h]
theorem Jt(b k q:Nat)(h:¬ q<thr k b):wn b k q=sgn (thr k b+(q - thr k b) % (36 - thr k b))::wn b (k+36) ((q - thr k b) / (36 - thr k b)):=by rw[jZ,if_neg h]
theorem pZ{P:Program}{ops:Array Oper}{o:Oper}{a:Act}{w:World}{K:Act->World->Prop}{Q:Exit->Act->World->Prop}{E:Prop}
  (hg:o.guard=none) (f:Nat) (s:Operand) (t:TypeId) (hop:o.op=Op.call { callee:=Callee.value (Operand.func f),args:=#[s],argTypes:=#[t] })
  (v r:Value) (hs:a.eval s=v) (hen:(callFunc f #[v]).run P w=.ok (.enter f #[v]) w) (hc:Calls P f #[v] w fun e w'=>e=.returned r/\w'=w) (hK:K (a.put o.dst r) w) :
  if Region.wanted o (yielded ops a.tmps)=true then Oper.wp P o a w K Q else E:=by
 have hw:Region.wanted o (yielded ops a.tmps)=true:=by simp[Region.wanted,hg]
 rw[if_pos hw];unfold Oper.wp;have e:(execOp a.eval o).run P w=.ok (.enter f #[v]) w:=by have hf:a.eval (Operand.func f)=.func (.func f) #[] #[]:=rfl;simp[execOp,hop,resolve,invoke,hs,hf,Deferred.ofValue];exact hen
 rw[e,Oper.upon_enter];refine hc.mono ?_;rintro e w' ⟨rfl,rfl⟩;exact hK
theorem Kt(base Bb Bp Bn Bf Bo bias pts:Nat)(first:Bool)(v:Value)(k:Nat)(xs:List Int)(D:Nat)(hD:D<=71303231)(hbias:bias<=1000000000)(hpts:pts<=1000000)(hk:k<=10000000000000)(w:World)
  (h:Pen base w Bb Bp Bn Bf Bo bias pts first v k (xs.map (Value.int .u8))) :
  Calls prog 356 #[.int .i64 D,.pointer (some ⟨Bb,0,none⟩),.pointer (some ⟨Bp,0,none⟩),.pointer (some ⟨Bn,0,none⟩),.pointer (some ⟨Bf,0,none⟩)] w
   fun e W'=>e=.returned (.tuple #[])/\(∃ v',Pen base W' Bb Bp Bn Bf Bo (adapt D (pts+1) first) (pts+1) false v' (k+(wn bias 36 D).length) ((xs++wn bias 36 D).map (Value.int .u8)))/\Below base w W':=by
 obtain⟨i0,hi0,hz0,hz1,hz2⟩:=info_parts Tryz.info5;have cb:=h.b.cell;have HH:=hid h;clear h;go_enter func356,ntmps356;go_wp2_with(go_at_call 357;refine(ka 36 bias (by omega) (by omega) _).mono ?_;rintro e w' ⟨rfl,hw'⟩;obtain rfl:=hw'.symm)
 go_loopw [6,7,8] (fun q kk t wr=>∃(Q K:Nat) (v:Value) (acc:List Int),q=.int .i64 Q/\kk=.int .i64 K/\t=.int .i64 (thr K bias)/\Q<=71303231/\K+Q<=71303267+36 * acc.length/\acc.length+Q<=71303231/\Hid (acc++wn bias K Q=wn bias 36 D) /\
     Pen base wr Bb Bp Bn Bf Bo bias pts first v (k+acc.length) ((xs++acc).map (Value.int .u8))/\Below base w wr)
  (fun q _ _ _=>(intOf q).toNat)
 case atStart=>exact⟨D,36,v,[],rfl,rfl,rfl,hD,by simp;omega,by simp;omega,rfl,by simpa using HH.out,Below.refl _ _⟩
 case round =>
  obtain⟨Q,K,v,acc,rfl,rfl,htt,h1,h2,h3,h4,h5,hB⟩:=hrel;have t1:=fH K bias;have t2:=jD K bias;obtain⟨t,ht⟩:=Ex' (thr K bias);rw[ht]at htt t1 t2;have HT:=hid ht;clear ht;subst htt;have cb:=h5.b.cell;have cp:=h5.p.cell;have co:=h5.o.cell;have fo:=h5.o.frozen;have ag:=h5.row;have hsz:=h5.sz;have np:=h5.p.not_row (by decide) h5.row;have no:=h5.o.not_row (by decide) h5.row;have lp:=h5.p.lt;have hpo:Bp≠Bo:=by intro e;have h1:=h5.p;have h2:=h5.o;unfold Boxed at h1 h2;rw[e,h2]at h1;simp at h1
  have hop:Bo≠Bp:=fun e=>hpo e.symm;have lo:=h5.o.lt;have H5:=hid h5;clear h5;by_cases hq:Q<t
  ·have hqz:¬ ((t:Int)<=(Q:Int)):=by omega
   have hs1:=rH Q (by omega);obtain⟨y,hy⟩:∃ y,y=sgn Q:=⟨_,rfl⟩;rw[<-hy]at hs1;have HY:=hid hy;clear hy
   go_upto_region 7 with fail
   go_cut [] from 43 (fun wc=>∃ v',Pen base wc Bb Bp Bn Bf Bo bias pts first v' (k+acc.length+1) ((xs++acc).map (Value.int .u8)++[.int .u8 y])/\Below base wr wc)
   case first =>
    go_region_law (first
      | (refine pZ rfl 358 (.tmp 47) 2 rfl (.int .i64 Q) (.int .u8 y) (by simp[Act.eval,Act.put]) (enters_of func358 (by kernel_rfl) rfl _ _) (by rw[HY.out];exact tJ Q (by omega) _) ?_)
      | (refine step_append_lies _ (by rfl) _ _ _ (by rfl) base 5 i0 _ 1 1 underlying42 hi0 hz0 hz1 hz2 rfl (by omega) _ (k+acc.length) ((xs++acc).map (Value.int .u8)) (by rfl) ((ag.alloc _).drew)
          ⟨wr.heap.size,0,none⟩ 1 1 [.int .u8 y] (by rfl) (by rfl) (World.news_of_block (cs:=#[.int .u8 y]) (t:=5) (fr:=(0,0)) (heap_alloc_new wr _)) (by simp[Value.oneCell'])
          (by omega) (by unfold maxLen;omega) (by omega) (by simp;omega) (wr.heap.size+1) (by simp) ?_;intro gg cap' w1 hown1 hgrow hat hlt1
         have cp1:w1.cell? ⟨Bp,0,none⟩=some (.pointer (some ⟨Bo,0,none⟩)):=by rw[hgrow.cell_far ⟨Bp,0,none⟩ (by simp;omega) np];simpa using((H5.out.p.alloc _).cell:(wr.alloc (.cells #[.int .u8 y] 5)).cell? ⟨Bp,0,none⟩=some _)
         have c1:w1.cell? ⟨Bo,0,none⟩=some v:=by rw[hgrow.cell_far ⟨Bo,0,none⟩ (by simp;omega) no];simpa using((H5.out.o.alloc _).cell:(wr.alloc (.cells #[.int .u8 y] 5)).cell? ⟨Bo,0,none⟩=some v)
         have f1:w1.frozen? ⟨Bo,0,none⟩=false:=by rw[hgrow.frozen_far ⟨Bo,0,none⟩ (by simp;omega) no];simpa using((H5.out.o.alloc _).frozen:(wr.alloc (.cells #[.int .u8 y] 5)).frozen? ⟨Bo,0,none⟩=false)))
    all_goals (go_wp2_with fail;go_meet;case rel=>exact⟨_,H5.out.add _ rfl hown1 hgrow⟩)
   case rest =>
    obtain⟨v',hP,hB'⟩:=hcut;have HP:=hid hP;have cB:=hP.b.cell;have cN:=hP.n.cell;have cF:=hP.f.cell;have fB:=hP.b.frozen;have fN:=hP.n.frozen;have fF:=hP.f.frozen;have n1:=hP.ne;have n2:Bn≠Bb:=fun e=>n1 e.symm;have n3:=bZ hP.f hP.n (by decide);have n4:=bZ hP.n hP.f (by decide);have n5:=bZ hP.f hP.b (by decide);have n6:=bZ hP.b hP.f (by decide);clear hP ag co cp fo np no lp lo cb;go_wp2_with(go_at_call 351;refine(show Calls prog 351 #[.int .i64 D,.int .i64 ((pts:Int)+1),.bool first] _ _ from ri D (pts+1) first (by omega) (by omega) (by omega) _).mono ?_;rintro e w' ⟨rfl,rfl⟩)
    go_end0
    have e:wn bias 36 D=acc++[y]:=by rw[<-h4.out,Ju bias K Q (by rw[HT.out];exact hq),HY.out]
    obtain⟨P1,P2⟩:=HP.out.fin (adapt D (pts+1) first);refine⟨rfl,⟨v',?_⟩,(hB.trans (hB'.mono (le_refl _))).trans P2⟩;rw[e,length_append,<-Nat.add_assoc,<-append_assoc,map_append];exact P1
  ·have hqz:(t:Int)<=(Q:Int):=by omega
   have m0:0<=((Q:Int) - t) % (36 - t):=Int.emod_nonneg _ (by omega);have m1:((Q:Int) - t) % (36 - t)<36 - t:=Int.emod_lt_of_pos _ (by omega);obtain⟨x,hx⟩:∃ x:Nat,(x:Int)=(t:Int)+((Q:Int) - t) % (36 - t):=⟨((t:Int)+((Q:Int) - t) % (36 - t)).toNat,by omega⟩;have hx36:x<36:=by omega
   have hxe:Hid ((t:Int)+((Q:Int) - t) % (36 - t)=(x:Int)):=hx.symm;clear hx;have hs1:=rH x hx36;obtain⟨y,hy⟩:∃ y,y=sgn x:=⟨_,rfl⟩;rw[<-hy]at hs1;have HY:=hid hy;clear hy;have r1:IntKind.i64.wrap ((Q:Int) - t)=(Q:Int) - t:=by simp[IntKind.wrap,IntKind.bits,IntKind.signed];omega
   have r2:IntKind.i64.wrap (36 - (t:Int))=36 - (t:Int):=by simp[IntKind.wrap,IntKind.bits,IntKind.signed];omega
   have r3:¬ (36 - (t:Int)=0):=by omega
   have r5:Int.tmod ((Q:Int) - t) (36 - t)=((Q:Int) - t) % (36 - t):=Int.tmod_eq_emod_of_nonneg (by omega);have r7:IntKind.i64.wrap ((t:Int)+((Q:Int) - t) % (36 - t))=(x:Int):=by rw[hxe.out];simp[IntKind.wrap,IntKind.bits,IntKind.signed];omega
   go_upto_region 3 with fail
   go_cut [] from 13 to 42 (fun wc=>∃ v',Pen base wc Bb Bp Bn Bf Bo bias pts first v' (k+acc.length+1) ((xs++acc).map (Value.int .u8)++[.int .u8 y])/\Below base wr wc)
   case first =>
    go_region_law (first
      | (refine pZ rfl 358 (.tmp 27) 2 rfl (.int .i64 x) (.int .u8 y) (by simp[Act.eval,Act.put]) (enters_of func358 (by kernel_rfl) rfl _ _) (by rw[HY.out];exact tJ x hx36 _) ?_)
      | (refine step_append_lies _ (by rfl) _ _ _ (by rfl) base 5 i0 _ 1 1 underlying42 hi0 hz0 hz1 hz2 rfl (by omega) _ (k+acc.length) ((xs++acc).map (Value.int .u8)) (by rfl) ((ag.alloc _).drew)
          ⟨wr.heap.size,0,none⟩ 1 1 [.int .u8 y] (by rfl) (by rfl) (World.news_of_block (cs:=#[.int .u8 y]) (t:=5) (fr:=(0,0)) (heap_alloc_new wr _)) (by simp[Value.oneCell'])
          (by omega) (by unfold maxLen;omega) (by omega) (by simp;omega) (wr.heap.size+1) (by simp) ?_;intro gg cap' w1 hown1 hgrow hat hlt1
         have cp1:w1.cell? ⟨Bp,0,none⟩=some (.pointer (some ⟨Bo,0,none⟩)):=by rw[hgrow.cell_far ⟨Bp,0,none⟩ (by simp;omega) np];simpa using((H5.out.p.alloc _).cell:(wr.alloc (.cells #[.int .u8 y] 5)).cell? ⟨Bp,0,none⟩=some _)
         have c1:w1.cell? ⟨Bo,0,none⟩=some v:=by rw[hgrow.cell_far ⟨Bo,0,none⟩ (by simp;omega) no];simpa using((H5.out.o.alloc _).cell:(wr.alloc (.cells #[.int .u8 y] 5)).cell? ⟨Bo,0,none⟩=some v)
         have f1:w1.frozen? ⟨Bo,0,none⟩=false:=by rw[hgrow.frozen_far ⟨Bo,0,none⟩ (by simp;omega) no];simpa using((H5.out.o.alloc _).frozen:(wr.alloc (.cells #[.int .u8 y] 5)).frozen? ⟨Bo,0,none⟩=false)))
    all_goals (go_wp2_with fail;go_meet;case rel=>exact⟨_,H5.out.add _ rfl hown1 hgrow⟩)
   case rest =>
    obtain⟨v',hP,hB'⟩:=hcut;have HP:=hid hP;have cB:=hP.b.cell;clear hP ag co cp fo np no lp lo cb r1 r2 r3 r5 r7;go_wp2_with(go_at_call 357;refine(show Calls prog 357 #[.int .i64 ((K:Int)+36),.int .i64 bias] _ _ from ka (K+36) bias (by omega) (by omega) _).mono ?_;rintro e w' ⟨rfl,rfl⟩);have q1:(Q - t) / (36 - t)<=Q - t:=div_le_self _ _;have q2:((Q:Int) - t) / (36 - t)=(((Q - t) / (36 - t):Nat):Int):=by rw[Int.natCast_ediv,ofNat_sub (by omega),ofNat_sub (by omega)];rfl
    go_roundw
    case rel =>
     refine⟨(Q - t) / (36 - t),K+36,v',acc++[y],by rw[q2],by go_num,by go_num,by omega,by rw[length_append];simp only[length_cons,length_nil];omega,by rw[length_append];simp only[length_cons,length_nil];omega,?_,?_,(hB.trans (hB'.mono (le_refl _)))⟩
     ·have e:x=t+(Q - t) % (36 - t):=by
       have:=hxe.out;have q3:((Q:Int) - t) % (36 - t)=(((Q - t) % (36 - t):Nat):Int):=by rw[Int.natCast_emod,ofNat_sub (by omega),ofNat_sub (by omega)];rfl
       omega
      show acc++[y]++wn bias (K+36) ((Q - t) / (36 - t))=wn bias 36 D;rw[<-h4.out,Jt bias K Q (by rw[HT.out];exact hq),HT.out,<-e,HY.out,append_assoc];rfl
     ·have:=HP.out;rw[length_append,<-Nat.add_assoc,<-append_assoc,map_append];exact this
    case measure=>simp[intOf];rw[q2];omega
theorem Gi(A K:Nat):iB A K<=K+A+36:=by
 induction A using Nat.strongRecOn generalizing K with
 | ind A ih =>
  by_cases h:455<A
  ·rw[jJ A K h];have:=ih (A / 35) (by omega) (K+36);omega
  ·rw[jK A K h];have:36 * A / (A+38)<=36:=by apply Nat.le_of_lt_succ;rw[Nat.div_lt_iff_lt_mul (by omega)];omega
   omega
theorem wF(d p:Nat)(f:Bool)(hd:d<=100000000000):adapt d p f<=2 * d+36:=by
 unfold adapt;have h1:(if f=true then d / 700 else d / 2)<=d:=by split <;> omega
 have h2:=div_le_self (if f=true then d / 700 else d / 2) p;have:=Gi ((if f=true then d / 700 else d / 2)+(if f=true then d / 700 else d / 2) / p) 0;omega
theorem Ri(b k q:Nat):(wn b k q).length<=q+1:=by
 induction q using Nat.strongRecOn generalizing k with
 | ind q ih =>
  rw[jZ];split
  ·simp
  ·rename_i h;have h1:=fH k b;have h2:=div_le_self (q - thr k b) (36 - thr k b);have:=ih ((q - thr k b) / (36 - thr k b)) (by omega) (k+36);rw[length_cons];omega
def ups(l:List Int)(n:Int):Nat:=(l.filter fun x=>decide (n<=x)).length
theorem CX(l:List Int)(n m:Int)(h:tc l n m):ups l (m+1)<ups l n:=by
 obtain⟨h1,h2,_⟩:=h;unfold ups
 have sub:(l.filter fun x=>decide (m+1<=x))=(l.filter fun x=>decide (n<=x)).filter fun x=>decide (m+1<=x):=by
  rw[List.filter_filter];apply List.filter_congr;intro x _;by_cases hx:m+1<=x
  ·simp[hx];omega
  ·simp[hx]
 rw[sub];have hle:=length_filter_le (fun x=>decide (m+1<=x)) (l.filter fun x=>decide (n<=x));rcases Nat.lt_or_ge (List.filter (fun x=>decide (m+1<=x)) (l.filter fun x=>decide (n<=x))).length (l.filter fun x=>decide (n<=x)).length with h | h
 ·exact h
 ·exfalso;have e:=(List.filter_sublist (p:=fun x=>decide (m+1<=x)) (l:=l.filter fun x=>decide (n<=x))).eq_of_length (by omega);have hm:m∈l.filter fun x=>decide (n<=x):=List.mem_filter.mpr ⟨h1,by simpa using h2⟩;rw[<-e]at hm;have:=(List.mem_filter.mp hm).2;simp at this;omega
theorem Qc(p:List Int):(hd p).length<=p.length+1:=by unfold hd;split <;> simp
theorem GO(l:List Int)(h0:∀ x∈l,0<=x):∀ c∈hd (plain l),0<=c/\c<128:=by
 intro c hc;unfold hd at hc;split at hc
 ·cases hc
 ·rcases List.mem_append.mp hc with hc | hc
  ·exact⟨h0 c (List.mem_filter.mp hc).1,nR l c hc⟩
  ·simp at hc;omega
theorem Enc.ascii{l T:List Int}(h:Enc l T)(h0:∀ x∈l,0<=x):∀ c∈T,0<=c/\c<128:=by
 obtain⟨ds,rfl,_⟩:=h;intro c hc;rcases List.mem_append.mp hc with hc | hc
 ·exact GO l h0 c hc
 ·have:=mY _ ds c hc;omega
theorem La{base:Nat}{w:World}{Bo:Nat}{v:Value}{k:Nat}{xs:List Value}(ho:Boxed w Bo 42 v)(ag:w.ownsRow base 5 1 v k xs)(hb:base<=Bo)(hsz:base<=w.heap.size)(h:Nat):
  Pen base ((((w.alloc (.cells #[.pointer (some ⟨Bo,0,none⟩)] 299)).alloc (.cells #[.int .i64 h] 3)).alloc (.cells #[.int .i64 72] 3)).alloc (.cells #[.bool true] 4)) (w.heap.size+2) w.heap.size (w.heap.size+1) (w.heap.size+3) Bo 72 h true v k xs /\
  Below base w ((((w.alloc (.cells #[.pointer (some ⟨Bo,0,none⟩)] 299)).alloc (.cells #[.int .i64 h] 3)).alloc (.cells #[.int .i64 72] 3)).alloc (.cells #[.bool true] 4)):=by
 have s1:(w.alloc (.cells #[.pointer (some ⟨Bo,0,none⟩)] 299)).heap.size=w.heap.size+1:=by simp
 have s2:((w.alloc (.cells #[.pointer (some ⟨Bo,0,none⟩)] 299)).alloc (.cells #[.int .i64 h] 3)).heap.size=w.heap.size+2:=by simp
 have s3:(((w.alloc (.cells #[.pointer (some ⟨Bo,0,none⟩)] 299)).alloc (.cells #[.int .i64 h] 3)).alloc (.cells #[.int .i64 72] 3)).heap.size=w.heap.size+3:=by simp
 have b0:=Boxed.new w 299 (.pointer (some ⟨Bo,0,none⟩));have b1:=Boxed.new (w.alloc (.cells #[.pointer (some ⟨Bo,0,none⟩)] 299)) 3 (.int .i64 h);have b2:=Boxed.new ((w.alloc (.cells #[.pointer (some ⟨Bo,0,none⟩)] 299)).alloc (.cells #[.int .i64 h] 3)) 3 (.int .i64 72);have b3:=Boxed.new (((w.alloc (.cells #[.pointer (some ⟨Bo,0,none⟩)] 299)).alloc (.cells #[.int .i64 h] 3)).alloc (.cells #[.int .i64 72] 3)) 4 (.bool true);rw[s1]at b1;rw[s2]at b2;rw[s3]at b3
 exact⟨⟨b2.alloc _,((b0.alloc _).alloc _).alloc _,(b1.alloc _).alloc _,b3,(((ho.alloc _).alloc _).alloc _).alloc _,(((ag.alloc _).alloc _).alloc _).alloc _,by omega,by omega,by omega,by omega,hb,by simp;omega⟩,
   ((((Below.refl base w).alloc hsz _).alloc (by simp;omega) _).alloc (by simp;omega) _).alloc (by simp;omega) _⟩
theorem mR(base Bo:Nat)(v:Value)(k h:Nat)(xs:List Value)(w:World)(ho:Boxed w Bo 42 v)(ag:w.ownsRow base 5 1 v k xs)(hb:base<=Bo)(hsz:base<=w.heap.size):
  Calls prog 321 #[.pointer (some ⟨Bo,0,none⟩),.int .i64 h] w fun e W'=>∃ Bb Bp Bn Bf,e=.returned (.func (.func 356) #[] #[.pointer (some ⟨Bb,0,none⟩),.pointer (some ⟨Bp,0,none⟩),.pointer (some ⟨Bn,0,none⟩),.pointer (some ⟨Bf,0,none⟩)]) /\
   Pen base W' Bb Bp Bn Bf Bo 72 h true v k xs/\Below base w W':=by
 have P:=La ho ag hb hsz h;go_enter func321,ntmps321;go_wp2;go_ret;exact⟨_,_,_,_,rfl,P⟩
theorem cO{base n:Nat}{v:Value}{X:List Value}{W:World}(h:W.ownsRow base 5 1 v n X):∃ a cap,v=.slice a n cap:=by
 rcases h.2 with⟨rfl,h0⟩ | ⟨g,cap,cur,rfl,_⟩
 ·exact⟨none,0,by rw[h0]⟩
 ·exact⟨_,cap,rfl⟩
theorem Mt(p:List Int)(h:0<p.length):hd p=p++[45]:=by unfold hd;rw[if_neg (by omega)]
theorem Mu(p:List Int)(h:p.length=0):hd p=[]:=by unfold hd;rw[if_pos h]
structure Wr(l:List Int)(base:Nat)(w wr:World)(Bb Bp Bn Bf Bo:Nat)(h dl:Nat)(n:Int)(j:Nat):Prop where
 n0:128<=n
 n1:n<=1114112
 ex:∃(ds:List Nat) (v:Value) (k:Nat),EI l n j dl ds/\(∀ d∈ds,d<=71303231)/\h=(plain l).length+ds.length/\k<=100+71303232 * ds.length/\k=(hd (plain l)++tx (plain l).length ds).length /\
  Pen base wr Bb Bp Bn Bf Bo (bia (plain l).length ds) h ds.isEmpty v k ((hd (plain l)++tx (plain l).length ds).map (Value.int .u8))
 be:Below base w wr
theorem Wr.h_le{l:List Int}{base:Nat}{w wr:World}{Bb Bp Bn Bf Bo h dl:Nat}{n:Int}{j:Nat}(s:Wr l base w wr Bb Bp Bn Bf Bo h dl n j):h<=l.length/\h=(had l n j).length:=by obtain⟨ds,v,k,e,_,hh,_⟩:=s.ex;have:=e.len;have:=GW l n j;omega
theorem QP(p:Nat)(ds:List Nat)(hd:∀ d∈ds,d<=71303231):bia p ds<=1000000000:=by
 cases ds with
 | nil=>simp[bia]
 | cons d ds =>
  have h1:=hd d (by simp);have:=wF d (p+ds.length+1) ds.isEmpty (by omega);rw[bia];omega
section
variable {l : List Int} {base : Nat} {w wr : World} {Bb Bp Bn Bf Bo h dl : Nat} {n : Int} {j : Nat}
theorem Wr.dl_le(s:Wr l base w wr Bb Bp Bn Bf Bo h dl n j)(hl:l.length<=63):dl<=71303231:=by obtain⟨ds,v,k,e,_⟩:=s.ex;exact e.bound s.n1 hl
theorem Wr.less(s:Wr l base w wr Bb Bp Bn Bf Bo h dl n j)(hj:j<l.length)(hx:l[j]?.getD 0<n):Wr l base w wr Bb Bp Bn Bf Bo h (dl+1) n (j+1):=by obtain⟨ds,v,k,e,r⟩:=s.ex;exact⟨s.n0,s.n1,⟨ds,v,k,e.less hj hx,r⟩,s.be⟩
theorem Wr.more(s:Wr l base w wr Bb Bp Bn Bf Bo h dl n j)(hj:j<l.length)(hx:n<l[j]?.getD 0):Wr l base w wr Bb Bp Bn Bf Bo h dl n (j+1):=by obtain⟨ds,v,k,e,r⟩:=s.ex;exact⟨s.n0,s.n1,⟨ds,v,k,e.more hj hx,r⟩,s.be⟩
theorem Wr.pass(s:Wr l base w wr Bb Bp Bn Bf Bo h dl n l.length)(hn:n<=1114111):Wr l base w wr Bb Bp Bn Bf Bo h (dl+1) (n+1) 0:=by obtain⟨ds,v,k,e,r⟩:=s.ex;exact⟨by have:=s.n0;omega,by omega,⟨ds,v,k,e.pass,r⟩,s.be⟩
theorem Wr.jump(s:Wr l base w wr Bb Bp Bn Bf Bo h dl n 0)(m:Int)(hm:tc l n m)(hl:∀ x∈l,x<=1114111)(D:Nat)(hD:(D:Int)=dl+(m - n) * ((h:Int)+1)):Wr l base w wr Bb Bp Bn Bf Bo h D m 0:=by obtain⟨-,hh⟩:=s.h_le;obtain⟨ds,v,k,e,r⟩:=s.ex;have:=hl m hm.1;exact⟨by have:=s.n0;have:=hm.2.1;omega,by omega,⟨ds,v,k,e.jump hm.2.1 hm.2.2 D (by rw[<-hh];exact hD),r⟩,s.be⟩
theorem Wr.left(s:Wr l base w wr Bb Bp Bn Bf Bo h dl n 0)(hl:h<l.length):∃ x∈l,n<=x:=by obtain⟨-,hh⟩:=s.h_le;exact EI.left (dl:=dl) (ds:=[]) (by omega)
theorem Wr.put(s:Wr l base w wr Bb Bp Bn Bf Bo h dl n j)(hlen:l.length<=63)(hj:j<l.length)(hx:l[j]?.getD 0=n):
  Calls prog 356 #[.int .i64 dl,.pointer (some ⟨Bb,0,none⟩),.pointer (some ⟨Bp,0,none⟩),.pointer (some ⟨Bn,0,none⟩),.pointer (some ⟨Bf,0,none⟩)] wr
   fun e W'=>e=.returned (.tuple #[])/\Wr l base w W' Bb Bp Bn Bf Bo (h+1) 0 n (j+1):=by
 have hh:=s.h_le;have hdl:=s.dl_le hlen;obtain⟨ds,v,k,e,hds,hh2,hk,hkl,P⟩:=s.ex;refine(Kt base Bb Bp Bn Bf Bo _ h ds.isEmpty v k _ dl hdl (QP _ _ hds) (by omega) (by omega) wr P).mono ?_;rintro e W' ⟨rfl,⟨v',P'⟩,B'⟩;have hw:=Ri (bia (plain l).length ds) 36 dl;refine⟨rfl,s.n0,s.n1,⟨dl::ds,v',k+(wn (bia (plain l).length ds) 36 dl).length,e.put hj hx,?_,by rw[length_cons];omega,?_,?_,?_⟩,s.be.trans B'⟩
 ·intro d hd;rcases List.mem_cons.mp hd with rfl | hd
  ·exact hdl
  ·exact hds d hd
 ·rw[length_cons];omega
 ·rw[hkl,tx,<-append_assoc,length_append (bs:=wn _ _ _)]
 ·have e1:bia (plain l).length (dl::ds)=adapt dl (h+1) ds.isEmpty:=by rw[bia,hh2]
  rw[e1,tx,<-append_assoc];exact P'
theorem Wr.fin(s:Wr l base w wr Bb Bp Bn Bf Bo h dl n 0)(hl:l.length<=h)(h0:∀ x∈l,0<=x):∃ v k T,Boxed wr Bo 42 v/\(∃ a c,v=.slice a k c)/\(convert 42 9 v).run prog wr=.ok (.string T) wr/\Enc l (bn T):=by obtain⟨-,hh⟩:=s.h_le;obtain⟨ds,v,k,e,_,hh2,hk,hkl,P⟩:=s.ex;have E:Enc l (hd (plain l)++tx (plain l).length ds):=⟨ds,rfl,e.fin (by omega)⟩;obtain⟨T,h1,h2⟩:=aV wr base v k (hd (plain l)++tx (plain l).length ds) hkl (fun c hc=>by have:=E.ascii h0 c hc;omega) P.row;obtain⟨a,c,rfl⟩:=cO P.row;exact⟨_,k,T,P.o,⟨a,c,rfl⟩,h1,by rw[h2];exact E⟩
end
theorem rj(b off cap:Nat)(l:List Int)(hlen:l.length<=63)(hall:l.all ab=true)(w:World)(hp:0<l.length)(hc:∀ j,j<l.length->w.cell? ⟨b,off+j,none⟩=some (.int .i32 (l[j]?.getD 0))):
  Calls prog 303 #[.slice (some ⟨b,off,none⟩) l.length cap] w fun e W'=>∃ T,e=.returned (.string T)/\Enc l (bn T)/\Below w.heap.size w W':=by
 obtain⟨i0,hi0,hz0,hz1,hz2⟩:=info_parts Tryz.info5;have hb:b<w.heap.size:=lt_of_cell (hc 0 hp);have hbd:=Ja hall;have HP:=hid (lN (.slice (some ⟨b,off,none⟩) l.length cap) l (by omega) (fun x hx=>(hbd x hx).1) w (.inr ⟨hp,b,off,cap,rfl,hc⟩));have hpl:=ql l;obtain⟨p,hpp⟩:=Ex' ((plain l).length);have HPP:=hid hpp;rw[hpp]at HP hpl;clear hpp;obtain⟨N,hN⟩:=Ex' l.length;have HN:=hid hN;rw[hN]at HP hlen hp hpl ⊢;have hc':∀ j,j<N->w.cell? ⟨b,off+j,none⟩=some (.int .i32 (l[j]?.getD 0)):=by rw[<-hN];exact hc
 clear hN hc;go_enter func303,ntmps303;go_wp2_with fail;refine HP.out.mono ?_;rintro e w1 ⟨v1,rfl,r1,B1⟩;obtain⟨a1,c1,rfl⟩:=cO r1;have bo:=Boxed.new w1 42 (.slice a1 p c1);have R1:=hid (r1.alloc (.cells #[.slice a1 p c1] 42));have s1:=B1.size
 go_upto_if 16 with fail
 go_cut [] from 16 (fun wc=>∃ v k,Hid (Boxed wc w1.heap.size 42 v)/\Hid (wc.ownsRow w.heap.size 5 1 v k ((hd (plain l)).map (Value.int .u8)))/\k=(hd (plain l)).length/\Hid (Below w.heap.size w wc))
 case first =>
  by_cases hp0:p=0
  ·go_wp2_with fail
   go_meet
   case rel =>
    have e:hd (plain l)=[]:=Mu _ (HPP.out.trans hp0);refine⟨_,p,bo,?_,by rw[e,hp0];rfl,(B1.alloc B1.size _)⟩;show World.ownsRow _ _ _ _ _ _ _;have e2:plain l=[]:=List.eq_nil_of_length_eq_zero (HPP.out.trans hp0);have:=R1.out;rw[e2]at this;rw[e];exact this
  ·have hpz:(0:Int)<(p:Int):=by omega
   have BO:=hid bo;have cb:=bo.cell;clear bo r1;go_wp2_with(at_builtin;refine wpList_append_own _ rfl _ _ 42 rfl w.heap.size 5 i0 (.int .u8 0) 1 1 underlying42 hi0 hz0 hz1 hz2 rfl (by decide) _ _ _ rfl (R1.out.alloc _) ⟨w1.heap.size+1,0,none⟩ 1 1 [.int .u8 45] rfl rfl (by have:=cZ (w1.alloc (.cells #[.slice a1 p c1] 42)) 5 [.int .u8 45];simpa using this) (by simp[Value.oneCell']) (by unfold maxLen;omega) (by omega) (by simp;omega) ?_;intro v2 w3 hown hgrow _;obtain⟨a2,c2,rfl⟩:=cO hown;have c3:=gY (t:=42) (e:=5) (n₀:=w.heap.size) (BO.out.alloc _) (by decide) (R1.out.alloc _) (by simp;omega) (by omega) hown hgrow;have c4:=c3.1.cell;have c5:=c3.1.frozen)
   go_meet
   case rel =>
    have e:hd (plain l)=plain l++[45]:=Mt _ (by rw[HPP.out];omega);refine⟨_,p+1,c3.2.1,?_,by rw[e,length_append,HPP.out];rfl,?_⟩
    ·show World.ownsRow _ _ _ _ _ _ _;rw[e,map_append];exact c3.2.2.1
    ·show Below _ _ _;exact((B1.alloc B1.size _).alloc (by simp;omega) _).trans c3.2.2.2.2
 case rest =>
  obtain⟨v,k,h1,h2,hk,h3⟩:=hcut;have hkl:=Qc (plain l);have HK:=hid hk;have hk2:k<=100:=by rw[HPP.out]at hkl;omega
  clear hk hkl;go_wp2_with(go_at_call 321;refine(mR w.heap.size w1.heap.size v k p _ _ h1.out h2.out s1 h3.out.size).mono ?_;rintro e w4 ⟨Bb,Bp,Bn,Bf,rfl,PN,B4⟩)
  go_loopw [4,6,7] (fun vh vn vd wr=>∃(h dl:Nat) (n:Int),vh=.int .i64 h/\vn=.int .i32 n/\vd=.int .i64 dl/\Hid (Wr l w.heap.size w wr Bb Bp Bn Bf w1.heap.size h dl n 0))
   (fun _ vn _ _=>ups l (intOf vn))
  case atStart =>
   refine⟨p,0,128,rfl,rfl,rfl,by omega,by omega,⟨[],v,k,EI.start l,(fun d hd=>by cases hd),by rw[HPP.out];rfl,by omega,by rw[HK.out];simp[tx],?_⟩,h3.out.trans B4⟩;simpa[tx,bia]using PN
  case round =>
   obtain⟨h,dl,n,rfl,rfl,rfl,HW⟩:=hrel;by_cases hlt:h<N
   ·have n0:=HW.out.n0;have n1:=HW.out.n1;have d1:=HW.out.dl_le (by rw[HN.out];exact hlen);have HM:=hid (Bv l n (fun x hx=>(hbd x hx).2) (HW.out.left (by rw[HN.out];exact hlt)));have m1:=(hbd _ HM.out.1).2;have m0:=HM.out.2.1;have hcr:∀ j,j<N->wr.cell? ⟨b,off+j,none⟩=some (.int .i32 (l[j]?.getD 0)):=fun j hj=>(HW.out.be.cell (p:=⟨b,off+j,none⟩) hb).trans (hc' j hj);have HL:=hid (BC b off cap l n (by rw[HN.out];omega) (by rw[HN.out];exact hp) wr (by rw[HN.out];exact hcr));rw[HN.out]at HL;obtain⟨m,hm⟩:=Ex' (lst l n);rw[hm]at HM m0 m1 HL;clear hm;obtain⟨X,hX⟩:∃ X:Nat,(m - n) * ((h:Int)+1)=(X:Int):=⟨((m - n) * ((h:Int)+1)).toNat,by have:=Int.mul_nonneg (show 0<=m - n by omega) (show 0<=(h:Int)+1 by omega);omega⟩;have hX1:X<=1114112 * 63:=by have a1:(m - n) * ((h:Int)+1)<=1114112 * ((h:Int)+1):=Int.mul_le_mul_of_nonneg_right (by omega) (by omega);omega
    have HW2:=hid (HW.out.jump m HM.out (fun x hx=>(hbd x hx).2) (dl+X) (by rw[hX];push_cast;rfl));clear hcr;have HBD:=hid hbd;go_wp2_with(go_at_call 322;refine HL.out.mono ?_;rintro e w' ⟨rfl,hw'⟩;obtain rfl:=hw'.symm)
    go_loopw [4,7,41] (fun vh vd vj wi=>∃(h dl j:Nat),vh=.int .i64 h/\vd=.int .i64 dl/\vj=.int .i64 j/\j<=N/\Hid (Wr l w.heap.size w wi Bb Bp Bn Bf w1.heap.size h dl m j))
     (fun _ _ vj _=>N - (intOf vj).toNat)
    case atStart=>exact⟨h,dl+X,0,rfl,by first | rfl | go_num,rfl,zero_le _,HW2⟩
    case round =>
     obtain⟨h',dl',j,rfl,rfl,rfl,hj,HV⟩:=hrel;have e1:=HV.out.dl_le (by rw[HN.out];exact hlen);have e2:=HV.out.h_le.1;rw[HN.out]at e2;by_cases hjn:j<N
     ·have hck:wr.cell? ⟨b,off+j,none⟩=some (.int .i32 (l[j]?.getD 0)):=(HV.out.be.cell (p:=⟨b,off+j,none⟩) hb).trans (hc' j hjn);have HLs:=hid (fun h=>HV.out.less (by rw[HN.out];exact hjn) h);have HMo:=hid (fun h=>HV.out.more (by rw[HN.out];exact hjn) h);have HPu:=hid (fun h=>HV.out.put (by rw[HN.out];exact hlen) (by rw[HN.out];exact hjn) h);obtain⟨c,hcc⟩:=Ex' (l[j]?.getD 0);rw[hcc]at hck HLs HMo HPu;clear hcc;rcases Int.lt_trichotomy c m with hcm | hcm | hcm
      ·go_wp2
       go_roundw
       case rel=>exact⟨h',dl'+1,j+1,rfl,by go_num,by go_num,by omega,HLs.out hcm⟩
       case measure=>simp[intOf];omega
      ·subst hcm;go_wp2_with(go_at_call 356;refine(HPu.out rfl).mono ?_;rintro e w' ⟨rfl,HW'⟩)
       go_roundw
       case rel=>exact⟨h'+1,0,j+1,by go_num,rfl,by go_num,by omega,HW'⟩
       case measure=>simp[intOf];omega
      ·go_wp2
       go_roundw
       case rel=>exact⟨h',dl',j+1,rfl,rfl,by go_num,by omega,HMo.out hcm⟩
       case measure=>simp[intOf];omega
     ·obtain rfl:j=N:=by omega
      go_wp2
      go_roundw
      case rel=>exact⟨h',dl'+1,m+1,rfl,by go_num,by go_num,Wr.pass (by rw[HN.out];exact HV.out) m1⟩
      case measure=>exact CX l n m HM.out
   ·obtain⟨v,k,T,hbx,⟨a,c,rfl⟩,hcv,HE⟩:=HW.out.fin (by rw[HN.out];omega) (fun x hx=>(hbd x hx).1);have cc:=hbx.cell;have HE':=hid HE;clear HE;go_wp2;go_ret;exact⟨T,rfl,HE'.out,HW.out.be⟩
theorem rk(a:Option Addr)(cap:Nat)(w:World):
  Calls prog 303 #[.slice a 0 cap] w fun e W'=>∃ T,e=.returned (.string T)/\Enc [] (bn T)/\Below w.heap.size w W':=by
 have HP:=hid (lN (.slice a 0 cap) [] (by simp) (by simp) w (.inl ⟨rfl,a,cap,rfl⟩));go_enter func303,ntmps303;go_wp2_with fail;refine HP.out.mono ?_;rintro e w1 ⟨v1,rfl,r1,B1⟩;obtain⟨a1,c1,rfl⟩:=cO r1;have bo:=Boxed.new w1 42 (.slice a1 0 c1);have R1:=hid (r1.alloc (.cells #[.slice a1 0 c1] 42));have s1:=B1.size;have e0:(plain []).length=0:=rfl;go_wp2_with(go_at_call 321;refine(mR w.heap.size w1.heap.size (.slice a1 0 c1) 0 0 [] _ bo R1.out s1 (by simp;omega)).mono ?_;rintro e w4 ⟨Bb,Bp,Bn,Bf,rfl,PN,B4⟩);refine wp_loop_rounds 1 ?_;rw[rounds_succ];obtain⟨T,hcv,hT⟩:=aV w4 w.heap.size (.slice a1 0 c1) 0 [] rfl (fun b hb=>by cases hb) PN.row;have HT:=hid hT;have cc:=PN.o.cell;clear hT;go_wp2;go_ret;exact⟨T,rfl,⟨[],by rw[HT.out];rfl,rfl⟩,(B1.alloc B1.size _).trans B4⟩
theorem fj(v:Value)(l:List Int)(hlen:l.length<=63)(hall:l.all ab=true)(w:World)(hv:av w v l):
  Calls prog 303 #[v] w fun e W'=>∃ T,e=.returned (.string T)/\Enc l (bn T)/\Below w.heap.size w W':=by
 rcases hv with⟨rfl,a,cap,rfl⟩ | ⟨hp,b,off,cap,rfl,hc⟩
 ·exact rk a cap w
 ·exact rj b off cap l hlen hall w hp hc
def Jj(l:List Int)(t:ByteArray)(e:Int):Prop :=
 (63<l.length/\t=⟨#[]⟩/\e=4)\/(l.length<=63/\l.all ab=false/\t=⟨#[]⟩/\e=2) \/
  (l.length<=63/\l.all ab=true/\∃ T,Enc l T/\((63<T.length/\t=⟨#[]⟩/\e=4)\/(T.length<=63/\bn t=T/\e=0)))
theorem Mj{w:World}{v:Value}{l:List Int}(h:av w v l):∃ a cap,v=.slice a l.length cap:=by
 rcases h with⟨rfl,a,cap,rfl⟩ | ⟨hp,b,off,cap,rfl,hc⟩
 ·exact⟨a,cap,rfl⟩
 ·exact⟨_,cap,rfl⟩
theorem bP(v:Value)(l:List Int)(hlen:l.length<=17179869184)(w:World)(hv:av w v l):
  Calls prog 281 #[v] w fun e W'=>(∃ t r,e=.returned (.tuple #[.string t,.int .i64 r])/\Jj l t r)/\Below w.heap.size w W':=by
 obtain⟨a,cap,rfl⟩:=Mj hv;have HU:=hid (gU _ l hlen w hv);have HV:=hid hv;have HW:=hid (fun(h1:l.length<=63) (h2:l.all ab=true) (w:World) (hv:av w (.slice a l.length cap) l)=>fj _ l h1 h2 w hv);clear hv;obtain⟨N,hN⟩:=Ex' l.length;have HN:=hid hN;rw[hN]at HU HV HW hlen ⊢;clear hN;go_enter func281,ntmps281;by_cases h1:63<N
 ·go_wp2;go_ret2;exact⟨⟨_,_,rfl,.inl ⟨by rw[HN.out];exact h1,rfl,rfl⟩⟩,Below.refl _ _⟩
 ·go_wp2_with fail;refine HU.out.mono ?_;rintro e w1 ⟨⟨t,r,rfl,hr⟩,B1⟩;rcases hr with⟨q1,rfl,q3⟩ | ⟨q1,rfl,q3⟩
  ·have HQ:=hid q1;have HQ3:=hid q3;clear q1 q3;have HI:=hid (HV.out.below B1 (le_refl _));go_wp2_with fail;refine(HW.out (by omega) HQ.out w1 HI.out).mono ?_;rintro e w2 ⟨T,rfl,HT,B2⟩;have HT':=hid HT;clear HT;have B12:=B1.trans (B2.mono B1.size);by_cases h2:63<T.size
   ·go_wp2;go_ret2;exact⟨⟨_,_,rfl,.inr (.inr ⟨by rw[HN.out];omega,HQ.out,_,HT'.out,.inl ⟨by rw[aa];exact h2,rfl,rfl⟩⟩)⟩,B12⟩
   ·go_wp2;go_ret2;exact⟨⟨_,_,rfl,.inr (.inr ⟨by rw[HN.out];omega,HQ.out,_,HT'.out,.inr ⟨by rw[aa];omega,rfl,rfl⟩⟩)⟩,B12⟩
  ·have HQ:=hid q1;clear q1;go_wp2;go_ret2;exact⟨⟨_,_,rfl,.inr (.inl ⟨by rw[HN.out];omega,HQ.out,rfl,rfl⟩)⟩,B1⟩
theorem hid'{p:Prop}(h:p):Hid p:=h
def asc(l:List Int):Bool:=l.all fun c=>decide (c<128)
theorem bz(s:ByteArray)(k:Nat)(h:k<s.size):(bn s)[k]?.getD 0=(s[k].toNat:Int):=by have:=fD s k h;rw[<-List.head?_drop,this];rfl
theorem fA(s:ByteArray)(k:Nat)(h:k<s.size):(bn s).take (k+1)=(bn s).take k++[(s[k].toNat:Int)]:=by rw[bX (bn s) k (by rw[aa];exact h),bz s k h]
theorem IT(s:ByteArray)(k:Nat)(h:k<s.size):asc ((bn s).take (k+1))=(asc ((bn s).take k)&&decide ((s[k].toNat:Int)<128)):=by rw[fA s k h,asc,List.all_append];simp[asc]
theorem CB(s:ByteArray)(k:Nat)(h:k<s.size)(hb:128<=(s[k].toNat:Int)):asc (bn s)=false:=by unfold asc;rw[List.all_eq_false];exact⟨(s[k].toNat:Int),by rw[<-take_append_drop (k+1) (bn s),fA s k h];simp,by simp;omega⟩
theorem lW(s:ByteArray)(hs:s.size<=1024)(w:World):
  Calls prog 311 #[.string s] w fun e w'=>e=.returned (.bool (asc (bn s)))/\w'=w:=by
 go_enter func311,ntmps311;go_wp2_with fail
 go_loop [6] (fun i=>∃ k:Nat,k<=s.size/\i=.int .i64 k/\Hid (asc ((bn s).take k)=true)) (fun i=>s.size - (intOf i).toNat)
 case atStart=>exact⟨0,zero_le _,rfl,rfl⟩
 case round =>
  obtain⟨k,hk,rfl,ha⟩:=hrel;by_cases hlt:k<s.size
  ·have HS:=hid' (IT s k hlt);by_cases hb:128<=(s[k].toNat:Int)
   ·have HF:=hid' (CB s k hlt hb);go_wp2;go_ret;rw[HF.out];exact⟨rfl,rfl⟩
   ·go_wp2;refine⟨⟨k+1,by omega,by go_num,?_⟩,by simp[intOf];omega⟩;show asc _=true;rw[HS.out,ha.out];simp;omega
  ·have hkk:k=s.size:=by omega
   have HA:Hid (asc (bn s)=true):=by have:=ha.out;rw[hkk,take_of_length_le (by rw[aa];exact le_refl _)]at this;exact this
   go_wp2;go_ret;rw[HA.out];exact⟨rfl,rfl⟩
def iP(l:List Int):Nat->Nat
 | 0=>0
 | k+1=>if l[k]?.getD 0=45 then k else iP l k
theorem zW(l:List Int):∀ k,iP l k<=k
 | 0=>le_refl _
 | k+1=>by have:=zW l k;rw[iP];split <;> omega
def cutAt(l:List Int):Nat:=iP l l.length
theorem sO(l:List Int):∀ k,iP l k≠0->l[iP l k]?.getD 0=45/\iP l k<k
 | 0,h=>absurd rfl h
 | k+1,h=>by
  rw[iP]at h ⊢;split
  ·rename_i hk;exact⟨hk,by omega⟩
  ·rename_i hk;rw[if_neg hk]at h;have:=sO l k h;exact⟨this.1,by omega⟩
theorem Gm(s:ByteArray)(hs:s.size<=1024)(w:World):
  Calls prog 276 #[.string s,.int .u8 45] w fun e w'=>∃ r:Int,e=.returned (.int .i64 r)/\-1<=r/\r<=1024/\r.toNat=cutAt (bn s)/\w'=w:=by
 go_enter func276,ntmps276;go_wp2_with fail
 go_loop [5] (fun vi=>∃ k:Nat,k<=s.size/\vi=.int .i64 ((k:Int) - 1)/\Hid (cutAt (bn s)=iP (bn s) k)) (fun vi=>((intOf vi)+1).toNat)
 case atStart=>exact⟨s.size,le_refl _,by first | rfl | go_num | (congr 1;omega),by show cutAt (bn s)=_;rw[cutAt,aa]⟩
 case round =>
  obtain⟨k,hk,rfl,hh⟩:=hrel;by_cases k0:k=0
  ·subst k0;go_wp2;go_ret;exact⟨_,rfl,by omega,by omega,by rw[hh.out];rfl,rfl⟩
  ·obtain⟨j,rfl⟩:∃ j,k=j+1:=⟨k - 1,by omega⟩;have hj:j<s.size:=by omega
   have HG:=hid' (bz s j hj);have e1:((j+1:Nat):Int) - 1=(j:Int):=by omega
   rw[e1];clear e1;by_cases hc:(s[j].toNat:Int)=45
   ·have HC:=hid' hc;go_wp2;go_ret;exact⟨_,rfl,by omega,by omega,by rw[hh.out,iP,if_pos (HG.out.trans HC.out)];try omega,rfl⟩
   ·have HC:=hid' hc;go_wp2;refine⟨⟨j,by omega,by first | rfl | go_num,?_⟩,by simp[intOf];try omega⟩;show _=_;rw[hh.out,iP,if_neg (by rw[HG.out];exact HC.out)]
theorem pL(s:ByteArray)(hs:s.size<=1024)(w:World):
  Calls prog 254 #[.string s,.int .u8 45] w fun e w'=>∃ r:Int,e=.returned (.int .i64 r)/\-1<=r/\r<=1024/\r.toNat=cutAt (bn s)/\w'=w:=by
 go_enter func254,ntmps254;go_wp2_with(go_at_call 276;refine(Gm s hs _).mono ?_;rintro e w' ⟨r,rfl,h1,h2,h3,rfl⟩);go_ret;exact⟨r,rfl,h1,h2,h3,rfl⟩
def eF(l:List Int):List Int:=l.take (cutAt l)
def aft(l:List Int):List Int:=if cutAt l=0 then l else l.drop (cutAt l+1)
theorem ar(s:ByteArray)(i j:Nat)(h:j<=s.size):bn (s.extract i j)=((bn s).drop i).take (j - i):=by
 unfold bn;have e:(s.extract i j).data.toList=(s.data.toList.drop i).take (j - i):=by rw[ByteArray.data_extract,Array.toList_extract];try simp[List.extract]
 rw[e,List.map_take,List.map_drop]
theorem xT(s:ByteArray)(hs:s.size<=1024)(w:World):
  Calls prog 312 #[.string s] w fun e w'=>∃ a b:ByteArray,e=.returned (.tuple #[.string a,.string b])/\bn a=eF (bn s)/\bn b=aft (bn s)/\a.size<=s.size/\b.size<=s.size/\Below w.heap.size w w':=by
 have hle:=zW (bn s) (bn s).length;rw[aa]at hle;have HW:=hid' (sO (bn s) (bn s).length);go_enter func312,ntmps312;go_wp2_with fail;refine(pL s hs _).mono ?_;rintro e w' ⟨r,rfl,h1,h2,h3,rfl⟩;have H3:=hid' h3;clear h3;by_cases hr:r<1
 ·go_wp2;go_ret2;have e0:cutAt (bn s)=0:=by rw[<-H3.out];omega
  exact⟨_,_,rfl,by rw[eF,e0];rfl,by rw[aft,if_pos e0],zero_le _,le_refl _,Below.refl _ _⟩
 ·have hne:cutAt (bn s)≠0:=by rw[<-H3.out];omega
  have hlt:r<(s.size:Int):=by have:=(HW.out hne).2;have h3:=H3.out;unfold cutAt at h3;rw[aa]at this h3;omega
  obtain⟨k,rfl⟩:∃ k:Nat,r=(k:Int):=⟨r.toNat,by omega⟩;have hk1:1<=k:=by omega
  have hks:k<s.size:=by omega
  have HN:=hid' hne;clear hne;have b1:(0:Int)<=(k:Int)+1:=by omega
  have b2:(k:Int)+1<=(s.size:Int):=by omega
  have b3:(k:Int)<=(s.size:Int):=by omega
  have b4:IntKind.i64.wrap ((k:Int)+1)=(k:Int)+1:=by simp[IntKind.wrap,IntKind.bits,IntKind.signed];omega
  go_wp2_with fail
  go_region
  all_goals (try go_wp2)
  all_goals go_ret2
  all_goals (
    have ek:cutAt (bn s)=k:=by have:=H3.out;omega
    refine⟨_,_,rfl,?_,?_,?_,?_,(Below.refl _ _).drew⟩
    · rw[ar s 0 k (by omega),eF,ek];simp
    · rw[ar s (k+1) s.size (le_refl _),aft,if_neg HN.out,ek,take_of_length_le (by rw[length_drop,aa];exact le_refl _)]
    · rw[size_extract];omega
    · rw[size_extract];omega)
theorem lI{P:Program}{ops:Array Oper}{o:Oper}{a:Act}{w:World}{K:Act->World->Prop}{Q:Exit->Act->World->Prop}{E:Prop}
  (hg:o.guard=none) (d s:Operand) (t:TypeId) (hop:o.op=Op.call { callee:=Callee.builtin Builtin.copy,args:=#[d,s],argTypes:=#[t,t] })
  (v u v':Value) (w':World) (hd:a.eval d=v) (hs:a.eval s=u) (hr:(Builtin.copy_ #[t,t] o.type #[v,u]).run P w=.ok v' w') (hK:K (a.put o.dst v') w') :
  if Region.wanted o (yielded ops a.tmps)=true then Oper.wp P o a w K Q else E:=by
 have hw:Region.wanted o (yielded ops a.tmps)=true:=by simp[Region.wanted,hg]
 rw[if_pos hw];unfold Oper.wp;simp[execOp,hop,resolve,invoke,builtin,hd,hs,hr,Result.andThen];exact hK
theorem sizeOf21(w:World):(Go.sizeOf 21).run prog w=.ok 1 w:=by first | exact Tryz.sizeOf21 w | kernel_rfl
theorem rG:(prog.info? 21).map (·.size)=some 1:=by obtain⟨i0,hi0,h0,h1,h2⟩:=info_parts Tryz.iH;rw[hi0];simp[h1]
theorem uR(g n c i vb:Nat)(cs:List Value)(x:Value)(f:Nat->Value)(w:World)(hi:i<n)(hroom:n+1<=c)(hc63:c<=9223372036854775807)(hvb:vb≠g)(hcl:cs.length=n)
  (ag:w.rowIs g 21 c f) (hcs:∀ j v,cs[j]? = some v->f j=v) (hx:Boxed w vb 21 x) (h1c:∀ v∈cs,v.oneCell'=true) (h1x:x.oneCell'=true) :
  Calls prog 353 #[.slice (some ⟨g,0,none⟩) n c,.int .i64 i,.slice (some ⟨vb,0,none⟩) 1 1] w fun e w' =>
   e=.returned (.slice (some ⟨g,0,none⟩) (n+1) c)/\w'=(w.drew.setCells g (i+1) (cs.drop i)).setCells g i [x]:=by
 have hz2:¬ ((i:Int)=(n:Int)):=by omega
 have hsp:∀ j,j<c->(w.cell? ⟨g,j,none⟩).isSome=true:=fun j hj=>by rw[ag.cell hj];rfl
 have hfz:∀ j,w.frozen? ⟨g,j,none⟩=false:=fun j=>by obtain⟨cur,hb,_⟩:=ag;simp[World.frozen?,hb]
 have hov:∀ lb cb,(callFunc 373 #[.slice (some ⟨vb,0,none⟩) 1 1,.slice (some ⟨g,i+1,none⟩) lb cb]).run prog w=.ok (.value (.bool false)) w:=fun lb cb=>by
  rw[run_callFunc_extern func373 (by kernel_rfl) (by kernel_rfl) (by kernel_rfl) (e:=Extern.SlicesOverlaps.overlaps #[43,43] #[4]) (by kernel_rfl)]
  rw[Lib.run_overlaps_apart w 43 4 21 underlying43 1 sizeOf21 ⟨vb,0,none⟩ ⟨g,i+1,none⟩ 1 1 lb cb hvb 21 21 1 c (by
      have h:=hx
      unfold Boxed at h
      simp[World.shape?,h]) (by
      obtain⟨cur,hb,hs,_⟩:=ag
      simp[World.shape?,hb,hs]) (by omega) hx.frozen (by
      have h:=hx
      unfold Boxed at h
      simp[World.frozen?,h])]
  rfl
 have hdl:(cs.drop i).length=n - i:=by rw[length_drop,hcl]
 have hw1:IntKind.i64.wrap ((i:Int)+1)=(i:Int)+1:=by rw[wrap_i64];omega
 have hb1:(0:Int)<=(i:Int)+1:=by omega
 have htn:((i:Int)+1).toNat=i+1:=by omega
 have hb2:¬ (c=i+1):=by omega
 have hb3:(i:Int)<=(n:Int)+1:=by omega
 have hb4:¬ (c=i):=by omega
 have hin:i<=n:=by omega
 have hcw:∀ j v,cs[j]? = some v->w.cell? ⟨g,j,none⟩=some v:=fun j v hj=>by have hjl:=(List.getElem?_eq_some_iff.1 hj).1;rw[ag.cell (by omega),hcs j v hj]
 have hcp1:∀ ty dc sc,(Builtin.copy_ #[43,43] ty #[.slice (some ⟨g,i+1,none⟩) (n - i) dc,.slice (some ⟨g,i,none⟩) (n+1 - i) sc]).run prog w.drew=.ok (goInt (cs.drop i).length) (w.drew.setCells g (i+1) (cs.drop i)):=fun ty dc sc =>
  run_copy_cells w.drew _ _ ty 21 g (i+1) (n - i) dc ⟨g,i,none⟩ (n+1 - i) sc (cs.drop i) underlying43 rG (by rw[hdl];simp only[min_def];split <;> omega)
   (fun j v hj=>by rw[Addr.add_lit];exact hcw (i+j) v (by rwa [getElem?_drop]at hj))
   (fun j hj=>hsp _ (by omega)) (fun j hj=>hfz _) (fun v hv=>h1c v (mem_of_mem_drop hv))
 obtain⟨W1,hW1⟩:∃ W1,W1=w.drew.setCells g (i+1) (cs.drop i):=⟨_,rfl⟩
 have hcp2:∀ ty dc,(Builtin.copy_ #[43,43] ty #[.slice (some ⟨g,i,none⟩) (n+1 - i) dc,.slice (some ⟨vb,0,none⟩) 1 1]).run prog W1=.ok (goInt 1) (W1.setCells g i [x]):=fun ty dc =>
  run_copy_cells W1 _ _ ty 21 g i (n+1 - i) dc ⟨vb,0,none⟩ 1 1 [x] underlying43 rG (by show 1=_;simp only[min_def];split <;> omega)
   (fun j v hj=>by
     have hjl:=(List.getElem?_eq_some_iff.1 hj).1
     obtain rfl:j=0:=by simp at hjl;exact hjl
     rw[Addr.add_lit,hW1,World.cell?_setCells_out g _ _ _ _ (fun h _=>absurd h hvb)]
     have:x=v:=by simpa using hj
     rw[<-this];exact hx.cell)
   (fun j hj=>by rw[hW1];exact World.isSome_setCells _ _ _ _ _ (hsp _ (by simp at hj;omega))) (fun j hj=>by rw[hW1,World.frozen?_setCells];exact hfz _) (by simpa using h1x)
 rw[<-hW1]at hcp1 ⊢;have HW:=hid' hW1;clear hW1 hsp hfz hcw hcs h1c hdl;go_enter func353,ntmps353;go_wp2_with(simp only[hov])
 go_region_law (refine lI rfl _ _ 43 rfl _ _ _ _ (by simp[Act.eval,Act.put]) (by simp[Act.eval,Act.put]) (hcp1 _ _ _) ?_)
 go_wp2_with(at_builtin;refine wpList_copied rfl _ _ 43 rfl _ _ _ _ rfl rfl (hcp2 _ _) ?_);go_ret;exact⟨rfl,rfl⟩
theorem uS(g n c i vb:Nat)(cs:List Value)(x:Value)(f:Nat->Value)(w:World)(hi:i<n)(hnc:n<=c)(hroom:c<n+1)(hbig:n<=1000000)(hcl:cs.length=n)
  (ag:w.rowIs g 21 c f) (hcs:∀ j v,cs[j]? = some v->f j=v) (hx:Boxed w vb 21 x) (h1c:∀ v∈cs,v.oneCell'=true) (h1x:x.oneCell'=true) :
  Calls prog 353 #[.slice (some ⟨g,0,none⟩) n c,.int .i64 i,.slice (some ⟨vb,0,none⟩) 1 1] w fun e w'=>∃(G:Nat) (ROW:Array Value),n+1<=G/\G<=9223372036854775807/\ROW.size=G/\ROW.toList.take i=cs.take i /\
   e=.returned (.slice (some ⟨w.heap.size,0,none⟩) (n+1) G)/\w'=(((w.alloc (.cells ROW 21)).drew.setCells w.heap.size i [x]).drew).setCells w.heap.size (i+1) (cs.drop i):=by
 obtain⟨i0,hi0,hz0,hzs,hzb⟩:=info_parts Tryz.iH;have hz2:¬ ((i:Int)=(n:Int)):=by omega
 have hz3:(c:Int)<(n:Int)+1:=by omega
 have hcw:∀ j v,cs[j]? = some v->w.cell? ⟨g,j,none⟩=some v:=fun j v hj=>by have hjl:=(List.getElem?_eq_some_iff.1 hj).1;rw[ag.cell (by omega),hcs j v hj]
 have hbw:g<w.heap.size:=ag.lt;have hvw:vb<w.heap.size:=hx.lt;have hkk:(n:Int)+1 - (i:Int)=((n+1 - i:Nat):Int):=by omega
 have hik:i+(n+1 - i)=n+1:=by omega
 have hold:(Builtin.firstCells i0.size i (.slice (some ⟨g,0,none⟩) i c)).run prog w.drew=.ok (cs.take i).toArray w.drew:=by
  rw[hzs]
  exact run_firstCells_some w.drew 1 i ⟨g,0,none⟩ i c (cs.take i) (by rw[length_take];omega) (fun j v hj=>by
    rw[Addr.add_lit,zero_add]
    rw[List.getElem?_take]at hj
    split at hj
    · exact hcw j v hj
    · cases hj)
 have hrz:∀ ty,(Builtin.append_ #[43,3] ty #[.slice (some ⟨g,0,none⟩) i c,.int .i64 ((n:Int)+1 - (i:Int))]).run prog w =
   .ok (.slice (some ⟨w.heap.size,0,none⟩) (n+1) (grownCap w (n+1) c 21)) (w.drew.alloc (.cells ((cs.take i).toArray++Builtin.zeroCells (Value.int .i32 0).cells (n+1 - i)++Builtin.zeroCells (Value.int .i32 0).cells (grownCap w (n+1) c 21 - (n+1))) 21)):=fun ty=>by
  have h:=Lib.run_append_grow_zeros w 43 3 ty 21 i0 _ .i64 .i64 underlying43 underlying3 hi0 hz0 (some ⟨g,0,none⟩) i c (cs.take i) hold (n+1 - i) (by omega) (by omega) (by omega) (by omega) (by rw[hzb];omega) (by rw[hzb,hik];exact growslice_fits hroom (by omega));rw[hik]at h;rw[hkk];exact h
 obtain⟨G,hG⟩:∃ G,G=grownCap w (n+1) c 21:=⟨_,rfl⟩;have hGn:n+1<=G:=by rw[hG];exact grownCap_ge w _ _ _
 have hG63:G<=9223372036854775807:=by have:=grownCap_le_maxLen w (n+1) c 21 (by unfold maxLen;omega);rw[<-hG]at this;unfold maxLen at this;omega
 obtain⟨ROW,hROW⟩:∃ ROW:Array Value,ROW=(cs.take i).toArray++Builtin.zeroCells (Value.int .i32 0).cells (n+1 - i)++Builtin.zeroCells (Value.int .i32 0).cells (G - (n+1)):=⟨_,rfl⟩;rw[<-hG]at hrz;rw[<-hROW]at hrz;have hRs:ROW.size=G:=by rw[hROW];simp[Builtin.zeroCells,Value.cells];omega
 have hRt:ROW.toList.take i=cs.take i:=by rw[hROW,Array.append_assoc,Array.toList_append,List.toList_toArray,List.take_append_of_le_length (by rw[length_take];omega),List.take_take,Nat.min_self]
 obtain⟨W1,hW1⟩:∃ W1,W1=w.drew.alloc (.cells ROW 21):=⟨_,rfl⟩;rw[<-hW1]at hrz;have hN:∀ j,j<n+1->(W1.cell? ⟨w.heap.size,j,none⟩).isSome=true:=fun j hj=>by rw[hW1,World.cell?_alloc_at (w:=w.drew) ROW _ w.heap.size j rfl,Array.getElem?_eq_getElem (by omega)];rfl
 have hNf:∀ j,W1.frozen? ⟨w.heap.size,j,none⟩=false:=fun j=>by rw[hW1];exact World.frozen?_alloc_at (w:=w.drew) ROW _ w.heap.size j rfl
 have hOb:∀ j v,w.cell? ⟨g,j,none⟩=some v->W1.cell? ⟨g,j,none⟩=some v:=fun j v h=>by rw[hW1,World.cell?_alloc_past (w:=w.drew) _ g j hbw];exact h
 have hOv:W1.cell? ⟨vb,0,none⟩=some x:=by rw[hW1,World.cell?_alloc_past (w:=w.drew) _ vb 0 hvw];exact hx.cell
 have hcpA:∀ ty dc,(Builtin.copy_ #[43,43] ty #[.slice (some ⟨w.heap.size,i,none⟩) (n+1 - i) dc,.slice (some ⟨vb,0,none⟩) 1 1]).run prog W1=.ok (goInt 1) (W1.setCells w.heap.size i [x]):=fun ty dc =>
  run_copy_cells W1 _ _ ty 21 w.heap.size i (n+1 - i) dc ⟨vb,0,none⟩ 1 1 [x] underlying43 rG (by show 1=_;simp only[min_def];split <;> omega)
   (fun j v hj=>by
     have hjl:=(List.getElem?_eq_some_iff.1 hj).1
     obtain rfl:j=0:=by simp at hjl;exact hjl
     have:x=v:=by simpa using hj
     rw[Addr.add_lit,<-this];exact hOv)
   (fun j hj=>hN _ (by simp at hj;omega)) (fun j hj=>hNf _) (by simpa using h1x)
 have hbN:g≠w.heap.size:=by omega
 have hdl:(cs.drop i).length=n - i:=by rw[length_drop,hcl]
 obtain⟨W2,hW2⟩:∃ W2,W2=(W1.setCells w.heap.size i [x]).drew:=⟨_,rfl⟩
 have hcpB:∀ ty dc sc,(Builtin.copy_ #[43,43] ty #[.slice (some ⟨w.heap.size,i+1,none⟩) (n - i) dc,.slice (some ⟨g,i,none⟩) (n - i) sc]).run prog W2=.ok (goInt (cs.drop i).length) (W2.setCells w.heap.size (i+1) (cs.drop i)):=fun ty dc sc =>
  run_copy_cells W2 _ _ ty 21 w.heap.size (i+1) (n - i) dc ⟨g,i,none⟩ (n - i) sc (cs.drop i) underlying43 rG (by rw[hdl];simp only[min_def];split <;> omega)
   (fun j v hj=>by
     rw[Addr.add_lit,hW2]
     show(W1.setCells w.heap.size i [x]).cell? _=_
     rw[World.cell?_setCells_out _ _ _ _ _ (fun h _=>absurd h hbN)]
     exact hOb _ v (hcw (i+j) v (by rwa [getElem?_drop]at hj)))
   (fun j hj=>by
     rw[hW2]
     show((W1.setCells w.heap.size i [x]).cell? _).isSome=true
     exact World.isSome_setCells _ _ _ _ _ (hN _ (by omega)))
   (fun j hj=>by
     rw[hW2]
     show(W1.setCells w.heap.size i [x]).frozen? _=false
     rw[World.frozen?_setCells];exact hNf _) (fun v hv=>h1c v (mem_of_mem_drop hv))
 have hGi:¬ (G=i):=by omega
 have hGim:¬ (G=i+1):=by omega
 have hci:¬ (c=i):=by omega
 have hw1:IntKind.i64.wrap ((i:Int)+1)=(i:Int)+1:=by rw[wrap_i64];omega
 have hb1:(0:Int)<=(i:Int)+1:=by omega
 have hin:i<=n:=by omega
 have htn:((i:Int)+1).toNat=i+1:=by omega
 have hb3:(i:Int)<=(n:Int):=by omega
 have HW2:=hid' hW2;have HW1:=hid' hW1;have HR:=hid' hRt;have HRs:=hid' hRs;clear hkk hik hold hROW hG hRs hRt hW1 hW2 hcw hN hNf hOb hOv hcs h1c hdl;go_enter func353,ntmps353
 go_wp2_with(first
   | (at_builtin;refine Lib.wpList_append_run _ rfl _ _ _ _ rfl _ _ rfl rfl _ _ (hrz _) ?_)
   | (at_builtin;refine wpList_copied rfl _ _ 43 rfl _ _ _ _ rfl rfl (hcpA _ _) ?_))
 rw[HW2.out]at hcpB
 go_region_law (refine lI rfl _ _ 43 rfl (.slice (some ⟨w.heap.size,i+1,none⟩) (n - i) (G - (i+1))) (.slice (some ⟨g,i,none⟩) (n - i) (c - i)) _ _ (by simp[Act.eval,Act.put]) (by simp[Act.eval,Act.put]) (hcpB _ _ _) ?_)
 go_wp2;go_ret;exact⟨G,ROW,hGn,hG63,HRs.out,HR.out,rfl,by rw[HW1.out];rfl⟩
end P
end Go.Proofs.YtlmflmdmolcfhaaGreatDoor
