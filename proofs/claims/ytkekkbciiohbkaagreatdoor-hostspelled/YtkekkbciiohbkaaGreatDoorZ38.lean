/- Texts one behind the other: VK. -/
import Derived.Test.YtkekkbciiohbkaaGreatDoorZ4
import Derived.Test.YtkekkbciiohbkaaGreatDoorZ5
import Derived.Test.YtkekkbciiohbkaaGreatDoorZ28
import Derived.Test.YtkekkbciiohbkaaGreatDoorZ30
import Derived.Test.YtkekkbciiohbkaaGreatDoorZ32
import Derived.Test.YtkekkbciiohbkaaGreatDoorZ37
set_option maxRecDepth 100000
set_option maxHeartbeats 16000000
set_option linter.unusedVariables false
set_option linter.unnecessarySimpa false
namespace Go.Proofs.YtkekkbciiohbkaaGreatDoor.H
open Go.RowKit
open Go.Proofs.YtkekkbciiohbkaaGreatDoor.F (bn aa av aq ar hid aj ab ah aR aK)
def cA(h:Hst)(e:Ending):Prop:=∃ n:ByteArray,bn n=h.2.1∧e=.returned (.tuple #[hvl h.1 n h.2.2.1 h.2.2.2.1,.int .i64 h.2.2.2.2])
abbrev hcs(k:Int)(n:ByteArray)(f:Int)(a0 a1 a2 a3 a4 a5 a6 a7:Int):Array Value:=#[.int .u8 k,.string n,.int .u32 f,.int .u16 a0,.int .u16 a1,.int .u16 a2,.int .u16 a3,.int .u16 a4,.int .u16 a5,.int .u16 a6,.int .u16 a7]
theorem aZ(k:Int)(n:ByteArray)(f a0 a1 a2 a3 a4 a5 a6 a7:Int):(Tryz.prog.info? 26).map (·.size)=some (hcs k n f a0 a1 a2 a3 a4 a5 a6 a7).size:=by kernel_rfl
theorem eD(k:Int)(n:ByteArray)(f a0 a1 a2 a3 a4 a5 a6 a7:Int):(hcs k n f a0 a1 a2 a3 a4 a5 a6 a7).all (·.oneCell')=true:=by
 simp[hcs,Value.oneCell']
theorem aI{fn:Func}{p u:Tmp}{ty:TypeId}(h:fn.results=#[.cell p ty,.tmp u])(tmps:Array Value)(w:World)(g:Nat)(t:TypeId)(cs:Array Value)(fr:Nat×Nat)(fs:Array Field)
  (hp:tmps.getD p undef=.pointer (some ⟨g,0,none⟩)) (hg:w.heap[g]? = some (.cells cs t fr))
  (hu:Tryz.prog.underlying ty=some (.struct fs)) (hi:(Tryz.prog.info? ty).map (·.size)=some cs.size) :
  (results fn tmps).run Tryz.prog w=.ok (.tuple #[.agg cs,tmps.getD u undef]) w:=by
 rw[results_cell_tmp h];have hp':tmps[p]?.getD undef=.pointer (some ⟨g,0,none⟩):=by simpa using hp
 simp[hp',asAddr,run_loadVar_row w g t ty cs fr (.struct fs) hg hu rfl hi]
theorem dP(e:Int):cA (non e) (.returned (.tuple #[hv 0 ⟨#[]⟩ 0 0 0 0 0 0 0 0 0,.int .i64 e])):=⟨⟨#[]⟩,rfl,rfl⟩
theorem fj(w:World):Below w.heap.size w (w.alloc (.cells (hcs 0 ⟨#[]⟩ 0 0 0 0 0 0 0 0 0) 26))∧(w.alloc (.cells (hcs 0 ⟨#[]⟩ 0 0 0 0 0 0 0 0 0) 26)).heap[w.heap.size]? = some (.cells (hcs 0 ⟨#[]⟩ 0 0 0 0 0 0 0 0 0) 26 (0,0))∧(w.alloc (.cells (hcs 0 ⟨#[]⟩ 0 0 0 0 0 0 0 0 0) 26)).heap.size=w.heap.size+1 :=
 ⟨(Below.refl _ w).alloc (Nat.le_refl _) _,X.bY w _ _,by simp⟩
theorem vQ(s:ByteArray)(hs:s.size≤400000000)(w:World)(hM:F.Max w):Calls Tryz.prog 75 #[.string s] w fun e W'=>cA (if (F.prs (bn s)).2=0 then (2,[],(F.prs (bn s)).1,z8,0) else non 70) e∧Below w.heap.size w W':=by
 obtain⟨nb,na,nz⟩:=fj w;have HB0:=hid nb;have HA0:=hid na;have HZ0:=hid nz;clear nb na nz;have HP:=hid (fun W h=>F.j5 s W hs h);have HM:=hid (hM.below HB0.out);clear hM;unfold F.ib at HP
 obtain⟨⟨a,er⟩,hp⟩:∃ p,F.prs (bn s)=p:=⟨_,rfl⟩;rw[hp]at HP ⊢;simp only at HP ⊢
 obtain⟨H,hH⟩:∃ H:Hst,(if er=0 then (2,[],a,z8,0) else non 70)=H:=⟨_,rfl⟩;have HH:=hid hH;rw[hH];clear hp hH;go_enter Tryz.func75,Tryz.ntmps75
 go_wp2_with fail;obtain⟨w1,hw1⟩:∃ w1,w.alloc (.cells (hcs 0 ⟨#[]⟩ 0 0 0 0 0 0 0 0 0) 26)=w1:=⟨_,rfl⟩;unfold hcs at hw1 HB0 HA0 HZ0 HM
 rw[hw1]at HB0 HA0 HZ0 HM ⊢;clear hw1;refine(HP.out w1 HM.out).mono ?_;rintro e w2 ⟨rfl,B⟩
 have HB2:=hid (HB0.out.trans (B.mono HB0.out.size));have HA2:Hid (w2.heap[w.heap.size]? = some (.cells (hcs 0 ⟨#[]⟩ 0 0 0 0 0 0 0 0 0) 26 (0,0))):=(B.block _ (Array.getElem?_eq_some_iff.1 HA0.out).1).trans HA0.out;clear B HB0 HA0;by_cases he:er=0
 ·have HR:Hid (cA H (.returned (.tuple #[hv 2 ⟨#[]⟩ (a:Nat) 0 0 0 0 0 0 0 0,.int .i64 0]))):=by
   show cA _ _
   rw[←HH.out,if_pos he];exact⟨⟨#[]⟩,rfl,rfl⟩
  have hen:(er != 0)=false:=by rw[he];rfl
  clear he
  go_wp2_with(refine wpList_store_row rfl 26 (.tmp 2) (.tmp 15) rfl w.heap.size (hcs 2 ⟨#[]⟩ (a:Nat) 0 0 0 0 0 0 0 0) rfl rfl 26 (hcs 0 ⟨#[]⟩ 0 0 0 0 0 0 0 0 0) HA2.out (aZ 2 ⟨#[]⟩ (a:Nat) 0 0 0 0 0 0 0 0) rfl (eD 2 ⟨#[]⟩ (a:Nat) 0 0 0 0 0 0 0 0) ?_)
  exact bodyPost_ret (aI Tryz.results75 _ _ w.heap.size 26 (hcs 2 ⟨#[]⟩ (a:Nat) 0 0 0 0 0 0 0 0) (0,0) _ rfl (X.aN HA2.out) Tryz.underlying26 (aZ 2 ⟨#[]⟩ (a:Nat) 0 0 0 0 0 0 0 0)) rfl ⟨HR.out,X.aw HB2.out (Nat.le_refl _) _⟩
 ·have HR:Hid (cA H (.returned (.tuple #[hv 0 ⟨#[]⟩ 0 0 0 0 0 0 0 0 0,.int .i64 70]))):=by
   show cA _ _
   rw[←HH.out,if_neg he];exact dP 70
  have hen:(er != 0)=true:=by simpa using he
  clear he
  go_wp2_with(refine wpList_store_row rfl 26 (.tmp 2) (.tmp 13) rfl w.heap.size (hcs 0 ⟨#[]⟩ 0 0 0 0 0 0 0 0 0) rfl rfl 26 (hcs 0 ⟨#[]⟩ 0 0 0 0 0 0 0 0 0) HA2.out (aZ 0 ⟨#[]⟩ 0 0 0 0 0 0 0 0 0) rfl (eD 0 ⟨#[]⟩ 0 0 0 0 0 0 0 0 0) ?_)
  exact bodyPost_ret (aI Tryz.results75 _ _ w.heap.size 26 (hcs 0 ⟨#[]⟩ 0 0 0 0 0 0 0 0 0) (0,0) _ rfl (X.aN HA2.out) Tryz.underlying26 (aZ 0 ⟨#[]⟩ 0 0 0 0 0 0 0 0 0)) rfl ⟨HR.out,X.aw HB2.out (Nat.le_refl _) _⟩
theorem vY(s:ByteArray)(hs:s.size≤400000000)(hl:∀ c∈bn s,0≤c∧c<128)(w:World)(hM:F.Max w):Calls Tryz.prog 44 #[.string s] w fun e W'=>cA (dom (bn s) 0) e∧Below w.heap.size w W':=by
 obtain⟨nb,na,nz⟩:=fj w;have HB0:=hid nb;have HA0:=hid na;have HZ0:=hid nz;clear nb na nz;have HCF:=hid (fun W=>dq s hs hl W);have HEN:=hid (fun W=>F.Ah s W hs);have HPF:=hid (fun W h=>vQ s hs W h);have HM:=hid (hM.below HB0.out);clear hM hl;by_cases h0:s.size=0
 ·have hnil:bn s=[]:=List.length_eq_zero_iff.1 (by rw[aa];exact h0)
  have HR:Hid (cA (dom (bn s) 0) (.returned (.tuple #[hv 0 ⟨#[]⟩ 0 0 0 0 0 0 0 0 0,.int .i64 70]))):=by
   show cA _ _
   rw[hnil];exact dP 70
  have hem:=ah s h0;clear hnil h0 HCF HEN HPF HM;go_enter Tryz.func44,Tryz.ntmps44
  go_wp2_with(refine wpList_store_row rfl 26 (.tmp 2) (.tmp 11) rfl w.heap.size (hcs 0 ⟨#[]⟩ 0 0 0 0 0 0 0 0 0) rfl rfl 26 (hcs 0 ⟨#[]⟩ 0 0 0 0 0 0 0 0 0) HA0.out (aZ 0 ⟨#[]⟩ 0 0 0 0 0 0 0 0 0) rfl (eD 0 ⟨#[]⟩ 0 0 0 0 0 0 0 0 0) ?_)
  exact bodyPost_ret (aI Tryz.results44 _ _ w.heap.size 26 (hcs 0 ⟨#[]⟩ 0 0 0 0 0 0 0 0 0) (0,0) _ rfl (X.aN HA0.out) Tryz.underlying26 (aZ 0 ⟨#[]⟩ 0 0 0 0 0 0 0 0 0)) rfl ⟨HR.out,X.aw HB0.out (Nat.le_refl _) _⟩
 ·have hem:=ab s (by omega)
  have hne:bn s≠[]:=fun e=>h0 (by rw[←aa,e];rfl)
  have HD:dom (bn s) 0=if (bn s).any fd=true then non 70 else if F.ends (bn s)=true then (if (F.prs (bn s)).2=0 then (2,[],(F.prs (bn s)).1,z8,0) else non 70) else (1,bn s,0,z8,0):=by
   unfold dom;by_cases h:(bn s).any fd=true
   ·rw[if_pos (.inr (.inr h)),if_pos h]
   ·rw[if_neg (fun h1=>h1.elim (fun q=>q rfl) (fun q=>q.elim hne h)),if_neg h]
  have HN1:Hid (cA (1,bn s,0,z8,0) (.returned (.tuple #[hv 1 s 0 0 0 0 0 0 0 0 0,.int .i64 0]))):=⟨s,rfl,rfl⟩;rw[HD];clear HD hne h0;obtain⟨L,hL⟩:∃ L,bn s=L:=⟨_,rfl⟩;rw[hL]at HCF HEN HPF HN1 ⊢;clear hL;obtain⟨b1,e1⟩:∃ b,L.any fd=b:=⟨_,rfl⟩;rw[e1]at HCF ⊢;obtain⟨b2,e2⟩:∃ b,F.ends L=b:=⟨_,rfl⟩;rw[e2]at HEN ⊢;obtain⟨H,hH⟩:∃ H:Hst,(if b1=true then non 70 else if b2=true then (if (F.prs L).2=0 then (2,[],(F.prs L).1,z8,0) else non 70) else (1,L,0,z8,0))=H:=⟨_,rfl⟩;have HH:=hid hH;rw[hH];clear e1 e2 hH;go_enter Tryz.func44,Tryz.ntmps44
  go_wp2_with fail;obtain⟨w1,hw1⟩:∃ w1,w.alloc (.cells (hcs 0 ⟨#[]⟩ 0 0 0 0 0 0 0 0 0) 26)=w1:=⟨_,rfl⟩;unfold hcs at hw1 HB0 HA0 HZ0 HM
  rw[hw1]at HB0 HA0 HZ0 HM ⊢;clear hw1;refine(HCF.out w1).mono ?_;rintro e w2 ⟨rfl,B⟩
  replace HM:=hid (HM.out.below B)
  have HB2:=hid (HB0.out.trans (B.mono HB0.out.size));have HA2:Hid (w2.heap[w.heap.size]? = some (.cells (hcs 0 ⟨#[]⟩ 0 0 0 0 0 0 0 0 0) 26 (0,0))):=(B.block _ (Array.getElem?_eq_some_iff.1 HA0.out).1).trans HA0.out;clear B HB0 HA0;cases b1 with
  | true =>
   have HR:Hid (cA H (.returned (.tuple #[hv 0 ⟨#[]⟩ 0 0 0 0 0 0 0 0 0,.int .i64 70]))):=by
    show cA _ _
    rw[←HH.out,if_pos rfl];exact dP 70
   go_wp2_with(refine wpList_store_row rfl 26 (.tmp 2) (.tmp 11) rfl w.heap.size (hcs 0 ⟨#[]⟩ 0 0 0 0 0 0 0 0 0) rfl rfl 26 (hcs 0 ⟨#[]⟩ 0 0 0 0 0 0 0 0 0) HA2.out (aZ 0 ⟨#[]⟩ 0 0 0 0 0 0 0 0 0) rfl (eD 0 ⟨#[]⟩ 0 0 0 0 0 0 0 0 0) ?_)
   exact bodyPost_ret (aI Tryz.results44 _ _ w.heap.size 26 (hcs 0 ⟨#[]⟩ 0 0 0 0 0 0 0 0 0) (0,0) _ rfl (X.aN HA2.out) Tryz.underlying26 (aZ 0 ⟨#[]⟩ 0 0 0 0 0 0 0 0 0)) rfl ⟨HR.out,X.aw HB2.out (Nat.le_refl _) _⟩
  | false =>
   go_wp2_with fail;refine(HEN.out w2).mono ?_;rintro e w3 ⟨rfl,B⟩
   replace HM:=hid (HM.out.below B)
   have HB3:=hid (HB2.out.trans (B.mono HB2.out.size));have HA3:Hid (w3.heap[w.heap.size]? = some (.cells (hcs 0 ⟨#[]⟩ 0 0 0 0 0 0 0 0 0) 26 (0,0))):=(B.block _ (Array.getElem?_eq_some_iff.1 HA2.out).1).trans HA2.out;clear B HB2 HA2 HCF HEN;cases b2 with
   | false =>
    have HR:Hid (cA H (.returned (.tuple #[hv 1 s 0 0 0 0 0 0 0 0 0,.int .i64 0]))):=by
     show cA _ _
     rw[←HH.out,if_neg Bool.false_ne_true,if_neg Bool.false_ne_true];exact HN1.out
    go_wp2_with(refine wpList_store_row rfl 26 (.tmp 2) (.tmp 20) rfl w.heap.size (hcs 1 s 0 0 0 0 0 0 0 0 0) rfl rfl 26 (hcs 0 ⟨#[]⟩ 0 0 0 0 0 0 0 0 0) HA3.out (aZ 1 s 0 0 0 0 0 0 0 0 0) rfl (eD 1 s 0 0 0 0 0 0 0 0 0) ?_)
    exact bodyPost_ret (aI Tryz.results44 _ _ w.heap.size 26 (hcs 1 s 0 0 0 0 0 0 0 0 0) (0,0) _ rfl (X.aN HA3.out) Tryz.underlying26 (aZ 1 s 0 0 0 0 0 0 0 0 0)) rfl ⟨HR.out,X.aw HB3.out (Nat.le_refl _) _⟩
   | true =>
    have hH:=HH.out;rw[if_neg Bool.false_ne_true,if_pos rfl]at hH;rw[hH]at HPF;clear HN1 hH HH
    go_wp2_with fail;refine(HPF.out w3 HM.out).mono ?_;rintro e w4 ⟨⟨n,hn,rfl⟩,B⟩
    have HR:Hid (cA H (.returned (.tuple #[hvl H.1 n H.2.2.1 H.2.2.2.1,.int .i64 H.2.2.2.2]))):=⟨n,hn,rfl⟩;clear hn;obtain⟨k,nm,f,a,er⟩:=H;obtain⟨a0,a1,a2,a3,a4,a5,a6,a7,ha⟩:∃ a0 a1 a2 a3 a4 a5 a6 a7:Int,hvl k n f a=hv (k:Nat) n (f:Nat) a0 a1 a2 a3 a4 a5 a6 a7:=⟨_,_,_,_,_,_,_,_,rfl⟩;simp only at HR ⊢
    rw[ha]at HR ⊢;clear ha;have HB4:=hid (HB3.out.trans (B.mono HB3.out.size));have HA4:Hid (w4.heap[w.heap.size]? = some (.cells (hcs 0 ⟨#[]⟩ 0 0 0 0 0 0 0 0 0) 26 (0,0))):=(B.block _ (Array.getElem?_eq_some_iff.1 HA3.out).1).trans HA3.out;clear B HB3 HA3 HPF HM
    go_wp2_with(refine wpList_store_row rfl 26 (.tmp 2) (.tmp 17) rfl w.heap.size (hcs (k:Nat) n (f:Nat) a0 a1 a2 a3 a4 a5 a6 a7) rfl rfl 26 (hcs 0 ⟨#[]⟩ 0 0 0 0 0 0 0 0 0) HA4.out (aZ (k:Nat) n (f:Nat) a0 a1 a2 a3 a4 a5 a6 a7) rfl (eD (k:Nat) n (f:Nat) a0 a1 a2 a3 a4 a5 a6 a7) ?_)
    exact bodyPost_ret (aI Tryz.results44 _ _ w.heap.size 26 (hcs (k:Nat) n (f:Nat) a0 a1 a2 a3 a4 a5 a6 a7) (0,0) _ rfl (X.aN HA4.out) Tryz.underlying26 (aZ (k:Nat) n (f:Nat) a0 a1 a2 a3 a4 a5 a6 a7)) rfl ⟨HR.out,X.aw HB4.out (Nat.le_refl _) _⟩
theorem yK(s:ByteArray)(hs:s.size≤4096)(w:World):Calls Tryz.prog 22 #[.string s] w fun e W'=>cA (opq (bn s)) e∧Below w.heap.size w W':=by
 obtain⟨nb,na,nz⟩:=fj w;have HB0:=hid nb;have HA0:=hid na;have HZ0:=hid nz;clear nb na nz;have HCA:=hid (fun W=>kK s (by omega) W);have HEN:=hid (fun W=>E.gE s 0 W (by omega) (by decide))
 have HO:Hid (opq (bn s)=if (bn s).any fb=true then non 70 else if s.size=0 then non 0 else (4,E.en 0 (U.dec (bn s)),0,z8,0)):=by
  show opq (bn s)=_
  unfold opq;by_cases h:(bn s).any fb=true
  ·rw[if_pos h,if_pos h]
  ·rw[if_neg h,if_neg h]
   by_cases h0:s.size=0
   ·rw[if_pos h0,if_pos (List.length_eq_zero_iff.1 (by rw[aa];exact h0))]
   ·rw[if_neg h0,if_neg (fun e=>h0 (by rw[←aa,e];rfl))]
 rw[HO.out];clear HO;obtain⟨b1,e1⟩:∃ b,(bn s).any fb=b:=⟨_,rfl⟩;rw[e1]at HCA ⊢;obtain⟨H,hH⟩:∃ H:Hst,(if b1=true then non 70 else if s.size=0 then non 0 else (4,E.en 0 (U.dec (bn s)),0,z8,0))=H:=⟨_,rfl⟩;have HH:=hid hH;rw[hH];clear e1 hH;go_enter Tryz.func22,Tryz.ntmps22
 go_wp2_with fail;obtain⟨w1,hw1⟩:∃ w1,w.alloc (.cells (hcs 0 ⟨#[]⟩ 0 0 0 0 0 0 0 0 0) 26)=w1:=⟨_,rfl⟩;unfold hcs at hw1 HB0 HA0 HZ0
 rw[hw1]at HB0 HA0 HZ0 ⊢;clear hw1;refine(HCA.out w1).mono ?_;rintro e w2 ⟨rfl,B⟩
 have HB2:=hid (HB0.out.trans (B.mono HB0.out.size));have HA2:Hid (w2.heap[w.heap.size]? = some (.cells (hcs 0 ⟨#[]⟩ 0 0 0 0 0 0 0 0 0) 26 (0,0))):=(B.block _ (Array.getElem?_eq_some_iff.1 HA0.out).1).trans HA0.out;clear B HB0 HA0 HCA;cases b1 with
 | true =>
  have HR:Hid (cA H (.returned (.tuple #[hv 0 ⟨#[]⟩ 0 0 0 0 0 0 0 0 0,.int .i64 70]))):=by
   show cA _ _
   rw[←HH.out,if_pos rfl];exact dP 70
  go_wp2_with(refine wpList_store_row rfl 26 (.tmp 2) (.tmp 7) rfl w.heap.size (hcs 0 ⟨#[]⟩ 0 0 0 0 0 0 0 0 0) rfl rfl 26 (hcs 0 ⟨#[]⟩ 0 0 0 0 0 0 0 0 0) HA2.out (aZ 0 ⟨#[]⟩ 0 0 0 0 0 0 0 0 0) rfl (eD 0 ⟨#[]⟩ 0 0 0 0 0 0 0 0 0) ?_)
  exact bodyPost_ret (aI Tryz.results22 _ _ w.heap.size 26 (hcs 0 ⟨#[]⟩ 0 0 0 0 0 0 0 0 0) (0,0) _ rfl (X.aN HA2.out) Tryz.underlying26 (aZ 0 ⟨#[]⟩ 0 0 0 0 0 0 0 0 0)) rfl ⟨HR.out,X.aw HB2.out (Nat.le_refl _) _⟩
 | false =>
  by_cases h0:s.size=0
  ·have HR:Hid (cA H (.returned (.tuple #[hv 0 ⟨#[]⟩ 0 0 0 0 0 0 0 0 0,.int .i64 0]))):=by
    show cA _ _
    rw[←HH.out,if_neg Bool.false_ne_true,if_pos h0];exact dP 0
   have hem:=ah s h0;clear h0
   go_wp2_with(refine wpList_store_row rfl 26 (.tmp 2) (.tmp 11) rfl w.heap.size (hcs 0 ⟨#[]⟩ 0 0 0 0 0 0 0 0 0) rfl rfl 26 (hcs 0 ⟨#[]⟩ 0 0 0 0 0 0 0 0 0) HA2.out (aZ 0 ⟨#[]⟩ 0 0 0 0 0 0 0 0 0) rfl (eD 0 ⟨#[]⟩ 0 0 0 0 0 0 0 0 0) ?_)
   exact bodyPost_ret (aI Tryz.results22 _ _ w.heap.size 26 (hcs 0 ⟨#[]⟩ 0 0 0 0 0 0 0 0 0) (0,0) _ rfl (X.aN HA2.out) Tryz.underlying26 (aZ 0 ⟨#[]⟩ 0 0 0 0 0 0 0 0 0)) rfl ⟨HR.out,X.aw HB2.out (Nat.le_refl _) _⟩
  ·have hem:=ab s (by omega)
   have hH:=HH.out;rw[if_neg Bool.false_ne_true,if_neg h0]at hH;have HH4:=hid hH;clear h0 hH HH
   go_wp2_with fail;refine(HEN.out w2).mono ?_;rintro e w3 ⟨⟨t,rfl,ht⟩,B⟩
   have HR:Hid (cA H (.returned (.tuple #[hv 4 t 0 0 0 0 0 0 0 0 0,.int .i64 0]))):=by
    show cA _ _
    rw[←HH4.out];exact⟨t,ht,rfl⟩
   clear ht HH4;have HB3:=hid (HB2.out.trans (B.mono HB2.out.size));have HA3:Hid (w3.heap[w.heap.size]? = some (.cells (hcs 0 ⟨#[]⟩ 0 0 0 0 0 0 0 0 0) 26 (0,0))):=(B.block _ (Array.getElem?_eq_some_iff.1 HA2.out).1).trans HA2.out;clear B HB2 HA2 HEN
   go_wp2_with(refine wpList_store_row rfl 26 (.tmp 2) (.tmp 14) rfl w.heap.size (hcs 4 t 0 0 0 0 0 0 0 0 0) rfl rfl 26 (hcs 0 ⟨#[]⟩ 0 0 0 0 0 0 0 0 0) HA3.out (aZ 4 t 0 0 0 0 0 0 0 0 0) rfl (eD 4 t 0 0 0 0 0 0 0 0 0) ?_)
   exact bodyPost_ret (aI Tryz.results22 _ _ w.heap.size 26 (hcs 4 t 0 0 0 0 0 0 0 0 0) (0,0) _ rfl (X.aN HA3.out) Tryz.underlying26 (aZ 4 t 0 0 0 0 0 0 0 0 0)) rfl ⟨HR.out,X.aw HB3.out (Nat.le_refl _) _⟩
theorem vP(s:ByteArray)(hs:s.size≤4096)(w:World)(hM:F.Max w):Calls Tryz.prog 21 #[.string s] w fun e W'=>(∃ d r,IA (E.de (bn s)) d r∧cA (dom d r) e)∧Below w.heap.size w W':=by
 obtain⟨nb,na,nz⟩:=fj w;have HB0:=hid nb;have HA0:=hid na;have HZ0:=hid nz;clear nb na nz;have HDE:=hid (fun W=>E.gF s W (by omega))
 have HAS:Hid (∀(t:ByteArray),bn t=E.de (bn s)→∀ W,Calls Tryz.prog 42 #[.string t,.bool false,.bool false] W fun e W'=>(∃(T:ByteArray) (r:Int),e=.returned (.tuple #[.string T,.int .i64 r])∧IA (E.de (bn s)) (bn T) r∧(r=0→T.size≤400000000∧∀ c∈bn T,0≤c∧c<128))∧Below W.heap.size W W'):=fun t ht W=>by
  have hl:=E.mU (bn s).length (bn s) (Nat.le_refl _);rw[←ht,aa,aa]at hl;refine(I.tB t false false W (by omega)).mono ?_;rintro e W' ⟨⟨T,r,rfl,h⟩,B⟩
  have hia:IA (E.de (bn s)) (bn T) r:=⟨T,rfl,by rw[←ht];exact h⟩;refine⟨⟨T,r,rfl,hia,fun h0=>?_⟩,B⟩;rw[h0]at hia;have hz:=asc.len hia (by rw[←ht];exact U.aM t) (by rw[←ht,aa];omega);rw[aa]at hz;exact⟨by omega,asc.low hia⟩
 have HNA:=hid vY;have HM:=hid (hM.below HB0.out);clear hM;go_enter Tryz.func21,Tryz.ntmps21
 go_wp2_with fail;obtain⟨w1,hw1⟩:∃ w1,w.alloc (.cells (hcs 0 ⟨#[]⟩ 0 0 0 0 0 0 0 0 0) 26)=w1:=⟨_,rfl⟩;unfold hcs at hw1 HB0 HA0 HZ0 HM
 rw[hw1]at HB0 HA0 HZ0 HM ⊢;clear hw1;refine(HDE.out w1).mono ?_;rintro e w2 ⟨⟨t,rfl,ht⟩,B⟩
 replace HM:=hid (HM.out.below B)
 have HAT:=hid (HAS.out t ht);clear ht;have HB2:=hid (HB0.out.trans (B.mono HB0.out.size));have HA2:Hid (w2.heap[w.heap.size]? = some (.cells (hcs 0 ⟨#[]⟩ 0 0 0 0 0 0 0 0 0) 26 (0,0))):=(B.block _ (Array.getElem?_eq_some_iff.1 HA0.out).1).trans HA0.out;clear B HB0 HA0 HDE HAS
 go_wp2_with fail;refine(HAT.out w2).mono ?_;rintro e w3 ⟨⟨T,r,rfl,hia,hok⟩,B⟩
 replace HM:=hid (HM.out.below B)
 have HI:=hid hia;have HK:=hid hok;clear hia hok;have HB3:=hid (HB2.out.trans (B.mono HB2.out.size));have HA3:Hid (w3.heap[w.heap.size]? = some (.cells (hcs 0 ⟨#[]⟩ 0 0 0 0 0 0 0 0 0) 26 (0,0))):=(B.block _ (Array.getElem?_eq_some_iff.1 HA2.out).1).trans HA2.out;clear B HB2 HA2 HAT;by_cases hr:r=0
 ·obtain⟨hz,hlo⟩:=HK.out hr
  have hrn:(r != 0)=false:=by rw[hr];rfl
  have HC:=hid (HNA.out T hz hlo w3 HM.out);subst hr;clear hlo HK HNA HM
  go_wp2_with fail;refine HC.out.mono ?_;rintro e w4 ⟨⟨n,hn,rfl⟩,B⟩
  generalize hH:dom (bn T) 0=H at *
  have HR0:Hid (∃ d r,IA (E.de (bn s)) d r∧cA (dom d r) (.returned (.tuple #[hvl H.1 n H.2.2.1 H.2.2.2.1,.int .i64 H.2.2.2.2]))):=⟨_,_,HI.out,by rw[hH];exact⟨n,hn,rfl⟩⟩;obtain⟨k,nm,f,a,er⟩:=H;obtain⟨a0,a1,a2,a3,a4,a5,a6,a7,ha⟩:∃ a0 a1 a2 a3 a4 a5 a6 a7:Int,hvl k n f a=hv (k:Nat) n (f:Nat) a0 a1 a2 a3 a4 a5 a6 a7:=⟨_,_,_,_,_,_,_,_,rfl⟩;simp only at HR0 ⊢
  rw[ha]at HR0 ⊢;clear ha hn hH HI;have HR:=HR0;clear HR0;have HB4:=hid (HB3.out.trans (B.mono HB3.out.size));have HA4:Hid (w4.heap[w.heap.size]? = some (.cells (hcs 0 ⟨#[]⟩ 0 0 0 0 0 0 0 0 0) 26 (0,0))):=(B.block _ (Array.getElem?_eq_some_iff.1 HA3.out).1).trans HA3.out;clear B HB3 HA3 HC
  go_wp2_with(refine wpList_store_row rfl 26 (.tmp 2) (.tmp 17) rfl w.heap.size (hcs (k:Nat) n (f:Nat) a0 a1 a2 a3 a4 a5 a6 a7) rfl rfl 26 (hcs 0 ⟨#[]⟩ 0 0 0 0 0 0 0 0 0) HA4.out (aZ (k:Nat) n (f:Nat) a0 a1 a2 a3 a4 a5 a6 a7) rfl (eD (k:Nat) n (f:Nat) a0 a1 a2 a3 a4 a5 a6 a7) ?_)
  exact bodyPost_ret (aI Tryz.results21 _ _ w.heap.size 26 (hcs (k:Nat) n (f:Nat) a0 a1 a2 a3 a4 a5 a6 a7) (0,0) _ rfl (X.aN HA4.out) Tryz.underlying26 (aZ (k:Nat) n (f:Nat) a0 a1 a2 a3 a4 a5 a6 a7)) rfl ⟨HR.out,X.aw HB4.out (Nat.le_refl _) _⟩
 ·have HR:Hid (∃ d r,IA (E.de (bn s)) d r∧cA (dom d r) (.returned (.tuple #[hv 0 ⟨#[]⟩ 0 0 0 0 0 0 0 0 0,.int .i64 70]))):=⟨_,_,HI.out,by
    unfold dom
    rw[if_pos (.inl hr)];exact dP 70⟩
  have hrn:(r != 0)=true:=by simpa using hr
  clear hr HK HI HNA HM
  go_wp2_with(refine wpList_store_row rfl 26 (.tmp 2) (.tmp 14) rfl w.heap.size (hcs 0 ⟨#[]⟩ 0 0 0 0 0 0 0 0 0) rfl rfl 26 (hcs 0 ⟨#[]⟩ 0 0 0 0 0 0 0 0 0) HA3.out (aZ 0 ⟨#[]⟩ 0 0 0 0 0 0 0 0 0) rfl (eD 0 ⟨#[]⟩ 0 0 0 0 0 0 0 0 0) ?_)
  exact bodyPost_ret (aI Tryz.results21 _ _ w.heap.size 26 (hcs 0 ⟨#[]⟩ 0 0 0 0 0 0 0 0 0) (0,0) _ rfl (X.aN HA3.out) Tryz.underlying26 (aZ 0 ⟨#[]⟩ 0 0 0 0 0 0 0 0 0)) rfl ⟨HR.out,X.aw HB3.out (Nat.le_refl _) _⟩
def sxt(l:List Int):Hst:=if l.getLast? = some 93 then (match X.prs l.dropLast with | some a=>(3,[],0,a,0) | none=>non 70) else non 70
theorem BT{s:List Int}(h:s.head? = some 91):six s=sxt (s.drop 1):=by
 cases s with
 | nil=>cases h
 | cons c l =>
  unfold six sxt;show(if 2≤(c::l).length∧(c::l).getLast? = some 93 then _ else _)=_
  cases l with
  | nil=>rfl
  | cons d m =>
   have e1:(2≤(c::d::m).length∧(c::d::m).getLast? = some 93)↔(d::m).getLast? = some 93:=by
    rw[List.getLast?_cons_cons];exact⟨fun h=>h.2,fun h=>⟨by simp,h⟩⟩
   simp only[e1,List.drop_succ_cons,List.drop_zero];rfl
theorem p8(s:ByteArray)(n:Nat)(h:s.size=n+1):bn (s.extract 0 n)=(bn s).dropLast:=by
 unfold bn;rw[←List.map_dropLast,List.dropLast_eq_take];have hl:s.data.toList.length=n+1:=by rw[←Lib.size_eq];exact h
 rw[hl];simp[ByteArray.data_extract]
theorem yz(s:ByteArray)(hs:s.size≤100000)(w:World)(hG:X.GX w):Calls Tryz.prog 20 #[.string s] w fun e W'=>cA (sxt (bn s)) e∧Below w.heap.size w W':=by
 obtain⟨nb,na,nz⟩:=fj w;have HB0:=hid nb;have HA0:=hid na;have HZ0:=hid nz;clear nb na nz;have HCS:=hid (fun W=>Ay s hs W);have HG:=hid (hG.below HB0.out);clear hG
 have HPX:Hid (∀(b:Bool) (t:ByteArray),Bj s (.returned (.tuple #[.string t,.bool b]))→t.size≤100000∧(b=true→sxt (bn s)=(match X.prs (bn t) with | some a=>(3,[],0,a,0) | none=>non 70))∧(b=false→sxt (bn s)=non 70)):=fun b t h=>by
  rcases h with⟨h,e⟩ | ⟨h,e⟩
  ·cases e
   have hsz:1≤s.size:=by
    rw[←aa];cases hb:bn s with
    | nil=>rw[hb]at h;cases h
    | cons _ _=>simp
   refine⟨by simp;omega,fun _=>?_,(fun h=>by cases h)⟩;unfold sxt;rw[if_pos h,p8 s (s.size - 1) (by omega)]
  ·cases e
   refine⟨hs,(fun h=>by cases h),fun _=>?_⟩;unfold sxt;rw[if_neg h]
 go_enter Tryz.func20,Tryz.ntmps20
 go_wp2_with fail;obtain⟨w1,hw1⟩:∃ w1,w.alloc (.cells (hcs 0 ⟨#[]⟩ 0 0 0 0 0 0 0 0 0) 26)=w1:=⟨_,rfl⟩;unfold hcs at hw1 HB0 HA0 HZ0 HG
 rw[hw1]at HB0 HA0 HZ0 HG ⊢;clear hw1;refine(HCS.out w1).mono ?_;rintro e w2 ⟨hcs2,hw2⟩
 obtain⟨t,b,rfl⟩:∃(t:ByteArray) (b:Bool),e=.returned (.tuple #[.string t,.bool b]):=by rcases hcs2 with⟨_,rfl⟩ | ⟨_,rfl⟩ <;> exact⟨_,_,rfl⟩
 obtain⟨ht,hp1,hp2⟩:=HPX.out b t hcs2;have HP1:=hid hp1;have HP2:=hid hp2;obtain rfl:=hw2.symm;have HSX:=hid (X.j5 t ht w1 HG.out);clear hcs2 hp1 hp2 HPX HCS HG
 go_wp2_with fail;refine HSX.out.mono ?_;rintro e w3 ⟨hp,B⟩
 obtain⟨o,ho⟩:∃ o,X.prs (bn t)=o:=⟨_,rfl⟩;have hl8:∀ a,o=some a→a.length=8:=fun a h=>X.pj (ho.trans h)
 rw[ho]at hp HP1;unfold X.kM at hp
 subst hp
 obtain⟨x0,x1,x2,x3,x4,x5,x6,x7,hx⟩:∃ x0 x1 x2 x3 x4 x5 x6 x7,o.getD X.z8=[x0,x1,x2,x3,x4,x5,x6,x7]:=by
  cases o with
  | none=>exact⟨0,0,0,0,0,0,0,0,rfl⟩
  | some a=>exact X.wj (hl8 a rfl)
 have hxa:(X.ak (o.getD X.z8)).toArray=#[.int .u16 (x0:Nat),.int .u16 (x1:Nat),.int .u16 (x2:Nat),.int .u16 (x3:Nat),.int .u16 (x4:Nat),.int .u16 (x5:Nat),.int .u16 (x6:Nat),.int .u16 (x7:Nat)]:=by rw[hx];rfl
 rw[hxa];clear ho hxa hl8;have HB3:=hid (HB0.out.trans (B.mono HB0.out.size));have HA3:Hid (w3.heap[w.heap.size]? = some (.cells (hcs 0 ⟨#[]⟩ 0 0 0 0 0 0 0 0 0) 26 (0,0))):=(B.block _ (Array.getElem?_eq_some_iff.1 HA0.out).1).trans HA0.out;clear B HB0 HA0;have A6:=hid (heap_alloc_new w3 (.cells #[.int .u16 (x0:Nat),.int .u16 (x1:Nat),.int .u16 (x2:Nat),.int .u16 (x3:Nat),.int .u16 (x4:Nat),.int .u16 (x5:Nat),.int .u16 (x6:Nat),.int .u16 (x7:Nat)] 24));have HB4:=hid (HB3.out.alloc HB3.out.size (.cells #[.int .u16 (x0:Nat),.int .u16 (x1:Nat),.int .u16 (x2:Nat),.int .u16 (x3:Nat),.int .u16 (x4:Nat),.int .u16 (x5:Nat),.int .u16 (x6:Nat),.int .u16 (x7:Nat)] 24));have HA4:Hid ((w3.alloc (.cells #[.int .u16 (x0:Nat),.int .u16 (x1:Nat),.int .u16 (x2:Nat),.int .u16 (x3:Nat),.int .u16 (x4:Nat),.int .u16 (x5:Nat),.int .u16 (x6:Nat),.int .u16 (x7:Nat)] 24)).heap[w.heap.size]? = some (.cells (hcs 0 ⟨#[]⟩ 0 0 0 0 0 0 0 0 0) 26 (0,0))):=aA HA3.out _;by_cases hb:b=true∧X.err o=0
 ·obtain⟨rfl,he⟩:=hb
  obtain⟨a,rfl⟩:∃ a,o=some a:=by
   cases o with
   | none=>exact absurd he (by decide)
   | some a=>exact⟨a,rfl⟩
  have hax:a=[x0,x1,x2,x3,x4,x5,x6,x7]:=hx
  have HR:Hid (cA (sxt (bn s)) (.returned (.tuple #[hv 3 ⟨#[]⟩ 0 (x0:Nat) (x1:Nat) (x2:Nat) (x3:Nat) (x4:Nat) (x5:Nat) (x6:Nat) (x7:Nat),.int .i64 0]))):=by
   show cA _ _
   rw[HP1.out rfl,hax];exact⟨⟨#[]⟩,rfl,rfl⟩
  clear he hx hax HP1 HP2 HSX;have F0:World.cell? _ ⟨w3.heap.size,0,none⟩=some (.int .u16 (x0:Nat)):=cell_of_row _ _ 0 _ _ _ A6.out;have F1:World.cell? _ ⟨w3.heap.size,1,none⟩=some (.int .u16 (x1:Nat)):=cell_of_row _ _ 1 _ _ _ A6.out;have F2:World.cell? _ ⟨w3.heap.size,2,none⟩=some (.int .u16 (x2:Nat)):=cell_of_row _ _ 2 _ _ _ A6.out;have F3:World.cell? _ ⟨w3.heap.size,3,none⟩=some (.int .u16 (x3:Nat)):=cell_of_row _ _ 3 _ _ _ A6.out;have F4:World.cell? _ ⟨w3.heap.size,4,none⟩=some (.int .u16 (x4:Nat)):=cell_of_row _ _ 4 _ _ _ A6.out;have F5:World.cell? _ ⟨w3.heap.size,5,none⟩=some (.int .u16 (x5:Nat)):=cell_of_row _ _ 5 _ _ _ A6.out;have F6:World.cell? _ ⟨w3.heap.size,6,none⟩=some (.int .u16 (x6:Nat)):=cell_of_row _ _ 6 _ _ _ A6.out;have F7:World.cell? _ ⟨w3.heap.size,7,none⟩=some (.int .u16 (x7:Nat)):=cell_of_row _ _ 7 _ _ _ A6.out
  go_wp2_with(refine wpList_store_row rfl 26 (.tmp 2) (.tmp 26) rfl w.heap.size (hcs 3 ⟨#[]⟩ 0 (x0:Nat) (x1:Nat) (x2:Nat) (x3:Nat) (x4:Nat) (x5:Nat) (x6:Nat) (x7:Nat)) rfl rfl 26 (hcs 0 ⟨#[]⟩ 0 0 0 0 0 0 0 0 0) HA4.out (aZ 3 ⟨#[]⟩ 0 (x0:Nat) (x1:Nat) (x2:Nat) (x3:Nat) (x4:Nat) (x5:Nat) (x6:Nat) (x7:Nat)) rfl (eD 3 ⟨#[]⟩ 0 (x0:Nat) (x1:Nat) (x2:Nat) (x3:Nat) (x4:Nat) (x5:Nat) (x6:Nat) (x7:Nat)) ?_)
  exact bodyPost_ret (aI Tryz.results20 _ _ w.heap.size 26 (hcs 3 ⟨#[]⟩ 0 (x0:Nat) (x1:Nat) (x2:Nat) (x3:Nat) (x4:Nat) (x5:Nat) (x6:Nat) (x7:Nat)) (0,0) _ rfl (X.aN HA4.out) Tryz.underlying26 (aZ 3 ⟨#[]⟩ 0 (x0:Nat) (x1:Nat) (x2:Nat) (x3:Nat) (x4:Nat) (x5:Nat) (x6:Nat) (x7:Nat))) rfl ⟨HR.out,X.aw HB4.out (Nat.le_refl _) _⟩
 ·have HR:Hid (cA (sxt (bn s)) (.returned (.tuple #[hv 0 ⟨#[]⟩ 0 0 0 0 0 0 0 0 0,.int .i64 70]))):=by
   show cA _ _
   cases b with
   | false=>rw[HP2.out rfl];exact dP 70
   | true =>
    cases o with
    | none=>rw[HP1.out rfl];exact dP 70
    | some a=>exact absurd ⟨rfl,rfl⟩ hb
  have hc:b=false∨(b=true∧X.err o=8):=by
   cases b with
   | false=>exact .inl rfl
   | true =>
    cases o with
    | none=>exact .inr ⟨rfl,rfl⟩
    | some a=>exact absurd ⟨rfl,rfl⟩ hb
  clear hb hx HP1 HP2 HSX;rcases hc with rfl | ⟨rfl,he⟩
  ·generalize X.err o=q
   go_wp2_with(refine wpList_store_row rfl 26 (.tmp 2) (.tmp 24) rfl w.heap.size (hcs 0 ⟨#[]⟩ 0 0 0 0 0 0 0 0 0) rfl rfl 26 (hcs 0 ⟨#[]⟩ 0 0 0 0 0 0 0 0 0) HA4.out (aZ 0 ⟨#[]⟩ 0 0 0 0 0 0 0 0 0) rfl (eD 0 ⟨#[]⟩ 0 0 0 0 0 0 0 0 0) ?_)
   exact bodyPost_ret (aI Tryz.results20 _ _ w.heap.size 26 (hcs 0 ⟨#[]⟩ 0 0 0 0 0 0 0 0 0) (0,0) _ rfl (X.aN HA4.out) Tryz.underlying26 (aZ 0 ⟨#[]⟩ 0 0 0 0 0 0 0 0 0)) rfl ⟨HR.out,X.aw HB4.out (Nat.le_refl _) _⟩
  ·rw[he]
   go_wp2_with(refine wpList_store_row rfl 26 (.tmp 2) (.tmp 24) rfl w.heap.size (hcs 0 ⟨#[]⟩ 0 0 0 0 0 0 0 0 0) rfl rfl 26 (hcs 0 ⟨#[]⟩ 0 0 0 0 0 0 0 0 0) HA4.out (aZ 0 ⟨#[]⟩ 0 0 0 0 0 0 0 0 0) rfl (eD 0 ⟨#[]⟩ 0 0 0 0 0 0 0 0 0) ?_)
   exact bodyPost_ret (aI Tryz.results20 _ _ w.heap.size 26 (hcs 0 ⟨#[]⟩ 0 0 0 0 0 0 0 0 0) (0,0) _ rfl (X.aN HA4.out) Tryz.underlying26 (aZ 0 ⟨#[]⟩ 0 0 0 0 0 0 0 0 0)) rfl ⟨HR.out,X.aw HB4.out (Nat.le_refl _) _⟩
def GH(w:World):Prop:=F.Pow w∧F.Max w∧X.GX w
theorem GH.below{w w':World}(h:GH w)(hb:Below w.heap.size w w'):GH w':=⟨h.1.below h.1.size hb,h.2.1.below hb,h.2.2.below hb⟩
theorem mC(s:ByteArray)(sp:Bool)(hs:s.size≤100000)(w:World)(hG:GH w):Calls Tryz.prog 9 #[.string s,.bool sp] w fun e W'=>ib IA (bn s) sp w e W':=by
 obtain⟨nb,na,nz⟩:=fj w;have HB0:=hid nb;have HA0:=hid na;have HZ0:=hid nz;clear nb na nz;have HCP:=hid (fun W=>Az s W);have HG:=hid (hG.below HB0.out);clear hG
 have HPR:Hid (∀(h:Hst) (e:Ending) (W':World),HP IA (bn s) sp h→cA h e→Below w.heap.size w W'→ib IA (bn s) sp w e W'):=fun h e W' hp hr hb=>by
  obtain⟨n,hn,rfl⟩:=hr;exact⟨⟨h,n,hp,hn,rfl⟩,hb⟩
 go_enter Tryz.func9,Tryz.ntmps9
 go_wp2_with fail;obtain⟨w1,hw1⟩:∃ w1,w.alloc (.cells (hcs 0 ⟨#[]⟩ 0 0 0 0 0 0 0 0 0) 26)=w1:=⟨_,rfl⟩;unfold hcs at hw1 HB0 HA0 HZ0 HG
 rw[hw1]at HB0 HA0 HZ0 HG ⊢;clear hw1;refine(HCP.out w1).mono ?_;rintro e w2 ⟨hcp,hw2⟩
 obtain⟨t,b,rfl⟩:∃(t:ByteArray) (b:Bool),e=.returned (.tuple #[.string t,.bool b]):=by rcases hcp with⟨_,rfl⟩ | ⟨_,rfl⟩ <;> exact⟨_,_,rfl⟩
 obtain rfl:=hw2.symm;clear HCP;by_cases hl:4096<s.size
 ·have hlz:(4096:Int)<(s.size:Int):=by omega
  have HPN:Hid (HP IA (bn s) sp (non 4)):=by
   show HP _ _ _ _
   unfold HP;rw[if_pos (by rw[aa];exact hl)]
  have HR:Hid (∀ W',Below w.heap.size w W'→ib IA (bn s) sp w (.returned (.tuple #[hv 0 ⟨#[]⟩ 0 0 0 0 0 0 0 0 0,.int .i64 4])) W'):=fun W' hb=>HPR.out _ _ _ HPN.out (dP 4) hb
  clear HPN HPR hcp HG
  go_wp2_with(refine wpList_store_row rfl 26 (.tmp 4) (.tmp 17) rfl w.heap.size (hcs 0 ⟨#[]⟩ 0 0 0 0 0 0 0 0 0) rfl rfl 26 (hcs 0 ⟨#[]⟩ 0 0 0 0 0 0 0 0 0) HA0.out (aZ 0 ⟨#[]⟩ 0 0 0 0 0 0 0 0 0) rfl (eD 0 ⟨#[]⟩ 0 0 0 0 0 0 0 0 0) ?_)
  exact bodyPost_ret (aI Tryz.results9 _ _ w.heap.size 26 (hcs 0 ⟨#[]⟩ 0 0 0 0 0 0 0 0 0) (0,0) _ rfl (X.aN HA0.out) Tryz.underlying26 (aZ 0 ⟨#[]⟩ 0 0 0 0 0 0 0 0 0)) rfl (HR.out _ (X.aw HB0.out (Nat.le_refl _) _))
 ·have hlz:¬ (4096:Int)<(s.size:Int):=by omega
  have hln:¬ 4096<(bn s).length:=by rw[aa];exact hl
  rcases hcp with⟨hh,he⟩ | ⟨hh,he⟩
  ·cases he
   have HX:Hid (∀(e:Ending) (W':World),cA (sxt (bn (s.extract 1 s.size))) e→Below w.heap.size w W'→ib IA (bn s) sp w e W'):=fun e W' hr hb=>HPR.out _ _ _ (by
     unfold HP
     rw[if_neg hln,if_pos hh,BT hh,←aj]) hr hb
   have HC:=hid (yz (s.extract 1 s.size) (by simp;omega) w1 HG.out.2.2);clear HPR HG hh hln
   go_wp2_with fail;refine HC.out.mono ?_;rintro e w3 ⟨⟨n,hn,rfl⟩,B⟩
   generalize hH:sxt (bn (s.extract 1 s.size))=H at *
   have HR:Hid (∀ W',Below w.heap.size w W'→ib IA (bn s) sp w (.returned (.tuple #[hvl H.1 n H.2.2.1 H.2.2.2.1,.int .i64 H.2.2.2.2])) W'):=fun W' hb=>HX.out _ _ ⟨n,hn,rfl⟩ hb
   clear hn hH HX;obtain⟨k,nm,f,a,er⟩:=H;obtain⟨a0,a1,a2,a3,a4,a5,a6,a7,ha⟩:∃ a0 a1 a2 a3 a4 a5 a6 a7:Int,hvl k n f a=hv (k:Nat) n (f:Nat) a0 a1 a2 a3 a4 a5 a6 a7:=⟨_,_,_,_,_,_,_,_,rfl⟩;simp only at HR ⊢
   rw[ha]at HR ⊢;clear ha;have HB3:=hid (HB0.out.trans (B.mono HB0.out.size));have HA3:Hid (w3.heap[w.heap.size]? = some (.cells (hcs 0 ⟨#[]⟩ 0 0 0 0 0 0 0 0 0) 26 (0,0))):=(B.block _ (Array.getElem?_eq_some_iff.1 HA0.out).1).trans HA0.out;clear B HB0 HA0 HC
   go_wp2_with(refine wpList_store_row rfl 26 (.tmp 4) (.tmp 22) rfl w.heap.size (hcs (k:Nat) n (f:Nat) a0 a1 a2 a3 a4 a5 a6 a7) rfl rfl 26 (hcs 0 ⟨#[]⟩ 0 0 0 0 0 0 0 0 0) HA3.out (aZ (k:Nat) n (f:Nat) a0 a1 a2 a3 a4 a5 a6 a7) rfl (eD (k:Nat) n (f:Nat) a0 a1 a2 a3 a4 a5 a6 a7) ?_)
   exact bodyPost_ret (aI Tryz.results9 _ _ w.heap.size 26 (hcs (k:Nat) n (f:Nat) a0 a1 a2 a3 a4 a5 a6 a7) (0,0) _ rfl (X.aN HA3.out) Tryz.underlying26 (aZ (k:Nat) n (f:Nat) a0 a1 a2 a3 a4 a5 a6 a7)) rfl (HR.out _ (X.aw HB3.out (Nat.le_refl _) _))
  ·cases he
   cases sp with
   | false =>
    have HX:Hid (∀(e:Ending) (W':World),cA (opq (bn s)) e→Below w.heap.size w W'→ib IA (bn s) false w e W'):=fun e W' hr hb=>HPR.out _ _ _ (by
      unfold HP
      rw[if_neg hln,if_neg hh,if_pos rfl]) hr hb
    have HC:=hid (yK s (by omega) w1);clear HPR HG hh hln
    go_wp2_with fail;refine HC.out.mono ?_;rintro e w3 ⟨⟨n,hn,rfl⟩,B⟩
    generalize hH:opq (bn s)=H at *
    have HR:Hid (∀ W',Below w.heap.size w W'→ib IA (bn s) false w (.returned (.tuple #[hvl H.1 n H.2.2.1 H.2.2.2.1,.int .i64 H.2.2.2.2])) W'):=fun W' hb=>HX.out _ _ ⟨n,hn,rfl⟩ hb
    clear hn hH HX;obtain⟨k,nm,f,a,er⟩:=H;obtain⟨a0,a1,a2,a3,a4,a5,a6,a7,ha⟩:∃ a0 a1 a2 a3 a4 a5 a6 a7:Int,hvl k n f a=hv (k:Nat) n (f:Nat) a0 a1 a2 a3 a4 a5 a6 a7:=⟨_,_,_,_,_,_,_,_,rfl⟩;simp only at HR ⊢
    rw[ha]at HR ⊢;clear ha;have HB3:=hid (HB0.out.trans (B.mono HB0.out.size));have HA3:Hid (w3.heap[w.heap.size]? = some (.cells (hcs 0 ⟨#[]⟩ 0 0 0 0 0 0 0 0 0) 26 (0,0))):=(B.block _ (Array.getElem?_eq_some_iff.1 HA0.out).1).trans HA0.out;clear B HB0 HA0 HC
    go_wp2_with(refine wpList_store_row rfl 26 (.tmp 4) (.tmp 32) rfl w.heap.size (hcs (k:Nat) n (f:Nat) a0 a1 a2 a3 a4 a5 a6 a7) rfl rfl 26 (hcs 0 ⟨#[]⟩ 0 0 0 0 0 0 0 0 0) HA3.out (aZ (k:Nat) n (f:Nat) a0 a1 a2 a3 a4 a5 a6 a7) rfl (eD (k:Nat) n (f:Nat) a0 a1 a2 a3 a4 a5 a6 a7) ?_)
    exact bodyPost_ret (aI Tryz.results9 _ _ w.heap.size 26 (hcs (k:Nat) n (f:Nat) a0 a1 a2 a3 a4 a5 a6 a7) (0,0) _ rfl (X.aN HA3.out) Tryz.underlying26 (aZ (k:Nat) n (f:Nat) a0 a1 a2 a3 a4 a5 a6 a7)) rfl (HR.out _ (X.aw HB3.out (Nat.le_refl _) _))
   | true =>
    have HX:Hid (∀(d:List Int) (r:Int) (e:Ending) (W':World),IA (E.de (bn s)) d r→cA (dom d r) e→Below w.heap.size w W'→ib IA (bn s) true w e W'):=fun d r e W' hi hr hb=>HPR.out _ _ _ (by
      unfold HP
      rw[if_neg hln,if_neg hh,if_neg (by decide)]
      exact⟨d,r,hi,rfl⟩) hr hb
    have HC:=hid (vP s (by omega) w1 HG.out.2.1);clear HPR HG hh hln
    go_wp2_with fail;refine HC.out.mono ?_;rintro e w3 ⟨⟨d,r,hi,n,hn,rfl⟩,B⟩
    generalize hH:dom d r=H at *
    have HR:Hid (∀ W',Below w.heap.size w W'→ib IA (bn s) true w (.returned (.tuple #[hvl H.1 n H.2.2.1 H.2.2.2.1,.int .i64 H.2.2.2.2])) W'):=fun W' hb=>HX.out d r _ _ hi (by rw[hH];exact⟨n,hn,rfl⟩) hb
    clear hn hH HX hi;obtain⟨k,nm,f,a,er⟩:=H;obtain⟨a0,a1,a2,a3,a4,a5,a6,a7,ha⟩:∃ a0 a1 a2 a3 a4 a5 a6 a7:Int,hvl k n f a=hv (k:Nat) n (f:Nat) a0 a1 a2 a3 a4 a5 a6 a7:=⟨_,_,_,_,_,_,_,_,rfl⟩;simp only at HR ⊢
    rw[ha]at HR ⊢;clear ha;have HB3:=hid (HB0.out.trans (B.mono HB0.out.size));have HA3:Hid (w3.heap[w.heap.size]? = some (.cells (hcs 0 ⟨#[]⟩ 0 0 0 0 0 0 0 0 0) 26 (0,0))):=(B.block _ (Array.getElem?_eq_some_iff.1 HA0.out).1).trans HA0.out;clear B HB0 HA0 HC
    go_wp2_with(refine wpList_store_row rfl 26 (.tmp 4) (.tmp 28) rfl w.heap.size (hcs (k:Nat) n (f:Nat) a0 a1 a2 a3 a4 a5 a6 a7) rfl rfl 26 (hcs 0 ⟨#[]⟩ 0 0 0 0 0 0 0 0 0) HA3.out (aZ (k:Nat) n (f:Nat) a0 a1 a2 a3 a4 a5 a6 a7) rfl (eD (k:Nat) n (f:Nat) a0 a1 a2 a3 a4 a5 a6 a7) ?_)
    exact bodyPost_ret (aI Tryz.results9 _ _ w.heap.size 26 (hcs (k:Nat) n (f:Nat) a0 a1 a2 a3 a4 a5 a6 a7) (0,0) _ rfl (X.aN HA3.out) Tryz.underlying26 (aZ (k:Nat) n (f:Nat) a0 a1 a2 a3 a4 a5 a6 a7)) rfl (HR.out _ (X.aw HB3.out (Nat.le_refl _) _))
end Go.Proofs.YtkekkbciiohbkaaGreatDoor.H
