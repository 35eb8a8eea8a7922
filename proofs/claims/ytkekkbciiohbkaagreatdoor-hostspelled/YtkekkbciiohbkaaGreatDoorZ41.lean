/- Texts one behind the other: VL VZ. -/
import Derived.Test.YtkekkbciiohbkaaGreatDoorZ39
import Derived.Test.YtkekkbciiohbkaaGreatDoorZ40
import Derived.Test.YtkekkbciiohbkaaGreatDoorRows
import Derived.Test.YtkekkbciiohbkaaGreatDoorZ31
import Derived.Test.YtkekkbciiohbkaaGreatDoorZ3
import Derived.Test.YtkekkbciiohbkaaGreatDoorZ35
import Derived.Test.YtkekkbciiohbkaaGreatDoorZ37
import Derived.Deep.RegionHeld3
import Derived.Deep.Cut
import Derived.LaidLaws
import Derived.ProofKit
import Derived.LaidMore
import Derived.OpenShut
import Derived.Stop.Joined
import Derived.Lib.LaidTab
import Derived.Lay
import Derived.Shelf.LaysM
set_option maxRecDepth 100000
set_option maxHeartbeats 16000000
set_option linter.unusedVariables false
set_option linter.unnecessarySimpa false
namespace Go.Proofs.YtkekkbciiohbkaaGreatDoor.H
open Go.RowKit
open Go.Proofs.YtkekkbciiohbkaaGreatDoor.F (bn aa av aq ar hid aj ab ah aR aK)
theorem jg(k:Nat)(n:ByteArray)(f:Nat)(a0 a1 a2 a3 a4 a5 a6 a7:Nat)(hz:n.size≤400000000)(hk:k<256)(hf:f<4294967296)(hs:X.Small [a0,a1,a2,a3,a4,a5,a6,a7])(w:World)(hG:GH w):Calls Tryz.prog 11 #[hvl k n f [a0,a1,a2,a3,a4,a5,a6,a7]] w fun e W'=>ia (k,bn n,f,[a0,a1,a2,a3,a4,a5,a6,a7],0) w e W':=by
 have A0:(w.alloc (.cells #[.int .u8 (k:Nat),.string n,.int .u32 (f:Nat),.int .u16 (a0:Nat),.int .u16 (a1:Nat),.int .u16 (a2:Nat),.int .u16 (a3:Nat),.int .u16 (a4:Nat),.int .u16 (a5:Nat),.int .u16 (a6:Nat),.int .u16 (a7:Nat)] 26)).heap[w.heap.size]? = some (.cells #[.int .u8 (k:Nat),.string n,.int .u32 (f:Nat),.int .u16 (a0:Nat),.int .u16 (a1:Nat),.int .u16 (a2:Nat),.int .u16 (a3:Nat),.int .u16 (a4:Nat),.int .u16 (a5:Nat),.int .u16 (a6:Nat),.int .u16 (a7:Nat)] 26 (0,0)):=X.bY w _ _;have HB:Hid (Below w.heap.size w (w.alloc (.cells #[.int .u8 (k:Nat),.string n,.int .u32 (f:Nat),.int .u16 (a0:Nat),.int .u16 (a1:Nat),.int .u16 (a2:Nat),.int .u16 (a3:Nat),.int .u16 (a4:Nat),.int .u16 (a5:Nat),.int .u16 (a6:Nat),.int .u16 (a7:Nat)] 26))):=(Below.refl _ w).alloc (Nat.le_refl _) _;have HG:=hid (hG.below HB.out);have HT1:=hid (fun W=>xc n hz W);have HT2:=hid (fun W h=>F.lI f hf W h);have HT3:Hid (∀ W,X.Tab W→Calls Tryz.prog 30 #[.agg #[.int .u16 (a0:Nat),.int .u16 (a1:Nat),.int .u16 (a2:Nat),.int .u16 (a3:Nat),.int .u16 (a4:Nat),.int .u16 (a5:Nat),.int .u16 (a6:Nat),.int .u16 (a7:Nat)]] W fun e W'=>X.ia [a0,a1,a2,a3,a4,a5,a6,a7] W e W'):=fun W h=>X.lI [a0,a1,a2,a3,a4,a5,a6,a7] rfl hs W h
 have F0:(w.alloc (.cells #[.int .u8 (k:Nat),.string n,.int .u32 (f:Nat),.int .u16 (a0:Nat),.int .u16 (a1:Nat),.int .u16 (a2:Nat),.int .u16 (a3:Nat),.int .u16 (a4:Nat),.int .u16 (a5:Nat),.int .u16 (a6:Nat),.int .u16 (a7:Nat)] 26)).cell? ⟨w.heap.size,0,none⟩=some (.int .u8 (k:Nat)):=cell_of_row _ _ 0 _ _ _ A0;have F1:(w.alloc (.cells #[.int .u8 (k:Nat),.string n,.int .u32 (f:Nat),.int .u16 (a0:Nat),.int .u16 (a1:Nat),.int .u16 (a2:Nat),.int .u16 (a3:Nat),.int .u16 (a4:Nat),.int .u16 (a5:Nat),.int .u16 (a6:Nat),.int .u16 (a7:Nat)] 26)).cell? ⟨w.heap.size,1,none⟩=some (.string n):=cell_of_row _ _ 1 _ _ _ A0;have F2:(w.alloc (.cells #[.int .u8 (k:Nat),.string n,.int .u32 (f:Nat),.int .u16 (a0:Nat),.int .u16 (a1:Nat),.int .u16 (a2:Nat),.int .u16 (a3:Nat),.int .u16 (a4:Nat),.int .u16 (a5:Nat),.int .u16 (a6:Nat),.int .u16 (a7:Nat)] 26)).cell? ⟨w.heap.size,2,none⟩=some (.int .u32 (f:Nat)):=cell_of_row _ _ 2 _ _ _ A0;have F3:(w.alloc (.cells #[.int .u8 (k:Nat),.string n,.int .u32 (f:Nat),.int .u16 (a0:Nat),.int .u16 (a1:Nat),.int .u16 (a2:Nat),.int .u16 (a3:Nat),.int .u16 (a4:Nat),.int .u16 (a5:Nat),.int .u16 (a6:Nat),.int .u16 (a7:Nat)] 26)).cell? ⟨w.heap.size,3,none⟩=some (.int .u16 (a0:Nat)):=cell_of_row _ _ 3 _ _ _ A0;have F4:(w.alloc (.cells #[.int .u8 (k:Nat),.string n,.int .u32 (f:Nat),.int .u16 (a0:Nat),.int .u16 (a1:Nat),.int .u16 (a2:Nat),.int .u16 (a3:Nat),.int .u16 (a4:Nat),.int .u16 (a5:Nat),.int .u16 (a6:Nat),.int .u16 (a7:Nat)] 26)).cell? ⟨w.heap.size,4,none⟩=some (.int .u16 (a1:Nat)):=cell_of_row _ _ 4 _ _ _ A0;have F5:(w.alloc (.cells #[.int .u8 (k:Nat),.string n,.int .u32 (f:Nat),.int .u16 (a0:Nat),.int .u16 (a1:Nat),.int .u16 (a2:Nat),.int .u16 (a3:Nat),.int .u16 (a4:Nat),.int .u16 (a5:Nat),.int .u16 (a6:Nat),.int .u16 (a7:Nat)] 26)).cell? ⟨w.heap.size,5,none⟩=some (.int .u16 (a2:Nat)):=cell_of_row _ _ 5 _ _ _ A0;have F6:(w.alloc (.cells #[.int .u8 (k:Nat),.string n,.int .u32 (f:Nat),.int .u16 (a0:Nat),.int .u16 (a1:Nat),.int .u16 (a2:Nat),.int .u16 (a3:Nat),.int .u16 (a4:Nat),.int .u16 (a5:Nat),.int .u16 (a6:Nat),.int .u16 (a7:Nat)] 26)).cell? ⟨w.heap.size,6,none⟩=some (.int .u16 (a3:Nat)):=cell_of_row _ _ 6 _ _ _ A0;have F7:(w.alloc (.cells #[.int .u8 (k:Nat),.string n,.int .u32 (f:Nat),.int .u16 (a0:Nat),.int .u16 (a1:Nat),.int .u16 (a2:Nat),.int .u16 (a3:Nat),.int .u16 (a4:Nat),.int .u16 (a5:Nat),.int .u16 (a6:Nat),.int .u16 (a7:Nat)] 26)).cell? ⟨w.heap.size,7,none⟩=some (.int .u16 (a4:Nat)):=cell_of_row _ _ 7 _ _ _ A0;have F8:(w.alloc (.cells #[.int .u8 (k:Nat),.string n,.int .u32 (f:Nat),.int .u16 (a0:Nat),.int .u16 (a1:Nat),.int .u16 (a2:Nat),.int .u16 (a3:Nat),.int .u16 (a4:Nat),.int .u16 (a5:Nat),.int .u16 (a6:Nat),.int .u16 (a7:Nat)] 26)).cell? ⟨w.heap.size,8,none⟩=some (.int .u16 (a5:Nat)):=cell_of_row _ _ 8 _ _ _ A0;have F9:(w.alloc (.cells #[.int .u8 (k:Nat),.string n,.int .u32 (f:Nat),.int .u16 (a0:Nat),.int .u16 (a1:Nat),.int .u16 (a2:Nat),.int .u16 (a3:Nat),.int .u16 (a4:Nat),.int .u16 (a5:Nat),.int .u16 (a6:Nat),.int .u16 (a7:Nat)] 26)).cell? ⟨w.heap.size,9,none⟩=some (.int .u16 (a6:Nat)):=cell_of_row _ _ 9 _ _ _ A0;have F10:(w.alloc (.cells #[.int .u8 (k:Nat),.string n,.int .u32 (f:Nat),.int .u16 (a0:Nat),.int .u16 (a1:Nat),.int .u16 (a2:Nat),.int .u16 (a3:Nat),.int .u16 (a4:Nat),.int .u16 (a5:Nat),.int .u16 (a6:Nat),.int .u16 (a7:Nat)] 26)).cell? ⟨w.heap.size,10,none⟩=some (.int .u16 (a7:Nat)):=cell_of_row _ _ 10 _ _ _ A0;clear A0 hG hs hz;have HK:Hid (∀ t W',bn t=txt (k,bn n,f,[a0,a1,a2,a3,a4,a5,a6,a7],0)→Below w.heap.size w W'→ia (k,bn n,f,[a0,a1,a2,a3,a4,a5,a6,a7],0) w (.returned (.string t)) W'):=fun t W' h hb=>⟨⟨t,rfl,h⟩,hb⟩
 have HX:Hid (((k=1∨k=4)→txt (k,bn n,f,[a0,a1,a2,a3,a4,a5,a6,a7],0)=bn n)∧(k=2→txt (k,bn n,f,[a0,a1,a2,a3,a4,a5,a6,a7],0)=F.txt f)∧(k=3→txt (k,bn n,f,[a0,a1,a2,a3,a4,a5,a6,a7],0)=91::(X.txt [a0,a1,a2,a3,a4,a5,a6,a7]++[93]))∧(¬ (k=1∨k=4)→k≠2→k≠3→txt (k,bn n,f,[a0,a1,a2,a3,a4,a5,a6,a7],0)=[])):=by
  refine⟨fun h=>?_,fun h=>?_,fun h=>?_,fun h1 h2 h3=>?_⟩
  ·unfold txt;rw[if_pos h]
  ·subst h;rfl
  ·subst h;rfl
  ·unfold txt;rw[if_neg h1,if_neg h2,if_neg h3]
 show Calls Tryz.prog _ #[hv (k:Nat) n (f:Nat) (a0:Nat) (a1:Nat) (a2:Nat) (a3:Nat) (a4:Nat) (a5:Nat) (a6:Nat) (a7:Nat)] w _
 by_cases k1:k=1∨k=4
 ·have hq:(((k:Int)==1)=true)∨(((k:Int)==1)=false∧((k:Int)==4)=true):=by
   rcases k1 with h | h
   ·subst h;exact .inl rfl
   ·subst h;exact .inr ⟨rfl,rfl⟩
  have HE:=hid (HX.out.1 k1);clear k1 HX HT2 HT3;rcases hq with q1 | ⟨q1,q4⟩
  all_goals (
    go_enter Tryz.func11,Tryz.ntmps11
    go_wp2_with fail
    refine(HT1.out _).mono ?_
    rintro e w2 ⟨rfl,B⟩
    replace HB:=hid (HB.out.trans (B.mono HB.out.size))
    clear B F0 F1 F2 F3 F4 F5 F6 F7 F8 F9 F10
    go_wp2
    go_ret
    exact HK.out _ _ HE.out.symm HB.out)
 ·have q1:((k:Int)==1)=false:=by simp;omega
  have q4:((k:Int)==4)=false:=by simp;omega
  by_cases k2:k=2
  ·have q2:((k:Int)==2)=true:=by subst k2;rfl
   have HE:=hid (HX.out.2.1 k2);clear k1 k2 HX HT1 HT3;go_enter Tryz.func11,Tryz.ntmps11
   go_wp2_with fail;refine(HT2.out _ HG.out.1).mono ?_;rintro e w2 ⟨⟨t,rfl,ht⟩,B⟩
   have HTX:=hid ht
   replace HB:=hid (HB.out.trans (B.mono HB.out.size))
   clear B ht F0 F1 F2 F3 F4 F5 F6 F7 F8 F9 F10;go_wp2;go_ret;exact HK.out _ _ (HTX.out.trans HE.out.symm) HB.out
  ·have q2:((k:Int)==2)=false:=by simp;omega
   by_cases k3:k=3
   ·have q3:((k:Int)==3)=true:=by subst k3;rfl
    have HE:=hid (HX.out.2.2.1 k3);clear k1 k2 k3 HX HT1 HT2;go_enter Tryz.func11,Tryz.ntmps11
    go_wp2_with fail;refine(HT3.out _ HG.out.2.2.1).mono ?_;rintro e w2 ⟨⟨t,rfl,ht⟩,B⟩
    have hts:t.size≤300:=by
     rw[←aa,ht];have:=X.oP (a:=[a0,a1,a2,a3,a4,a5,a6,a7]) rfl;omega
    have HTX:Hid (bn (⟨#[91]⟩++t++⟨#[93]⟩)=91::(X.txt [a0,a1,a2,a3,a4,a5,a6,a7]++[93])):=by
     show bn _=_
     rw[←ht,F.aC,F.aC];rfl
    replace HB:=hid (HB.out.trans (B.mono HB.out.size))
    clear B ht F0 F1 F2 F3 F4 F5 F6 F7 F8 F9 F10;go_wp2;go_ret;exact HK.out _ _ (HTX.out.trans HE.out.symm) HB.out
   ·have q3:((k:Int)==3)=false:=by simp;omega
    have HE:=hid (HX.out.2.2.2 k1 k2 k3);clear k1 k2 k3 HX HT1 HT2 HT3;go_enter Tryz.func11,Tryz.ntmps11
    go_wp2;go_ret;exact HK.out _ _ HE.out.symm HB.out
theorem uQ(k k' f f':Nat)(n n':ByteArray)(a0 a1 a2 a3 a4 a5 a6 a7 b0 b1 b2 b3 b4 b5 b6 b7:Nat):eqh (k:Nat) n (f:Nat) [(a0:Int),(a1:Int),(a2:Int),(a3:Int),(a4:Int),(a5:Int),(a6:Int),(a7:Int)] (k':Nat) n' (f':Nat) [(b0:Int),(b1:Int),(b2:Int),(b3:Int),(b4:Int),(b5:Int),(b6:Int),(b7:Int)]=decide ((k,bn n,f,[a0,a1,a2,a3,a4,a5,a6,a7])=(k',bn n',f',[b0,b1,b2,b3,b4,b5,b6,b7])):=by
 unfold eqh;rw[aR];have e:List.range 8=[0,1,2,3,4,5,6,7]:=rfl;rw[e,Bool.eq_iff_iff];simp only[Bool.and_eq_true,beq_iff_eq,decide_eq_true_iff,List.all_cons,List.all_nil,Prod.mk.injEq,List.cons.injEq,and_true,Int.natCast_inj];simp[Int.natCast_inj]
theorem zT{k:Nat}{n:List Int}{f:Nat}{a:List Nat}(hn:n.length≤100000)(hf:f<4294967296)(ha:a.length=8):(txt (k,n,f,a,0)).length≤100000:=by
 unfold txt;split
 ·show n.length≤_;omega
 split
 ·have:=qk hf
  show(F.txt f).length≤_;omega
 split
 ·have:=X.oP ha
  show(91::(X.txt a++[93])).length≤_
  simp;omega
 ·simp
theorem Gb{h x:Hst}{b:Bool}(hne:h≠non 0)(h0:h.2.2.2.2=0)(hp:HP IA (txt h) (decide (h.1≠4)) x)(hb:b=(decide (x.2.2.2.2=0)&&decide ((x.1,x.2.1,x.2.2.1,x.2.2.2.1)=(h.1,h.2.1,h.2.2.1,h.2.2.2.1)))):May IA h b:=by
 unfold May;rw[if_neg hne];by_cases hl:4096<(txt h).length
 ·rw[if_pos hl]
  unfold HP at hp
  rw[if_pos hl]at hp;rw[hb,hp];rfl
 ·rw[if_neg hl]
  refine⟨x,hp,?_⟩;rw[hb,Bool.eq_iff_iff,Bool.and_eq_true,decide_eq_true_iff,decide_eq_true_iff,decide_eq_true_iff];refine⟨fun q=>⟨q.1,q.2,fun hk=>hne ?_⟩,fun q=>⟨q.1,q.2.1⟩⟩;have hx:=oq hp q.1 hk;have q2:=q.2;rw[hx]at q2;obtain⟨k,n,f,a,e⟩:=h;simp only[non,Prod.mk.injEq]at q2 h0 ⊢;obtain⟨c1,c2,c3,c4⟩:=q2;exact⟨c1.symm,c2.symm,c3.symm,c4.symm,h0⟩
theorem CN(k:Nat)(n:ByteArray)(f:Nat)(a0 a1 a2 a3 a4 a5 a6 a7:Nat)(hz:n.size≤100000)(hk:k<256)(hf:f<4294967296)(hs:X.Small [a0,a1,a2,a3,a4,a5,a6,a7])(w:World)(hG:GH w):Calls Tryz.prog 13 #[hvl k n f [a0,a1,a2,a3,a4,a5,a6,a7]] w fun e W'=>(∃ b,May IA (k,bn n,f,[a0,a1,a2,a3,a4,a5,a6,a7],0) b∧e=.returned (.bool b))∧Below w.heap.size w W':=by
 have A0:((w.alloc (.cells #[.int .u8 (k:Nat),.string n,.int .u32 (f:Nat),.int .u16 (a0:Nat),.int .u16 (a1:Nat),.int .u16 (a2:Nat),.int .u16 (a3:Nat),.int .u16 (a4:Nat),.int .u16 (a5:Nat),.int .u16 (a6:Nat),.int .u16 (a7:Nat)] 26)).alloc (.cells #[.int .u8 0,.string ⟨#[]⟩,.int .u32 0,.int .u16 0,.int .u16 0,.int .u16 0,.int .u16 0,.int .u16 0,.int .u16 0,.int .u16 0,.int .u16 0] 26)).heap[w.heap.size]? = some (.cells #[.int .u8 (k:Nat),.string n,.int .u32 (f:Nat),.int .u16 (a0:Nat),.int .u16 (a1:Nat),.int .u16 (a2:Nat),.int .u16 (a3:Nat),.int .u16 (a4:Nat),.int .u16 (a5:Nat),.int .u16 (a6:Nat),.int .u16 (a7:Nat)] 26 (0,0)):=aA (X.bY w _ _) _;have A1:((w.alloc (.cells #[.int .u8 (k:Nat),.string n,.int .u32 (f:Nat),.int .u16 (a0:Nat),.int .u16 (a1:Nat),.int .u16 (a2:Nat),.int .u16 (a3:Nat),.int .u16 (a4:Nat),.int .u16 (a5:Nat),.int .u16 (a6:Nat),.int .u16 (a7:Nat)] 26)).alloc (.cells #[.int .u8 0,.string ⟨#[]⟩,.int .u32 0,.int .u16 0,.int .u16 0,.int .u16 0,.int .u16 0,.int .u16 0,.int .u16 0,.int .u16 0,.int .u16 0] 26)).heap[(w.alloc (.cells #[.int .u8 (k:Nat),.string n,.int .u32 (f:Nat),.int .u16 (a0:Nat),.int .u16 (a1:Nat),.int .u16 (a2:Nat),.int .u16 (a3:Nat),.int .u16 (a4:Nat),.int .u16 (a5:Nat),.int .u16 (a6:Nat),.int .u16 (a7:Nat)] 26)).heap.size]? = some (.cells #[.int .u8 0,.string ⟨#[]⟩,.int .u32 0,.int .u16 0,.int .u16 0,.int .u16 0,.int .u16 0,.int .u16 0,.int .u16 0,.int .u16 0,.int .u16 0] 26 (0,0)):=X.bY _ _ _;have hsz:(w.alloc (.cells #[.int .u8 (k:Nat),.string n,.int .u32 (f:Nat),.int .u16 (a0:Nat),.int .u16 (a1:Nat),.int .u16 (a2:Nat),.int .u16 (a3:Nat),.int .u16 (a4:Nat),.int .u16 (a5:Nat),.int .u16 (a6:Nat),.int .u16 (a7:Nat)] 26)).heap.size=w.heap.size+1:=by simp
 rw[hsz]at A1;have HB:Hid (Below w.heap.size w ((w.alloc (.cells #[.int .u8 (k:Nat),.string n,.int .u32 (f:Nat),.int .u16 (a0:Nat),.int .u16 (a1:Nat),.int .u16 (a2:Nat),.int .u16 (a3:Nat),.int .u16 (a4:Nat),.int .u16 (a5:Nat),.int .u16 (a6:Nat),.int .u16 (a7:Nat)] 26)).alloc (.cells #[.int .u8 0,.string ⟨#[]⟩,.int .u32 0,.int .u16 0,.int .u16 0,.int .u16 0,.int .u16 0,.int .u16 0,.int .u16 0,.int .u16 0,.int .u16 0] 26))):=((Below.refl _ w).alloc (Nat.le_refl _) _).alloc (by simp) _;have HGK:Hid (∀ W,Below w.heap.size w W→GH W):=fun W h=>hG.below h
 have HT:=hid (fun W h=>jg k n f a0 a1 a2 a3 a4 a5 a6 a7 (by omega) hk hf hs W h)
 have HEQ:Hid (∀ W,(binOp .eql 26 (hv (k:Nat) n (f:Nat) (a0:Nat) (a1:Nat) (a2:Nat) (a3:Nat) (a4:Nat) (a5:Nat) (a6:Nat) (a7:Nat)) (hv 0 ⟨#[]⟩ 0 0 0 0 0 0 0 0 0)).run Tryz.prog W=.ok (.bool (decide ((k,bn n,f,[a0,a1,a2,a3,a4,a5,a6,a7])=(0,bn ⟨#[]⟩,0,[0,0,0,0,0,0,0,0])))) W):=fun W=>by
  rw[dF];exact congrArg (fun b=>Result.ok (Value.bool b) W) (uQ k 0 f 0 n ⟨#[]⟩ a0 a1 a2 a3 a4 a5 a6 a7 0 0 0 0 0 0 0 0)
 have F0:((w.alloc (.cells #[.int .u8 (k:Nat),.string n,.int .u32 (f:Nat),.int .u16 (a0:Nat),.int .u16 (a1:Nat),.int .u16 (a2:Nat),.int .u16 (a3:Nat),.int .u16 (a4:Nat),.int .u16 (a5:Nat),.int .u16 (a6:Nat),.int .u16 (a7:Nat)] 26)).alloc (.cells #[.int .u8 0,.string ⟨#[]⟩,.int .u32 0,.int .u16 0,.int .u16 0,.int .u16 0,.int .u16 0,.int .u16 0,.int .u16 0,.int .u16 0,.int .u16 0] 26)).cell? ⟨w.heap.size,0,none⟩=some (.int .u8 (k:Nat)):=cell_of_row _ _ 0 _ _ _ A0;have F1:((w.alloc (.cells #[.int .u8 (k:Nat),.string n,.int .u32 (f:Nat),.int .u16 (a0:Nat),.int .u16 (a1:Nat),.int .u16 (a2:Nat),.int .u16 (a3:Nat),.int .u16 (a4:Nat),.int .u16 (a5:Nat),.int .u16 (a6:Nat),.int .u16 (a7:Nat)] 26)).alloc (.cells #[.int .u8 0,.string ⟨#[]⟩,.int .u32 0,.int .u16 0,.int .u16 0,.int .u16 0,.int .u16 0,.int .u16 0,.int .u16 0,.int .u16 0,.int .u16 0] 26)).cell? ⟨w.heap.size,1,none⟩=some (.string n):=cell_of_row _ _ 1 _ _ _ A0;have F2:((w.alloc (.cells #[.int .u8 (k:Nat),.string n,.int .u32 (f:Nat),.int .u16 (a0:Nat),.int .u16 (a1:Nat),.int .u16 (a2:Nat),.int .u16 (a3:Nat),.int .u16 (a4:Nat),.int .u16 (a5:Nat),.int .u16 (a6:Nat),.int .u16 (a7:Nat)] 26)).alloc (.cells #[.int .u8 0,.string ⟨#[]⟩,.int .u32 0,.int .u16 0,.int .u16 0,.int .u16 0,.int .u16 0,.int .u16 0,.int .u16 0,.int .u16 0,.int .u16 0] 26)).cell? ⟨w.heap.size,2,none⟩=some (.int .u32 (f:Nat)):=cell_of_row _ _ 2 _ _ _ A0;have F3:((w.alloc (.cells #[.int .u8 (k:Nat),.string n,.int .u32 (f:Nat),.int .u16 (a0:Nat),.int .u16 (a1:Nat),.int .u16 (a2:Nat),.int .u16 (a3:Nat),.int .u16 (a4:Nat),.int .u16 (a5:Nat),.int .u16 (a6:Nat),.int .u16 (a7:Nat)] 26)).alloc (.cells #[.int .u8 0,.string ⟨#[]⟩,.int .u32 0,.int .u16 0,.int .u16 0,.int .u16 0,.int .u16 0,.int .u16 0,.int .u16 0,.int .u16 0,.int .u16 0] 26)).cell? ⟨w.heap.size,3,none⟩=some (.int .u16 (a0:Nat)):=cell_of_row _ _ 3 _ _ _ A0;have F4:((w.alloc (.cells #[.int .u8 (k:Nat),.string n,.int .u32 (f:Nat),.int .u16 (a0:Nat),.int .u16 (a1:Nat),.int .u16 (a2:Nat),.int .u16 (a3:Nat),.int .u16 (a4:Nat),.int .u16 (a5:Nat),.int .u16 (a6:Nat),.int .u16 (a7:Nat)] 26)).alloc (.cells #[.int .u8 0,.string ⟨#[]⟩,.int .u32 0,.int .u16 0,.int .u16 0,.int .u16 0,.int .u16 0,.int .u16 0,.int .u16 0,.int .u16 0,.int .u16 0] 26)).cell? ⟨w.heap.size,4,none⟩=some (.int .u16 (a1:Nat)):=cell_of_row _ _ 4 _ _ _ A0;have F5:((w.alloc (.cells #[.int .u8 (k:Nat),.string n,.int .u32 (f:Nat),.int .u16 (a0:Nat),.int .u16 (a1:Nat),.int .u16 (a2:Nat),.int .u16 (a3:Nat),.int .u16 (a4:Nat),.int .u16 (a5:Nat),.int .u16 (a6:Nat),.int .u16 (a7:Nat)] 26)).alloc (.cells #[.int .u8 0,.string ⟨#[]⟩,.int .u32 0,.int .u16 0,.int .u16 0,.int .u16 0,.int .u16 0,.int .u16 0,.int .u16 0,.int .u16 0,.int .u16 0] 26)).cell? ⟨w.heap.size,5,none⟩=some (.int .u16 (a2:Nat)):=cell_of_row _ _ 5 _ _ _ A0;have F6:((w.alloc (.cells #[.int .u8 (k:Nat),.string n,.int .u32 (f:Nat),.int .u16 (a0:Nat),.int .u16 (a1:Nat),.int .u16 (a2:Nat),.int .u16 (a3:Nat),.int .u16 (a4:Nat),.int .u16 (a5:Nat),.int .u16 (a6:Nat),.int .u16 (a7:Nat)] 26)).alloc (.cells #[.int .u8 0,.string ⟨#[]⟩,.int .u32 0,.int .u16 0,.int .u16 0,.int .u16 0,.int .u16 0,.int .u16 0,.int .u16 0,.int .u16 0,.int .u16 0] 26)).cell? ⟨w.heap.size,6,none⟩=some (.int .u16 (a3:Nat)):=cell_of_row _ _ 6 _ _ _ A0;have F7:((w.alloc (.cells #[.int .u8 (k:Nat),.string n,.int .u32 (f:Nat),.int .u16 (a0:Nat),.int .u16 (a1:Nat),.int .u16 (a2:Nat),.int .u16 (a3:Nat),.int .u16 (a4:Nat),.int .u16 (a5:Nat),.int .u16 (a6:Nat),.int .u16 (a7:Nat)] 26)).alloc (.cells #[.int .u8 0,.string ⟨#[]⟩,.int .u32 0,.int .u16 0,.int .u16 0,.int .u16 0,.int .u16 0,.int .u16 0,.int .u16 0,.int .u16 0,.int .u16 0] 26)).cell? ⟨w.heap.size,7,none⟩=some (.int .u16 (a4:Nat)):=cell_of_row _ _ 7 _ _ _ A0;have F8:((w.alloc (.cells #[.int .u8 (k:Nat),.string n,.int .u32 (f:Nat),.int .u16 (a0:Nat),.int .u16 (a1:Nat),.int .u16 (a2:Nat),.int .u16 (a3:Nat),.int .u16 (a4:Nat),.int .u16 (a5:Nat),.int .u16 (a6:Nat),.int .u16 (a7:Nat)] 26)).alloc (.cells #[.int .u8 0,.string ⟨#[]⟩,.int .u32 0,.int .u16 0,.int .u16 0,.int .u16 0,.int .u16 0,.int .u16 0,.int .u16 0,.int .u16 0,.int .u16 0] 26)).cell? ⟨w.heap.size,8,none⟩=some (.int .u16 (a5:Nat)):=cell_of_row _ _ 8 _ _ _ A0;have F9:((w.alloc (.cells #[.int .u8 (k:Nat),.string n,.int .u32 (f:Nat),.int .u16 (a0:Nat),.int .u16 (a1:Nat),.int .u16 (a2:Nat),.int .u16 (a3:Nat),.int .u16 (a4:Nat),.int .u16 (a5:Nat),.int .u16 (a6:Nat),.int .u16 (a7:Nat)] 26)).alloc (.cells #[.int .u8 0,.string ⟨#[]⟩,.int .u32 0,.int .u16 0,.int .u16 0,.int .u16 0,.int .u16 0,.int .u16 0,.int .u16 0,.int .u16 0,.int .u16 0] 26)).cell? ⟨w.heap.size,9,none⟩=some (.int .u16 (a6:Nat)):=cell_of_row _ _ 9 _ _ _ A0;have F10:((w.alloc (.cells #[.int .u8 (k:Nat),.string n,.int .u32 (f:Nat),.int .u16 (a0:Nat),.int .u16 (a1:Nat),.int .u16 (a2:Nat),.int .u16 (a3:Nat),.int .u16 (a4:Nat),.int .u16 (a5:Nat),.int .u16 (a6:Nat),.int .u16 (a7:Nat)] 26)).alloc (.cells #[.int .u8 0,.string ⟨#[]⟩,.int .u32 0,.int .u16 0,.int .u16 0,.int .u16 0,.int .u16 0,.int .u16 0,.int .u16 0,.int .u16 0,.int .u16 0] 26)).cell? ⟨w.heap.size,10,none⟩=some (.int .u16 (a7:Nat)):=cell_of_row _ _ 10 _ _ _ A0;have D0:((w.alloc (.cells #[.int .u8 (k:Nat),.string n,.int .u32 (f:Nat),.int .u16 (a0:Nat),.int .u16 (a1:Nat),.int .u16 (a2:Nat),.int .u16 (a3:Nat),.int .u16 (a4:Nat),.int .u16 (a5:Nat),.int .u16 (a6:Nat),.int .u16 (a7:Nat)] 26)).alloc (.cells #[.int .u8 0,.string ⟨#[]⟩,.int .u32 0,.int .u16 0,.int .u16 0,.int .u16 0,.int .u16 0,.int .u16 0,.int .u16 0,.int .u16 0,.int .u16 0] 26)).cell? ⟨(w.heap.size+1),0,none⟩=some (.int .u8 0):=cell_of_row _ _ 0 _ _ _ A1;have D1:((w.alloc (.cells #[.int .u8 (k:Nat),.string n,.int .u32 (f:Nat),.int .u16 (a0:Nat),.int .u16 (a1:Nat),.int .u16 (a2:Nat),.int .u16 (a3:Nat),.int .u16 (a4:Nat),.int .u16 (a5:Nat),.int .u16 (a6:Nat),.int .u16 (a7:Nat)] 26)).alloc (.cells #[.int .u8 0,.string ⟨#[]⟩,.int .u32 0,.int .u16 0,.int .u16 0,.int .u16 0,.int .u16 0,.int .u16 0,.int .u16 0,.int .u16 0,.int .u16 0] 26)).cell? ⟨(w.heap.size+1),1,none⟩=some (.string ⟨#[]⟩):=cell_of_row _ _ 1 _ _ _ A1;have D2:((w.alloc (.cells #[.int .u8 (k:Nat),.string n,.int .u32 (f:Nat),.int .u16 (a0:Nat),.int .u16 (a1:Nat),.int .u16 (a2:Nat),.int .u16 (a3:Nat),.int .u16 (a4:Nat),.int .u16 (a5:Nat),.int .u16 (a6:Nat),.int .u16 (a7:Nat)] 26)).alloc (.cells #[.int .u8 0,.string ⟨#[]⟩,.int .u32 0,.int .u16 0,.int .u16 0,.int .u16 0,.int .u16 0,.int .u16 0,.int .u16 0,.int .u16 0,.int .u16 0] 26)).cell? ⟨(w.heap.size+1),2,none⟩=some (.int .u32 0):=cell_of_row _ _ 2 _ _ _ A1;have D3:((w.alloc (.cells #[.int .u8 (k:Nat),.string n,.int .u32 (f:Nat),.int .u16 (a0:Nat),.int .u16 (a1:Nat),.int .u16 (a2:Nat),.int .u16 (a3:Nat),.int .u16 (a4:Nat),.int .u16 (a5:Nat),.int .u16 (a6:Nat),.int .u16 (a7:Nat)] 26)).alloc (.cells #[.int .u8 0,.string ⟨#[]⟩,.int .u32 0,.int .u16 0,.int .u16 0,.int .u16 0,.int .u16 0,.int .u16 0,.int .u16 0,.int .u16 0,.int .u16 0] 26)).cell? ⟨(w.heap.size+1),3,none⟩=some (.int .u16 0):=cell_of_row _ _ 3 _ _ _ A1;have D4:((w.alloc (.cells #[.int .u8 (k:Nat),.string n,.int .u32 (f:Nat),.int .u16 (a0:Nat),.int .u16 (a1:Nat),.int .u16 (a2:Nat),.int .u16 (a3:Nat),.int .u16 (a4:Nat),.int .u16 (a5:Nat),.int .u16 (a6:Nat),.int .u16 (a7:Nat)] 26)).alloc (.cells #[.int .u8 0,.string ⟨#[]⟩,.int .u32 0,.int .u16 0,.int .u16 0,.int .u16 0,.int .u16 0,.int .u16 0,.int .u16 0,.int .u16 0,.int .u16 0] 26)).cell? ⟨(w.heap.size+1),4,none⟩=some (.int .u16 0):=cell_of_row _ _ 4 _ _ _ A1;have D5:((w.alloc (.cells #[.int .u8 (k:Nat),.string n,.int .u32 (f:Nat),.int .u16 (a0:Nat),.int .u16 (a1:Nat),.int .u16 (a2:Nat),.int .u16 (a3:Nat),.int .u16 (a4:Nat),.int .u16 (a5:Nat),.int .u16 (a6:Nat),.int .u16 (a7:Nat)] 26)).alloc (.cells #[.int .u8 0,.string ⟨#[]⟩,.int .u32 0,.int .u16 0,.int .u16 0,.int .u16 0,.int .u16 0,.int .u16 0,.int .u16 0,.int .u16 0,.int .u16 0] 26)).cell? ⟨(w.heap.size+1),5,none⟩=some (.int .u16 0):=cell_of_row _ _ 5 _ _ _ A1;have D6:((w.alloc (.cells #[.int .u8 (k:Nat),.string n,.int .u32 (f:Nat),.int .u16 (a0:Nat),.int .u16 (a1:Nat),.int .u16 (a2:Nat),.int .u16 (a3:Nat),.int .u16 (a4:Nat),.int .u16 (a5:Nat),.int .u16 (a6:Nat),.int .u16 (a7:Nat)] 26)).alloc (.cells #[.int .u8 0,.string ⟨#[]⟩,.int .u32 0,.int .u16 0,.int .u16 0,.int .u16 0,.int .u16 0,.int .u16 0,.int .u16 0,.int .u16 0,.int .u16 0] 26)).cell? ⟨(w.heap.size+1),6,none⟩=some (.int .u16 0):=cell_of_row _ _ 6 _ _ _ A1;have D7:((w.alloc (.cells #[.int .u8 (k:Nat),.string n,.int .u32 (f:Nat),.int .u16 (a0:Nat),.int .u16 (a1:Nat),.int .u16 (a2:Nat),.int .u16 (a3:Nat),.int .u16 (a4:Nat),.int .u16 (a5:Nat),.int .u16 (a6:Nat),.int .u16 (a7:Nat)] 26)).alloc (.cells #[.int .u8 0,.string ⟨#[]⟩,.int .u32 0,.int .u16 0,.int .u16 0,.int .u16 0,.int .u16 0,.int .u16 0,.int .u16 0,.int .u16 0,.int .u16 0] 26)).cell? ⟨(w.heap.size+1),7,none⟩=some (.int .u16 0):=cell_of_row _ _ 7 _ _ _ A1;have D8:((w.alloc (.cells #[.int .u8 (k:Nat),.string n,.int .u32 (f:Nat),.int .u16 (a0:Nat),.int .u16 (a1:Nat),.int .u16 (a2:Nat),.int .u16 (a3:Nat),.int .u16 (a4:Nat),.int .u16 (a5:Nat),.int .u16 (a6:Nat),.int .u16 (a7:Nat)] 26)).alloc (.cells #[.int .u8 0,.string ⟨#[]⟩,.int .u32 0,.int .u16 0,.int .u16 0,.int .u16 0,.int .u16 0,.int .u16 0,.int .u16 0,.int .u16 0,.int .u16 0] 26)).cell? ⟨(w.heap.size+1),8,none⟩=some (.int .u16 0):=cell_of_row _ _ 8 _ _ _ A1;have D9:((w.alloc (.cells #[.int .u8 (k:Nat),.string n,.int .u32 (f:Nat),.int .u16 (a0:Nat),.int .u16 (a1:Nat),.int .u16 (a2:Nat),.int .u16 (a3:Nat),.int .u16 (a4:Nat),.int .u16 (a5:Nat),.int .u16 (a6:Nat),.int .u16 (a7:Nat)] 26)).alloc (.cells #[.int .u8 0,.string ⟨#[]⟩,.int .u32 0,.int .u16 0,.int .u16 0,.int .u16 0,.int .u16 0,.int .u16 0,.int .u16 0,.int .u16 0,.int .u16 0] 26)).cell? ⟨(w.heap.size+1),9,none⟩=some (.int .u16 0):=cell_of_row _ _ 9 _ _ _ A1;have D10:((w.alloc (.cells #[.int .u8 (k:Nat),.string n,.int .u32 (f:Nat),.int .u16 (a0:Nat),.int .u16 (a1:Nat),.int .u16 (a2:Nat),.int .u16 (a3:Nat),.int .u16 (a4:Nat),.int .u16 (a5:Nat),.int .u16 (a6:Nat),.int .u16 (a7:Nat)] 26)).alloc (.cells #[.int .u8 0,.string ⟨#[]⟩,.int .u32 0,.int .u16 0,.int .u16 0,.int .u16 0,.int .u16 0,.int .u16 0,.int .u16 0,.int .u16 0,.int .u16 0] 26)).cell? ⟨(w.heap.size+1),10,none⟩=some (.int .u16 0):=cell_of_row _ _ 10 _ _ _ A1;clear hsz A1 hG;show Calls Tryz.prog _ #[hv (k:Nat) n (f:Nat) (a0:Nat) (a1:Nat) (a2:Nat) (a3:Nat) (a4:Nat) (a5:Nat) (a6:Nat) (a7:Nat)] w _
 by_cases h0:(k,bn n,f,[a0,a1,a2,a3,a4,a5,a6,a7])=(0,bn ⟨#[]⟩,0,[0,0,0,0,0,0,0,0])
 ·rw[decide_eq_true h0]at HEQ
  have HM:Hid (May IA (k,bn n,f,[a0,a1,a2,a3,a4,a5,a6,a7],0) true):=by
   show May _ _ _
   have e:((k,bn n,f,[a0,a1,a2,a3,a4,a5,a6,a7],0):Hst)=non 0:=by
    simp only[Prod.mk.injEq]at h0;obtain⟨h1,h2,h3,h4⟩:=h0;rw[h1,h2,h3,h4];rfl
   unfold May;rw[if_pos e]
  have hE:=HEQ.out;clear h0 HEQ HT HGK A0;go_enter Tryz.func13,Tryz.ntmps13
  go_wp2;go_ret;exact⟨⟨true,HM.out,rfl⟩,HB.out⟩
 ·rw[decide_eq_false h0]at HEQ
  have hE:=HEQ.out;clear HEQ;have HSM:Sm w (hcs (k:Nat) n (f:Nat) (a0:Nat) (a1:Nat) (a2:Nat) (a3:Nat) (a4:Nat) (a5:Nat) (a6:Nat) (a7:Nat)) ((w.alloc (.cells #[.int .u8 (k:Nat),.string n,.int .u32 (f:Nat),.int .u16 (a0:Nat),.int .u16 (a1:Nat),.int .u16 (a2:Nat),.int .u16 (a3:Nat),.int .u16 (a4:Nat),.int .u16 (a5:Nat),.int .u16 (a6:Nat),.int .u16 (a7:Nat)] 26)).alloc (.cells #[.int .u8 0,.string ⟨#[]⟩,.int .u32 0,.int .u16 0,.int .u16 0,.int .u16 0,.int .u16 0,.int .u16 0,.int .u16 0,.int .u16 0,.int .u16 0] 26)):=⟨A0,HB.out⟩;have HCP:∀ t W,bn t=txt (k,bn n,f,[a0,a1,a2,a3,a4,a5,a6,a7],0)→Below w.heap.size w W→Calls Tryz.prog 9 #[.string t,.bool (decide (k≠4))] W fun e W'=>ib IA (bn t) (decide (k≠4)) W e W':=fun t W ht hb=>mC t _ (by rw[←aa,ht];exact zT (by rw[aa];omega) hf rfl) W (HGK.out W hb)
  have HTX:∀ W,Below w.heap.size w W→Calls Tryz.prog 11 #[hv (k:Nat) n (f:Nat) (a0:Nat) (a1:Nat) (a2:Nat) (a3:Nat) (a4:Nat) (a5:Nat) (a6:Nat) (a7:Nat)] W fun e W'=>ia (k,bn n,f,[a0,a1,a2,a3,a4,a5,a6,a7],0) W e W':=fun W hb=>HT.out W (HGK.out W hb)
  have hsp:((k:Int) != 4)=decide (k≠4):=by
   rw[Bool.eq_iff_iff,bne_iff_ne,decide_eq_true_iff];omega
  have HMO:Hid (∀(x:Hst) (b:Bool),HP IA (txt (k,bn n,f,[a0,a1,a2,a3,a4,a5,a6,a7],0)) (decide (k≠4)) x→b=(decide (x.2.2.2.2=0)&&decide ((x.1,x.2.1,x.2.2.1,x.2.2.2.1)=(k,bn n,f,[a0,a1,a2,a3,a4,a5,a6,a7])))→May IA (k,bn n,f,[a0,a1,a2,a3,a4,a5,a6,a7],0) b):=fun x b hp hb=>Gb (fun e=>h0 (by
    have e1:=congrArg (fun h:Hst=>(h.1,h.2.1,h.2.2.1,h.2.2.2.1)) e
    exact e1)) rfl hp hb
  have HH:=hid HCP;have HI:=hid HTX;have HJ:=hid HSM;have HQ:=hid hsp;clear h0 A0 HB HT HGK hz hk hf hs HCP HTX HSM hsp;go_enter Tryz.func13,Tryz.ntmps13
  go_upto_region 4 with fail
  clear F0 F1 F2 F3 F4 F5 F6 F7 F8 F9 F10 D0 D1 D2 D3 D4 D5 D6 D7 D8 D9 D10 hE;refine sV _ k n f a0 a1 a2 a3 a4 a5 a6 a7 (decide (k≠4)) HQ.out _ _ _ _ _ _ _ _ w _ rfl (fun _ _ d _ _ h=>by cases d <;> exact h) HJ.out HI.out HH.out ?_;intro t x n' g W h1 h2 h3 hg hS
  clear HH HI HJ HQ;have hfi:=h2.fine;obtain⟨k',nm,f',a',er⟩:=x;obtain⟨b0,b1,b2,b3,b4,b5,b6,b7,rfl⟩:=eight hfi.a;have hnm:bn n'=nm:=h3;subst hnm;rw[h1]at h2;have HR:=hid (fun b=>HMO.out _ b h2)
  have HEQ:∀ W,(binOp .eql 26 (hv (k':Nat) n' (f':Nat) (b0:Nat) (b1:Nat) (b2:Nat) (b3:Nat) (b4:Nat) (b5:Nat) (b6:Nat) (b7:Nat)) (hv (k:Nat) n (f:Nat) (a0:Nat) (a1:Nat) (a2:Nat) (a3:Nat) (a4:Nat) (a5:Nat) (a6:Nat) (a7:Nat))).run Tryz.prog W=.ok (.bool (decide ((k',bn n',f',[b0,b1,b2,b3,b4,b5,b6,b7])=(k,bn n,f,[a0,a1,a2,a3,a4,a5,a6,a7])))) W:=fun W=>by
   rw[dF];exact congrArg (fun b=>Result.ok (Value.bool b) W) (uQ k' k f' f n' n b0 b1 b2 b3 b4 b5 b6 b7 a0 a1 a2 a3 a4 a5 a6 a7)
  have HB:=hid hS.2;have F0:W.cell? ⟨w.heap.size,0,none⟩=some (.int .u8 (k:Nat)):=cell_of_row _ _ 0 _ _ _ hS.1;have F1:W.cell? ⟨w.heap.size,1,none⟩=some (.string n):=cell_of_row _ _ 1 _ _ _ hS.1;have F2:W.cell? ⟨w.heap.size,2,none⟩=some (.int .u32 (f:Nat)):=cell_of_row _ _ 2 _ _ _ hS.1;have F3:W.cell? ⟨w.heap.size,3,none⟩=some (.int .u16 (a0:Nat)):=cell_of_row _ _ 3 _ _ _ hS.1;have F4:W.cell? ⟨w.heap.size,4,none⟩=some (.int .u16 (a1:Nat)):=cell_of_row _ _ 4 _ _ _ hS.1;have F5:W.cell? ⟨w.heap.size,5,none⟩=some (.int .u16 (a2:Nat)):=cell_of_row _ _ 5 _ _ _ hS.1;have F6:W.cell? ⟨w.heap.size,6,none⟩=some (.int .u16 (a3:Nat)):=cell_of_row _ _ 6 _ _ _ hS.1;have F7:W.cell? ⟨w.heap.size,7,none⟩=some (.int .u16 (a4:Nat)):=cell_of_row _ _ 7 _ _ _ hS.1;have F8:W.cell? ⟨w.heap.size,8,none⟩=some (.int .u16 (a5:Nat)):=cell_of_row _ _ 8 _ _ _ hS.1;have F9:W.cell? ⟨w.heap.size,9,none⟩=some (.int .u16 (a6:Nat)):=cell_of_row _ _ 9 _ _ _ hS.1;have F10:W.cell? ⟨w.heap.size,10,none⟩=some (.int .u16 (a7:Nat)):=cell_of_row _ _ 10 _ _ _ hS.1;have D0:W.cell? ⟨g,0,none⟩=some (.int .u8 (k':Nat)):=cell_of_row _ _ 0 _ _ _ hg;have D1:W.cell? ⟨g,1,none⟩=some (.string n'):=cell_of_row _ _ 1 _ _ _ hg;have D2:W.cell? ⟨g,2,none⟩=some (.int .u32 (f':Nat)):=cell_of_row _ _ 2 _ _ _ hg;have D3:W.cell? ⟨g,3,none⟩=some (.int .u16 (b0:Nat)):=cell_of_row _ _ 3 _ _ _ hg;have D4:W.cell? ⟨g,4,none⟩=some (.int .u16 (b1:Nat)):=cell_of_row _ _ 4 _ _ _ hg;have D5:W.cell? ⟨g,5,none⟩=some (.int .u16 (b2:Nat)):=cell_of_row _ _ 5 _ _ _ hg;have D6:W.cell? ⟨g,6,none⟩=some (.int .u16 (b3:Nat)):=cell_of_row _ _ 6 _ _ _ hg;have D7:W.cell? ⟨g,7,none⟩=some (.int .u16 (b4:Nat)):=cell_of_row _ _ 7 _ _ _ hg;have D8:W.cell? ⟨g,8,none⟩=some (.int .u16 (b5:Nat)):=cell_of_row _ _ 8 _ _ _ hg;have D9:W.cell? ⟨g,9,none⟩=some (.int .u16 (b6:Nat)):=cell_of_row _ _ 9 _ _ _ hg;have D10:W.cell? ⟨g,10,none⟩=some (.int .u16 (b7:Nat)):=cell_of_row _ _ 10 _ _ _ hg;clear hg hS h1 h2 h3 hfi HMO
  generalize hE2:decide ((k',bn n',f',[b0,b1,b2,b3,b4,b5,b6,b7])=(k,bn n,f,[a0,a1,a2,a3,a4,a5,a6,a7]))=eb at *
  by_cases he:er=0
  ·subst he
   have HM:Hid (May IA (k,bn n,f,[a0,a1,a2,a3,a4,a5,a6,a7],0) eb):=HR.out eb (by simp only[decide_true,Bool.true_and]);clear HR hE2;show Exit.then _ _ .normal _ _
   go_wp2;go_ret;exact⟨⟨eb,HM.out,rfl⟩,HB.out⟩
  ·have hen:(er==0)=false:=by simpa using he
   have HM:Hid (May IA (k,bn n,f,[a0,a1,a2,a3,a4,a5,a6,a7],0) false):=HR.out false (by rw[decide_eq_false he,Bool.false_and]);clear HR hE2 he;show Exit.then _ _ .normal _ _
   go_wp2;go_ret;exact⟨⟨false,HM.out,rfl⟩,HB.out⟩
theorem ctr:Ctr IA GH where
 asc:=asc
 keep:=fun w w' h hb=>h.below hb
 cp:=fun s sp w hs h=>mC s sp hs w h
 ct:=fun k n f a w hz hk hf ha hs h=>by
  obtain⟨a0,a1,a2,a3,a4,a5,a6,a7,rfl⟩:=eight ha;exact jg k n f a0 a1 a2 a3 a4 a5 a6 a7 hz hk hf hs w h
 cm:=fun k n f a w hz hk hf ha hs h=>by
  obtain⟨a0,a1,a2,a3,a4,a5,a6,a7,rfl⟩:=eight ha;exact CN k n f a0 a1 a2 a3 a4 a5 a6 a7 hz hk hf hs w h
end Go.Proofs.YtkekkbciiohbkaaGreatDoor.H
namespace Go.Proofs
open Go.Shelf Go.RowKit
shelf_lay LaysM.n147 Nm 147 at Tryz as Tryz.laysSplM
end Go.Proofs
namespace Go.Proofs.YtkekkbciiohbkaaGreatDoor
open Go.ChangeShapes Go.WideShapes Go.ChangeAt Go.RowKit
set_option maxRecDepth 100000
theorem own:ownKnob Tryz.prog.godebug=none:=by kernel_rfl
theorem laidOut:laidOutB Tryz.prog=true:=by kernel_rfl
abbrev laidL:List (String×DataW Unit):=Rows.hostTellsRow.laid
abbrev nmT:String:=((Rows.hostTellsRow.laid.map (·.1)).drop 1).headD default
abbrev nmP:String:=((Rows.hostTellsRow.laid.map (·.1)).drop 2).headD default
theorem kW{P:Program}{w:World}{n:String}{d:DataW Unit}:∀ {l:List (String×DataW Unit)} {ps:List MemPlace},DataW.LaidVars P w l ps→(n,d)∈l→∃ g t cs fuel p,P.globalNamed n=some g∧(P.globals[g]?).map (·.type)=some t∧w.var? P n=some cs∧DataW.trod (fun _=>()) P w 0 (fun _=>true) false fuel t cs.toList=some (d,p)
 | [],_,_,h=>by cases h
 | (m,e)::r,ps,hL,h=>by
  obtain⟨g,t,cs,fuel,p,q,h1,h2,h3,h4,h5,_⟩:=hL;rcases List.mem_cons.1 h with h | h
  ·cases h
   exact⟨g,t,cs,fuel,p,h1,h2,h3,h4⟩
  ·exact kW h5 h
theorem of_pow{W:World}(h:laidMetH Tryz.prog laidL W):F.Pow W:=by
 rw[MakeChecks.laidMetH_plain _ _ _ (by kernel_rfl)]at h;obtain⟨ps,hL,_,_⟩:=h;obtain⟨g2,t2,cs2,f2,p2,hg2,ht2,hv2,hd2⟩:=kW (n:=nmP) (d:=Rows.laid_internal_strconv_uint64pow10) hL (List.mem_of_getElem? (i:=2) rfl);have gP:Tryz.prog.globalNamed nmP=some 0:=by kernel_rfl
 obtain rfl:=Option.some.inj (gP.symm.trans hg2);obtain rfl:=Option.some.inj ((show(Tryz.prog.globals[0]?).map (·.type)=some 190 by kernel_rfl).symm.trans ht2)
 have hT:Lib.TabIs Tryz.prog W nmP .u64 Lib.pow10Tab:=by
  unfold Lib.TabIs;refine hv2.trans ?_;rw[←Lib.cells_of_tab (zs:=Lib.pow10Tab) Tryz.underlying190 Tryz.underlying55 (by kernel_rfl) (by kernel_rfl) hd2]
 unfold Lib.TabIs World.var? at hT
 rw[gP]at hT;exact hT
theorem FI{W:World}(h:laidMetH Tryz.prog laidL W):X.Tab W:=by
 rw[MakeChecks.laidMetH_plain _ _ _ (by kernel_rfl)]at h;obtain⟨ps,hL,_,_⟩:=h;obtain⟨g,t,cs,fuel,p,h1,h2,h3,h4⟩:=kW (n:=nmT) (d:=Rows.laid_math_bits_deBruijn64tab) hL (List.mem_of_getElem? (i:=1) rfl);obtain rfl:=Option.some.inj ((show Tryz.prog.globalNamed nmT=some 3 by kernel_rfl).symm.trans h1);obtain rfl:=Option.some.inj ((show(Tryz.prog.globals[3]?).map (·.type)=some 266 by kernel_rfl).symm.trans h2);obtain⟨xs,m,_,ex,_,hl,hel⟩:=DataW.trod_array Tryz.underlying266 h4;have c5:Tryz.prog.cellsOf 5=1:=by kernel_rfl
 have hE:=hel 15 (by decide);rw[c5,Nat.mul_one,List.getElem?_eq_getElem (by omega)]at hE;obtain⟨z,e1,e2,_⟩:=DataW.trod_int Tryz.underlying5 hE;have e3:xs.map (·.1)=_:=(DataW.agg.inj (Prod.mk.inj ex).1).symm;have e4:(xs.map (·.1))[15]? = some (.lit (.int .u8 4)):=by rw[e3];rfl
 rw[List.getElem?_map,List.getElem?_eq_getElem (by omega:15<xs.length)]at e4
 have hz:z=4:=by
  have e5:xs[15].1=DataW.lit (.int .u8 4):=Option.some.inj e4;rw[congrArg Prod.fst e2]at e5
  simpa using e5
 unfold X.Tab;rw[World.var?_cell h1 h3 15];have:((cs.toList.drop 15).take 1)[0]? = some (.int .u8 z):=by rw[e1];rfl
 rw[hz]at this
 simpa using this
abbrev nmR:String:=((Rows.hostTellsRow.laid.map (·.1)).drop 4).headD default
abbrev nmS:String:=((Rows.hostTellsRow.laid.map (·.1)).drop 5).headD default
theorem FJ{W:World}(h:laidMetH Tryz.prog laidL W):X.Er W:=by
 rw[MakeChecks.laidMetH_plain _ _ _ (by kernel_rfl)]at h;obtain⟨ps,hL,_,_⟩:=h
 have one:∀(n:String) (gg:Nat) (nm:String) (d:DataW Unit),(n,DataW.iface nm d)∈laidL→Tryz.prog.globalNamed n=some gg→(Tryz.prog.globals[gg]?).map (·.type)=some 129→∃ ev,W.cell? ⟨gg,0,none⟩=some ev∧X.G5 ev:=by
  intro n gg nm d hm hn ht
  obtain⟨g,t,cs,fuel,p,h1,h2,h3,h4⟩:=kW hL hm;obtain rfl:=Option.some.inj (hn.symm.trans h1);obtain rfl:=Option.some.inj (ht.symm.trans h2);obtain⟨_,u,v,hc,_⟩:=iface_of_trod Tryz.underlying129 h4;refine⟨.iface u v,?_,.inr ⟨u,v,rfl⟩⟩;rw[World.var?_cell h1 h3 0];have:cs.toList[0]? = some (.iface u v):=by rw[hc];rfl
  simpa using this
 exact⟨one nmS 4 _ _ (List.mem_of_getElem? (i:=5) rfl) (by kernel_rfl) (by kernel_rfl),one nmR 5 _ _ (List.mem_of_getElem? (i:=4) rfl) (by kernel_rfl) (by kernel_rfl)⟩
theorem door_met(os:Os)(args:Array Value):laidMetH Tryz.prog laidL ((World.laidAll Tryz.prog os laidL).forCall (fun _ _=>0) ⟨#[],args,[]⟩).memory:=by
 rw[MakeChecks.laidMetH_plain _ _ _ (by kernel_rfl)];exact laidMet_laidAll _ (by kernel_rfl) (by kernel_rfl)
theorem door_shaped(os:Os)(args:Array Value):((World.laidAll Tryz.prog os laidL).forCall (fun _ _=>0) ⟨#[],args,[]⟩).Shaped Tryz.prog:=World.shaped_of_ZipB (by kernel_rfl) (by kernel_rfl)
theorem of_shape{W:World}(h:W.ShapedOpen Tryz.prog):F.Max W:=by
 obtain⟨m,hm⟩:=Tryz.laysSplM.s1_3 W h;have hg:Tryz.laysSplM_ren.g 1=1:=by kernel_rfl
 rw[hg]at hm;exact⟨m,hm⟩
theorem of_six{W:World}(h:laidMetH Tryz.prog laidL W)(hS:W.ShapedOpen Tryz.prog):X.GX W:=⟨FI h,FJ h,of_shape hS⟩
theorem returns_shaped{H:Type}{enc:TypeId×Value→H}{os:Os}{f:FuncId}{fn:Func}{s:ChangeSpec}(started:os.Started)(noInit:Tryz.checked.prog.inits.idxOf? f=none)(hfn:Tryz.checked.prog.funcs[f]? = some fn){X:World→Array Value→Prop}
  (hX:∀(w w':World) (args:Array Value),w.heap=w'.heap→X w args→X w' args)
  (wit:∃(w:World) (tape:Tape) (i:Input),w.os=os∧(w.forCall tape i).Shaped Tryz.checked.prog∧i.vars=[]∧Input.okWide Tryz.checked.prog (w.forCall tape i) .any w.heap.size f i ∧
    ((s.pre enc Tryz.checked.prog fn [] false (w.forCall tape i).memory i.args∧X (w.forCall tape i).memory i.args)∧sizedMet enc Tryz.checked.prog fn (OpenSpec.ofChange s) false (w.forCall tape i).memory i.args)∧Assume.holds {} Tryz.checked.prog (lone (Frame.enter Tryz.checked.prog f i.args .normal) [] (w.forCall tape i)))
  (con:∀(W:World) (base:Nat) (args:Array Value) (ds gs:List (DataW H)) (before:List MemPlace),
    (∀(j:Nat) t v,fn.params[j]? = some t→args[j]? = some v→Value.okWide Tryz.checked.prog W .any base t v) →
    DataW.Whole enc Tryz.checked.prog fn.params.toList s.vars false W args.toList ds gs before→X W args→W.ShapedOpen Tryz.checked.prog →
    Calls Tryz.checked.prog f args W fun e W'=>∃ v,e=.returned v∧s.post enc Tryz.checked.prog fn false true false false W args v W') :
  ReturnsInHanded {} Tryz.checked os f .any (fun w args=>(s.pre enc Tryz.checked.prog fn [] false w args∧X w args)∧sizedMet enc Tryz.checked.prog fn (OpenSpec.ofChange s) false w args) (s.post enc Tryz.checked.prog fn false true false false):=by
 refine returnsInHanded_of_calls own started noInit wit (fun w tape i _ sh _ ok pre _=>?_);obtain⟨_,_,_,fn2,e2,_,_,_,_,cC⟩:=ok;cases Option.some.inj (e2.symm.trans hfn)
 obtain⟨⟨⟨ds,gs,bf,whole,_⟩,x⟩,_⟩:=pre;refine(con (w.forCall tape i) w.heap.size i.args ds gs bf cC (DataW.Whole.of_heap (w:=(w.forCall tape i).memory) (w':=w.forCall tape i) (by rfl) whole) (hX (w.forCall tape i).memory (w.forCall tape i) _ (by rfl) x) sh).mono ?_;rintro e W' ⟨v,rfl,post⟩
 exact ChangeSpec.post_blind post
end Go.Proofs.YtkekkbciiohbkaaGreatDoor
