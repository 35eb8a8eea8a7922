/- Texts one behind the other: VE. -/
import Derived.Test.YtkekkbciiohbkaaGreatDoorZ39
import Derived.Test.YtkekkbciiohbkaaGreatDoorZR2
import Derived.Deep.QuietTactic
import Derived.BigQuiet
set_option maxRecDepth 100000
set_option maxHeartbeats 16000000
set_option linter.unusedVariables false
set_option linter.unnecessarySimpa false
namespace Go.Proofs.YtkekkbciiohbkaaGreatDoor.H
open Go.RowKit
open Go.Proofs.YtkekkbciiohbkaaGreatDoor.F (bn aa av aq ar hid aj ab ah aR aK)
theorem vK{A:List Int→List Int→Int→Prop}{sp:Bool}{h:Hst}(r:EP A sp h)(h0:h.2.2.2.2=0)(hl:(txt h).length≤4096)(hz:h.1=0→h=non 0)(hA:Asc A){b:Bool}(hb:May A h b):b=true:=by
 unfold May at hb
 split at hb
 ·exact hb
 ·rename_i hne
  rw[if_neg (by omega)]at hb;obtain⟨x,hx,rfl⟩:=hb;have hk0:h.1≠0:=fun e=>hne (hz e)
  have hs:HP A (txt h) (decide (h.1≠4)) h:=by
   by_cases h4:h.1=4
   ·have:=r.kind.2.1 h4
    have e:=r.same;rw[this]at e;rw[show decide (h.1≠4)=false by simp[h4]];exact e
   ·rw[show decide (h.1≠4)=true by simp[h4]]
    cases sp with
    | true=>exact r.same
    | false =>
     have e:=r.same;by_cases h3:h.1=3
     ·have ht:(txt h).head? = some 91:=by unfold txt;rw[if_neg (by omega),if_neg (by omega),if_pos h3];rfl
      unfold HP at e ⊢
      rw[if_neg (by omega),if_pos ht]at e ⊢;exact e
     ·exfalso
      unfold HP at e
      rw[if_neg (by omega)]at e;split at e
      ·unfold six at e
       split at e
       ·split at e
        ·rw[e]at h3;exact h3 rfl
        ·rw[e]at h0;cases h0
       ·rw[e]at h0;cases h0
      ·rw[if_pos rfl]at e
       unfold opq at e
       split at e
       ·rw[e]at h0;cases h0
       ·split at e
        ·rw[e]at hk0;exact hk0 rfl
        ·rw[e]at h4;exact h4 rfl
  obtain rfl:=HP.one hA hs hx;exact decide_eq_true ⟨h0,rfl,hk0⟩
theorem dG{B:Nat}{a w:World}(h:Below B a w)(n:Nat):Below B a (w.drewN n):=h.trans ⟨rfl,rfl,rfl,Nat.le_refl _,fun _ _=>rfl⟩
theorem rests_walk{A:List Int→List Int→Int→Prop}{G:World→Prop}(C:Ctr A G)(s:ByteArray)(sp:Bool)(w:World)(hG:G w)(hs:s.size≤maxLen):
  Calls Tryz.prog 4 #[.string s,.bool sp] w fun e W'=>e=.returned (.bool true)∧Below w.heap.size w W':=by
 unfold maxLen at hs
 have HK:Hid (∀ W,Below w.heap.size w W→G W):=fun W h=>C.keep w W hG h
 have HW:Hid (∀ W,Below w.heap.size w W→Calls Tryz.prog 8 #[] W fun e W'=>e=.returned (.bool true)∧Below W.heap.size W W'):=fun W h=>da C W (HK.out W h)
 have HB:Hid (Below w.heap.size w w):=Below.refl _ _;by_cases h6:600<s.size
 ·have h6z:(600:Int)<(s.size:Int):=by omega
  clear C hG;go_enter Tryz.func4,Tryz.ntmps4
  go_wp2_with(go_at_call 8;refine(HW.out _ HB.out).mono ?_;rintro e w2 ⟨rfl,B2⟩)
  go_ret;exact⟨rfl,B2⟩
 ·have h6z:¬ (600:Int)<(s.size:Int):=by omega
  have HCP:=hid (C.cp s sp w (by omega) hG);have HC:=hid C;clear C hG;go_enter Tryz.func4,Tryz.ntmps4
  go_wp2_with fail;refine HCP.out.mono ?_;rintro e v1 ⟨⟨⟨k,nm,f,a,er⟩,n,x,hn,rfl⟩,B⟩
  have hfi:=x.fine;obtain⟨hk,hf,ha,hsm,herr,⟨hb0,hb1⟩,hnt⟩:=hfi;simp only at hk hf ha hsm herr hb0 hb1 hnt hn
  obtain⟨a0,a1,a2,a3,a4,a5,a6,a7,rfl⟩:=eight ha;show _
  replace HB:=hid (HB.out.trans (B.mono HB.out.size))
  have A1:=hid (heap_alloc_new v1 (.cells #[.int .u8 (k:Int),.string n,.int .u32 (f:Int),.int .u16 (a0:Int),.int .u16 (a1:Int),.int .u16 (a2:Int),.int .u16 (a3:Int),.int .u16 (a4:Int),.int .u16 (a5:Int),.int .u16 (a6:Int),.int .u16 (a7:Int)] 26))
  replace HB:=hid (HB.out.alloc HB.out.size (.cells #[.int .u8 (k:Int),.string n,.int .u32 (f:Int),.int .u16 (a0:Int),.int .u16 (a1:Int),.int .u16 (a2:Int),.int .u16 (a3:Int),.int .u16 (a4:Int),.int .u16 (a5:Int),.int .u16 (a6:Int),.int .u16 (a7:Int)] 26))
  clear B HCP;by_cases he0:er=0
  ·subst he0
   have hkz:(k:Int)≤4:=by omega
   have hbn:bn n=nm:=hn;subst hbn;have hnz:n.size≤400000000:=by rw[←aa];exact x.nlen HC.out.asc (aM s)
   have HT:=hid (fun W h=>HC.out.ct k n f [a0,a1,a2,a3,a4,a5,a6,a7] W hnz (by omega) hf rfl hsm h);have HX:=hid x;clear herr hb0 hb1 hn;have F0:World.cell? _ ⟨v1.heap.size,0,none⟩=some (.int .u8 (k:Int)):=cell_of_row _ _ 0 _ _ _ A1.out;have F1:World.cell? _ ⟨v1.heap.size,1,none⟩=some (.string n):=cell_of_row _ _ 1 _ _ _ A1.out;have F2:World.cell? _ ⟨v1.heap.size,2,none⟩=some (.int .u32 (f:Int)):=cell_of_row _ _ 2 _ _ _ A1.out;have F3:World.cell? _ ⟨v1.heap.size,3,none⟩=some (.int .u16 (a0:Int)):=cell_of_row _ _ 3 _ _ _ A1.out;have F4:World.cell? _ ⟨v1.heap.size,4,none⟩=some (.int .u16 (a1:Int)):=cell_of_row _ _ 4 _ _ _ A1.out;have F5:World.cell? _ ⟨v1.heap.size,5,none⟩=some (.int .u16 (a2:Int)):=cell_of_row _ _ 5 _ _ _ A1.out;have F6:World.cell? _ ⟨v1.heap.size,6,none⟩=some (.int .u16 (a3:Int)):=cell_of_row _ _ 6 _ _ _ A1.out;have F7:World.cell? _ ⟨v1.heap.size,7,none⟩=some (.int .u16 (a4:Int)):=cell_of_row _ _ 7 _ _ _ A1.out;have F8:World.cell? _ ⟨v1.heap.size,8,none⟩=some (.int .u16 (a5:Int)):=cell_of_row _ _ 8 _ _ _ A1.out;have F9:World.cell? _ ⟨v1.heap.size,9,none⟩=some (.int .u16 (a6:Int)):=cell_of_row _ _ 9 _ _ _ A1.out;have F10:World.cell? _ ⟨v1.heap.size,10,none⟩=some (.int .u16 (a7:Int)):=cell_of_row _ _ 10 _ _ _ A1.out
   go_wp2_with fail;refine(HT.out _ (HK.out _ HB.out)).mono ?_;rintro e v2 ⟨⟨t,rfl,ht⟩,B⟩
   replace A1:=hid (ag A1.out B)
   replace HB:=hid (HB.out.trans (B.mono HB.out.size))
   have HTX:=hid ht;clear B HT ht;clear F0 F1 F2 F3 F4 F5 F6 F7 F8 F9 F10;by_cases hl:4096<t.size
   ·have hlz:(4096:Int)<(t.size:Int):=by omega
    clear HX
    go_wp2_with(go_at_call 8;refine(HW.out _ HB.out).mono ?_;rintro e w2 ⟨rfl,B2⟩)
    go_ret;exact⟨rfl,HB.out.trans (B2.mono HB.out.size)⟩
   ·have hlz:¬ (4096:Int)<(t.size:Int):=by omega
    have hlt:(txt (k,bn n,f,[a0,a1,a2,a3,a4,a5,a6,a7],0)).length≤4096:=by rw[←HTX.out,aa];omega
    have hns:n.size≤100000:=by
     rw[←aa];rcases hnt with h | h
     ·rw[h]
      omega
     ·rw[h];decide
    have hrs:=HP.rests HC.out.asc (aM s) HX.out rfl hlt (fun l a h=>⟨X.pj h,X.nW h⟩);have HRS:=hid hrs;have HCP:Hid (∀ W,G W→Calls Tryz.prog 9 #[.string t,.bool sp] W fun e W'=>e=.returned (.tuple #[hv (k:Int) n (f:Int) (a0:Int) (a1:Int) (a2:Int) (a3:Int) (a4:Int) (a5:Int) (a6:Int) (a7:Int),.int .i64 0])∧Below W.heap.size W W'):=fun W h=>HC.out.cpIs (s:=t) (n:=n) (by omega) (by rw[HTX.out];exact hrs.same) rfl W h
    have HMY:Hid (∀ W,G W→Calls Tryz.prog 13 #[hv (k:Int) n (f:Int) (a0:Int) (a1:Int) (a2:Int) (a3:Int) (a4:Int) (a5:Int) (a6:Int) (a7:Int)] W fun e W'=>e=.returned (.bool true)∧Below W.heap.size W W'):=fun W h=>(HC.out.cm k n f [a0,a1,a2,a3,a4,a5,a6,a7] W hns (by omega) hf rfl hsm h).mono (by
      rintro e W' ⟨⟨b,hb,rfl⟩,hB⟩
      rw[vK hrs rfl hlt (fun h=>oq HX.out rfl h) HC.out.asc hb]
      exact⟨rfl,hB⟩)
    clear hrs hlt
    go_wp2_with fail;refine(HCP.out _ (HK.out _ HB.out)).mono ?_;rintro e v3 ⟨rfl,B⟩
    replace A1:=hid (aA (ag A1.out B) (.cells #[.int .u8 (k:Int),.string n,.int .u32 (f:Int),.int .u16 (a0:Int),.int .u16 (a1:Int),.int .u16 (a2:Int),.int .u16 (a3:Int),.int .u16 (a4:Int),.int .u16 (a5:Int),.int .u16 (a6:Int),.int .u16 (a7:Int)] 26))
    have A3:=hid (heap_alloc_new v3 (.cells #[.int .u8 (k:Int),.string n,.int .u32 (f:Int),.int .u16 (a0:Int),.int .u16 (a1:Int),.int .u16 (a2:Int),.int .u16 (a3:Int),.int .u16 (a4:Int),.int .u16 (a5:Int),.int .u16 (a6:Int),.int .u16 (a7:Int)] 26))
    replace HB:=hid (HB.out.trans (B.mono HB.out.size))
    replace HB:=hid (HB.out.alloc HB.out.size (.cells #[.int .u8 (k:Int),.string n,.int .u32 (f:Int),.int .u16 (a0:Int),.int .u16 (a1:Int),.int .u16 (a2:Int),.int .u16 (a3:Int),.int .u16 (a4:Int),.int .u16 (a5:Int),.int .u16 (a6:Int),.int .u16 (a7:Int)] 26))
    clear B HCP;have EN:∀ W,(binOp .neq 26 (hv (k:Int) n (f:Int) (a0:Int) (a1:Int) (a2:Int) (a3:Int) (a4:Int) (a5:Int) (a6:Int) (a7:Int)) (hv (k:Int) n (f:Int) (a0:Int) (a1:Int) (a2:Int) (a3:Int) (a4:Int) (a5:Int) (a6:Int) (a7:Int))).run Tryz.prog W=.ok (.bool false) W:=fun W=>by rw[zt,cV];rfl
    have F0:World.cell? _ ⟨v1.heap.size,0,none⟩=some (.int .u8 (k:Int)):=cell_of_row _ _ 0 _ _ _ A1.out;have F1:World.cell? _ ⟨v1.heap.size,1,none⟩=some (.string n):=cell_of_row _ _ 1 _ _ _ A1.out;have F2:World.cell? _ ⟨v1.heap.size,2,none⟩=some (.int .u32 (f:Int)):=cell_of_row _ _ 2 _ _ _ A1.out;have F3:World.cell? _ ⟨v1.heap.size,3,none⟩=some (.int .u16 (a0:Int)):=cell_of_row _ _ 3 _ _ _ A1.out;have F4:World.cell? _ ⟨v1.heap.size,4,none⟩=some (.int .u16 (a1:Int)):=cell_of_row _ _ 4 _ _ _ A1.out;have F5:World.cell? _ ⟨v1.heap.size,5,none⟩=some (.int .u16 (a2:Int)):=cell_of_row _ _ 5 _ _ _ A1.out;have F6:World.cell? _ ⟨v1.heap.size,6,none⟩=some (.int .u16 (a3:Int)):=cell_of_row _ _ 6 _ _ _ A1.out;have F7:World.cell? _ ⟨v1.heap.size,7,none⟩=some (.int .u16 (a4:Int)):=cell_of_row _ _ 7 _ _ _ A1.out;have F8:World.cell? _ ⟨v1.heap.size,8,none⟩=some (.int .u16 (a5:Int)):=cell_of_row _ _ 8 _ _ _ A1.out;have F9:World.cell? _ ⟨v1.heap.size,9,none⟩=some (.int .u16 (a6:Int)):=cell_of_row _ _ 9 _ _ _ A1.out;have F10:World.cell? _ ⟨v1.heap.size,10,none⟩=some (.int .u16 (a7:Int)):=cell_of_row _ _ 10 _ _ _ A1.out;have D0:World.cell? _ ⟨v3.heap.size,0,none⟩=some (.int .u8 (k:Int)):=cell_of_row _ _ 0 _ _ _ A3.out;have D1:World.cell? _ ⟨v3.heap.size,1,none⟩=some (.string n):=cell_of_row _ _ 1 _ _ _ A3.out;have D2:World.cell? _ ⟨v3.heap.size,2,none⟩=some (.int .u32 (f:Int)):=cell_of_row _ _ 2 _ _ _ A3.out;have D3:World.cell? _ ⟨v3.heap.size,3,none⟩=some (.int .u16 (a0:Int)):=cell_of_row _ _ 3 _ _ _ A3.out;have D4:World.cell? _ ⟨v3.heap.size,4,none⟩=some (.int .u16 (a1:Int)):=cell_of_row _ _ 4 _ _ _ A3.out;have D5:World.cell? _ ⟨v3.heap.size,5,none⟩=some (.int .u16 (a2:Int)):=cell_of_row _ _ 5 _ _ _ A3.out;have D6:World.cell? _ ⟨v3.heap.size,6,none⟩=some (.int .u16 (a3:Int)):=cell_of_row _ _ 6 _ _ _ A3.out;have D7:World.cell? _ ⟨v3.heap.size,7,none⟩=some (.int .u16 (a4:Int)):=cell_of_row _ _ 7 _ _ _ A3.out;have D8:World.cell? _ ⟨v3.heap.size,8,none⟩=some (.int .u16 (a5:Int)):=cell_of_row _ _ 8 _ _ _ A3.out;have D9:World.cell? _ ⟨v3.heap.size,9,none⟩=some (.int .u16 (a6:Int)):=cell_of_row _ _ 9 _ _ _ A3.out;have D10:World.cell? _ ⟨v3.heap.size,10,none⟩=some (.int .u16 (a7:Int)):=cell_of_row _ _ 10 _ _ _ A3.out
    go_wp2_with fail;refine(HMY.out _ (HK.out _ HB.out)).mono ?_;rintro e v4 ⟨rfl,B⟩
    replace A1:=hid (ag A1.out B)
    replace HB:=hid (HB.out.trans (B.mono HB.out.size))
    clear B HMY EN A3;clear F0 F1 F2 F3 F4 F5 F6 F7 F8 F9 F10;clear D0 D1 D2 D3 D4 D5 D6 D7 D8 D9 D10;have K0:World.cell? _ ⟨v1.heap.size,0,none⟩=some (.int .u8 (k:Int)):=cell_of_row _ _ 0 _ _ _ A1.out
    have HFR:Hid (k≠3→∀ j,j<t.size→fb ((bn t)[j]?.getD 0)=false∧32≤(bn t)[j]?.getD 0∧(bn t)[j]?.getD 0≤126∧(k=1→fd ((bn t)[j]?.getD 0)=false)):=fun h3 j hj=>by
     have hm:(bn t)[j]?.getD 0∈bn t:=by
      rw[List.getElem?_eq_getElem (by rw[aa];exact hj)];exact List.getElem_mem _
     exact HRS.out.free h3 _ (by rw[←HTX.out];exact hm)
    have HZ:Hid (k=0↔t.size=0):=by
     have:=HRS.out.none;rw[←HTX.out]at this;refine this.trans ⟨fun h=>by rw[←aa,h];rfl,fun h=>List.length_eq_zero_iff.1 (by rw[aa];exact h)⟩
    have HGT:=hid (aq t);clear HRS HTX HX hnt hsm hf A1 hns
    go_wp2_with fail
    go_loopw [10] (fun v wr=>∃ i kk:Nat,i≤t.size∧v=.int .i64 (i:Int)∧wr=v4.drewN kk) (fun v _=>t.size - (intOf v).toNat)
    case atStart=>exact⟨0,0,Nat.zero_le _,rfl,rfl⟩
    case round =>
     obtain⟨i,kk,hi,rfl,rfl⟩:=hrel;have HBD:=hid (dG HB.out kk);by_cases hend:i<t.size∧k≠3
     ·obtain⟨hlt,h3⟩:=hend
      have hltz:(i:Int)<(t.size:Int):=by omega
      have h3b:((k:Int)==3)=false:=by simp;omega
      have h3n:((k:Int) != 3)=true:=by simp;omega
      have hg:=(HGT.out i hlt).symm;obtain⟨q1,q2,q3,q4⟩:=HFR.out h3 i hlt;obtain⟨y,hy⟩:∃ y,(bn t)[i]?.getD 0=y:=⟨_,rfl⟩;rw[hy]at hg q1 q2 q3 q4;obtain⟨d,hd⟩:∃ d,((k:Int)==1)=d:=⟨_,rfl⟩
      have HF:Hid (∀ W,Calls Tryz.prog 15 #[.int .u8 y,.bool d] W fun e W'=>e=.returned (.bool false)∧W'=W):=fun W=>(ik y d (by omega) (by omega) W).mono (by
        rintro e W' ⟨rfl,rfl⟩
        refine⟨an ?_,rfl⟩
        cases d with
        | true=>rw[if_pos rfl];exact q4 (by have:=eq_of_beq hd;omega)
        | false=>rw[if_neg (by simp)];exact q1)
      have y1:¬ (127:Int)≤y:=by omega
      have y2:¬ y<(32:Int):=by omega
      clear hy q1 q4 HFR HGT HZ h3
      go_wp2_with fail
      go_quiet ((go_at_call 15;exact(HF.out _).mono (fun e w' h=>⟨h.1,_,h.2⟩)))
      go_wp2
      go_roundw
      case rel=>exact⟨i+1,kk+nq,by omega,by go_num,rfl⟩
      case measure=>simp[intOf];omega
     ·have hex:((i:Int)<(t.size:Int)∧((k:Int)==3)=true)∨¬ (i:Int)<(t.size:Int):=by
       by_cases hlt:i<t.size
       ·left
        refine⟨by omega,?_⟩
        have:k=3:=by
         by_cases h3:k=3
         ·exact h3
         ·exact absurd ⟨hlt,h3⟩ hend
        rw[this];rfl
       ·right;omega
      by_cases hk0:k=0
      ·have hz:=HZ.out.1 hk0
       have hb0:((k:Int)==0)=true:=by rw[hk0];rfl
       have he:t.toList.isEmpty=true:=ah t hz;rcases hex with⟨x1,x2⟩ | x1
       ·exfalso;omega
       ·clear HFR HGT HZ hz hk0 hend
        go_wp2_with(go_at_call 8;refine(HW.out _ HBD.out).mono ?_;rintro e w2 ⟨rfl,B2⟩)
        go_ret;exact⟨rfl,HBD.out.trans (B2.mono HBD.out.size)⟩
      ·have hz:t.size≠0:=fun h=>hk0 (HZ.out.2 h)
       have hb0:((k:Int)==0)=false:=by simp;omega
       have he:t.toList.isEmpty=false:=ab t (by omega);rcases hex with⟨x1,x2⟩ | x1
       ·have x3:((k:Int) != 3)=false:=by rw[bne,x2];rfl
        clear HFR HGT HZ hz hk0 hend
        go_wp2_with(go_at_call 8;refine(HW.out _ HBD.out).mono ?_;rintro e w2 ⟨rfl,B2⟩)
        go_ret;exact⟨rfl,HBD.out.trans (B2.mono HBD.out.size)⟩
       ·clear HFR HGT HZ hz hk0 hend
        go_wp2_with(go_at_call 8;refine(HW.out _ HBD.out).mono ?_;rintro e w2 ⟨rfl,B2⟩)
        go_ret;exact⟨rfl,HBD.out.trans (B2.mono HBD.out.size)⟩
  ·have heb:(er==0)=false:=by simpa using he0
   have hnon:=herr he0
   obtain⟨rfl,rfl,rfl,hz⟩:k=0∧nm=[]∧f=0∧[a0,a1,a2,a3,a4,a5,a6,a7]=z8:=by
    unfold non at hnon
    simp only[Prod.mk.injEq]at hnon;exact⟨hnon.1,hnon.2.1,hnon.2.2.1,hnon.2.2.2.1⟩
   obtain rfl:n=em:=av (hn.trans rfl);unfold z8 at hz
   simp only[List.cons.injEq,and_true]at hz;obtain⟨rfl,rfl,rfl,rfl,rfl,rfl,rfl,rfl⟩:=hz;have E0:∀ W,(binOp .eql 26 (hv 0 ⟨#[]⟩ 0 0 0 0 0 0 0 0 0) (hv 0 ⟨#[]⟩ 0 0 0 0 0 0 0 0 0)).run Tryz.prog W=.ok (.bool true) W:=fun W=>by rw[dF,cV]
   unfold em at A1 HB ⊢
   have F0:World.cell? _ ⟨v1.heap.size,0,none⟩=some (.int .u8 0):=cell_of_row _ _ 0 _ _ _ A1.out;have F1:World.cell? _ ⟨v1.heap.size,1,none⟩=some (.string ⟨#[]⟩):=cell_of_row _ _ 1 _ _ _ A1.out;have F2:World.cell? _ ⟨v1.heap.size,2,none⟩=some (.int .u32 0):=cell_of_row _ _ 2 _ _ _ A1.out;have F3:World.cell? _ ⟨v1.heap.size,3,none⟩=some (.int .u16 0):=cell_of_row _ _ 3 _ _ _ A1.out;have F4:World.cell? _ ⟨v1.heap.size,4,none⟩=some (.int .u16 0):=cell_of_row _ _ 4 _ _ _ A1.out;have F5:World.cell? _ ⟨v1.heap.size,5,none⟩=some (.int .u16 0):=cell_of_row _ _ 5 _ _ _ A1.out;have F6:World.cell? _ ⟨v1.heap.size,6,none⟩=some (.int .u16 0):=cell_of_row _ _ 6 _ _ _ A1.out;have F7:World.cell? _ ⟨v1.heap.size,7,none⟩=some (.int .u16 0):=cell_of_row _ _ 7 _ _ _ A1.out;have F8:World.cell? _ ⟨v1.heap.size,8,none⟩=some (.int .u16 0):=cell_of_row _ _ 8 _ _ _ A1.out;have F9:World.cell? _ ⟨v1.heap.size,9,none⟩=some (.int .u16 0):=cell_of_row _ _ 9 _ _ _ A1.out;have F10:World.cell? _ ⟨v1.heap.size,10,none⟩=some (.int .u16 0):=cell_of_row _ _ 10 _ _ _ A1.out;clear herr hnon hn he0 hb0 hb1 hk hf ha hsm x hnt
   go_wp2_with(go_at_call 8;refine(HW.out _ HB.out).mono ?_;rintro e w2 ⟨rfl,B2⟩)
   go_ret;exact⟨rfl,HB.out.trans (B2.mono HB.out.size)⟩
end Go.Proofs.YtkekkbciiohbkaaGreatDoor.H
