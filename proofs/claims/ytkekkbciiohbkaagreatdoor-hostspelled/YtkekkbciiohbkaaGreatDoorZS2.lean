/- Texts one behind the other: VH. -/
import Derived.Test.YtkekkbciiohbkaaGreatDoorZ39
import Derived.Test.YtkekkbciiohbkaaGreatDoorZ28
import Derived.Test.YtkekkbciiohbkaaGreatDoorZS1
import Derived.Test.YtkekkbciiohbkaaGreatDoorZ29
import Derived.Test.YtkekkbciiohbkaaGreatDoorZ15
import Derived.Test.YtkekkbciiohbkaaGreatDoorZ4
set_option maxRecDepth 100000
set_option maxHeartbeats 16000000
set_option linter.unusedVariables false
set_option linter.unnecessarySimpa false
namespace Go.Proofs.YtkekkbciiohbkaaGreatDoor.H
open Go.RowKit
open Go.Proofs.YtkekkbciiohbkaaGreatDoor.F (bn aa aC av aq ar hid aj ab ah aR aK)
structure Gs(L:List Int)(gs:List (List Int))(i:Nat)(T:List Int):Prop where
 len:gs.length=i
 txt:T=gs.flatten
 all:∀ j,j<i→Sp (L[j]?.getD 0) (gs[j]?.getD [])∧(ver L j→gs[j]?.getD []=[L[j]?.getD 0])
theorem Gs.start(L:List Int):Gs L [] 0 []:=⟨rfl,rfl,fun j h=>by omega⟩
theorem Gs.step{L:List Int}{gs:List (List Int)}{i:Nat}{T g:List Int}(h:Gs L gs i T)(hs:Sp (L[i]?.getD 0) g)(hv:ver L i→g=[L[i]?.getD 0]):Gs L (gs++[g]) (i+1) (T++g):=by
 refine⟨by rw[List.length_append,h.len];rfl,by rw[h.txt,List.flatten_append];simp,fun j hj=>?_⟩;by_cases hji:j<i
 ·rw[List.getElem?_append_left (by rw[h.len];exact hji)]
  exact h.all j hji
 ·obtain rfl:j=i:=by omega
  have e:(gs++[g])[j]? = some g:=by
   have:=List.getElem?_concat_length (l:=gs) (a:=g);rw[h.len]at this;exact this
  rw[e];exact⟨hs,hv⟩
theorem Gn:∀ n:Fin 16,∀ h:n.val<(⟨#[48,49,50,51,52,53,54,55,56,57,97,98,99,100,101,102]⟩:ByteArray).size,E.hx (((⟨#[48,49,50,51,52,53,54,55,56,57,97,98,99,100,101,102]⟩:ByteArray)[n.val]'h).toNat:Int)=n.val:=by decide
theorem Gm:∀ n:Fin 16,∀ h:n.val<(⟨#[48,49,50,51,52,53,54,55,56,57,65,66,67,68,69,70]⟩:ByteArray).size,E.hx (((⟨#[48,49,50,51,52,53,54,55,56,57,65,66,67,68,69,70]⟩:ByteArray)[n.val]'h).toNat:Int)=n.val:=by decide
theorem bR(w:World)(x:Int)(h0:0≤x)(h1:x≤255):∃ q:ByteArray,(convert 36 9 (.slice (some ⟨w.heap.size,0,none⟩) 1 1)).run Tryz.prog (w.alloc (.cells #[.int .u8 x] 5))=.ok (.string q) (w.alloc (.cells #[.int .u8 x] 5))∧bn q=[x]∧q.size=1:=by
 have hrow:(w.alloc (.cells #[.int .u8 x] 5)).ownsRow w.heap.size 5 1 (.slice (some ⟨w.heap.size,0,none⟩) 1 1) 1 ([x].map (Value.int .u8)) :=
  ⟨rfl,.inr ⟨w.heap.size,1,_,rfl,Nat.le_refl _,World.alloc_heap_new w _,Nat.le_refl _,by unfold maxLen;omega,rfl,rfl⟩⟩
 obtain⟨q,h,hq⟩:=U.aO _ w.heap.size _ 1 [x] rfl (fun b hb=>by simp at hb;omega) hrow;exact⟨q,h,hq,by rw[←aa,show bn q=[x] from hq];rfl⟩
theorem AA(w:World)(x y:Int)(h0:0≤x)(h1:x≤255)(g0:0≤y)(g1:y≤255):∃ q:ByteArray,(convert 36 9 (.slice (some ⟨w.heap.size,0,none⟩) 2 2)).run Tryz.prog (w.alloc (.cells #[.int .u8 x,.int .u8 y] 5))=.ok (.string q) (w.alloc (.cells #[.int .u8 x,.int .u8 y] 5))∧bn q=[x,y]∧q.size=2:=by
 have hrow:(w.alloc (.cells #[.int .u8 x,.int .u8 y] 5)).ownsRow w.heap.size 5 1 (.slice (some ⟨w.heap.size,0,none⟩) 2 2) 2 ([x,y].map (Value.int .u8)) :=
  ⟨rfl,.inr ⟨w.heap.size,2,_,rfl,Nat.le_refl _,World.alloc_heap_new w _,Nat.le_refl _,by unfold maxLen;omega,rfl,rfl⟩⟩
 obtain⟨q,h,hq⟩:=U.aO _ w.heap.size _ 2 [x,y] rfl (fun b hb=>by simp at hb;omega) hrow;exact⟨q,h,hq,by rw[←aa,show bn q=[x,y] from hq];rfl⟩
theorem Ha{d:Int}(h:(Lit.int .u8 d).wf=true):0≤d∧d≤255:=by
 simp[Lit.wf,IntKind.min,IntKind.max,IntKind.bits,IntKind.signed]at h;omega
theorem xG{w:World}{a:Option Addr}{len cap:Nat}{zs:List Int}(h:U.IsRow .u8 w a len cap zs)(k:Nat)(hk:k<len):∃ b off d,a=some ⟨b,off,none⟩∧w.cell? ⟨b,off+k,none⟩=some (.int .u8 d)∧0≤d∧d≤255:=by
 rcases h with⟨_,rfl,_⟩ | ⟨x,rfl,hl,_,hz,hc,hw⟩
 ·omega
 ·obtain⟨b,off,rfl,hc'⟩:=ints_at hc (by omega)
  refine⟨b,off,zs.getD k 0,rfl,hc' k (by omega),Ha (hw _ ?_)⟩;rw[List.getD_eq_getElem?_getD,List.getElem?_eq_getElem (by omega)];exact List.getElem_mem _
theorem dp{B:Nat}{a w:World}(h:Below B a w):Below B a w.drew:=h.trans ⟨rfl,rfl,rfl,Nat.le_refl _,fun _ _=>rfl⟩
theorem lt_of_cell{w:World}{p:Addr}{v:Value}(h:w.cell? p=some v):p.block<w.heap.size:=by
 unfold World.cell? at h
 rcases Nat.lt_or_ge p.block w.heap.size with hb | hb
 ·exact hb
 ·rw[Array.getElem?_eq_none hb]at h;cases h
theorem spelled_walk{G:World→Prop}(C:Ctr IA G)(s:ByteArray)(a:Option Addr)(len cap:Nat)(zs:List Int)(w:World)(hG:G w)(hs:s.size≤maxLen)(hr:U.IsRow .u8 w a len cap zs):
  Calls Tryz.prog 5 #[.string s,.slice a len cap] w fun e W'=>e=.returned (.bool true)∧Below w.heap.size w W':=by
 have hm:=U.BX hr;unfold maxLen at hs hm
 have HK:Hid (∀ W,Below w.heap.size w W→G W):=fun W h=>C.keep w W hG h
 have HW:Hid (∀ W,Below w.heap.size w W→Calls Tryz.prog 8 #[] W fun e W'=>e=.returned (.bool true)∧Below W.heap.size W W'):=fun W h=>da C W (HK.out W h)
 have HB:Hid (Below w.heap.size w w):=Below.refl _ _;by_cases h3:300<s.size
 ·have h3z:(300:Int)<(s.size:Int):=by omega
  clear C hG hr;go_enter Tryz.func5,Tryz.ntmps5
  go_wp2_with(go_at_call 8;refine(HW.out _ HB.out).mono ?_;rintro e w2 ⟨rfl,B2⟩)
  go_ret;exact⟨rfl,B2⟩
 have h3z:¬ (300:Int)<(s.size:Int):=by omega
 by_cases hl3:300<len
 ·have hlz:(300:Int)<(len:Int):=by omega
  clear C hG hr;go_enter Tryz.func5,Tryz.ntmps5
  go_wp2_with(go_at_call 8;refine(HW.out _ HB.out).mono ?_;rintro e w2 ⟨rfl,B2⟩)
  go_ret;exact⟨rfl,B2⟩
 have hlz:¬ (300:Int)<(len:Int):=by omega
 have HROW:=hid (fun k hk=>xG hr k hk);have HC:=hid C;clear hr C hG;by_cases h0:s.size=0
 ·have he:s.toList.isEmpty=true:=ah s h0
  have H91:Hid (¬ (bn s)[0]?.getD 0=91):=fun h=>by
   have:bn s=[]:=List.length_eq_zero_iff.1 (by rw[aa];exact h0);rw[this]at h;cases h
  have H0:=hid h0;clear HROW h0;go_enter Tryz.func5,Tryz.ntmps5
  go_wp2_with fail
  go_loopw [5,6] (fun vt vi wr=>∃(i:Nat) (T:ByteArray) (gs:List (List Int)),i≤s.size∧vt=.string T∧vi=.int .i64 (i:Int)∧T.size≤3 * i∧Hid (Gs (bn s) gs i (bn T))∧Hid (Below w.heap.size w wr)) (fun _ vi _=>s.size - (intOf vi).toNat)
  case atStart=>exact⟨0,⟨#[]⟩,[],Nat.zero_le _,rfl,rfl,Nat.le_refl _,Gs.start _,Below.refl _ _⟩
  case round =>
   obtain⟨i,T,gs,hi,rfl,rfl,hT,HGS,HBR⟩:=hrel;have hltz:¬ (i:Int)<(s.size:Int):=by have:=H0.out;omega
   obtain rfl:i=s.size:=by omega
   have HSPL:Hid (¬ (bn T)[0]?.getD 0=91→∀ {h:Hst},HP IA (bn s) true h→HP IA (bn T) true h):=fun h9 h x=>by
    have ha:=jQ (bn s) gs (by rw[HGS.out.len,aa]) (fun j hj=>HGS.out.all j (by rw[←aa];exact hj)) s.size 0 (by rw[aa];omega);rw[List.drop_zero,List.drop_zero,←HGS.out.txt]at ha;refine HP.spelled (E.eB _ _ (Nat.le_refl _) (aM s)) ha (by rw[aa];omega) (by rw[aa];omega) (fun e=>H91.out ?_) (fun e=>h9 ?_) x
    ·rw[←List.head?_eq_getElem?,e];rfl
    ·rw[←List.head?_eq_getElem?,e];rfl
   clear HGS;by_cases hT0:T.size=0
   ·have heT:T.toList.isEmpty=true:=ah T hT0
    have hhd:¬ (bn T)[0]?.getD 0=91:=fun h=>by
     have:bn T=[]:=List.length_eq_zero_iff.1 (by rw[aa];exact hT0);rw[this]at h;cases h
    clear hT0;have HCP:=hid (HC.out.cp s true wr (by omega) (HK.out _ HBR.out))
    go_wp2_with fail;refine HCP.out.mono ?_;rintro e v1 ⟨⟨⟨k,nm,f,a,er⟩,n,x,hn,rfl⟩,B⟩
    obtain⟨hk,hf,ha,hsm,_,_,_⟩:=x.fine;simp only at hk hf ha hsm hn
    obtain⟨a0,a1,a2,a3,a4,a5,a6,a7,rfl⟩:=eight ha;have HC2:Hid (∀ W,G W→Calls Tryz.prog 9 #[.string T,.bool true] W fun e W'=>e=.returned (.tuple #[hv (k:Int) n (f:Int) (a0:Int) (a1:Int) (a2:Int) (a3:Int) (a4:Int) (a5:Int) (a6:Int) (a7:Int),.int .i64 er])∧Below W.heap.size W W'):=fun W h=>HC.out.cpIs (s:=T) (n:=n) (by omega) (HSPL.out hhd x) hn W h
    show _
    replace HBR:=hid (HBR.out.trans (B.mono HBR.out.size))
    have A1:=hid (heap_alloc_new v1 (.cells #[.int .u8 (k:Int),.string n,.int .u32 (f:Int),.int .u16 (a0:Int),.int .u16 (a1:Int),.int .u16 (a2:Int),.int .u16 (a3:Int),.int .u16 (a4:Int),.int .u16 (a5:Int),.int .u16 (a6:Int),.int .u16 (a7:Int)] 26))
    replace HBR:=hid (HBR.out.alloc HBR.out.size (.cells #[.int .u8 (k:Int),.string n,.int .u32 (f:Int),.int .u16 (a0:Int),.int .u16 (a1:Int),.int .u16 (a2:Int),.int .u16 (a3:Int),.int .u16 (a4:Int),.int .u16 (a5:Int),.int .u16 (a6:Int),.int .u16 (a7:Int)] 26))
    clear B HCP x hn ha hsm hf hk HSPL hhd
    go_wp2_with fail;refine(HC2.out _ (HK.out _ HBR.out)).mono ?_;rintro e v3 ⟨rfl,B⟩
    replace A1:=hid (aA (ag A1.out B) (.cells #[.int .u8 (k:Int),.string n,.int .u32 (f:Int),.int .u16 (a0:Int),.int .u16 (a1:Int),.int .u16 (a2:Int),.int .u16 (a3:Int),.int .u16 (a4:Int),.int .u16 (a5:Int),.int .u16 (a6:Int),.int .u16 (a7:Int)] 26))
    have A3:=hid (heap_alloc_new v3 (.cells #[.int .u8 (k:Int),.string n,.int .u32 (f:Int),.int .u16 (a0:Int),.int .u16 (a1:Int),.int .u16 (a2:Int),.int .u16 (a3:Int),.int .u16 (a4:Int),.int .u16 (a5:Int),.int .u16 (a6:Int),.int .u16 (a7:Int)] 26))
    replace HBR:=hid (HBR.out.trans (B.mono HBR.out.size))
    replace HBR:=hid (HBR.out.alloc HBR.out.size (.cells #[.int .u8 (k:Int),.string n,.int .u32 (f:Int),.int .u16 (a0:Int),.int .u16 (a1:Int),.int .u16 (a2:Int),.int .u16 (a3:Int),.int .u16 (a4:Int),.int .u16 (a5:Int),.int .u16 (a6:Int),.int .u16 (a7:Int)] 26))
    have EE:∀ W,(binOp .eql 26 (hv (k:Int) n (f:Int) (a0:Int) (a1:Int) (a2:Int) (a3:Int) (a4:Int) (a5:Int) (a6:Int) (a7:Int)) (hv (k:Int) n (f:Int) (a0:Int) (a1:Int) (a2:Int) (a3:Int) (a4:Int) (a5:Int) (a6:Int) (a7:Int))).run Tryz.prog W=.ok (.bool true) W:=fun W=>by rw[dF,cV]
    have HHX:Hid (∀ W,Calls Tryz.prog 16 #[.int .u8 97] W fun e W'=>e=.returned (.int .i64 10)∧W'=W):=fun W=>F.cG 97 (by decide) (by decide) W
    have hee:(er==er)=true:=by simp
    clear B HC2;have F0:World.cell? _ ⟨v1.heap.size,0,none⟩=some (.int .u8 (k:Int)):=cell_of_row _ _ 0 _ _ _ A1.out;have F1:World.cell? _ ⟨v1.heap.size,1,none⟩=some (.string n):=cell_of_row _ _ 1 _ _ _ A1.out;have F2:World.cell? _ ⟨v1.heap.size,2,none⟩=some (.int .u32 (f:Int)):=cell_of_row _ _ 2 _ _ _ A1.out;have F3:World.cell? _ ⟨v1.heap.size,3,none⟩=some (.int .u16 (a0:Int)):=cell_of_row _ _ 3 _ _ _ A1.out;have F4:World.cell? _ ⟨v1.heap.size,4,none⟩=some (.int .u16 (a1:Int)):=cell_of_row _ _ 4 _ _ _ A1.out;have F5:World.cell? _ ⟨v1.heap.size,5,none⟩=some (.int .u16 (a2:Int)):=cell_of_row _ _ 5 _ _ _ A1.out;have F6:World.cell? _ ⟨v1.heap.size,6,none⟩=some (.int .u16 (a3:Int)):=cell_of_row _ _ 6 _ _ _ A1.out;have F7:World.cell? _ ⟨v1.heap.size,7,none⟩=some (.int .u16 (a4:Int)):=cell_of_row _ _ 7 _ _ _ A1.out;have F8:World.cell? _ ⟨v1.heap.size,8,none⟩=some (.int .u16 (a5:Int)):=cell_of_row _ _ 8 _ _ _ A1.out;have F9:World.cell? _ ⟨v1.heap.size,9,none⟩=some (.int .u16 (a6:Int)):=cell_of_row _ _ 9 _ _ _ A1.out;have F10:World.cell? _ ⟨v1.heap.size,10,none⟩=some (.int .u16 (a7:Int)):=cell_of_row _ _ 10 _ _ _ A1.out;have D0:World.cell? _ ⟨v3.heap.size,0,none⟩=some (.int .u8 (k:Int)):=cell_of_row _ _ 0 _ _ _ A3.out;have D1:World.cell? _ ⟨v3.heap.size,1,none⟩=some (.string n):=cell_of_row _ _ 1 _ _ _ A3.out;have D2:World.cell? _ ⟨v3.heap.size,2,none⟩=some (.int .u32 (f:Int)):=cell_of_row _ _ 2 _ _ _ A3.out;have D3:World.cell? _ ⟨v3.heap.size,3,none⟩=some (.int .u16 (a0:Int)):=cell_of_row _ _ 3 _ _ _ A3.out;have D4:World.cell? _ ⟨v3.heap.size,4,none⟩=some (.int .u16 (a1:Int)):=cell_of_row _ _ 4 _ _ _ A3.out;have D5:World.cell? _ ⟨v3.heap.size,5,none⟩=some (.int .u16 (a2:Int)):=cell_of_row _ _ 5 _ _ _ A3.out;have D6:World.cell? _ ⟨v3.heap.size,6,none⟩=some (.int .u16 (a3:Int)):=cell_of_row _ _ 6 _ _ _ A3.out;have D7:World.cell? _ ⟨v3.heap.size,7,none⟩=some (.int .u16 (a4:Int)):=cell_of_row _ _ 7 _ _ _ A3.out;have D8:World.cell? _ ⟨v3.heap.size,8,none⟩=some (.int .u16 (a5:Int)):=cell_of_row _ _ 8 _ _ _ A3.out;have D9:World.cell? _ ⟨v3.heap.size,9,none⟩=some (.int .u16 (a6:Int)):=cell_of_row _ _ 9 _ _ _ A3.out;have D10:World.cell? _ ⟨v3.heap.size,10,none⟩=some (.int .u16 (a7:Int)):=cell_of_row _ _ 10 _ _ _ A3.out
    go_wp2_with(first
      | (go_at_call 16;refine(HHX.out _).mono ?_;rintro e w2 ⟨rfl,hw2⟩;obtain rfl:=hw2.symm)
      | (go_at_call 8;refine(HW.out _ HBR.out).mono ?_;rintro e w2 ⟨rfl,B2⟩))
    go_ret;exact⟨rfl,HBR.out.trans (B2.mono HBR.out.size)⟩
   ·have heT:T.toList.isEmpty=false:=ab T (by omega)
    have hgT:=(aq T 0 (by omega)).symm;by_cases hhd:(bn T)[0]?.getD 0=91
    ·rw[hhd]at hgT
     clear HSPL
     go_wp2_with(go_at_call 8;refine(HW.out _ HBR.out).mono ?_;rintro e w2 ⟨rfl,B2⟩)
     go_ret;exact⟨rfl,HBR.out.trans (B2.mono HBR.out.size)⟩
    obtain⟨yT,hyT⟩:∃ yT,(bn T)[0]?.getD 0=yT:=⟨_,rfl⟩;have hTb:(yT==91)=false:=by rw[←hyT];simpa using hhd
    rw[hyT]at hgT;clear hyT;have HCP:=hid (HC.out.cp s true wr (by omega) (HK.out _ HBR.out))
    go_wp2_with fail;refine HCP.out.mono ?_;rintro e v1 ⟨⟨⟨k,nm,f,a,er⟩,n,x,hn,rfl⟩,B⟩
    obtain⟨hk,hf,ha,hsm,_,_,_⟩:=x.fine;simp only at hk hf ha hsm hn
    obtain⟨a0,a1,a2,a3,a4,a5,a6,a7,rfl⟩:=eight ha;have HC2:Hid (∀ W,G W→Calls Tryz.prog 9 #[.string T,.bool true] W fun e W'=>e=.returned (.tuple #[hv (k:Int) n (f:Int) (a0:Int) (a1:Int) (a2:Int) (a3:Int) (a4:Int) (a5:Int) (a6:Int) (a7:Int),.int .i64 er])∧Below W.heap.size W W'):=fun W h=>HC.out.cpIs (s:=T) (n:=n) (by omega) (HSPL.out hhd x) hn W h
    show _
    replace HBR:=hid (HBR.out.trans (B.mono HBR.out.size))
    have A1:=hid (heap_alloc_new v1 (.cells #[.int .u8 (k:Int),.string n,.int .u32 (f:Int),.int .u16 (a0:Int),.int .u16 (a1:Int),.int .u16 (a2:Int),.int .u16 (a3:Int),.int .u16 (a4:Int),.int .u16 (a5:Int),.int .u16 (a6:Int),.int .u16 (a7:Int)] 26))
    replace HBR:=hid (HBR.out.alloc HBR.out.size (.cells #[.int .u8 (k:Int),.string n,.int .u32 (f:Int),.int .u16 (a0:Int),.int .u16 (a1:Int),.int .u16 (a2:Int),.int .u16 (a3:Int),.int .u16 (a4:Int),.int .u16 (a5:Int),.int .u16 (a6:Int),.int .u16 (a7:Int)] 26))
    clear B HCP x hn ha hsm hf hk HSPL hhd
    go_wp2_with fail;refine(HC2.out _ (HK.out _ HBR.out)).mono ?_;rintro e v3 ⟨rfl,B⟩
    replace A1:=hid (aA (ag A1.out B) (.cells #[.int .u8 (k:Int),.string n,.int .u32 (f:Int),.int .u16 (a0:Int),.int .u16 (a1:Int),.int .u16 (a2:Int),.int .u16 (a3:Int),.int .u16 (a4:Int),.int .u16 (a5:Int),.int .u16 (a6:Int),.int .u16 (a7:Int)] 26))
    have A3:=hid (heap_alloc_new v3 (.cells #[.int .u8 (k:Int),.string n,.int .u32 (f:Int),.int .u16 (a0:Int),.int .u16 (a1:Int),.int .u16 (a2:Int),.int .u16 (a3:Int),.int .u16 (a4:Int),.int .u16 (a5:Int),.int .u16 (a6:Int),.int .u16 (a7:Int)] 26))
    replace HBR:=hid (HBR.out.trans (B.mono HBR.out.size))
    replace HBR:=hid (HBR.out.alloc HBR.out.size (.cells #[.int .u8 (k:Int),.string n,.int .u32 (f:Int),.int .u16 (a0:Int),.int .u16 (a1:Int),.int .u16 (a2:Int),.int .u16 (a3:Int),.int .u16 (a4:Int),.int .u16 (a5:Int),.int .u16 (a6:Int),.int .u16 (a7:Int)] 26))
    have EE:∀ W,(binOp .eql 26 (hv (k:Int) n (f:Int) (a0:Int) (a1:Int) (a2:Int) (a3:Int) (a4:Int) (a5:Int) (a6:Int) (a7:Int)) (hv (k:Int) n (f:Int) (a0:Int) (a1:Int) (a2:Int) (a3:Int) (a4:Int) (a5:Int) (a6:Int) (a7:Int))).run Tryz.prog W=.ok (.bool true) W:=fun W=>by rw[dF,cV]
    have HHX:Hid (∀ W,Calls Tryz.prog 16 #[.int .u8 97] W fun e W'=>e=.returned (.int .i64 10)∧W'=W):=fun W=>F.cG 97 (by decide) (by decide) W
    have hee:(er==er)=true:=by simp
    clear B HC2;have F0:World.cell? _ ⟨v1.heap.size,0,none⟩=some (.int .u8 (k:Int)):=cell_of_row _ _ 0 _ _ _ A1.out;have F1:World.cell? _ ⟨v1.heap.size,1,none⟩=some (.string n):=cell_of_row _ _ 1 _ _ _ A1.out;have F2:World.cell? _ ⟨v1.heap.size,2,none⟩=some (.int .u32 (f:Int)):=cell_of_row _ _ 2 _ _ _ A1.out;have F3:World.cell? _ ⟨v1.heap.size,3,none⟩=some (.int .u16 (a0:Int)):=cell_of_row _ _ 3 _ _ _ A1.out;have F4:World.cell? _ ⟨v1.heap.size,4,none⟩=some (.int .u16 (a1:Int)):=cell_of_row _ _ 4 _ _ _ A1.out;have F5:World.cell? _ ⟨v1.heap.size,5,none⟩=some (.int .u16 (a2:Int)):=cell_of_row _ _ 5 _ _ _ A1.out;have F6:World.cell? _ ⟨v1.heap.size,6,none⟩=some (.int .u16 (a3:Int)):=cell_of_row _ _ 6 _ _ _ A1.out;have F7:World.cell? _ ⟨v1.heap.size,7,none⟩=some (.int .u16 (a4:Int)):=cell_of_row _ _ 7 _ _ _ A1.out;have F8:World.cell? _ ⟨v1.heap.size,8,none⟩=some (.int .u16 (a5:Int)):=cell_of_row _ _ 8 _ _ _ A1.out;have F9:World.cell? _ ⟨v1.heap.size,9,none⟩=some (.int .u16 (a6:Int)):=cell_of_row _ _ 9 _ _ _ A1.out;have F10:World.cell? _ ⟨v1.heap.size,10,none⟩=some (.int .u16 (a7:Int)):=cell_of_row _ _ 10 _ _ _ A1.out;have D0:World.cell? _ ⟨v3.heap.size,0,none⟩=some (.int .u8 (k:Int)):=cell_of_row _ _ 0 _ _ _ A3.out;have D1:World.cell? _ ⟨v3.heap.size,1,none⟩=some (.string n):=cell_of_row _ _ 1 _ _ _ A3.out;have D2:World.cell? _ ⟨v3.heap.size,2,none⟩=some (.int .u32 (f:Int)):=cell_of_row _ _ 2 _ _ _ A3.out;have D3:World.cell? _ ⟨v3.heap.size,3,none⟩=some (.int .u16 (a0:Int)):=cell_of_row _ _ 3 _ _ _ A3.out;have D4:World.cell? _ ⟨v3.heap.size,4,none⟩=some (.int .u16 (a1:Int)):=cell_of_row _ _ 4 _ _ _ A3.out;have D5:World.cell? _ ⟨v3.heap.size,5,none⟩=some (.int .u16 (a2:Int)):=cell_of_row _ _ 5 _ _ _ A3.out;have D6:World.cell? _ ⟨v3.heap.size,6,none⟩=some (.int .u16 (a3:Int)):=cell_of_row _ _ 6 _ _ _ A3.out;have D7:World.cell? _ ⟨v3.heap.size,7,none⟩=some (.int .u16 (a4:Int)):=cell_of_row _ _ 7 _ _ _ A3.out;have D8:World.cell? _ ⟨v3.heap.size,8,none⟩=some (.int .u16 (a5:Int)):=cell_of_row _ _ 8 _ _ _ A3.out;have D9:World.cell? _ ⟨v3.heap.size,9,none⟩=some (.int .u16 (a6:Int)):=cell_of_row _ _ 9 _ _ _ A3.out;have D10:World.cell? _ ⟨v3.heap.size,10,none⟩=some (.int .u16 (a7:Int)):=cell_of_row _ _ 10 _ _ _ A3.out
    go_wp2_with(first
      | (go_at_call 16;refine(HHX.out _).mono ?_;rintro e w2 ⟨rfl,hw2⟩;obtain rfl:=hw2.symm)
      | (go_at_call 8;refine(HW.out _ HBR.out).mono ?_;rintro e w2 ⟨rfl,B2⟩))
    go_ret;exact⟨rfl,HBR.out.trans (B2.mono HBR.out.size)⟩
 have he:s.toList.isEmpty=false:=ab s (by omega);have hg0:=(aq s 0 (by omega)).symm;by_cases h91:(bn s)[0]?.getD 0=91
 ·rw[h91]at hg0
  clear HROW HC h91;go_enter Tryz.func5,Tryz.ntmps5
  go_wp2_with(go_at_call 8;refine(HW.out _ HB.out).mono ?_;rintro e w2 ⟨rfl,B2⟩)
  go_ret;exact⟨rfl,B2⟩
 have H91:=hid h91;obtain⟨y0,hy0⟩:∃ y0,(bn s)[0]?.getD 0=y0:=⟨_,rfl⟩;rw[hy0]at hg0 h91;have h91b:(y0==91)=false:=by simpa using h91
 clear hy0 h91;have HGT:=hid (aq s);have HBY:=hid (fun j (h:j<s.size)=>ar (s:=s) h);go_enter Tryz.func5,Tryz.ntmps5
 go_wp2_with fail
 go_loopw [5,6] (fun vt vi wr=>∃(i:Nat) (T:ByteArray) (gs:List (List Int)),i≤s.size∧vt=.string T∧vi=.int .i64 (i:Int)∧T.size≤3 * i∧Hid (Gs (bn s) gs i (bn T))∧Hid (Below w.heap.size w wr)) (fun _ vi _=>s.size - (intOf vi).toNat)
 case atStart=>exact⟨0,⟨#[]⟩,[],Nat.zero_le _,rfl,rfl,Nat.le_refl _,Gs.start _,Below.refl _ _⟩
 case round =>
  obtain⟨i,T,gs,hi,rfl,rfl,hT,HGS,HBR⟩:=hrel;by_cases hlt:i<s.size
  ·have hltz:(i:Int)<(s.size:Int):=by omega
   have hg:=(HGT.out i hlt).symm;obtain⟨q0,q1⟩:=HBY.out i hlt;have HST:=hid (fun g=>HGS.out.step (g:=g));have HVR:Hid (ver (bn s) i↔((bn s)[i]?.getD 0=37∨(1≤i∧(bn s)[i - 1]?.getD 0=37)∨(2≤i∧(bn s)[i - 2]?.getD 0=37))):=Iff.rfl;obtain⟨y,hy⟩:∃ y,(bn s)[i]?.getD 0=y:=⟨_,rfl⟩;rw[hy]at hg q0 q1 HST HVR;have HADD:Hid (∀ q:ByteArray,q.size≤3→Sp y (bn q)→(ver (bn s) i→bn q=[y])→(T++q).size≤3 * (i+1)∧Gs (bn s) (gs++[bn q]) (i+1) (bn (T++q))):=fun q h1 h2 h3=>⟨by rw[ByteArray.size_append];omega,by rw[aC];exact HST.out _ h2 h3⟩
   clear hy HGS HST;obtain hpos | hpos | hpos:i=0∨i=1∨2≤i:=by omega
   ·have z1:¬ (0:Int)<(i:Int):=by omega
    have z2:¬ (1:Int)<(i:Int):=by omega
    have HPOS:=hid hpos;clear hpos;by_cases c0:y=37
    ·have b0:(y==37)=true:=by simpa using c0
     clear c0;by_cases hil:i<len
     ·have hilz:(i:Int)<(len:Int):=by omega
      obtain⟨b,off,d,rfl,hck0,hd0,hd1⟩:=HROW.out i hil;have hck:wr.cell? ⟨b,off+i,none⟩=some (.int .u8 d):=(HBR.out.cell (p:=⟨b,off+i,none⟩) (lt_of_cell hck0)).trans hck0;obtain⟨p,hp⟩:∃ p:Int,d % 3=p:=⟨_,rfl⟩;have hpt:Int.tmod d 3=p:=by rw[Int.tmod_eq_emod_of_nonneg hd0];exact hp
      have hp0:0≤p:=by omega
      have hp2:p≤2:=by omega
      have hpw:IntKind.u8.wrap p=p:=by simp[IntKind.wrap,IntKind.bits,IntKind.signed];omega
      clear hp hck0 HROW HGT HBY;obtain⟨q,hcv,hq1,hq2⟩:=bR wr y q0 q1;have HQ:=hid (HADD.out q (by omega) (.inl hq1) (fun _=>hq1));have hqs:q.size≤3:=by omega
      clear hq1 hq2 HADD;go_wp2
      go_roundw
      case rel=>exact⟨i+1,T++q,_,by omega,rfl,by go_num,HQ.out.1,HQ.out.2,HBR.out.alloc HBR.out.size _⟩
      case measure=>simp[intOf];omega
     ·have hilz:¬ (i:Int)<(len:Int):=by omega
      clear HROW HGT HBY;obtain⟨q,hcv,hq1,hq2⟩:=bR wr y q0 q1;have HQ:=hid (HADD.out q (by omega) (.inl hq1) (fun _=>hq1));have hqs:q.size≤3:=by omega
      clear hq1 hq2 HADD;go_wp2
      go_roundw
      case rel=>exact⟨i+1,T++q,_,by omega,rfl,by go_num,HQ.out.1,HQ.out.2,HBR.out.alloc HBR.out.size _⟩
      case measure=>simp[intOf];omega
    have b0:(y==37)=false:=by simpa using c0
    have HNV:Hid (¬ ver (bn s) i):=by
     show ¬ _
     rw[HVR.out];have:=HPOS.out;omega
    clear c0;by_cases hil:i<len
    ·have hilz:(i:Int)<(len:Int):=by omega
     obtain⟨b,off,d,rfl,hck0,hd0,hd1⟩:=HROW.out i hil;have hck:wr.cell? ⟨b,off+i,none⟩=some (.int .u8 d):=(HBR.out.cell (p:=⟨b,off+i,none⟩) (lt_of_cell hck0)).trans hck0;obtain⟨p,hp⟩:∃ p:Int,d % 3=p:=⟨_,rfl⟩;have hpt:Int.tmod d 3=p:=by rw[Int.tmod_eq_emod_of_nonneg hd0];exact hp
     have hp0:0≤p:=by omega
     have hp2:p≤2:=by omega
     have hpw:IntKind.u8.wrap p=p:=by simp[IntKind.wrap,IntKind.bits,IntKind.signed];omega
     clear hp hck0 HROW HGT HBY;obtain rfl | rfl | rfl:p=0∨p=1∨p=2:=by omega
     ·obtain⟨q,hcv,hq1,hq2⟩:=bR wr y q0 q1
      have HQ:=hid (HADD.out q (by omega) (.inl hq1) (fun _=>hq1));have hqs:q.size≤3:=by omega
      clear hq1 hq2 HADD;go_wp2
      go_roundw
      case rel=>exact⟨i+1,T++q,_,by omega,rfl,by go_num,HQ.out.1,HQ.out.2,HBR.out.alloc HBR.out.size _⟩
      case measure=>simp[intOf];omega
     ·obtain⟨k1,hk1,hk1b⟩:∃ k1:Nat,y / 16=(k1:Int)∧k1<16:=⟨(y / 16).toNat,by omega,by omega⟩
      obtain⟨k2,hk2,hk2b⟩:∃ k2:Nat,y % 16=(k2:Int)∧k2<16:=⟨(y % 16).toNat,by omega,by omega⟩;have hy16:16 * (k1:Int)+(k2:Int)=y:=by omega
      have t1:Int.tdiv y 16=(k1:Int):=by rw[Int.tdiv_eq_ediv_of_nonneg q0];exact hk1
      have t2:Int.tmod y 16=(k2:Int):=by rw[Int.tmod_eq_emod_of_nonneg q0];exact hk2
      have hw1:IntKind.u8.wrap (k1:Int)=(k1:Int):=by simp[IntKind.wrap,IntKind.bits,IntKind.signed];omega
      have hw2:IntKind.u8.wrap (k2:Int)=(k2:Int):=by simp[IntKind.wrap,IntKind.bits,IntKind.signed];omega
      have hb1:k1<(⟨#[48,49,50,51,52,53,54,55,56,57,97,98,99,100,101,102]⟩:ByteArray).size:=hk1b;have hb2:k2<(⟨#[48,49,50,51,52,53,54,55,56,57,65,66,67,68,69,70]⟩:ByteArray).size:=hk2b;have hx1:=Gn ⟨k1,hk1b⟩ hb1;have hx2:=Gm ⟨k2,hk2b⟩ hb2;obtain⟨x1,e1⟩:∃ x1:Int,((((⟨#[48,49,50,51,52,53,54,55,56,57,97,98,99,100,101,102]⟩:ByteArray)[k1]'hb1).toNat:Nat):Int)=x1:=⟨_,rfl⟩;obtain⟨x2,e2⟩:∃ x2:Int,((((⟨#[48,49,50,51,52,53,54,55,56,57,65,66,67,68,69,70]⟩:ByteArray)[k2]'hb2).toNat:Nat):Int)=x2:=⟨_,rfl⟩;have g1:=((⟨#[48,49,50,51,52,53,54,55,56,57,97,98,99,100,101,102]⟩:ByteArray)[k1]'hb1).toNat_lt;have g2:=((⟨#[48,49,50,51,52,53,54,55,56,57,65,66,67,68,69,70]⟩:ByteArray)[k2]'hb2).toNat_lt;have hxr1:0≤x1∧x1≤255:=by omega
      have hxr2:0≤x2∧x2≤255:=by omega
      have HX1:Hid (E.hx x1=(k1:Int)):=by show _=_;rw[←e1];exact hx1
      have HX2:Hid (E.hx x2=(k2:Int)):=by show _=_;rw[←e2];exact hx2
      obtain⟨q,hcv,hq1,hq2⟩:=AA wr.drew x1 x2 hxr1.1 hxr1.2 hxr2.1 hxr2.2;have hy37:y≠37:=fun h=>by rw[h]at b0;cases b0
      have HQ:=hid (HADD.out (⟨#[37]⟩++q) (by rw[ByteArray.size_append,hq2];decide) (by
        rw[aC,hq1]
        exact .inr (.inl ⟨hy37,x1,x2,rfl,by rw[HX1.out];omega,by rw[HX2.out];omega,by rw[HX1.out,HX2.out];exact hy16⟩)) (fun h=>absurd h HNV.out))
      have hqs:q.size≤3:=by omega
      have hk1z:(k1:Int)<16:=by omega
      have hk2z:(k2:Int)<16:=by omega
      have hcv2:(convert 36 9 (.slice (some ⟨wr.heap.size,0,none⟩) 2 2)).run Tryz.prog (wr.alloc (.cells #[.int .u8 x1,.int .u8 x2] 5)).drew=.ok (.string q) (wr.alloc (.cells #[.int .u8 x1,.int .u8 x2] 5)).drew:=hcv;clear hcv hq1 hq2 HADD hx1 hx2 g1 g2 hxr1 hxr2 HX1 HX2 hy37 hy16
      go_wp2_with fail;refine E.bP 8 (by kernel_rfl) (by kernel_rfl) ?_;simp only[List.take_succ_cons,List.take_zero,List.drop_succ_cons,List.drop_zero];refine E.ai (.string T) rfl (fun W=>by go_simp) ?_;refine E.ai (.string (T++⟨#[37]⟩)) rfl (fun W=>by go_simp;omega) ?_;refine E.ai (.int .u8 y) rfl (fun W=>by go_simp) ?_;refine E.ai (.int .u8 (k1:Int)) rfl (fun W=>by go_simp) ?_;refine E.ai (.int .u8 x1) rfl (fun W=>by go_simp) ?_;refine E.ai (.int .u8 y) rfl (fun W=>by go_simp) ?_;refine E.ai (.int .u8 (k2:Int)) rfl (fun W=>by go_simp) ?_;refine E.ai (.int .u8 x2) rfl (fun W=>by go_simp) ?_;refine E.c9 ?_;show wpList _ _ _ _ _ wr.drew
      go_wp2;refine⟨rfl,?_⟩;go_wp2
      go_roundw
      case rel=>exact⟨i+1,T++⟨#[37]⟩++q,_,by omega,rfl,by go_num,by rw[ByteArray.append_assoc];exact HQ.out.1,by show Gs _ _ _ _;rw[ByteArray.append_assoc];exact HQ.out.2,(dp HBR.out).alloc (dp HBR.out).size _⟩
      case measure=>simp[intOf];omega
     ·by_cases hL:97≤y∧y≤122
      ·obtain⟨hl1,hl2⟩:=hL
       obtain⟨q,hcv,hq1,hq2⟩:=bR wr (y - 32) (by omega) (by omega);have HQ:=hid (HADD.out q (by omega) (.inr (.inr ⟨⟨hl1,hl2⟩,hq1⟩)) (fun h=>absurd h HNV.out));have hqs:q.size≤3:=by omega
       have hxs:IntKind.u8.wrap (y - 32)=y - 32:=by simp[IntKind.wrap,IntKind.bits,IntKind.signed];omega
       clear hq1 hq2 HADD;go_wp2
       go_roundw
       case rel=>exact⟨i+1,T++q,_,by omega,rfl,by go_num,HQ.out.1,HQ.out.2,HBR.out.alloc HBR.out.size _⟩
       case measure=>simp[intOf];omega
      ·have hL2:¬ (97:Int)≤y∨(97:Int)≤y∧¬ y≤122:=by omega
       rcases hL2 with l1 | ⟨l1,l2⟩
       ·obtain⟨q,hcv,hq1,hq2⟩:=bR wr y q0 q1
        have HQ:=hid (HADD.out q (by omega) (.inl hq1) (fun _=>hq1));have hqs:q.size≤3:=by omega
        clear hq1 hq2 HADD;go_wp2
        go_roundw
        case rel=>exact⟨i+1,T++q,_,by omega,rfl,by go_num,HQ.out.1,HQ.out.2,HBR.out.alloc HBR.out.size _⟩
        case measure=>simp[intOf];omega
       ·obtain⟨q,hcv,hq1,hq2⟩:=bR wr y q0 q1
        have HQ:=hid (HADD.out q (by omega) (.inl hq1) (fun _=>hq1));have hqs:q.size≤3:=by omega
        clear hq1 hq2 HADD;go_wp2
        go_roundw
        case rel=>exact⟨i+1,T++q,_,by omega,rfl,by go_num,HQ.out.1,HQ.out.2,HBR.out.alloc HBR.out.size _⟩
        case measure=>simp[intOf];omega
    ·have hilz:¬ (i:Int)<(len:Int):=by omega
     clear HROW HGT HBY;obtain⟨q,hcv,hq1,hq2⟩:=bR wr y q0 q1;have HQ:=hid (HADD.out q (by omega) (.inl hq1) (fun _=>hq1));have hqs:q.size≤3:=by omega
     clear hq1 hq2 HADD;go_wp2
     go_roundw
     case rel=>exact⟨i+1,T++q,_,by omega,rfl,by go_num,HQ.out.1,HQ.out.2,HBR.out.alloc HBR.out.size _⟩
     case measure=>simp[intOf];omega
   ·have z1:(0:Int)<(i:Int):=by omega
    have z2:¬ (1:Int)<(i:Int):=by omega
    obtain⟨j1,hj1⟩:∃ j1,i - 1=j1:=⟨_,rfl⟩;have hj1z:(i:Int) - 1=(j1:Int):=by omega
    have hj1l:(j1:Int)<(s.size:Int):=by omega
    have hj1n:j1<s.size:=by omega
    have hg1:=(HGT.out j1 hj1n).symm;obtain⟨y1,hy1⟩:∃ y1,(bn s)[j1]?.getD 0=y1:=⟨_,rfl⟩;rw[hj1,hy1]at HVR;rw[hy1]at hg1;clear hy1;have HPOS:=hid hpos;clear hpos hj1;by_cases c0:y=37
    ·have b0:(y==37)=true:=by simpa using c0
     clear c0;by_cases hil:i<len
     ·have hilz:(i:Int)<(len:Int):=by omega
      obtain⟨b,off,d,rfl,hck0,hd0,hd1⟩:=HROW.out i hil;have hck:wr.cell? ⟨b,off+i,none⟩=some (.int .u8 d):=(HBR.out.cell (p:=⟨b,off+i,none⟩) (lt_of_cell hck0)).trans hck0;obtain⟨p,hp⟩:∃ p:Int,d % 3=p:=⟨_,rfl⟩;have hpt:Int.tmod d 3=p:=by rw[Int.tmod_eq_emod_of_nonneg hd0];exact hp
      have hp0:0≤p:=by omega
      have hp2:p≤2:=by omega
      have hpw:IntKind.u8.wrap p=p:=by simp[IntKind.wrap,IntKind.bits,IntKind.signed];omega
      clear hp hck0 HROW HGT HBY;obtain⟨q,hcv,hq1,hq2⟩:=bR wr y q0 q1;have HQ:=hid (HADD.out q (by omega) (.inl hq1) (fun _=>hq1));have hqs:q.size≤3:=by omega
      clear hq1 hq2 HADD;go_wp2
      go_roundw
      case rel=>exact⟨i+1,T++q,_,by omega,rfl,by go_num,HQ.out.1,HQ.out.2,HBR.out.alloc HBR.out.size _⟩
      case measure=>simp[intOf];omega
     ·have hilz:¬ (i:Int)<(len:Int):=by omega
      clear HROW HGT HBY;obtain⟨q,hcv,hq1,hq2⟩:=bR wr y q0 q1;have HQ:=hid (HADD.out q (by omega) (.inl hq1) (fun _=>hq1));have hqs:q.size≤3:=by omega
      clear hq1 hq2 HADD;go_wp2
      go_roundw
      case rel=>exact⟨i+1,T++q,_,by omega,rfl,by go_num,HQ.out.1,HQ.out.2,HBR.out.alloc HBR.out.size _⟩
      case measure=>simp[intOf];omega
    have b0:(y==37)=false:=by simpa using c0
    by_cases c1:y1=37
    ·have b1:(y1==37)=true:=by simpa using c1
     clear c1;by_cases hil:i<len
     ·have hilz:(i:Int)<(len:Int):=by omega
      obtain⟨b,off,d,rfl,hck0,hd0,hd1⟩:=HROW.out i hil;have hck:wr.cell? ⟨b,off+i,none⟩=some (.int .u8 d):=(HBR.out.cell (p:=⟨b,off+i,none⟩) (lt_of_cell hck0)).trans hck0;obtain⟨p,hp⟩:∃ p:Int,d % 3=p:=⟨_,rfl⟩;have hpt:Int.tmod d 3=p:=by rw[Int.tmod_eq_emod_of_nonneg hd0];exact hp
      have hp0:0≤p:=by omega
      have hp2:p≤2:=by omega
      have hpw:IntKind.u8.wrap p=p:=by simp[IntKind.wrap,IntKind.bits,IntKind.signed];omega
      clear hp hck0 HROW HGT HBY;obtain⟨q,hcv,hq1,hq2⟩:=bR wr y q0 q1;have HQ:=hid (HADD.out q (by omega) (.inl hq1) (fun _=>hq1));have hqs:q.size≤3:=by omega
      clear hq1 hq2 HADD;go_wp2
      go_roundw
      case rel=>exact⟨i+1,T++q,_,by omega,rfl,by go_num,HQ.out.1,HQ.out.2,HBR.out.alloc HBR.out.size _⟩
      case measure=>simp[intOf];omega
     ·have hilz:¬ (i:Int)<(len:Int):=by omega
      clear HROW HGT HBY;obtain⟨q,hcv,hq1,hq2⟩:=bR wr y q0 q1;have HQ:=hid (HADD.out q (by omega) (.inl hq1) (fun _=>hq1));have hqs:q.size≤3:=by omega
      clear hq1 hq2 HADD;go_wp2
      go_roundw
      case rel=>exact⟨i+1,T++q,_,by omega,rfl,by go_num,HQ.out.1,HQ.out.2,HBR.out.alloc HBR.out.size _⟩
      case measure=>simp[intOf];omega
    have b1:(y1==37)=false:=by simpa using c1
    have HNV:Hid (¬ ver (bn s) i):=by
     show ¬ _
     rw[HVR.out];have:=HPOS.out;omega
    clear c0 c1;by_cases hil:i<len
    ·have hilz:(i:Int)<(len:Int):=by omega
     obtain⟨b,off,d,rfl,hck0,hd0,hd1⟩:=HROW.out i hil;have hck:wr.cell? ⟨b,off+i,none⟩=some (.int .u8 d):=(HBR.out.cell (p:=⟨b,off+i,none⟩) (lt_of_cell hck0)).trans hck0;obtain⟨p,hp⟩:∃ p:Int,d % 3=p:=⟨_,rfl⟩;have hpt:Int.tmod d 3=p:=by rw[Int.tmod_eq_emod_of_nonneg hd0];exact hp
     have hp0:0≤p:=by omega
     have hp2:p≤2:=by omega
     have hpw:IntKind.u8.wrap p=p:=by simp[IntKind.wrap,IntKind.bits,IntKind.signed];omega
     clear hp hck0 HROW HGT HBY;obtain rfl | rfl | rfl:p=0∨p=1∨p=2:=by omega
     ·obtain⟨q,hcv,hq1,hq2⟩:=bR wr y q0 q1
      have HQ:=hid (HADD.out q (by omega) (.inl hq1) (fun _=>hq1));have hqs:q.size≤3:=by omega
      clear hq1 hq2 HADD;go_wp2
      go_roundw
      case rel=>exact⟨i+1,T++q,_,by omega,rfl,by go_num,HQ.out.1,HQ.out.2,HBR.out.alloc HBR.out.size _⟩
      case measure=>simp[intOf];omega
     ·obtain⟨k1,hk1,hk1b⟩:∃ k1:Nat,y / 16=(k1:Int)∧k1<16:=⟨(y / 16).toNat,by omega,by omega⟩
      obtain⟨k2,hk2,hk2b⟩:∃ k2:Nat,y % 16=(k2:Int)∧k2<16:=⟨(y % 16).toNat,by omega,by omega⟩;have hy16:16 * (k1:Int)+(k2:Int)=y:=by omega
      have t1:Int.tdiv y 16=(k1:Int):=by rw[Int.tdiv_eq_ediv_of_nonneg q0];exact hk1
      have t2:Int.tmod y 16=(k2:Int):=by rw[Int.tmod_eq_emod_of_nonneg q0];exact hk2
      have hw1:IntKind.u8.wrap (k1:Int)=(k1:Int):=by simp[IntKind.wrap,IntKind.bits,IntKind.signed];omega
      have hw2:IntKind.u8.wrap (k2:Int)=(k2:Int):=by simp[IntKind.wrap,IntKind.bits,IntKind.signed];omega
      have hb1:k1<(⟨#[48,49,50,51,52,53,54,55,56,57,97,98,99,100,101,102]⟩:ByteArray).size:=hk1b;have hb2:k2<(⟨#[48,49,50,51,52,53,54,55,56,57,65,66,67,68,69,70]⟩:ByteArray).size:=hk2b;have hx1:=Gn ⟨k1,hk1b⟩ hb1;have hx2:=Gm ⟨k2,hk2b⟩ hb2;obtain⟨x1,e1⟩:∃ x1:Int,((((⟨#[48,49,50,51,52,53,54,55,56,57,97,98,99,100,101,102]⟩:ByteArray)[k1]'hb1).toNat:Nat):Int)=x1:=⟨_,rfl⟩;obtain⟨x2,e2⟩:∃ x2:Int,((((⟨#[48,49,50,51,52,53,54,55,56,57,65,66,67,68,69,70]⟩:ByteArray)[k2]'hb2).toNat:Nat):Int)=x2:=⟨_,rfl⟩;have g1:=((⟨#[48,49,50,51,52,53,54,55,56,57,97,98,99,100,101,102]⟩:ByteArray)[k1]'hb1).toNat_lt;have g2:=((⟨#[48,49,50,51,52,53,54,55,56,57,65,66,67,68,69,70]⟩:ByteArray)[k2]'hb2).toNat_lt;have hxr1:0≤x1∧x1≤255:=by omega
      have hxr2:0≤x2∧x2≤255:=by omega
      have HX1:Hid (E.hx x1=(k1:Int)):=by show _=_;rw[←e1];exact hx1
      have HX2:Hid (E.hx x2=(k2:Int)):=by show _=_;rw[←e2];exact hx2
      obtain⟨q,hcv,hq1,hq2⟩:=AA wr.drew x1 x2 hxr1.1 hxr1.2 hxr2.1 hxr2.2;have hy37:y≠37:=fun h=>by rw[h]at b0;cases b0
      have HQ:=hid (HADD.out (⟨#[37]⟩++q) (by rw[ByteArray.size_append,hq2];decide) (by
        rw[aC,hq1]
        exact .inr (.inl ⟨hy37,x1,x2,rfl,by rw[HX1.out];omega,by rw[HX2.out];omega,by rw[HX1.out,HX2.out];exact hy16⟩)) (fun h=>absurd h HNV.out))
      have hqs:q.size≤3:=by omega
      have hk1z:(k1:Int)<16:=by omega
      have hk2z:(k2:Int)<16:=by omega
      have hcv2:(convert 36 9 (.slice (some ⟨wr.heap.size,0,none⟩) 2 2)).run Tryz.prog (wr.alloc (.cells #[.int .u8 x1,.int .u8 x2] 5)).drew=.ok (.string q) (wr.alloc (.cells #[.int .u8 x1,.int .u8 x2] 5)).drew:=hcv;clear hcv hq1 hq2 HADD hx1 hx2 g1 g2 hxr1 hxr2 HX1 HX2 hy37 hy16
      go_wp2_with fail;refine E.bP 8 (by kernel_rfl) (by kernel_rfl) ?_;simp only[List.take_succ_cons,List.take_zero,List.drop_succ_cons,List.drop_zero];refine E.ai (.string T) rfl (fun W=>by go_simp) ?_;refine E.ai (.string (T++⟨#[37]⟩)) rfl (fun W=>by go_simp;omega) ?_;refine E.ai (.int .u8 y) rfl (fun W=>by go_simp) ?_;refine E.ai (.int .u8 (k1:Int)) rfl (fun W=>by go_simp) ?_;refine E.ai (.int .u8 x1) rfl (fun W=>by go_simp) ?_;refine E.ai (.int .u8 y) rfl (fun W=>by go_simp) ?_;refine E.ai (.int .u8 (k2:Int)) rfl (fun W=>by go_simp) ?_;refine E.ai (.int .u8 x2) rfl (fun W=>by go_simp) ?_;refine E.c9 ?_;show wpList _ _ _ _ _ wr.drew
      go_wp2;refine⟨rfl,?_⟩;go_wp2
      go_roundw
      case rel=>exact⟨i+1,T++⟨#[37]⟩++q,_,by omega,rfl,by go_num,by rw[ByteArray.append_assoc];exact HQ.out.1,by show Gs _ _ _ _;rw[ByteArray.append_assoc];exact HQ.out.2,(dp HBR.out).alloc (dp HBR.out).size _⟩
      case measure=>simp[intOf];omega
     ·by_cases hL:97≤y∧y≤122
      ·obtain⟨hl1,hl2⟩:=hL
       obtain⟨q,hcv,hq1,hq2⟩:=bR wr (y - 32) (by omega) (by omega);have HQ:=hid (HADD.out q (by omega) (.inr (.inr ⟨⟨hl1,hl2⟩,hq1⟩)) (fun h=>absurd h HNV.out));have hqs:q.size≤3:=by omega
       have hxs:IntKind.u8.wrap (y - 32)=y - 32:=by simp[IntKind.wrap,IntKind.bits,IntKind.signed];omega
       clear hq1 hq2 HADD;go_wp2
       go_roundw
       case rel=>exact⟨i+1,T++q,_,by omega,rfl,by go_num,HQ.out.1,HQ.out.2,HBR.out.alloc HBR.out.size _⟩
       case measure=>simp[intOf];omega
      ·have hL2:¬ (97:Int)≤y∨(97:Int)≤y∧¬ y≤122:=by omega
       rcases hL2 with l1 | ⟨l1,l2⟩
       ·obtain⟨q,hcv,hq1,hq2⟩:=bR wr y q0 q1
        have HQ:=hid (HADD.out q (by omega) (.inl hq1) (fun _=>hq1));have hqs:q.size≤3:=by omega
        clear hq1 hq2 HADD;go_wp2
        go_roundw
        case rel=>exact⟨i+1,T++q,_,by omega,rfl,by go_num,HQ.out.1,HQ.out.2,HBR.out.alloc HBR.out.size _⟩
        case measure=>simp[intOf];omega
       ·obtain⟨q,hcv,hq1,hq2⟩:=bR wr y q0 q1
        have HQ:=hid (HADD.out q (by omega) (.inl hq1) (fun _=>hq1));have hqs:q.size≤3:=by omega
        clear hq1 hq2 HADD;go_wp2
        go_roundw
        case rel=>exact⟨i+1,T++q,_,by omega,rfl,by go_num,HQ.out.1,HQ.out.2,HBR.out.alloc HBR.out.size _⟩
        case measure=>simp[intOf];omega
    ·have hilz:¬ (i:Int)<(len:Int):=by omega
     clear HROW HGT HBY;obtain⟨q,hcv,hq1,hq2⟩:=bR wr y q0 q1;have HQ:=hid (HADD.out q (by omega) (.inl hq1) (fun _=>hq1));have hqs:q.size≤3:=by omega
     clear hq1 hq2 HADD;go_wp2
     go_roundw
     case rel=>exact⟨i+1,T++q,_,by omega,rfl,by go_num,HQ.out.1,HQ.out.2,HBR.out.alloc HBR.out.size _⟩
     case measure=>simp[intOf];omega
   ·have z1:(0:Int)<(i:Int):=by omega
    have z2:(1:Int)<(i:Int):=by omega
    obtain⟨j1,hj1⟩:∃ j1,i - 1=j1:=⟨_,rfl⟩;have hj1z:(i:Int) - 1=(j1:Int):=by omega
    have hj1l:(j1:Int)<(s.size:Int):=by omega
    have hj1n:j1<s.size:=by omega
    have hg1:=(HGT.out j1 hj1n).symm;obtain⟨y1,hy1⟩:∃ y1,(bn s)[j1]?.getD 0=y1:=⟨_,rfl⟩;rw[hj1,hy1]at HVR;rw[hy1]at hg1;clear hy1;obtain⟨j2,hj2⟩:∃ j2,i - 2=j2:=⟨_,rfl⟩;have hj2z:(i:Int) - 2=(j2:Int):=by omega
    have hj2l:(j2:Int)<(s.size:Int):=by omega
    have hj2n:j2<s.size:=by omega
    have hg2:=(HGT.out j2 hj2n).symm;obtain⟨y2,hy2⟩:∃ y2,(bn s)[j2]?.getD 0=y2:=⟨_,rfl⟩;rw[hj2,hy2]at HVR;rw[hy2]at hg2;clear hy2;have HPOS:=hid hpos;clear hpos hj1 hj2;by_cases c0:y=37
    ·have b0:(y==37)=true:=by simpa using c0
     clear c0;by_cases hil:i<len
     ·have hilz:(i:Int)<(len:Int):=by omega
      obtain⟨b,off,d,rfl,hck0,hd0,hd1⟩:=HROW.out i hil;have hck:wr.cell? ⟨b,off+i,none⟩=some (.int .u8 d):=(HBR.out.cell (p:=⟨b,off+i,none⟩) (lt_of_cell hck0)).trans hck0;obtain⟨p,hp⟩:∃ p:Int,d % 3=p:=⟨_,rfl⟩;have hpt:Int.tmod d 3=p:=by rw[Int.tmod_eq_emod_of_nonneg hd0];exact hp
      have hp0:0≤p:=by omega
      have hp2:p≤2:=by omega
      have hpw:IntKind.u8.wrap p=p:=by simp[IntKind.wrap,IntKind.bits,IntKind.signed];omega
      clear hp hck0 HROW HGT HBY;obtain⟨q,hcv,hq1,hq2⟩:=bR wr y q0 q1;have HQ:=hid (HADD.out q (by omega) (.inl hq1) (fun _=>hq1));have hqs:q.size≤3:=by omega
      clear hq1 hq2 HADD;go_wp2
      go_roundw
      case rel=>exact⟨i+1,T++q,_,by omega,rfl,by go_num,HQ.out.1,HQ.out.2,HBR.out.alloc HBR.out.size _⟩
      case measure=>simp[intOf];omega
     ·have hilz:¬ (i:Int)<(len:Int):=by omega
      clear HROW HGT HBY;obtain⟨q,hcv,hq1,hq2⟩:=bR wr y q0 q1;have HQ:=hid (HADD.out q (by omega) (.inl hq1) (fun _=>hq1));have hqs:q.size≤3:=by omega
      clear hq1 hq2 HADD;go_wp2
      go_roundw
      case rel=>exact⟨i+1,T++q,_,by omega,rfl,by go_num,HQ.out.1,HQ.out.2,HBR.out.alloc HBR.out.size _⟩
      case measure=>simp[intOf];omega
    have b0:(y==37)=false:=by simpa using c0
    by_cases c1:y1=37
    ·have b1:(y1==37)=true:=by simpa using c1
     clear c1;by_cases hil:i<len
     ·have hilz:(i:Int)<(len:Int):=by omega
      obtain⟨b,off,d,rfl,hck0,hd0,hd1⟩:=HROW.out i hil;have hck:wr.cell? ⟨b,off+i,none⟩=some (.int .u8 d):=(HBR.out.cell (p:=⟨b,off+i,none⟩) (lt_of_cell hck0)).trans hck0;obtain⟨p,hp⟩:∃ p:Int,d % 3=p:=⟨_,rfl⟩;have hpt:Int.tmod d 3=p:=by rw[Int.tmod_eq_emod_of_nonneg hd0];exact hp
      have hp0:0≤p:=by omega
      have hp2:p≤2:=by omega
      have hpw:IntKind.u8.wrap p=p:=by simp[IntKind.wrap,IntKind.bits,IntKind.signed];omega
      clear hp hck0 HROW HGT HBY;obtain⟨q,hcv,hq1,hq2⟩:=bR wr y q0 q1;have HQ:=hid (HADD.out q (by omega) (.inl hq1) (fun _=>hq1));have hqs:q.size≤3:=by omega
      clear hq1 hq2 HADD;go_wp2
      go_roundw
      case rel=>exact⟨i+1,T++q,_,by omega,rfl,by go_num,HQ.out.1,HQ.out.2,HBR.out.alloc HBR.out.size _⟩
      case measure=>simp[intOf];omega
     ·have hilz:¬ (i:Int)<(len:Int):=by omega
      clear HROW HGT HBY;obtain⟨q,hcv,hq1,hq2⟩:=bR wr y q0 q1;have HQ:=hid (HADD.out q (by omega) (.inl hq1) (fun _=>hq1));have hqs:q.size≤3:=by omega
      clear hq1 hq2 HADD;go_wp2
      go_roundw
      case rel=>exact⟨i+1,T++q,_,by omega,rfl,by go_num,HQ.out.1,HQ.out.2,HBR.out.alloc HBR.out.size _⟩
      case measure=>simp[intOf];omega
    have b1:(y1==37)=false:=by simpa using c1
    by_cases c2:y2=37
    ·have b2:(y2==37)=true:=by simpa using c2
     clear c2;by_cases hil:i<len
     ·have hilz:(i:Int)<(len:Int):=by omega
      obtain⟨b,off,d,rfl,hck0,hd0,hd1⟩:=HROW.out i hil;have hck:wr.cell? ⟨b,off+i,none⟩=some (.int .u8 d):=(HBR.out.cell (p:=⟨b,off+i,none⟩) (lt_of_cell hck0)).trans hck0;obtain⟨p,hp⟩:∃ p:Int,d % 3=p:=⟨_,rfl⟩;have hpt:Int.tmod d 3=p:=by rw[Int.tmod_eq_emod_of_nonneg hd0];exact hp
      have hp0:0≤p:=by omega
      have hp2:p≤2:=by omega
      have hpw:IntKind.u8.wrap p=p:=by simp[IntKind.wrap,IntKind.bits,IntKind.signed];omega
      clear hp hck0 HROW HGT HBY;obtain⟨q,hcv,hq1,hq2⟩:=bR wr y q0 q1;have HQ:=hid (HADD.out q (by omega) (.inl hq1) (fun _=>hq1));have hqs:q.size≤3:=by omega
      clear hq1 hq2 HADD;go_wp2
      go_roundw
      case rel=>exact⟨i+1,T++q,_,by omega,rfl,by go_num,HQ.out.1,HQ.out.2,HBR.out.alloc HBR.out.size _⟩
      case measure=>simp[intOf];omega
     ·have hilz:¬ (i:Int)<(len:Int):=by omega
      clear HROW HGT HBY;obtain⟨q,hcv,hq1,hq2⟩:=bR wr y q0 q1;have HQ:=hid (HADD.out q (by omega) (.inl hq1) (fun _=>hq1));have hqs:q.size≤3:=by omega
      clear hq1 hq2 HADD;go_wp2
      go_roundw
      case rel=>exact⟨i+1,T++q,_,by omega,rfl,by go_num,HQ.out.1,HQ.out.2,HBR.out.alloc HBR.out.size _⟩
      case measure=>simp[intOf];omega
    have b2:(y2==37)=false:=by simpa using c2
    have HNV:Hid (¬ ver (bn s) i):=by
     show ¬ _
     rw[HVR.out];have:=HPOS.out;omega
    clear c0 c1 c2;by_cases hil:i<len
    ·have hilz:(i:Int)<(len:Int):=by omega
     obtain⟨b,off,d,rfl,hck0,hd0,hd1⟩:=HROW.out i hil;have hck:wr.cell? ⟨b,off+i,none⟩=some (.int .u8 d):=(HBR.out.cell (p:=⟨b,off+i,none⟩) (lt_of_cell hck0)).trans hck0;obtain⟨p,hp⟩:∃ p:Int,d % 3=p:=⟨_,rfl⟩;have hpt:Int.tmod d 3=p:=by rw[Int.tmod_eq_emod_of_nonneg hd0];exact hp
     have hp0:0≤p:=by omega
     have hp2:p≤2:=by omega
     have hpw:IntKind.u8.wrap p=p:=by simp[IntKind.wrap,IntKind.bits,IntKind.signed];omega
     clear hp hck0 HROW HGT HBY;obtain rfl | rfl | rfl:p=0∨p=1∨p=2:=by omega
     ·obtain⟨q,hcv,hq1,hq2⟩:=bR wr y q0 q1
      have HQ:=hid (HADD.out q (by omega) (.inl hq1) (fun _=>hq1));have hqs:q.size≤3:=by omega
      clear hq1 hq2 HADD;go_wp2
      go_roundw
      case rel=>exact⟨i+1,T++q,_,by omega,rfl,by go_num,HQ.out.1,HQ.out.2,HBR.out.alloc HBR.out.size _⟩
      case measure=>simp[intOf];omega
     ·obtain⟨k1,hk1,hk1b⟩:∃ k1:Nat,y / 16=(k1:Int)∧k1<16:=⟨(y / 16).toNat,by omega,by omega⟩
      obtain⟨k2,hk2,hk2b⟩:∃ k2:Nat,y % 16=(k2:Int)∧k2<16:=⟨(y % 16).toNat,by omega,by omega⟩;have hy16:16 * (k1:Int)+(k2:Int)=y:=by omega
      have t1:Int.tdiv y 16=(k1:Int):=by rw[Int.tdiv_eq_ediv_of_nonneg q0];exact hk1
      have t2:Int.tmod y 16=(k2:Int):=by rw[Int.tmod_eq_emod_of_nonneg q0];exact hk2
      have hw1:IntKind.u8.wrap (k1:Int)=(k1:Int):=by simp[IntKind.wrap,IntKind.bits,IntKind.signed];omega
      have hw2:IntKind.u8.wrap (k2:Int)=(k2:Int):=by simp[IntKind.wrap,IntKind.bits,IntKind.signed];omega
      have hb1:k1<(⟨#[48,49,50,51,52,53,54,55,56,57,97,98,99,100,101,102]⟩:ByteArray).size:=hk1b;have hb2:k2<(⟨#[48,49,50,51,52,53,54,55,56,57,65,66,67,68,69,70]⟩:ByteArray).size:=hk2b;have hx1:=Gn ⟨k1,hk1b⟩ hb1;have hx2:=Gm ⟨k2,hk2b⟩ hb2;obtain⟨x1,e1⟩:∃ x1:Int,((((⟨#[48,49,50,51,52,53,54,55,56,57,97,98,99,100,101,102]⟩:ByteArray)[k1]'hb1).toNat:Nat):Int)=x1:=⟨_,rfl⟩;obtain⟨x2,e2⟩:∃ x2:Int,((((⟨#[48,49,50,51,52,53,54,55,56,57,65,66,67,68,69,70]⟩:ByteArray)[k2]'hb2).toNat:Nat):Int)=x2:=⟨_,rfl⟩;have g1:=((⟨#[48,49,50,51,52,53,54,55,56,57,97,98,99,100,101,102]⟩:ByteArray)[k1]'hb1).toNat_lt;have g2:=((⟨#[48,49,50,51,52,53,54,55,56,57,65,66,67,68,69,70]⟩:ByteArray)[k2]'hb2).toNat_lt;have hxr1:0≤x1∧x1≤255:=by omega
      have hxr2:0≤x2∧x2≤255:=by omega
      have HX1:Hid (E.hx x1=(k1:Int)):=by show _=_;rw[←e1];exact hx1
      have HX2:Hid (E.hx x2=(k2:Int)):=by show _=_;rw[←e2];exact hx2
      obtain⟨q,hcv,hq1,hq2⟩:=AA wr.drew x1 x2 hxr1.1 hxr1.2 hxr2.1 hxr2.2;have hy37:y≠37:=fun h=>by rw[h]at b0;cases b0
      have HQ:=hid (HADD.out (⟨#[37]⟩++q) (by rw[ByteArray.size_append,hq2];decide) (by
        rw[aC,hq1]
        exact .inr (.inl ⟨hy37,x1,x2,rfl,by rw[HX1.out];omega,by rw[HX2.out];omega,by rw[HX1.out,HX2.out];exact hy16⟩)) (fun h=>absurd h HNV.out))
      have hqs:q.size≤3:=by omega
      have hk1z:(k1:Int)<16:=by omega
      have hk2z:(k2:Int)<16:=by omega
      have hcv2:(convert 36 9 (.slice (some ⟨wr.heap.size,0,none⟩) 2 2)).run Tryz.prog (wr.alloc (.cells #[.int .u8 x1,.int .u8 x2] 5)).drew=.ok (.string q) (wr.alloc (.cells #[.int .u8 x1,.int .u8 x2] 5)).drew:=hcv;clear hcv hq1 hq2 HADD hx1 hx2 g1 g2 hxr1 hxr2 HX1 HX2 hy37 hy16
      go_wp2_with fail;refine E.bP 8 (by kernel_rfl) (by kernel_rfl) ?_;simp only[List.take_succ_cons,List.take_zero,List.drop_succ_cons,List.drop_zero];refine E.ai (.string T) rfl (fun W=>by go_simp) ?_;refine E.ai (.string (T++⟨#[37]⟩)) rfl (fun W=>by go_simp;omega) ?_;refine E.ai (.int .u8 y) rfl (fun W=>by go_simp) ?_;refine E.ai (.int .u8 (k1:Int)) rfl (fun W=>by go_simp) ?_;refine E.ai (.int .u8 x1) rfl (fun W=>by go_simp) ?_;refine E.ai (.int .u8 y) rfl (fun W=>by go_simp) ?_;refine E.ai (.int .u8 (k2:Int)) rfl (fun W=>by go_simp) ?_;refine E.ai (.int .u8 x2) rfl (fun W=>by go_simp) ?_;refine E.c9 ?_;show wpList _ _ _ _ _ wr.drew
      go_wp2;refine⟨rfl,?_⟩;go_wp2
      go_roundw
      case rel=>exact⟨i+1,T++⟨#[37]⟩++q,_,by omega,rfl,by go_num,by rw[ByteArray.append_assoc];exact HQ.out.1,by show Gs _ _ _ _;rw[ByteArray.append_assoc];exact HQ.out.2,(dp HBR.out).alloc (dp HBR.out).size _⟩
      case measure=>simp[intOf];omega
     ·by_cases hL:97≤y∧y≤122
      ·obtain⟨hl1,hl2⟩:=hL
       obtain⟨q,hcv,hq1,hq2⟩:=bR wr (y - 32) (by omega) (by omega);have HQ:=hid (HADD.out q (by omega) (.inr (.inr ⟨⟨hl1,hl2⟩,hq1⟩)) (fun h=>absurd h HNV.out));have hqs:q.size≤3:=by omega
       have hxs:IntKind.u8.wrap (y - 32)=y - 32:=by simp[IntKind.wrap,IntKind.bits,IntKind.signed];omega
       clear hq1 hq2 HADD;go_wp2
       go_roundw
       case rel=>exact⟨i+1,T++q,_,by omega,rfl,by go_num,HQ.out.1,HQ.out.2,HBR.out.alloc HBR.out.size _⟩
       case measure=>simp[intOf];omega
      ·have hL2:¬ (97:Int)≤y∨(97:Int)≤y∧¬ y≤122:=by omega
       rcases hL2 with l1 | ⟨l1,l2⟩
       ·obtain⟨q,hcv,hq1,hq2⟩:=bR wr y q0 q1
        have HQ:=hid (HADD.out q (by omega) (.inl hq1) (fun _=>hq1));have hqs:q.size≤3:=by omega
        clear hq1 hq2 HADD;go_wp2
        go_roundw
        case rel=>exact⟨i+1,T++q,_,by omega,rfl,by go_num,HQ.out.1,HQ.out.2,HBR.out.alloc HBR.out.size _⟩
        case measure=>simp[intOf];omega
       ·obtain⟨q,hcv,hq1,hq2⟩:=bR wr y q0 q1
        have HQ:=hid (HADD.out q (by omega) (.inl hq1) (fun _=>hq1));have hqs:q.size≤3:=by omega
        clear hq1 hq2 HADD;go_wp2
        go_roundw
        case rel=>exact⟨i+1,T++q,_,by omega,rfl,by go_num,HQ.out.1,HQ.out.2,HBR.out.alloc HBR.out.size _⟩
        case measure=>simp[intOf];omega
    ·have hilz:¬ (i:Int)<(len:Int):=by omega
     clear HROW HGT HBY;obtain⟨q,hcv,hq1,hq2⟩:=bR wr y q0 q1;have HQ:=hid (HADD.out q (by omega) (.inl hq1) (fun _=>hq1));have hqs:q.size≤3:=by omega
     clear hq1 hq2 HADD;go_wp2
     go_roundw
     case rel=>exact⟨i+1,T++q,_,by omega,rfl,by go_num,HQ.out.1,HQ.out.2,HBR.out.alloc HBR.out.size _⟩
     case measure=>simp[intOf];omega
  ·have hltz:¬ (i:Int)<(s.size:Int):=by omega
   clear HROW HGT HBY;obtain rfl:i=s.size:=by omega
   have HSPL:Hid (¬ (bn T)[0]?.getD 0=91→∀ {h:Hst},HP IA (bn s) true h→HP IA (bn T) true h):=fun h9 h x=>by
    have ha:=jQ (bn s) gs (by rw[HGS.out.len,aa]) (fun j hj=>HGS.out.all j (by rw[←aa];exact hj)) s.size 0 (by rw[aa];omega);rw[List.drop_zero,List.drop_zero,←HGS.out.txt]at ha;refine HP.spelled (E.eB _ _ (Nat.le_refl _) (aM s)) ha (by rw[aa];omega) (by rw[aa];omega) (fun e=>H91.out ?_) (fun e=>h9 ?_) x
    ·rw[←List.head?_eq_getElem?,e];rfl
    ·rw[←List.head?_eq_getElem?,e];rfl
   clear HGS;by_cases hT0:T.size=0
   ·have heT:T.toList.isEmpty=true:=ah T hT0
    have hhd:¬ (bn T)[0]?.getD 0=91:=fun h=>by
     have:bn T=[]:=List.length_eq_zero_iff.1 (by rw[aa];exact hT0);rw[this]at h;cases h
    clear hT0;have HCP:=hid (HC.out.cp s true wr (by omega) (HK.out _ HBR.out))
    go_wp2_with fail;refine HCP.out.mono ?_;rintro e v1 ⟨⟨⟨k,nm,f,a,er⟩,n,x,hn,rfl⟩,B⟩
    obtain⟨hk,hf,ha,hsm,_,_,_⟩:=x.fine;simp only at hk hf ha hsm hn
    obtain⟨a0,a1,a2,a3,a4,a5,a6,a7,rfl⟩:=eight ha;have HC2:Hid (∀ W,G W→Calls Tryz.prog 9 #[.string T,.bool true] W fun e W'=>e=.returned (.tuple #[hv (k:Int) n (f:Int) (a0:Int) (a1:Int) (a2:Int) (a3:Int) (a4:Int) (a5:Int) (a6:Int) (a7:Int),.int .i64 er])∧Below W.heap.size W W'):=fun W h=>HC.out.cpIs (s:=T) (n:=n) (by omega) (HSPL.out hhd x) hn W h
    show _
    replace HBR:=hid (HBR.out.trans (B.mono HBR.out.size))
    have A1:=hid (heap_alloc_new v1 (.cells #[.int .u8 (k:Int),.string n,.int .u32 (f:Int),.int .u16 (a0:Int),.int .u16 (a1:Int),.int .u16 (a2:Int),.int .u16 (a3:Int),.int .u16 (a4:Int),.int .u16 (a5:Int),.int .u16 (a6:Int),.int .u16 (a7:Int)] 26))
    replace HBR:=hid (HBR.out.alloc HBR.out.size (.cells #[.int .u8 (k:Int),.string n,.int .u32 (f:Int),.int .u16 (a0:Int),.int .u16 (a1:Int),.int .u16 (a2:Int),.int .u16 (a3:Int),.int .u16 (a4:Int),.int .u16 (a5:Int),.int .u16 (a6:Int),.int .u16 (a7:Int)] 26))
    clear B HCP x hn ha hsm hf hk HSPL hhd
    go_wp2_with fail;refine(HC2.out _ (HK.out _ HBR.out)).mono ?_;rintro e v3 ⟨rfl,B⟩
    replace A1:=hid (aA (ag A1.out B) (.cells #[.int .u8 (k:Int),.string n,.int .u32 (f:Int),.int .u16 (a0:Int),.int .u16 (a1:Int),.int .u16 (a2:Int),.int .u16 (a3:Int),.int .u16 (a4:Int),.int .u16 (a5:Int),.int .u16 (a6:Int),.int .u16 (a7:Int)] 26))
    have A3:=hid (heap_alloc_new v3 (.cells #[.int .u8 (k:Int),.string n,.int .u32 (f:Int),.int .u16 (a0:Int),.int .u16 (a1:Int),.int .u16 (a2:Int),.int .u16 (a3:Int),.int .u16 (a4:Int),.int .u16 (a5:Int),.int .u16 (a6:Int),.int .u16 (a7:Int)] 26))
    replace HBR:=hid (HBR.out.trans (B.mono HBR.out.size))
    replace HBR:=hid (HBR.out.alloc HBR.out.size (.cells #[.int .u8 (k:Int),.string n,.int .u32 (f:Int),.int .u16 (a0:Int),.int .u16 (a1:Int),.int .u16 (a2:Int),.int .u16 (a3:Int),.int .u16 (a4:Int),.int .u16 (a5:Int),.int .u16 (a6:Int),.int .u16 (a7:Int)] 26))
    have EE:∀ W,(binOp .eql 26 (hv (k:Int) n (f:Int) (a0:Int) (a1:Int) (a2:Int) (a3:Int) (a4:Int) (a5:Int) (a6:Int) (a7:Int)) (hv (k:Int) n (f:Int) (a0:Int) (a1:Int) (a2:Int) (a3:Int) (a4:Int) (a5:Int) (a6:Int) (a7:Int))).run Tryz.prog W=.ok (.bool true) W:=fun W=>by rw[dF,cV]
    have HHX:Hid (∀ W,Calls Tryz.prog 16 #[.int .u8 97] W fun e W'=>e=.returned (.int .i64 10)∧W'=W):=fun W=>F.cG 97 (by decide) (by decide) W
    have hee:(er==er)=true:=by simp
    clear B HC2;have F0:World.cell? _ ⟨v1.heap.size,0,none⟩=some (.int .u8 (k:Int)):=cell_of_row _ _ 0 _ _ _ A1.out;have F1:World.cell? _ ⟨v1.heap.size,1,none⟩=some (.string n):=cell_of_row _ _ 1 _ _ _ A1.out;have F2:World.cell? _ ⟨v1.heap.size,2,none⟩=some (.int .u32 (f:Int)):=cell_of_row _ _ 2 _ _ _ A1.out;have F3:World.cell? _ ⟨v1.heap.size,3,none⟩=some (.int .u16 (a0:Int)):=cell_of_row _ _ 3 _ _ _ A1.out;have F4:World.cell? _ ⟨v1.heap.size,4,none⟩=some (.int .u16 (a1:Int)):=cell_of_row _ _ 4 _ _ _ A1.out;have F5:World.cell? _ ⟨v1.heap.size,5,none⟩=some (.int .u16 (a2:Int)):=cell_of_row _ _ 5 _ _ _ A1.out;have F6:World.cell? _ ⟨v1.heap.size,6,none⟩=some (.int .u16 (a3:Int)):=cell_of_row _ _ 6 _ _ _ A1.out;have F7:World.cell? _ ⟨v1.heap.size,7,none⟩=some (.int .u16 (a4:Int)):=cell_of_row _ _ 7 _ _ _ A1.out;have F8:World.cell? _ ⟨v1.heap.size,8,none⟩=some (.int .u16 (a5:Int)):=cell_of_row _ _ 8 _ _ _ A1.out;have F9:World.cell? _ ⟨v1.heap.size,9,none⟩=some (.int .u16 (a6:Int)):=cell_of_row _ _ 9 _ _ _ A1.out;have F10:World.cell? _ ⟨v1.heap.size,10,none⟩=some (.int .u16 (a7:Int)):=cell_of_row _ _ 10 _ _ _ A1.out;have D0:World.cell? _ ⟨v3.heap.size,0,none⟩=some (.int .u8 (k:Int)):=cell_of_row _ _ 0 _ _ _ A3.out;have D1:World.cell? _ ⟨v3.heap.size,1,none⟩=some (.string n):=cell_of_row _ _ 1 _ _ _ A3.out;have D2:World.cell? _ ⟨v3.heap.size,2,none⟩=some (.int .u32 (f:Int)):=cell_of_row _ _ 2 _ _ _ A3.out;have D3:World.cell? _ ⟨v3.heap.size,3,none⟩=some (.int .u16 (a0:Int)):=cell_of_row _ _ 3 _ _ _ A3.out;have D4:World.cell? _ ⟨v3.heap.size,4,none⟩=some (.int .u16 (a1:Int)):=cell_of_row _ _ 4 _ _ _ A3.out;have D5:World.cell? _ ⟨v3.heap.size,5,none⟩=some (.int .u16 (a2:Int)):=cell_of_row _ _ 5 _ _ _ A3.out;have D6:World.cell? _ ⟨v3.heap.size,6,none⟩=some (.int .u16 (a3:Int)):=cell_of_row _ _ 6 _ _ _ A3.out;have D7:World.cell? _ ⟨v3.heap.size,7,none⟩=some (.int .u16 (a4:Int)):=cell_of_row _ _ 7 _ _ _ A3.out;have D8:World.cell? _ ⟨v3.heap.size,8,none⟩=some (.int .u16 (a5:Int)):=cell_of_row _ _ 8 _ _ _ A3.out;have D9:World.cell? _ ⟨v3.heap.size,9,none⟩=some (.int .u16 (a6:Int)):=cell_of_row _ _ 9 _ _ _ A3.out;have D10:World.cell? _ ⟨v3.heap.size,10,none⟩=some (.int .u16 (a7:Int)):=cell_of_row _ _ 10 _ _ _ A3.out
    go_wp2_with(first
      | (go_at_call 16;refine(HHX.out _).mono ?_;rintro e w2 ⟨rfl,hw2⟩;obtain rfl:=hw2.symm)
      | (go_at_call 8;refine(HW.out _ HBR.out).mono ?_;rintro e w2 ⟨rfl,B2⟩))
    go_ret;exact⟨rfl,HBR.out.trans (B2.mono HBR.out.size)⟩
   ·have heT:T.toList.isEmpty=false:=ab T (by omega)
    have hgT:=(aq T 0 (by omega)).symm;by_cases hhd:(bn T)[0]?.getD 0=91
    ·rw[hhd]at hgT
     clear HSPL
     go_wp2_with(go_at_call 8;refine(HW.out _ HBR.out).mono ?_;rintro e w2 ⟨rfl,B2⟩)
     go_ret;exact⟨rfl,HBR.out.trans (B2.mono HBR.out.size)⟩
    obtain⟨yT,hyT⟩:∃ yT,(bn T)[0]?.getD 0=yT:=⟨_,rfl⟩;have hTb:(yT==91)=false:=by rw[←hyT];simpa using hhd
    rw[hyT]at hgT;clear hyT;have HCP:=hid (HC.out.cp s true wr (by omega) (HK.out _ HBR.out))
    go_wp2_with fail;refine HCP.out.mono ?_;rintro e v1 ⟨⟨⟨k,nm,f,a,er⟩,n,x,hn,rfl⟩,B⟩
    obtain⟨hk,hf,ha,hsm,_,_,_⟩:=x.fine;simp only at hk hf ha hsm hn
    obtain⟨a0,a1,a2,a3,a4,a5,a6,a7,rfl⟩:=eight ha;have HC2:Hid (∀ W,G W→Calls Tryz.prog 9 #[.string T,.bool true] W fun e W'=>e=.returned (.tuple #[hv (k:Int) n (f:Int) (a0:Int) (a1:Int) (a2:Int) (a3:Int) (a4:Int) (a5:Int) (a6:Int) (a7:Int),.int .i64 er])∧Below W.heap.size W W'):=fun W h=>HC.out.cpIs (s:=T) (n:=n) (by omega) (HSPL.out hhd x) hn W h
    show _
    replace HBR:=hid (HBR.out.trans (B.mono HBR.out.size))
    have A1:=hid (heap_alloc_new v1 (.cells #[.int .u8 (k:Int),.string n,.int .u32 (f:Int),.int .u16 (a0:Int),.int .u16 (a1:Int),.int .u16 (a2:Int),.int .u16 (a3:Int),.int .u16 (a4:Int),.int .u16 (a5:Int),.int .u16 (a6:Int),.int .u16 (a7:Int)] 26))
    replace HBR:=hid (HBR.out.alloc HBR.out.size (.cells #[.int .u8 (k:Int),.string n,.int .u32 (f:Int),.int .u16 (a0:Int),.int .u16 (a1:Int),.int .u16 (a2:Int),.int .u16 (a3:Int),.int .u16 (a4:Int),.int .u16 (a5:Int),.int .u16 (a6:Int),.int .u16 (a7:Int)] 26))
    clear B HCP x hn ha hsm hf hk HSPL hhd
    go_wp2_with fail;refine(HC2.out _ (HK.out _ HBR.out)).mono ?_;rintro e v3 ⟨rfl,B⟩
    replace A1:=hid (aA (ag A1.out B) (.cells #[.int .u8 (k:Int),.string n,.int .u32 (f:Int),.int .u16 (a0:Int),.int .u16 (a1:Int),.int .u16 (a2:Int),.int .u16 (a3:Int),.int .u16 (a4:Int),.int .u16 (a5:Int),.int .u16 (a6:Int),.int .u16 (a7:Int)] 26))
    have A3:=hid (heap_alloc_new v3 (.cells #[.int .u8 (k:Int),.string n,.int .u32 (f:Int),.int .u16 (a0:Int),.int .u16 (a1:Int),.int .u16 (a2:Int),.int .u16 (a3:Int),.int .u16 (a4:Int),.int .u16 (a5:Int),.int .u16 (a6:Int),.int .u16 (a7:Int)] 26))
    replace HBR:=hid (HBR.out.trans (B.mono HBR.out.size))
    replace HBR:=hid (HBR.out.alloc HBR.out.size (.cells #[.int .u8 (k:Int),.string n,.int .u32 (f:Int),.int .u16 (a0:Int),.int .u16 (a1:Int),.int .u16 (a2:Int),.int .u16 (a3:Int),.int .u16 (a4:Int),.int .u16 (a5:Int),.int .u16 (a6:Int),.int .u16 (a7:Int)] 26))
    have EE:∀ W,(binOp .eql 26 (hv (k:Int) n (f:Int) (a0:Int) (a1:Int) (a2:Int) (a3:Int) (a4:Int) (a5:Int) (a6:Int) (a7:Int)) (hv (k:Int) n (f:Int) (a0:Int) (a1:Int) (a2:Int) (a3:Int) (a4:Int) (a5:Int) (a6:Int) (a7:Int))).run Tryz.prog W=.ok (.bool true) W:=fun W=>by rw[dF,cV]
    have HHX:Hid (∀ W,Calls Tryz.prog 16 #[.int .u8 97] W fun e W'=>e=.returned (.int .i64 10)∧W'=W):=fun W=>F.cG 97 (by decide) (by decide) W
    have hee:(er==er)=true:=by simp
    clear B HC2;have F0:World.cell? _ ⟨v1.heap.size,0,none⟩=some (.int .u8 (k:Int)):=cell_of_row _ _ 0 _ _ _ A1.out;have F1:World.cell? _ ⟨v1.heap.size,1,none⟩=some (.string n):=cell_of_row _ _ 1 _ _ _ A1.out;have F2:World.cell? _ ⟨v1.heap.size,2,none⟩=some (.int .u32 (f:Int)):=cell_of_row _ _ 2 _ _ _ A1.out;have F3:World.cell? _ ⟨v1.heap.size,3,none⟩=some (.int .u16 (a0:Int)):=cell_of_row _ _ 3 _ _ _ A1.out;have F4:World.cell? _ ⟨v1.heap.size,4,none⟩=some (.int .u16 (a1:Int)):=cell_of_row _ _ 4 _ _ _ A1.out;have F5:World.cell? _ ⟨v1.heap.size,5,none⟩=some (.int .u16 (a2:Int)):=cell_of_row _ _ 5 _ _ _ A1.out;have F6:World.cell? _ ⟨v1.heap.size,6,none⟩=some (.int .u16 (a3:Int)):=cell_of_row _ _ 6 _ _ _ A1.out;have F7:World.cell? _ ⟨v1.heap.size,7,none⟩=some (.int .u16 (a4:Int)):=cell_of_row _ _ 7 _ _ _ A1.out;have F8:World.cell? _ ⟨v1.heap.size,8,none⟩=some (.int .u16 (a5:Int)):=cell_of_row _ _ 8 _ _ _ A1.out;have F9:World.cell? _ ⟨v1.heap.size,9,none⟩=some (.int .u16 (a6:Int)):=cell_of_row _ _ 9 _ _ _ A1.out;have F10:World.cell? _ ⟨v1.heap.size,10,none⟩=some (.int .u16 (a7:Int)):=cell_of_row _ _ 10 _ _ _ A1.out;have D0:World.cell? _ ⟨v3.heap.size,0,none⟩=some (.int .u8 (k:Int)):=cell_of_row _ _ 0 _ _ _ A3.out;have D1:World.cell? _ ⟨v3.heap.size,1,none⟩=some (.string n):=cell_of_row _ _ 1 _ _ _ A3.out;have D2:World.cell? _ ⟨v3.heap.size,2,none⟩=some (.int .u32 (f:Int)):=cell_of_row _ _ 2 _ _ _ A3.out;have D3:World.cell? _ ⟨v3.heap.size,3,none⟩=some (.int .u16 (a0:Int)):=cell_of_row _ _ 3 _ _ _ A3.out;have D4:World.cell? _ ⟨v3.heap.size,4,none⟩=some (.int .u16 (a1:Int)):=cell_of_row _ _ 4 _ _ _ A3.out;have D5:World.cell? _ ⟨v3.heap.size,5,none⟩=some (.int .u16 (a2:Int)):=cell_of_row _ _ 5 _ _ _ A3.out;have D6:World.cell? _ ⟨v3.heap.size,6,none⟩=some (.int .u16 (a3:Int)):=cell_of_row _ _ 6 _ _ _ A3.out;have D7:World.cell? _ ⟨v3.heap.size,7,none⟩=some (.int .u16 (a4:Int)):=cell_of_row _ _ 7 _ _ _ A3.out;have D8:World.cell? _ ⟨v3.heap.size,8,none⟩=some (.int .u16 (a5:Int)):=cell_of_row _ _ 8 _ _ _ A3.out;have D9:World.cell? _ ⟨v3.heap.size,9,none⟩=some (.int .u16 (a6:Int)):=cell_of_row _ _ 9 _ _ _ A3.out;have D10:World.cell? _ ⟨v3.heap.size,10,none⟩=some (.int .u16 (a7:Int)):=cell_of_row _ _ 10 _ _ _ A3.out
    go_wp2_with(first
      | (go_at_call 16;refine(HHX.out _).mono ?_;rintro e w2 ⟨rfl,hw2⟩;obtain rfl:=hw2.symm)
      | (go_at_call 8;refine(HW.out _ HBR.out).mono ?_;rintro e w2 ⟨rfl,B2⟩))
    go_ret;exact⟨rfl,HBR.out.trans (B2.mono HBR.out.size)⟩
end Go.Proofs.YtkekkbciiohbkaaGreatDoor.H
