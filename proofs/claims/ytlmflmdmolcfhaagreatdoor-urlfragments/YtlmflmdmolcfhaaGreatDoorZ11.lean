/- Contracts and plain facts. -/
import Derived.Test.YtlmflmdmolcfhaaGreatDoorZ10
import Derived.Test.YtlmflmdmolcfhaaGreatDoorRows
import Derived.LaidLaws
import Derived.ProofKit
import Derived.LaidMore
import Derived.Stop.Joined
import Derived.Lib.LaidTab
import Derived.Lay
import Derived.Shelf.LaysM
import Derived.Lib.LaidU8T
set_option maxRecDepth 100000
set_option maxHeartbeats 16000000
set_option linter.unusedVariables false
set_option linter.unnecessarySimpa false
open List (setIfInBounds_toArray set_cons_zero set_cons_succ append_assoc dropWhile_sublist length_append takeWhile_sublist mem_of_getElem? sublist_cons_self nil_append)
open Nat (le_trans le_refl zero_add)
open ByteArray (size_append)
namespace Go.Proofs.YtlmflmdmolcfhaaGreatDoor
open Go.Proofs.Tryz Go.RowKit
namespace X
open F (hx bn hid)
theorem uF(a:List Nat)(h8:a.length=8)(w:World):Calls prog 145 #[.agg (ai a).toArray] w fun e W'=>Ra a e/\Below w.heap.size w W':=by obtain⟨a0,a1,a2,a3,a4,a5,a6,a7,rfl⟩:=BA h8;exact uE a0 a1 a2 a3 a4 a5 a6 a7 w
theorem OC{a:List Nat}(h8:a.length=8):((st a 8).2=0/\txt a=tl a 0 8)\/(∃ p m:Nat,st a 8=(p,m)/\2<=m/\p+m<=8/\txt a=tl a 0 p++[58,58]++tl a (p+m) 8):=by
 rcases mj h8 with⟨h1,h2,_⟩ | ⟨p,m,h1,h2,h3,h4,_,h5⟩
 ·left;refine⟨by unfold st;rw[h1,if_pos (by decide)],?_⟩;rw[h2];unfold tl;rw[List.take_of_length_le (by omega),List.drop_zero]
 ·right;refine⟨p,m,by unfold st;rw[h1,h2,if_neg (by omega),Int.toNat_natCast],h3,h4,?_⟩;rw[h5];unfold tl;rw[List.drop_zero,List.take_of_length_le (by omega:a.length<=8)];simp
theorem Dw{a:List Nat}(hs:Small a)(f n:Nat):∀ x∈tl a f n,0<=x/\x<=255:=by
 have key:∀ ps:List (List Int),(∀ p∈ps,∀ x∈p,0<=x/\x<=255)->∀ x∈aB 58 ps,0<=x/\x<=255:=by
  intro ps
  induction ps with
  | nil=>intro _ x hx;cases hx
  | cons p r ih =>
   intro h x hx;cases r with
   | nil=>exact h p (by simp) x hx
   | cons q s =>
    have hx':x∈p++58::aB 58 (q::s):=hx;rcases List.mem_append.1 hx' with h1 | h1
    ·exact h p (by simp) x h1
    ·rcases List.mem_cons.1 h1 with rfl | h1
     ·decide
     ·exact ih (fun p hp=>h p (List.mem_cons_of_mem _ hp)) x h1
 refine key _ (fun p hp x hx=>?_);obtain⟨v,hv,rfl⟩:=List.mem_map.1 hp;exact jM (hs v (List.mem_of_mem_take (List.mem_of_mem_drop hv))) x hx
theorem nf(a0 a1 a2 a3 a4 a5 a6 a7:Nat)(hs:Small [a0,a1,a2,a3,a4,a5,a6,a7])(w:World)(hT:Tab w):
  Calls prog 101 #[.agg #[.int .u16 a0,.int .u16 a1,.int .u16 a2,.int .u16 a3,.int .u16 a4,.int .u16 a5,.int .u16 a6,.int .u16 a7]] w fun e W'=>pz [a0,a1,a2,a3,a4,a5,a6,a7] w e W':=by
 have HB0:Hid (Below w.heap.size w (w.alloc (.cells #[.int .u16 a0,.int .u16 a1,.int .u16 a2,.int .u16 a3,.int .u16 a4,.int .u16 a5,.int .u16 a6,.int .u16 a7] 24))):=(Below.refl _ w).alloc (le_refl _) _;have HZ0:Hid ((w.alloc (.cells #[.int .u16 a0,.int .u16 a1,.int .u16 a2,.int .u16 a3,.int .u16 a4,.int .u16 a5,.int .u16 a6,.int .u16 a7] 24)).heap.size=w.heap.size+1):=by show _=_;simp
 have HA0:Hid ((w.alloc (.cells #[.int .u16 a0,.int .u16 a1,.int .u16 a2,.int .u16 a3,.int .u16 a4,.int .u16 a5,.int .u16 a6,.int .u16 a7] 24)).heap[w.heap.size]? = some (.cells (ai [a0,a1,a2,a3,a4,a5,a6,a7]).toArray 24 (0,0))):=dM w _ _;have HL8:Hid ([a0,a1,a2,a3,a4,a5,a6,a7].length=8):=rfl;have hgT:=Lib.lt_of_cell (show w.cell? ⟨8,15,none⟩=some (.int .u8 4) from hT);have HT0:=hid (hT.below HB0.out (le_refl _));obtain⟨i0,hi0,hz0,hz1,hz2⟩:=info_parts Gz;obtain⟨a,ha⟩:=Ex' ([a0,a1,a2,a3,a4,a5,a6,a7]);rw[ha]at HA0 HL8 hs ⊢;have HSM:=hid hs;have HTX:=hid (OC HL8.out);have HLO:=hid (uF a HL8.out);have HMK:Hid (∀ t W,bn t=txt a->Below w.heap.size w W->pz a w (.returned (.string t)) W):=fun t W h hB=>⟨⟨t,rfl,h⟩,hB⟩;have HTL:=hid (fun(base:Nat) (v:Value) (l:List Int) (f n:Nat) (hf:f<=n) (hn:n<=8)=>Dz a HL8.out hs base v l f n hf hn);have HLN:=hid (Dt HL8.out);have HBY:=hid (Dw hs);have HT8:=hid (rm HL8.out);obtain⟨y,hy⟩:=Ex' (txt a);rw[hy]at HMK HTX HT8;clear ha hy hs;go_enter func101,ntmps101;go_wp2_with((refine wpList_load_row rfl 24 (.tmp 1) rfl w.heap.size rfl 24 (ai a).toArray (0,0) _ HA0.out underlying24 rfl (aG HL8.out) ?_));obtain⟨w1,hw1⟩:=Ex' (w.alloc (.cells #[.int .u16 a0,.int .u16 a1,.int .u16 a2,.int .u16 a3,.int .u16 a4,.int .u16 a5,.int .u16 a6,.int .u16 a7] 24));rw[hw1]at HB0 HZ0 HA0 HT0 ⊢;obtain⟨arg,harg⟩:=Ex' (Value.agg #[.int .u16 a0,.int .u16 a1,.int .u16 a2,.int .u16 a3,.int .u16 a4,.int .u16 a5,.int .u16 a6,.int .u16 a7]:Value);rw[harg];clear hw1 harg;refine(HLO.out w1).mono ?_;rintro e w2 ⟨hlo,B2⟩;have hlo2:e=.returned (.tuple #[.int .i64 ((st a 8).1:Int),.int .i64 ((st a 8).2:Int)]):=hlo;subst hlo2;have HB2:=Bt' HB0 B2;have HA2:Hid (w2.heap[w.heap.size]? = some (.cells (ai a).toArray 24 (0,0))):=(B2.block _ (by rw[HZ0.out];omega)).trans HA0.out;have HT2:=hid (HT0.out.below B2 (le_refl _));have hz2':w.heap.size+1<=w2.heap.size:=by have:=HZ0.out;have:=B2.size;omega
 clear B2 HLO hlo HA0 HB0 HT0 HZ0;rcases HTX.out with⟨hm0,hty⟩ | ⟨p,m,hst,hm2,hpm,hty⟩
 ·rw[hm0];obtain⟨k0,hk0⟩:=Ex' ((st a 8).1);rw[hk0];have HTY:=hid hty;have HTL8:=hid (HTL.out (w.heap.size+1) (.slice none 0 0) [] 0 8 (by omega) (by omega) w2 HT2.out (by omega) (by simp) (Bts.nilS _ _ _) hz2');clear hm0 hty hk0 HTL HTX;go_wp2_with((refine wpList_load_row rfl 24 (.tmp 1) rfl w.heap.size rfl 24 (ai a).toArray (0,0) _ HA2.out underlying24 rfl (aG HL8.out) ?_));refine HTL8.out.mono ?_;rintro e w3 ⟨v',rfl,h3,B3⟩;rw[nil_append,<-HTY.out]at h3;have hyne:y≠[]:=fun e=>by have:=HT8.out.1;rw[e]at this;simp at this
  obtain⟨g,c3,rfl,_,_,_,hcells⟩:=h3.there hyne;obtain⟨t,hcv3,ht⟩:=sQ w3 g 0 y.length c3 y rfl (fun x hx=>HBY.out 0 8 x (by rw[<-HTY.out];exact hx)) (fun j hj=>by rw[zero_add];exact hcells j hj);have HR:=hid (HMK.out t w3 ht (HB2.out.trans (B3.mono (by omega))));have hyl:=HT8.out.2;obtain⟨n3,hn3⟩:=Ex' y.length;rw[hn3]at hcv3 hyl ⊢;clear hn3 h3 hcells ht B3 HTL8 HMK HTY hyne HT8;go_wp2;go_ret;exact HR.out
 ·rw[hst];have HTY:=hid hty;have hm0b:((m:Int)==0)=false:=by simp;omega
  have HTLp:=hid (HTL.out (w.heap.size+1) (.slice none 0 0) [] 0 p (by omega) (by omega) w2 HT2.out (by omega) (by simp) (Bts.nilS _ _ _) hz2');clear hst hty HTX;go_wp2_with((refine wpList_load_row rfl 24 (.tmp 1) rfl w.heap.size rfl 24 (ai a).toArray (0,0) _ HA2.out underlying24 rfl (aG HL8.out) ?_));refine HTLp.out.mono ?_;rintro e w3 ⟨v',rfl,h3,B3⟩;rw[nil_append]at h3;have HB3:=hid (HB2.out.trans (B3.mono (by omega)));have HA3:Hid (w3.heap[w.heap.size]? = some (.cells (ai a).toArray 24 (0,0))):=(B3.block _ (by omega)).trans HA2.out;have HT3:=hid (HT2.out.at B3 (by omega));have hz3:w.heap.size+1<=w3.heap.size:=le_trans hz2' B3.size;have hlp:=HLN.out 0 p;have HO3:=hid h3;obtain⟨p3,n3,c3,rfl⟩:=h3.form;obtain⟨k,hk⟩:=Ex' (p+m);have hkz:(p:Int)+(m:Int)=(k:Int):=by omega
  rw[hk]at HTY hpm;clear B3 HTLp h3 HA2 HB2 HT2 hk
  go_wp2_with(first
    | (at_builtin;refine fE _ rfl _ _ 42 9 rfl (w.heap.size+1) 5 i0 underlying42 underlying9 hi0 hz0 hz1 hz2 _ (tl a 0 p) rfl HO3.out ⟨#[58,58]⟩ rfl (by have e:(⟨#[58,58]⟩:ByteArray).size=2:=rfl;omega) hz3 ?_;intro v4 w4 hown4 hgrow4;obtain⟨p4,n4,c4,rfl⟩:=hown4.form;have hA4:=(hgrow4.block _ (Nat.lt_of_lt_of_le (Nat.lt_succ_self _) hz3) (HO3.out.apart HA3.out (by decide))).trans HA3.out)
    | (refine wpList_load_row rfl 24 (.tmp 1) rfl w.heap.size rfl 24 (ai a).toArray (0,0) _ hA4 underlying24 rfl (aG HL8.out) ?_))
  have hbz:bn ⟨#[58,58]⟩=[58,58]:=rfl;rw[hbz]at hown4;have HB4':=(Below.refl (w.heap.size+1) w3).grown hgrow4 hz3 (fun k hk=>(HO3.out.lt k hk).1);have HB4:=hid (HB3.out.trans (HB4'.mono (by omega)));have HT4:=hid (HT3.out.at HB4' (by omega));have hz4:w.heap.size+1<=w4.heap.size:=le_trans hz3 hgrow4.size;have HTLk:=hid (HTL.out (w.heap.size+1) _ (tl a 0 p++[58,58]) k 8 hpm (by omega) w4 HT4.out (by omega) (by rw[length_append];simp only[List.length_cons,List.length_nil];omega) hown4 hz4);clear hown4 hgrow4 HB4' HA3 HB3 HT3 HO3 HTL hA4;refine HTLk.out.mono ?_;rintro e w5 ⟨v5,rfl,h5,B5⟩;rw[<-HTY.out]at h5;have hyne:y≠[]:=fun e=>by have:=HT8.out.1;rw[e]at this;simp at this
  obtain⟨g,c5,rfl,_,_,_,hcells⟩:=h5.there hyne
  have hyb:∀ x∈y,0<=x/\x<=255:=fun x hx=>by
   rw[HTY.out]at hx;rcases List.mem_append.1 hx with hx | hx
   ·rcases List.mem_append.1 hx with hx | hx
    ·exact HBY.out _ _ x hx
    ·have:x=58:=by simpa using hx
     omega
   ·exact HBY.out _ _ x hx
  obtain⟨t,hcv3,ht⟩:=sQ w5 g 0 y.length c5 y rfl hyb (fun j hj=>by rw[zero_add];exact hcells j hj);have HR:=hid (HMK.out t w5 ht (HB4.out.trans (B5.mono (by omega))));have hyl:=HT8.out.2;obtain⟨n5,hn5⟩:=Ex' y.length;rw[hn5]at hcv3 hyl ⊢;clear hn5 h5 hcells ht B5 HTLk HMK HTY hyne HT8 hyb;go_wp2;go_ret;exact HR.out
theorem ng(a:List Nat)(h8:a.length=8)(hs:Small a)(w:World)(hT:Tab w):Calls prog 101 #[.agg (ai a).toArray] w fun e W'=>pz a w e W':=by obtain⟨a0,a1,a2,a3,a4,a5,a6,a7,rfl⟩:=BA h8;exact nf a0 a1 a2 a3 a4 a5 a6 a7 hs w hT
end X
namespace H
open F (bn aa hid)
theorem nf(k:Nat)(n:ByteArray)(f:Nat)(a0 a1 a2 a3 a4 a5 a6 a7:Nat)(hz:n.size<=400000000)(hk:k<256)(hf:f<4294967296)(hs:X.Small [a0,a1,a2,a3,a4,a5,a6,a7])(w:World)(hG:GH w):Calls prog 61 #[hvl k n f [a0,a1,a2,a3,a4,a5,a6,a7]] w fun e W'=>pz (k,bn n,f,[a0,a1,a2,a3,a4,a5,a6,a7],0) w e W':=by
 have A0:(w.alloc (.cells #[.int .u8 (k:Nat),.string n,.int .u32 (f:Nat),.int .u16 (a0:Nat),.int .u16 (a1:Nat),.int .u16 (a2:Nat),.int .u16 (a3:Nat),.int .u16 (a4:Nat),.int .u16 (a5:Nat),.int .u16 (a6:Nat),.int .u16 (a7:Nat)] 26)).heap[w.heap.size]? = some (.cells #[.int .u8 (k:Nat),.string n,.int .u32 (f:Nat),.int .u16 (a0:Nat),.int .u16 (a1:Nat),.int .u16 (a2:Nat),.int .u16 (a3:Nat),.int .u16 (a4:Nat),.int .u16 (a5:Nat),.int .u16 (a6:Nat),.int .u16 (a7:Nat)] 26 (0,0)):=X.dM w _ _;have HB:Hid (Below w.heap.size w (w.alloc (.cells #[.int .u8 (k:Nat),.string n,.int .u32 (f:Nat),.int .u16 (a0:Nat),.int .u16 (a1:Nat),.int .u16 (a2:Nat),.int .u16 (a3:Nat),.int .u16 (a4:Nat),.int .u16 (a5:Nat),.int .u16 (a6:Nat),.int .u16 (a7:Nat)] 26))):=(Below.refl _ w).alloc (le_refl _) _;have HG:=hid (hG.below HB.out);have HT1:=hid (fun W=>Cs n hz W);have HT2:=hid (fun W h=>F.ng f hf W h);have HT3:Hid (∀ W,X.Tab W->Calls prog 101 #[.agg #[.int .u16 (a0:Nat),.int .u16 (a1:Nat),.int .u16 (a2:Nat),.int .u16 (a3:Nat),.int .u16 (a4:Nat),.int .u16 (a5:Nat),.int .u16 (a6:Nat),.int .u16 (a7:Nat)]] W fun e W'=>X.pz [a0,a1,a2,a3,a4,a5,a6,a7] W e W'):=fun W h=>X.ng [a0,a1,a2,a3,a4,a5,a6,a7] rfl hs W h;have F0:(w.alloc (.cells #[.int .u8 (k:Nat),.string n,.int .u32 (f:Nat),.int .u16 (a0:Nat),.int .u16 (a1:Nat),.int .u16 (a2:Nat),.int .u16 (a3:Nat),.int .u16 (a4:Nat),.int .u16 (a5:Nat),.int .u16 (a6:Nat),.int .u16 (a7:Nat)] 26)).cell? ⟨w.heap.size,0,none⟩=some (.int .u8 (k:Nat)):=cell_of_row _ _ 0 _ _ _ A0;have F1:(w.alloc (.cells #[.int .u8 (k:Nat),.string n,.int .u32 (f:Nat),.int .u16 (a0:Nat),.int .u16 (a1:Nat),.int .u16 (a2:Nat),.int .u16 (a3:Nat),.int .u16 (a4:Nat),.int .u16 (a5:Nat),.int .u16 (a6:Nat),.int .u16 (a7:Nat)] 26)).cell? ⟨w.heap.size,1,none⟩=some (.string n):=cell_of_row _ _ 1 _ _ _ A0;have F2:(w.alloc (.cells #[.int .u8 (k:Nat),.string n,.int .u32 (f:Nat),.int .u16 (a0:Nat),.int .u16 (a1:Nat),.int .u16 (a2:Nat),.int .u16 (a3:Nat),.int .u16 (a4:Nat),.int .u16 (a5:Nat),.int .u16 (a6:Nat),.int .u16 (a7:Nat)] 26)).cell? ⟨w.heap.size,2,none⟩=some (.int .u32 (f:Nat)):=cell_of_row _ _ 2 _ _ _ A0;have F3:(w.alloc (.cells #[.int .u8 (k:Nat),.string n,.int .u32 (f:Nat),.int .u16 (a0:Nat),.int .u16 (a1:Nat),.int .u16 (a2:Nat),.int .u16 (a3:Nat),.int .u16 (a4:Nat),.int .u16 (a5:Nat),.int .u16 (a6:Nat),.int .u16 (a7:Nat)] 26)).cell? ⟨w.heap.size,3,none⟩=some (.int .u16 (a0:Nat)):=cell_of_row _ _ 3 _ _ _ A0;have F4:(w.alloc (.cells #[.int .u8 (k:Nat),.string n,.int .u32 (f:Nat),.int .u16 (a0:Nat),.int .u16 (a1:Nat),.int .u16 (a2:Nat),.int .u16 (a3:Nat),.int .u16 (a4:Nat),.int .u16 (a5:Nat),.int .u16 (a6:Nat),.int .u16 (a7:Nat)] 26)).cell? ⟨w.heap.size,4,none⟩=some (.int .u16 (a1:Nat)):=cell_of_row _ _ 4 _ _ _ A0;have F5:(w.alloc (.cells #[.int .u8 (k:Nat),.string n,.int .u32 (f:Nat),.int .u16 (a0:Nat),.int .u16 (a1:Nat),.int .u16 (a2:Nat),.int .u16 (a3:Nat),.int .u16 (a4:Nat),.int .u16 (a5:Nat),.int .u16 (a6:Nat),.int .u16 (a7:Nat)] 26)).cell? ⟨w.heap.size,5,none⟩=some (.int .u16 (a2:Nat)):=cell_of_row _ _ 5 _ _ _ A0;have F6:(w.alloc (.cells #[.int .u8 (k:Nat),.string n,.int .u32 (f:Nat),.int .u16 (a0:Nat),.int .u16 (a1:Nat),.int .u16 (a2:Nat),.int .u16 (a3:Nat),.int .u16 (a4:Nat),.int .u16 (a5:Nat),.int .u16 (a6:Nat),.int .u16 (a7:Nat)] 26)).cell? ⟨w.heap.size,6,none⟩=some (.int .u16 (a3:Nat)):=cell_of_row _ _ 6 _ _ _ A0;have F7:(w.alloc (.cells #[.int .u8 (k:Nat),.string n,.int .u32 (f:Nat),.int .u16 (a0:Nat),.int .u16 (a1:Nat),.int .u16 (a2:Nat),.int .u16 (a3:Nat),.int .u16 (a4:Nat),.int .u16 (a5:Nat),.int .u16 (a6:Nat),.int .u16 (a7:Nat)] 26)).cell? ⟨w.heap.size,7,none⟩=some (.int .u16 (a4:Nat)):=cell_of_row _ _ 7 _ _ _ A0;have F8:(w.alloc (.cells #[.int .u8 (k:Nat),.string n,.int .u32 (f:Nat),.int .u16 (a0:Nat),.int .u16 (a1:Nat),.int .u16 (a2:Nat),.int .u16 (a3:Nat),.int .u16 (a4:Nat),.int .u16 (a5:Nat),.int .u16 (a6:Nat),.int .u16 (a7:Nat)] 26)).cell? ⟨w.heap.size,8,none⟩=some (.int .u16 (a5:Nat)):=cell_of_row _ _ 8 _ _ _ A0;have F9:(w.alloc (.cells #[.int .u8 (k:Nat),.string n,.int .u32 (f:Nat),.int .u16 (a0:Nat),.int .u16 (a1:Nat),.int .u16 (a2:Nat),.int .u16 (a3:Nat),.int .u16 (a4:Nat),.int .u16 (a5:Nat),.int .u16 (a6:Nat),.int .u16 (a7:Nat)] 26)).cell? ⟨w.heap.size,9,none⟩=some (.int .u16 (a6:Nat)):=cell_of_row _ _ 9 _ _ _ A0;have F10:(w.alloc (.cells #[.int .u8 (k:Nat),.string n,.int .u32 (f:Nat),.int .u16 (a0:Nat),.int .u16 (a1:Nat),.int .u16 (a2:Nat),.int .u16 (a3:Nat),.int .u16 (a4:Nat),.int .u16 (a5:Nat),.int .u16 (a6:Nat),.int .u16 (a7:Nat)] 26)).cell? ⟨w.heap.size,10,none⟩=some (.int .u16 (a7:Nat)):=cell_of_row _ _ 10 _ _ _ A0;clear A0 hG hs hz;have HK:Hid (∀ t W',bn t=txt (k,bn n,f,[a0,a1,a2,a3,a4,a5,a6,a7],0)->Below w.heap.size w W'->pz (k,bn n,f,[a0,a1,a2,a3,a4,a5,a6,a7],0) w (.returned (.string t)) W'):=fun t W' h hb=>⟨⟨t,rfl,h⟩,hb⟩
 have HX:Hid (((k=1\/k=4)->txt (k,bn n,f,[a0,a1,a2,a3,a4,a5,a6,a7],0)=bn n)/\(k=2->txt (k,bn n,f,[a0,a1,a2,a3,a4,a5,a6,a7],0)=F.txt f)/\(k=3->txt (k,bn n,f,[a0,a1,a2,a3,a4,a5,a6,a7],0)=91::(X.txt [a0,a1,a2,a3,a4,a5,a6,a7]++[93]))/\(¬ (k=1\/k=4)->k≠2->k≠3->txt (k,bn n,f,[a0,a1,a2,a3,a4,a5,a6,a7],0)=[])):=by
  refine⟨fun h=>?_,fun h=>?_,fun h=>?_,fun h1 h2 h3=>?_⟩
  ·unfold txt;rw[if_pos h]
  ·subst h;rfl
  ·subst h;rfl
  ·unfold txt;rw[if_neg h1,if_neg h2,if_neg h3]
 show Calls prog _ #[hv (k:Nat) n (f:Nat) (a0:Nat) (a1:Nat) (a2:Nat) (a3:Nat) (a4:Nat) (a5:Nat) (a6:Nat) (a7:Nat)] w _;by_cases k1:k=1\/k=4
 ·have hq:(((k:Int)==1)=true)\/(((k:Int)==1)=false/\((k:Int)==4)=true):=by
   rcases k1 with h | h
   ·subst h;exact .inl rfl
   ·subst h;exact .inr ⟨rfl,rfl⟩
  have HE:=hid (HX.out.1 k1);clear k1 HX HT2 HT3;rcases hq with q1 | ⟨q1,q4⟩
  all_goals (
    go_enter func61,ntmps61
    go_wp2_with fail
    refine(HT1.out _).mono ?_
    rintro e w2 ⟨rfl,B⟩
    replace HB:=Bt' HB B
    clear B F0 F1 F2 F3 F4 F5 F6 F7 F8 F9 F10
    go_wp2
    go_ret
    exact HK.out _ _ HE.out.symm HB.out)
 ·have q1:((k:Int)==1)=false:=by simp;omega
  have q4:((k:Int)==4)=false:=by simp;omega
  by_cases k2:k=2
  ·have q2:((k:Int)==2)=true:=by subst k2;rfl
   have HE:=hid (HX.out.2.1 k2);clear k1 k2 HX HT1 HT3;go_enter func61,ntmps61;go_wp2_with fail;refine(HT2.out _ HG.out.1).mono ?_;rintro e w2 ⟨⟨t,rfl,ht⟩,B⟩;have HTX:=hid ht;replace HB:=Bt' HB B;clear B ht F0 F1 F2 F3 F4 F5 F6 F7 F8 F9 F10;go_wp2;go_ret;exact HK.out _ _ (HTX.out.trans HE.out.symm) HB.out
  ·have q2:((k:Int)==2)=false:=by simp;omega
   by_cases k3:k=3
   ·have q3:((k:Int)==3)=true:=by subst k3;rfl
    have HE:=hid (HX.out.2.2.1 k3);clear k1 k2 k3 HX HT1 HT2;go_enter func61,ntmps61;go_wp2_with fail;refine(HT3.out _ HG.out.2.2.1).mono ?_;rintro e w2 ⟨⟨t,rfl,ht⟩,B⟩;have hts:t.size<=300:=by rw[<-aa,ht];have:=X.rm (a:=[a0,a1,a2,a3,a4,a5,a6,a7]) rfl;omega
    have HTX:Hid (bn (⟨#[91]⟩++t++⟨#[93]⟩)=91::(X.txt [a0,a1,a2,a3,a4,a5,a6,a7]++[93])):=by show bn _=_;rw[<-ht,F.aD,F.aD];rfl
    replace HB:=Bt' HB B;clear B ht F0 F1 F2 F3 F4 F5 F6 F7 F8 F9 F10;go_wp2;go_ret;exact HK.out _ _ (HTX.out.trans HE.out.symm) HB.out
   ·have q3:((k:Int)==3)=false:=by simp;omega
    have HE:=hid (HX.out.2.2.2 k1 k2 k3);clear k1 k2 k3 HX HT1 HT2 HT3;go_enter func61,ntmps61;go_wp2;go_ret;exact HK.out _ _ HE.out.symm HB.out
end H
namespace Y
open F (bn aa hid aq az)
theorem ee(a b:ByteArray):bn (a++b)=bn a++bn b:=F.aD a b
def who(a:Us):List Int:=if bn a.us=[]/\bn a.pa=[] then [] else bn a.us++((if bn a.pa=[] then [] else 58::bn a.pa)++[64])
def jU(a:Us):List Int:=if a.hh=true then [47,47]++(who a++(H.txt (a.k,bn a.nm,a.f,[a.x0,a.x1,a.x2,a.x3,a.x4,a.x5,a.x6,a.x7],0)++(if a.hp=true then 58::F.wr 10 a.pr else []))) else []
def Jm(a:Us)(w:World)(e:Ending)(W':World):Prop:=(∃ t,e=.returned (.string t)/\bn t=jU a)/\Below w.heap.size w W'
theorem kd{t:ByteArray}{l:List Int}{n:Nat}(h:bn t=l)(hl:l.length<=n):t.size<=n:=by rw[<-aa,h];exact hl
theorem oB(h:Bool)(c p:ByteArray):bn (ifh h c p)=if h=true then bn c++bn p else []:=by
 unfold ifh;cases h
 ·rfl
 ·exact ee c p
theorem dX(h:Bool)(c p:ByteArray):(ifh h c p).size<=c.size+p.size:=by
 rw[<-aa,oB];split
 ·rw[length_append,aa,aa];exact le_refl _
 ·exact Nat.zero_le _
theorem pQ(a:Us)(w:World)(hk:a.k<256)(hf:a.f<4294967296)(hx:X.Small [a.x0,a.x1,a.x2,a.x3,a.x4,a.x5,a.x6,a.x7])(hp:a.pr<65536)(hn:a.nm.size<=400000000)(hu:a.us.size<=900000000)(hpa:a.pa.size<=900000000)(hl:(H.txt (a.k,bn a.nm,a.f,[a.x0,a.x1,a.x2,a.x3,a.x4,a.x5,a.x6,a.x7],0)).length<=900000000)(hG:GU w):Calls prog 32 #[.agg (Us.cs a)] w fun e W'=>Jm a w e W':=by
 obtain⟨V,hV⟩:=Ex' (w.alloc (.cells (Us.cs a) 29));have A0:V.heap[w.heap.size]? = some (.cells (Us.cs a) 29 (0,0)):=by rw[<-hV];exact aA w _ _
 have B0:Below w.heap.size w V:=by rw[<-hV];exact(Below.refl _ w).alloc (le_refl _) _
 have F3:V.cell? ⟨w.heap.size,3,none⟩=some (.bool a.hh):=cell_of_row _ _ 3 _ _ _ A0;have HB0:=hid B0;rcases(show a.hh=true\/a.hh=false by cases a.hh <;> simp) with ho | ho
 ·rw[ho]at F3;have HO:=hid ho;have F1:V.cell? ⟨w.heap.size,1,none⟩=some (.string a.us):=cell_of_row _ _ 1 _ _ _ A0;have F2:V.cell? ⟨w.heap.size,2,none⟩=some (.string a.pa):=cell_of_row _ _ 2 _ _ _ A0;have F15:V.cell? ⟨w.heap.size,15,none⟩=some (.bool a.hp):=cell_of_row _ _ 15 _ _ _ A0;have F16:V.cell? ⟨w.heap.size,16,none⟩=some (.int .u16 (a.pr:Nat)):=cell_of_row _ _ 16 _ _ _ A0;have HGV:Hid (∀ X,Below V.heap.size V X->GU X):=fun X h=>(hG.below B0).below h;have HHT:Hid (∀ X,Below V.heap.size V X->Calls prog 61 #[.agg #[.int .u8 (a.k:Nat),.string a.nm,.int .u32 (a.f:Nat),.int .u16 (a.x0:Nat),.int .u16 (a.x1:Nat),.int .u16 (a.x2:Nat),.int .u16 (a.x3:Nat),.int .u16 (a.x4:Nat),.int .u16 (a.x5:Nat),.int .u16 (a.x6:Nat),.int .u16 (a.x7:Nat)]] X fun e W'=>H.pz (a.k,bn a.nm,a.f,[a.x0,a.x1,a.x2,a.x3,a.x4,a.x5,a.x6,a.x7],0) X e W'):=fun X h=>by exact H.nf a.k a.nm a.f a.x0 a.x1 a.x2 a.x3 a.x4 a.x5 a.x6 a.x7 hn hk hf hx X (HGV.out X h).1
  have HIT:Hid (∀ X,Below V.heap.size V X->Calls prog 35 #[.int .i64 (a.pr:Nat)] X fun e W'=>(∃ t,e=.returned (.string t)/\bn t=F.wr 10 a.pr)/\Below X.heap.size X W'):=fun X h=>Gv a.pr hp X (HGV.out X h).1.1;have HIF:=hid (fun(h:Bool) (c p:ByteArray) (hs:c.size+p.size<=4000000000) (W:World)=>qF h c p hs W);have hwr:(F.wr 10 a.pr).length<=1000:=jX a.pr hp
  have HUS:Hid (∃ us:ByteArray,bn us=who a/\us.size<=2000000000/\(us=⟨#[]⟩/\a.us.toList.isEmpty=true/\a.pa.toList.isEmpty=true\/us=(a.us++ifh (!a.pa.toList.isEmpty) ⟨#[58]⟩ a.pa)++⟨#[64]⟩/\(a.us.toList.isEmpty=false\/a.us.toList.isEmpty=true/\a.pa.toList.isEmpty=false))):=by
   have hemp:∀ t:ByteArray,t.toList.isEmpty=decide (bn t=[]):=fun t=>by
    by_cases h:t.size=0
    ·rw[az t h,decide_eq_true (List.length_eq_zero_iff.1 ((aa t).trans h))]
    ·rw[aq t (Nat.pos_of_ne_zero h),decide_eq_false (fun e=>h (by rw[<-aa,e];rfl))]
   by_cases he:bn a.us=[]/\bn a.pa=[]
   ·exact⟨⟨#[]⟩,by unfold who;rw[if_pos he];rfl,by decide,.inl ⟨rfl,by rw[hemp];exact decide_eq_true he.1,by rw[hemp];exact decide_eq_true he.2⟩⟩
   ·refine⟨_,?_,?_,.inr ⟨rfl,?_⟩⟩
    ·unfold who;rw[if_neg he,ee,ee,oB,hemp,append_assoc];by_cases h2:bn a.pa=[]
     ·rw[decide_eq_true h2,if_pos h2,if_neg (by simp)];rfl
     ·rw[decide_eq_false h2,if_neg h2,if_pos (show(!false)=true from rfl)];rfl
    ·rw[size_append,size_append];have:=dX (!a.pa.toList.isEmpty) ⟨#[58]⟩ a.pa;have h1:(⟨#[58]⟩:ByteArray).size=1:=rfl;have h2:(⟨#[64]⟩:ByteArray).size=1:=rfl;omega
    ·rw[hemp,hemp];by_cases h1:bn a.us=[]
     ·right;exact⟨decide_eq_true h1,decide_eq_false (fun h2=>he ⟨h1,h2⟩)⟩
     ·exact .inl (decide_eq_false h1)
  have HSK:Hid (∀ X,Below V.heap.size V X->X.cell? ⟨w.heap.size,4,none⟩=some (.int .u8 (a.k:Nat))/\X.cell? ⟨w.heap.size,5,none⟩=some (.string a.nm)/\X.cell? ⟨w.heap.size,6,none⟩=some (.int .u32 (a.f:Nat))/\X.cell? ⟨w.heap.size,7,none⟩=some (.int .u16 (a.x0:Nat))/\X.cell? ⟨w.heap.size,8,none⟩=some (.int .u16 (a.x1:Nat))/\X.cell? ⟨w.heap.size,9,none⟩=some (.int .u16 (a.x2:Nat))/\X.cell? ⟨w.heap.size,10,none⟩=some (.int .u16 (a.x3:Nat))/\X.cell? ⟨w.heap.size,11,none⟩=some (.int .u16 (a.x4:Nat))/\X.cell? ⟨w.heap.size,12,none⟩=some (.int .u16 (a.x5:Nat))/\X.cell? ⟨w.heap.size,13,none⟩=some (.int .u16 (a.x6:Nat))/\X.cell? ⟨w.heap.size,14,none⟩=some (.int .u16 (a.x7:Nat))/\X.cell? ⟨w.heap.size,15,none⟩=some (.bool a.hp)/\X.cell? ⟨w.heap.size,16,none⟩=some (.int .u16 (a.pr:Nat))):=fun X h=>by have hlt:w.heap.size<V.heap.size:=World.block_lt_of_cell? V ⟨w.heap.size,15,none⟩ F15;have hc:∀ o,X.cell? ⟨w.heap.size,o,none⟩=(Us.cs a)[o]? := fun o=>(h.cell (p:=⟨w.heap.size,o,none⟩) hlt).trans (cell_of_row _ _ o _ _ _ A0);exact⟨hc 4,hc 5,hc 6,hc 7,hc 8,hc 9,hc 10,hc 11,hc 12,hc 13,hc 14,hc 15,hc 16⟩
  clear A0 B0 ho hG hk hf hx hn;have HX:=hid hp;have HLL:=hid hl;have HWR:=hid hwr;clear hp hl hwr;obtain⟨us,hus,huss,hcase⟩:=HUS.out;have HW:=hid hus;clear HUS hus;have hwp:IntKind.i64.wrap ((a.pr:Nat):Int)=a.pr:=by have:=HX.out;simp[IntKind.wrap,IntKind.bits,IntKind.signed];omega
  have h58:(⟨#[58]⟩:ByteArray).size=1:=rfl;have h64:(⟨#[64]⟩:ByteArray).size=1:=rfl;have h47:(⟨#[47,47]⟩:ByteArray).size=2:=rfl;have HFIN:Hid (∀(us ht it:ByteArray) (W':World),bn us=who a->bn ht=H.txt (a.k,bn a.nm,a.f,[a.x0,a.x1,a.x2,a.x3,a.x4,a.x5,a.x6,a.x7],0)->bn it=F.wr 10 a.pr->Below w.heap.size w W'->Jm a w (.returned (.string (⟨#[47,47]⟩++us++ht++ifh a.hp ⟨#[58]⟩ it))) W'):=fun us ht it W' h1 h2 h3 hb=>by refine⟨⟨_,rfl,?_⟩,hb⟩;unfold jU;rw[if_pos HO.out,ee,ee,ee,oB,h1,h2,h3,append_assoc,append_assoc];rfl
  rcases hcase with⟨rfl,hq1,hq2⟩ | ⟨rfl,hq1 | ⟨hq1,hq2⟩⟩
  ·have hBB:Below V.heap.size V V.drew:=⟨rfl,rfl,rfl,le_refl _,fun _ _=>rfl⟩;go_enter func32,ntmps32;go_wp2_with fail;obtain⟨K4,K5,K6,K7,K8,K9,K10,K11,K12,K13,K14,K15,K16⟩:=HSK.out V (Below.refl _ _)
   go_region_held3 (fun w'=>w'.cell? ⟨w.heap.size,4,none⟩=some (.int .u8 (a.k:Nat))/\w'.cell? ⟨w.heap.size,5,none⟩=some (.string a.nm)/\w'.cell? ⟨w.heap.size,6,none⟩=some (.int .u32 (a.f:Nat))/\w'.cell? ⟨w.heap.size,7,none⟩=some (.int .u16 (a.x0:Nat))/\w'.cell? ⟨w.heap.size,8,none⟩=some (.int .u16 (a.x1:Nat))/\w'.cell? ⟨w.heap.size,9,none⟩=some (.int .u16 (a.x2:Nat))/\w'.cell? ⟨w.heap.size,10,none⟩=some (.int .u16 (a.x3:Nat))/\w'.cell? ⟨w.heap.size,11,none⟩=some (.int .u16 (a.x4:Nat))/\w'.cell? ⟨w.heap.size,12,none⟩=some (.int .u16 (a.x5:Nat))/\w'.cell? ⟨w.heap.size,13,none⟩=some (.int .u16 (a.x6:Nat))/\w'.cell? ⟨w.heap.size,14,none⟩=some (.int .u16 (a.x7:Nat))/\w'.cell? ⟨w.heap.size,15,none⟩=some (.bool a.hp)/\w'.cell? ⟨w.heap.size,16,none⟩=some (.int .u16 (a.pr:Nat)))
    (first | exact HSK.out _ hBB | go_keep)
    ((first
      | (go_at_call 61;refine(HHT.out _ hBB).mono ?_;rintro e w' ⟨⟨ht,rfl,hht⟩,hb⟩;replace hBB:=bK hBB hb;have hhz:=kd hht HLL.out;have hc5:¬ 9223372036854775807<2+ht.size:=by omega)
      | (go_at_call 35;refine(HIT.out _ hBB).mono ?_;rintro e w' ⟨⟨it,rfl,hit⟩,hb⟩;replace hBB:=bK hBB hb;have hiz:=kd hit HWR.out)
      | (go_at_call 33;refine(HIF.out _ _ _ (by omega) _).mono ?_;rintro e w' ⟨rfl,hw⟩;obtain rfl:=hw.symm;have hfz:=dX a.hp ⟨#[58]⟩ it;have hc13:¬ 9223372036854775807<2+ht.size+(ifh a.hp ⟨#[58]⟩ it).size:=by omega)))
   go_wp2;go_ret;exact HFIN.out _ _ _ _ HW.out hht hit (HB0.out.trans (hBB.mono HB0.out.size))
  ·have hfz:=dX (!a.pa.toList.isEmpty) ⟨#[58]⟩ a.pa;have hc8:¬ 9223372036854775807<a.us.size+(ifh (!a.pa.toList.isEmpty) ⟨#[58]⟩ a.pa).size:=by omega
   have hc9:¬ 9223372036854775807<a.us.size+(ifh (!a.pa.toList.isEmpty) ⟨#[58]⟩ a.pa).size+1:=by omega
   have hc1:¬ 9223372036854775807<2+(a.us.size+(ifh (!a.pa.toList.isEmpty) ⟨#[58]⟩ a.pa).size+1):=by omega
   have hBB:Below V.heap.size V V.drew.drew:=⟨rfl,rfl,rfl,le_refl _,fun _ _=>rfl⟩;go_enter func32,ntmps32;go_wp2_with fail
   go_region_held3 (fun w'=>w'.cell? ⟨w.heap.size,1,none⟩=some (.string a.us)/\w'.cell? ⟨w.heap.size,2,none⟩=some (.string a.pa))
    (first | go_keep | assumption)
    ((go_at_call 33;refine(HIF.out _ _ _ (by omega) _).mono ?_;rintro e w' ⟨rfl,hw⟩;obtain rfl:=hw.symm))
   go_wp2_with fail;obtain⟨K4,K5,K6,K7,K8,K9,K10,K11,K12,K13,K14,K15,K16⟩:=HSK.out V (Below.refl _ _)
   go_region_held3 (fun w'=>w'.cell? ⟨w.heap.size,4,none⟩=some (.int .u8 (a.k:Nat))/\w'.cell? ⟨w.heap.size,5,none⟩=some (.string a.nm)/\w'.cell? ⟨w.heap.size,6,none⟩=some (.int .u32 (a.f:Nat))/\w'.cell? ⟨w.heap.size,7,none⟩=some (.int .u16 (a.x0:Nat))/\w'.cell? ⟨w.heap.size,8,none⟩=some (.int .u16 (a.x1:Nat))/\w'.cell? ⟨w.heap.size,9,none⟩=some (.int .u16 (a.x2:Nat))/\w'.cell? ⟨w.heap.size,10,none⟩=some (.int .u16 (a.x3:Nat))/\w'.cell? ⟨w.heap.size,11,none⟩=some (.int .u16 (a.x4:Nat))/\w'.cell? ⟨w.heap.size,12,none⟩=some (.int .u16 (a.x5:Nat))/\w'.cell? ⟨w.heap.size,13,none⟩=some (.int .u16 (a.x6:Nat))/\w'.cell? ⟨w.heap.size,14,none⟩=some (.int .u16 (a.x7:Nat))/\w'.cell? ⟨w.heap.size,15,none⟩=some (.bool a.hp)/\w'.cell? ⟨w.heap.size,16,none⟩=some (.int .u16 (a.pr:Nat)))
    (first | exact HSK.out _ hBB | go_keep)
    ((first
      | (go_at_call 61;refine(HHT.out _ hBB).mono ?_;rintro e w' ⟨⟨ht,rfl,hht⟩,hb⟩;replace hBB:=bK hBB hb;have hhz:=kd hht HLL.out;have hc5:¬ 9223372036854775807<2+(a.us.size+(ifh (!a.pa.toList.isEmpty) ⟨#[58]⟩ a.pa).size+1)+ht.size:=by omega)
      | (go_at_call 35;refine(HIT.out _ hBB).mono ?_;rintro e w' ⟨⟨it,rfl,hit⟩,hb⟩;replace hBB:=bK hBB hb;have hiz:=kd hit HWR.out)
      | (go_at_call 33;refine(HIF.out _ _ _ (by omega) _).mono ?_;rintro e w' ⟨rfl,hw⟩;obtain rfl:=hw.symm;have hfz:=dX a.hp ⟨#[58]⟩ it;have hc13:¬ 9223372036854775807<2+(a.us.size+(ifh (!a.pa.toList.isEmpty) ⟨#[58]⟩ a.pa).size+1)+ht.size+(ifh a.hp ⟨#[58]⟩ it).size:=by omega)))
   go_wp2;go_ret;exact HFIN.out _ _ _ _ HW.out hht hit (HB0.out.trans (hBB.mono HB0.out.size))
  ·have hfz:=dX true ⟨#[58]⟩ a.pa;simp only[hq2,Bool.not_false]at huss HW;have hc8:¬ 9223372036854775807<a.us.size+(ifh true ⟨#[58]⟩ a.pa).size:=by omega
   have hc9:¬ 9223372036854775807<a.us.size+(ifh true ⟨#[58]⟩ a.pa).size+1:=by omega
   have hc1:¬ 9223372036854775807<2+(a.us.size+(ifh true ⟨#[58]⟩ a.pa).size+1):=by omega
   have hBB:Below V.heap.size V V.drew.drew:=⟨rfl,rfl,rfl,le_refl _,fun _ _=>rfl⟩;go_enter func32,ntmps32;go_wp2_with fail
   go_region_held3 (fun w'=>w'.cell? ⟨w.heap.size,1,none⟩=some (.string a.us)/\w'.cell? ⟨w.heap.size,2,none⟩=some (.string a.pa))
    (first | go_keep | assumption)
    ((go_at_call 33;refine(HIF.out _ _ _ (by omega) _).mono ?_;rintro e w' ⟨rfl,hw⟩;obtain rfl:=hw.symm))
   go_wp2_with fail;obtain⟨K4,K5,K6,K7,K8,K9,K10,K11,K12,K13,K14,K15,K16⟩:=HSK.out V (Below.refl _ _)
   go_region_held3 (fun w'=>w'.cell? ⟨w.heap.size,4,none⟩=some (.int .u8 (a.k:Nat))/\w'.cell? ⟨w.heap.size,5,none⟩=some (.string a.nm)/\w'.cell? ⟨w.heap.size,6,none⟩=some (.int .u32 (a.f:Nat))/\w'.cell? ⟨w.heap.size,7,none⟩=some (.int .u16 (a.x0:Nat))/\w'.cell? ⟨w.heap.size,8,none⟩=some (.int .u16 (a.x1:Nat))/\w'.cell? ⟨w.heap.size,9,none⟩=some (.int .u16 (a.x2:Nat))/\w'.cell? ⟨w.heap.size,10,none⟩=some (.int .u16 (a.x3:Nat))/\w'.cell? ⟨w.heap.size,11,none⟩=some (.int .u16 (a.x4:Nat))/\w'.cell? ⟨w.heap.size,12,none⟩=some (.int .u16 (a.x5:Nat))/\w'.cell? ⟨w.heap.size,13,none⟩=some (.int .u16 (a.x6:Nat))/\w'.cell? ⟨w.heap.size,14,none⟩=some (.int .u16 (a.x7:Nat))/\w'.cell? ⟨w.heap.size,15,none⟩=some (.bool a.hp)/\w'.cell? ⟨w.heap.size,16,none⟩=some (.int .u16 (a.pr:Nat)))
    (first | exact HSK.out _ hBB | go_keep)
    ((first
      | (go_at_call 61;refine(HHT.out _ hBB).mono ?_;rintro e w' ⟨⟨ht,rfl,hht⟩,hb⟩;replace hBB:=bK hBB hb;have hhz:=kd hht HLL.out;have hc5:¬ 9223372036854775807<2+(a.us.size+(ifh true ⟨#[58]⟩ a.pa).size+1)+ht.size:=by omega)
      | (go_at_call 35;refine(HIT.out _ hBB).mono ?_;rintro e w' ⟨⟨it,rfl,hit⟩,hb⟩;replace hBB:=bK hBB hb;have hiz:=kd hit HWR.out)
      | (go_at_call 33;refine(HIF.out _ _ _ (by omega) _).mono ?_;rintro e w' ⟨rfl,hw⟩;obtain rfl:=hw.symm;have hfz:=dX a.hp ⟨#[58]⟩ it;have hc13:¬ 9223372036854775807<2+(a.us.size+(ifh true ⟨#[58]⟩ a.pa).size+1)+ht.size+(ifh a.hp ⟨#[58]⟩ it).size:=by omega)))
   go_wp2;go_ret;exact HFIN.out _ _ _ _ HW.out hht hit (HB0.out.trans (hBB.mono HB0.out.size))
 ·rw[ho]at F3;have HO:=hid ho;clear A0 B0 ho;go_enter func32,ntmps32;go_wp2;go_ret;exact⟨⟨⟨#[]⟩,rfl,by unfold jU;rw[if_neg (by rw[HO.out];simp)];rfl⟩,HB0.out⟩
open F (bn hid)
def dtx(a:Us)(ps:List ByteArray):List Int:=if a.hh=false/\a.op=false/\1<ps.length/\(ps.map bn).head? = some [] then [47,46] else []
def pax(a:Us)(ps:List ByteArray):List Int:=if a.op=true then bn a.bo else (ps.map bn).flatMap (fun p=>47::p)
def Sx(a:Us)(ps:List ByteArray)(w:World)(e:Ending)(W':World):Prop :=
 (∃ t,e=.returned (.string t)/\bn t=bn a.sc++(58::(jU a++(dtx a ps++(pax a ps++((if a.hq=true then 63::bn a.qu else [])++(if a.hf=true then 35::bn a.fg else [])))))))/\Below w.heap.size w W'
set_option linter.unusedSimpArgs false
theorem AA(a:Us)(ps:List ByteArray)(w:World)(hst:Strs w a.pv ps)(hsc:a.sc.size<=900000000)(hqu:a.qu.size<=900000000)(hfg:a.fg.size<=900000000)(hla:(jU a).length<=2100000000)(hlp:(pax a ps).length<=2100000000)
  (hau:∀ X,Below w.heap.size w X->Calls prog 32 #[.agg (Us.cs a)] X fun e W'=>Jm a X e W')
  (hpt:∀ X,Below w.heap.size w X->Calls prog 19 #[.agg (Us.cs a)] X fun e W'=>NK a ps X e W'):Calls prog 16 #[.agg (Us.cs a)] w fun e W'=>Sx a ps w e W':=by
 obtain⟨V,hV⟩:=Ex' (w.alloc (.cells (Us.cs a) 29));have A0:V.heap[w.heap.size]? = some (.cells (Us.cs a) 29 (0,0)):=by rw[<-hV];exact aA w _ _
 have B0:Below w.heap.size w V:=by rw[<-hV];exact(Below.refl _ w).alloc (le_refl _) _
 have HB0:=hid B0;have F3:V.cell? ⟨w.heap.size,3,none⟩=some (.bool a.hh):=cell_of_row _ _ 3 _ _ _ A0;have F17:V.cell? ⟨w.heap.size,17,none⟩=some (.bool a.op):=cell_of_row _ _ 17 _ _ _ A0;have F18:V.cell? ⟨w.heap.size,18,none⟩=some a.pv:=cell_of_row _ _ 18 _ _ _ A0;obtain⟨cs,hcs⟩:=Ex' ((Us.cs a).toList);have HIU:Hid ((prog.info? 29).map (·.size)=some cs.length):=by show _=_;rw[<-hcs,Array.length_toList];exact aL a
 have HSK:Hid (∀ X,Below V.heap.size V X->X.rangeAt w.heap.size 0 cs/\X.cell? ⟨w.heap.size,0,none⟩=some (.string a.sc)/\X.cell? ⟨w.heap.size,20,none⟩=some (.bool a.hq)/\X.cell? ⟨w.heap.size,21,none⟩=some (.string a.qu)/\X.cell? ⟨w.heap.size,22,none⟩=some (.bool a.hf)/\X.cell? ⟨w.heap.size,23,none⟩=some (.string a.fg)):=fun X h=>by have hlt:w.heap.size<V.heap.size:=World.block_lt_of_cell? V ⟨w.heap.size,3,none⟩ F3;have hc:∀ o,X.cell? ⟨w.heap.size,o,none⟩=(Us.cs a)[o]? := fun o=>(h.cell (p:=⟨w.heap.size,o,none⟩) hlt).trans (cell_of_row _ _ o _ _ _ A0);exact⟨fun j v hv=>by rw[zero_add,hc j,<-hv,<-hcs,Array.getElem?_toList],hc 0,hc 20,hc 21,hc 22,hc 23⟩
 have HAU:Hid (∀ X,Below V.heap.size V X->Calls prog 32 #[.agg cs.toArray] X fun e W'=>Jm a X e W'):=fun X h=>by rw[<-hcs];exact hau X (B0.trans (h.mono B0.size))
 have HPT:Hid (∀ X,Below V.heap.size V X->Calls prog 19 #[.agg cs.toArray] X fun e W'=>NK a ps X e W'):=fun X h=>by rw[<-hcs];exact hpt X (B0.trans (h.mono B0.size))
 have HIF:=hid (fun(h:Bool) (c p:ByteArray) (hs:c.size+p.size<=4000000000) (W:World)=>qF h c p hs W);have HST:=hid (hst.below B0);have HLA:=hid hla;have HLP:=hid hlp;have HFIN:Hid (∀(au d pt:ByteArray) (W':World),bn au=jU a->bn d=dtx a ps->bn pt=(if a.op=true then bn a.bo else (ps.map bn).flatMap (fun p=>47::p))->Below w.heap.size w W'->Sx a ps w (.returned (.string (a.sc++⟨#[58]⟩++au++d++pt++(ifh a.hq ⟨#[63]⟩ a.qu)++(ifh a.hf ⟨#[35]⟩ a.fg)))) W'):=fun au d pt W' h1 h2 h3 hb=>by refine⟨⟨_,rfl,?_⟩,hb⟩;rw[ee,ee,ee,ee,ee,ee,oB,oB,h1,h2,h3,append_assoc,append_assoc,append_assoc,append_assoc,append_assoc];rfl
 have hq1:=dX a.hq ⟨#[63]⟩ a.qu;have hq2:=dX a.hf ⟨#[35]⟩ a.fg;have h58:(⟨#[58]⟩:ByteArray).size=1:=rfl;have h63:(⟨#[63]⟩:ByteArray).size=1:=rfl;have h35:(⟨#[35]⟩:ByteArray).size=1:=rfl;have hc2:¬ 9223372036854775807<a.sc.size+1:=by omega
 have HC1:Hid (∀ au d:ByteArray,bn au=jU a->d.size<=2->¬ 9223372036854775807<a.sc.size+1+au.size/\¬ 9223372036854775807<a.sc.size+1+au.size+d.size):=fun au d h1 h2=>by have z1:=kd h1 hla;exact⟨by omega,by omega⟩
 have HC2:Hid (∀ au d pt:ByteArray,bn au=jU a->d.size<=2->bn pt=(if a.op=true then bn a.bo else (ps.map bn).flatMap (fun p=>47::p))->¬ 9223372036854775807<a.sc.size+1+au.size+d.size+pt.size/\¬ 9223372036854775807<a.sc.size+1+au.size+d.size+pt.size+(ifh a.hq ⟨#[63]⟩ a.qu).size/\¬ 9223372036854775807<a.sc.size+1+au.size+d.size+pt.size+(ifh a.hq ⟨#[63]⟩ a.qu).size+(ifh a.hf ⟨#[35]⟩ a.fg).size):=fun au d pt h1 h3 h2=>by have z1:=kd h1 hla;have z2:=kd h2 hlp;exact⟨by omega,by omega,by omega⟩
 have hz1:(⟨#[63]⟩:ByteArray).size+a.qu.size<=4000000000:=by omega
 have hz2:(⟨#[35]⟩:ByteArray).size+a.fg.size<=4000000000:=by omega
 have hBB:Below V.heap.size V V.drew:=⟨rfl,rfl,rfl,le_refl _,fun _ _=>rfl⟩;clear hcs A0 hst hla hlp hau hpt B0 hq1 hq2 hsc hqu hfg;rcases(show a.hh=true\/a.hh=false by cases a.hh <;> simp) with ho | ho
 focus
  rw[ho]at F3;have HD:Hid (bn ⟨#[]⟩=dtx a ps):=by show _=_;unfold dtx;rw[if_neg (fun h=>by rw[ho]at h;exact absurd h.1 (by simp))];rfl
  have HDZ:Hid ((⟨#[]⟩:ByteArray).size<=2):=by show _<=_;decide
  clear ho;go_enter func16,ntmps16;go_wp2_with fail;clear F3 F17 F18;generalize (⟨#[]⟩:ByteArray)=d at HD HDZ ⊢
 rotate_left;rw[ho]at F3;rcases(show a.op=true\/a.op=false by cases a.op <;> simp) with hop | hop
 focus
  rw[hop]at F17;have HD:Hid (bn ⟨#[]⟩=dtx a ps):=by show _=_;unfold dtx;rw[if_neg (fun h=>by rw[hop]at h;exact absurd h.2.1 (by simp))];rfl
  have HDZ:Hid ((⟨#[]⟩:ByteArray).size<=2):=by show _<=_;decide
  clear ho hop;go_enter func16,ntmps16;go_wp2_with fail;clear F3 F17 F18;generalize (⟨#[]⟩:ByteArray)=d at HD HDZ ⊢
 rotate_left;rw[hop]at F17
 obtain⟨ad,n,c,hpv,hn,hcl⟩:∃ ad n c,a.pv=.slice ad n c/\n=ps.length/\(∀ p0 t,ps=p0::t->∃ b off,ad=some ⟨b,off,none⟩/\V.cell? ⟨b,off,none⟩=some (.string p0)):=by
  rcases HST.out with⟨h1,h2⟩ | ⟨b,off,c,h1,h2,h3⟩
  ·exact⟨none,0,0,h2,by rw[h1];rfl,fun p0 t e=>by rw[h1]at e;cases e⟩
  ·refine⟨_,_,_,h1,rfl,fun p0 t e=>⟨b,off,rfl,?_⟩⟩;have:=h3 0 (by rw[e];simp);simp only[e]at this;exact this
 rw[hpv]at F18;have HOO:Hid (a.hh=false/\a.op=false):=⟨ho,hop⟩;clear ho hop hpv;rcases(show n<=1\/1<n by omega) with hm | hm
 focus
  have HD:Hid (bn ⟨#[]⟩=dtx a ps):=by show _=_;unfold dtx;rw[if_neg (fun h=>by have:=h.2.2.1;omega)];rfl
  have HDZ:Hid ((⟨#[]⟩:ByteArray).size<=2):=by show _<=_;decide
  have hi1:¬ (1:Int)<(n:Int):=by omega
  clear hcl hn hm;go_enter func16,ntmps16;go_wp2_with fail;clear F3 F17 F18;generalize (⟨#[]⟩:ByteArray)=d at HD HDZ ⊢
 rotate_left
 obtain⟨p0,t,hpt⟩:∃ p0 t,ps=p0::t:=by
  cases ps with
  | nil=>rw[hn]at hm;simp at hm
  | cons p0 t=>exact⟨p0,t,rfl⟩
 obtain⟨b,off,rfl,hce⟩:=hcl p0 t hpt;have hi1:(1:Int)<(n:Int):=by omega
 have hi2:(0:Int)<(n:Int):=by omega
 by_cases h0:p0.size=0
 focus
  have HD:Hid (bn ⟨#[47,46]⟩=dtx a ps):=by show _=_;unfold dtx;rw[if_pos ⟨HOO.out.1,HOO.out.2,hn ▸ hm,by rw[hpt];exact congrArg some (List.length_eq_zero_iff.1 ((aa p0).trans h0))⟩];rfl
  have HDZ:Hid ((⟨#[47,46]⟩:ByteArray).size<=2):=by show _<=_;decide
  have he:=az p0 h0;clear hcl h0 hpt hn hm;go_enter func16,ntmps16;go_wp2_with fail;clear hce he F3 F17 F18;generalize (⟨#[47,46]⟩:ByteArray)=d at HD HDZ ⊢
 rotate_left
 focus
  have HD:Hid (bn ⟨#[]⟩=dtx a ps):=by
   show _=_;unfold dtx
   rw[if_neg (fun h=>by
     have h4:=h.2.2.2
     rw[hpt]at h4
     exact h0 (by rw[<-aa,Option.some.inj h4];rfl))];rfl
  have HDZ:Hid ((⟨#[]⟩:ByteArray).size<=2):=by show _<=_;decide
  have he:=aq p0 (Nat.pos_of_ne_zero h0);clear hcl h0 hpt hn hm;go_enter func16,ntmps16;go_wp2_with fail;clear hce he F3 F17 F18;generalize (⟨#[]⟩:ByteArray)=d at HD HDZ ⊢
 rotate_left
 all_goals
  have e1:=enters_of func32 (by kernel_rfl) rfl;have e2:=enters_of func19 (by kernel_rfl) rfl;have e3:=enters_of func33 (by kernel_rfl) rfl;refine wp_region_held_drew (S:=fun w'=>w'.rangeAt w.heap.size 0 cs/\w'.cell? ⟨w.heap.size,0,none⟩=some (.string a.sc)/\w'.cell? ⟨w.heap.size,20,none⟩=some (.bool a.hq)/\w'.cell? ⟨w.heap.size,21,none⟩=some (.string a.qu)/\w'.cell? ⟨w.heap.size,22,none⟩=some (.bool a.hf)/\w'.cell? ⟨w.heap.size,23,none⟩=some (.string a.fg)) (by kernel_rfl) (HSK.out _ hBB) (fun hS=>?_);show wpAnyH _ _ _ _ _ 24 _ _ _;refine wpAnyH_take (i:=0) (v:=.pointer (some ⟨w.heap.size,0,none⟩)) rfl (by kernel_rfl) (by kernel_rfl) (by kernel_rfl) (fun _ _ _ h=>h) (Or.inl ⟨by rfl,fun w' hSw=>by(try dsimp only at hSw);go_simp⟩) hS ?_;try simp only[Act.put,setIfInBounds_toArray,set_cons_zero,set_cons_succ]
  refine wpAnyH_take (i:=1) (v:=.string a.sc) rfl (by kernel_rfl) (by kernel_rfl) (by kernel_rfl) (fun _ _ _ h=>h) (Or.inl ⟨by rfl,fun w' hSw=>by(try dsimp only at hSw);go_simp⟩) hS ?_;try simp only[Act.put,setIfInBounds_toArray,set_cons_zero,set_cons_succ]
  refine wpAnyH_take (i:=2) (v:=.string (a.sc++⟨#[58]⟩)) rfl (by kernel_rfl) (by kernel_rfl) (by kernel_rfl) (fun _ _ _ h=>h) (Or.inl ⟨by rfl,fun w' hSw=>by(try dsimp only at hSw);go_simp⟩) hS ?_;try simp only[Act.put,setIfInBounds_toArray,set_cons_zero,set_cons_succ]
  refine wpAnyH_take (i:=3) (v:=.agg cs.toArray) rfl (by kernel_rfl) (by kernel_rfl) (by kernel_rfl) (fun _ _ _ h=>h) (yieldsIf_load_mid (by rfl) _ _ rfl _ _ rfl _ _ (fun w' h=>h.1) underlying29 rfl HIU.out) hS ?_;try simp only[Act.put,setIfInBounds_toArray,set_cons_zero,set_cons_succ]
  refine wpAnyH_take (i:=6) (v:=.string d) rfl (by kernel_rfl) (by kernel_rfl) (by kernel_rfl) (fun _ _ _ h=>h) (Or.inl ⟨by rfl,fun w' hSw=>by(try dsimp only at hSw);go_simp⟩) hS ?_;try simp only[Act.put,setIfInBounds_toArray,set_cons_zero,set_cons_succ]
  refine wpAnyH_take (i:=8) (v:=.agg cs.toArray) rfl (by kernel_rfl) (by kernel_rfl) (by kernel_rfl) (fun _ _ _ h=>h) (yieldsIf_load_mid (by rfl) _ _ rfl _ _ rfl _ _ (fun w' h=>h.1) underlying29 rfl HIU.out) hS ?_;try simp only[Act.put,setIfInBounds_toArray,set_cons_zero,set_cons_succ]
  refine wpAnyH_take (i:=11) (v:=.pointer (some ⟨w.heap.size,20,none⟩)) rfl (by kernel_rfl) (by kernel_rfl) (by kernel_rfl) (fun _ _ _ h=>h) (Or.inl ⟨by rfl,fun w' hSw=>by(try dsimp only at hSw);go_simp⟩) hS ?_;try simp only[Act.put,setIfInBounds_toArray,set_cons_zero,set_cons_succ]
  refine wpAnyH_take (i:=12) (v:=.bool a.hq) rfl (by kernel_rfl) (by kernel_rfl) (by kernel_rfl) (fun _ _ _ h=>h) (Or.inl ⟨by rfl,fun w' hSw=>by(try dsimp only at hSw);go_simp⟩) hS ?_;try simp only[Act.put,setIfInBounds_toArray,set_cons_zero,set_cons_succ]
  refine wpAnyH_take (i:=13) (v:=.pointer (some ⟨w.heap.size,21,none⟩)) rfl (by kernel_rfl) (by kernel_rfl) (by kernel_rfl) (fun _ _ _ h=>h) (Or.inl ⟨by rfl,fun w' hSw=>by(try dsimp only at hSw);go_simp⟩) hS ?_;try simp only[Act.put,setIfInBounds_toArray,set_cons_zero,set_cons_succ]
  refine wpAnyH_take (i:=14) (v:=.string a.qu) rfl (by kernel_rfl) (by kernel_rfl) (by kernel_rfl) (fun _ _ _ h=>h) (Or.inl ⟨by rfl,fun w' hSw=>by(try dsimp only at hSw);go_simp⟩) hS ?_;try simp only[Act.put,setIfInBounds_toArray,set_cons_zero,set_cons_succ]
  refine wpAnyH_take (i:=17) (v:=.pointer (some ⟨w.heap.size,22,none⟩)) rfl (by kernel_rfl) (by kernel_rfl) (by kernel_rfl) (fun _ _ _ h=>h) (Or.inl ⟨by rfl,fun w' hSw=>by(try dsimp only at hSw);go_simp⟩) hS ?_;try simp only[Act.put,setIfInBounds_toArray,set_cons_zero,set_cons_succ]
  refine wpAnyH_take (i:=18) (v:=.bool a.hf) rfl (by kernel_rfl) (by kernel_rfl) (by kernel_rfl) (fun _ _ _ h=>h) (Or.inl ⟨by rfl,fun w' hSw=>by(try dsimp only at hSw);go_simp⟩) hS ?_;try simp only[Act.put,setIfInBounds_toArray,set_cons_zero,set_cons_succ]
  refine wpAnyH_take (i:=19) (v:=.pointer (some ⟨w.heap.size,23,none⟩)) rfl (by kernel_rfl) (by kernel_rfl) (by kernel_rfl) (fun _ _ _ h=>h) (Or.inl ⟨by rfl,fun w' hSw=>by(try dsimp only at hSw);go_simp⟩) hS ?_;try simp only[Act.put,setIfInBounds_toArray,set_cons_zero,set_cons_succ]
  refine wpAnyH_take (i:=20) (v:=.string a.fg) rfl (by kernel_rfl) (by kernel_rfl) (by kernel_rfl) (fun _ _ _ h=>h) (Or.inl ⟨by rfl,fun w' hSw=>by(try dsimp only at hSw);go_simp⟩) hS ?_;try simp only[Act.put,setIfInBounds_toArray,set_cons_zero,set_cons_succ]
  refine wpAnyH_ready (rs:=[4]) (by kernel_rfl) (by simp) (AllReadyH.cons rfl (fun K hK=>?_) AllReadyH.nil);go_simp;go_at_call 32;refine(HAU.out _ hBB).mono ?_;rintro e w' ⟨⟨au,rfl,hau⟩,hb⟩;replace hBB:=bK hBB hb;obtain⟨hc5,hc7⟩:=HC1.out au d hau HDZ.out;refine hK.out _ _ (HSK.out _ hBB) (fun hS=>?_);try simp only[Act.put,setIfInBounds_toArray,set_cons_zero,set_cons_succ]
  refine wpAnyH_take (i:=5) (v:=.string (a.sc++⟨#[58]⟩++au)) rfl (by kernel_rfl) (by kernel_rfl) (by kernel_rfl) (fun _ _ _ h=>h) (Or.inl ⟨by rfl,fun w' hSw=>by(try dsimp only at hSw);go_simp⟩) hS ?_;try simp only[Act.put,setIfInBounds_toArray,set_cons_zero,set_cons_succ]
  refine wpAnyH_take (i:=7) (v:=.string (a.sc++⟨#[58]⟩++au++d)) rfl (by kernel_rfl) (by kernel_rfl) (by kernel_rfl) (fun _ _ _ h=>h) (Or.inl ⟨by rfl,fun w' hSw=>by(try dsimp only at hSw);go_simp⟩) hS ?_;try simp only[Act.put,setIfInBounds_toArray,set_cons_zero,set_cons_succ]
  refine wpAnyH_ready (rs:=[9]) (by kernel_rfl) (by simp) (AllReadyH.cons rfl (fun K hK=>?_) AllReadyH.nil);go_simp;go_at_call 19;refine(HPT.out _ hBB).mono ?_;rintro e w' ⟨⟨pt,rfl,hpt⟩,hb⟩;replace hBB:=bK hBB hb;obtain⟨hc10,hc16,hc23⟩:=HC2.out au d pt hau HDZ.out hpt;refine hK.out _ _ (HSK.out _ hBB) (fun hS=>?_);try simp only[Act.put,setIfInBounds_toArray,set_cons_zero,set_cons_succ]
  refine wpAnyH_take (i:=10) (v:=.string (a.sc++⟨#[58]⟩++au++d++pt)) rfl (by kernel_rfl) (by kernel_rfl) (by kernel_rfl) (fun _ _ _ h=>h) (Or.inl ⟨by rfl,fun w' hSw=>by(try dsimp only at hSw);go_simp⟩) hS ?_;try simp only[Act.put,setIfInBounds_toArray,set_cons_zero,set_cons_succ]
  refine wpAnyH_ready (rs:=[15]) (by kernel_rfl) (by simp) (AllReadyH.cons rfl (fun K hK=>?_) AllReadyH.nil);go_simp;go_at_call 33;refine(HIF.out a.hq ⟨#[63]⟩ a.qu hz1 _).mono ?_;rintro e w' ⟨rfl,hw⟩;obtain rfl:=hw.symm;refine hK.out _ _ (HSK.out _ hBB) (fun hS=>?_);try simp only[Act.put,setIfInBounds_toArray,set_cons_zero,set_cons_succ]
  refine wpAnyH_take (i:=16) (v:=.string (a.sc++⟨#[58]⟩++au++d++pt++(ifh a.hq ⟨#[63]⟩ a.qu))) rfl (by kernel_rfl) (by kernel_rfl) (by kernel_rfl) (fun _ _ _ h=>h) (Or.inl ⟨by rfl,fun w' hSw=>by(try dsimp only at hSw);go_simp⟩) hS ?_;try simp only[Act.put,setIfInBounds_toArray,set_cons_zero,set_cons_succ]
  refine wpAnyH_ready (rs:=[21]) (by kernel_rfl) (by simp) (AllReadyH.cons rfl (fun K hK=>?_) AllReadyH.nil);go_simp;go_at_call 33;refine(HIF.out a.hf ⟨#[35]⟩ a.fg hz2 _).mono ?_;rintro e w' ⟨rfl,hw⟩;obtain rfl:=hw.symm;refine hK.out _ _ (HSK.out _ hBB) (fun hS=>?_);try simp only[Act.put,setIfInBounds_toArray,set_cons_zero,set_cons_succ]
  refine wpAnyH_take (i:=22) (v:=.string (a.sc++⟨#[58]⟩++au++d++pt++(ifh a.hq ⟨#[63]⟩ a.qu)++(ifh a.hf ⟨#[35]⟩ a.fg))) rfl (by kernel_rfl) (by kernel_rfl) (by kernel_rfl) (fun _ _ _ h=>h) (Or.inl ⟨by rfl,fun w' hSw=>by(try dsimp only at hSw);go_simp⟩) hS ?_;try simp only[Act.put,setIfInBounds_toArray,set_cons_zero,set_cons_succ]
  refine wpAnyH_take (i:=23) (v:=.string (a.sc++⟨#[58]⟩++au++d++pt++(ifh a.hq ⟨#[63]⟩ a.qu)++(ifh a.hf ⟨#[35]⟩ a.fg))) rfl (by kernel_rfl) (by kernel_rfl) (by kernel_rfl) (fun _ _ _ h=>h) (Or.inl ⟨by rfl,fun w' hSw=>by(try dsimp only at hSw);go_simp⟩) hS ?_;try simp only[Act.put,setIfInBounds_toArray,set_cons_zero,set_cons_succ]
  refine wpAnyH_done (by kernel_rfl) ?_ _;go_wp2;go_ret;exact HFIN.out _ _ _ _ hau HD.out hpt (HB0.out.trans (hBB.mono HB0.out.size))
open F (bn)
def Sz(u:Ur):Prop:=u.sch.length<=400000000/\u.usr.length<=400000000/\u.pas.length<=400000000/\u.hst.2.1.length<=400000000/\(H.txt (u.hst.1,u.hst.2.1,u.hst.2.2.1,u.hst.2.2.2,0)).length<=400000000/\(u.pth.flatMap (fun p=>47::p)).length<=400000000/\u.bod.length<=400000000/\u.qry.length<=400000000/\u.frg.length<=400000000
def Lim(u:Ur):Prop:=u.hst.1<256/\u.hst.2.2.1<4294967296/\u.hst.2.2.2.length=8/\X.Small u.hst.2.2.2/\u.prt<65536/\Sz u/\u.pth.length<=1000000
def kV(A:List Int->List Int->Int->Prop)(l:List Int)(w:World)(e:Ending)(W':World):Prop :=
 (∃(a:Us) (u:Ur) (er:Int),UP A l (u,er)/\Lim u/\At W' a u/\e=.returned (.tuple #[.agg (Us.cs a),.int .i64 er]))/\Below w.heap.size w W'
structure Ctr(A:List Int->List Int->Int->Prop)(G:World->Prop):Prop where
 asc:H.Asc A
 keep:∀(w w':World),G w->Below w.heap.size w w'->G w'
 cp:∀(s:ByteArray) (w:World),s.size<=100000->G w->Calls prog 11 #[.string s] w fun e W'=>kV A (bn s) w e W'
 ct:∀(a:Us) (u:Ur) (w:World),At w a u->Lim u->G w->Calls prog 16 #[.agg (Us.cs a)] w fun e W'=>(∃ t,e=.returned (.string t)/\bn t=txt u)/\Below w.heap.size w W'
 ch:∀(a:Us) (u:Ur) (w:World),At w a u->Lim u->G w->Calls prog 19 #[.agg (Us.cs a)] w fun e W'=>(∃ t,e=.returned (.string t)/\bn t=ptx u)/\Below w.heap.size w W'
 cq:∀(s:ByteArray) (w:World),s.size<=100000->G w->Calls prog 13 #[.string s] w fun e W'=>e=.returned (.tuple #[.int .u16 (((own (bn s)).getD 0:Nat):Int),.bool (own (bn s)).isSome])/\Below w.heap.size w W'
open F (bn aa)
theorem fP:Lim zu:=⟨by decide,by decide,rfl,by unfold X.Small;decide,by decide,by unfold Sz;decide +kernel,by decide⟩
def B2(l:List Int):Prop:=U.Bytes l/\l.length<=20000
theorem B2.sub{l x:List Int}(h:B2 l)(hs:x.Sublist l):B2 x:=⟨fun b hb=>h.1 b (hs.subset hb),le_trans hs.length_le h.2⟩
theorem en1{k:Nat}{x:List Int}(h:U.Bytes x):(E.en k (U.dec x)).length<=12 * x.length:=by have h1:=E.yd k (U.dec x);have h2:=U.dv x.length x (le_refl _) h;omega
theorem en2{k:Nat}{x:List Int}(h:B2 x):(E.en k (U.dec x)).length<=400000000:=by have h1:=en1 (k:=k) h.1;have h2:=h.2;omega
theorem Hf{u:Ur}{l:List Int}(h:Lim u)(hl:B2 l):Lim (fr u l):=by
 cases l with
 | nil=>exact h
 | cons c r =>
  obtain⟨a,b,c',d,e,⟨s1,s2,s3,s4,s5,s6,s7,s8,s9⟩,g⟩:=h;exact⟨a,b,c',d,e,⟨s1,s2,s3,s4,s5,s6,s7,s8,en2 (hl.sub (sublist_cons_self _ _))⟩,g⟩
theorem OS{sp:Bool}{u:Ur}{l:List Int}(h:Lim u)(hl:B2 l):Lim (qf sp u l):=by
 cases l with
 | nil=>exact h
 | cons c r =>
  have hr:B2 r:=hl.sub (sublist_cons_self _ _);rw[qf];split
  ·refine Hf ?_ (hr.sub (dropWhile_sublist _));obtain⟨a,b,c',d,e,⟨s1,s2,s3,s4,s5,s6,s7,s8,s9⟩,g⟩:=h;exact⟨a,b,c',d,e,⟨s1,s2,s3,s4,s5,s6,s7,en2 (hr.sub (takeWhile_sublist _)),s9⟩,g⟩
  ·exact Hf h hl
def mm(xs:List (List Int)):Nat:=(xs.flatMap (fun p=>(47:Int)::p)).length
theorem sf(a b:List (List Int)):mm (a++b)=mm a+mm b:=by unfold mm;rw[List.flatMap_append,length_append]
theorem iZ(x:List Int)(t:List (List Int)):mm (x::t)=x.length+1+mm t:=by show((47::x)++t.flatMap _).length=_;rw[length_append];rfl
theorem Gc:∀ xs:List (List Int),xs.length<=mm xs
 | []=>Nat.zero_le _
 | x::t=>by have:=Gc t;rw[iZ];show t.length+1<=_;omega
theorem Lv(xs:List (List Int)):mm xs.dropLast<=mm xs:=by
 by_cases h:xs=[]
 ·rw[h];exact le_refl _
 ·have e:=List.dropLast_concat_getLast h;have:=sf xs.dropLast [xs.getLast h];rw[e]at this;omega
theorem Ed(f:Int->Bool):∀ l:List Int,mm (spl f l)=l.length+1
 | []=>rfl
 | c::t=>by
  have ih:=Ed f t;rw[spl];split
  ·rw[iZ,ih];simp;omega
  ·cases hs:spl f t with
   | nil=>exact absurd hs (bF f t)
   | cons a r =>
    rw[hs,iZ]at ih;rw[iZ];show(a.length+1)+1+mm r=(t.length+1)+1;omega
theorem PI(x:List Int):mm [x]=x.length+1:=by rw[iZ];rfl
theorem sa:∀(xs acc:List (List Int)),(∀ x∈xs,U.Bytes x)->mm (nrm acc xs)<=mm acc+12 * mm xs
 | [],acc,_=>by rw[nrm];exact Nat.le_add_right _ _
 | x::t,acc,h=>by
  have ht:∀ y∈t,U.Bytes y:=fun y hy=>h y (List.mem_cons_of_mem _ hy);have h1:mm [([]:List Int)]=1:=rfl;have h2:=Lv acc;have h3:=iZ x t;rw[nrm];split
  ·have ih:=sa t (if t=[] then acc++[[]] else acc) ht;split at ih
   ·rw[sf,h1]at ih;rename_i ht0;rw[if_pos ht0];omega
   ·rename_i ht0;rw[if_neg ht0];omega
  split
  ·have ih:=sa t (if t=[] then acc.dropLast++[[]] else acc.dropLast) ht;split at ih
   ·rw[sf,h1]at ih;rename_i ht0;rw[if_pos ht0];omega
   ·rename_i ht0;rw[if_neg ht0];omega
  ·have ih:=sa t (acc++[E.en 4 (U.dec x)]) ht;rw[sf,PI]at ih;have:=en1 (k:=4) (h x List.mem_cons_self);omega
theorem OA(f:Int->Bool):∀ l:List Int,(un f l).Sublist l
 | []=>List.Sublist.refl _
 | c::t=>by
  rw[un];split
  ·exact sublist_cons_self _ _
  ·exact List.Sublist.refl _
theorem PM{sp:Bool}{p:List Int}(h:B2 p):mm (lst sp p)<=300000:=by have hu:=h.sub (OA (sl sp) p);have:=sa (spl (sl sp) (un (sl sp) p)) [] (fun x hx c hc=>hu.1 c (fX hx c hc).2);rw[Ed]at this;have h0:mm ([]:List (List Int))=0:=rfl;have h1:=hu.2;unfold lst;omega
theorem Dr{sp has:Bool}{u:Ur}{l:List Int}(h:Lim u)(hl:B2 l):Lim (tl sp has u l):=by
 unfold tl;refine OS ?_ (hl.sub (dropWhile_sublist _));have ht:B2 (l.takeWhile npq):=hl.sub (takeWhile_sublist _);obtain⟨a,b,c',d,e,⟨s1,s2,s3,s4,s5,s6,s7,s8,s9⟩,g⟩:=h;split
 ·have h1:=PM (sp:=sp) ht;have h2:=Gc (lst sp (l.takeWhile npq));exact⟨a,b,c',d,e,⟨s1,s2,s3,s4,s5,le_trans h1 (by decide),s7,s8,s9⟩,by show(lst sp (l.takeWhile npq)).length<=_;omega⟩
 split
 ·exact⟨a,b,c',d,e,⟨s1,s2,s3,s4,s5,s6,s7,s8,s9⟩,g⟩
 ·exact⟨a,b,c',d,e,⟨s1,s2,s3,s4,s5,s6,en2 ht,s8,s9⟩,g⟩
theorem vq:∀(l:List Int) (b:Bool),(hcut b l).1.Sublist l
 | [],_=>List.Sublist.refl _
 | c::t,b=>by
  rw[hcut];split
  ·exact List.nil_sublist _
  ·exact(vq t _).cons_cons c
theorem No(a:List Int):(beh a).Sublist a:=by have h:=(takeWhile_sublist (l:=a.reverse) oe).reverse;rw[List.reverse_reverse]at h;exact h
theorem NH(a:List Int):(ahd a).Sublist a:=by have h:=(((List.drop_sublist 1 _).trans (dropWhile_sublist (l:=a.reverse) oe))).reverse;rw[List.reverse_reverse]at h;exact h
theorem Pk{o:Option Nat}{p:Option (List Int)}{q:Bool×Nat}(h:por o p=some q):q.2<65536:=by
 unfold por at h;split at h
 ·cases h;decide
 split at h
 ·cases h;decide
 split at h
 ·rename_i h1;split at h
  ·cases h;decide
  ·cases h;show F.vl 10 _<65536;have:=h1.2;omega
 ·cases h
theorem Mq{h:H.Hst}(hf:H.CJ h)(hn:h.2.1.length<=400000000):(H.txt (h.1,h.2.1,h.2.2.1,h.2.2.2.1,0)).length<=400000000:=by
 have h4:=H.Df hf.f;have h6:=X.rm hf.a;unfold H.txt;split
 ·exact hn
 split
 ·show(F.txt h.2.2.1).length<=_;omega
 split
 ·show(91::(X.txt h.2.2.2.1++[93])).length<=_;simp;omega
 ·simp
theorem SD{m:List Int}(hm:m.length<=20000):Lim { zu with sch:=m }:=by obtain⟨a,b,c',d,e,⟨s1,s2,s3,s4,s5,s6,s7,s8,s9⟩,g⟩:=fP;exact⟨a,b,c',d,e,⟨by show m.length<=_;omega,s2,s3,s4,s5,s6,s7,s8,s9⟩,g⟩
theorem Nw{A:List Int->List Int->Int->Prop}(hA:H.Asc A){m a:List Int}{h:H.Hst}(hm:m.length<=20000)(ha:B2 a)(hq:∀ x,ask (own m).isSome a=some x->H.HP A x (own m).isSome h):Lim (ath m a h).1:=by
 unfold ath;split
 ·exact fP
 split
 ·exact fP
 rename_i hn _;cases hk:ask (own m).isSome a with
 | none=>exact absurd hk hn
 | some x =>
  have hp:=hq x hk
  have hx:x=(hcut false (beh a)).1:=by
   unfold ask at hk;split at hk
   ·cases hk
   ·split at hk
    ·cases hk
    ·exact(Option.some.inj hk).symm
  have hxb:B2 x:=by rw[hx];exact ha.sub ((vq _ _).trans (No a))
  have hnl:=H.HP.nlen hA hxb.1 hp;have hf:=H.HP.fine hp;split
  ·exact fP
  ·rename_i q hq';have hah:=ha.sub (NH a);obtain⟨a0,b,c',d,e,⟨s1,s2,s3,s4,s5,s6,s7,s8,s9⟩,g⟩:=fP;refine⟨?_,hf.f,hf.a,hf.s,Pk hq',⟨by show m.length<=_;omega,?_,?_,hnl,Mq hf hnl,s6,s7,s8,s9⟩,g⟩
   ·have:=hf.k;show h.1<256;omega
   ·show(if 64∈a then _ else _:List Int).length<=_;split
    ·exact en2 (hah.sub (takeWhile_sublist _))
    ·simp
   ·show(if 64∈a then _ else _:List Int).length<=_;split
    ·exact en2 (hah.sub ((List.drop_sublist 1 _).trans (dropWhile_sublist _)))
    ·simp
theorem Kh{l m r:List Int}(h:sch l=some (m,r)):m.length<=l.length/\r.Sublist l:=by
 cases l with
 | nil=>cases h
 | cons c t =>
  rw[sch]at h;split at h
  ·split at h
   ·rename_i d q hd;split at h
    ·cases h;refine⟨?_,?_⟩
     ·have:=(takeWhile_sublist (l:=t) sgs).length_le;simp;omega
     ·refine List.Sublist.trans ?_ (sublist_cons_self _ _);refine List.Sublist.trans ?_ (dropWhile_sublist (l:=t) sgs);rw[hd];exact sublist_cons_self _ _
    ·cases h
   ·cases h
  ·cases h
theorem Nt{m r b:List Int}(h:aus m r=some b):b.Sublist r:=by
 unfold aus at h;split at h
 ·cases h;exact dropWhile_sublist _
 ·split at h
  ·cases h;exact List.drop_sublist _ _
  ·cases h
theorem QD{s:List Int}(hs:U.Bytes s)(hl:s.length<=4096):B2 (cln s):=by
 refine⟨qX hs,?_⟩;have h1:=U.cX ((strip (U.dec s)).filter (fun c=>!tab c));have h2:=(List.filter_sublist (l:=strip (U.dec s)) (p:=fun c=>!tab c)).length_le;have h3:(strip (U.dec s)).length<=(U.dec s).length:=by unfold strip;rw[List.length_reverse];refine le_trans (dropWhile_sublist _).length_le ?_;rw[List.length_reverse];exact(dropWhile_sublist _).length_le
 have h4:=U.dv s.length s (le_refl _) hs;unfold cln;omega
theorem UP.lim{A:List Int->List Int->Int->Prop}(hA:H.Asc A){s:List Int}{u:Ur}{er:Int}(hs:U.Bytes s)(x:UP A s (u,er)):Lim u:=by
 unfold UP at x;split at x
 ·have:u=zu:=congrArg Prod.fst x;rw[this];exact fP
 rename_i hlen;obtain⟨h,hq,hr⟩:=x;have hB:=QD hs (by omega);have hu:u=(rdc (cln s) h).1:=congrArg Prod.fst hr;rw[hu];clear hu hr;generalize cln s=l at *;unfold rdc;unfold hqy at hq;cases hsc:sch l with
 | none=>exact fP
 | some mr =>
  obtain⟨m,r⟩:=mr;obtain⟨hm,hrs⟩:=Kh hsc;have hm2:m.length<=20000:=le_trans hm hB.2;have hrb:=hB.sub hrs;rw[hsc]at hq;simp only at hq ⊢;by_cases hnf:m=cA
  ·rw[if_pos hnf];exact fP
  rw[if_neg hnf]at hq ⊢;cases hau:aus m r with
  | none=>exact Dr (SD hm2) hrb
  | some b =>
   have hbb:=hrb.sub (Nt hau);rw[hau]at hq;simp only at hq ⊢;split
   ·exact fP
   ·refine Dr (Nw hA hm2 (hbb.sub (takeWhile_sublist _)) (fun x hx=>hq x _ ?_)) (hbb.sub (dropWhile_sublist _));rw[hx];rfl
open F (bn aa)
theorem Od{w:World}{a:Us}{u:Ur}(h:At w a u):∃ ps,u=utl a ps/\Strs w a.pv ps:=by obtain⟨ps,e1,s1⟩:=h.pv;refine⟨ps,?_,s1⟩;obtain⟨q1,q2,q3,q4,q5,q6,q7,q8,q9,q10,q11,q12,q13,q14⟩:=u;have z1:=h.sc;have z2:=h.us;have z3:=h.pa;have z4:=h.hh;have z5:=h.ho;have z6:=h.hp;have z7:=h.pr;have z8:=h.op;have z10:=h.bo;have z11:=h.hq;have z12:=h.qu;have z13:=h.hf;have z14:=h.fg;simp only at z1 z2 z3 z4 z5 z6 z7 z8 z10 z11 z12 z13 z14 e1;subst z1 z2 z3 z4 z5 z6 z7 z8 z10 z11 z12 z13 z14 e1;rfl
theorem psz{t:ByteArray}{n:Nat}(h:(bn t).length<=n):t.size<=n:=by rw[<-aa];exact h
theorem zn{a:Us}{ps:List ByteArray}{w:World}(s:Strs w a.pv ps)(hl:Lim (utl a ps)):Calls prog 19 #[.agg (Us.cs a)] w fun e W'=>NK a ps w e W':=by obtain⟨_,_,_,_,_,⟨s1,s2,s3,s4,s5,s6,s7,s8,s9⟩,g⟩:=hl;have g':(ps.map bn).length<=1000000:=g;rw[List.length_map]at g';exact Ky a ps w s (le_trans (psz s7) (by decide)) g' (le_trans s6 (by decide))
theorem IM{a:Us}{ps:List ByteArray}(hl:Lim (utl a ps)):(jU a).length<=2100000000:=by
 obtain⟨_,_,_,_,hp,⟨s1,s2,s3,s4,s5,s6,s7,s8,s9⟩,g⟩:=hl;have s2':(bn a.us).length<=400000000:=s2;have s3':(bn a.pa).length<=400000000:=s3;have s5':(H.txt (a.k,bn a.nm,a.f,[a.x0,a.x1,a.x2,a.x3,a.x4,a.x5,a.x6,a.x7],0)).length<=400000000:=s5;have hw:=jX a.pr hp
 have h1:(who a).length<=800000010:=by
  unfold who;split
  ·simp
  ·split
   ·simp;omega
   ·simp;omega
 have h2:(if a.hp=true then 58::F.wr 10 a.pr else []).length<=1001:=by
  split
  ·show(F.wr 10 a.pr).length+1<=_;omega
  ·simp
 unfold jU;split
 ·rw[length_append,length_append,length_append];have:([47,47]:List Int).length=2:=rfl;omega
 ·simp
theorem Ns{a:Us}{ps:List ByteArray}{w:World}(hl:Lim (utl a ps))(hG:GU w):Calls prog 32 #[.agg (Us.cs a)] w fun e W'=>Jm a w e W':=by obtain⟨hk,hf,ha,hx,hp,⟨s1,s2,s3,s4,s5,s6,s7,s8,s9⟩,g⟩:=hl;exact pQ a w hk hf hx hp (psz s4) (le_trans (psz s2) (by decide)) (le_trans (psz s3) (by decide)) (le_trans s5 (by decide)) hG
theorem Jz(a:Us)(ps:List ByteArray):bn a.sc++(58::(jU a++(dtx a ps++(pax a ps++((if a.hq=true then 63::bn a.qu else [])++(if a.hf=true then 35::bn a.fg else []))))))=txt (utl a ps):=by
 show _=bn a.sc++(58::(htx (utl a ps)++(pax a ps++qtx (utl a ps))))
 have hh:htx (utl a ps)=jU a++dtx a ps:=by
  have e1:htx (utl a ps)=(if a.hh=true then [47,47]++(who a++(H.txt (a.k,bn a.nm,a.f,[a.x0,a.x1,a.x2,a.x3,a.x4,a.x5,a.x6,a.x7],0)++(if a.hp=true then 58::F.wr 10 a.pr else []))) else if a.op=false/\1<(ps.map bn).length/\(ps.map bn).head? = some [] then [47,46] else []):=rfl;rw[e1,List.length_map];rcases(show a.hh=true\/a.hh=false by cases a.hh <;> simp) with ho | ho
  ·have e2:dtx a ps=[]:=by unfold dtx;exact if_neg (fun h=>by rw[ho]at h;cases h.1)
   rw[e2,List.append_nil];unfold jU;rw[if_pos ho,if_pos ho]
  ·have hne:¬ a.hh=true:=by rw[ho];simp
   have e2:jU a=[]:=by unfold jU;exact if_neg hne
   rw[e2,if_neg hne,nil_append];unfold dtx;by_cases hc:a.op=false/\1<ps.length/\(ps.map bn).head? = some []
   ·rw[if_pos hc,if_pos ⟨ho,hc⟩]
   ·rw[if_neg hc,if_neg (fun h=>hc h.2)]
 rw[hh,append_assoc];rfl
theorem ctr:Ctr H.IA GU where
 asc:=H.asc
 keep:=fun w w' h hb=>h.below hb
 cp:=fun s w hs hG=>(xl s hs w hG).mono (by
   rintro e W' ⟨⟨a,u,er,x,ha,rfl⟩,hB⟩
   exact⟨⟨a,u,er,x,x.lim H.asc (H.ay s),ha,rfl⟩,hB⟩)
 ct:=fun a u w h hl hG=>by
  obtain⟨ps,rfl,s⟩:=Od h;have hl':=hl;obtain⟨hk,hf,ha,hx,hp,⟨s1,s2,s3,s4,s5,s6,s7,s8,s9⟩,g⟩:=hl';refine(AA a ps w s (le_trans (psz s1) (by decide)) (le_trans (psz s8) (by decide)) (le_trans (psz s9) (by decide)) (IM hl) ?_ (fun X h=>Ns hl (hG.below h)) (fun X h=>zn (s.below h) hl)).mono ?_
  ·unfold pax;split
   ·exact le_trans s7 (by decide)
   ·exact le_trans s6 (by decide)
  ·rintro e W' ⟨⟨t,rfl,ht⟩,hB⟩;exact⟨⟨t,rfl,ht.trans (Jz a ps)⟩,hB⟩
 ch:=fun a u w h hl hG=>by obtain⟨ps,rfl,s⟩:=Od h;refine(zn s hl).mono ?_;rintro e W' ⟨⟨t,rfl,ht⟩,hB⟩;exact⟨⟨t,rfl,ht⟩,hB⟩
 cq:=fun s w hs hG=>(nP s w).mono (by
   rintro e W' ⟨rfl,rfl⟩
   exact⟨rfl,Below.refl _ _⟩)
end Y
end Go.Proofs.YtlmflmdmolcfhaaGreatDoor
namespace Go.Proofs
open Go.Shelf Go.RowKit
shelf_lay LaysM.n147 Nm 147 at Tryz as Tryz.laysSplM
end Go.Proofs
namespace Go.Proofs.YtlmflmdmolcfhaaGreatDoor
open Go.Proofs.Tryz Go.RowKit
open Go.ChangeShapes Go.WideShapes Go.ChangeAt Go.RowKit
set_option maxRecDepth 100000
theorem own:ownKnob prog.godebug=none:=by kernel_rfl
theorem laidOut:laidOutB prog=true:=by kernel_rfl
abbrev laidL:List (String×DataW Unit):=Rows.urlRestsRow.laid
abbrev nmT:String:=((Rows.urlRestsRow.laid.map (·.1)).drop 1).headD default
abbrev nmP:String:=((Rows.urlRestsRow.laid.map (·.1)).drop 2).headD default
theorem mA{P:Program}{w:World}{n:String}{d:DataW Unit}:∀ {l:List (String×DataW Unit)} {ps:List MemPlace},DataW.LaidVars P w l ps->(n,d)∈l->∃ g t cs fuel p,P.globalNamed n=some g/\(P.globals[g]?).map (·.type)=some t/\w.var? P n=some cs/\DataW.trod (fun _=>()) P w 0 (fun _=>true) false fuel t cs.toList=some (d,p)
 | [],_,_,h=>by cases h
 | (m,e)::r,ps,hL,h=>by
  obtain⟨g,t,cs,fuel,p,q,h1,h2,h3,h4,h5,_⟩:=hL;rcases List.mem_cons.1 h with h | h
  ·cases h;exact⟨g,t,cs,fuel,p,h1,h2,h3,h4⟩
  ·exact mA h5 h
theorem Py{W:World}(h:laidMetH prog laidL W):F.Pow W:=by
 rw[MakeChecks.laidMetH_plain _ _ _ (by kernel_rfl)]at h;obtain⟨ps,hL,_,_⟩:=h;obtain⟨g2,t2,cs2,f2,p2,hg2,ht2,hv2,hd2⟩:=mA (n:=nmP) (d:=Rows.laid_internal_strconv_uint64pow10) hL (mem_of_getElem? (i:=2) rfl);have gP:prog.globalNamed nmP=some 2:=by kernel_rfl
 obtain rfl:=Option.some.inj (gP.symm.trans hg2);obtain rfl:=Option.some.inj ((show(prog.globals[2]?).map (·.type)=some 200 by kernel_rfl).symm.trans ht2);have hT:Lib.TabIs prog W nmP .u64 Lib.pow10Tab:=by unfold Lib.TabIs;refine hv2.trans ?_;rw[<-Lib.cells_of_tab (zs:=Lib.pow10Tab) underlying200 underlying122 (by kernel_rfl) (by kernel_rfl) hd2]
 unfold Lib.TabIs World.var? at hT;rw[gP]at hT;exact hT
theorem Pw{W:World}(h:laidMetH prog laidL W):X.Tab W:=by
 rw[MakeChecks.laidMetH_plain _ _ _ (by kernel_rfl)]at h;obtain⟨ps,hL,_,_⟩:=h;obtain⟨g,t,cs,fuel,p,h1,h2,h3,h4⟩:=mA (n:=nmT) (d:=Rows.laid_math_bits_deBruijn64tab) hL (mem_of_getElem? (i:=1) rfl);obtain rfl:=Option.some.inj ((show prog.globalNamed nmT=some 8 by kernel_rfl).symm.trans h1);obtain rfl:=Option.some.inj ((show(prog.globals[8]?).map (·.type)=some 246 by kernel_rfl).symm.trans h2);obtain⟨xs,m,_,ex,_,hl,hel⟩:=DataW.trod_array underlying246 h4;have c5:prog.cellsOf 5=1:=by kernel_rfl
 have hE:=hel 15 (by decide);rw[c5,Nat.mul_one,List.getElem?_eq_getElem (by omega)]at hE;obtain⟨z,e1,e2,_⟩:=DataW.trod_int underlying5 hE;have e3:xs.map (·.1)=_:=(DataW.agg.inj (Prod.mk.inj ex).1).symm;have e4:(xs.map (·.1))[15]? = some (.lit (.int .u8 4)):=by rw[e3];rfl
 rw[List.getElem?_map,List.getElem?_eq_getElem (by omega:15<xs.length)]at e4;have hz:z=4:=by have e5:xs[15].1=DataW.lit (.int .u8 4):=Option.some.inj e4;rw[congrArg Prod.fst e2]at e5;simpa using e5
 unfold X.Tab;rw[World.var?_cell h1 h3 15];have:((cs.toList.drop 15).take 1)[0]? = some (.int .u8 z):=by rw[e1];rfl
 rw[hz]at this;simpa using this
abbrev nmR:String:=((Rows.urlRestsRow.laid.map (·.1)).drop 4).headD default
abbrev nmS:String:=((Rows.urlRestsRow.laid.map (·.1)).drop 5).headD default
theorem Pz{W:World}(h:laidMetH prog laidL W):X.Er W:=by
 rw[MakeChecks.laidMetH_plain _ _ _ (by kernel_rfl)]at h;obtain⟨ps,hL,_,_⟩:=h
 have one:∀(n:String) (gg:Nat) (nm:String) (d:DataW Unit),(n,DataW.iface nm d)∈laidL->prog.globalNamed n=some gg->(prog.globals[gg]?).map (·.type)=some 74->∃ ev,W.cell? ⟨gg,0,none⟩=some ev/\X.Rc ev:=by
  intro n gg nm d hm hn ht;obtain⟨g,t,cs,fuel,p,h1,h2,h3,h4⟩:=mA hL hm;obtain rfl:=Option.some.inj (hn.symm.trans h1);obtain rfl:=Option.some.inj (ht.symm.trans h2);obtain⟨_,u,v,hc,_⟩:=iface_of_trod underlying74 h4;refine⟨.iface u v,?_,.inr ⟨u,v,rfl⟩⟩;rw[World.var?_cell h1 h3 0];have:cs.toList[0]? = some (.iface u v):=by rw[hc];rfl
  simpa using this
 exact⟨one nmS 5 _ _ (mem_of_getElem? (i:=5) rfl) (by kernel_rfl) (by kernel_rfl),one nmR 6 _ _ (mem_of_getElem? (i:=4) rfl) (by kernel_rfl) (by kernel_rfl)⟩
theorem door_met(os:Os)(args:Array Value):laidMetH prog laidL ((World.laidAll prog os laidL).forCall (fun _ _=>0) ⟨#[],args,[]⟩).memory:=by rw[MakeChecks.laidMetH_plain _ _ _ (by kernel_rfl)];exact laidMet_laidAll _ (by kernel_rfl) (by kernel_rfl)
theorem door_shaped(os:Os)(args:Array Value):((World.laidAll prog os laidL).forCall (fun _ _=>0) ⟨#[],args,[]⟩).Shaped prog:=World.shaped_of_ZipB (by kernel_rfl) (by kernel_rfl)
theorem uq{W:World}(h:W.ShapedOpen prog):F.Max W:=by
 obtain⟨m,hm⟩:=Tryz.laysSplM.s1_3 W h;have hg:Tryz.laysSplM_ren.g 1=3:=by kernel_rfl
 rw[hg]at hm;exact⟨m,hm⟩
theorem Px{W:World}(h:laidMetH prog laidL W)(hS:W.ShapedOpen prog):X.GX W:=⟨Pw h,Pz h,uq hS⟩
theorem Pv{W:World}(h:laidMetH prog laidL W):Y.Tbs W:=by
 rw[MakeChecks.laidMetH_plain _ _ _ (by kernel_rfl)]at h;obtain⟨ps,hL,_,_⟩:=h;have r:=Lib.LaidVars_reads hL;have hx:U8Extra prog Tryz.laysTrF_ren:=⟨by kernel_rfl,by kernel_rfl,by kernel_rfl,by kernel_rfl,by kernel_rfl,by kernel_rfl,by kernel_rfl⟩;have hl:U8Types prog Tryz.laysTrF_ren:=⟨by kernel_rfl,by kernel_rfl,by kernel_rfl,by kernel_rfl⟩;have t:=utf8Tabs_of_readsT hl hx (r _ _ (mem_of_getElem? (i:=7) (by kernel_rfl))) (r _ _ (mem_of_getElem? (i:=3) (by kernel_rfl)));have e3:Tryz.laysTrF_ren.g 3=0:=by kernel_rfl
 have e4:Tryz.laysTrF_ren.g 4=1:=by kernel_rfl
 rw[e3,e4]at t;exact t
theorem of_url{W:World}(h:laidMetH prog laidL W)(hS:W.ShapedOpen prog):H.GH W/\Y.Tbs W:=⟨⟨Py h,uq hS,Px h hS⟩,Pv h⟩
theorem returns_shaped{H:Type}{enc:TypeId×Value->H}{os:Os}{f:FuncId}{fn:Func}{s:ChangeSpec}(started:os.Started)(noInit:Tryz.checked.prog.inits.idxOf? f=none)(hfn:Tryz.checked.prog.funcs[f]? = some fn){X:World->Array Value->Prop}
  (hX:∀(w w':World) (args:Array Value),w.heap=w'.heap->X w args->X w' args)
  (wit:∃(w:World) (tape:Tape) (i:Input),w.os=os/\(w.forCall tape i).Shaped Tryz.checked.prog/\i.vars=[]/\Input.okWide Tryz.checked.prog (w.forCall tape i) .any w.heap.size f i /\
    ((s.pre enc Tryz.checked.prog fn [] false (w.forCall tape i).memory i.args/\X (w.forCall tape i).memory i.args)/\sizedMet enc Tryz.checked.prog fn (OpenSpec.ofChange s) false (w.forCall tape i).memory i.args)/\Assume.holds {} Tryz.checked.prog (lone (Frame.enter Tryz.checked.prog f i.args .normal) [] (w.forCall tape i)))
  (con:∀(W:World) (base:Nat) (args:Array Value) (ds gs:List (DataW H)) (before:List MemPlace),
    (∀(j:Nat) t v,fn.params[j]? = some t->args[j]? = some v->Value.okWide Tryz.checked.prog W .any base t v) ->
    DataW.Whole enc Tryz.checked.prog fn.params.toList s.vars false W args.toList ds gs before->X W args->W.ShapedOpen Tryz.checked.prog ->
    Calls Tryz.checked.prog f args W fun e W'=>∃ v,e=.returned v/\s.post enc Tryz.checked.prog fn false true false false W args v W') :
  ReturnsInHanded {} Tryz.checked os f .any (fun w args=>(s.pre enc Tryz.checked.prog fn [] false w args/\X w args)/\sizedMet enc Tryz.checked.prog fn (OpenSpec.ofChange s) false w args) (s.post enc Tryz.checked.prog fn false true false false):=by
 refine returnsInHanded_of_calls own started noInit wit (fun w tape i _ sh _ ok pre _=>?_);obtain⟨_,_,_,fn2,e2,_,_,_,_,il⟩:=ok;cases Option.some.inj (e2.symm.trans hfn);obtain⟨⟨⟨ds,gs,bf,whole,_⟩,x⟩,_⟩:=pre;refine(con (w.forCall tape i) w.heap.size i.args ds gs bf il (DataW.Whole.of_heap (w:=(w.forCall tape i).memory) (w':=w.forCall tape i) (by rfl) whole) (hX (w.forCall tape i).memory (w.forCall tape i) _ (by rfl) x) sh).mono ?_;rintro e W' ⟨v,rfl,post⟩;exact ChangeSpec.post_blind post
end Go.Proofs.YtlmflmdmolcfhaaGreatDoor
